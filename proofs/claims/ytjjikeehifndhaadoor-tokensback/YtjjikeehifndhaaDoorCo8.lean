
/-
  Names, marks, remarks.
-/
import Derived.Test.YtjjikeehifndhaaDoorCn8
import Derived.Shelf.Abstract
namespace Go.Proofs.YtjjikeehifndhaaDoor
open Go.RowKit
attribute [local go_sem ↓] Go.wp_at_zero Go.wp_at_succ
namespace TK
theorem ba_bl {W : World} {b o c : Nat} {B : List Int} (h : BA W b o B) (hc : B.length ≤ c) : BL W (.slice (some ⟨b, o, none⟩) B.length c) B := by
  refine ⟨by simp [bvs], some ⟨b, o, none⟩, c, rfl, hc, fun _ => ⟨b, o, rfl, fun j hj => ?_⟩⟩
  rw [bvs_at (by omega)]
  exact h W (Up.refl _) j (by omega)
set_option maxRecDepth 100000 in
set_option maxHeartbeats 8000000 in
theorem name_ (b o c p : Nat) (B : List Int) (w : World) (h : BA w b o B) (hc : B.length ≤ c) (hp : p < B.length) (hn : B.length ≤ 65536) : Calls Tryd.prog 29 #[.slice (some ⟨b, o, none⟩) B.length c, .int .i64 p] w (TkP w (nme B p)) := by
  obtain ⟨Post, hPost⟩ : ∃ P : Ending → World → Prop, P = TkP w (nme B p) := ⟨_, rfl⟩
  rw [← hPost]
  have HPo : Hid (Post = TkP w (nme B p)) := hPost
  clear hPost
  have HBA : Hid (BA w b o B) := h
  obtain ⟨n, hN⟩ : ∃ n, n = B.length := ⟨_, rfl⟩
  have HN : Hid (n = B.length) := hN
  rw [← hN] at hc hp hn ⊢
  have HBL : Hid (∀ W, Up w W → BL W (.slice (some ⟨b, o, none⟩) n c) B) := fun W u => by rw [HN.out]; exact ba_bl (h.up u) (by have := HN.out; omega)
  clear h hN
  obtain ⟨W0, hW0⟩ : ∃ W0, w.alloc (.cells #[.int .i8 0, .string ⟨#[]⟩, .int .i64 0, .int .i64 0] 63) = W0 := ⟨_, rfl⟩
  have g0 : W0.heap[w.heap.size]? = some (.cells tz 63 (0, 0)) := by rw [← hW0]; exact heap_alloc_new _ _
  have u0 : Up w W0 := by rw [← hW0]; exact (Up.refl _).alloc _
  have he1 := spn_ge prt B p
  have he2 := spn_le prt (B := B) (p := p) (by have := HN.out; omega)
  rw [← HN.out] at he2
  go_enter Tryd.func29, Tryd.ntmps29
  go_wp2_with fail
  first | refine calls_world hW0 (Calls.mono (inName_ W0) ?_) | refine Calls.mono (inName_ W0) ?_
  rintro r W1 ⟨g, rfl, h60, u1⟩
  have HU : Hid (Up w W1) := u0.trans u1
  have g0 := u1.heap g0
  have HBH : Hid (Calls Tryd.prog 65 #[.slice (some ⟨b, o, none⟩) n c, .int .i64 (p : Nat), .func (.func 91) #[] #[.pointer (some ⟨g, 0, none⟩)]] W1 fun r9 w' => r9 = .returned (.int .i64 (spn prt B p : Nat)) ∧ Up W1 w') :=
    behind_ 91 #[] #[.pointer (some ⟨g, 0, none⟩)] prt _ B p W1 (HBL.out W1 HU.out) (by have := HN.out; omega) (by have := HN.out; omega) (enters_of Tryd.func91 (by kernel_rfl) rfl) (fun W c9 x => by simpa using ofN_ c9 g W (x.cell h60))
  clear hW0 u0 u1 h60
  go_wp2_with fail
  refine Calls.mono HBH.out ?_
  rintro r W2 ⟨rfl, u2⟩
  have g0 := u2.heap g0
  have HU : Hid (Up w W2) := HU.out.trans u2
  have HE : Hid (nme B p = if 32 < spn prt B p - p then .bad p else .tok ⟨1, sub B p (spn prt B p), 0, p⟩ (spn prt B p)) := rfl
  have HCV : Hid (∀ e, e = spn prt B p → (convert 22 9 (.slice (some ⟨b, o + p, none⟩) (e - p) (c - p))).run Tryd.prog W2 = .ok (.string (strOfNums (sub B p e))) W2) := fun e h9 => conv_sub (HBA.out.up HU.out) (by have := HN.out; omega) _
  have hcv := HCV.out _ rfl
  clear u2 HBH HCV
  generalize spn prt B p = e at *
  have e1 : IntKind.i64.wrap ((e : Int) - (p : Int)) = (e : Int) - (p : Int) := by rw [IntKind.wrap_i64]; omega
  by_cases hbig : 32 < e - p
  · have e2 : (32 : Int) < (e : Int) - (p : Int) := by omega
    rw [if_pos hbig] at HE
    go_wp2_with (refine wpList_store_row (by rfl) 63 (.tmp 4) (.tmp 16) (by rfl) w.heap.size tz (by rfl) (by rfl) 63 tz g0 infoTs rfl (tz_one) ?_)
    refine bodyPost_ret (v := .tuple #[.agg tz, .int .i64 p, .bool false]) (res_c2 (p := 4) (q := 5) (r := 6) (ty := 63) rfl _ _ w.heap.size 63 tz (0, 0) _ _ _ rfl rfl rfl (setRow_heap _ _ _ _ _ _ g0) Tryd.underlying63 rfl infoTs) rfl ?_
    rw [HPo.out]
    rw [HE.out]
    exact ⟨rfl, up_setRow HU.out (Nat.le_refl _) _⟩
  · have e2 : ¬ (32 : Int) < (e : Int) - (p : Int) := by omega
    rw [if_neg hbig] at HE
    go_wp2_with (refine wpList_store_row (by rfl) 63 (.tmp 4) (.tmp 23) (by rfl) w.heap.size (tA 1 (sub B p e) 0) (by rfl) (by rfl) 63 tz g0 infoTs rfl (tA_one _ _ _) ?_)
    refine bodyPost_ret (v := .tuple #[.agg (tA 1 (sub B p e) 0), .int .i64 e, .bool true]) (res_c2 (p := 4) (q := 5) (r := 6) (ty := 63) rfl _ _ w.heap.size 63 (tA 1 (sub B p e) 0) (0, 0) _ _ _ rfl rfl rfl (setRow_heap _ _ _ _ _ _ g0) Tryd.underlying63 rfl infoTs) rfl ?_
    rw [HPo.out]
    rw [HE.out]
    exact ⟨rfl, up_setRow HU.out (Nat.le_refl _) _⟩
set_option maxRecDepth 100000 in
set_option maxHeartbeats 8000000 in
theorem remark_ (b o c p : Nat) (B : List Int) (w : World) (h : BA w b o B) (hc : B.length ≤ c) (hp : p < B.length) (hn : B.length ≤ 65536) : Calls Tryd.prog 28 #[.slice (some ⟨b, o, none⟩) B.length c, .int .i64 p] w fun e w' => Up w w' ∧ e = if decide (p + 1 < B.length) && B.getD (p + 1) 0 == 47 then .returned (.tuple #[.int .i64 (spn nnl B p : Nat), .bool true]) else .returned (.tuple #[.int .i64 0, .bool false]) := by
  obtain ⟨Post, hPost⟩ : ∃ P : Ending → World → Prop, P = fun e w' => Up w w' ∧ e = if decide (p + 1 < B.length) && B.getD (p + 1) 0 == 47 then .returned (.tuple #[.int .i64 (spn nnl B p : Nat), .bool true]) else .returned (.tuple #[.int .i64 0, .bool false]) := ⟨_, rfl⟩
  rw [← hPost]
  have HPo : Hid (Post = fun e w' => Up w w' ∧ e = if decide (p + 1 < B.length) && B.getD (p + 1) 0 == 47 then .returned (.tuple #[.int .i64 (spn nnl B p : Nat), .bool true]) else .returned (.tuple #[.int .i64 0, .bool false])) := hPost
  clear hPost
  obtain ⟨n, hN⟩ : ∃ n, n = B.length := ⟨_, rfl⟩
  rw [← hN] at hc hp hn HPo ⊢
  have HN : Hid (n = B.length) := hN
  have HBL : Hid (∀ W, Up w W → BL W (.slice (some ⟨b, o, none⟩) n c) B) := fun W u => by rw [HN.out]; exact ba_bl (h.up u) (by have := HN.out; omega)
  have HBH : Hid (Calls Tryd.prog 65 #[.slice (some ⟨b, o, none⟩) n c, .int .i64 (p : Nat), .func (.func 66) #[] #[]] w fun r9 w' => r9 = .returned (.int .i64 (spn nnl B p : Nat)) ∧ Up w w') :=
    behind_ 66 #[] #[] nnl _ B p w (HBL.out w (Up.refl _)) (by have := HN.out; omega) (by have := HN.out; omega) (enters_of Tryd.func66 (by kernel_rfl) rfl) (fun W c9 _ => by simpa using Calls.mono (nnl_ c9 W) (fun e w9 h9 => by obtain ⟨h8, h7⟩ := h9; subst h7; exact ⟨h8, Up.refl _⟩))
  have e1 : IntKind.i64.wrap ((p : Int) + 1) = ((p + 1 : Nat) : Int) := by rw [IntKind.wrap_i64]; omega
  by_cases h1 : p + 1 < n
  · have hcell := h w (Up.refl _) (p + 1) (by omega)
    have e2 : (((p + 1 : Nat) : Int) == (n : Int)) = false := by simp; omega
    rw [decide_eq_true h1, Bool.true_and] at HPo
    clear h hN
    generalize B.getD (p + 1) 0 = d at *
    by_cases hd : d = 47
    · subst hd
      clear HBL
      go_enter Tryd.func28, Tryd.ntmps28
      go_wp2_with fail
      refine Calls.mono HBH.out ?_
      rintro r W2 ⟨rfl, u2⟩
      go_wp2_with fail
      rw [HPo.out]
      exact ⟨u2, rfl⟩
    · have hd2 : (d == 47) = false := by simpa using hd
      have hd3 : (d != 47) = true := by simpa using hd
      rw [hd2] at HPo
      clear HBL
      go_enter Tryd.func28, Tryd.ntmps28
      go_wp2_with fail
      rw [HPo.out]
      exact ⟨Up.refl _, rfl⟩
  · have h2 : p + 1 = n := by omega
    have e2 : (((p + 1 : Nat) : Int) == (n : Int)) = true := by simp; omega
    rw [decide_eq_false h1, Bool.false_and] at HPo
    clear HBL h hN
    go_enter Tryd.func28, Tryd.ntmps28
    go_wp2_with fail
    rw [HPo.out]
    exact ⟨Up.refl _, rfl⟩
end TK
end Go.Proofs.YtjjikeehifndhaaDoor
