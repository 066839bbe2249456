/-
  EqState of any two states.
-/
import Derived.Test.YtpmdlpjedapbbaaEqToIz7
import Derived.Test.YtpmdlpjedapbbaaSm7ToLs7
import Derived.Test.YtpmdlpjedapbbaaSzToEs
import Derived.Test.YtpmdlpjedapbbaaSaQ
import Derived.WalkKit
import Derived.ProofKit
import Derived.OpenShut
import Derived.ChangeOld
import Derived.SizedLaws
import Derived.Deep.Slices
import Derived.Deep.Strs
namespace Go.Proofs.Ytpmdlpjedapbbaa
open Go.RowKit
attribute [local go_sem ↓] Go.wp_at_zero Go.wp_at_succ

namespace ST
theorem eqS_comm (a b : Stt) : eqS a b = eqS b a := by
  simp only [eqS, eq_comm]
set_option maxRecDepth 100000 in
set_option maxHeartbeats 4000000 in
theorem eqStateG_ (v u : Value) (a b : Stt) (w : World) (hv : StL w v a) (hu : StL w u b) (hsm : Small a) :
    Calls Try.prog 12 #[v, u] w fun e w' => e = .returned (.bool (eqS a b)) ∧ Up w w' := by
  by_cases he : eqS a b = true
  · rw [he]; exact eqState_ v u a b w hv hu hsm he
  · have he2 : eqS a b = false := by simpa using he
    rw [he2]
    simp only [eqS, Bool.and_eq_false_iff, decide_eq_false_iff_not] at he2
    obtain ⟨vp, vc, vz, rfl, h1, h2, h3⟩ := hv
    obtain ⟨up, uc, uz, rfl, g1, g2, g3⟩ := hu
    obtain ⟨pb, hpb⟩ : ∃ p, p = decide (a.ps = b.ps) := ⟨_, rfl⟩
    obtain ⟨cb, hcb⟩ : ∃ p, p = decide (a.cs = b.cs) := ⟨_, rfl⟩
    obtain ⟨zb, hzb⟩ : ∃ p, p = decide (a.zs = b.zs) := ⟨_, rfl⟩
    have HP : Hid (∀ W, Up w W → Calls Try.prog 22 #[vp, up] W fun e w' => e = .returned (.bool pb) ∧ ∃ m, w' = W.drewN m) := fun W k => by
      rw [hpb]; exact eqPlayers_ vp up a.ps b.ps W (h1.up k) (g1.up k) hsm.1
    have HC : Hid (∀ W, Up w W → Calls Try.prog 23 #[vc, uc] W fun e w' => e = .returned (.bool cb) ∧ ∃ m, w' = W.drewN m) := fun W k => by
      rw [hcb]; exact eqCards_ vc uc a.cs b.cs W (h2.up k) (g2.up k) hsm.2.1
    have HZ : Hid (∀ W, Up w W → Calls Try.prog 24 #[vz, uz] W fun e w' => e = .returned (.bool zb) ∧ ∃ m, w' = W.drewN m) := fun W k => by
      rw [hzb]; exact eqRows_ vz uz a.zs b.zs W (h3.up k) (g3.up k) hsm.2.2.1 hsm.2.2.2
    have HB : Hid (pb = false ∨ cb = false ∨ zb = false ∨ a.turn ≠ b.turn ∨ a.whose ≠ b.whose ∨ a.fin ≠ b.fin ∨ a.winner ≠ b.winner) := by
      unfold Hid
      rw [hpb, hcb, hzb]
      simp only [decide_eq_false_iff_not]
      rcases he2 with (((((h | h) | h) | h) | h) | h) | h <;> simp [h]
    obtain ⟨a1, k1, rfl, -, -⟩ := lc_at h1
    obtain ⟨a2, k2, rfl, -, -⟩ := lc_at h2
    obtain ⟨a3, k3, rfl, -, -⟩ := zl_at h3
    obtain ⟨b1, l1, rfl, -, -⟩ := lc_at g1
    obtain ⟨b2, l2, rfl, -, -⟩ := lc_at g2
    obtain ⟨b3, l3, rfl, -, -⟩ := zl_at g3
    unfold sv
    generalize a.turn = x1 at HB ⊢
    generalize b.turn = y1 at HB ⊢
    generalize a.whose = x2 at HB ⊢
    generalize b.whose = y2 at HB ⊢
    generalize a.fin = x3 at HB ⊢
    generalize b.fin = y3 at HB ⊢
    generalize a.winner = x4 at HB ⊢
    generalize b.winner = y4 at HB ⊢
    clear h1 h2 h3 g1 g2 g3 hsm he he2 hpb hcb hzb
    by_cases e1 : x1 = y1
    · subst e1
      by_cases e2 : x2 = y2
      · subst e2
        by_cases e3 : x3 = y3
        · subst e3
          by_cases e4 : x4 = y4
          · subst e4
            cases pb with
            | false =>
              clear HB HC HZ
              go_enter Try.func12, Try.ntmps12
              go_wp2_with fail
              refine Calls.mono (HP.out _ (((Up.refl _).alloc _).alloc _)) ?_
              rintro e w1 ⟨rfl, m1, rfl⟩
              go_wp2
              go_ret
              exact ⟨rfl, (((Up.refl _).alloc _).alloc _).drewN _⟩
            | true =>
              cases cb with
              | false =>
                clear HB HZ
                go_enter Try.func12, Try.ntmps12
                go_wp2_with fail
                refine Calls.mono (HP.out _ (((Up.refl _).alloc _).alloc _)) ?_
                rintro e w1 ⟨rfl, m1, rfl⟩
                go_wp2_with fail
                refine Calls.mono (HC.out _ ((((Up.refl _).alloc _).alloc _).drewN _)) ?_
                rintro e w2 ⟨rfl, m2, rfl⟩
                go_wp2
                go_ret
                exact ⟨rfl, by first | exact (((Up.refl _).alloc _).alloc _).drewN _ | exact ((((Up.refl _).alloc _).alloc _).drewN _).drewN _⟩
              | true =>
                have hz : zb = false := by simpa using HB.out
                subst hz
                clear HB
                go_enter Try.func12, Try.ntmps12
                go_wp2_with fail
                refine Calls.mono (HP.out _ (((Up.refl _).alloc _).alloc _)) ?_
                rintro e w1 ⟨rfl, m1, rfl⟩
                go_wp2_with fail
                refine Calls.mono (HC.out _ ((((Up.refl _).alloc _).alloc _).drewN _)) ?_
                rintro e w2 ⟨rfl, m2, rfl⟩
                go_wp2_with fail
                refine Calls.mono (HZ.out _ (by first | exact (((Up.refl _).alloc _).alloc _).drewN _ | exact ((((Up.refl _).alloc _).alloc _).drewN _).drewN _)) ?_
                rintro e w3 ⟨rfl, m3, rfl⟩
                go_wp2
                go_ret
                exact ⟨rfl, by first | exact (((Up.refl _).alloc _).alloc _).drewN _ | exact ((((Up.refl _).alloc _).alloc _).drewN _).drewN _⟩
          · have e9 : (x4 == y4) = false := beq_eq_false_iff_ne.2 e4
            clear HB HP HC HZ
            go_enter Try.func12, Try.ntmps12
            go_wp2
            go_ret
            exact ⟨rfl, ((Up.refl _).alloc _).alloc _⟩
        · have e9 : (x3 == y3) = false := beq_eq_false_iff_ne.2 e3
          clear HB HP HC HZ
          go_enter Try.func12, Try.ntmps12
          go_wp2
          go_ret
          exact ⟨rfl, ((Up.refl _).alloc _).alloc _⟩
      · have e9 : (x2 == y2) = false := beq_eq_false_iff_ne.2 e2
        clear HB HP HC HZ
        go_enter Try.func12, Try.ntmps12
        go_wp2
        go_ret
        exact ⟨rfl, ((Up.refl _).alloc _).alloc _⟩
    · have e9 : (x1 == y1) = false := beq_eq_false_iff_ne.2 e1
      clear HB HP HC HZ
      go_enter Try.func12, Try.ntmps12
      go_wp2
      go_ret
      exact ⟨rfl, ((Up.refl _).alloc _).alloc _⟩
end ST
end Go.Proofs.Ytpmdlpjedapbbaa
/-
  What the laws of images share, no program but sizes.
-/
namespace Go.Proofs.Ytpmdlpjedapbbaa
open Go.RowKit

namespace IM
open Go.Proofs.Ytpmdlpjedapbbaa.ST
def szS (s : Stt) : Nat := s.ps.length + s.cs.length + szF s.zs s.zs.length
theorem szS_le {s : Stt} (h : Far s) : szS s ≤ 1000000000000000 := by
  have hle := szF_le s.zs s.zs.length h.2.2.2 (by have := h.2.2.1; omega)
  have := h.1
  have := h.2.1
  unfold szS
  omega
theorem small_sz {s : Stt} (h : szS s ≤ 4194304) : Small s := by
  refine small_of ?_
  have hsz := szF_is s.zs s.zs.length
  unfold szS at h
  unfold ST.lenS flat
  omega
theorem sizeS_ (v : Value) (s : Stt) (w : World) (hv : StL w v s) (hn : Far s) : Calls Try.prog 7 #[v] w fun e w' => e = .returned (.int .i64 (szS s : Nat)) ∧ Up w w' :=
  (sizeState_ v s w hv hn).mono fun e w' ⟨h1, h2⟩ => ⟨by rw [h1]; unfold szS; push_cast; rfl, h2⟩
theorem flatL_le {A : Type} (f : A → List Int) (K : Nat) : ∀ (l : List A), (∀ x ∈ l, (f x).length ≤ K) → (l.flatMap f).length ≤ l.length * K
  | [], _ => by simp
  | x :: l, h => by
    have h1 := flatL_le f K l (fun y hy => h y (List.mem_cons_of_mem _ hy))
    have h2 := h x List.mem_cons_self
    rw [List.flatMap_cons, List.length_append, List.length_cons, Nat.add_mul]
    omega
theorem img_le {s : Stt} (h : RS s) : (img s).length ≤ 200000000 := by
  have h1 := flatL_le plyI 9 s.ps (fun p _ => by simp [plyI, by4, by1])
  have h2 := flatL_le crdI 19 s.cs (fun c _ => by simp [crdI, by4, by1, by2])
  have h3 := flatL_le zonI 131074 s.zs (fun z hz => by
    have h4 := (h.zs z hz).1
    have h5 := flatL_le by2 2 z (fun _ _ => by simp [by2])
    unfold zonI
    rw [List.length_append]
    have : (by2 (z.length : Int)).length = 2 := by simp [by2]
    omega)
  have := h.nps
  have := h.ncs
  have := h.nzs
  unfold img
  simp only [List.length_append, mk, by1, by2, by4, List.length_cons, List.length_nil]
  omega
theorem enc_le {s : Stt} (ht : R4 s.turn) : (encB s).length ≤ 200000000 := by
  unfold encB
  split
  · exact img_le (rs_of (by assumption) ht)
  · simp
theorem byt_encB (s : Stt) : Byt (encB s) := by
  unfold encB
  split
  · exact byt_img s
  · intro c hc; cases hc
theorem bts_len (l : List Int) : (bts l).length = l.length := by simp [bts]
theorem bts_inj {a b : List Int} (ha : Byt a) (hb : Byt b) (h : bts a = bts b) : a = b := by
  have hl : a.length = b.length := by rw [← bts_len a, ← bts_len b, h]
  apply List.ext_getElem hl
  intro i h1 h2
  have e1 := bts_getD ha i h1
  have e2 := bts_getD hb i h2
  rw [h] at e1
  rw [e1] at e2
  simpa [List.getD, h1, h2] using e2
theorem eqS_iff (a b : Stt) : eqS a b = true ↔ a = b := by
  constructor
  · intro h
    simp only [eqS, Bool.and_eq_true, decide_eq_true_eq] at h
    obtain ⟨⟨⟨⟨⟨⟨h1, h2⟩, h3⟩, h4⟩, h5⟩, h6⟩, h7⟩ := h
    cases a; cases b
    simp_all
  · rintro rfl
    simp [eqS]
theorem samB_iff (a b : Stt) : samB a b = true ↔ a = b := by
  constructor
  · intro h
    simp only [samB, hdB, Bool.and_eq_true, decide_eq_true_eq] at h
    cases a; cases b
    simp_all
  · rintro rfl
    simp [samB, hdB]
/- two states that may be: their images and they are the same at once -/
theorem same_all {a b : Stt} (ha : ff a = none) (hb : ff b = none) (ta : R4 a.turn) (tb : R4 b.turn) : ∃ o : Bool, decide (bts (encB a) = bts (encB b)) = o ∧ eqS a b = o ∧ samB a b = o ∧ (o = true → sumN a = sumN b) := by
  by_cases h : a = b
  · subst h
    exact ⟨true, by simp, (eqS_iff _ _).2 rfl, (samB_iff _ _).2 rfl, fun _ => rfl⟩
  · refine ⟨false, ?_, ?_, ?_, fun h => by cases h⟩
    · rw [decide_eq_false_iff_not, (enc_img ha).1, (enc_img hb).1]
      intro h9
      exact h (img_inj (rs_of ha ta) (rs_of hb tb) (bts_inj (byt_img a) (byt_img b) h9))
    · rw [Bool.eq_false_iff]; exact fun h9 => h ((eqS_iff _ _).1 h9)
    · rw [Bool.eq_false_iff]; exact fun h9 => h ((samB_iff _ _).1 h9)
theorem okI_no {s : Stt} (h : ff s ≠ none) : okI s = 10 := by unfold okI; rw [if_neg h]
/- a state that was handed in, as a row of cells -/
theorem stl_val {W : World} {v : Value} {s : Stt} (h : StL W v s) : ∃ a1 k1 a2 k2 a3 k3, v = .agg #[.slice a1 s.ps.length k1, .slice a2 s.cs.length k2, .slice a3 s.zs.length k3, .int .i32 s.turn, .int .i64 s.whose, .int .i8 s.fin, .int .i64 s.winner] := by
  obtain ⟨vp, vc, vz, hv, h1, h2, h3⟩ := h
  obtain ⟨a1, k1, rfl, -, -⟩ := lc_at h1
  obtain ⟨a2, k2, rfl, -, -⟩ := lc_at h2
  obtain ⟨a3, k3, rfl, -, -⟩ := zl_at h3
  exact ⟨_, _, _, _, _, _, hv⟩
end IM
end Go.Proofs.Ytpmdlpjedapbbaa
/-
  ImageSame: the law's walk.
-/
namespace Go.Proofs.Ytpmdlpjedapbbaa
open Go.RowKit
attribute [local go_sem ↓] Go.wp_at_zero Go.wp_at_succ

namespace IM
open Go.Proofs.Ytpmdlpjedapbbaa.ST
set_option maxRecDepth 100000 in
set_option maxHeartbeats 8000000 in
theorem isame (v u : Value) (a b : Stt) (w : World) (hv : StL w v a) (hu : StL w u b) (fa : Far a) (fb : Far b) (ta : R4 a.turn) (tb : R4 b.turn) :
    Calls Try.prog 4 #[v, u] w fun x w' => x = .returned (.bool true) ∧ Up w w' := by
  obtain ⟨Post, hPost⟩ : ∃ P : Ending → World → Prop, P = fun x w' => x = .returned (.bool true) ∧ Up w w' := ⟨_, rfl⟩
  rw [← hPost]
  have HPo : Hid (Post = fun x w' => x = .returned (.bool true) ∧ Up w w') := hPost
  clear hPost
  have HV : Hid (∀ W, Up w W → StL W v a) := fun W x => hv.up x
  have HW : Hid (∀ W, Up w W → StL W u b) := fun W x => hu.up x
  have HT : Hid (R4 a.turn ∧ R4 b.turn) := ⟨ta, tb⟩
  obtain ⟨a1, k1, b1, l1, c1, m1, hvv⟩ := stl_val hv
  obtain ⟨a2, k2, b2, l2, c2, m2, huu⟩ := stl_val hu
  have hla := szS_le fa
  have hlb := szS_le fb
  have HSZ : Hid (Far a ∧ Far b) := ⟨fa, fb⟩
  obtain ⟨A, hA⟩ : ∃ A : Array Value, A = #[.slice a1 a.ps.length k1, .slice b1 a.cs.length l1, .slice c1 a.zs.length m1, .int .i32 a.turn, .int .i64 a.whose, .int .i8 a.fin, .int .i64 a.winner] := ⟨_, rfl⟩
  obtain ⟨D, hD⟩ : ∃ A : Array Value, A = #[.slice a2 b.ps.length k2, .slice b2 b.cs.length l2, .slice c2 b.zs.length m2, .int .i32 b.turn, .int .i64 b.whose, .int .i8 b.fin, .int .i64 b.winner] := ⟨_, rfl⟩
  have hA1 : A.size = 7 := by rw [hA]; rfl
  have hD1 : D.size = 7 := by rw [hD]; rfl
  rw [← hA] at hvv
  rw [← hD] at huu
  subst hvv huu
  obtain ⟨W0, hW0⟩ : ∃ W0, (w.alloc (.cells A 27)).alloc (.cells D 27) = W0 := ⟨_, rfl⟩
  have gA : W0.heap[w.heap.size]? = some (.cells A 27 (0, 0)) := by rw [← hW0, Below.heap_alloc _ _ _ (by simp)]; exact heap_alloc_new _ _
  have gD : W0.heap[w.heap.size + 1]? = some (.cells D 27 (0, 0)) := by
    have := heap_alloc_new (w.alloc (.cells A 27)) (.cells D 27)
    rw [← hW0]
    simpa using this
  have u0 : Up w W0 := by rw [← hW0]; exact ((Up.refl _).alloc _).alloc _
  rw [hA, hD] at hW0
  have HAA : Hid (Value.agg A = .agg #[.slice a1 a.ps.length k1, .slice b1 a.cs.length l1, .slice c1 a.zs.length m1, .int .i32 a.turn, .int .i64 a.whose, .int .i8 a.fin, .int .i64 a.winner]) := by unfold Hid; rw [hA]
  have HDD : Hid (Value.agg D = .agg #[.slice a2 b.ps.length k2, .slice b2 b.cs.length l2, .slice c2 b.zs.length m2, .int .i32 b.turn, .int .i64 b.whose, .int .i8 b.fin, .int .i64 b.winner]) := by unfold Hid; rw [hD]
  rw [HAA.out, HDD.out]
  clear hA hD hv hu fa fb ta tb
  go_enter Try.func4, Try.ntmps4
  go_wp2_with fail
  first | (refine calls_world hW0 (Calls.mono (works_ W0) ?_)) | (refine Calls.mono (works_ W0) ?_)
  rintro r W1 ⟨rfl, u1⟩
  have gA := u1.heap gA
  have gD := u1.heap gD
  have HU : Hid (Up w W1) := u0.trans u1
  have HSA : Hid (∀ W, Up W1 W → Calls Try.prog 7 #[.agg A] W fun e w' => e = .returned (.int .i64 (szS a : Nat)) ∧ Up W w') := fun W x => sizeS_ _ a W (HV.out W (HU.out.trans x)) HSZ.out.1
  have HSD : Hid (∀ W, Up W1 W → Calls Try.prog 7 #[.agg D] W fun e w' => e = .returned (.int .i64 (szS b : Nat)) ∧ Up W w') := fun W x => sizeS_ _ b W (HW.out W (HU.out.trans x)) HSZ.out.2
  have HSM : Hid (szS a + szS b ≤ 4194304 → Small a ∧ Small b) := fun h => ⟨small_sz (by omega), small_sz (by omega)⟩
  clear hW0 u0 u1 HSZ
  generalize szS a = x at *
  generalize szS b = y at *
  have e1 : IntKind.i64.wrap ((x : Int) + (y : Int)) = ((x + y : Nat) : Int) := by rw [IntKind.wrap_i64]; omega
  go_wp2_with fail
  refine (fun key : ∀ (W : World), Up W1 W → (?G2 : World → Prop) W => ?main2) ?kp2
  case main2 =>
    refine wp_region_held_drew (S := fun W9 => Up W1 W9) (by kernel_rfl) (Up.drew (Up.refl _)) (fun hHeld => ?_)
    have Ua0 : Up W1 W1.drew := Up.drew (Up.refl _)
    refine wpAnyH_take (i := 0) (v := ?_) rfl (by kernel_rfl) (by kernel_rfl) (by kernel_rfl) (fun _ _ _ h => h) (Or.inl ⟨by rfl, ?_⟩) (by assumption) ?_
    rotate_left
    · intro w9 hSw
      refine (exec_load_row 27 (.tmp 2) (by rfl) w.heap.size (by rfl) 27 A (0, 0) _ Try.underlying27 (by rfl) (by rw [hA1]; exact infoSt) w9 (hSw.heap gA)).trans ?_
      with_reducible rfl
    simp only [Act.put, List.setIfInBounds_toArray, List.set_cons_zero, List.set_cons_succ, List.getElem_toArray, List.getElem_cons_zero]
    refine wpAnyH_take (i := 2) (v := ?_) rfl (by kernel_rfl) (by kernel_rfl) (by kernel_rfl) (fun _ _ _ h => h) (Or.inl ⟨by rfl, ?_⟩) (by assumption) ?_
    rotate_left
    · intro w9 hSw
      refine (exec_load_row 27 (.tmp 3) (by rfl) (w.heap.size + 1) (by rfl) 27 D (0, 0) _ Try.underlying27 (by rfl) (by rw [hD1]; exact infoSt) w9 (hSw.heap gD)).trans ?_
      with_reducible rfl
    simp only [Act.put, List.setIfInBounds_toArray, List.set_cons_zero, List.set_cons_succ, List.getElem_toArray, List.getElem_cons_zero, List.getElem_cons_succ]
    refine wpAnyH_ready (rs := [1]) (by kernel_rfl) (by simp) ?_
    refine AllReadyH.cons rfl (fun K hK => ?_) AllReadyH.nil
    simp only [List.getElem_toArray, List.getElem_cons_zero, List.getElem_cons_succ]
    go_simp
    refine Calls.mono (HSA.out _ (Ua0)) ?_
    rintro r9 Wa1 ⟨rfl, ua1⟩
    go_simp
    have Ua1 := Ua0.trans ua1
    refine hK.out _ _ ?_ (fun hHeld => ?_)
    · exact Ua1
    clear hK K
    try simp only [Act.put, List.setIfInBounds_toArray, List.set_cons_zero, List.set_cons_succ]
    have hSS := Ua1
    refine wpAnyH_ready (rs := [3]) (by kernel_rfl) (by simp) ?_
    refine AllReadyH.cons rfl (fun K hK => ?_) AllReadyH.nil
    simp only [List.getElem_toArray, List.getElem_cons_zero, List.getElem_cons_succ]
    go_simp
    refine Calls.mono (HSD.out _ (Ua1)) ?_
    rintro r9 Wa2 ⟨rfl, ua2⟩
    go_simp
    have Ua2 := Ua1.trans ua2
    refine hK.out _ _ ?_ (fun hHeld => ?_)
    · exact Ua2
    clear hK K
    try simp only [Act.put, List.setIfInBounds_toArray, List.set_cons_zero, List.set_cons_succ]
    have hSS := Ua2
    refine wpAnyH_take (i := 4) (v := ?_) rfl (by kernel_rfl) (by kernel_rfl) (by kernel_rfl) (fun _ _ _ h => h) (Or.inl ⟨by rfl, ?_⟩) (by assumption) ?_
    rotate_left
    · intro w9 hSw
      go_simp
      try with_reducible rfl
    simp only [Act.put, List.setIfInBounds_toArray, List.set_cons_zero, List.set_cons_succ, List.getElem_toArray, List.getElem_cons_zero, List.getElem_cons_succ]
    refine wpAnyH_take (i := 5) (v := ?_) rfl (by kernel_rfl) (by kernel_rfl) (by kernel_rfl) (fun _ _ _ h => h) (Or.inl ⟨by rfl, ?_⟩) (by assumption) ?_
    rotate_left
    · intro w9 hSw
      go_simp
      try with_reducible rfl
    simp only [Act.put, List.setIfInBounds_toArray, List.set_cons_zero, List.set_cons_succ, List.getElem_toArray, List.getElem_cons_zero, List.getElem_cons_succ]
    refine wpAnyH_done (by kernel_rfl) ?_ _
    exact key Wa2 Ua2
  case kp2 =>
    intro W2 U2
    have gA := U2.heap gA
    have gD := U2.heap gD
    have HU : Hid (Up w W2) := HU.out.trans U2
    clear U2 HSA HSD e1
    by_cases hbig : 4194304 < x + y
    · have e2 : (4194304 : Int) < ((x + y : Nat) : Int) := by omega
      go_wp2_with fail
      rw [HPo.out]
      exact ⟨rfl, HU.out⟩
    · have e2 : ¬ (4194304 : Int) < ((x + y : Nat) : Int) := by omega
      obtain ⟨sa, sb⟩ := HSM.out (by omega)
      have HEA : Hid (∀ W, Up w W → Calls Try.prog 9 #[.agg A] W fun x w' => ∃ vb, x = .returned (.tuple #[vb, .int .i64 (okI a)]) ∧ w'.ownsRow W.heap.size 5 1 vb (encB a).length (bvs (encB a)) ∧ Up W w') := fun W x => encode_ _ a W (HV.out W x) sa HT.out.1
      have HED : Hid (∀ W, Up w W → Calls Try.prog 9 #[.agg D] W fun x w' => ∃ vb, x = .returned (.tuple #[vb, .int .i64 (okI b)]) ∧ w'.ownsRow W.heap.size 5 1 vb (encB b).length (bvs (encB b)) ∧ Up W w') := fun W x => encode_ _ b W (HW.out W x) sb HT.out.2
      have HTA : Hid (∀ W, Up w W → Calls Try.prog 10 #[.agg A] W fun x w' => x = .returned (.tuple #[.int .u32 (sumN a : Nat), .int .i64 (okI a)]) ∧ Up W w') := fun W x => sum_ _ a W (HV.out W x) sa HT.out.1 (by have := enc_le HT.out.1; omega)
      have HTD : Hid (∀ W, Up w W → Calls Try.prog 10 #[.agg D] W fun x w' => x = .returned (.tuple #[.int .u32 (sumN b : Nat), .int .i64 (okI b)]) ∧ Up W w') := fun W x => sum_ _ b W (HW.out W x) sb HT.out.2 (by have := enc_le HT.out.2; omega)
      have HQ : Hid (∀ W, Up w W → Calls Try.prog 12 #[.agg A, .agg D] W fun e w' => e = .returned (.bool (eqS a b)) ∧ Up W w') := fun W x => eqStateG_ _ _ a b W (HV.out W x) (HW.out W x) sa
      have HX : Hid (∀ W, Up w W → Calls Try.prog 15 #[.agg A, .agg D] W fun e w' => e = .returned (.bool (samB a b)) ∧ Up W w') := fun W x => same_ _ _ a b W (HV.out W x) (HW.out W x) sa
      clear hbig sa sb HSM HV HW
      go_wp2_with (first | (refine wpList_load_rowG (by rfl) 27 (.tmp 2) (by rfl) w.heap.size (by rfl) 27 A (0, 0) _ gA Try.underlying27 (by rfl) (by rw [hA1]; exact infoSt) ?_) | (refine wpList_load_rowG (by rfl) 27 (.tmp 3) (by rfl) (w.heap.size + 1) (by rfl) 27 D (0, 0) _ gD Try.underlying27 (by rfl) (by rw [hD1]; exact infoSt) ?_))
      refine Calls.mono (HEA.out _ HU.out) ?_
      rintro r W3 ⟨vx, rfl, hx, u3⟩
      have gA := u3.heap gA
      have gD := u3.heap gD
      have HU : Hid (Up w W3) := HU.out.trans u3
      have HLX : Hid (∀ W, Up W3 W → SM.Lies W vx (bts (encB a))) := fun W x => SM.Lies.up (own_lies hx (byt_encB a)) x
      obtain ⟨xa, xc, hvx⟩ := row_val hx
      generalize (encB a).length = nx at hvx
      subst hvx
      clear u3 hx HEA
      go_wp2_with (first | (refine wpList_load_rowG (by rfl) 27 (.tmp 2) (by rfl) w.heap.size (by rfl) 27 A (0, 0) _ gA Try.underlying27 (by rfl) (by rw [hA1]; exact infoSt) ?_) | (refine wpList_load_rowG (by rfl) 27 (.tmp 3) (by rfl) (w.heap.size + 1) (by rfl) 27 D (0, 0) _ gD Try.underlying27 (by rfl) (by rw [hD1]; exact infoSt) ?_))
      refine Calls.mono (HED.out _ HU.out) ?_
      rintro r W4 ⟨vy, rfl, hy, u4⟩
      have gA := u4.heap gA
      have gD := u4.heap gD
      have HU : Hid (Up w W4) := HU.out.trans u4
      have HLX : Hid (∀ W, Up W4 W → SM.Lies W (.slice xa nx xc) (bts (encB a))) := fun W x => HLX.out W (u4.trans x)
      have HLY : Hid (∀ W, Up W4 W → SM.Lies W vy (bts (encB b))) := fun W x => SM.Lies.up (own_lies hy (byt_encB b)) x
      obtain ⟨ya, yc, hvy⟩ := row_val hy
      generalize (encB b).length = ny at hvy
      subst hvy
      clear u4 hy HED
      by_cases ha : ff a = none
      · have o1 := (enc_img ha).2
        by_cases hb : ff b = none
        · have o2 := (enc_img hb).2
          obtain ⟨o, q1, q2, q3, q4⟩ := same_all ha hb HT.out.1 HT.out.2
          rw [q2] at HQ
          rw [q3] at HX
          have HLE : Hid (∀ W, Up W4 W → Calls Try.prog 14 #[.slice xa nx xc, .slice ya ny yc] W fun e w' => e = .returned (.bool o) ∧ Up W w') := fun W x => by
            have := SM.eqB (.slice xa nx xc) (.slice ya ny yc) (bts (encB a)) (bts (encB b)) W (HLX.out W x) (HLY.out W x) (by rw [bts_len]; have := enc_le HT.out.1; omega)
            rw [q1] at this
            exact this
          rw [o1, o2]
          rw [o1] at HTA
          rw [o2] at HTD
          have HQ4 : Hid (o = true → sumN a = sumN b) := q4
          clear HLX HLY q1 q2 q3 q4 ha hb o1 o2
          generalize sumN a = sx at *
          generalize sumN b = sy at *
          go_wp2_with (first | (refine wpList_load_rowG (by rfl) 27 (.tmp 2) (by rfl) w.heap.size (by rfl) 27 A (0, 0) _ gA Try.underlying27 (by rfl) (by rw [hA1]; exact infoSt) ?_) | (refine wpList_load_rowG (by rfl) 27 (.tmp 3) (by rfl) (w.heap.size + 1) (by rfl) 27 D (0, 0) _ gD Try.underlying27 (by rfl) (by rw [hD1]; exact infoSt) ?_))
          refine Calls.mono (HTA.out _ HU.out) ?_
          rintro r W5 ⟨rfl, u5⟩
          have gA := u5.heap gA
          have gD := u5.heap gD
          have HU : Hid (Up w W5) := HU.out.trans u5
          have HLE : Hid (∀ W, Up W5 W → Calls Try.prog 14 #[.slice xa nx xc, .slice ya ny yc] W fun e w' => e = .returned (.bool o) ∧ Up W w') := fun W x => HLE.out W (u5.trans x)
          clear u5
          go_wp2_with (first | (refine wpList_load_rowG (by rfl) 27 (.tmp 2) (by rfl) w.heap.size (by rfl) 27 A (0, 0) _ gA Try.underlying27 (by rfl) (by rw [hA1]; exact infoSt) ?_) | (refine wpList_load_rowG (by rfl) 27 (.tmp 3) (by rfl) (w.heap.size + 1) (by rfl) 27 D (0, 0) _ gD Try.underlying27 (by rfl) (by rw [hD1]; exact infoSt) ?_))
          refine Calls.mono (HTD.out _ HU.out) ?_
          rintro r W6 ⟨rfl, u6⟩
          have gA := u6.heap gA
          have gD := u6.heap gD
          have HU : Hid (Up w W6) := HU.out.trans u6
          have HLE : Hid (Calls Try.prog 14 #[.slice xa nx xc, .slice ya ny yc] W6 fun e w' => e = .returned (.bool o) ∧ Up W6 w') := HLE.out W6 u6
          clear u6 HTA HTD
          go_wp2_with (first | (refine wpList_load_rowG (by rfl) 27 (.tmp 2) (by rfl) w.heap.size (by rfl) 27 A (0, 0) _ gA Try.underlying27 (by rfl) (by rw [hA1]; exact infoSt) ?_) | (refine wpList_load_rowG (by rfl) 27 (.tmp 3) (by rfl) (w.heap.size + 1) (by rfl) 27 D (0, 0) _ gD Try.underlying27 (by rfl) (by rw [hD1]; exact infoSt) ?_))
          refine Calls.mono HLE.out ?_
          rintro r W7 ⟨rfl, u7⟩
          have gA := u7.heap gA
          have gD := u7.heap gD
          have HU : Hid (Up w W7) := HU.out.trans u7
          clear u7 HLE
          have e8 : (o == o) = true := by simp
          have e9 : o = true → ((sx : Int) == (sy : Int)) = true := fun h => by rw [HQ4.out h]; simp
          have HE9 : Hid _ := e9
          clear e9 HQ4
          go_wp2_with (first | (refine wpList_load_rowG (by rfl) 27 (.tmp 2) (by rfl) w.heap.size (by rfl) 27 A (0, 0) _ gA Try.underlying27 (by rfl) (by rw [hA1]; exact infoSt) ?_) | (refine wpList_load_rowG (by rfl) 27 (.tmp 3) (by rfl) (w.heap.size + 1) (by rfl) 27 D (0, 0) _ gD Try.underlying27 (by rfl) (by rw [hD1]; exact infoSt) ?_))
          refine Calls.mono (HQ.out _ HU.out) ?_
          rintro r W8 ⟨rfl, u8⟩
          have gA := u8.heap gA
          have gD := u8.heap gD
          have HU : Hid (Up w W8) := HU.out.trans u8
          clear u8
          go_wp2_with (first | (refine wpList_load_rowG (by rfl) 27 (.tmp 2) (by rfl) w.heap.size (by rfl) 27 A (0, 0) _ gA Try.underlying27 (by rfl) (by rw [hA1]; exact infoSt) ?_) | (refine wpList_load_rowG (by rfl) 27 (.tmp 3) (by rfl) (w.heap.size + 1) (by rfl) 27 D (0, 0) _ gD Try.underlying27 (by rfl) (by rw [hD1]; exact infoSt) ?_))
          refine Calls.mono (HX.out _ HU.out) ?_
          rintro r W9 ⟨rfl, u9⟩
          have HU : Hid (Up w W9) := HU.out.trans u9
          clear u9 gA gD
          cases o with
          | false =>
            go_wp2_with fail
            rw [HPo.out]
            exact ⟨rfl, HU.out⟩
          | true =>
            have e9 := HE9.out rfl
            go_wp2_with fail
            rw [HPo.out]
            exact ⟨rfl, HU.out⟩
        · rw [o1, okI_no hb]
          go_wp2_with fail
          rw [HPo.out]
          exact ⟨rfl, HU.out⟩
      · rw [okI_no ha]
        go_wp2_with fail
        rw [HPo.out]
        exact ⟨rfl, HU.out⟩
end IM
end Go.Proofs.Ytpmdlpjedapbbaa
/-
  A state that came in.
-/
namespace Go.Proofs.Ytpmdlpjedapbbaa
open Go.ChangeShapes Go.WideShapes Go.ChangeAt Go.RowKit

theorem weightsAll_mem {H : Type} {P : Program} {e : TypeId} {d : DataW H} {n : Nat} (hn : n ∈ d.weights P e) : ∀ (l : List (DataW H)), d ∈ l → n ∈ DataW.weightsAll P e l
  | [], h => (List.not_mem_nil h).elim
  | c :: r, h => by
    simp only [DataW.weightsAll, List.mem_append]
    rcases List.mem_cons.1 h with rfl | h
    · exact .inl hn
    · exact .inr (weightsAll_mem hn r h)
namespace ST
section
variable {H : Type} {enc : TypeId × Value → H} {W : World}
theorem open_flat {E : Type} (t e s bytes fuel : Nat) (ht : Try.prog.underlying t = some (.slice e)) (ce : Try.prog.cellsOf e = s) (hs : 0 < s) (hby : Try.prog.bytesOf e = bytes) (hb2 : 2 ≤ bytes) (f : E → List Value) (dx : E) (hf : ∀ x, (f x).length = s)
    (he : ∀ cs n y, DataW.trod enc Try.prog W 0 (fun _ => true) true n e cs = some y → ∃ x : E, cs = f x) {v : Value} {d : DataW H} {p : List MemPlace}
    (h : DataW.trod enc Try.prog W 0 (fun _ => true) true fuel t [v] = some (d, p)) (hz : ∀ n, n ∈ DataW.weights Try.prog t d → n ≤ reachBytes) :
    ∃ xs : List E, LC W v s xs.length (xs.flatMap f) ∧ xs.length ≤ 140737488355328 := by
  rcases Deep.open_slice ht h with ⟨hcs, _⟩ | ⟨a, len, cap, m, n, D, Pl, hcs, _, hl, hm, hmm, hx, hel⟩
  · obtain rfl : v = .slice none 0 0 := by simpa using hcs
    exact ⟨[], ⟨by simp, none, 0, rfl, Nat.le_refl _, fun h => absurd rfl h⟩, Nat.zero_le _⟩
  · obtain rfl : v = .slice (some a) len cap := by simpa using hcs
    have hmm : m = cap := by simpa using hmm
    subst hmm
    have hd : d = _ := congrArg Prod.fst hx
    have hb := hz ((len + (m - len)) * bytes) (by rw [hd]; simp [DataW.weights, ht, hby])
    have hr : reachBytes ≤ 281474976710656 := by decide
    have hlen2 : len * 2 ≤ 281474976710656 := by
      have h1 : len * 2 ≤ (len + (m - len)) * bytes := Nat.mul_le_mul (by omega) hb2
      omega
    have each : ∀ i, ∃ x : E, i < len → W.cells? 0 (a.add (i * s)) s = some (f x) := by
      intro i
      by_cases hi : i < len
      · obtain ⟨cs', h1, h2⟩ := hel i (by omega)
        obtain ⟨x, hx'⟩ := he cs' n _ h2
        rw [ce] at h1
        exact ⟨x, fun _ => by rw [h1, hx']⟩
      · exact ⟨dx, fun h => absurd h hi⟩
    obtain ⟨X, hX⟩ := Classical.axiomOfChoice each
    have hlen : ((List.range len).map X).length = len := by simp
    refine ⟨(List.range len).map X, ⟨by rw [flat_len f s hf], some a, m, by rw [hlen], by rw [hlen]; exact hl, fun hn => ?_⟩, by rw [hlen]; omega⟩
    rw [hlen] at hn
    have hspot : a.spot = none := by
      obtain ⟨_, hl0, hc0⟩ := World.cells?_some (hX 0 (by omega))
      have := hc0 0 (by omega)
      rw [List.getElem?_eq_getElem (by omega)] at this
      simpa [Addr.add] using World.cell?_spot this
    obtain ⟨b, off, spot⟩ := a
    simp only at hspot
    subst hspot
    refine ⟨b, off, rfl, fun j hj => ?_⟩
    rw [hlen] at hj
    have hi : j / s < len := (Nat.div_lt_iff_lt_mul hs).2 hj
    have hmod : j % s < s := Nat.mod_lt _ hs
    obtain ⟨_, hl0, hc0⟩ := World.cells?_some (hX (j / s) hi)
    have h1 := hc0 (j % s) hmod
    rw [Addr.add_mid, Addr.add_mid] at h1
    have e1 : j / s * s + j % s = j := by rw [Nat.mul_comm]; exact Nat.div_add_mod j s
    rw [Nat.add_assoc, e1] at h1
    rw [h1]
    have h2 := flat_get f s hf dx ((List.range len).map X) (j / s) (j % s) (by rw [hlen]; exact hi) hmod
    rw [e1] at h2
    rw [h2]
    simp [List.getD, hi]
theorem c21 : Try.prog.cellsOf 21 = 1 := by kernel_rfl
theorem c3 : Try.prog.cellsOf 3 = 1 := by kernel_rfl
theorem c4 : Try.prog.cellsOf 4 = 1 := by kernel_rfl
theorem ply_of (cs : List Value) (n : Nat) (y : DataW H × List MemPlace) (h : DataW.trod enc Try.prog W 0 (fun _ => true) true n 60 cs = some y) : ∃ p : Ply, cs = pv p := by
  obtain ⟨y0, y1, y2, k, -, hl, h0, h1, h2⟩ := Deep.trod_struct3 Try.underlying60 h
  have hl : cs.length = 3 := by rw [hl]; kernel_rfl
  match cs, hl with
  | [a, b, c], _ =>
    simp only [c21, c4] at h0 h1 h2
    obtain ⟨z0, e0, -, -⟩ := DataW.trod_int Try.underlying21 h0
    obtain ⟨z1, e1, -, -⟩ := DataW.trod_int Try.underlying21 h1
    obtain ⟨z2, e2, -⟩ := DataW.trod_bool Try.underlying4 h2
    simp at e0 e1 e2
    exact ⟨⟨z0, z1, z2⟩, by rw [e0, e1, e2]; rfl⟩
theorem crd_of (cs : List Value) (n : Nat) (y : DataW H × List MemPlace) (h : DataW.trod enc Try.prog W 0 (fun _ => true) true n 62 cs = some y) : ∃ p : Crd, cs = cv p := by
  obtain ⟨xs, k, -, -, hl, hlen, hf⟩ := DataW.trod_struct Try.underlying62 h
  have hl : cs.length = 6 := by rw [hl]; kernel_rfl
  have hlen : xs.length = 6 := hlen
  match cs, hl with
  | [a, b, c, d, e, g], _ =>
    have f0 : DataW.trod enc Try.prog W 0 (fun _ => true) true k 3 (([a, b, c, d, e, g].drop 0).take (Try.prog.cellsOf 3)) = xs[0]? := hf 0 _ rfl
    rw [c3, List.getElem?_eq_getElem (by omega)] at f0
    have f1 : DataW.trod enc Try.prog W 0 (fun _ => true) true k 3 (([a, b, c, d, e, g].drop 1).take (Try.prog.cellsOf 3)) = xs[1]? := hf 1 _ rfl
    rw [c3, List.getElem?_eq_getElem (by omega)] at f1
    have f2 : DataW.trod enc Try.prog W 0 (fun _ => true) true k 21 (([a, b, c, d, e, g].drop 2).take (Try.prog.cellsOf 21)) = xs[2]? := hf 2 _ rfl
    rw [c21, List.getElem?_eq_getElem (by omega)] at f2
    have f3 : DataW.trod enc Try.prog W 0 (fun _ => true) true k 21 (([a, b, c, d, e, g].drop 3).take (Try.prog.cellsOf 21)) = xs[3]? := hf 3 _ rfl
    rw [c21, List.getElem?_eq_getElem (by omega)] at f3
    have f4 : DataW.trod enc Try.prog W 0 (fun _ => true) true k 21 (([a, b, c, d, e, g].drop 4).take (Try.prog.cellsOf 21)) = xs[4]? := hf 4 _ rfl
    rw [c21, List.getElem?_eq_getElem (by omega)] at f4
    have f5 : DataW.trod enc Try.prog W 0 (fun _ => true) true k 21 (([a, b, c, d, e, g].drop 5).take (Try.prog.cellsOf 21)) = xs[5]? := hf 5 _ rfl
    rw [c21, List.getElem?_eq_getElem (by omega)] at f5
    obtain ⟨z0, e0, -, -⟩ := DataW.trod_int Try.underlying3 f0
    obtain ⟨z1, e1, -, -⟩ := DataW.trod_int Try.underlying3 f1
    obtain ⟨z2, e2, -, -⟩ := DataW.trod_int Try.underlying21 f2
    obtain ⟨z3, e3, -, -⟩ := DataW.trod_int Try.underlying21 f3
    obtain ⟨z4, e4, -, -⟩ := DataW.trod_int Try.underlying21 f4
    obtain ⟨z5, e5, -, -⟩ := DataW.trod_int Try.underlying21 f5
    simp at e0 e1 e2 e3 e4 e5
    exact ⟨⟨z0, z1, z2, z3, z4, z5⟩, by rw [e0, e1, e2, e3, e4, e5]; rfl⟩
theorem int_of (cs : List Value) (n : Nat) (y : DataW H × List MemPlace) (h : DataW.trod enc Try.prog W 0 (fun _ => true) true n 3 cs = some y) : ∃ z : Int, cs = [.int .i64 z] := by
  obtain ⟨z0, e0, -, -⟩ := DataW.trod_int Try.underlying3 h
  exact ⟨z0, e0⟩
theorem fl_ivs : ∀ l : List Int, l.flatMap (fun z : Int => [Value.int .i64 z]) = ivs l
  | [] => rfl
  | a :: l => by rw [List.flatMap_cons, fl_ivs l]; rfl
theorem c27 : Try.prog.cellsOf 27 = 7 := by kernel_rfl
theorem c22 : Try.prog.cellsOf 22 = 1 := by kernel_rfl
theorem c23 : Try.prog.cellsOf 23 = 1 := by kernel_rfl
theorem c24 : Try.prog.cellsOf 24 = 1 := by kernel_rfl
theorem c25 : Try.prog.cellsOf 25 = 1 := by kernel_rfl
theorem open_row {fuel : Nat} {v : Value} {d : DataW H} {p : List MemPlace} (h : DataW.trod enc Try.prog W 0 (fun _ => true) true fuel 64 [v] = some (d, p)) (hz : ∀ n, n ∈ DataW.weights Try.prog 64 d → n ≤ reachBytes) : ∃ l : List Int, IL W v l ∧ l.length ≤ 140737488355328 := by
  obtain ⟨l, h1, h2⟩ := open_flat 64 3 1 8 fuel Try.underlying64 c3 (by decide) (by kernel_rfl) (by decide) (fun z : Int => [.int .i64 z]) 0 (fun _ => rfl) int_of h hz
  refine ⟨l, ?_, h2⟩
  rw [fl_ivs l] at h1
  exact h1
theorem open_rows {fuel : Nat} {v : Value} {d : DataW H} {p : List MemPlace} (h : DataW.trod enc Try.prog W 0 (fun _ => true) true fuel 24 [v] = some (d, p)) (hz : ∀ n, n ∈ DataW.weights Try.prog 24 d → n ≤ reachBytes) : ∃ zs : List (List Int), ZL W v zs ∧ Near zs := by
  rcases Deep.open_slice1 Try.underlying24 (by kernel_rfl) h with ⟨hcs, _⟩ | ⟨a, len, cap, m, n, V, D, Pl, hcs, _, hl, hm, hmm, hx, hel⟩
  · obtain rfl : v = .slice none 0 0 := by simpa using hcs
    exact ⟨[], ⟨[], ⟨rfl, none, 0, rfl, Nat.le_refl _, fun h => absurd rfl h⟩, fun i hi => by simp at hi⟩, Nat.zero_le _, fun r hr => by simp at hr⟩
  · obtain rfl : v = .slice (some a) len cap := by simpa using hcs
    have hmm : m = cap := by simpa using hmm
    subst hmm
    have hd : d = _ := congrArg Prod.fst hx
    have hb := hz ((len + (m - len)) * 24) (by rw [hd]; simp [DataW.weights, Try.underlying24, show Try.prog.bytesOf 64 = 24 by kernel_rfl])
    have hr : reachBytes ≤ 281474976710656 := by decide
    have each : ∀ i, ∃ l : List Int, i < len → IL W (V i) l ∧ l.length ≤ 140737488355328 := by
      intro i
      by_cases hi : i < len
      · obtain ⟨_, h2⟩ := hel i (by omega)
        obtain ⟨l, h3, h4⟩ := open_row h2 (fun n hn => by
          refine hz n ?_
          rw [hd]
          simp only [DataW.weights, Try.underlying24]
          exact List.mem_cons_of_mem _ (List.mem_append_left _ (weightsAll_mem hn _ (List.mem_map.2 ⟨i, List.mem_range.2 hi, rfl⟩))))
        exact ⟨l, fun _ => ⟨h3, h4⟩⟩
      · exact ⟨[], fun h => absurd h hi⟩
    obtain ⟨X, hX⟩ := Classical.axiomOfChoice each
    have hlen : ((List.range len).map X).length = len := by simp
    have hg : ∀ i, i < len → ((List.range len).map X).getD i [] = X i := fun i hi => by simp [List.getD, hi]
    refine ⟨(List.range len).map X, ⟨(List.range len).map V, ⟨by simp, some a, m, by rw [hlen], by rw [hlen]; exact hl, fun hn => ?_⟩, fun i hi => ?_⟩, by rw [hlen]; omega, fun r hr' => ?_⟩
    · rw [hlen] at hn
      have hspot : a.spot = none := by
        have := (hel 0 (by omega)).1
        simpa [Addr.add] using World.cell?_spot this
      obtain ⟨b, off, spot⟩ := a
      simp only at hspot
      subst hspot
      refine ⟨b, off, rfl, fun j hj => ?_⟩
      rw [hlen, Nat.mul_one] at hj
      have := (hel j (by omega)).1
      rw [Addr.add_mid] at this
      rw [this]
      simp [hj]
    · rw [hlen] at hi
      rw [hg i hi]
      have e : ((List.range len).map V).getD i nl = V i := by simp [List.getD, hi]
      rw [e]
      exact (hX i hi).1
    · rw [hlen] at hr'
      rw [hg r hr']
      exact (hX r hr').2
set_option maxRecDepth 100000 in
theorem open_state {base : Nat} {v : Value} {d : DataW H} {p : List MemPlace} (hv : Value.okWide Try.prog W .any base 27 v) (h : DataW.Trod enc Try.prog W 0 (fun _ => true) true 27 v d p) (hz : ∀ n, n ∈ DataW.weights Try.prog 27 d → n ≤ reachBytes) :
    ∃ s, StL W v s ∧ Far s := by
  obtain ⟨cs, rfl, hsz⟩ := okWide_struct Try.underlying27 hv
  obtain ⟨fuel, hf⟩ := h
  obtain ⟨xs, k, -, hx, hl, hlen, hfd⟩ := DataW.trod_struct Try.underlying27 hf
  have hlen : xs.length = 7 := hlen
  have hd : d = .agg (xs.map (·.1)) := congrArg Prod.fst hx
  obtain ⟨l⟩ := cs
  have hl7 : l.length = 7 := by
    rw [c27] at hsz
    simpa using hsz
  match l, hl7 with
  | [a, b, c, d1, e, g, i], _ =>
    have f0 : DataW.trod enc Try.prog W 0 (fun _ => true) true k 22 (([a, b, c, d1, e, g, i].drop 0).take (Try.prog.cellsOf 22)) = xs[0]? := hfd 0 _ rfl
    rw [c22, List.getElem?_eq_getElem (by omega)] at f0
    have f1 : DataW.trod enc Try.prog W 0 (fun _ => true) true k 23 (([a, b, c, d1, e, g, i].drop 1).take (Try.prog.cellsOf 23)) = xs[1]? := hfd 1 _ rfl
    rw [c23, List.getElem?_eq_getElem (by omega)] at f1
    have f2 : DataW.trod enc Try.prog W 0 (fun _ => true) true k 24 (([a, b, c, d1, e, g, i].drop 2).take (Try.prog.cellsOf 24)) = xs[2]? := hfd 2 _ rfl
    rw [c24, List.getElem?_eq_getElem (by omega)] at f2
    have f3 : DataW.trod enc Try.prog W 0 (fun _ => true) true k 21 (([a, b, c, d1, e, g, i].drop 3).take (Try.prog.cellsOf 21)) = xs[3]? := hfd 3 _ rfl
    rw [c21, List.getElem?_eq_getElem (by omega)] at f3
    have f4 : DataW.trod enc Try.prog W 0 (fun _ => true) true k 3 (([a, b, c, d1, e, g, i].drop 4).take (Try.prog.cellsOf 3)) = xs[4]? := hfd 4 _ rfl
    rw [c3, List.getElem?_eq_getElem (by omega)] at f4
    have f5 : DataW.trod enc Try.prog W 0 (fun _ => true) true k 25 (([a, b, c, d1, e, g, i].drop 5).take (Try.prog.cellsOf 25)) = xs[5]? := hfd 5 _ rfl
    rw [c25, List.getElem?_eq_getElem (by omega)] at f5
    have f6 : DataW.trod enc Try.prog W 0 (fun _ => true) true k 3 (([a, b, c, d1, e, g, i].drop 6).take (Try.prog.cellsOf 3)) = xs[6]? := hfd 6 _ rfl
    rw [c3, List.getElem?_eq_getElem (by omega)] at f6
    obtain ⟨z3, e3, -, -⟩ := DataW.trod_int Try.underlying21 f3
    obtain ⟨z4, e4, -, -⟩ := DataW.trod_int Try.underlying3 f4
    obtain ⟨z5, e5, -, -⟩ := DataW.trod_int Try.underlying25 f5
    obtain ⟨z6, e6, -, -⟩ := DataW.trod_int Try.underlying3 f6
    simp at e3 e4 e5 e6
    obtain ⟨ps, p1, p2⟩ := open_flat 22 60 3 12 k Try.underlying22 (by kernel_rfl) (by decide) (by kernel_rfl) (by decide) pv dp (fun _ => rfl) ply_of (v := a) (d := (xs[0]'(by omega)).1) (p := (xs[0]'(by omega)).2) f0 (fun n hn => hz n (by
      rw [hd]; simp only [DataW.weights, Try.underlying27]; exact DataW.weights_mem_each (j := 0) (t := 22) rfl (by simp [List.getElem?_eq_getElem (show 0 < xs.length by omega)]) n hn))
    obtain ⟨cs, q1, q2⟩ := open_flat 23 62 6 32 k Try.underlying23 (by kernel_rfl) (by decide) (by kernel_rfl) (by decide) cv dc (fun _ => rfl) crd_of (v := b) (d := (xs[1]'(by omega)).1) (p := (xs[1]'(by omega)).2) f1 (fun n hn => hz n (by
      rw [hd]; simp only [DataW.weights, Try.underlying27]; exact DataW.weights_mem_each (j := 1) (t := 23) rfl (by simp [List.getElem?_eq_getElem (show 1 < xs.length by omega)]) n hn))
    obtain ⟨zs, r1, r2⟩ := open_rows (v := c) (d := (xs[2]'(by omega)).1) (p := (xs[2]'(by omega)).2) f2 (fun n hn => hz n (by
      rw [hd]; simp only [DataW.weights, Try.underlying27]; exact DataW.weights_mem_each (j := 2) (t := 24) rfl (by simp [List.getElem?_eq_getElem (show 2 < xs.length by omega)]) n hn))
    exact ⟨⟨ps, cs, zs, z3, z4, z5, z6⟩, ⟨a, b, c, by rw [e3, e4, e5, e6]; rfl, p1, q1, r1⟩, p2, q2, r2⟩
end
end ST
end Go.Proofs.Ytpmdlpjedapbbaa
