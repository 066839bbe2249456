
/-
  Marks.
-/
import Derived.Test.YtjjikeehifndhaaDoorCo8
import Derived.Test.YtjjikeehifndhaaDoorMr8
namespace Go.Proofs.YtjjikeehifndhaaDoor
open Go.RowKit
attribute [local go_sem ↓] Go.wp_at_zero Go.wp_at_succ
namespace TK
theorem sub_one {B : List Int} {p : Nat} (h : p < B.length) : sub B p (p + 1) = [B.getD p 0] := by
  unfold sub
  rw [drop_at h, show p + 1 - p = 1 by omega]
  rfl
theorem sub_two {B : List Int} {p : Nat} (h : p + 1 < B.length) : sub B p (p + 2) = [B.getD p 0, B.getD (p + 1) 0] := by
  unfold sub
  rw [drop_at (show p < B.length by omega), drop_at h, show p + 2 - p = 2 by omega]
  rfl
theorem byt_one {B : List Int} (h : Byt B) (p : Nat) : Byt [B.getD p 0] := fun c hc => by
  obtain rfl : c = B.getD p 0 := by simpa using hc
  exact h.at p
theorem byt_two {B : List Int} (h : Byt B) (p q : Nat) : Byt [B.getD p 0, B.getD q 0] := fun c hc => by
  rcases (show c = B.getD p 0 ∨ c = B.getD q 0 by simpa using hc) with rfl | rfl
  · exact h.at p
  · exact h.at q
/- what is still to be tried, from the place e on down -/
def Mk (B : List Int) (p e : Nat) : Prop := (e = p + 2 ∧ p + 1 < B.length) ∨ (e = p + 1 ∧ mkk B p = if sgl (B.getD p 0) then .tok ⟨4, [B.getD p 0], 0, p⟩ (p + 1) else .bad p) ∨ (e = p ∧ mkk B p = .bad p)
theorem mk_start (B : List Int) (p : Nat) : Mk B p (if p + 2 ≤ B.length then p + 2 else p + 1) := by
  unfold Mk
  by_cases h2 : p + 2 ≤ B.length
  · rw [if_pos h2]; exact .inl ⟨rfl, h2⟩
  · rw [if_neg h2]
    refine .inr (.inl ⟨rfl, ?_⟩)
    unfold mkk
    rw [if_neg (fun h9 => h2 h9.1)]
/- what comes of a round -/
theorem mk_two {B : List Int} {p : Nat} (h : Byt B) (h2 : p + 1 < B.length) : ((mrkS (strOfNums (sub B p (p + 2))) = true → mkk B p = .tok ⟨4, sub B p (p + 2), 0, p⟩ (p + 2)) ∧ (mrkS (strOfNums (sub B p (p + 2))) = false → Mk B p (p + 1))) := by
  rw [sub_two h2, mrk_is (byt_two h p (p + 1))]
  refine ⟨fun h3 => ?_, fun h3 => .inr (.inl ⟨rfl, ?_⟩)⟩
  · unfold mkk; rw [if_pos ⟨h2, h3⟩]
  · unfold mkk; rw [if_neg (fun h4 => by rw [show two (B.getD p 0) (B.getD (p + 1) 0) = false from h3] at h4; exact absurd h4.2 (by decide))]
theorem mk_one {B : List Int} {p : Nat} (h : Byt B) (hp : p < B.length) (h2 : mkk B p = if sgl (B.getD p 0) then .tok ⟨4, [B.getD p 0], 0, p⟩ (p + 1) else .bad p) : ((mrkS (strOfNums (sub B p (p + 1))) = true → mkk B p = .tok ⟨4, sub B p (p + 1), 0, p⟩ (p + 1)) ∧ (mrkS (strOfNums (sub B p (p + 1))) = false → Mk B p p)) := by
  rw [sub_one hp, mrk_is (byt_one h p)]
  refine ⟨fun h3 => ?_, fun h3 => .inr (.inr ⟨rfl, ?_⟩)⟩
  · rw [h2, if_pos (show sgl (B.getD p 0) = true from h3)]
  · rw [h2, if_neg (by rw [show sgl (B.getD p 0) = false from h3]; decide)]
theorem mk_any {B : List Int} {p e : Nat} (h : Byt B) (hp : p < B.length) (hm : Mk B p e) (he : p < e) : (e ≤ B.length ∧ e ≤ p + 2) ∧ (mrkS (strOfNums (sub B p e)) = true → mkk B p = .tok ⟨4, sub B p e, 0, p⟩ e) ∧ (mrkS (strOfNums (sub B p e)) = false → Mk B p (e - 1)) := by
  rcases hm with ⟨rfl, h2⟩ | ⟨rfl, h2⟩ | ⟨rfl, h2⟩
  · exact ⟨⟨by omega, by omega⟩, mk_two h h2⟩
  · exact ⟨⟨by omega, by omega⟩, mk_one h hp h2⟩
  · omega
theorem mk_end {B : List Int} {p e : Nat} (hm : Mk B p e) (he : ¬ p < e) : e = p ∧ mkk B p = .bad p := by
  rcases hm with ⟨rfl, h2⟩ | ⟨rfl, h2⟩ | h2
  · omega
  · omega
  · exact h2
set_option maxRecDepth 100000 in
set_option maxHeartbeats 8000000 in
theorem mark_ (b o c p : Nat) (B : List Int) (w : World) (h : BA w b o B) (hc : B.length ≤ c) (hp : p < B.length) (hn : B.length ≤ 65536) (hby : Byt B) : Calls Tryd.prog 26 #[.slice (some ⟨b, o, none⟩) B.length c, .int .i64 p] w (TkP w (mkk B p)) := by
  obtain ⟨Post, hPost⟩ : ∃ P : Ending → World → Prop, P = TkP w (mkk B p) := ⟨_, rfl⟩
  rw [← hPost]
  have HPo : Hid (Post = TkP w (mkk B p)) := hPost
  clear hPost
  have HBA : Hid (BA w b o B) := h
  obtain ⟨n, hN⟩ : ∃ n, n = B.length := ⟨_, rfl⟩
  have HN : Hid (n = B.length) := hN
  rw [← hN] at hc hp hn ⊢
  have HMS : Hid (Mk B p (if p + 2 ≤ n then p + 2 else p + 1)) := by rw [HN.out]; exact mk_start B p
  have HMA : Hid (∀ e, Mk B p e → p < e → (e ≤ n ∧ e ≤ p + 2) ∧ (mrkS (strOfNums (sub B p e)) = true → mkk B p = .tok ⟨4, sub B p e, 0, p⟩ e) ∧ (mrkS (strOfNums (sub B p e)) = false → Mk B p (e - 1))) := fun e h1 h2 => by rw [HN.out]; exact mk_any hby (by have := HN.out; omega) h1 h2
  have HME : Hid (∀ e, Mk B p e → ¬ p < e → e = p ∧ mkk B p = .bad p) := fun e => mk_end
  clear h hN hby
  obtain ⟨W0, hW0⟩ : ∃ W0, w.alloc (.cells #[.int .i8 0, .string ⟨#[]⟩, .int .i64 0, .int .i64 0] 63) = W0 := ⟨_, rfl⟩
  have g0 : W0.heap[w.heap.size]? = some (.cells tz 63 (0, 0)) := by rw [← hW0]; exact heap_alloc_new _ _
  have u0 : Up w W0 := by rw [← hW0]; exact (Up.refl _).alloc _
  have HU : Hid (Up w W0) := u0
  have HCV : Hid (∀ e, e ≤ n → (convert 22 9 (.slice (some ⟨b, o + p, none⟩) (e - p) (c - p))).run Tryd.prog W0 = .ok (.string (strOfNums (sub B p e))) W0) := fun e h9 => conv_sub (HBA.out.up u0) (by have := HN.out; omega) _
  have HIM : Hid (∀ s, Calls Tryd.prog 59 #[.string s] W0 fun e w' => e = .returned (.bool (mrkS s)) ∧ w' = W0) := fun s => isMark_ s W0
  obtain ⟨e0, he0⟩ : ∃ e, e = if p + 2 ≤ n then p + 2 else p + 1 := ⟨_, rfl⟩
  have hmn : (if (n : Int) < (p : Int) + 2 then (n : Int) else (p : Int) + 2) = (e0 : Int) := by rw [he0]; split <;> split <;> omega
  rw [← he0] at HMS
  have he2 : e0 ≤ p + 2 := by rw [he0]; split <;> omega
  clear he0
  go_enter Tryd.func26, Tryd.ntmps26
  go_wp2_with fail
  try rw [hW0]
  have HW0 : Hid (w.alloc (.cells #[.int .i8 0, .string ⟨#[]⟩, .int .i64 0, .int .i64 0] 63) = W0) := hW0
  clear hW0 u0 hmn
  go_loopw [7] (fun s7 W => ∃ e : Nat, e ≤ p + 2 ∧ s7 = .int .i64 e ∧ Mk B p e ∧ W = W0) (fun s7 _ => (intOf s7).toNat)
  case atStart => first | exact ⟨e0, he2, rfl, HMS.out, rfl⟩ | exact ⟨e0, he2, rfl, HMS.out, HW0.out⟩
  case round =>
    obtain ⟨e, he, rfl, hm, rfl⟩ := hrel
    have HM : Hid (Mk B p e) := hm
    clear hm HMS
    by_cases hlt : p < e
    · have hlt2 : (p : Int) < (e : Int) := by omega
      obtain ⟨⟨h3, -⟩, h4, h5⟩ := HMA.out e HM.out hlt
      have HR : Hid ((mrkS (strOfNums (sub B p e)) = true → mkk B p = .tok ⟨4, sub B p e, 0, p⟩ e) ∧ (mrkS (strOfNums (sub B p e)) = false → Mk B p (e - 1))) := ⟨h4, h5⟩
      have hcv := HCV.out e h3
      have hple : p ≤ e := by omega
      have hec : e ≤ c := by omega
      have e3 : IntKind.i64.wrap ((e : Int) - 1) = ((e - 1 : Nat) : Int) := by rw [IntKind.wrap_i64]; omega
      clear h4 h5
      go_wp2_with fail
      refine Calls.mono (HIM.out _) ?_
      rintro r W2 ⟨rfl, hw2⟩
      obtain rfl := hw2
      cases hmm : mrkS (strOfNums (sub B p e)) with
      | true =>
        have HE := HR.out.1 hmm
        clear hmm
        go_wp2_with (refine wpList_store_row (by rfl) 63 (.tmp 4) (.tmp 29) (by rfl) w.heap.size (tA 4 (sub B p e) 0) (by rfl) (by rfl) 63 tz g0 infoTs rfl (tA_one _ _ _) ?_)
        refine bodyPost_ret (v := .tuple #[.agg (tA 4 (sub B p e) 0), .int .i64 e, .bool true]) (res_c2 (p := 4) (q := 5) (r := 6) (ty := 63) rfl _ _ w.heap.size 63 (tA 4 (sub B p e) 0) (0, 0) _ _ _ rfl rfl rfl (setRow_heap _ _ _ _ _ _ g0) Tryd.underlying63 rfl infoTs) rfl ?_
        rw [HPo.out]
        rw [HE]
        exact ⟨rfl, up_setRow HU.out (Nat.le_refl _) _⟩
      | false =>
        have HE : Hid (Mk B p (e - 1)) := HR.out.2 hmm
        clear hmm
        go_wp2_with fail
        go_roundw
        case rel => exact ⟨e - 1, by omega, by go_num, HE.out, by trivial⟩
        case measure => simp [intOf]; omega
    · have hlt2 : ¬ (p : Int) < (e : Int) := by omega
      obtain ⟨rfl, HE⟩ := HME.out e HM.out hlt
      go_wp2_with (refine wpList_store_row (by rfl) 63 (.tmp 4) (.tmp 31) (by rfl) w.heap.size tz (by rfl) (by rfl) 63 tz g0 infoTs rfl (tz_one) ?_)
      refine bodyPost_ret (v := .tuple #[.agg tz, .int .i64 e, .bool false]) (res_c2 (p := 4) (q := 5) (r := 6) (ty := 63) rfl _ _ w.heap.size 63 tz (0, 0) _ _ _ rfl rfl rfl (setRow_heap _ _ _ _ _ _ g0) Tryd.underlying63 rfl infoTs) rfl ?_
      rw [HPo.out]
      rw [HE]
      exact ⟨rfl, up_setRow HU.out (Nat.le_refl _) _⟩
end TK
end Go.Proofs.YtjjikeehifndhaaDoor
