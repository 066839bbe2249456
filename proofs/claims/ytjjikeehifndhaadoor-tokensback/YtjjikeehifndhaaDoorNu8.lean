
/-
  What digits say, no program.
-/
import Derived.Test.YtjjikeehifndhaaDoorMr8
import Derived.Lib.ParseIntBCases
namespace Go.Proofs.YtjjikeehifndhaaDoor
namespace TK
def vfr (a : Int) (l : List Int) : Int := l.foldl (fun n c => 10 * n + (c - 48)) a
theorem vfr_ge : ∀ (l : List Int) (a : Int), 0 ≤ a → (∀ c ∈ l, dig c = true) → a ≤ vfr a l
  | [], a, _, _ => Int.le_refl a
  | c :: r, a, ha, h => by
    have hc := h c (by simp)
    unfold dig at hc
    simp only [Bool.and_eq_true, decide_eq_true_eq] at hc
    have := vfr_ge r (10 * a + (c - 48)) (by omega) (fun x hx => h x (by simp [hx]))
    show a ≤ vfr (10 * a + (c - 48)) r
    omega
theorem uint_is : ∀ (l : List Int) (a : Nat), (∀ c ∈ l, dig c = true) → a ≤ 18446744073709551615 → Lib.parseUintM 18446744073709551615 a (l.map fun n => UInt8.ofNat n.toNat) = if vfr a l ≤ 18446744073709551615 then .ok (vfr a l).toNat else .range
  | [], a, _, ha => by
    show Lib.NumEnd.ok a = if (a : Int) ≤ _ then .ok ((a : Int)).toNat else _
    rw [if_pos (by omega), Int.toNat_natCast]
  | c :: r, a, h, ha => by
    have hc := h c (by simp)
    unfold dig at hc
    simp only [Bool.and_eq_true, decide_eq_true_eq] at hc
    have hr : ∀ x ∈ r, dig x = true := fun x hx => h x (by simp [hx])
    have e1 : (UInt8.ofNat c.toNat).toNat = c.toNat := by rw [UInt8.toNat_ofNat']; omega
    have e2 : vfr a (c :: r) = vfr (10 * (a : Int) + (c - 48)) r := rfl
    have hge := vfr_ge r (10 * (a : Int) + (c - 48)) (by omega) hr
    rw [List.map_cons, Lib.parseUintM, e1, if_pos (by omega), e2]
    by_cases h1 : 1844674407370955162 ≤ a
    · rw [if_pos h1, if_neg (by omega)]
    · rw [if_neg h1]
      by_cases h2 : 18446744073709551615 < a * 10 + (c.toNat - 48)
      · rw [if_pos h2, if_neg (by omega)]
      · rw [if_neg h2, uint_is r _ hr (by omega), show ((a * 10 + (c.toNat - 48) : Nat) : Int) = 10 * (a : Int) + (c - 48) by omega]
theorem int_is {l : List Int} (hl : l ≠ []) (h : ∀ c ∈ l, dig c = true) : Lib.parseIntB 64 (strOfNums l).data.toList = if 9223372036854775807 < val l then .range else .ok (val l) := by
  rw [strOfNums_data]
  cases l with
  | nil => exact absurd rfl hl
  | cons c r =>
    have hc := h c (by simp)
    unfold dig at hc
    simp only [Bool.and_eq_true, decide_eq_true_eq] at hc
    have e1 : (UInt8.ofNat c.toNat).toNat = c.toNat := by rw [UInt8.toNat_ofNat']; omega
    have e0 : vfr ((0 : Nat) : Int) (c :: r) = val (c :: r) := rfl
    have hge := vfr_ge (c :: r) ((0 : Nat) : Int) (by omega) h
    rw [List.map_cons, Lib.parseIntB_plain 64 _ _ (by rw [e1]; omega) (by rw [e1]; omega)]
    have h2 := uint_is (c :: r) 0 h (by omega)
    rw [List.map_cons, e0] at h2
    rw [e0] at hge
    unfold Lib.parseUintB
    rw [if_neg (by simp)]
    show Lib.signlessC _ (Lib.parseUintM 18446744073709551615 0 _) = _
    rw [h2]
    by_cases h3 : val (c :: r) ≤ 18446744073709551615
    · rw [if_pos h3]
      show (if 2 ^ (64 - 1) ≤ (val (c :: r)).toNat then Lib.NumEnd.range else .ok (((val (c :: r)).toNat : Nat) : Int)) = _
      by_cases h4 : 9223372036854775807 < val (c :: r)
      · rw [if_pos h4, if_pos (by omega)]
      · rw [if_neg h4, if_neg (by omega), Int.toNat_of_nonneg (by omega)]
    · rw [if_neg h3, if_pos (by omega)]
      rfl
theorem val_nn {l : List Int} (h : ∀ c ∈ l, dig c = true) : 0 ≤ val l := vfr_ge l 0 (by decide) h
theorem nue_dig {B : List Int} {p : Nat} (hp : p < B.length) (hd : dig (B.getD p 0) = true) : sub B p (nue B p) ≠ [] ∧ ∀ c ∈ sub B p (nue B p), dig c = true := by
  have h1 := nue_in hp
  refine ⟨fun h => ?_, fun c hc => ?_⟩
  · have h2 := congrArg List.length h
    rw [sub_len h1.2] at h2
    simp at h2
    omega
  · obtain ⟨i, hi, rfl⟩ := List.getElem_of_mem hc
    have hi2 : i < nue B p - p := by rw [sub_len h1.2] at hi; exact hi
    have h3 := sub_getD (B := B) hi2
    rw [List.getD_eq_getElem?_getD, List.getElem?_eq_getElem hi] at h3
    have h4 : (sub B p (nue B p))[i] = B.getD (p + i) 0 := h3
    rw [h4]
    cases i with
    | zero => exact hd
    | succ i =>
      unfold nue at hi2
      split at hi2
      · omega
      · exact spn_all (p := p + 1) (i := p + (i + 1)) (by omega) (by omega)
end TK
end Go.Proofs.YtjjikeehifndhaaDoor
