/-
  Back of Back, Order of Order: no program.
-/
import Derived.Test.YtnmoaebmopjmhaaPrs
namespace Go.Proofs.Ytnmoaebmopjmhaa
open Go.RowKit

namespace PR
open IN AP CU OD
theorem cnt_set : ∀ (r : List Int) (z : Nat) (x : Int), z < r.length → r.getD z 0 = -1 → x ≠ -1 → (r.set z x).count (-1) + 1 = r.count (-1)
  | [], z, x, h, _, _ => by simp at h
  | a :: t, 0, x, _, h2, h3 => by
    have ha : a = -1 := h2
    subst ha
    simp [h3]
  | a :: t, z + 1, x, h1, h2, h3 => by
    have := cnt_set t z x (by simpa using h1) h2 h3
    simp only [List.set_cons_succ, List.count_cons]
    omega
theorem bk_cnt (zs : List Int) : ∀ f i r b, bkL zs f i r = some b → r.length = zs.length → b.count (-1) + f = r.count (-1)
  | 0, i, r, b, h, _ => by cases h; rfl
  | f + 1, i, r, b, h, hl => by
    rw [bkL] at h
    split at h
    · cases h
    · rename_i hc
      have h1 : r.getD (zs.getD i 0).toNat 0 = -1 := by
        by_cases e : r.getD (zs.getD i 0).toNat 0 = -1
        · exact e
        · exact absurd (.inr (.inr e)) hc
      have h2 := bk_cnt zs f (i + 1) _ b h (by simpa using hl)
      have h3 := cnt_set r (zs.getD i 0).toNat (i : Int) (by omega) h1 (by omega)
      omega
theorem bk_full (zs b : List Int) (h : bk zs = some b) : Inv zs zs.length b ∧ ∀ j, j < zs.length → ∃ k, k < zs.length ∧ zs.getD k 0 = j ∧ b.getD j 0 = k := by
  have hi := bk_inv zs _ _ _ _ h ⟨by simp, fun k hk => by omega, fun j hj hne => by simp [List.getD, hj] at hne⟩
  rw [Nat.zero_add] at hi
  refine ⟨hi, fun j hj => hi.2.2 j hj (fun e => ?_)⟩
  have hc := bk_cnt zs _ _ _ _ h (by simp)
  rw [List.count_replicate_self] at hc
  have h0 : b.count (-1) = 0 := by omega
  refine List.count_eq_zero.1 h0 ?_
  rw [← e, List.getD_eq_getElem?_getD, List.getElem?_eq_getElem (by rw [hi.1]; exact hj)]
  exact List.getElem_mem _
theorem bk_ok (ys : List Int) (h1 : ∀ k, k < ys.length → ∃ z : Nat, ys.getD k 0 = z ∧ z < ys.length) (h2 : ∀ k l, k < ys.length → l < ys.length → ys.getD k 0 = ys.getD l 0 → k = l) : ∀ f i r, i + f = ys.length → Inv ys i r → ∃ c, bkL ys f i r = some c
  | 0, i, r, _, _ => ⟨r, rfl⟩
  | f + 1, i, r, hf, hi => by
    obtain ⟨z, hz, hzl⟩ := h1 i (by omega)
    have hcond : ¬ (ys.getD i 0 < 0 ∨ (ys.length : Int) ≤ ys.getD i 0 ∨ r.getD (ys.getD i 0).toNat 0 ≠ -1) := by
      rintro (h | h | h)
      · omega
      · omega
      · rw [hz, Int.toNat_natCast] at h
        obtain ⟨k, h3, h4, -⟩ := hi.2.2 z hzl h
        have := h2 k i (by omega) (by omega) (by rw [h4, hz])
        omega
    have hs : bkL ys 1 i r = some (r.set (ys.getD i 0).toNat i) := by rw [bkL, if_neg hcond, bkL]
    have hi2 := bk_inv ys 1 i r _ hs hi
    rw [bkL, if_neg hcond]
    exact bk_ok ys h1 h2 f (i + 1) _ (by omega) hi2
theorem bk_back (zs b : List Int) (h : bk zs = some b) : bk b = some zs := by
  obtain ⟨hi, hs⟩ := bk_full zs b h
  have hl : b.length = zs.length := hi.1
  have key : ∀ j, j < zs.length → ∃ z : Nat, zs.getD j 0 = z ∧ z < zs.length ∧ b.getD z 0 = j := hi.2.1
  obtain ⟨c, hc⟩ := bk_ok b (fun k hk => by
      rw [hl] at hk
      obtain ⟨z, h1, h2, h3⟩ := hs k hk
      exact ⟨z, h3, by rw [hl]; exact h1⟩)
    (fun k l hk hl2 e => by
      rw [hl] at hk hl2
      obtain ⟨z, h1, h2, h3⟩ := hs k hk
      obtain ⟨y, h4, h5, h6⟩ := hs l hl2
      have : z = y := by omega
      subst this
      omega) b.length 0 (List.replicate b.length (-1)) (by omega) ⟨by simp, fun k hk => by omega, fun j hj hne => by simp [List.getD, hj] at hne⟩
  have hb : bk b = some c := hc
  rw [hb, bk_fnd b c hb]
  congr 1
  apply List.ext_getElem?
  intro j
  by_cases hj : j < zs.length
  · rw [List.getElem?_map, List.getElem?_range (by rw [hl]; exact hj)]
    obtain ⟨z, h1, h2, h3⟩ := key j hj
    have e1 : zs[j]? = some (z : Int) := by rw [← h1, List.getD_eq_getElem?_getD, List.getElem?_eq_getElem hj]; rfl
    rw [e1]
    show some (fnd b (j : Nat) b.length 0) = some (z : Int)
    rw [fnd_at b j z h3 b.length 0 (Nat.zero_le _) (by omega)]
    intro z' _ hz' he
    obtain ⟨k, h4, h5, h6⟩ := hs z' (by omega)
    have : k = j := by omega
    subst this
    omega
  · rw [List.getElem?_eq_none (by simp; omega), List.getElem?_eq_none (by omega)]
theorem ol_back (ps : List PX) (zs b : List Int) (h : bk zs = some b) (hl : zs.length = ps.length) : olP (olP ps zs) b = ps := by
  obtain ⟨hi, hs⟩ := bk_full zs b h
  apply List.ext_getElem?
  intro j
  by_cases hj : j < zs.length
  · obtain ⟨k, h1, h2, h3⟩ := hs j hj
    have e1 := olP_get (olP ps zs) b j (by rw [hi.1]; exact hj)
    rw [h3, Int.toNat_natCast, olP_get ps zs k h1, h2, Int.toNat_natCast] at e1
    have e2 : (olP (olP ps zs) b)[j]? = some ((olP (olP ps zs) b).getD j pdx) := by rw [List.getD_eq_getElem?_getD, List.getElem?_eq_getElem (by rw [olP_len, hi.1]; exact hj)]; rfl
    have e3 : ps[j]? = some (ps.getD j pdx) := by rw [List.getD_eq_getElem?_getD, List.getElem?_eq_getElem (by omega)]; rfl
    rw [e2, e3, e1]
  · rw [List.getElem?_eq_none (by rw [olP_len, hi.1]; omega), List.getElem?_eq_none (by omega)]
end PR
end Go.Proofs.Ytnmoaebmopjmhaa
