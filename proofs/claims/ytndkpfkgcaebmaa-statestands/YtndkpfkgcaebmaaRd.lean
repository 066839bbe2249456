/-
  Counted round; a zone of a state of one's own that is put anew.
-/
import Derived.Test.YtndkpfkgcaebmaaWk
namespace Go.Proofs.Ytndkpfkgcaebmaa
open Go.RowKit
attribute [local go_sem ↓] Go.wp_at_zero Go.wp_at_succ

namespace ST
def rnd (n : Int) (m : Nat) : Nat := (n % (m : Int)).toNat
theorem rnd_lt (n : Int) (m : Nat) (h : 0 < m) : rnd n m < m := by
  unfold rnd
  have h1 := Int.emod_nonneg n (show (m : Int) ≠ 0 by omega)
  have h2 := Int.emod_lt_of_pos n (show (0 : Int) < m by omega)
  omega
set_option maxHeartbeats 1000000 in
theorem round_ (n : Int) (m : Nat) (hm : 0 < m) (hm2 : m ≤ 8589934592) (w : World) : Calls Try.prog 17 #[.int .i64 n, .int .i64 m] w fun e w' => e = .returned (.int .i64 (rnd n m : Nat)) ∧ w' = w := by
  obtain ⟨R, hR⟩ : ∃ R : Int, R = ((rnd n m : Nat) : Int) := ⟨_, rfl⟩
  have e1 : (m : Int) ≠ 0 := by omega
  have hb1 := Int.emod_nonneg n e1
  have hb2 := Int.emod_lt_of_pos n (show (0 : Int) < m by omega)
  have hR2 : R = n % (m : Int) := by rw [hR, rnd]; omega
  have ht := Int.tmod_eq_emod (a := n) (b := (m : Int))
  have hlo : -(m : Int) < n.tmod m := by
    rw [ht]; split <;> omega
  have hhi : n.tmod m < (m : Int) := by
    rw [ht]; split <;> omega
  rw [← hR]
  by_cases hk : n.tmod m < 0
  · have hRk : R = n.tmod m + m := by
      rw [hR2]
      rw [ht] at hk ⊢
      split at hk
      · omega
      · rename_i h; rw [if_neg h]; omega
    have HR : Hid _ := hRk
    clear hR hR2 ht hb1 hb2 hRk
    go_enter Try.func17, Try.ntmps17
    go_wp2
    go_ret
    exact ⟨by rw [HR.out]; rfl, rfl⟩
  · have hRk : R = n.tmod m := by
      rw [hR2]
      rw [ht] at hk ⊢
      split at hk
      · rename_i h; rw [if_pos h]; omega
      · omega
    have HR : Hid _ := hRk
    clear hR hR2 ht hb1 hb2 hRk
    go_enter Try.func17, Try.ntmps17
    go_wp2
    go_ret
    exact ⟨by rw [HR.out]; rfl, rfl⟩
theorem own_set {W : World} {base e n g cap z : Nat} {vs : List Value} {x : Value} (h : W.ownsRow base e 1 (.slice (some ⟨g, 0, none⟩) n cap) n vs) : (W.setCell ⟨g, z, none⟩ x).ownsRow base e 1 (.slice (some ⟨g, 0, none⟩) n cap) n (vs.set z x) := by
  refine ⟨by simpa using h.1, ?_⟩
  rcases h.2 with ⟨h', _⟩ | ⟨g', cap', cur, h', hb, hg, hnc, hcm, hcs, htake⟩
  · simp at h'
  · simp only [Value.slice.injEq, Option.some.injEq, Addr.mk.injEq, and_true, true_and] at h'
    obtain ⟨rfl, rfl⟩ := h'
    refine .inr ⟨g, cap, cur.setIfInBounds z x, rfl, hb, set_cells hg, hnc, hcm, by simpa using hcs, ?_⟩
    rw [← htake]
    simp [List.take_set]
theorem own_other {W : World} {base b2 e e2 s n n2 g cap z : Nat} {v x : Value} {xs vs : List Value} (h : W.ownsRow base e s v n xs) (h2 : W.ownsRow b2 e2 1 (.slice (some ⟨g, 0, none⟩) n2 cap) n2 vs) (he : e ≠ e2) : (W.setCell ⟨g, z, none⟩ x).ownsRow base e s v n xs := by
  refine ⟨h.1, ?_⟩
  rcases h.2 with h' | ⟨g', cap', cur, e1, hb, hg, rest⟩
  · exact .inl h'
  · refine .inr ⟨g', cap', cur, e1, hb, ?_, rest⟩
    refine set_other hg ?_
    rintro rfl
    rcases h2.2 with ⟨h', _⟩ | ⟨g2, c2, k2, h', -, hg2, -⟩
    · simp at h'
    · simp only [Value.slice.injEq, Option.some.injEq, Addr.mk.injEq, and_true, true_and] at h'
      obtain ⟨rfl, rfl⟩ := h'
      rw [hg] at hg2
      cases hg2
      exact he rfl
theorem SO.put {base z g cap : Nat} {W : World} {vp vc x : Value} {s : Stt} {l : List Int} (h : SO base W (sv vp vc (.slice (some ⟨g, 0, none⟩) s.zs.length cap) s) s) (hz : z < s.zs.length) (hx : IRow base W x l) : SO base (W.setCell ⟨g, z, none⟩ x) (sv vp vc (.slice (some ⟨g, 0, none⟩) s.zs.length cap) s) (withZ s (s.zs.set z l)) := by
  obtain ⟨vp', vc', vz', hv, h1, h2, vs, h3, h4⟩ := h
  simp only [sv, Value.agg.injEq, Array.mk.injEq, List.cons.injEq, and_true] at hv
  obtain ⟨rfl, rfl, rfl⟩ := hv
  refine ⟨vp, vc, _, rfl, own_other h1 h3 (by decide), own_other h2 h3 (by decide), vs.set z x, ?_, fun i hi => ?_⟩
  · have := own_set (z := z) (x := x) h3
    simpa [withZ] using this
  · have hl := h3.1
    simp only [withZ, List.length_set] at hi ⊢
    by_cases e : i = z
    · subst e
      rw [List.getD_eq_getElem?_getD, List.getElem?_set_self (by omega), List.getD_eq_getElem?_getD, List.getElem?_set_self hi]
      exact own_other hx h3 (by decide)
    · rw [List.getD_eq_getElem?_getD, List.getElem?_set_ne (fun h => e h.symm), ← List.getD_eq_getElem?_getD, List.getD_eq_getElem?_getD (l := s.zs.set z l), List.getElem?_set_ne (fun h => e h.symm), ← List.getD_eq_getElem?_getD]
      exact own_other (h4 i hi) h3 (by decide)
theorem small_put {s : Stt} (h : lenS s ≤ 2147483647) {z : Nat} {l : List Int} (hl : l.length ≤ 2147483649) : Small (withZ s (s.zs.set z l)) := by
  obtain ⟨h1, h2, h3, h4⟩ := small_of h
  refine ⟨h1, h2, by simpa [withZ] using h3, fun r hr => ?_⟩
  simp only [withZ, List.length_set] at hr ⊢
  by_cases e : r = z
  · subst e
    rw [List.getD_eq_getElem?_getD, List.getElem?_set_self hr]
    simp; omega
  · rw [List.getD_eq_getElem?_getD, List.getElem?_set_ne (fun h => e h.symm), ← List.getD_eq_getElem?_getD]
    exact h4 r hr
end ST
end Go.Proofs.Ytndkpfkgcaebmaa
