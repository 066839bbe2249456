/-
  States of the program's own, as the bag takes them.
-/
import Derived.Test.YtndkpfkgcaebmaaDoorRa
import Derived.Test.YtndkpfkgcaebmaaDoorBas
namespace Go.Proofs.YtndkpfkgcaebmaaDoor
open Go.RowKit
namespace ST

theorem SOA.stIn {base : Nat} {W : World} {v : Value} {s : Stt} (h : SOA base W v s) (hsm : Small s) : BG.StIn W base W.heap.size v := by
  obtain ⟨vp, vc, vz, rfl, h1, h2, vs, h3, h4, h5⟩ := h
  exact ⟨vp, vc, vz, _, _, _, _, s.ps.length, s.cs.length, s.zs.length, vs, fun i => (s.zs.getD i []).length, rfl, ⟨⟨_, h1⟩, hsm.1, fun g hg => BG.row_lt h1 hg⟩, ⟨⟨_, h2⟩, hsm.2.1, fun g hg => BG.row_lt h2 hg⟩, ⟨h3, hsm.2.2.1, fun g hg => BG.row_lt h3 hg⟩, fun i hi => ⟨⟨_, h4 i hi⟩, hsm.2.2.2 i hi, fun g hg => BG.row_lt (h4 i hi) hg⟩, h5⟩
theorem own_wide {W : World} {base g e s n : Nat} {xs : List Value} (hb : base ≤ g) (h : W.heap[g]? = some (.cells xs.toArray e (0, 0))) (hl : xs.length = (n + 64) * s) (hn : n ≤ 4294967296) : W.ownsRow base e s (.slice (some ⟨g, 0, none⟩) n (n + 64)) n (xs.take (n * s)) :=
  ⟨by rw [List.length_take, hl]; exact Nat.min_eq_left (Nat.mul_le_mul_right _ (by omega)), .inr ⟨g, n + 64, xs.toArray, rfl, hb, h, by omega, by unfold maxLen; omega, by simpa using hl, rfl⟩⟩
theorem WSA.stIn {base : Nat} {W : World} {v : Value} {s : Stt} (h : WSA base W v s) (hsm : Small s) : BG.StIn W base W.heap.size v := by
  obtain ⟨vp, vc, vz, rfl, ⟨g1, p1, rfl, p3⟩, ⟨g2, c1, rfl, c3⟩, g3, vs, z1, rfl, z3, z4, z5, z6⟩ := h
  have o1 := own_wide (s := 3) (n := s.ps.length) p1 p3 (wPs_len _) hsm.1
  have o2 := own_wide (s := 6) (n := s.cs.length) c1 c3 (wCs_len _) hsm.2.1
  have o3 := own_wide (s := 1) (n := s.zs.length) z1 z3 (by omega) hsm.2.2.1
  have o4 : ∀ i, i < s.zs.length → ∃ xs, W.ownsRow base 3 1 ((vs.take (s.zs.length * 1)).getD i (.slice none 0 0)) ((s.zs.getD i []).length) xs := fun i hi => by
    have h := z5 i (by omega)
    rw [WRow, if_pos hi] at h
    obtain ⟨g, q1, q2, q3⟩ := h
    have := own_wide (s := 1) (n := (s.zs.getD i []).length) q1 q3 (by rw [wIs_len]; omega) (hsm.2.2.2 i hi)
    rw [← q2] at this
    have e : (vs.take (s.zs.length * 1)).getD i (.slice none 0 0) = vs.getD i nl := by rw [List.getD_eq_getElem?_getD, List.getElem?_take_of_lt (by omega), ← List.getD_eq_getElem?_getD]; rfl
    exact ⟨_, by rw [e]; exact this⟩
  refine ⟨_, _, _, _, _, _, _, s.ps.length, s.cs.length, s.zs.length, vs.take (s.zs.length * 1), fun i => (s.zs.getD i []).length, rfl, ⟨⟨_, o1⟩, hsm.1, fun g hg => BG.row_lt o1 hg⟩, ⟨⟨_, o2⟩, hsm.2.1, fun g hg => BG.row_lt o2 hg⟩, ⟨o3, hsm.2.2.1, fun g hg => BG.row_lt o3 hg⟩, fun i hi => ⟨o4 i hi, hsm.2.2.2 i hi, fun g hg => (o4 i hi).elim fun _ hx => BG.row_lt hx hg⟩, fun p q g hp hq => ?_⟩
  have e : ∀ i, i < s.zs.length → (vs.take (s.zs.length * 1)).getD i (.slice none 0 0) = vs.getD i nl := fun i hi => by
    rw [List.getD_eq_getElem?_getD, List.getElem?_take_of_lt (by omega), ← List.getD_eq_getElem?_getD]; rfl
  rw [e p hp, e q hq]
  exact z6 p q g hp hq
end ST
end Go.Proofs.YtndkpfkgcaebmaaDoor
