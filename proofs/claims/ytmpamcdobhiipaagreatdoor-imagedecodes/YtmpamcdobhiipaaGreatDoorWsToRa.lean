/-
  WideRows, WideState.
-/
import Derived.Test.YtmpamcdobhiipaaGreatDoorWrToNw
namespace Go.Proofs.YtmpamcdobhiipaaGreatDoor
open Go.RowKit
attribute [local go_sem ↓] Go.wp_at_zero Go.wp_at_succ

namespace ST
theorem WI.less {b b' : Nat} {W : World} {v : Value} {l : List Int} (h : WI b W v l) (hb : b' ≤ b) : WI b' W v l := by
  obtain ⟨g, h1, h2⟩ := h
  exact ⟨g, by omega, h2⟩
def WRs (base : Nat) (w W : World) (g n : Nat) (zs : List (List Int)) (i : Nat) (cs : List Value) : Prop := W.heap[g]? = some (.cells cs.toArray 84 (0, 0)) ∧ cs.length = n + 64 ∧ (∀ q, q < i → WRow base W (cs.getD q nl) zs q) ∧ Up w W
theorem WRs.put {base : Nat} {w W W1 : World} {g n : Nat} {zs : List (List Int)} {i : Nat} {cs : List Value} {x : Value} (h : WRs base w W g n zs i cs) (u : Up W W1) (hi : i < n + 64) (hx : WRow base W1 x zs i) (hg : w.heap.size ≤ g) : WRs base w (W1.setCell ⟨g, i, none⟩ x) g n zs (i + 1) (cs.set i x) := by
  obtain ⟨h1, h2, h3, h4⟩ := h
  have k1 := u.heap h1
  have kp : ∀ g' cs', base ≤ g' → W1.heap[g']? = some (.cells cs' 3 (0, 0)) → (W1.setCell ⟨g, i, none⟩ x).heap[g']? = some (.cells cs' 3 (0, 0)) := fun g' cs' _ h' => set_other h' (heap_ne h' k1 (by decide))
  refine ⟨?_, by simpa using h2, fun q hq => ?_, Up.set (h4.trans u) _ _ hg⟩
  · have := set_cells (j := i) (x := x) k1
    simpa using this
  · by_cases e : q = i
    · subst e
      rw [List.getD_eq_getElem?_getD, List.getElem?_set_self (by omega)]
      exact hx.keep kp
    · rw [List.getD_eq_getElem?_getD, List.getElem?_set_ne (fun h => e h.symm), ← List.getD_eq_getElem?_getD]
      exact ((h3 q (by omega)).keep (fun g' cs' _ h' => u.heap h')).keep kp
end ST
end Go.Proofs.YtmpamcdobhiipaaGreatDoor
/-
  WideState.
-/
namespace Go.Proofs.YtmpamcdobhiipaaGreatDoor
open Go.RowKit
attribute [local go_sem ↓] Go.wp_at_zero Go.wp_at_succ

namespace ST
theorem WP.less {b b' : Nat} {W : World} {v : Value} {l : List Ply} (h : WP b W v l) (hb : b' ≤ b) : WP b' W v l := by
  obtain ⟨g, h1, h2⟩ := h
  exact ⟨g, by omega, h2⟩
theorem WP.val {b : Nat} {W : World} {v : Value} {l : List Ply} (h : WP b W v l) : ∃ a c, v = .slice a l.length c := by
  obtain ⟨g, h1, h2, -⟩ := h
  exact ⟨_, _, h2⟩
theorem WP.set {b k j : Nat} {W : World} {v u : Value} {l : List Ply} (h : WP b W v l) (hk : k < b) : WP b (W.setCell ⟨k, j, none⟩ u) v l := by
  obtain ⟨g, h1, h2, h3⟩ := h
  exact ⟨g, h1, h2, set_other h3 (by omega)⟩
theorem WC.less {b b' : Nat} {W : World} {v : Value} {l : List Crd} (h : WC b W v l) (hb : b' ≤ b) : WC b' W v l := by
  obtain ⟨g, h1, h2⟩ := h
  exact ⟨g, by omega, h2⟩
theorem WC.val {b : Nat} {W : World} {v : Value} {l : List Crd} (h : WC b W v l) : ∃ a c, v = .slice a l.length c := by
  obtain ⟨g, h1, h2, -⟩ := h
  exact ⟨_, _, h2⟩
theorem WC.set {b k j : Nat} {W : World} {v u : Value} {l : List Crd} (h : WC b W v l) (hk : k < b) : WC b (W.setCell ⟨k, j, none⟩ u) v l := by
  obtain ⟨g, h1, h2, h3⟩ := h
  exact ⟨g, h1, h2, set_other h3 (by omega)⟩
theorem WRow.less {b b' : Nat} {W : World} {x : Value} {zs : List (List Int)} {i : Nat} (h : WRow b W x zs i) (hb : b' ≤ b) : WRow b' W x zs i := by
  unfold WRow at h ⊢
  split
  · rename_i hi
    rw [if_pos hi] at h
    exact h.less hb
  · rename_i hi
    rw [if_neg hi] at h
    obtain ⟨g, h1, h2⟩ := h
    exact ⟨g, by omega, h2⟩
theorem WZ.less {b b' : Nat} {W : World} {v : Value} {l : List (List Int)} (h : WZ b W v l) (hb : b' ≤ b) : WZ b' W v l := by
  obtain ⟨g, vs, h1, h2, h3, h4, h5⟩ := h
  exact ⟨g, vs, by omega, h2, h3, h4, fun i hi => (h5 i hi).less hb⟩
theorem WZ.val {b : Nat} {W : World} {v : Value} {l : List (List Int)} (h : WZ b W v l) : ∃ a c, v = .slice a l.length c := by
  obtain ⟨g, vs, h1, h2, -⟩ := h
  exact ⟨_, _, h2⟩
theorem WZ.set {b k j : Nat} {W : World} {v u : Value} {l : List (List Int)} (h : WZ b W v l) (hk : k < b) : WZ b (W.setCell ⟨k, j, none⟩ u) v l := by
  obtain ⟨g, vs, h1, h2, h3, h4, h5⟩ := h
  exact ⟨g, vs, h1, h2, set_other h3 (by omega), h4, fun i hi => (h5 i hi).keep (fun g' cs' hb h' => set_other h' (by omega))⟩
theorem WS.set {b k j : Nat} {W : World} {v u : Value} {s : Stt} (h : WS b W v s) (hk : k < b) : WS b (W.setCell ⟨k, j, none⟩ u) v s := by
  obtain ⟨vp, vc, vz, hv, h1, h2, h3⟩ := h
  exact ⟨vp, vc, vz, hv, h1.set hk, h2.set hk, h3.set hk⟩
theorem WS.less {b b' : Nat} {W : World} {v : Value} {s : Stt} (h : WS b W v s) (hb : b' ≤ b) : WS b' W v s := by
  obtain ⟨vp, vc, vz, hv, h1, h2, h3⟩ := h
  exact ⟨vp, vc, vz, hv, h1.less hb, h2.less hb, h3.less hb⟩
end ST
end Go.Proofs.YtmpamcdobhiipaaGreatDoor
/-
  States of whose lists each lies in a block of its own.
-/
namespace Go.Proofs.YtmpamcdobhiipaaGreatDoor
open Go.RowKit
namespace ST

def RA (n : Nat) (vs : List Value) : Prop := ∀ p q g, p < n → q < n → p ≠ q → (vs.getD p nl).ownBlock = some g → (vs.getD q nl).ownBlock ≠ some g
theorem RA.nil (vs : List Value) : RA 0 vs := fun p _ _ hp => absurd hp (Nat.not_lt_zero p)
/- one more: its block is none of those before -/
theorem RA.put {i : Nat} {vs : List Value} {x : Value} (h : RA i vs) (hi : i < vs.length) (hx : ∀ p g, p < i → (vs.getD p nl).ownBlock = some g → x.ownBlock ≠ some g) : RA (i + 1) (vs.set i x) := by
  have e1 : (vs.set i x).getD i nl = x := by rw [List.getD_eq_getElem?_getD, List.getElem?_set_self hi]; rfl
  have e2 : ∀ p, p ≠ i → (vs.set i x).getD p nl = vs.getD p nl := fun p hp => by rw [List.getD_eq_getElem?_getD, List.getElem?_set_ne (fun h => hp h.symm), ← List.getD_eq_getElem?_getD]
  intro p q g hp hq hpq h1 h2
  by_cases ep : p = i
  · subst ep
    rw [e1] at h1
    rw [e2 q (fun h => hpq h.symm)] at h2
    exact hx q g (by omega) h2 h1
  · rw [e2 p ep] at h1
    by_cases eq : q = i
    · subst eq
      rw [e1] at h2
      exact hx p g (by omega) h1 h2
    · rw [e2 q eq] at h2
      exact h p q g (by omega) (by omega) hpq h1 h2
def SOA (base : Nat) (W : World) (v : Value) (s : Stt) : Prop := ∃ vp vc vz, v = sv vp vc vz s ∧ PO base W vp s.ps ∧ CO base W vc s.cs ∧ ∃ vs, W.ownsRow base 84 1 vz s.zs.length vs ∧ (∀ i, i < s.zs.length → IRow base W (vs.getD i nl) (s.zs.getD i [])) ∧ RA s.zs.length vs
theorem SOA.so {base : Nat} {W : World} {v : Value} {s : Stt} (h : SOA base W v s) : SO base W v s := by
  obtain ⟨vp, vc, vz, hv, h1, h2, vs, h3, h4, -⟩ := h
  exact ⟨vp, vc, vz, hv, h1, h2, vs, h3, h4⟩
theorem SOA.up {base : Nat} {W W' : World} {v : Value} {s : Stt} (h : SOA base W v s) (u : Up W W') : SOA base W' v s := by
  obtain ⟨vp, vc, vz, hv, h1, h2, vs, h3, h4, h5⟩ := h
  exact ⟨vp, vc, vz, hv, row_up h1 u, row_up h2 u, vs, row_up h3 u, fun i hi => row_up (h4 i hi) u, h5⟩
def WZA (base : Nat) (W : World) (v : Value) (zs : List (List Int)) : Prop := ∃ g vs, base ≤ g ∧ v = .slice (some ⟨g, 0, none⟩) zs.length (zs.length + 64) ∧ W.heap[g]? = some (.cells (vs : List Value).toArray 84 (0, 0)) ∧ vs.length = zs.length + 64 ∧ (∀ i, i < zs.length + 64 → WRow base W (vs.getD i nl) zs i) ∧ RA zs.length vs
theorem WZA.wz {base : Nat} {W : World} {v : Value} {zs : List (List Int)} (h : WZA base W v zs) : WZ base W v zs := by
  obtain ⟨g, vs, h1, h2, h3, h4, h5, -⟩ := h
  exact ⟨g, vs, h1, h2, h3, h4, h5⟩
theorem WZA.up {base : Nat} {W W' : World} {v : Value} {zs : List (List Int)} (h : WZA base W v zs) (u : Up W W') : WZA base W' v zs := by
  obtain ⟨g, vs, h1, h2, h3, h4, h5, h6⟩ := h
  exact ⟨g, vs, h1, h2, u.heap h3, h4, fun i hi => (h5 i hi).keep (fun _ _ _ hg => u.heap hg), h6⟩
theorem WZA.less {b b' : Nat} {W : World} {v : Value} {l : List (List Int)} (h : WZA b W v l) (hb : b' ≤ b) : WZA b' W v l := by
  obtain ⟨g, vs, h1, h2, h3, h4, h5, h6⟩ := h
  exact ⟨g, vs, Nat.le_trans hb h1, h2, h3, h4, fun i hi => (h5 i hi).less hb, h6⟩
theorem WZA.set {b k j : Nat} {W : World} {v u : Value} {l : List (List Int)} (h : WZA b W v l) (hk : k < b) : WZA b (W.setCell ⟨k, j, none⟩ u) v l := by
  obtain ⟨g, vs, h1, h2, h3, h4, h5, h6⟩ := h
  exact ⟨g, vs, h1, h2, set_other h3 (by omega), h4, fun i hi => (h5 i hi).keep (fun g' cs' hb h' => set_other h' (by omega)), h6⟩
def WSA (base : Nat) (W : World) (v : Value) (s : Stt) : Prop := ∃ vp vc vz, v = sv vp vc vz s ∧ WP base W vp s.ps ∧ WC base W vc s.cs ∧ WZA base W vz s.zs
theorem WSA.ws {base : Nat} {W : World} {v : Value} {s : Stt} (h : WSA base W v s) : WS base W v s := by
  obtain ⟨vp, vc, vz, hv, h1, h2, h3⟩ := h
  exact ⟨vp, vc, vz, hv, h1, h2, h3.wz⟩
theorem WSA.up {base : Nat} {W W' : World} {v : Value} {s : Stt} (h : WSA base W v s) (u : Up W W') : WSA base W' v s := by
  obtain ⟨vp, vc, vz, hv, h1, h2, h3⟩ := h
  exact ⟨vp, vc, vz, hv, h1.up u, h2.up u, h3.up u⟩
theorem WSA.set {b k j : Nat} {W : World} {v u : Value} {s : Stt} (h : WSA b W v s) (hk : k < b) : WSA b (W.setCell ⟨k, j, none⟩ u) v s := by
  obtain ⟨vp, vc, vz, hv, h1, h2, h3⟩ := h
  exact ⟨vp, vc, vz, hv, h1.set hk, h2.set hk, h3.set hk⟩
theorem WSA.less {b b' : Nat} {W : World} {v : Value} {s : Stt} (h : WSA b W v s) (hb : b' ≤ b) : WSA b' W v s := by
  obtain ⟨vp, vc, vz, hv, h1, h2, h3⟩ := h
  exact ⟨vp, vc, vz, hv, h1.less hb, h2.less hb, h3.less hb⟩
end ST
end Go.Proofs.YtmpamcdobhiipaaGreatDoor
