
/-
  Lists in memory, cell by cell.
-/
import Derived.Test.YtoaaehgnbapibaaDoorCopy
namespace Go.Proofs.YtoaaehgnbapibaaDoor
open Go.RowKit

theorem Up.trans' {a b c : World} {k : Nat} (h : Up a b) (o : Only k b c) (hk : a.heap.size ≤ k) : Up a c := Below.trans h (o.below hk h.size)
def LC (W : World) (v : Value) (s n : Nat) (cs : List Value) : Prop := cs.length = n * s ∧ ∃ a cap, v = .slice a n cap ∧ n ≤ cap ∧ (n ≠ 0 → ∃ b off, a = some ⟨b, off, none⟩ ∧ ∀ j, j < n * s → W.cell? ⟨b, off + j, none⟩ = cs[j]?)
theorem LC.up {W W' : World} {v : Value} {s n : Nat} {cs : List Value} (h : LC W v s n cs) (u : Up W W') : LC W' v s n cs := by
  obtain ⟨h0, a, cap, hv, hc, h⟩ := h
  refine ⟨h0, a, cap, hv, hc, fun hn => ?_⟩
  obtain ⟨b, off, ha, hcell⟩ := h hn
  refine ⟨b, off, ha, fun j hj => ?_⟩
  have := hcell j hj
  rw [← this]
  rw [List.getElem?_eq_getElem (by omega)] at this
  rw [this]; exact u.cell this
theorem LC.src {W : World} {v : Value} {s n b off cap : Nat} {cs : List Value} (h : LC W v s n cs) (hv : v = .slice (some ⟨b, off, none⟩) n cap) (hn : n ≠ 0) : ∀ j x, cs[j]? = some x → W.cell? ⟨b, off + j, none⟩ = some x := by
  intro j x hx
  obtain ⟨h0, a, cap', rfl, _, h⟩ := h
  obtain ⟨b', off', rfl, hc⟩ := h hn
  cases hv
  have hj : j < cs.length := (List.getElem?_eq_some_iff.1 hx).1
  rw [hc j (by omega)]; exact hx
theorem row_made {w : World} {base g n e s : Nat} {xs : List Value} (h : w.ownsRow base e s (.slice (some ⟨g, 0, none⟩) n n) n xs) : w.heap[g]? = some (.cells xs.toArray e (0, 0)) := by
  rcases h.2 with ⟨h', _⟩ | ⟨g', cap, cur, h', _, hh, _, _, hs, ht⟩
  · simp at h'
  · simp only [Value.slice.injEq, Option.some.injEq, Addr.mk.injEq, and_true, true_and] at h'
    obtain ⟨rfl, rfl⟩ := h'
    rw [hh, ← ht, List.take_of_length_le (by simp; omega)]
theorem lc_row {W : World} {g n e s : Nat} {cs : List Value} (h : W.heap[g]? = some (.cells cs.toArray e (0, 0))) (hl : cs.length = n * s) (cap : Nat) (hc : n ≤ cap) : LC W (.slice (some ⟨g, 0, none⟩) n cap) s n cs :=
  ⟨hl, some ⟨g, 0, none⟩, cap, rfl, hc, fun _ => ⟨g, 0, rfl, fun j _ => by simp [World.cell?, h]⟩⟩
theorem splice_two (z c1 c2 : List Value) (h : z.length = c1.length + c2.length) : splice (splice z 0 c1) c1.length c2 = c1 ++ c2 := by
  unfold splice
  simp only [List.take_zero, List.nil_append, Nat.zero_add]
  rw [List.take_append_of_le_length (Nat.le_refl _), List.take_of_length_le (Nat.le_refl _), List.drop_of_length_le (by simp; omega), List.append_nil]
end Go.Proofs.YtoaaehgnbapibaaDoor
