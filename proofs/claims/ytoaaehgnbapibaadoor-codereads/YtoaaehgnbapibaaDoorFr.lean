
/-
  What the calls at a heap leave alone: all but the heap's own block and the blocks of its entries.
-/
import Derived.Test.YtoaaehgnbapibaaDoorBase
import Derived.Deep.RegionLaw
import Derived.Deep.AppendLies
namespace Go.Proofs.YtoaaehgnbapibaaDoor
open Go.RowKit

theorem row_type {w : World} {b e s n m g cap : Nat} {xs : List Value} (h : w.ownsRow b e s (.slice (some ⟨g, 0, none⟩) n cap) m xs) : ∀ o, w.heap[g]? = some o → ∃ cs fz, o = .cells cs e fz := by
  intro o ho
  rcases h.2 with ⟨h', _⟩ | ⟨g', cap', cur, h', _, hg', _⟩
  · simp at h'
  · simp only [Value.slice.injEq, Option.some.injEq, Addr.mk.injEq, and_true] at h'
    rw [← h'.1] at hg'
    rw [hg'] at ho
    exact ⟨cur, (0, 0), (Option.some.inj ho).symm⟩
/- all stays but for block hb and the blocks of type tE from base on -/
def Fr (tE hb base : Nat) (W W' : World) : Prop := (W'.os = W.os ∧ W'.tape = W.tape ∧ W'.output = W.output) ∧ W.heap.size ≤ W'.heap.size ∧ ∀ (g : Nat) (o : Obj), W.heap[g]? = some o → g ≠ hb → (g < base ∨ ∀ (cs : Array Value) (fz : Nat × Nat), o ≠ .cells cs tE fz) → W'.heap[g]? = some o
theorem Fr.refl (tE hb base : Nat) (W : World) : Fr tE hb base W W := ⟨⟨rfl, rfl, rfl⟩, Nat.le_refl _, fun _ _ h _ _ => h⟩
theorem Fr.trans {tE hb base : Nat} {a b c : World} (h : Fr tE hb base a b) (k : Fr tE hb base b c) : Fr tE hb base a c :=
  ⟨⟨k.1.1.trans h.1.1, k.1.2.1.trans h.1.2.1, k.1.2.2.trans h.1.2.2⟩, Nat.le_trans h.2.1 k.2.1, fun g o e h1 h2 => k.2.2 g o (h.2.2 g o e h1 h2) h1 h2⟩
theorem Fr.up {tE hb base : Nat} {a b : World} (h : Up a b) : Fr tE hb base a b := ⟨⟨h.os, h.tape, h.output⟩, h.size, fun _ _ e _ _ => h.heap e⟩
theorem Fr.set {tE hb base : Nat} {a b : World} (h : Fr tE hb base a b) (j : Nat) (u : Value) : Fr tE hb base a (b.setCell ⟨hb, j, none⟩ u) :=
  ⟨h.1, by have := h.2.1; simpa using this, fun g o e h1 h2 => by rw [Below.heap_setCell _ _ _ _ h1]; exact h.2.2 g o e h1 h2⟩
theorem Fr.only {tE hb base g : Nat} {a b c : World} (h : Fr tE hb base a b) (k : Only g b c) (hg : base ≤ g) (ht : ∀ o, b.heap[g]? = some o → ∃ cs fz, o = .cells cs tE fz) : Fr tE hb base a c := by
  refine ⟨⟨k.1.1.trans h.1.1, k.1.2.1.trans h.1.2.1, k.1.2.2.trans h.1.2.2⟩, Nat.le_trans h.2.1 k.2.1, fun q o e h1 h2 => ?_⟩
  have hq := h.2.2 q o e h1 h2
  by_cases eq : q = g
  · subst eq
    obtain ⟨cs, fz, rfl⟩ := ht o hq
    rcases h2 with h2 | h2
    · omega
    · exact absurd rfl (h2 cs fz)
  · exact k.heap hq eq
theorem Fr.grown {tE hb base s n : Nat} {a b c : World} {v : Value} {xs : List Value} (h : Fr tE hb base a b) (hr : b.ownsRow base tE s v n xs) (k : b.grownBy c v.ownBlock) : Fr tE hb base a c := by
  refine ⟨⟨k.os.trans h.1.1, k.tape.trans h.1.2.1, k.output.trans h.1.2.2⟩, Nat.le_trans h.2.1 k.size, fun q o e h1 h2 => ?_⟩
  have hq := h.2.2 q o e h1 h2
  by_cases eq : v.ownBlock = some q
  · rcases hr.2 with ⟨rfl, _⟩ | ⟨g', cap, cur, rfl, hb', hh, _⟩
    · cases eq
    · cases eq
      rw [hh] at hq
      cases hq
      rcases h2 with h2 | h2
      · have h3 : g' < base := h2
        omega
      · exact absurd rfl (h2 _ _)
  · rw [k.block q (Array.getElem?_eq_some_iff.1 hq).1 (fun e => eq e.symm)]; exact hq
theorem Fr.fresh {tE hb base p : Nat} {a b : World} (h : Fr tE hb base a b) (hp : a.heap.size ≤ p) (j : Nat) (u : Value) : Fr tE hb base a (b.setCell ⟨p, j, none⟩ u) :=
  ⟨h.1, by have := h.2.1; simpa using this, fun g o e h1 h2 => by
    have hl := (Array.getElem?_eq_some_iff.1 e).1
    rw [Below.heap_setCell _ _ _ _ (by show g ≠ p; omega)]; exact h.2.2 g o e h1 h2⟩
theorem Fr.below {tE hb base : Nat} {a b : World} (h : Fr tE hb base a b) (hb1 : hb < base) (hs : hb ≤ a.heap.size) : Below hb a b :=
  ⟨h.1.1, h.1.2.1, h.1.2.2, h.2.1, fun g hg => by
    have hl : g < a.heap.size := by omega
    rw [h.2.2 g a.heap[g] (Array.getElem?_eq_getElem hl) (by omega) (.inl (by omega)), Array.getElem?_eq_getElem hl]⟩
/- a block that such a call leaves alone -/
def Safe (tE hb base : Nat) (W : World) (b : Nat) : Prop := b ≠ hb ∧ (b < base ∨ ∀ o, W.heap[b]? = some o → ∀ (cs : Array Value) (fz : Nat × Nat), o ≠ .cells cs tE fz)
theorem Safe.heap {tE hb base : Nat} {W W' : World} {b : Nat} (h : Safe tE hb base W b) (k : Fr tE hb base W W') (hl : b < W.heap.size) : W'.heap[b]? = W.heap[b]? := by
  have e := Array.getElem?_eq_getElem hl
  rw [e]
  exact k.2.2 b _ e h.1 (h.2.imp id (fun h => h _ e))
theorem Safe.fr {tE hb base : Nat} {W W' : World} {b : Nat} (h : Safe tE hb base W b) (k : Fr tE hb base W W') (hl : b < W.heap.size) : Safe tE hb base W' b := by
  refine ⟨h.1, h.2.imp id (fun h2 o ho => ?_)⟩
  rw [Safe.heap h k hl] at ho
  exact h2 o ho
theorem Safe.cell {tE hb base : Nat} {W W' : World} {b j : Nat} {v : Value} (h : Safe tE hb base W b) (k : Fr tE hb base W W') (hc : W.cell? ⟨b, j, none⟩ = some v) : W'.cell? ⟨b, j, none⟩ = some v := by
  rw [World.cell?_of_block (w := W) (w' := W') (a := ⟨b, j, none⟩) (h.heap k (World.block_lt_of_cell? W _ hc))]; exact hc
end Go.Proofs.YtoaaehgnbapibaaDoor
