
/-
  Lists that lie apart, elements of whatever size: marks, what stays while one list after the other grows.
-/
import Derived.Test.YtoaaehgnbapibaaDoorBka
namespace Go.Proofs.YtoaaehgnbapibaaDoor.BG
open Go.RowKit

/- all but some blocks stay -/
def Exc (S : Nat → Prop) (w w' : World) : Prop := (w'.os = w.os ∧ w'.tape = w.tape ∧ w'.output = w.output) ∧ w.heap.size ≤ w'.heap.size ∧ ∀ b, b < w.heap.size → ¬ S b → w'.heap[b]? = w.heap[b]?
theorem Exc.refl (S : Nat → Prop) (w : World) : Exc S w w := ⟨⟨rfl, rfl, rfl⟩, Nat.le_refl _, fun _ _ _ => rfl⟩
theorem Exc.up {S : Nat → Prop} {w W W' : World} (h : Exc S w W) (u : Up W W') : Exc S w W' :=
  ⟨⟨u.os.trans h.1.1, u.tape.trans h.1.2.1, u.output.trans h.1.2.2⟩, Nat.le_trans h.2.1 u.size, fun b hb hs => (u.block b (Nat.lt_of_lt_of_le hb h.2.1)).trans (h.2.2 b hb hs)⟩
theorem Exc.set {S : Nat → Prop} {w W : World} (h : Exc S w W) (c j : Nat) (x : Value) (hc : S c ∨ w.heap.size ≤ c) : Exc S w (W.setCell ⟨c, j, none⟩ x) :=
  ⟨h.1, by simpa using h.2.1, fun b hb hs => by
    rw [Below.heap_setCell _ _ _ _ (by
      show b ≠ c
      rintro rfl
      rcases hc with hc | hc
      · exact hs hc
      · omega)]
    exact h.2.2 b hb hs⟩
theorem Exc.grown {S : Nat → Prop} {w W W' : World} {v : Value} (h : Exc S w W) (g : W.grownBy W' v.ownBlock) (hc : ∀ c, v.ownBlock = some c → S c ∨ w.heap.size ≤ c) : Exc S w W' :=
  ⟨⟨g.os.trans h.1.1, g.tape.trans h.1.2.1, g.output.trans h.1.2.2⟩, Nat.le_trans h.2.1 g.size, fun b hb hs => by
    rw [g.block b (Nat.lt_of_lt_of_le hb h.2.1) (fun e => by
      rcases hc b e.symm with hc | hc
      · exact hs hc
      · omega)]
    exact h.2.2 b hb hs⟩
theorem Exc.heap {S : Nat → Prop} {w W : World} (h : Exc S w W) {b : Nat} {o : Obj} (hb : w.heap[b]? = some o) (hs : ¬ S b) : W.heap[b]? = some o := by
  rw [h.2.2 b (Array.getElem?_eq_some_iff.1 hb).1 hs]; exact hb
theorem Exc.mono {S T : Nat → Prop} {w W : World} (h : Exc S w W) (hst : ∀ b, S b → T b) : Exc T w W := ⟨h.1, h.2.1, fun b hb ht => h.2.2 b hb (fun hs => ht (hst b hs))⟩
theorem Exc.below {S : Nat → Prop} {w W : World} (h : Exc S w W) (base : Nat) (hs : ∀ b, S b → base ≤ b) (hb : base ≤ w.heap.size) : Below base w W :=
  ⟨h.1.1, h.1.2.1, h.1.2.2, h.2.1, fun g hg => h.2.2 g (by omega) (fun hS => by have := hs g hS; omega)⟩
def mks (mk : Nat → Nat → List Value) (q n : Nat) : List Value := (List.range n).flatMap (mk q)
section
variable {mk : Nat → Nat → List Value} {s : Nat} (hs : ∀ q i, (mk q i).length = s)
include hs
theorem mks_len (q n : Nat) : (mks mk q n).length = n * s := by rw [mks, flat_len (mk q) s (hs q), List.length_range]
theorem mks_get (q n i j : Nat) (hi : i < n) (hj : j < s) : (mks mk q n)[i * s + j]? = (mk q i)[j]? := by
  have := flat_get (mk q) s (hs q) 0 (List.range n) i j (by simpa using hi) hj
  rw [mks, this]
  simp [List.getD_eq_getElem?_getD, hi]
end
theorem mks_more (mk : Nat → Nat → List Value) (q n : Nat) : mks mk q (n + 1) = mks mk q n ++ mk q n := by simp [mks, List.range_succ]
/- block b holds the marks of the first m elements of list q -/
def MB (mk : Nat → Nat → List Value) (e s : Nat) (W : World) (b q m : Nat) : Prop := (∃ cur, W.heap[b]? = some (.cells cur e (0, 0))) ∧ ∀ i j, i < m → j < s → W.cell? ⟨b, i * s + j, none⟩ = (mk q i)[j]?
theorem MB.block {mk : Nat → Nat → List Value} {e s : Nat} {W W' : World} {b q m : Nat} (h : MB mk e s W b q m) (k : W'.heap[b]? = W.heap[b]?) : MB mk e s W' b q m := by
  obtain ⟨⟨cur, h1⟩, h2⟩ := h
  exact ⟨⟨cur, by rw [k]; exact h1⟩, fun i j hi hj => by rw [World.cell?_of_block (w := W) (w' := W') (a := ⟨b, i * s + j, none⟩) k]; exact h2 i j hi hj⟩
theorem MB.lt {mk : Nat → Nat → List Value} {e s : Nat} {W : World} {b q m : Nat} (h : MB mk e s W b q m) : b < W.heap.size := by
  obtain ⟨⟨cur, h1⟩, -⟩ := h
  exact (Array.getElem?_eq_some_iff.1 h1).1
theorem MB.less {mk : Nat → Nat → List Value} {e s : Nat} {W : World} {b q m m' : Nat} (h : MB mk e s W b q m) (hm : m' ≤ m) : MB mk e s W b q m' := ⟨h.1, fun i j hi hj => h.2 i j (by omega) hj⟩
/- an own row of marks -/
theorem mb_own {mk : Nat → Nat → List Value} {e s base : Nat} (hs : ∀ q i, (mk q i).length = s) {W : World} {v : Value} {n q : Nat} (h : W.ownsRow base e s v n (mks mk q n)) {g : Nat} (hg : v.ownBlock = some g) : MB mk e s W g q n := by
  rcases h.2 with ⟨rfl, -⟩ | ⟨g', cap, cur, rfl, _, h1, _⟩
  · cases hg
  · have : g' = g := by simpa [Value.ownBlock] using hg
    subst this
    refine ⟨⟨cur, h1⟩, fun i j hi hj => ?_⟩
    have hk : i * s + j < n * s := by
      have : (i + 1) * s ≤ n * s := Nat.mul_le_mul_right _ hi
      rw [Nat.succ_mul] at this; omega
    rw [h.cellAt (i * s + j) hk, mks_get hs q n i j hi hj]
theorem own_block {W W' : World} {base e s n : Nat} {v : Value} {xs : List Value} (h : W.ownsRow base e s v n xs) (k : ∀ g, v.ownBlock = some g → W'.heap[g]? = W.heap[g]?) : W'.ownsRow base e s v n xs := by
  refine ⟨h.1, ?_⟩
  rcases h.2 with h | ⟨g, cap, cur, rfl, e2, e3, e4⟩
  · exact .inl h
  · exact .inr ⟨g, cap, cur, rfl, e2, by rw [k g rfl]; exact e3, e4⟩
abbrev VL := List (Value × Nat)
def dv : Value × Nat := (.slice none 0 0, 0)
def Blks (L : VL) (b : Nat) : Prop := ∃ p, p < L.length ∧ (L.getD p dv).1.ownBlock = some b
def Apart (L : VL) : Prop := ∀ p q g, p < L.length → q < L.length → p ≠ q → (L.getD p dv).1.ownBlock = some g → (L.getD q dv).1.ownBlock ≠ some g
/- up to list i all marked, behind it not yet -/
def Rows1 (mk : Nat → Nat → List Value) (base e s : Nat) (W : World) (L : VL) (i : Nat) : Prop := ∀ p, p < L.length → ∃ xs, W.ownsRow base e s (L.getD p dv).1 (L.getD p dv).2 xs ∧ (p < i → xs = mks mk p (L.getD p dv).2)
/- list p, its first i elements marked -/
def Row2 (mk : Nat → Nat → List Value) (base e s : Nat) (W : World) (L : VL) (p i : Nat) : Prop := (∀ q, q < L.length → ∃ xs, W.ownsRow base e s (L.getD q dv).1 (L.getD q dv).2 xs ∧ (q < p → xs = mks mk q (L.getD q dv).2) ∧ (q = p → xs.take (i * s) = mks mk p i))
theorem Rows1.start {mk : Nat → Nat → List Value} {base e s : Nat} {W : World} {L : VL} {p : Nat} (h : Rows1 mk base e s W L p) : Row2 mk base e s W L p 0 := fun q hq => by
  obtain ⟨xs, h1, h2⟩ := h q hq
  exact ⟨xs, h1, h2, fun _ => by rw [Nat.zero_mul]; rfl⟩
theorem Row2.finish {mk : Nat → Nat → List Value} {base e s : Nat} {W : World} {L : VL} {p : Nat} (h : Row2 mk base e s W L p (L.getD p dv).2) : Rows1 mk base e s W L (p + 1) := fun q hq => by
  obtain ⟨xs, h1, h2, h3⟩ := h q hq
  refine ⟨xs, h1, fun hlt => ?_⟩
  by_cases eq : q = p
  · subst eq
    have := h3 rfl
    rw [List.take_of_length_le (by rw [h1.1]; exact Nat.le_refl _)] at this
    exact this
  · exact h2 (by omega)
/- one more element of list p is marked: by whatever writes just its cells -/
theorem Row2.put {mk : Nat → Nat → List Value} {base e s : Nat} (hs : ∀ q i, (mk q i).length = s) {W W' : World} {L : VL} {p i g : Nat} {cur : Array Value} (h : Row2 mk base e s W L p i) (hp : p < L.length) (hi : i < (L.getD p dv).2) (hd : Apart L) (hg : (L.getD p dv).1.ownBlock = some g) (hcur : W.heap[g]? = some (.cells cur e (0, 0))) (hnew : W'.heap[g]? = some (.cells (cur.toList.take (i * s) ++ mk p i ++ cur.toList.drop (i * s + s)).toArray e (0, 0))) (hoth : ∀ b, b ≠ g → W'.heap[b]? = W.heap[b]?) : Row2 mk base e s W' L p (i + 1) := fun q hq => by
  obtain ⟨xs, h1, h2, h3⟩ := h q hq
  by_cases eq : q = p
  · subst eq
    rcases h1.2 with ⟨e0, -⟩ | ⟨g', cap, cur', ev, hb, hh, hnc, hcm, hcs, htk⟩
    · rw [e0] at hg; cases hg
    · rw [ev] at hg
      have hgg : g' = g := by simpa [Value.ownBlock] using hg
      subst hgg
      rw [hcur] at hh
      cases hh
      have hsz : i * s + s ≤ (L.getD q dv).2 * s := by rw [← Nat.succ_mul]; exact Nat.mul_le_mul_right _ hi
      have hcl : (L.getD q dv).2 * s ≤ cap * s := Nat.mul_le_mul_right _ hnc
      have hlen : (cur.toList.take (i * s) ++ mk q i ++ cur.toList.drop (i * s + s)).length = cap * s := by
        simp [hs]; omega
      refine ⟨(cur.toList.take (i * s) ++ mk q i ++ cur.toList.drop (i * s + s)).take ((L.getD q dv).2 * s), ⟨by rw [List.length_take, hlen]; omega, .inr ⟨g', cap, _, ev, hb, hnew, hnc, hcm, by simpa using hlen, by simp⟩⟩, fun hlt => by omega, fun _ => ?_⟩
      rw [List.take_take, Nat.min_eq_left (by rw [Nat.succ_mul]; exact hsz)]
      have h4 := h3 rfl
      rw [← htk, List.take_take, Nat.min_eq_left (by omega)] at h4
      rw [mks_more, ← h4, List.take_append, List.take_of_length_le (by simp [hs]; rw [Nat.succ_mul]; omega)]
      have : (i + 1) * s - (cur.toList.take (i * s) ++ mk q i).length = 0 := by simp [hs]; rw [Nat.succ_mul]; omega
      rw [this, List.take_zero, List.append_nil]
  · refine ⟨xs, own_block h1 (fun b hb => hoth b (fun h => ?_)), h2, fun h => absurd h eq⟩
    subst h
    exact hd p q b hp hq (fun h => eq h.symm) hg hb
end Go.Proofs.YtoaaehgnbapibaaDoor.BG
