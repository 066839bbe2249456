
/-
  Words for what a call leaves alone, and lists of ints in memory.
-/
import Derived.Test.YtoaaehgnbapibaaDoorProg
import Derived.WalkSpells
import Derived.WalkLawsBesides
import Derived.Handy
import Derived.Below
import Derived.OwnWalk
import Derived.Deep.QuietTactic
import Derived.BigQuiet
import Derived.BigRegion
import Derived.WalkSmall
import Derived.Laws.AppendOwnNone
import Derived.Deep.MidRow
import Derived.Deep.RegionHeld3
import Derived.Deep.DrawnRows
namespace Go.Proofs.YtoaaehgnbapibaaDoor
open Go.RowKit

theorem ret_int {k : IntKind} {a b : Int} (h : a = b) : Ending.returned (.int k a) = .returned (.int k b) := by rw [h]
def Up (w w' : World) : Prop := Below w.heap.size w w'
theorem Up.refl (w : World) : Up w w := Below.refl _ _
theorem Up.trans {a b c : World} (h : Up a b) (k : Up b c) : Up a c := Below.trans h (Below.mono k h.size)
theorem Up.alloc {a w : World} (h : Up a w) (o : Obj) : Up a (w.alloc o) := Below.alloc h h.size o
theorem Up.drew {a w : World} (h : Up a w) : Up a w.drew := Below.drew h
theorem Up.drewN {a w : World} (h : Up a w) (n : Nat) : Up a (w.drewN n) := ⟨h.os, h.tape, h.output, h.size, h.block⟩
theorem Up.cell {w w' : World} (h : Up w w') {p : Addr} {v : Value} (hc : w.cell? p = some v) : w'.cell? p = some v := by
  rw [Below.cell h (World.block_lt_of_cell? w p hc)]; exact hc
theorem Up.heap {w w' : World} (h : Up w w') {g : Nat} {o : Obj} (hg : w.heap[g]? = some o) : w'.heap[g]? = some o := by
  rw [h.block g (Array.getElem?_eq_some_iff.1 hg).1]; exact hg
/- at most block b and new ones -/
def Only (b : Nat) (w w' : World) : Prop := (w'.os = w.os ∧ w'.tape = w.tape ∧ w'.output = w.output) ∧ w.heap.size ≤ w'.heap.size ∧ ∀ g, g < w.heap.size → g ≠ b → w'.heap[g]? = w.heap[g]?
theorem Only.refl (b : Nat) (w : World) : Only b w w := ⟨⟨rfl, rfl, rfl⟩, Nat.le_refl _, fun _ _ _ => rfl⟩
theorem Only.trans {b : Nat} {x y z : World} (h : Only b x y) (k : Only b y z) : Only b x z :=
  ⟨⟨k.1.1.trans h.1.1, k.1.2.1.trans h.1.2.1, k.1.2.2.trans h.1.2.2⟩, Nat.le_trans h.2.1 k.2.1, fun g hg hb => (k.2.2 g (Nat.lt_of_lt_of_le hg h.2.1) hb).trans (h.2.2 g hg hb)⟩
theorem Only.up {b : Nat} {x y : World} (h : Up x y) : Only b x y := ⟨⟨h.os, h.tape, h.output⟩, h.size, fun g hg _ => h.block g hg⟩
theorem Only.set {b : Nat} {x y : World} (h : Only b x y) (j : Nat) (u : Value) : Only b x (y.setCell ⟨b, j, none⟩ u) :=
  ⟨h.1, by have := h.2.1; simpa using this, fun g hg hb => by rw [Below.heap_setCell _ _ _ _ hb]; exact h.2.2 g hg hb⟩
theorem Only.below {b B : Nat} {x y : World} (h : Only b x y) (h1 : B ≤ b) (h2 : B ≤ x.heap.size) : Below B x y :=
  ⟨h.1.1, h.1.2.1, h.1.2.2, h.2.1, fun g hg => h.2.2 g (by omega) (by omega)⟩
theorem Only.fresh {b : Nat} {x y : World} (h : Only b x y) (h1 : x.heap.size ≤ b) : Up x y := h.below h1 (Nat.le_refl _)
theorem Only.heap {b : Nat} {x y : World} (h : Only b x y) {g : Nat} {o : Obj} (hg : x.heap[g]? = some o) (hb : g ≠ b) : y.heap[g]? = some o := by
  rw [h.2.2 g (Array.getElem?_eq_some_iff.1 hg).1 hb]; exact hg
theorem row_up {w w' : World} {b e s n : Nat} {v : Value} {xs : List Value} (h : w.ownsRow b e s v n xs) (u : Up w w') : w'.ownsRow b e s v n xs := by
  refine ⟨h.1, ?_⟩
  rcases h.2 with h | ⟨g, cap, cur, e1, e2, e3, e4⟩
  · exact .inl h
  · exact .inr ⟨g, cap, cur, e1, e2, u.heap e3, e4⟩
theorem row_some {w : World} {b e s n : Nat} {v : Value} {xs : List Value} (h : w.ownsRow b e s v n xs) (hn : 0 < n) : ∃ g cap, b ≤ g ∧ n ≤ cap ∧ v = .slice (some ⟨g, 0, none⟩) n cap := by
  rcases h.2 with ⟨rfl, h0⟩ | ⟨g, cap, cur, rfl, hb, _, hc, _⟩
  · omega
  · exact ⟨g, cap, hb, hc, rfl⟩
theorem row_val {w : World} {base e s n : Nat} {v : Value} {xs : List Value} (h : w.ownsRow base e s v n xs) : ∃ ad cap, v = .slice ad n cap := by
  rcases h.2 with ⟨rfl, hn⟩ | ⟨g, cap, cur, rfl, _⟩
  · exact ⟨none, 0, by rw [hn]⟩
  · exact ⟨_, cap, rfl⟩
/- a flag that was set and set back: nothing has turned -/
theorem four_cells {W : World} {a : Nat} {x y z u : Value} {t : TypeId} (h : W.heap[a]? = some (.cells #[x, y, z, u] t (0, 0))) : W.cell? ⟨a, 0, none⟩ = some x ∧ W.cell? ⟨a, 1, none⟩ = some y ∧ W.cell? ⟨a, 2, none⟩ = some z ∧ W.cell? ⟨a, 3, none⟩ = some u ∧ (∀ j, W.frozen? ⟨a, j, none⟩ = false) := by
  refine ⟨by simp [World.cell?, h], by simp [World.cell?, h], by simp [World.cell?, h], by simp [World.cell?, h], fun j => by simp [World.frozen?, h]⟩
theorem set3 {W : World} {a : Nat} {x y z u : Value} {t : TypeId} (h : W.heap[a]? = some (.cells #[x, y, z, u] t (0, 0))) (u' : Value) : (W.setCell ⟨a, 3, none⟩ u').heap[a]? = some (.cells #[x, y, z, u'] t (0, 0)) := by
  simp only [World.setCell, Array.getElem?_modify]; rw [h]; simp
theorem set1 {W : World} {a : Nat} {x y z u : Value} {t : TypeId} (h : W.heap[a]? = some (.cells #[x, y, z, u] t (0, 0))) (y' : Value) : (W.setCell ⟨a, 1, none⟩ y').heap[a]? = some (.cells #[x, y', z, u] t (0, 0)) := by
  simp only [World.setCell, Array.getElem?_modify]; rw [h]; simp
theorem set2 {W : World} {a : Nat} {x y z u : Value} {t : TypeId} (h : W.heap[a]? = some (.cells #[x, y, z, u] t (0, 0))) (z' : Value) : (W.setCell ⟨a, 2, none⟩ z').heap[a]? = some (.cells #[x, y, z', u] t (0, 0)) := by
  simp only [World.setCell, Array.getElem?_modify]; rw [h]; simp
theorem ask_up {W Wa W2 : World} {hb : Nat} {x y z : Value} {t : TypeId} (h : W.heap[hb]? = some (.cells #[x, y, z, .bool false] t (0, 0))) (u : Up W Wa) (k : Up (Wa.setCell ⟨hb, 3, none⟩ (.bool true)) W2) : Up W (W2.setCell ⟨hb, 3, none⟩ (.bool false)) := by
  have hl : hb < W.heap.size := (Array.getElem?_eq_some_iff.1 h).1
  have ha := u.heap h
  have h1 := set3 ha (.bool true)
  have h2 := set3 (k.heap h1) (.bool false)
  have hz : (Wa.setCell ⟨hb, 3, none⟩ (.bool true)).heap.size = Wa.heap.size := by simp
  refine ⟨k.os.trans u.os, k.tape.trans u.tape, k.output.trans u.output, ?_, fun g hg => ?_⟩
  · have a := u.size; have b := k.size; rw [hz] at b; simp; omega
  · by_cases e : g = hb
    · subst e; rw [h2, h]
    · rw [Below.heap_setCell _ _ _ _ e, k.block g (by rw [hz]; exact Nat.lt_of_lt_of_le hg u.size), Below.heap_setCell _ _ _ _ e, u.block g hg]
/- lists of structs, cell by cell -/
theorem flat_len {E : Type} (f : E → List Value) (s : Nat) (hf : ∀ e, (f e).length = s) (l : List E) : (l.flatMap f).length = l.length * s := by
  induction l with
  | nil => simp
  | cons x l ih => rw [List.flatMap_cons, List.length_append, ih, hf, List.length_cons, Nat.succ_mul]; omega
theorem flat_get {E : Type} (f : E → List Value) (s : Nat) (hf : ∀ e, (f e).length = s) (d : E) (l : List E) : ∀ i j, i < l.length → j < s → (l.flatMap f)[i * s + j]? = (f (l.getD i d))[j]? := by
  induction l with
  | nil => intro i j h; simp at h
  | cons x l ih =>
    intro i j hi hj
    rw [List.flatMap_cons]
    cases i with
    | zero => rw [Nat.zero_mul, Nat.zero_add, List.getElem?_append_left (by rw [hf]; exact hj)]; rfl
    | succ i =>
      rw [List.getElem?_append_right (by rw [hf, Nat.succ_mul]; omega), hf, show (i + 1) * s + j - s = i * s + j by rw [Nat.succ_mul]; omega, ih i j (by simpa using hi) hj]
      rfl
theorem flat_take {E : Type} (f : E → List Value) (s : Nat) (hf : ∀ e, (f e).length = s) (l : List E) : ∀ n, (l.flatMap f).take (n * s) = (l.take n).flatMap f := by
  induction l with
  | nil => simp
  | cons x l ih =>
    intro n
    cases n with
    | zero => simp
    | succ n => rw [List.flatMap_cons, List.take_append, hf, List.take_of_length_le (by rw [hf, Nat.succ_mul]; omega), show (n + 1) * s - s = n * s by rw [Nat.succ_mul]; omega, ih n]; rfl
theorem set_mid {A : Type} (p q : List A) (x y : A) : (p ++ x :: q).set p.length y = p ++ y :: q := by simp
theorem flat_set2 {E : Type} (f : E → List Value) (hf : ∀ e, (f e).length = 2) (l : List E) (e : E) : ∀ i, i < l.length → (l.set i e).flatMap f = ((l.flatMap f).set (i * 2) ((f e).getD 0 undef)).set (i * 2 + 1) ((f e).getD 1 undef) := by
  induction l with
  | nil => intro i h; simp at h
  | cons x l ih =>
    intro i hi
    obtain ⟨a, b, hx⟩ : ∃ a b, f x = [a, b] := by
      have := hf x
      match h : f x, this with
      | [a, b], _ => exact ⟨a, b, rfl⟩
    obtain ⟨a', b', he⟩ : ∃ a b, f e = [a, b] := by
      have := hf e
      match h : f e, this with
      | [a, b], _ => exact ⟨a, b, rfl⟩
    cases i with
    | zero => simp [hx, he]
    | succ i =>
      rw [List.set_cons_succ, List.flatMap_cons, List.flatMap_cons, hx, ih i (by simpa using hi), show (i + 1) * 2 = i * 2 + 1 + 1 by omega, show i * 2 + 1 + 1 + 1 = (i * 2 + 1) + 1 + 1 by omega]
      rfl
theorem flat_set3 {E : Type} (f : E → List Value) (hf : ∀ e, (f e).length = 3) (l : List E) (e : E) : ∀ i, i < l.length → (l.set i e).flatMap f = (((l.flatMap f).set (i * 3) ((f e).getD 0 undef)).set (i * 3 + 1) ((f e).getD 1 undef)).set (i * 3 + 2) ((f e).getD 2 undef) := by
  induction l with
  | nil => intro i h; simp at h
  | cons x l ih =>
    intro i hi
    obtain ⟨a, b, c, hx⟩ : ∃ a b c, f x = [a, b, c] := by
      have := hf x
      match h : f x, this with
      | [a, b, c], _ => exact ⟨a, b, c, rfl⟩
    obtain ⟨a', b', c', he⟩ : ∃ a b c, f e = [a, b, c] := by
      have := hf e
      match h : f e, this with
      | [a, b, c], _ => exact ⟨a, b, c, rfl⟩
    cases i with
    | zero => simp [hx, he]
    | succ i =>
      rw [List.set_cons_succ, List.flatMap_cons, List.flatMap_cons, hx, ih i (by simpa using hi), show (i + 1) * 3 = i * 3 + 1 + 1 + 1 by omega]
      rfl
/- a row cut short at its end -/
theorem row_short {w : World} {b e s n m : Nat} {g cap : Nat} {xs : List Value} (h : w.ownsRow b e s (.slice (some ⟨g, 0, none⟩) n cap) n xs) (hm : m ≤ n) : w.ownsRow b e s (.slice (some ⟨g, 0, none⟩) m cap) m (xs.take (m * s)) := by
  rcases h.2 with ⟨h', _⟩ | ⟨g', cap', cur, h', hb, hg, hnc, hcm, hcs, htake⟩
  · simp at h'
  · simp only [Value.slice.injEq, Option.some.injEq, Addr.mk.injEq, and_true, true_and] at h'
    obtain ⟨rfl, rfl⟩ := h'
    have hle : m * s ≤ n * s := Nat.mul_le_mul_right s hm
    refine ⟨by rw [List.length_take, h.1]; omega, .inr ⟨g, cap, cur, rfl, hb, hg, by omega, hcm, hcs, ?_⟩⟩
    rw [← htake, List.take_take, Nat.min_eq_left hle]
theorem cell_first (W : World) (cs : Array Value) (t : TypeId) (o : Obj) (n j : Nat) (h : n = W.heap.size) : ((W.alloc (.cells cs t)).alloc o).cell? ⟨n, j, none⟩ = cs[j]? := by
  subst h
  have : ((W.alloc (.cells cs t)).alloc o).heap[W.heap.size]? = some (.cells cs t (0, 0)) := by rw [Below.heap_alloc _ _ _ (by simp)]; exact heap_alloc_new W _
  simp [World.cell?, this]
theorem cell_second (W : World) (o : Obj) (cs : Array Value) (t : TypeId) (n j : Nat) (h : n = W.heap.size + 1) : ((W.alloc o).alloc (.cells cs t)).cell? ⟨n, j, none⟩ = cs[j]? := by
  subst h
  have : ((W.alloc o).alloc (.cells cs t)).heap[W.heap.size + 1]? = some (.cells cs t (0, 0)) := by
    have := heap_alloc_new (W.alloc o) (.cells cs t)
    simpa using this
  unfold World.cell?
  dsimp only
  rw [this]
  rfl
end Go.Proofs.YtoaaehgnbapibaaDoor
