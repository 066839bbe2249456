/-
  Lists in memory, cell by cell.
-/
import Derived.Test.YtkldllnnocdhbaaGreatDoorProg
import Derived.WalkSpells
import Derived.WalkLawsBesides
import Derived.Handy
import Derived.Below
import Derived.OwnWalk
import Derived.Deep.QuietTactic
import Derived.BigQuiet
import Derived.BigRegion
import Derived.WalkSmall
import Derived.Laws.AppendOwnNone
import Derived.Deep.MidRow
import Derived.Deep.RegionHeld3
import Derived.Deep.DrawnRows
import Derived.Deep.RegionLaw
import Derived.Deep.AppendLies
import Derived.Laws.CopyOwn
namespace Go.Proofs.YtkldllnnocdhbaaGreatDoor
open Go.RowKit

theorem ret_int {k : IntKind} {a b : Int} (h : a = b) : Ending.returned (.int k a) = .returned (.int k b) := by rw [h]
def Up (w w' : World) : Prop := Below w.heap.size w w'
theorem Up.refl (w : World) : Up w w := Below.refl _ _
theorem Up.trans {a b c : World} (h : Up a b) (k : Up b c) : Up a c := Below.trans h (Below.mono k h.size)
theorem Up.alloc {a w : World} (h : Up a w) (o : Obj) : Up a (w.alloc o) := Below.alloc h h.size o
theorem Up.drew {a w : World} (h : Up a w) : Up a w.drew := Below.drew h
theorem Up.drewN {a w : World} (h : Up a w) (n : Nat) : Up a (w.drewN n) := ⟨h.os, h.tape, h.output, h.size, h.block⟩
theorem Up.cell {w w' : World} (h : Up w w') {p : Addr} {v : Value} (hc : w.cell? p = some v) : w'.cell? p = some v := by
  rw [Below.cell h (World.block_lt_of_cell? w p hc)]; exact hc
theorem Up.heap {w w' : World} (h : Up w w') {g : Nat} {o : Obj} (hg : w.heap[g]? = some o) : w'.heap[g]? = some o := by
  rw [h.block g (Array.getElem?_eq_some_iff.1 hg).1]; exact hg
/- at most block b and new ones -/
def Only (b : Nat) (w w' : World) : Prop := (w'.os = w.os ∧ w'.tape = w.tape ∧ w'.output = w.output) ∧ w.heap.size ≤ w'.heap.size ∧ ∀ g, g < w.heap.size → g ≠ b → w'.heap[g]? = w.heap[g]?
theorem Only.refl (b : Nat) (w : World) : Only b w w := ⟨⟨rfl, rfl, rfl⟩, Nat.le_refl _, fun _ _ _ => rfl⟩
theorem Only.trans {b : Nat} {x y z : World} (h : Only b x y) (k : Only b y z) : Only b x z :=
  ⟨⟨k.1.1.trans h.1.1, k.1.2.1.trans h.1.2.1, k.1.2.2.trans h.1.2.2⟩, Nat.le_trans h.2.1 k.2.1, fun g hg hb => (k.2.2 g (Nat.lt_of_lt_of_le hg h.2.1) hb).trans (h.2.2 g hg hb)⟩
theorem Only.up {b : Nat} {x y : World} (h : Up x y) : Only b x y := ⟨⟨h.os, h.tape, h.output⟩, h.size, fun g hg _ => h.block g hg⟩
theorem Only.set {b : Nat} {x y : World} (h : Only b x y) (j : Nat) (u : Value) : Only b x (y.setCell ⟨b, j, none⟩ u) :=
  ⟨h.1, by have := h.2.1; simpa using this, fun g hg hb => by rw [Below.heap_setCell _ _ _ _ hb]; exact h.2.2 g hg hb⟩
theorem Only.below {b B : Nat} {x y : World} (h : Only b x y) (h1 : B ≤ b) (h2 : B ≤ x.heap.size) : Below B x y :=
  ⟨h.1.1, h.1.2.1, h.1.2.2, h.2.1, fun g hg => h.2.2 g (by omega) (by omega)⟩
theorem Only.fresh {b : Nat} {x y : World} (h : Only b x y) (h1 : x.heap.size ≤ b) : Up x y := h.below h1 (Nat.le_refl _)
theorem Only.heap {b : Nat} {x y : World} (h : Only b x y) {g : Nat} {o : Obj} (hg : x.heap[g]? = some o) (hb : g ≠ b) : y.heap[g]? = some o := by
  rw [h.2.2 g (Array.getElem?_eq_some_iff.1 hg).1 hb]; exact hg
theorem row_up {w w' : World} {b e s n : Nat} {v : Value} {xs : List Value} (h : w.ownsRow b e s v n xs) (u : Up w w') : w'.ownsRow b e s v n xs := by
  refine ⟨h.1, ?_⟩
  rcases h.2 with h | ⟨g, cap, cur, e1, e2, e3, e4⟩
  · exact .inl h
  · exact .inr ⟨g, cap, cur, e1, e2, u.heap e3, e4⟩
theorem row_some {w : World} {b e s n : Nat} {v : Value} {xs : List Value} (h : w.ownsRow b e s v n xs) (hn : 0 < n) : ∃ g cap, b ≤ g ∧ n ≤ cap ∧ v = .slice (some ⟨g, 0, none⟩) n cap := by
  rcases h.2 with ⟨rfl, h0⟩ | ⟨g, cap, cur, rfl, hb, _, hc, _⟩
  · omega
  · exact ⟨g, cap, hb, hc, rfl⟩
theorem row_val {w : World} {base e s n : Nat} {v : Value} {xs : List Value} (h : w.ownsRow base e s v n xs) : ∃ ad cap, v = .slice ad n cap := by
  rcases h.2 with ⟨rfl, hn⟩ | ⟨g, cap, cur, rfl, _⟩
  · exact ⟨none, 0, by rw [hn]⟩
  · exact ⟨_, cap, rfl⟩
/- a flag that was set and set back: nothing has turned -/
theorem four_cells {W : World} {a : Nat} {x y z u : Value} {t : TypeId} (h : W.heap[a]? = some (.cells #[x, y, z, u] t (0, 0))) : W.cell? ⟨a, 0, none⟩ = some x ∧ W.cell? ⟨a, 1, none⟩ = some y ∧ W.cell? ⟨a, 2, none⟩ = some z ∧ W.cell? ⟨a, 3, none⟩ = some u ∧ (∀ j, W.frozen? ⟨a, j, none⟩ = false) := by
  refine ⟨by simp [World.cell?, h], by simp [World.cell?, h], by simp [World.cell?, h], by simp [World.cell?, h], fun j => by simp [World.frozen?, h]⟩
theorem set3 {W : World} {a : Nat} {x y z u : Value} {t : TypeId} (h : W.heap[a]? = some (.cells #[x, y, z, u] t (0, 0))) (u' : Value) : (W.setCell ⟨a, 3, none⟩ u').heap[a]? = some (.cells #[x, y, z, u'] t (0, 0)) := by
  simp only [World.setCell, Array.getElem?_modify]; rw [h]; simp
theorem set1 {W : World} {a : Nat} {x y z u : Value} {t : TypeId} (h : W.heap[a]? = some (.cells #[x, y, z, u] t (0, 0))) (y' : Value) : (W.setCell ⟨a, 1, none⟩ y').heap[a]? = some (.cells #[x, y', z, u] t (0, 0)) := by
  simp only [World.setCell, Array.getElem?_modify]; rw [h]; simp
theorem set2 {W : World} {a : Nat} {x y z u : Value} {t : TypeId} (h : W.heap[a]? = some (.cells #[x, y, z, u] t (0, 0))) (z' : Value) : (W.setCell ⟨a, 2, none⟩ z').heap[a]? = some (.cells #[x, y, z', u] t (0, 0)) := by
  simp only [World.setCell, Array.getElem?_modify]; rw [h]; simp
theorem ask_up {W Wa W2 : World} {hb : Nat} {x y z : Value} {t : TypeId} (h : W.heap[hb]? = some (.cells #[x, y, z, .bool false] t (0, 0))) (u : Up W Wa) (k : Up (Wa.setCell ⟨hb, 3, none⟩ (.bool true)) W2) : Up W (W2.setCell ⟨hb, 3, none⟩ (.bool false)) := by
  have hl : hb < W.heap.size := (Array.getElem?_eq_some_iff.1 h).1
  have ha := u.heap h
  have h1 := set3 ha (.bool true)
  have h2 := set3 (k.heap h1) (.bool false)
  have hz : (Wa.setCell ⟨hb, 3, none⟩ (.bool true)).heap.size = Wa.heap.size := by simp
  refine ⟨k.os.trans u.os, k.tape.trans u.tape, k.output.trans u.output, ?_, fun g hg => ?_⟩
  · have a := u.size; have b := k.size; rw [hz] at b; simp; omega
  · by_cases e : g = hb
    · subst e; rw [h2, h]
    · rw [Below.heap_setCell _ _ _ _ e, k.block g (by rw [hz]; exact Nat.lt_of_lt_of_le hg u.size), Below.heap_setCell _ _ _ _ e, u.block g hg]
/- lists of structs, cell by cell -/
theorem flat_len {E : Type} (f : E → List Value) (s : Nat) (hf : ∀ e, (f e).length = s) (l : List E) : (l.flatMap f).length = l.length * s := by
  induction l with
  | nil => simp
  | cons x l ih => rw [List.flatMap_cons, List.length_append, ih, hf, List.length_cons, Nat.succ_mul]; omega
theorem flat_get {E : Type} (f : E → List Value) (s : Nat) (hf : ∀ e, (f e).length = s) (d : E) (l : List E) : ∀ i j, i < l.length → j < s → (l.flatMap f)[i * s + j]? = (f (l.getD i d))[j]? := by
  induction l with
  | nil => intro i j h; simp at h
  | cons x l ih =>
    intro i j hi hj
    rw [List.flatMap_cons]
    cases i with
    | zero => rw [Nat.zero_mul, Nat.zero_add, List.getElem?_append_left (by rw [hf]; exact hj)]; rfl
    | succ i =>
      rw [List.getElem?_append_right (by rw [hf, Nat.succ_mul]; omega), hf, show (i + 1) * s + j - s = i * s + j by rw [Nat.succ_mul]; omega, ih i j (by simpa using hi) hj]
      rfl
theorem flat_take {E : Type} (f : E → List Value) (s : Nat) (hf : ∀ e, (f e).length = s) (l : List E) : ∀ n, (l.flatMap f).take (n * s) = (l.take n).flatMap f := by
  induction l with
  | nil => simp
  | cons x l ih =>
    intro n
    cases n with
    | zero => simp
    | succ n => rw [List.flatMap_cons, List.take_append, hf, List.take_of_length_le (by rw [hf, Nat.succ_mul]; omega), show (n + 1) * s - s = n * s by rw [Nat.succ_mul]; omega, ih n]; rfl
theorem set_mid {A : Type} (p q : List A) (x y : A) : (p ++ x :: q).set p.length y = p ++ y :: q := by simp
theorem flat_set2 {E : Type} (f : E → List Value) (hf : ∀ e, (f e).length = 2) (l : List E) (e : E) : ∀ i, i < l.length → (l.set i e).flatMap f = ((l.flatMap f).set (i * 2) ((f e).getD 0 undef)).set (i * 2 + 1) ((f e).getD 1 undef) := by
  induction l with
  | nil => intro i h; simp at h
  | cons x l ih =>
    intro i hi
    obtain ⟨a, b, hx⟩ : ∃ a b, f x = [a, b] := by
      have := hf x
      match h : f x, this with
      | [a, b], _ => exact ⟨a, b, rfl⟩
    obtain ⟨a', b', he⟩ : ∃ a b, f e = [a, b] := by
      have := hf e
      match h : f e, this with
      | [a, b], _ => exact ⟨a, b, rfl⟩
    cases i with
    | zero => simp [hx, he]
    | succ i =>
      rw [List.set_cons_succ, List.flatMap_cons, List.flatMap_cons, hx, ih i (by simpa using hi), show (i + 1) * 2 = i * 2 + 1 + 1 by omega, show i * 2 + 1 + 1 + 1 = (i * 2 + 1) + 1 + 1 by omega]
      rfl
theorem flat_set3 {E : Type} (f : E → List Value) (hf : ∀ e, (f e).length = 3) (l : List E) (e : E) : ∀ i, i < l.length → (l.set i e).flatMap f = (((l.flatMap f).set (i * 3) ((f e).getD 0 undef)).set (i * 3 + 1) ((f e).getD 1 undef)).set (i * 3 + 2) ((f e).getD 2 undef) := by
  induction l with
  | nil => intro i h; simp at h
  | cons x l ih =>
    intro i hi
    obtain ⟨a, b, c, hx⟩ : ∃ a b c, f x = [a, b, c] := by
      have := hf x
      match h : f x, this with
      | [a, b, c], _ => exact ⟨a, b, c, rfl⟩
    obtain ⟨a', b', c', he⟩ : ∃ a b c, f e = [a, b, c] := by
      have := hf e
      match h : f e, this with
      | [a, b, c], _ => exact ⟨a, b, c, rfl⟩
    cases i with
    | zero => simp [hx, he]
    | succ i =>
      rw [List.set_cons_succ, List.flatMap_cons, List.flatMap_cons, hx, ih i (by simpa using hi), show (i + 1) * 3 = i * 3 + 1 + 1 + 1 by omega]
      rfl
/- a row cut short at its end -/
theorem row_short {w : World} {b e s n m : Nat} {g cap : Nat} {xs : List Value} (h : w.ownsRow b e s (.slice (some ⟨g, 0, none⟩) n cap) n xs) (hm : m ≤ n) : w.ownsRow b e s (.slice (some ⟨g, 0, none⟩) m cap) m (xs.take (m * s)) := by
  rcases h.2 with ⟨h', _⟩ | ⟨g', cap', cur, h', hb, hg, hnc, hcm, hcs, htake⟩
  · simp at h'
  · simp only [Value.slice.injEq, Option.some.injEq, Addr.mk.injEq, and_true, true_and] at h'
    obtain ⟨rfl, rfl⟩ := h'
    have hle : m * s ≤ n * s := Nat.mul_le_mul_right s hm
    refine ⟨by rw [List.length_take, h.1]; omega, .inr ⟨g, cap, cur, rfl, hb, hg, by omega, hcm, hcs, ?_⟩⟩
    rw [← htake, List.take_take, Nat.min_eq_left hle]
theorem cell_first (W : World) (cs : Array Value) (t : TypeId) (o : Obj) (n j : Nat) (h : n = W.heap.size) : ((W.alloc (.cells cs t)).alloc o).cell? ⟨n, j, none⟩ = cs[j]? := by
  subst h
  have : ((W.alloc (.cells cs t)).alloc o).heap[W.heap.size]? = some (.cells cs t (0, 0)) := by rw [Below.heap_alloc _ _ _ (by simp)]; exact heap_alloc_new W _
  simp [World.cell?, this]
theorem cell_second (W : World) (o : Obj) (cs : Array Value) (t : TypeId) (n j : Nat) (h : n = W.heap.size + 1) : ((W.alloc o).alloc (.cells cs t)).cell? ⟨n, j, none⟩ = cs[j]? := by
  subst h
  have : ((W.alloc o).alloc (.cells cs t)).heap[W.heap.size + 1]? = some (.cells cs t (0, 0)) := by
    have := heap_alloc_new (W.alloc o) (.cells cs t)
    simpa using this
  unfold World.cell?
  dsimp only
  rw [this]
  rfl
end Go.Proofs.YtkldllnnocdhbaaGreatDoor
namespace Go.Proofs.YtkldllnnocdhbaaGreatDoor
open Go.RowKit

theorem row_type {w : World} {b e s n m g cap : Nat} {xs : List Value} (h : w.ownsRow b e s (.slice (some ⟨g, 0, none⟩) n cap) m xs) : ∀ o, w.heap[g]? = some o → ∃ cs fz, o = .cells cs e fz := by
  intro o ho
  rcases h.2 with ⟨h', _⟩ | ⟨g', cap', cur, h', _, hg', _⟩
  · simp at h'
  · simp only [Value.slice.injEq, Option.some.injEq, Addr.mk.injEq, and_true] at h'
    rw [← h'.1] at hg'
    rw [hg'] at ho
    exact ⟨cur, (0, 0), (Option.some.inj ho).symm⟩
/- all stays but for block hb and the blocks of type tE from base on -/
def Fr (tE hb base : Nat) (W W' : World) : Prop := (W'.os = W.os ∧ W'.tape = W.tape ∧ W'.output = W.output) ∧ W.heap.size ≤ W'.heap.size ∧ ∀ (g : Nat) (o : Obj), W.heap[g]? = some o → g ≠ hb → (g < base ∨ ∀ (cs : Array Value) (fz : Nat × Nat), o ≠ .cells cs tE fz) → W'.heap[g]? = some o
theorem Fr.refl (tE hb base : Nat) (W : World) : Fr tE hb base W W := ⟨⟨rfl, rfl, rfl⟩, Nat.le_refl _, fun _ _ h _ _ => h⟩
theorem Fr.trans {tE hb base : Nat} {a b c : World} (h : Fr tE hb base a b) (k : Fr tE hb base b c) : Fr tE hb base a c :=
  ⟨⟨k.1.1.trans h.1.1, k.1.2.1.trans h.1.2.1, k.1.2.2.trans h.1.2.2⟩, Nat.le_trans h.2.1 k.2.1, fun g o e h1 h2 => k.2.2 g o (h.2.2 g o e h1 h2) h1 h2⟩
theorem Fr.up {tE hb base : Nat} {a b : World} (h : Up a b) : Fr tE hb base a b := ⟨⟨h.os, h.tape, h.output⟩, h.size, fun _ _ e _ _ => h.heap e⟩
theorem Fr.set {tE hb base : Nat} {a b : World} (h : Fr tE hb base a b) (j : Nat) (u : Value) : Fr tE hb base a (b.setCell ⟨hb, j, none⟩ u) :=
  ⟨h.1, by have := h.2.1; simpa using this, fun g o e h1 h2 => by rw [Below.heap_setCell _ _ _ _ h1]; exact h.2.2 g o e h1 h2⟩
theorem Fr.only {tE hb base g : Nat} {a b c : World} (h : Fr tE hb base a b) (k : Only g b c) (hg : base ≤ g) (ht : ∀ o, b.heap[g]? = some o → ∃ cs fz, o = .cells cs tE fz) : Fr tE hb base a c := by
  refine ⟨⟨k.1.1.trans h.1.1, k.1.2.1.trans h.1.2.1, k.1.2.2.trans h.1.2.2⟩, Nat.le_trans h.2.1 k.2.1, fun q o e h1 h2 => ?_⟩
  have hq := h.2.2 q o e h1 h2
  by_cases eq : q = g
  · subst eq
    obtain ⟨cs, fz, rfl⟩ := ht o hq
    rcases h2 with h2 | h2
    · omega
    · exact absurd rfl (h2 cs fz)
  · exact k.heap hq eq
theorem Fr.grown {tE hb base s n : Nat} {a b c : World} {v : Value} {xs : List Value} (h : Fr tE hb base a b) (hr : b.ownsRow base tE s v n xs) (k : b.grownBy c v.ownBlock) : Fr tE hb base a c := by
  refine ⟨⟨k.os.trans h.1.1, k.tape.trans h.1.2.1, k.output.trans h.1.2.2⟩, Nat.le_trans h.2.1 k.size, fun q o e h1 h2 => ?_⟩
  have hq := h.2.2 q o e h1 h2
  by_cases eq : v.ownBlock = some q
  · rcases hr.2 with ⟨rfl, _⟩ | ⟨g', cap, cur, rfl, hb', hh, _⟩
    · cases eq
    · cases eq
      rw [hh] at hq
      cases hq
      rcases h2 with h2 | h2
      · have h3 : g' < base := h2
        omega
      · exact absurd rfl (h2 _ _)
  · rw [k.block q (Array.getElem?_eq_some_iff.1 hq).1 (fun e => eq e.symm)]; exact hq
theorem Fr.fresh {tE hb base p : Nat} {a b : World} (h : Fr tE hb base a b) (hp : a.heap.size ≤ p) (j : Nat) (u : Value) : Fr tE hb base a (b.setCell ⟨p, j, none⟩ u) :=
  ⟨h.1, by have := h.2.1; simpa using this, fun g o e h1 h2 => by
    have hl := (Array.getElem?_eq_some_iff.1 e).1
    rw [Below.heap_setCell _ _ _ _ (by show g ≠ p; omega)]; exact h.2.2 g o e h1 h2⟩
theorem Fr.below {tE hb base : Nat} {a b : World} (h : Fr tE hb base a b) (hb1 : hb < base) (hs : hb ≤ a.heap.size) : Below hb a b :=
  ⟨h.1.1, h.1.2.1, h.1.2.2, h.2.1, fun g hg => by
    have hl : g < a.heap.size := by omega
    rw [h.2.2 g a.heap[g] (Array.getElem?_eq_getElem hl) (by omega) (.inl (by omega)), Array.getElem?_eq_getElem hl]⟩
/- a block that such a call leaves alone -/
def Safe (tE hb base : Nat) (W : World) (b : Nat) : Prop := b ≠ hb ∧ (b < base ∨ ∀ o, W.heap[b]? = some o → ∀ (cs : Array Value) (fz : Nat × Nat), o ≠ .cells cs tE fz)
theorem Safe.heap {tE hb base : Nat} {W W' : World} {b : Nat} (h : Safe tE hb base W b) (k : Fr tE hb base W W') (hl : b < W.heap.size) : W'.heap[b]? = W.heap[b]? := by
  have e := Array.getElem?_eq_getElem hl
  rw [e]
  exact k.2.2 b _ e h.1 (h.2.imp id (fun h => h _ e))
theorem Safe.fr {tE hb base : Nat} {W W' : World} {b : Nat} (h : Safe tE hb base W b) (k : Fr tE hb base W W') (hl : b < W.heap.size) : Safe tE hb base W' b := by
  refine ⟨h.1, h.2.imp id (fun h2 o ho => ?_)⟩
  rw [Safe.heap h k hl] at ho
  exact h2 o ho
theorem Safe.cell {tE hb base : Nat} {W W' : World} {b j : Nat} {v : Value} (h : Safe tE hb base W b) (k : Fr tE hb base W W') (hc : W.cell? ⟨b, j, none⟩ = some v) : W'.cell? ⟨b, j, none⟩ = some v := by
  rw [World.cell?_of_block (w := W) (w' := W') (a := ⟨b, j, none⟩) (h.heap k (World.block_lt_of_cell? W _ hc))]; exact hc
end Go.Proofs.YtkldllnnocdhbaaGreatDoor
namespace Go.Proofs.YtkldllnnocdhbaaGreatDoor
open Go.RowKit

theorem Only.setRow (w : World) (g : Nat) (cs : Array Value) : Only g w (w.setRow g cs) := ⟨⟨rfl, rfl, rfl⟩, by simp, fun k _ hk => setRow_other w g k cs hk⟩
theorem run_copyS {P : Program} (w : World) (dT sT ty elem : TypeId) (size : Nat) (hs0 : 0 < size) (dp sp : Option Addr) (dLen dCap sLen sCap g off : Nat) (cur : List Value) (t : TypeId)
    (hu : P.underlying dT = some (.slice elem)) (hsz : (P.info? elem).map (·.size) = some size) (hg : w.heap[g]? = some (.cells cur.toArray t (0, 0))) (cs : List Value) (hn : cs.length = Nat.min sLen dLen * size)
    (hpos : 0 < cs.length → dp = some ⟨g, off, none⟩ ∧ ∃ ad, sp = some ad ∧ ∀ j v, cs[j]? = some v → w.cell? (ad.add j) = some v) (hfit : off + cs.length ≤ cur.length) (h1 : ∀ v ∈ cs, v.oneCell' = true) :
    ∃ w', (Builtin.copy_ #[dT, sT] ty #[.slice dp dLen dCap, .slice sp sLen sCap]).run P w = .ok (goInt (Nat.min sLen dLen : Nat)) w' ∧ w'.heap[g]? = some (.cells (splice cur off cs).toArray t (0, 0)) ∧ Only g w w' := by
  cases hq : P.info? elem with
  | none => simp [hq] at hsz
  | some i =>
    have hi : i.size = size := by simpa [hq] using hsz
    by_cases h0 : cs.length = 0
    · obtain rfl : cs = [] := List.eq_nil_of_length_eq_zero h0
      have hm : Nat.min sLen dLen = 0 := by
        rcases Nat.mul_eq_zero.1 hn.symm with h | h
        · exact h
        · omega
      refine ⟨w, ?_, by simpa [splice] using hg, Only.refl _ _⟩
      have hl0 : ∀ (x : Addr), (loadCells x 0).run P w = .ok #[] w := fun x => by simpa using run_loadCells_list (P := P) w x [] (by simp)
      cases sp <;> cases dp <;> simp [Builtin.copy_, run_underlying hu, Builtin.lenOf, Builtin.firstCells, sizeOf, typeInfo, hq, hm, storeCells, hl0]
    · obtain ⟨rfl, ad, rfl, hsrc⟩ := hpos (by omega)
      have hl := run_loadCells_list (P := P) w ad cs hsrc
      have hst := run_storeCells_at P g off t cs 0 cur.toArray w hg (by simpa using hfit) h1
      refine ⟨_, ?_, setRow_heap w g _ _ t _ hg, Only.setRow w g _⟩
      rw [hn] at hl
      simp [Builtin.copy_, run_underlying hu, Builtin.lenOf, Builtin.firstCells, sizeOf, typeInfo, hq, hi, hl, hst, splice]
theorem wp_copyS {P : Program} (w : World) {o : Oper} {a : Act} {K : Act → World → Prop} {Q : Exit → Act → World → Prop} (d s : Operand) (dT sT : TypeId) (ho : o.op = .call { callee := .builtin .copy, args := #[d, s], argTypes := #[dT, sT] })
    (elem : TypeId) (size : Nat) (hs0 : 0 < size) (dp sp : Option Addr) (dLen dCap sLen sCap : Nat) (hd : a.eval d = .slice dp dLen dCap) (hs : a.eval s = .slice sp sLen sCap) (g off : Nat) (cur : List Value) (t : TypeId)
    (hu : P.underlying dT = some (.slice elem)) (hsz : (P.info? elem).map (·.size) = some size) (hg : w.heap[g]? = some (.cells cur.toArray t (0, 0))) (cs : List Value) (hn : cs.length = Nat.min sLen dLen * size)
    (hpos : 0 < cs.length → dp = some ⟨g, off, none⟩ ∧ ∃ ad, sp = some ad ∧ ∀ j v, cs[j]? = some v → w.cell? (ad.add j) = some v) (hfit : off + cs.length ≤ cur.length) (h1 : ∀ v ∈ cs, v.oneCell' = true)
    (h : ∀ w', w'.heap[g]? = some (.cells (splice cur off cs).toArray t (0, 0)) → Only g w w' → K (a.put o.dst (goInt (Nat.min sLen dLen : Nat))) w') : o.wp P a w K Q := by
  obtain ⟨w', hr, h2, h3⟩ := run_copyS (P := P) w dT sT o.type elem size hs0 dp sp dLen dCap sLen sCap g off cur t hu hsz hg cs hn hpos hfit h1
  unfold Oper.wp execOp
  simp only [ho, resolve, invoke, builtin, Sem.run_bind, Sem.run_pure, Result.andThen_ok, List.map_toArray, List.map_cons, List.map_nil, hs, hd, hr]
  exact h w' h2 h3
theorem wpList_copyS {P : Program} (w : World) {ops : Array Oper} {rest : List Oper} {o : Oper} {a : Act} {Q : Exit → Act → World → Prop} (hgd : o.guard = none) (d s : Operand) (dT sT : TypeId) (ho : o.op = .call { callee := .builtin .copy, args := #[d, s], argTypes := #[dT, sT] })
    (elem : TypeId) (size : Nat) (hs0 : 0 < size) (dp sp : Option Addr) (dLen dCap sLen sCap : Nat) (hd : a.eval d = .slice dp dLen dCap) (hs : a.eval s = .slice sp sLen sCap) (g off : Nat) (cur : List Value) (t : TypeId)
    (hu : P.underlying dT = some (.slice elem)) (hsz : (P.info? elem).map (·.size) = some size) (hg : w.heap[g]? = some (.cells cur.toArray t (0, 0))) (cs : List Value) (hn : cs.length = Nat.min sLen dLen * size)
    (hpos : 0 < cs.length → dp = some ⟨g, off, none⟩ ∧ ∃ ad, sp = some ad ∧ ∀ j v, cs[j]? = some v → w.cell? (ad.add j) = some v) (hfit : off + cs.length ≤ cur.length) (h1 : ∀ v ∈ cs, v.oneCell' = true)
    (h : ∀ w', w'.heap[g]? = some (.cells (splice cur off cs).toArray t (0, 0)) → Only g w w' → wpList P ops Q rest (a.put o.dst (goInt (Nat.min sLen dLen : Nat))) w') : wpList P ops Q (o :: rest) a w :=
  wpList_plain hgd fun _ hK => wp_copyS w d s dT sT ho elem size hs0 dp sp dLen dCap sLen sCap hd hs g off cur t hu hsz hg cs hn hpos hfit h1 fun w' h2 h3 => hK _ _ (h w' h2 h3)
theorem step_copyS {P : Program} (w : World) {ops : Array Oper} {o : Oper} {a : Act} {K : Act → World → Prop} {Q : Exit → Act → World → Prop} {E : Prop} (hgd : o.guard = none) (d s : Operand) (dT sT : TypeId) (ho : o.op = .call { callee := .builtin .copy, args := #[d, s], argTypes := #[dT, sT] })
    (elem : TypeId) (size : Nat) (hs0 : 0 < size) (dp sp : Option Addr) (dLen dCap sLen sCap : Nat) (hd : a.eval d = .slice dp dLen dCap) (hs : a.eval s = .slice sp sLen sCap) (g off : Nat) (cur : List Value) (t : TypeId)
    (hu : P.underlying dT = some (.slice elem)) (hsz : (P.info? elem).map (·.size) = some size) (hg : w.heap[g]? = some (.cells cur.toArray t (0, 0))) (cs : List Value) (hn : cs.length = Nat.min sLen dLen * size)
    (hpos : 0 < cs.length → dp = some ⟨g, off, none⟩ ∧ ∃ ad, sp = some ad ∧ ∀ j v, cs[j]? = some v → w.cell? (ad.add j) = some v) (hfit : off + cs.length ≤ cur.length) (h1 : ∀ v ∈ cs, v.oneCell' = true)
    (h : ∀ w', w'.heap[g]? = some (.cells (splice cur off cs).toArray t (0, 0)) → Only g w w' → K (a.put o.dst (goInt (Nat.min sLen dLen : Nat))) w') :
    if Region.wanted o (yielded ops a.tmps) = true then Oper.wp P o a w K Q else E := by
  have hw : Region.wanted o (yielded ops a.tmps) = true := by simp [Region.wanted, hgd]
  rw [if_pos hw]
  exact wp_copyS w d s dT sT ho elem size hs0 dp sp dLen dCap sLen sCap hd hs g off cur t hu hsz hg cs hn hpos hfit h1 h
/- clear -/
theorem run_clear0 {P : Program} (w : World) (t ty e : TypeId) (ht : P.underlying t = some (.slice e)) (sp : Option Addr) (n c : Nat) (h : sp = none ∨ n = 0) : (Builtin.clear_ #[t] ty #[.slice sp n c]).run P w = .ok (.tuple #[]) w := by
  rcases h with rfl | rfl
  · simp [Builtin.clear_, run_underlying ht]
  · cases sp <;> simp [Builtin.clear_, run_underlying ht]
theorem run_clearS {P : Program} (w : World) (t ty e : TypeId) (z : Value) (ht : P.underlying t = some (.slice e)) (hv : ∀ w, (zeroValue e).run P w = .ok z w) (size : Nat) (hz : z.cells.size = size) (h1 : ∀ u ∈ z.cells, u.oneCell' = true) (hs0 : 0 < size)
    (g off n c : Nat) (cur : List Value) (te : TypeId) (hg : w.heap[g]? = some (.cells cur.toArray te (0, 0))) (hfit : off + n * size ≤ cur.length) :
    ∃ zs w', zs.length = n * size ∧ (Builtin.clear_ #[t] ty #[.slice (some ⟨g, off, none⟩) n c]).run P w = .ok (.tuple #[]) w' ∧ w'.heap[g]? = some (.cells (splice cur off zs).toArray te (0, 0)) ∧ Only g w w' := by
  have hzl : (Builtin.zeroCells z.cells n).toList.length = n * size := by simp [Builtin.zeroCells, hz]
  have hone : ∀ v ∈ (Builtin.zeroCells z.cells n).toList, v.oneCell' = true := by
    intro v hv'
    simp [Builtin.zeroCells] at hv'
    obtain ⟨i, hi, rfl⟩ := hv'
    apply h1
    have hlt : i % z.cells.size < z.cells.size := Nat.mod_lt _ (by omega)
    rw [getElem!_pos z.cells _ hlt]
    exact Array.getElem_mem hlt
  have hst := run_storeCells_at P g off te (Builtin.zeroCells z.cells n).toList 0 cur.toArray w hg (by rw [hzl]; simpa using hfit) hone
  refine ⟨(Builtin.zeroCells z.cells n).toList, _, hzl, ?_, setRow_heap w g _ _ te _ hg, Only.setRow w g _⟩
  cases n with
  | zero =>
    have e0 : (Builtin.zeroCells z.cells 0).toList = [] := List.eq_nil_of_length_eq_zero (by rw [hzl]; simp)
    rw [run_clear0 w t ty e ht _ _ _ (.inr rfl), e0]
    congr 1
    rw [show (splice cur off []).toArray = cur.toArray by simp [splice]]
    exact (setRow_self w g _ te _ hg).symm
  | succ n => simp [Builtin.clear_, run_underlying ht, hv, hst, splice]
theorem step_clear0 {P : Program} (w : World) {ops : Array Oper} {o : Oper} {a : Act} {K : Act → World → Prop} {Q : Exit → Act → World → Prop} {E : Prop} (hgd : o.guard = none) (s : Operand) (t : TypeId) (ho : o.op = .call { callee := .builtin .clear, args := #[s], argTypes := #[t] })
    (e : TypeId) (ht : P.underlying t = some (.slice e)) (sp : Option Addr) (n c : Nat) (hs : a.eval s = .slice sp n c) (h0 : sp = none ∨ n = 0) (h : K (a.put o.dst (.tuple #[])) w) :
    if Region.wanted o (yielded ops a.tmps) = true then Oper.wp P o a w K Q else E := by
  have hw : Region.wanted o (yielded ops a.tmps) = true := by simp [Region.wanted, hgd]
  rw [if_pos hw]
  unfold Oper.wp execOp
  simp only [ho, resolve, invoke, builtin, Sem.run_bind, Sem.run_pure, Result.andThen_ok, List.map_toArray, List.map_cons, List.map_nil, hs, run_clear0 w t o.type e ht sp n c h0]
  exact h
theorem step_clearS {P : Program} (w : World) {ops : Array Oper} {o : Oper} {a : Act} {K : Act → World → Prop} {Q : Exit → Act → World → Prop} {E : Prop} (hgd : o.guard = none) (s : Operand) (t : TypeId) (ho : o.op = .call { callee := .builtin .clear, args := #[s], argTypes := #[t] })
    (e : TypeId) (z : Value) (ht : P.underlying t = some (.slice e)) (hv : ∀ w, (zeroValue e).run P w = .ok z w) (size : Nat) (hz : z.cells.size = size) (h1 : ∀ u ∈ z.cells, u.oneCell' = true) (hs0 : 0 < size)
    (g off n c : Nat) (hs : a.eval s = .slice (some ⟨g, off, none⟩) n c) (cur : List Value) (te : TypeId) (hg : w.heap[g]? = some (.cells cur.toArray te (0, 0))) (hfit : off + n * size ≤ cur.length)
    (h : ∀ zs w', zs.length = n * size → w'.heap[g]? = some (.cells (splice cur off zs).toArray te (0, 0)) → Only g w w' → K (a.put o.dst (.tuple #[])) w') :
    if Region.wanted o (yielded ops a.tmps) = true then Oper.wp P o a w K Q else E := by
  have hw : Region.wanted o (yielded ops a.tmps) = true := by simp [Region.wanted, hgd]
  rw [if_pos hw]
  obtain ⟨zs, w', hl, hr, h2, h3⟩ := run_clearS (P := P) w t o.type e z ht hv size hz h1 hs0 g off n c cur te hg hfit
  unfold Oper.wp execOp
  simp only [ho, resolve, invoke, builtin, Sem.run_bind, Sem.run_pure, Result.andThen_ok, List.map_toArray, List.map_cons, List.map_nil, hs, hr]
  exact h zs w' hl h2 h3
end Go.Proofs.YtkldllnnocdhbaaGreatDoor
namespace Go.Proofs.YtkldllnnocdhbaaGreatDoor
open Go.RowKit

theorem Up.trans' {a b c : World} {k : Nat} (h : Up a b) (o : Only k b c) (hk : a.heap.size ≤ k) : Up a c := Below.trans h (o.below hk h.size)
def LC (W : World) (v : Value) (s n : Nat) (cs : List Value) : Prop := cs.length = n * s ∧ ∃ a cap, v = .slice a n cap ∧ n ≤ cap ∧ (n ≠ 0 → ∃ b off, a = some ⟨b, off, none⟩ ∧ ∀ j, j < n * s → W.cell? ⟨b, off + j, none⟩ = cs[j]?)
theorem LC.up {W W' : World} {v : Value} {s n : Nat} {cs : List Value} (h : LC W v s n cs) (u : Up W W') : LC W' v s n cs := by
  obtain ⟨h0, a, cap, hv, hc, h⟩ := h
  refine ⟨h0, a, cap, hv, hc, fun hn => ?_⟩
  obtain ⟨b, off, ha, hcell⟩ := h hn
  refine ⟨b, off, ha, fun j hj => ?_⟩
  have := hcell j hj
  rw [← this]
  rw [List.getElem?_eq_getElem (by omega)] at this
  rw [this]; exact u.cell this
theorem LC.src {W : World} {v : Value} {s n b off cap : Nat} {cs : List Value} (h : LC W v s n cs) (hv : v = .slice (some ⟨b, off, none⟩) n cap) (hn : n ≠ 0) : ∀ j x, cs[j]? = some x → W.cell? ⟨b, off + j, none⟩ = some x := by
  intro j x hx
  obtain ⟨h0, a, cap', rfl, _, h⟩ := h
  obtain ⟨b', off', rfl, hc⟩ := h hn
  cases hv
  have hj : j < cs.length := (List.getElem?_eq_some_iff.1 hx).1
  rw [hc j (by omega)]; exact hx
theorem row_made {w : World} {base g n e s : Nat} {xs : List Value} (h : w.ownsRow base e s (.slice (some ⟨g, 0, none⟩) n n) n xs) : w.heap[g]? = some (.cells xs.toArray e (0, 0)) := by
  rcases h.2 with ⟨h', _⟩ | ⟨g', cap, cur, h', _, hh, _, _, hs, ht⟩
  · simp at h'
  · simp only [Value.slice.injEq, Option.some.injEq, Addr.mk.injEq, and_true, true_and] at h'
    obtain ⟨rfl, rfl⟩ := h'
    rw [hh, ← ht, List.take_of_length_le (by simp; omega)]
theorem lc_row {W : World} {g n e s : Nat} {cs : List Value} (h : W.heap[g]? = some (.cells cs.toArray e (0, 0))) (hl : cs.length = n * s) (cap : Nat) (hc : n ≤ cap) : LC W (.slice (some ⟨g, 0, none⟩) n cap) s n cs :=
  ⟨hl, some ⟨g, 0, none⟩, cap, rfl, hc, fun _ => ⟨g, 0, rfl, fun j _ => by simp [World.cell?, h]⟩⟩
theorem splice_two (z c1 c2 : List Value) (h : z.length = c1.length + c2.length) : splice (splice z 0 c1) c1.length c2 = c1 ++ c2 := by
  unfold splice
  simp only [List.take_zero, List.nil_append, Nat.zero_add]
  rw [List.take_append_of_le_length (Nat.le_refl _), List.take_of_length_le (Nat.le_refl _), List.drop_of_length_le (by simp; omega), List.append_nil]
end Go.Proofs.YtkldllnnocdhbaaGreatDoor
