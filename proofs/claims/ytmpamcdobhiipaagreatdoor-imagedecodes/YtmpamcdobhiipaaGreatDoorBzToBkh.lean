/-
  Words for what a call leaves alone, for the bag's texts.
-/
import Derived.Test.YtmpamcdobhiipaaGreatDoorProg
import Derived.WalkSpells
import Derived.WalkLawsBesides
import Derived.Handy
import Derived.Below
import Derived.OwnWalk
import Derived.Deep.QuietTactic
import Derived.BigQuiet
import Derived.BigRegion
import Derived.WalkSmall
import Derived.Laws.AppendOwnNone
import Derived.Deep.MidRow
import Derived.Deep.RegionHeld3
import Derived.Deep.DrawnRows
namespace Go.Proofs.YtmpamcdobhiipaaGreatDoor.BG
open Go.RowKit

theorem ret_int {k : IntKind} {a b : Int} (h : a = b) : Ending.returned (.int k a) = .returned (.int k b) := by rw [h]
def Up (w w' : World) : Prop := Below w.heap.size w w'
theorem Up.refl (w : World) : Up w w := Below.refl _ _
theorem Up.trans {a b c : World} (h : Up a b) (k : Up b c) : Up a c := Below.trans h (Below.mono k h.size)
theorem Up.alloc {a w : World} (h : Up a w) (o : Obj) : Up a (w.alloc o) := Below.alloc h h.size o
theorem Up.drew {a w : World} (h : Up a w) : Up a w.drew := Below.drew h
theorem Up.drewN {a w : World} (h : Up a w) (n : Nat) : Up a (w.drewN n) := ⟨h.os, h.tape, h.output, h.size, h.block⟩
theorem Up.cell {w w' : World} (h : Up w w') {p : Addr} {v : Value} (hc : w.cell? p = some v) : w'.cell? p = some v := by
  rw [Below.cell h (World.block_lt_of_cell? w p hc)]; exact hc
theorem Up.heap {w w' : World} (h : Up w w') {g : Nat} {o : Obj} (hg : w.heap[g]? = some o) : w'.heap[g]? = some o := by
  rw [h.block g (Array.getElem?_eq_some_iff.1 hg).1]; exact hg
/- at most block b and new ones -/
theorem row_up {w w' : World} {b e s n : Nat} {v : Value} {xs : List Value} (h : w.ownsRow b e s v n xs) (u : Up w w') : w'.ownsRow b e s v n xs := by
  refine ⟨h.1, ?_⟩
  rcases h.2 with h | ⟨g, cap, cur, e1, e2, e3, e4⟩
  · exact .inl h
  · exact .inr ⟨g, cap, cur, e1, e2, u.heap e3, e4⟩
theorem row_some {w : World} {b e s n : Nat} {v : Value} {xs : List Value} (h : w.ownsRow b e s v n xs) (hn : 0 < n) : ∃ g cap, b ≤ g ∧ n ≤ cap ∧ v = .slice (some ⟨g, 0, none⟩) n cap := by
  rcases h.2 with ⟨rfl, h0⟩ | ⟨g, cap, cur, rfl, hb, _, hc, _⟩
  · omega
  · exact ⟨g, cap, hb, hc, rfl⟩
theorem row_val {w : World} {base e s n : Nat} {v : Value} {xs : List Value} (h : w.ownsRow base e s v n xs) : ∃ ad cap, v = .slice ad n cap := by
  rcases h.2 with ⟨rfl, hn⟩ | ⟨g, cap, cur, rfl, _⟩
  · exact ⟨none, 0, by rw [hn]⟩
  · exact ⟨_, cap, rfl⟩
/- a flag that was set and set back: nothing has turned -/
theorem flat_len {E : Type} (f : E → List Value) (s : Nat) (hf : ∀ e, (f e).length = s) (l : List E) : (l.flatMap f).length = l.length * s := by
  induction l with
  | nil => simp
  | cons x l ih => rw [List.flatMap_cons, List.length_append, ih, hf, List.length_cons, Nat.succ_mul]; omega
theorem flat_get {E : Type} (f : E → List Value) (s : Nat) (hf : ∀ e, (f e).length = s) (d : E) (l : List E) : ∀ i j, i < l.length → j < s → (l.flatMap f)[i * s + j]? = (f (l.getD i d))[j]? := by
  induction l with
  | nil => intro i j h; simp at h
  | cons x l ih =>
    intro i j hi hj
    rw [List.flatMap_cons]
    cases i with
    | zero => rw [Nat.zero_mul, Nat.zero_add, List.getElem?_append_left (by rw [hf]; exact hj)]; rfl
    | succ i =>
      rw [List.getElem?_append_right (by rw [hf, Nat.succ_mul]; omega), hf, show (i + 1) * s + j - s = i * s + j by rw [Nat.succ_mul]; omega, ih i j (by simpa using hi) hj]
      rfl
theorem seven_f {W : World} {a : Nat} {cs : Array Value} {t : TypeId} (h : W.heap[a]? = some (.cells cs t (0, 0))) : ∀ j, W.frozen? ⟨a, j, none⟩ = false := fun j => by simp [World.frozen?, h]
theorem set_cells {W : World} {a j : Nat} {cs : Array Value} {t : TypeId} {x : Value} (h : W.heap[a]? = some (.cells cs t (0, 0))) : (W.setCell ⟨a, j, none⟩ x).heap[a]? = some (.cells (cs.setIfInBounds j x) t (0, 0)) := by
  simp only [World.setCell, Array.getElem?_modify]; rw [h]; simp
end Go.Proofs.YtmpamcdobhiipaaGreatDoor.BG
/-
  An append of one element to a row of the call's own, elements of whatever size: what stays, and where it lies.
-/
namespace Go.Proofs.YtmpamcdobhiipaaGreatDoor.BG
open Go.RowKit

/- what an append keeps: every cell but the row's own spare room -/
def KeptS (v : Value) (m : Nat) (w w' : World) : Prop := ∀ (g k : Nat) (x : Value), w.cell? ⟨g, k, none⟩ = some x → (v.ownBlock = some g → k < m) → w'.cell? ⟨g, k, none⟩ = some x
/- where the longer row lies: in its block, or in a new one -/
def LiesNew (v v' : Value) (w : World) : Prop := v'.ownBlock = v.ownBlock ∨ ∃ g, v'.ownBlock = some g ∧ w.heap.size ≤ g
/- the blocks keep their types -/
def TyK (w w' : World) : Prop := ∀ (g : Nat) (cur : Array Value) (t : Nat), w.heap[g]? = some (.cells cur t (0, 0)) → ∃ cur', w'.heap[g]? = some (.cells cur' t (0, 0))
theorem run_append_apart {P : Program} (w : World) (base : Nat) (t ty e : TypeId) (i : TypeInfo) (z : Value) (size bytes : Nat) (ht : P.underlying t = some (.slice e)) (hi : P.info? e = some i) (hz : i.zero = some z)
    (hsize : i.size = size) (hby : i.bytes = bytes) (hzs : z.cells.size = size) (hsz : 0 < size)
    (v : Value) (n : Nat) (xs : List Value) (hown : w.ownsRow base e size v n xs)
    (a : Addr) (c : Nat) (ys : List Value) (hys : ys.length = size) (hnews : ∀ j u, ys[j]? = some u → w.cell? (a.add j) = some u) (hone : ∀ u ∈ ys, u.oneCell' = true)
    (h63 : n + 1 ≤ maxLen) (hbytes : (n + 1) * bytes ≤ 140737488355328) (hbase : base ≤ w.heap.size) :
    ∃ v' w', (Builtin.append_ #[t, t] ty #[v, .slice (some a) 1 c]).run P w = .ok v' w' ∧ w'.ownsRow base e size v' (n + 1) (xs ++ ys) ∧ w.grownBy w' v.ownBlock ∧ KeptS v (n * size) w w' ∧ LiesNew v v' w ∧ TyK w w' := by
  subst hby
  subst hsize
  obtain ⟨v', w', hr, h2, h3, _⟩ := run_append_own (P := P) w base t ty e i z i.size i.bytes ht hi hz rfl rfl hzs hsz v n xs hown a 1 c ys (by rw [hys]; simp) hnews hone h63 hbytes hbase
  refine ⟨v', w', hr, h2, h3, ?_⟩
  rcases hown.2 with ⟨rfl, rfl⟩ | ⟨g', cap, cur, rfl, hbg, hgc, hnc, hcm, hcs, htake⟩
  · obtain ⟨v9, w9, hr9, h9, _, _⟩ := run_append_own (P := P) w w.heap.size t ty e i z i.size i.bytes ht hi hz rfl rfl hzs hsz (.slice none 0 0) 0 [] (World.ownsRow_nil _ _ _ _) a 1 c ys (by rw [hys]; simp) hnews hone h63 hbytes (Nat.le_refl _)
    rw [hr] at hr9
    cases hr9
    refine ⟨fun g k x hx _ => ?_, .inr ?_, fun g cur t hg => ⟨cur, by rw [h3.block g (Array.getElem?_eq_some_iff.1 hg).1 (fun e => by cases e)]; exact hg⟩⟩
    · have hgl : g < w.heap.size := World.block_lt_of_cell? w ⟨g, k, none⟩ hx
      rw [World.cell?_of_block (w := w) (w' := w') (a := ⟨g, k, none⟩) (h3.block g hgl (fun e => by cases e))]
      exact hx
    · rcases h9.2 with ⟨-, h0⟩ | ⟨g, cap, cur, rfl, hb, _⟩
      · omega
      · exact ⟨g, rfl, hb⟩
  · by_cases hroom : n + 1 ≤ cap
    · have hr2 := run_append_room (P := P) w t ty e i ht hi g' n cap cur hgc a 1 c ys (by rw [hys]; simp) hnews hone hroom (by rw [hcs]; exact Nat.le_trans (by rw [hys, Nat.succ_mul]; exact Nat.le_refl _) (Nat.mul_le_mul_right _ hroom))
      rw [hr] at hr2
      cases hr2
      refine ⟨fun g k x hx hlt => ?_, .inl rfl, fun g cur9 t hg => ?_⟩
      rotate_left
      · by_cases hgg : g = g'
        · subst hgg
          rw [hgc] at hg
          cases hg
          exact ⟨_, setRow_heap w g cur _ e _ hgc⟩
        · exact ⟨cur9, by rw [h3.block g (Array.getElem?_eq_some_iff.1 hg).1 (fun e => hgg (by simpa [Value.ownBlock] using e))]; exact hg⟩
      by_cases hg : g = g'
      · subst hg
        have hk := hlt rfl
        have hcell : w.cell? ⟨g, k, none⟩ = cur[k]? := by simp [World.cell?, hgc]
        rw [hcell] at hx
        have hrow := setRow_heap w g cur (cur.toList.take (n * i.size) ++ ys ++ cur.toList.drop (n * i.size + ys.length)).toArray e _ hgc
        simp only [World.cell?, hrow]
        have hkl : k < cur.size := (Array.getElem?_eq_some_iff.1 hx).1
        rw [← hx]
        simp only [List.getElem?_toArray]
        rw [List.append_assoc, List.getElem?_append_left (by simp; omega), List.getElem?_take_of_lt (by omega), Array.getElem?_toList]
        rfl
      · have hgl : g < w.heap.size := World.block_lt_of_cell? w ⟨g, k, none⟩ hx
        rw [World.cell?_of_block (w := w) (a := ⟨g, k, none⟩) (h3.block g hgl (fun e => hg (by simpa [Value.ownBlock] using e)))]
        exact hx
    · have holds : ∀ j u, xs[j]? = some u → w.cell? ((⟨g', 0, none⟩ : Addr).add j) = some u := hown.cells (g := g') rfl
      have hr2 := run_append_grow (P := P) w t ty e i z ht hi hz ⟨g', 0, none⟩ n cap xs hown.1 holds a 1 c ys (by rw [hys]; simp) hnews (by omega) (by simp only [maxLen] at h63; omega) (growslice_fits (by omega) hbytes)
      rw [hr] at hr2
      cases hr2
      refine ⟨fun g k x hx _ => ?_, .inr ⟨_, rfl, Nat.le_refl _⟩, fun g cur9 t hg => ⟨cur9, by rw [Below.heap_alloc w.drew _ g (Array.getElem?_eq_some_iff.1 hg).1]; exact hg⟩⟩
      have hgl : g < w.heap.size := World.block_lt_of_cell? w ⟨g, k, none⟩ hx
      rw [World.cell?_of_block (w := w) (a := ⟨g, k, none⟩) (Below.heap_alloc w.drew _ g hgl)]
      exact hx
theorem wpList_append_apart {P : Program} (w : World) {ops : Array Oper} {rest : List Oper} {o : Oper} {a : Act} {Q : Exit → Act → World → Prop} (hgd : o.guard = none) (s x : Operand) (t : TypeId)
    (ho : o.op = .call { callee := .builtin .append, args := #[s, x], argTypes := #[t, t] })
    (base : Nat) (e : TypeId) (i : TypeInfo) (z : Value) (size bytes : Nat) (ht : P.underlying t = some (.slice e)) (hi : P.info? e = some i) (hz : i.zero = some z)
    (hsize : i.size = size) (hby : i.bytes = bytes) (hzs : z.cells.size = size) (hsz : 0 < size)
    (v : Value) (n : Nat) (xs : List Value) (hs : a.eval s = v) (hown : w.ownsRow base e size v n xs)
    (ad : Addr) (c : Nat) (ys : List Value) (hx : a.eval x = .slice (some ad) 1 c) (hys : ys.length = size) (hnews : ∀ j u, ys[j]? = some u → w.cell? (ad.add j) = some u) (hone : ∀ u ∈ ys, u.oneCell' = true)
    (h63 : n + 1 ≤ maxLen) (hbytes : (n + 1) * bytes ≤ 140737488355328) (hbase : base ≤ w.heap.size)
    (h : ∀ v' w', w'.ownsRow base e size v' (n + 1) (xs ++ ys) → w.grownBy w' v.ownBlock → KeptS v (n * size) w w' → LiesNew v v' w → TyK w w' → wpList P ops Q rest (a.put o.dst v') w') : wpList P ops Q (o :: rest) a w := by
  refine wpList_plain hgd fun _ hK => ?_
  obtain ⟨v', w', hr, h2, h3, h4, h5, h6⟩ := run_append_apart (P := P) w base t o.type e i z size bytes ht hi hz hsize hby hzs hsz v n xs hown ad c ys hys hnews hone h63 hbytes hbase
  unfold Oper.wp execOp
  simp only [ho, resolve, invoke, builtin, Sem.run_bind, Sem.run_pure, Result.andThen_ok, List.map_toArray, List.map_cons, List.map_nil, hs, hx, hr]
  exact hK _ _ (h v' w' h2 h3 h4 h5 h6)
end Go.Proofs.YtmpamcdobhiipaaGreatDoor.BG
/-
  Lists that lie apart, elements of whatever size: marks, what stays while one list after the other grows.
-/
namespace Go.Proofs.YtmpamcdobhiipaaGreatDoor.BG
open Go.RowKit

/- all but some blocks stay -/
def Exc (S : Nat → Prop) (w w' : World) : Prop := (w'.os = w.os ∧ w'.tape = w.tape ∧ w'.output = w.output) ∧ w.heap.size ≤ w'.heap.size ∧ ∀ b, b < w.heap.size → ¬ S b → w'.heap[b]? = w.heap[b]?
theorem Exc.refl (S : Nat → Prop) (w : World) : Exc S w w := ⟨⟨rfl, rfl, rfl⟩, Nat.le_refl _, fun _ _ _ => rfl⟩
theorem Exc.up {S : Nat → Prop} {w W W' : World} (h : Exc S w W) (u : Up W W') : Exc S w W' :=
  ⟨⟨u.os.trans h.1.1, u.tape.trans h.1.2.1, u.output.trans h.1.2.2⟩, Nat.le_trans h.2.1 u.size, fun b hb hs => (u.block b (Nat.lt_of_lt_of_le hb h.2.1)).trans (h.2.2 b hb hs)⟩
theorem Exc.set {S : Nat → Prop} {w W : World} (h : Exc S w W) (c j : Nat) (x : Value) (hc : S c ∨ w.heap.size ≤ c) : Exc S w (W.setCell ⟨c, j, none⟩ x) :=
  ⟨h.1, by simpa using h.2.1, fun b hb hs => by
    rw [Below.heap_setCell _ _ _ _ (by
      show b ≠ c
      rintro rfl
      rcases hc with hc | hc
      · exact hs hc
      · omega)]
    exact h.2.2 b hb hs⟩
theorem Exc.grown {S : Nat → Prop} {w W W' : World} {v : Value} (h : Exc S w W) (g : W.grownBy W' v.ownBlock) (hc : ∀ c, v.ownBlock = some c → S c ∨ w.heap.size ≤ c) : Exc S w W' :=
  ⟨⟨g.os.trans h.1.1, g.tape.trans h.1.2.1, g.output.trans h.1.2.2⟩, Nat.le_trans h.2.1 g.size, fun b hb hs => by
    rw [g.block b (Nat.lt_of_lt_of_le hb h.2.1) (fun e => by
      rcases hc b e.symm with hc | hc
      · exact hs hc
      · omega)]
    exact h.2.2 b hb hs⟩
theorem Exc.heap {S : Nat → Prop} {w W : World} (h : Exc S w W) {b : Nat} {o : Obj} (hb : w.heap[b]? = some o) (hs : ¬ S b) : W.heap[b]? = some o := by
  rw [h.2.2 b (Array.getElem?_eq_some_iff.1 hb).1 hs]; exact hb
theorem Exc.mono {S T : Nat → Prop} {w W : World} (h : Exc S w W) (hst : ∀ b, S b → T b) : Exc T w W := ⟨h.1, h.2.1, fun b hb ht => h.2.2 b hb (fun hs => ht (hst b hs))⟩
theorem Exc.below {S : Nat → Prop} {w W : World} (h : Exc S w W) (base : Nat) (hs : ∀ b, S b → base ≤ b) (hb : base ≤ w.heap.size) : Below base w W :=
  ⟨h.1.1, h.1.2.1, h.1.2.2, h.2.1, fun g hg => h.2.2 g (by omega) (fun hS => by have := hs g hS; omega)⟩
def mks (mk : Nat → Nat → List Value) (q n : Nat) : List Value := (List.range n).flatMap (mk q)
section
variable {mk : Nat → Nat → List Value} {s : Nat} (hs : ∀ q i, (mk q i).length = s)
include hs
theorem mks_len (q n : Nat) : (mks mk q n).length = n * s := by rw [mks, flat_len (mk q) s (hs q), List.length_range]
theorem mks_get (q n i j : Nat) (hi : i < n) (hj : j < s) : (mks mk q n)[i * s + j]? = (mk q i)[j]? := by
  have := flat_get (mk q) s (hs q) 0 (List.range n) i j (by simpa using hi) hj
  rw [mks, this]
  simp [List.getD_eq_getElem?_getD, hi]
end
theorem mks_more (mk : Nat → Nat → List Value) (q n : Nat) : mks mk q (n + 1) = mks mk q n ++ mk q n := by simp [mks, List.range_succ]
/- block b holds the marks of the first m elements of list q -/
def MB (mk : Nat → Nat → List Value) (e s : Nat) (W : World) (b q m : Nat) : Prop := (∃ cur, W.heap[b]? = some (.cells cur e (0, 0))) ∧ ∀ i j, i < m → j < s → W.cell? ⟨b, i * s + j, none⟩ = (mk q i)[j]?
theorem MB.block {mk : Nat → Nat → List Value} {e s : Nat} {W W' : World} {b q m : Nat} (h : MB mk e s W b q m) (k : W'.heap[b]? = W.heap[b]?) : MB mk e s W' b q m := by
  obtain ⟨⟨cur, h1⟩, h2⟩ := h
  exact ⟨⟨cur, by rw [k]; exact h1⟩, fun i j hi hj => by rw [World.cell?_of_block (w := W) (w' := W') (a := ⟨b, i * s + j, none⟩) k]; exact h2 i j hi hj⟩
theorem MB.lt {mk : Nat → Nat → List Value} {e s : Nat} {W : World} {b q m : Nat} (h : MB mk e s W b q m) : b < W.heap.size := by
  obtain ⟨⟨cur, h1⟩, -⟩ := h
  exact (Array.getElem?_eq_some_iff.1 h1).1
theorem MB.less {mk : Nat → Nat → List Value} {e s : Nat} {W : World} {b q m m' : Nat} (h : MB mk e s W b q m) (hm : m' ≤ m) : MB mk e s W b q m' := ⟨h.1, fun i j hi hj => h.2 i j (by omega) hj⟩
/- an own row of marks -/
theorem mb_own {mk : Nat → Nat → List Value} {e s base : Nat} (hs : ∀ q i, (mk q i).length = s) {W : World} {v : Value} {n q : Nat} (h : W.ownsRow base e s v n (mks mk q n)) {g : Nat} (hg : v.ownBlock = some g) : MB mk e s W g q n := by
  rcases h.2 with ⟨rfl, -⟩ | ⟨g', cap, cur, rfl, _, h1, _⟩
  · cases hg
  · have : g' = g := by simpa [Value.ownBlock] using hg
    subst this
    refine ⟨⟨cur, h1⟩, fun i j hi hj => ?_⟩
    have hk : i * s + j < n * s := by
      have : (i + 1) * s ≤ n * s := Nat.mul_le_mul_right _ hi
      rw [Nat.succ_mul] at this; omega
    rw [h.cellAt (i * s + j) hk, mks_get hs q n i j hi hj]
theorem own_block {W W' : World} {base e s n : Nat} {v : Value} {xs : List Value} (h : W.ownsRow base e s v n xs) (k : ∀ g, v.ownBlock = some g → W'.heap[g]? = W.heap[g]?) : W'.ownsRow base e s v n xs := by
  refine ⟨h.1, ?_⟩
  rcases h.2 with h | ⟨g, cap, cur, rfl, e2, e3, e4⟩
  · exact .inl h
  · exact .inr ⟨g, cap, cur, rfl, e2, by rw [k g rfl]; exact e3, e4⟩
abbrev VL := List (Value × Nat)
def dv : Value × Nat := (.slice none 0 0, 0)
def Blks (L : VL) (b : Nat) : Prop := ∃ p, p < L.length ∧ (L.getD p dv).1.ownBlock = some b
def Apart (L : VL) : Prop := ∀ p q g, p < L.length → q < L.length → p ≠ q → (L.getD p dv).1.ownBlock = some g → (L.getD q dv).1.ownBlock ≠ some g
/- up to list i all marked, behind it not yet -/
def Rows1 (mk : Nat → Nat → List Value) (base e s : Nat) (W : World) (L : VL) (i : Nat) : Prop := ∀ p, p < L.length → ∃ xs, W.ownsRow base e s (L.getD p dv).1 (L.getD p dv).2 xs ∧ (p < i → xs = mks mk p (L.getD p dv).2)
/- list p, its first i elements marked -/
def Row2 (mk : Nat → Nat → List Value) (base e s : Nat) (W : World) (L : VL) (p i : Nat) : Prop := (∀ q, q < L.length → ∃ xs, W.ownsRow base e s (L.getD q dv).1 (L.getD q dv).2 xs ∧ (q < p → xs = mks mk q (L.getD q dv).2) ∧ (q = p → xs.take (i * s) = mks mk p i))
theorem Rows1.start {mk : Nat → Nat → List Value} {base e s : Nat} {W : World} {L : VL} {p : Nat} (h : Rows1 mk base e s W L p) : Row2 mk base e s W L p 0 := fun q hq => by
  obtain ⟨xs, h1, h2⟩ := h q hq
  exact ⟨xs, h1, h2, fun _ => by rw [Nat.zero_mul]; rfl⟩
theorem Row2.finish {mk : Nat → Nat → List Value} {base e s : Nat} {W : World} {L : VL} {p : Nat} (h : Row2 mk base e s W L p (L.getD p dv).2) : Rows1 mk base e s W L (p + 1) := fun q hq => by
  obtain ⟨xs, h1, h2, h3⟩ := h q hq
  refine ⟨xs, h1, fun hlt => ?_⟩
  by_cases eq : q = p
  · subst eq
    have := h3 rfl
    rw [List.take_of_length_le (by rw [h1.1]; exact Nat.le_refl _)] at this
    exact this
  · exact h2 (by omega)
/- one more element of list p is marked: by whatever writes just its cells -/
theorem Row2.put {mk : Nat → Nat → List Value} {base e s : Nat} (hs : ∀ q i, (mk q i).length = s) {W W' : World} {L : VL} {p i g : Nat} {cur : Array Value} (h : Row2 mk base e s W L p i) (hp : p < L.length) (hi : i < (L.getD p dv).2) (hd : Apart L) (hg : (L.getD p dv).1.ownBlock = some g) (hcur : W.heap[g]? = some (.cells cur e (0, 0))) (hnew : W'.heap[g]? = some (.cells (cur.toList.take (i * s) ++ mk p i ++ cur.toList.drop (i * s + s)).toArray e (0, 0))) (hoth : ∀ b, b ≠ g → W'.heap[b]? = W.heap[b]?) : Row2 mk base e s W' L p (i + 1) := fun q hq => by
  obtain ⟨xs, h1, h2, h3⟩ := h q hq
  by_cases eq : q = p
  · subst eq
    rcases h1.2 with ⟨e0, -⟩ | ⟨g', cap, cur', ev, hb, hh, hnc, hcm, hcs, htk⟩
    · rw [e0] at hg; cases hg
    · rw [ev] at hg
      have hgg : g' = g := by simpa [Value.ownBlock] using hg
      subst hgg
      rw [hcur] at hh
      cases hh
      have hsz : i * s + s ≤ (L.getD q dv).2 * s := by rw [← Nat.succ_mul]; exact Nat.mul_le_mul_right _ hi
      have hcl : (L.getD q dv).2 * s ≤ cap * s := Nat.mul_le_mul_right _ hnc
      have hlen : (cur.toList.take (i * s) ++ mk q i ++ cur.toList.drop (i * s + s)).length = cap * s := by
        simp [hs]; omega
      refine ⟨(cur.toList.take (i * s) ++ mk q i ++ cur.toList.drop (i * s + s)).take ((L.getD q dv).2 * s), ⟨by rw [List.length_take, hlen]; omega, .inr ⟨g', cap, _, ev, hb, hnew, hnc, hcm, by simpa using hlen, by simp⟩⟩, fun hlt => by omega, fun _ => ?_⟩
      rw [List.take_take, Nat.min_eq_left (by rw [Nat.succ_mul]; exact hsz)]
      have h4 := h3 rfl
      rw [← htk, List.take_take, Nat.min_eq_left (by omega)] at h4
      rw [mks_more, ← h4, List.take_append, List.take_of_length_le (by simp [hs]; rw [Nat.succ_mul]; omega)]
      have : (i + 1) * s - (cur.toList.take (i * s) ++ mk q i).length = 0 := by simp [hs]; rw [Nat.succ_mul]; omega
      rw [this, List.take_zero, List.append_nil]
  · refine ⟨xs, own_block h1 (fun b hb => hoth b (fun h => ?_)), h2, fun h => absurd h eq⟩
    subst h
    exact hd p q b hp hq (fun h => eq h.symm) hg hb
end Go.Proofs.YtmpamcdobhiipaaGreatDoor.BG
/-
  Lists that lie apart: while each goes on growing, what was gathered stays.
-/
namespace Go.Proofs.YtmpamcdobhiipaaGreatDoor.BG
open Go.RowKit

theorem ty_apart {W : World} {base e s q g : Nat} {v : Value} {xs : List Value} {cs : Array Value} {t : TypeId} (h : W.ownsRow base e s v q xs) (hg : W.heap[g]? = some (.cells cs t (0, 0))) (ht : e ≠ t) : v.ownBlock ≠ some g := by
  rcases h.2 with ⟨rfl, h0⟩ | ⟨g', cap, cur, rfl, _, h1, _⟩
  · simp [Value.ownBlock]
  · intro eq
    have eq' : g' = g := by simpa [Value.ownBlock] using eq
    subst eq'
    rw [h1] at hg
    cases hg
    exact ht rfl
theorem own_ty {W : World} {base e s q g : Nat} {v : Value} {xs : List Value} (h : W.ownsRow base e s v q xs) (hg : v.ownBlock = some g) : ∃ cur, W.heap[g]? = some (.cells cur e (0, 0)) := by
  rcases h.2 with ⟨rfl, h0⟩ | ⟨g', cap, cur, rfl, _, h1, _⟩
  · cases hg
  · have eq' : g' = g := by simpa [Value.ownBlock] using hg
    subst eq'
    exact ⟨cur, h1⟩
def OneOk (mk : Nat → Nat → List Value) (e s : Nat) (W : World) (q : Nat) (x : Value) (m : Nat) : Prop := ∃ o cap, x = .slice (some ⟨o, 0, none⟩) m cap ∧ MB mk e s W o q m
theorem OneOk.blk {mk : Nat → Nat → List Value} {e s : Nat} {W W' : World} {q : Nat} {x : Value} {m : Nat} (h : OneOk mk e s W q x m) (k : ∀ b, x.ownBlock = some b → W'.heap[b]? = W.heap[b]?) : OneOk mk e s W' q x m := by
  obtain ⟨o, cap, rfl, h⟩ := h
  exact ⟨o, cap, rfl, h.block (k o rfl)⟩
theorem OneOk.lt {mk : Nat → Nat → List Value} {e s : Nat} {W : World} {q : Nat} {x : Value} {m b : Nat} (h : OneOk mk e s W q x m) (hb : x.ownBlock = some b) : b < W.heap.size := by
  obtain ⟨o, cap, rfl, h⟩ := h
  have : o = b := by simpa [Value.ownBlock] using hb
  subst this
  exact h.lt
theorem OneOk.ty {mk : Nat → Nat → List Value} {e s : Nat} {W : World} {q : Nat} {x : Value} {m b : Nat} (h : OneOk mk e s W q x m) (hb : x.ownBlock = some b) : ∃ cur, W.heap[b]? = some (.cells cur e (0, 0)) := by
  obtain ⟨o, cap, rfl, h⟩ := h
  have : o = b := by simpa [Value.ownBlock] using hb
  subst this
  exact h.1
variable {mk : Nat → Nat → List Value} {base b1 e e1 s : Nat}
/- ahead of list p -/
structure Ph (mk : Nat → Nat → List Value) (base b1 e e1 s : Nat) (W : World) (L : VL) (p : Nat) (one more : Value) (os ms : List Value) : Prop where
  A : ∀ r, p ≤ r → r < L.length → W.ownsRow base e s (L.getD r dv).1 (L.getD r dv).2 (mks mk r (L.getD r dv).2)
  B : ∀ q, q < p → ∀ g, (L.getD q dv).1.ownBlock = some g → MB mk e s W g q (L.getD q dv).2
  C : W.ownsRow b1 e1 1 one p os ∧ ∀ q, q < p → OneOk mk e s W q (os.getD q (Value.slice none 0 0)) ((L.getD q dv).2 + 1)
  D : W.ownsRow b1 e1 1 more p ms ∧ ∀ q, q < p → OneOk mk e s W q (ms.getD q (Value.slice none 0 0)) ((L.getD q dv).2 + 70)
  S : ∀ q, q < p → ∀ r, p ≤ r → r < L.length → ∀ b, (L.getD r dv).1.ownBlock = some b → (os.getD q (Value.slice none 0 0)).ownBlock ≠ some b ∧ (ms.getD q (Value.slice none 0 0)).ownBlock ≠ some b
  E : one.ownBlock = none ∨ one.ownBlock ≠ more.ownBlock
  Z : b1 ≤ W.heap.size ∧ base ≤ W.heap.size
/- within list p: l has i elements, one holds k lists -/
structure In (mk : Nat → Nat → List Value) (base b1 e e1 s : Nat) (W : World) (L : VL) (p : Nat) (one more : Value) (os ms : List Value) (l : Value) (i k : Nat) : Prop where
  A : ∀ r, p < r → r < L.length → W.ownsRow base e s (L.getD r dv).1 (L.getD r dv).2 (mks mk r (L.getD r dv).2)
  B : ∀ q, q ≤ p → ∀ g, (L.getD q dv).1.ownBlock = some g → MB mk e s W g q (L.getD q dv).2
  C : W.ownsRow b1 e1 1 one k os ∧ ∀ q, q < k → OneOk mk e s W q (os.getD q (Value.slice none 0 0)) ((L.getD q dv).2 + 1)
  D : W.ownsRow b1 e1 1 more p ms ∧ ∀ q, q < p → OneOk mk e s W q (ms.getD q (Value.slice none 0 0)) ((L.getD q dv).2 + 70)
  K : (k = p ∧ i = (L.getD p dv).2) ∨ (k = p ∧ i = (L.getD p dv).2 + 1) ∨ (k = p + 1 ∧ (L.getD p dv).2 + 1 ≤ i)
  R : W.ownsRow base e s l i (mks mk p i)
  S1 : ∀ b, l.ownBlock = some b → (∀ q, q < p → (L.getD q dv).1.ownBlock ≠ some b ∧ (os.getD q (Value.slice none 0 0)).ownBlock ≠ some b ∧ (ms.getD q (Value.slice none 0 0)).ownBlock ≠ some b) ∧ ∀ r, p < r → r < L.length → (L.getD r dv).1.ownBlock ≠ some b
  S2 : ∀ r, p < r → r < L.length → ∀ b, (L.getD r dv).1.ownBlock = some b → (∀ q, q < k → (os.getD q (Value.slice none 0 0)).ownBlock ≠ some b) ∧ ∀ q, q < p → (ms.getD q (Value.slice none 0 0)).ownBlock ≠ some b
  E : one.ownBlock = none ∨ one.ownBlock ≠ more.ownBlock
  Z : b1 ≤ W.heap.size ∧ base ≤ W.heap.size
theorem mb_up {W W' : World} {b q m : Nat} (h : MB mk e s W b q m) (u : Up W W') : MB mk e s W' b q m := h.block (u.block b h.lt)
theorem one_up {W W' : World} {q : Nat} {x : Value} {m : Nat} (h : OneOk mk e s W q x m) (u : Up W W') : OneOk mk e s W' q x m := h.blk (fun b hb => u.block b (h.lt hb))
theorem Ph.up {W W' : World} {L : VL} {p : Nat} {one more : Value} {os ms : List Value} (h : Ph mk base b1 e e1 s W L p one more os ms) (u : Up W W') : Ph mk base b1 e e1 s W' L p one more os ms :=
  ⟨fun r h1 h2 => row_up (h.A r h1 h2) u, fun q hq g hg => mb_up (h.B q hq g hg) u, ⟨row_up h.C.1 u, fun q hq => one_up (h.C.2 q hq) u⟩, ⟨row_up h.D.1 u, fun q hq => one_up (h.D.2 q hq) u⟩, h.S, h.E, ⟨Nat.le_trans h.Z.1 u.size, Nat.le_trans h.Z.2 u.size⟩⟩
theorem In.up {W W' : World} {L : VL} {p : Nat} {one more : Value} {os ms : List Value} {l : Value} {i k : Nat} (h : In mk base b1 e e1 s W L p one more os ms l i k) (u : Up W W') : In mk base b1 e e1 s W' L p one more os ms l i k :=
  ⟨fun r h1 h2 => row_up (h.A r h1 h2) u, fun q hq g hg => mb_up (h.B q hq g hg) u, ⟨row_up h.C.1 u, fun q hq => one_up (h.C.2 q hq) u⟩, ⟨row_up h.D.1 u, fun q hq => one_up (h.D.2 q hq) u⟩, h.K, row_up h.R u, h.S1, h.S2, h.E, ⟨Nat.le_trans h.Z.1 u.size, Nat.le_trans h.Z.2 u.size⟩⟩
theorem Ph.inn (hs : ∀ q i, (mk q i).length = s) {W : World} {L : VL} {p : Nat} {one more : Value} {os ms : List Value} (h : Ph mk base b1 e e1 s W L p one more os ms) (hp : p < L.length) (hd : Apart L) : In mk base b1 e e1 s W L p one more os ms (L.getD p dv).1 (L.getD p dv).2 p := by
  refine ⟨fun r h1 h2 => h.A r (by omega) h2, fun q hq g hg => ?_, h.C, h.D, .inl ⟨rfl, rfl⟩, h.A p (Nat.le_refl _) hp, fun b hb => ⟨fun q hq => ⟨fun hc => hd q p b (by omega) hp (by omega) hc hb, (h.S q hq p (Nat.le_refl _) hp b hb).1, (h.S q hq p (Nat.le_refl _) hp b hb).2⟩, fun r h1 h2 hc => hd p r b hp h2 (by omega) hb hc⟩, fun r h1 h2 b hb => ⟨fun q hq => (h.S q hq r (by omega) h2 b hb).1, fun q hq => (h.S q hq r (by omega) h2 b hb).2⟩, h.E, h.Z⟩
  by_cases eq : q = p
  · subst eq; exact mb_own hs (h.A q (Nat.le_refl _) hp) hg
  · exact h.B q (by omega) g hg
/- list l goes on -/
theorem In.grow (hs : ∀ q i, (mk q i).length = s) {W W' : World} {L : VL} {p : Nat} {one more : Value} {os ms : List Value} {l l' : Value} {i k : Nat} (h : In mk base b1 e e1 s W L p one more os ms l i k) (hk : i = (L.getD p dv).2 + 1 → k = p + 1) (hee : e ≠ e1) (hR : W'.ownsRow base e s l' (i + 1) (mks mk p (i + 1))) (hg : W.grownBy W' l.ownBlock) (hkp : KeptS l (i * s) W W') (hl : LiesNew l l' W) (ht : TyK W W') : In mk base b1 e e1 s W' L p one more os ms l' (i + 1) k := by
  have nb : ∀ b, b < W.heap.size → l.ownBlock ≠ some b → W'.heap[b]? = W.heap[b]? := fun b hb hn => hg.block b hb (fun h => hn h.symm)
  have ni : (L.getD p dv).2 ≤ i := by rcases h.K with ⟨-, a⟩ | ⟨-, a⟩ | ⟨-, a⟩ <;> omega
  have keepMB : ∀ b q m, MB mk e s W b q m → (l.ownBlock = some b → m ≤ i) → MB mk e s W' b q m := fun b q m hm hc => by
    obtain ⟨⟨cur, h1⟩, h2⟩ := hm
    refine ⟨ht b cur e h1, fun x j hx hj => ?_⟩
    have h3 := h2 x j hx hj
    have hy : j < (mk q x).length := by rw [hs]; exact hj
    rw [List.getElem?_eq_getElem hy] at h3 ⊢
    refine hkp b (x * s + j) _ h3 (fun hb => ?_)
    have := hc hb
    have h4 : (x + 1) * s ≤ i * s := Nat.mul_le_mul_right _ (by omega)
    rw [Nat.succ_mul] at h4
    omega
  have keepOne : ∀ q x m, OneOk mk e s W q x m → (∀ b, l.ownBlock = some b → x.ownBlock = some b → m ≤ i) → OneOk mk e s W' q x m := fun q x m hm hc => by
    obtain ⟨o, cap, rfl, hm⟩ := hm
    exact ⟨o, cap, rfl, keepMB o q m hm (fun hb => hc o hb rfl)⟩
  have other : ∀ {bb k9 : Nat} {v : Value} {xs : List Value}, W.ownsRow bb e1 1 v k9 xs → W'.ownsRow bb e1 1 v k9 xs := fun {bb k9 v xs} hv => own_block hv (fun b hb => by
    obtain ⟨cur, h1⟩ := own_ty hv hb
    exact nb b (Array.getElem?_eq_some_iff.1 h1).1 (ty_apart h.R h1 hee))
  refine ⟨fun r h1 h2 => own_block (h.A r h1 h2) (fun b hb => ?_), fun q hq g hgq => ?_, ⟨other h.C.1, fun q hq => keepOne q _ _ (h.C.2 q hq) (fun b hb hx => ?_)⟩, ⟨other h.D.1, fun q hq => keepOne q _ _ (h.D.2 q hq) (fun b hb hx => ?_)⟩, ?_, hR, fun b hb => ?_, h.S2, h.E, ⟨Nat.le_trans h.Z.1 hg.size, Nat.le_trans h.Z.2 hg.size⟩⟩
  · obtain ⟨cur, h3⟩ := own_ty (h.A r h1 h2) hb
    exact nb b (Array.getElem?_eq_some_iff.1 h3).1 (fun hc => (h.S1 b hc).2 r h1 h2 hb)
  · refine keepMB g q _ (h.B q hq g hgq) (fun hc => ?_)
    by_cases eq : q = p
    · subst eq; exact ni
    · exact absurd hgq ((h.S1 g hc).1 q (by omega)).1
  · by_cases eq : q < p
    · exact absurd hx ((h.S1 b hb).1 q eq).2.1
    · rcases h.K with ⟨a, -⟩ | ⟨a, -⟩ | ⟨a, c⟩
      · omega
      · omega
      · have : q = p := by omega
        subst this; exact c
  · exact absurd hx ((h.S1 b hb).1 q hq).2.2
  · rcases h.K with ⟨a, c⟩ | ⟨a, c⟩ | ⟨a, c⟩
    · exact .inr (.inl ⟨a, by omega⟩)
    · have := hk c; omega
    · exact .inr (.inr ⟨a, by omega⟩)
  · rcases hl with hl | ⟨g, hl, hge⟩
    · rw [hl] at hb; exact h.S1 b hb
    · rw [hl] at hb
      have hgb : g = b := by simpa using hb
      subst hgb
      refine ⟨fun q hq => ⟨fun hc => ?_, fun hc => ?_, fun hc => ?_⟩, fun r h1 h2 hc => ?_⟩
      · have := (h.B q (by omega) g hc).lt; omega
      · by_cases hqk : q < k
        · have := (h.C.2 q hqk).lt hc; omega
        · have : p ≤ k := by rcases h.K with ⟨a, -⟩ | ⟨a, -⟩ | ⟨a, -⟩ <;> omega
          omega
      · have := (h.D.2 q hq).lt hc; omega
      · obtain ⟨cur, h3⟩ := own_ty (h.A r h1 h2) hc
        have := (Array.getElem?_eq_some_iff.1 h3).1; omega
theorem getD_app {os : List Value} {x : Value} {k : Nat} (hl : os.length = k) (q : Nat) : (os ++ [x]).getD q (Value.slice none 0 0) = if q = k then x else os.getD q (Value.slice none 0 0) := by
  subst hl
  by_cases eq : q = os.length
  · subst eq; simp
  · rw [if_neg eq, List.getD_eq_getElem?_getD, List.getD_eq_getElem?_getD]
    by_cases hlt : q < os.length
    · rw [List.getElem?_append_left hlt]
    · rw [List.getElem?_eq_none (by simp; omega), List.getElem?_eq_none (by omega)]
/- the list is kept as the one of 'one' -/
theorem In.keep (hs : ∀ q i, (mk q i).length = s) {W W' : World} {L : VL} {p : Nat} {one one' more : Value} {os ms : List Value} {l : Value} {i : Nat} (h : In mk base b1 e e1 s W L p one more os ms l i p) (hi : i = (L.getD p dv).2 + 1) (hee : e ≠ e1) (hR : W'.ownsRow b1 e1 1 one' (p + 1) (os ++ [l])) (hg : W.grownBy W' one.ownBlock) (hl : LiesNew one one' W) : In mk base b1 e e1 s W' L p one' more (os ++ [l]) ms l i (p + 1) := by
  have hol : os.length = p := by have := h.C.1.1; omega
  have nb : ∀ (b : Nat) (cur : Array Value), W.heap[b]? = some (.cells cur e (0, 0)) → W'.heap[b]? = W.heap[b]? := fun b cur hb => hg.block b (Array.getElem?_eq_some_iff.1 hb).1 (fun hc => ty_apart h.C.1 hb (fun h => hee h.symm) hc.symm)
  have nb2 : ∀ {bb n9 : Nat} {v : Value} {xs : List Value}, W.ownsRow bb e s v n9 xs → W'.ownsRow bb e s v n9 xs := fun {bb n9 v xs} hv => own_block hv (fun b hb => by obtain ⟨cur, h1⟩ := own_ty hv hb; exact nb b cur h1)
  have nbM : ∀ {b q m : Nat}, MB mk e s W b q m → MB mk e s W' b q m := fun {b q m} hm => by obtain ⟨cur, h1⟩ := hm.1; exact hm.block (nb b cur h1)
  have nbO : ∀ {q : Nat} {x : Value} {m : Nat}, OneOk mk e s W q x m → OneOk mk e s W' q x m := fun {q x m} hm => hm.blk (fun b hb => by obtain ⟨cur, h1⟩ := hm.ty hb; exact nb b cur h1)
  have hmore : W'.ownsRow b1 e1 1 more p ms := own_block h.D.1 (fun b hb => by
    obtain ⟨cur, h1⟩ := own_ty h.D.1 hb
    refine hg.block b (Array.getElem?_eq_some_iff.1 h1).1 (fun hc => ?_)
    rcases h.E with hE | hE
    · rw [hE] at hc; cases hc
    · exact hE (by rw [← hc, hb]))
  obtain ⟨g, cap, -, -, hv⟩ := row_some h.R (by omega)
  refine ⟨fun r h1 h2 => nb2 (h.A r h1 h2), fun q hq g hgq => nbM (h.B q hq g hgq), ⟨hR, fun q hq => ?_⟩, ⟨hmore, fun q hq => nbO (h.D.2 q hq)⟩, .inr (.inr ⟨rfl, by omega⟩), nb2 h.R, fun b hb => ⟨fun q hq => ⟨((h.S1 b hb).1 q hq).1, by rw [getD_app hol, if_neg (by omega)]; exact ((h.S1 b hb).1 q hq).2.1, ((h.S1 b hb).1 q hq).2.2⟩, (h.S1 b hb).2⟩, fun r h1 h2 b hb => ⟨fun q hq => ?_, (h.S2 r h1 h2 b hb).2⟩, ?_, ⟨Nat.le_trans h.Z.1 hg.size, Nat.le_trans h.Z.2 hg.size⟩⟩
  · rw [getD_app hol]
    split
    · rename_i eq
      subst eq
      refine ⟨g, cap, by rw [hv, hi], ?_⟩
      rw [← hi]
      exact nbM (mb_own hs h.R (by rw [hv]; rfl))
    · exact nbO (h.C.2 q (by omega))
  · rw [getD_app hol]
    split
    · exact fun hc => (h.S1 b hc).2 r h1 h2 hb
    · exact (h.S2 r h1 h2 b hb).1 q (by omega)
  · rcases hl with hl | ⟨g9, hl, hge⟩
    · rw [hl]; exact h.E
    · refine .inr ?_
      rw [hl]
      intro hc
      obtain ⟨cur, h3⟩ := own_ty h.D.1 hc.symm
      have := (Array.getElem?_eq_some_iff.1 h3).1; omega
/- the list is kept as the one of 'more' -/
theorem In.done (hs : ∀ q i, (mk q i).length = s) {W W' : World} {L : VL} {p : Nat} {one more more' : Value} {os ms : List Value} {l : Value} {i : Nat} (h : In mk base b1 e e1 s W L p one more os ms l i (p + 1)) (hi : i = (L.getD p dv).2 + 70) (hee : e ≠ e1) (hR : W'.ownsRow b1 e1 1 more' (p + 1) (ms ++ [l])) (hg : W.grownBy W' more.ownBlock) (hl : LiesNew more more' W) : Ph mk base b1 e e1 s W' L (p + 1) one more' os (ms ++ [l]) := by
  have hml : ms.length = p := by have := h.D.1.1; omega
  have nb : ∀ (b : Nat) (cur : Array Value), W.heap[b]? = some (.cells cur e (0, 0)) → W'.heap[b]? = W.heap[b]? := fun b cur hb => hg.block b (Array.getElem?_eq_some_iff.1 hb).1 (fun hc => ty_apart h.D.1 hb (fun h => hee h.symm) hc.symm)
  have nb2 : ∀ {bb n9 : Nat} {v : Value} {xs : List Value}, W.ownsRow bb e s v n9 xs → W'.ownsRow bb e s v n9 xs := fun {bb n9 v xs} hv => own_block hv (fun b hb => by obtain ⟨cur, h1⟩ := own_ty hv hb; exact nb b cur h1)
  have nbM : ∀ {b q m : Nat}, MB mk e s W b q m → MB mk e s W' b q m := fun {b q m} hm => by obtain ⟨cur, h1⟩ := hm.1; exact hm.block (nb b cur h1)
  have nbO : ∀ {q : Nat} {x : Value} {m : Nat}, OneOk mk e s W q x m → OneOk mk e s W' q x m := fun {q x m} hm => hm.blk (fun b hb => by obtain ⟨cur, h1⟩ := hm.ty hb; exact nb b cur h1)
  have hone : W'.ownsRow b1 e1 1 one (p + 1) os := own_block h.C.1 (fun b hb => by
    obtain ⟨cur, h1⟩ := own_ty h.C.1 hb
    refine hg.block b (Array.getElem?_eq_some_iff.1 h1).1 (fun hc => ?_)
    rcases h.E with hE | hE
    · rw [hE] at hb; cases hb
    · exact hE (by rw [hb, hc]))
  obtain ⟨g, cap, -, -, hv⟩ := row_some h.R (by omega)
  refine ⟨fun r h1 h2 => nb2 (h.A r (by omega) h2), fun q hq g hgq => nbM (h.B q (by omega) g hgq), ⟨hone, fun q hq => nbO (h.C.2 q hq)⟩, ⟨hR, fun q hq => ?_⟩, fun q hq r h1 h2 b hb => ⟨(h.S2 r (by omega) h2 b hb).1 q hq, ?_⟩, ?_, ⟨Nat.le_trans h.Z.1 hg.size, Nat.le_trans h.Z.2 hg.size⟩⟩
  · rw [getD_app hml]
    split
    · rename_i eq
      subst eq
      refine ⟨g, cap, by rw [hv, hi], ?_⟩
      rw [← hi]
      exact nbM (mb_own hs h.R (by rw [hv]; rfl))
    · exact nbO (h.D.2 q (by omega))
  · rw [getD_app hml]
    split
    · exact fun hc => (h.S1 b hc).2 r (by omega) h2 hb
    · exact (h.S2 r (by omega) h2 b hb).2 q (by omega)
  · rcases hl with hl | ⟨g9, hl, hge⟩
    · rw [hl]; exact h.E
    · rcases h.E with hE | hE
      · exact .inl hE
      · refine .inr ?_
        rw [hl]
        intro hc
        obtain ⟨cur, h3⟩ := own_ty h.C.1 hc
        have := (Array.getElem?_eq_some_iff.1 h3).1; omega
theorem Ph.start {W : World} {L : VL} (h : Rows1 mk base e s W L L.length) (hb : b1 ≤ W.heap.size) (hb2 : base ≤ W.heap.size) : Ph mk base b1 e e1 s W L 0 (.slice none 0 0) (.slice none 0 0) [] [] :=
  ⟨fun r _ h2 => by obtain ⟨xs, h3, h4⟩ := h r h2; rw [h4 h2] at h3; exact h3, fun q hq => by omega, ⟨World.ownsRow_nil _ _ _ _, fun q hq => by omega⟩, ⟨World.ownsRow_nil _ _ _ _, fun q hq => by omega⟩, fun q hq => by omega, .inl rfl, ⟨hb, hb2⟩⟩
end Go.Proofs.YtmpamcdobhiipaaGreatDoor.BG
