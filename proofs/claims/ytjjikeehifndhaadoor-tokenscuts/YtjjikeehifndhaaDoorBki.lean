/-
  The bag's lists of ints lie apart.
-/
import Derived.Test.YtjjikeehifndhaaDoorProg
import Derived.WalkSpells
import Derived.WalkLawsBesides
import Derived.Handy
import Derived.Below
import Derived.OwnWalk
import Derived.Deep.QuietTactic
import Derived.BigQuiet
import Derived.BigRegion
import Derived.WalkSmall
import Derived.Laws.AppendOwnNone
import Derived.Deep.MidRow
import Derived.Deep.RegionHeld3
import Derived.Deep.DrawnRows
namespace Go.Proofs.YtjjikeehifndhaaDoor.BG
open Go.RowKit

theorem ret_int {k : IntKind} {a b : Int} (h : a = b) : Ending.returned (.int k a) = .returned (.int k b) := by rw [h]
def Up (w w' : World) : Prop := Below w.heap.size w w'
theorem Up.refl (w : World) : Up w w := Below.refl _ _
theorem Up.trans {a b c : World} (h : Up a b) (k : Up b c) : Up a c := Below.trans h (Below.mono k h.size)
theorem Up.alloc {a w : World} (h : Up a w) (o : Obj) : Up a (w.alloc o) := Below.alloc h h.size o
theorem Up.drew {a w : World} (h : Up a w) : Up a w.drew := Below.drew h
theorem Up.drewN {a w : World} (h : Up a w) (n : Nat) : Up a (w.drewN n) := ⟨h.os, h.tape, h.output, h.size, h.block⟩
theorem Up.cell {w w' : World} (h : Up w w') {p : Addr} {v : Value} (hc : w.cell? p = some v) : w'.cell? p = some v := by
  rw [Below.cell h (World.block_lt_of_cell? w p hc)]; exact hc
theorem Up.heap {w w' : World} (h : Up w w') {g : Nat} {o : Obj} (hg : w.heap[g]? = some o) : w'.heap[g]? = some o := by
  rw [h.block g (Array.getElem?_eq_some_iff.1 hg).1]; exact hg
/- at most block b and new ones -/
theorem row_up {w w' : World} {b e s n : Nat} {v : Value} {xs : List Value} (h : w.ownsRow b e s v n xs) (u : Up w w') : w'.ownsRow b e s v n xs := by
  refine ⟨h.1, ?_⟩
  rcases h.2 with h | ⟨g, cap, cur, e1, e2, e3, e4⟩
  · exact .inl h
  · exact .inr ⟨g, cap, cur, e1, e2, u.heap e3, e4⟩
theorem row_some {w : World} {b e s n : Nat} {v : Value} {xs : List Value} (h : w.ownsRow b e s v n xs) (hn : 0 < n) : ∃ g cap, b ≤ g ∧ n ≤ cap ∧ v = .slice (some ⟨g, 0, none⟩) n cap := by
  rcases h.2 with ⟨rfl, h0⟩ | ⟨g, cap, cur, rfl, hb, _, hc, _⟩
  · omega
  · exact ⟨g, cap, hb, hc, rfl⟩
theorem row_val {w : World} {base e s n : Nat} {v : Value} {xs : List Value} (h : w.ownsRow base e s v n xs) : ∃ ad cap, v = .slice ad n cap := by
  rcases h.2 with ⟨rfl, hn⟩ | ⟨g, cap, cur, rfl, _⟩
  · exact ⟨none, 0, by rw [hn]⟩
  · exact ⟨_, cap, rfl⟩
/- a flag that was set and set back: nothing has turned -/
theorem flat_len {E : Type} (f : E → List Value) (s : Nat) (hf : ∀ e, (f e).length = s) (l : List E) : (l.flatMap f).length = l.length * s := by
  induction l with
  | nil => simp
  | cons x l ih => rw [List.flatMap_cons, List.length_append, ih, hf, List.length_cons, Nat.succ_mul]; omega
theorem flat_get {E : Type} (f : E → List Value) (s : Nat) (hf : ∀ e, (f e).length = s) (d : E) (l : List E) : ∀ i j, i < l.length → j < s → (l.flatMap f)[i * s + j]? = (f (l.getD i d))[j]? := by
  induction l with
  | nil => intro i j h; simp at h
  | cons x l ih =>
    intro i j hi hj
    rw [List.flatMap_cons]
    cases i with
    | zero => rw [Nat.zero_mul, Nat.zero_add, List.getElem?_append_left (by rw [hf]; exact hj)]; rfl
    | succ i =>
      rw [List.getElem?_append_right (by rw [hf, Nat.succ_mul]; omega), hf, show (i + 1) * s + j - s = i * s + j by rw [Nat.succ_mul]; omega, ih i j (by simpa using hi) hj]
      rfl
theorem seven_f {W : World} {a : Nat} {cs : Array Value} {t : TypeId} (h : W.heap[a]? = some (.cells cs t (0, 0))) : ∀ j, W.frozen? ⟨a, j, none⟩ = false := fun j => by simp [World.frozen?, h]
theorem set_cells {W : World} {a j : Nat} {cs : Array Value} {t : TypeId} {x : Value} (h : W.heap[a]? = some (.cells cs t (0, 0))) : (W.setCell ⟨a, j, none⟩ x).heap[a]? = some (.cells (cs.setIfInBounds j x) t (0, 0)) := by
  simp only [World.setCell, Array.getElem?_modify]; rw [h]; simp
end Go.Proofs.YtjjikeehifndhaaDoor.BG
namespace Go.Proofs.YtjjikeehifndhaaDoor.BG
open Go.RowKit

/- what an append keeps: every cell but the row's own spare room -/
def KeptS (v : Value) (m : Nat) (w w' : World) : Prop := ∀ (g k : Nat) (x : Value), w.cell? ⟨g, k, none⟩ = some x → (v.ownBlock = some g → k < m) → w'.cell? ⟨g, k, none⟩ = some x
/- where the longer row lies: in its block, or in a new one -/
def LiesNew (v v' : Value) (w : World) : Prop := v'.ownBlock = v.ownBlock ∨ ∃ g, v'.ownBlock = some g ∧ w.heap.size ≤ g
/- the blocks keep their types -/
def TyK (w w' : World) : Prop := ∀ (g : Nat) (cur : Array Value) (t : Nat), w.heap[g]? = some (.cells cur t (0, 0)) → ∃ cur', w'.heap[g]? = some (.cells cur' t (0, 0))
theorem run_append_apart {P : Program} (w : World) (base : Nat) (t ty e : TypeId) (i : TypeInfo) (z : Value) (size bytes : Nat) (ht : P.underlying t = some (.slice e)) (hi : P.info? e = some i) (hz : i.zero = some z)
    (hsize : i.size = size) (hby : i.bytes = bytes) (hzs : z.cells.size = size) (hsz : 0 < size)
    (v : Value) (n : Nat) (xs : List Value) (hown : w.ownsRow base e size v n xs)
    (a : Addr) (c : Nat) (ys : List Value) (hys : ys.length = size) (hnews : ∀ j u, ys[j]? = some u → w.cell? (a.add j) = some u) (hone : ∀ u ∈ ys, u.oneCell' = true)
    (h63 : n + 1 ≤ maxLen) (hbytes : (n + 1) * bytes ≤ 140737488355328) (hbase : base ≤ w.heap.size) :
    ∃ v' w', (Builtin.append_ #[t, t] ty #[v, .slice (some a) 1 c]).run P w = .ok v' w' ∧ w'.ownsRow base e size v' (n + 1) (xs ++ ys) ∧ w.grownBy w' v.ownBlock ∧ KeptS v (n * size) w w' ∧ LiesNew v v' w ∧ TyK w w' := by
  subst hby
  subst hsize
  obtain ⟨v', w', hr, h2, h3, _⟩ := run_append_own (P := P) w base t ty e i z i.size i.bytes ht hi hz rfl rfl hzs hsz v n xs hown a 1 c ys (by rw [hys]; simp) hnews hone h63 hbytes hbase
  refine ⟨v', w', hr, h2, h3, ?_⟩
  rcases hown.2 with ⟨rfl, rfl⟩ | ⟨g', cap, cur, rfl, hbg, hgc, hnc, hcm, hcs, htake⟩
  · obtain ⟨v9, w9, hr9, h9, _, _⟩ := run_append_own (P := P) w w.heap.size t ty e i z i.size i.bytes ht hi hz rfl rfl hzs hsz (.slice none 0 0) 0 [] (World.ownsRow_nil _ _ _ _) a 1 c ys (by rw [hys]; simp) hnews hone h63 hbytes (Nat.le_refl _)
    rw [hr] at hr9
    cases hr9
    refine ⟨fun g k x hx _ => ?_, .inr ?_, fun g cur t hg => ⟨cur, by rw [h3.block g (Array.getElem?_eq_some_iff.1 hg).1 (fun e => by cases e)]; exact hg⟩⟩
    · have hgl : g < w.heap.size := World.block_lt_of_cell? w ⟨g, k, none⟩ hx
      rw [World.cell?_of_block (w := w) (w' := w') (a := ⟨g, k, none⟩) (h3.block g hgl (fun e => by cases e))]
      exact hx
    · rcases h9.2 with ⟨-, h0⟩ | ⟨g, cap, cur, rfl, hb, _⟩
      · omega
      · exact ⟨g, rfl, hb⟩
  · by_cases hroom : n + 1 ≤ cap
    · have hr2 := run_append_room (P := P) w t ty e i ht hi g' n cap cur hgc a 1 c ys (by rw [hys]; simp) hnews hone hroom (by rw [hcs]; exact Nat.le_trans (by rw [hys, Nat.succ_mul]; exact Nat.le_refl _) (Nat.mul_le_mul_right _ hroom))
      rw [hr] at hr2
      cases hr2
      refine ⟨fun g k x hx hlt => ?_, .inl rfl, fun g cur9 t hg => ?_⟩
      rotate_left
      · by_cases hgg : g = g'
        · subst hgg
          rw [hgc] at hg
          cases hg
          exact ⟨_, setRow_heap w g cur _ e _ hgc⟩
        · exact ⟨cur9, by rw [h3.block g (Array.getElem?_eq_some_iff.1 hg).1 (fun e => hgg (by simpa [Value.ownBlock] using e))]; exact hg⟩
      by_cases hg : g = g'
      · subst hg
        have hk := hlt rfl
        have hcell : w.cell? ⟨g, k, none⟩ = cur[k]? := by simp [World.cell?, hgc]
        rw [hcell] at hx
        have hrow := setRow_heap w g cur (cur.toList.take (n * i.size) ++ ys ++ cur.toList.drop (n * i.size + ys.length)).toArray e _ hgc
        simp only [World.cell?, hrow]
        have hkl : k < cur.size := (Array.getElem?_eq_some_iff.1 hx).1
        rw [← hx]
        simp only [List.getElem?_toArray]
        rw [List.append_assoc, List.getElem?_append_left (by simp; omega), List.getElem?_take_of_lt (by omega), Array.getElem?_toList]
        rfl
      · have hgl : g < w.heap.size := World.block_lt_of_cell? w ⟨g, k, none⟩ hx
        rw [World.cell?_of_block (w := w) (a := ⟨g, k, none⟩) (h3.block g hgl (fun e => hg (by simpa [Value.ownBlock] using e)))]
        exact hx
    · have holds : ∀ j u, xs[j]? = some u → w.cell? ((⟨g', 0, none⟩ : Addr).add j) = some u := hown.cells (g := g') rfl
      have hr2 := run_append_grow (P := P) w t ty e i z ht hi hz ⟨g', 0, none⟩ n cap xs hown.1 holds a 1 c ys (by rw [hys]; simp) hnews (by omega) (by simp only [maxLen] at h63; omega) (growslice_fits (by omega) hbytes)
      rw [hr] at hr2
      cases hr2
      refine ⟨fun g k x hx _ => ?_, .inr ⟨_, rfl, Nat.le_refl _⟩, fun g cur9 t hg => ⟨cur9, by rw [Below.heap_alloc w.drew _ g (Array.getElem?_eq_some_iff.1 hg).1]; exact hg⟩⟩
      have hgl : g < w.heap.size := World.block_lt_of_cell? w ⟨g, k, none⟩ hx
      rw [World.cell?_of_block (w := w) (a := ⟨g, k, none⟩) (Below.heap_alloc w.drew _ g hgl)]
      exact hx
theorem wpList_append_apart {P : Program} (w : World) {ops : Array Oper} {rest : List Oper} {o : Oper} {a : Act} {Q : Exit → Act → World → Prop} (hgd : o.guard = none) (s x : Operand) (t : TypeId)
    (ho : o.op = .call { callee := .builtin .append, args := #[s, x], argTypes := #[t, t] })
    (base : Nat) (e : TypeId) (i : TypeInfo) (z : Value) (size bytes : Nat) (ht : P.underlying t = some (.slice e)) (hi : P.info? e = some i) (hz : i.zero = some z)
    (hsize : i.size = size) (hby : i.bytes = bytes) (hzs : z.cells.size = size) (hsz : 0 < size)
    (v : Value) (n : Nat) (xs : List Value) (hs : a.eval s = v) (hown : w.ownsRow base e size v n xs)
    (ad : Addr) (c : Nat) (ys : List Value) (hx : a.eval x = .slice (some ad) 1 c) (hys : ys.length = size) (hnews : ∀ j u, ys[j]? = some u → w.cell? (ad.add j) = some u) (hone : ∀ u ∈ ys, u.oneCell' = true)
    (h63 : n + 1 ≤ maxLen) (hbytes : (n + 1) * bytes ≤ 140737488355328) (hbase : base ≤ w.heap.size)
    (h : ∀ v' w', w'.ownsRow base e size v' (n + 1) (xs ++ ys) → w.grownBy w' v.ownBlock → KeptS v (n * size) w w' → LiesNew v v' w → TyK w w' → wpList P ops Q rest (a.put o.dst v') w') : wpList P ops Q (o :: rest) a w := by
  refine wpList_plain hgd fun _ hK => ?_
  obtain ⟨v', w', hr, h2, h3, h4, h5, h6⟩ := run_append_apart (P := P) w base t o.type e i z size bytes ht hi hz hsize hby hzs hsz v n xs hown ad c ys hys hnews hone h63 hbytes hbase
  unfold Oper.wp execOp
  simp only [ho, resolve, invoke, builtin, Sem.run_bind, Sem.run_pure, Result.andThen_ok, List.map_toArray, List.map_cons, List.map_nil, hs, hx, hr]
  exact hK _ _ (h v' w' h2 h3 h4 h5 h6)
end Go.Proofs.YtjjikeehifndhaaDoor.BG
namespace Go.Proofs.YtjjikeehifndhaaDoor.BG
open Go.RowKit

/- all but some blocks stay -/
def Exc (S : Nat → Prop) (w w' : World) : Prop := (w'.os = w.os ∧ w'.tape = w.tape ∧ w'.output = w.output) ∧ w.heap.size ≤ w'.heap.size ∧ ∀ b, b < w.heap.size → ¬ S b → w'.heap[b]? = w.heap[b]?
theorem Exc.refl (S : Nat → Prop) (w : World) : Exc S w w := ⟨⟨rfl, rfl, rfl⟩, Nat.le_refl _, fun _ _ _ => rfl⟩
theorem Exc.up {S : Nat → Prop} {w W W' : World} (h : Exc S w W) (u : Up W W') : Exc S w W' :=
  ⟨⟨u.os.trans h.1.1, u.tape.trans h.1.2.1, u.output.trans h.1.2.2⟩, Nat.le_trans h.2.1 u.size, fun b hb hs => (u.block b (Nat.lt_of_lt_of_le hb h.2.1)).trans (h.2.2 b hb hs)⟩
theorem Exc.set {S : Nat → Prop} {w W : World} (h : Exc S w W) (c j : Nat) (x : Value) (hc : S c ∨ w.heap.size ≤ c) : Exc S w (W.setCell ⟨c, j, none⟩ x) :=
  ⟨h.1, by simpa using h.2.1, fun b hb hs => by
    rw [Below.heap_setCell _ _ _ _ (by
      show b ≠ c
      rintro rfl
      rcases hc with hc | hc
      · exact hs hc
      · omega)]
    exact h.2.2 b hb hs⟩
theorem Exc.grown {S : Nat → Prop} {w W W' : World} {v : Value} (h : Exc S w W) (g : W.grownBy W' v.ownBlock) (hc : ∀ c, v.ownBlock = some c → S c ∨ w.heap.size ≤ c) : Exc S w W' :=
  ⟨⟨g.os.trans h.1.1, g.tape.trans h.1.2.1, g.output.trans h.1.2.2⟩, Nat.le_trans h.2.1 g.size, fun b hb hs => by
    rw [g.block b (Nat.lt_of_lt_of_le hb h.2.1) (fun e => by
      rcases hc b e.symm with hc | hc
      · exact hs hc
      · omega)]
    exact h.2.2 b hb hs⟩
theorem Exc.heap {S : Nat → Prop} {w W : World} (h : Exc S w W) {b : Nat} {o : Obj} (hb : w.heap[b]? = some o) (hs : ¬ S b) : W.heap[b]? = some o := by
  rw [h.2.2 b (Array.getElem?_eq_some_iff.1 hb).1 hs]; exact hb
theorem Exc.mono {S T : Nat → Prop} {w W : World} (h : Exc S w W) (hst : ∀ b, S b → T b) : Exc T w W := ⟨h.1, h.2.1, fun b hb ht => h.2.2 b hb (fun hs => ht (hst b hs))⟩
theorem Exc.below {S : Nat → Prop} {w W : World} (h : Exc S w W) (base : Nat) (hs : ∀ b, S b → base ≤ b) (hb : base ≤ w.heap.size) : Below base w W :=
  ⟨h.1.1, h.1.2.1, h.1.2.2, h.2.1, fun g hg => h.2.2 g (by omega) (fun hS => by have := hs g hS; omega)⟩
def mks (mk : Nat → Nat → List Value) (q n : Nat) : List Value := (List.range n).flatMap (mk q)
section
variable {mk : Nat → Nat → List Value} {s : Nat} (hs : ∀ q i, (mk q i).length = s)
include hs
theorem mks_len (q n : Nat) : (mks mk q n).length = n * s := by rw [mks, flat_len (mk q) s (hs q), List.length_range]
theorem mks_get (q n i j : Nat) (hi : i < n) (hj : j < s) : (mks mk q n)[i * s + j]? = (mk q i)[j]? := by
  have := flat_get (mk q) s (hs q) 0 (List.range n) i j (by simpa using hi) hj
  rw [mks, this]
  simp [List.getD_eq_getElem?_getD, hi]
end
theorem mks_more (mk : Nat → Nat → List Value) (q n : Nat) : mks mk q (n + 1) = mks mk q n ++ mk q n := by simp [mks, List.range_succ]
/- block b holds the marks of the first m elements of list q -/
def MB (mk : Nat → Nat → List Value) (e s : Nat) (W : World) (b q m : Nat) : Prop := (∃ cur, W.heap[b]? = some (.cells cur e (0, 0))) ∧ ∀ i j, i < m → j < s → W.cell? ⟨b, i * s + j, none⟩ = (mk q i)[j]?
theorem MB.block {mk : Nat → Nat → List Value} {e s : Nat} {W W' : World} {b q m : Nat} (h : MB mk e s W b q m) (k : W'.heap[b]? = W.heap[b]?) : MB mk e s W' b q m := by
  obtain ⟨⟨cur, h1⟩, h2⟩ := h
  exact ⟨⟨cur, by rw [k]; exact h1⟩, fun i j hi hj => by rw [World.cell?_of_block (w := W) (w' := W') (a := ⟨b, i * s + j, none⟩) k]; exact h2 i j hi hj⟩
theorem MB.lt {mk : Nat → Nat → List Value} {e s : Nat} {W : World} {b q m : Nat} (h : MB mk e s W b q m) : b < W.heap.size := by
  obtain ⟨⟨cur, h1⟩, -⟩ := h
  exact (Array.getElem?_eq_some_iff.1 h1).1
theorem MB.less {mk : Nat → Nat → List Value} {e s : Nat} {W : World} {b q m m' : Nat} (h : MB mk e s W b q m) (hm : m' ≤ m) : MB mk e s W b q m' := ⟨h.1, fun i j hi hj => h.2 i j (by omega) hj⟩
/- an own row of marks -/
theorem mb_own {mk : Nat → Nat → List Value} {e s base : Nat} (hs : ∀ q i, (mk q i).length = s) {W : World} {v : Value} {n q : Nat} (h : W.ownsRow base e s v n (mks mk q n)) {g : Nat} (hg : v.ownBlock = some g) : MB mk e s W g q n := by
  rcases h.2 with ⟨rfl, -⟩ | ⟨g', cap, cur, rfl, _, h1, _⟩
  · cases hg
  · have : g' = g := by simpa [Value.ownBlock] using hg
    subst this
    refine ⟨⟨cur, h1⟩, fun i j hi hj => ?_⟩
    have hk : i * s + j < n * s := by
      have : (i + 1) * s ≤ n * s := Nat.mul_le_mul_right _ hi
      rw [Nat.succ_mul] at this; omega
    rw [h.cellAt (i * s + j) hk, mks_get hs q n i j hi hj]
theorem own_block {W W' : World} {base e s n : Nat} {v : Value} {xs : List Value} (h : W.ownsRow base e s v n xs) (k : ∀ g, v.ownBlock = some g → W'.heap[g]? = W.heap[g]?) : W'.ownsRow base e s v n xs := by
  refine ⟨h.1, ?_⟩
  rcases h.2 with h | ⟨g, cap, cur, rfl, e2, e3, e4⟩
  · exact .inl h
  · exact .inr ⟨g, cap, cur, rfl, e2, by rw [k g rfl]; exact e3, e4⟩
abbrev VL := List (Value × Nat)
def dv : Value × Nat := (.slice none 0 0, 0)
def Blks (L : VL) (b : Nat) : Prop := ∃ p, p < L.length ∧ (L.getD p dv).1.ownBlock = some b
def Apart (L : VL) : Prop := ∀ p q g, p < L.length → q < L.length → p ≠ q → (L.getD p dv).1.ownBlock = some g → (L.getD q dv).1.ownBlock ≠ some g
/- up to list i all marked, behind it not yet -/
def Rows1 (mk : Nat → Nat → List Value) (base e s : Nat) (W : World) (L : VL) (i : Nat) : Prop := ∀ p, p < L.length → ∃ xs, W.ownsRow base e s (L.getD p dv).1 (L.getD p dv).2 xs ∧ (p < i → xs = mks mk p (L.getD p dv).2)
/- list p, its first i elements marked -/
def Row2 (mk : Nat → Nat → List Value) (base e s : Nat) (W : World) (L : VL) (p i : Nat) : Prop := (∀ q, q < L.length → ∃ xs, W.ownsRow base e s (L.getD q dv).1 (L.getD q dv).2 xs ∧ (q < p → xs = mks mk q (L.getD q dv).2) ∧ (q = p → xs.take (i * s) = mks mk p i))
theorem Rows1.start {mk : Nat → Nat → List Value} {base e s : Nat} {W : World} {L : VL} {p : Nat} (h : Rows1 mk base e s W L p) : Row2 mk base e s W L p 0 := fun q hq => by
  obtain ⟨xs, h1, h2⟩ := h q hq
  exact ⟨xs, h1, h2, fun _ => by rw [Nat.zero_mul]; rfl⟩
theorem Row2.finish {mk : Nat → Nat → List Value} {base e s : Nat} {W : World} {L : VL} {p : Nat} (h : Row2 mk base e s W L p (L.getD p dv).2) : Rows1 mk base e s W L (p + 1) := fun q hq => by
  obtain ⟨xs, h1, h2, h3⟩ := h q hq
  refine ⟨xs, h1, fun hlt => ?_⟩
  by_cases eq : q = p
  · subst eq
    have := h3 rfl
    rw [List.take_of_length_le (by rw [h1.1]; exact Nat.le_refl _)] at this
    exact this
  · exact h2 (by omega)
/- one more element of list p is marked: by whatever writes just its cells -/
theorem Row2.put {mk : Nat → Nat → List Value} {base e s : Nat} (hs : ∀ q i, (mk q i).length = s) {W W' : World} {L : VL} {p i g : Nat} {cur : Array Value} (h : Row2 mk base e s W L p i) (hp : p < L.length) (hi : i < (L.getD p dv).2) (hd : Apart L) (hg : (L.getD p dv).1.ownBlock = some g) (hcur : W.heap[g]? = some (.cells cur e (0, 0))) (hnew : W'.heap[g]? = some (.cells (cur.toList.take (i * s) ++ mk p i ++ cur.toList.drop (i * s + s)).toArray e (0, 0))) (hoth : ∀ b, b ≠ g → W'.heap[b]? = W.heap[b]?) : Row2 mk base e s W' L p (i + 1) := fun q hq => by
  obtain ⟨xs, h1, h2, h3⟩ := h q hq
  by_cases eq : q = p
  · subst eq
    rcases h1.2 with ⟨e0, -⟩ | ⟨g', cap, cur', ev, hb, hh, hnc, hcm, hcs, htk⟩
    · rw [e0] at hg; cases hg
    · rw [ev] at hg
      have hgg : g' = g := by simpa [Value.ownBlock] using hg
      subst hgg
      rw [hcur] at hh
      cases hh
      have hsz : i * s + s ≤ (L.getD q dv).2 * s := by rw [← Nat.succ_mul]; exact Nat.mul_le_mul_right _ hi
      have hcl : (L.getD q dv).2 * s ≤ cap * s := Nat.mul_le_mul_right _ hnc
      have hlen : (cur.toList.take (i * s) ++ mk q i ++ cur.toList.drop (i * s + s)).length = cap * s := by
        simp [hs]; omega
      refine ⟨(cur.toList.take (i * s) ++ mk q i ++ cur.toList.drop (i * s + s)).take ((L.getD q dv).2 * s), ⟨by rw [List.length_take, hlen]; omega, .inr ⟨g', cap, _, ev, hb, hnew, hnc, hcm, by simpa using hlen, by simp⟩⟩, fun hlt => by omega, fun _ => ?_⟩
      rw [List.take_take, Nat.min_eq_left (by rw [Nat.succ_mul]; exact hsz)]
      have h4 := h3 rfl
      rw [← htk, List.take_take, Nat.min_eq_left (by omega)] at h4
      rw [mks_more, ← h4, List.take_append, List.take_of_length_le (by simp [hs]; rw [Nat.succ_mul]; omega)]
      have : (i + 1) * s - (cur.toList.take (i * s) ++ mk q i).length = 0 := by simp [hs]; rw [Nat.succ_mul]; omega
      rw [this, List.take_zero, List.append_nil]
  · refine ⟨xs, own_block h1 (fun b hb => hoth b (fun h => ?_)), h2, fun h => absurd h eq⟩
    subst h
    exact hd p q b hp hq (fun h => eq h.symm) hg hb
end Go.Proofs.YtjjikeehifndhaaDoor.BG
namespace Go.Proofs.YtjjikeehifndhaaDoor.BG
open Go.RowKit

theorem ty_apart {W : World} {base e s q g : Nat} {v : Value} {xs : List Value} {cs : Array Value} {t : TypeId} (h : W.ownsRow base e s v q xs) (hg : W.heap[g]? = some (.cells cs t (0, 0))) (ht : e ≠ t) : v.ownBlock ≠ some g := by
  rcases h.2 with ⟨rfl, h0⟩ | ⟨g', cap, cur, rfl, _, h1, _⟩
  · simp [Value.ownBlock]
  · intro eq
    have eq' : g' = g := by simpa [Value.ownBlock] using eq
    subst eq'
    rw [h1] at hg
    cases hg
    exact ht rfl
theorem own_ty {W : World} {base e s q g : Nat} {v : Value} {xs : List Value} (h : W.ownsRow base e s v q xs) (hg : v.ownBlock = some g) : ∃ cur, W.heap[g]? = some (.cells cur e (0, 0)) := by
  rcases h.2 with ⟨rfl, h0⟩ | ⟨g', cap, cur, rfl, _, h1, _⟩
  · cases hg
  · have eq' : g' = g := by simpa [Value.ownBlock] using hg
    subst eq'
    exact ⟨cur, h1⟩
def OneOk (mk : Nat → Nat → List Value) (e s : Nat) (W : World) (q : Nat) (x : Value) (m : Nat) : Prop := ∃ o cap, x = .slice (some ⟨o, 0, none⟩) m cap ∧ MB mk e s W o q m
theorem OneOk.blk {mk : Nat → Nat → List Value} {e s : Nat} {W W' : World} {q : Nat} {x : Value} {m : Nat} (h : OneOk mk e s W q x m) (k : ∀ b, x.ownBlock = some b → W'.heap[b]? = W.heap[b]?) : OneOk mk e s W' q x m := by
  obtain ⟨o, cap, rfl, h⟩ := h
  exact ⟨o, cap, rfl, h.block (k o rfl)⟩
theorem OneOk.lt {mk : Nat → Nat → List Value} {e s : Nat} {W : World} {q : Nat} {x : Value} {m b : Nat} (h : OneOk mk e s W q x m) (hb : x.ownBlock = some b) : b < W.heap.size := by
  obtain ⟨o, cap, rfl, h⟩ := h
  have : o = b := by simpa [Value.ownBlock] using hb
  subst this
  exact h.lt
theorem OneOk.ty {mk : Nat → Nat → List Value} {e s : Nat} {W : World} {q : Nat} {x : Value} {m b : Nat} (h : OneOk mk e s W q x m) (hb : x.ownBlock = some b) : ∃ cur, W.heap[b]? = some (.cells cur e (0, 0)) := by
  obtain ⟨o, cap, rfl, h⟩ := h
  have : o = b := by simpa [Value.ownBlock] using hb
  subst this
  exact h.1
variable {mk : Nat → Nat → List Value} {base b1 e e1 s : Nat}
/- ahead of list p -/
structure Ph (mk : Nat → Nat → List Value) (base b1 e e1 s : Nat) (W : World) (L : VL) (p : Nat) (one more : Value) (os ms : List Value) : Prop where
  A : ∀ r, p ≤ r → r < L.length → W.ownsRow base e s (L.getD r dv).1 (L.getD r dv).2 (mks mk r (L.getD r dv).2)
  B : ∀ q, q < p → ∀ g, (L.getD q dv).1.ownBlock = some g → MB mk e s W g q (L.getD q dv).2
  C : W.ownsRow b1 e1 1 one p os ∧ ∀ q, q < p → OneOk mk e s W q (os.getD q (Value.slice none 0 0)) ((L.getD q dv).2 + 1)
  D : W.ownsRow b1 e1 1 more p ms ∧ ∀ q, q < p → OneOk mk e s W q (ms.getD q (Value.slice none 0 0)) ((L.getD q dv).2 + 70)
  S : ∀ q, q < p → ∀ r, p ≤ r → r < L.length → ∀ b, (L.getD r dv).1.ownBlock = some b → (os.getD q (Value.slice none 0 0)).ownBlock ≠ some b ∧ (ms.getD q (Value.slice none 0 0)).ownBlock ≠ some b
  E : one.ownBlock = none ∨ one.ownBlock ≠ more.ownBlock
  Z : b1 ≤ W.heap.size ∧ base ≤ W.heap.size
/- within list p: l has i elements, one holds k lists -/
structure In (mk : Nat → Nat → List Value) (base b1 e e1 s : Nat) (W : World) (L : VL) (p : Nat) (one more : Value) (os ms : List Value) (l : Value) (i k : Nat) : Prop where
  A : ∀ r, p < r → r < L.length → W.ownsRow base e s (L.getD r dv).1 (L.getD r dv).2 (mks mk r (L.getD r dv).2)
  B : ∀ q, q ≤ p → ∀ g, (L.getD q dv).1.ownBlock = some g → MB mk e s W g q (L.getD q dv).2
  C : W.ownsRow b1 e1 1 one k os ∧ ∀ q, q < k → OneOk mk e s W q (os.getD q (Value.slice none 0 0)) ((L.getD q dv).2 + 1)
  D : W.ownsRow b1 e1 1 more p ms ∧ ∀ q, q < p → OneOk mk e s W q (ms.getD q (Value.slice none 0 0)) ((L.getD q dv).2 + 70)
  K : (k = p ∧ i = (L.getD p dv).2) ∨ (k = p ∧ i = (L.getD p dv).2 + 1) ∨ (k = p + 1 ∧ (L.getD p dv).2 + 1 ≤ i)
  R : W.ownsRow base e s l i (mks mk p i)
  S1 : ∀ b, l.ownBlock = some b → (∀ q, q < p → (L.getD q dv).1.ownBlock ≠ some b ∧ (os.getD q (Value.slice none 0 0)).ownBlock ≠ some b ∧ (ms.getD q (Value.slice none 0 0)).ownBlock ≠ some b) ∧ ∀ r, p < r → r < L.length → (L.getD r dv).1.ownBlock ≠ some b
  S2 : ∀ r, p < r → r < L.length → ∀ b, (L.getD r dv).1.ownBlock = some b → (∀ q, q < k → (os.getD q (Value.slice none 0 0)).ownBlock ≠ some b) ∧ ∀ q, q < p → (ms.getD q (Value.slice none 0 0)).ownBlock ≠ some b
  E : one.ownBlock = none ∨ one.ownBlock ≠ more.ownBlock
  Z : b1 ≤ W.heap.size ∧ base ≤ W.heap.size
theorem mb_up {W W' : World} {b q m : Nat} (h : MB mk e s W b q m) (u : Up W W') : MB mk e s W' b q m := h.block (u.block b h.lt)
theorem one_up {W W' : World} {q : Nat} {x : Value} {m : Nat} (h : OneOk mk e s W q x m) (u : Up W W') : OneOk mk e s W' q x m := h.blk (fun b hb => u.block b (h.lt hb))
theorem Ph.up {W W' : World} {L : VL} {p : Nat} {one more : Value} {os ms : List Value} (h : Ph mk base b1 e e1 s W L p one more os ms) (u : Up W W') : Ph mk base b1 e e1 s W' L p one more os ms :=
  ⟨fun r h1 h2 => row_up (h.A r h1 h2) u, fun q hq g hg => mb_up (h.B q hq g hg) u, ⟨row_up h.C.1 u, fun q hq => one_up (h.C.2 q hq) u⟩, ⟨row_up h.D.1 u, fun q hq => one_up (h.D.2 q hq) u⟩, h.S, h.E, ⟨Nat.le_trans h.Z.1 u.size, Nat.le_trans h.Z.2 u.size⟩⟩
theorem In.up {W W' : World} {L : VL} {p : Nat} {one more : Value} {os ms : List Value} {l : Value} {i k : Nat} (h : In mk base b1 e e1 s W L p one more os ms l i k) (u : Up W W') : In mk base b1 e e1 s W' L p one more os ms l i k :=
  ⟨fun r h1 h2 => row_up (h.A r h1 h2) u, fun q hq g hg => mb_up (h.B q hq g hg) u, ⟨row_up h.C.1 u, fun q hq => one_up (h.C.2 q hq) u⟩, ⟨row_up h.D.1 u, fun q hq => one_up (h.D.2 q hq) u⟩, h.K, row_up h.R u, h.S1, h.S2, h.E, ⟨Nat.le_trans h.Z.1 u.size, Nat.le_trans h.Z.2 u.size⟩⟩
theorem Ph.inn (hs : ∀ q i, (mk q i).length = s) {W : World} {L : VL} {p : Nat} {one more : Value} {os ms : List Value} (h : Ph mk base b1 e e1 s W L p one more os ms) (hp : p < L.length) (hd : Apart L) : In mk base b1 e e1 s W L p one more os ms (L.getD p dv).1 (L.getD p dv).2 p := by
  refine ⟨fun r h1 h2 => h.A r (by omega) h2, fun q hq g hg => ?_, h.C, h.D, .inl ⟨rfl, rfl⟩, h.A p (Nat.le_refl _) hp, fun b hb => ⟨fun q hq => ⟨fun hc => hd q p b (by omega) hp (by omega) hc hb, (h.S q hq p (Nat.le_refl _) hp b hb).1, (h.S q hq p (Nat.le_refl _) hp b hb).2⟩, fun r h1 h2 hc => hd p r b hp h2 (by omega) hb hc⟩, fun r h1 h2 b hb => ⟨fun q hq => (h.S q hq r (by omega) h2 b hb).1, fun q hq => (h.S q hq r (by omega) h2 b hb).2⟩, h.E, h.Z⟩
  by_cases eq : q = p
  · subst eq; exact mb_own hs (h.A q (Nat.le_refl _) hp) hg
  · exact h.B q (by omega) g hg
/- list l goes on -/
theorem In.grow (hs : ∀ q i, (mk q i).length = s) {W W' : World} {L : VL} {p : Nat} {one more : Value} {os ms : List Value} {l l' : Value} {i k : Nat} (h : In mk base b1 e e1 s W L p one more os ms l i k) (hk : i = (L.getD p dv).2 + 1 → k = p + 1) (hee : e ≠ e1) (hR : W'.ownsRow base e s l' (i + 1) (mks mk p (i + 1))) (hg : W.grownBy W' l.ownBlock) (hkp : KeptS l (i * s) W W') (hl : LiesNew l l' W) (ht : TyK W W') : In mk base b1 e e1 s W' L p one more os ms l' (i + 1) k := by
  have nb : ∀ b, b < W.heap.size → l.ownBlock ≠ some b → W'.heap[b]? = W.heap[b]? := fun b hb hn => hg.block b hb (fun h => hn h.symm)
  have ni : (L.getD p dv).2 ≤ i := by rcases h.K with ⟨-, a⟩ | ⟨-, a⟩ | ⟨-, a⟩ <;> omega
  have keepMB : ∀ b q m, MB mk e s W b q m → (l.ownBlock = some b → m ≤ i) → MB mk e s W' b q m := fun b q m hm hc => by
    obtain ⟨⟨cur, h1⟩, h2⟩ := hm
    refine ⟨ht b cur e h1, fun x j hx hj => ?_⟩
    have h3 := h2 x j hx hj
    have hy : j < (mk q x).length := by rw [hs]; exact hj
    rw [List.getElem?_eq_getElem hy] at h3 ⊢
    refine hkp b (x * s + j) _ h3 (fun hb => ?_)
    have := hc hb
    have h4 : (x + 1) * s ≤ i * s := Nat.mul_le_mul_right _ (by omega)
    rw [Nat.succ_mul] at h4
    omega
  have keepOne : ∀ q x m, OneOk mk e s W q x m → (∀ b, l.ownBlock = some b → x.ownBlock = some b → m ≤ i) → OneOk mk e s W' q x m := fun q x m hm hc => by
    obtain ⟨o, cap, rfl, hm⟩ := hm
    exact ⟨o, cap, rfl, keepMB o q m hm (fun hb => hc o hb rfl)⟩
  have other : ∀ {bb k9 : Nat} {v : Value} {xs : List Value}, W.ownsRow bb e1 1 v k9 xs → W'.ownsRow bb e1 1 v k9 xs := fun {bb k9 v xs} hv => own_block hv (fun b hb => by
    obtain ⟨cur, h1⟩ := own_ty hv hb
    exact nb b (Array.getElem?_eq_some_iff.1 h1).1 (ty_apart h.R h1 hee))
  refine ⟨fun r h1 h2 => own_block (h.A r h1 h2) (fun b hb => ?_), fun q hq g hgq => ?_, ⟨other h.C.1, fun q hq => keepOne q _ _ (h.C.2 q hq) (fun b hb hx => ?_)⟩, ⟨other h.D.1, fun q hq => keepOne q _ _ (h.D.2 q hq) (fun b hb hx => ?_)⟩, ?_, hR, fun b hb => ?_, h.S2, h.E, ⟨Nat.le_trans h.Z.1 hg.size, Nat.le_trans h.Z.2 hg.size⟩⟩
  · obtain ⟨cur, h3⟩ := own_ty (h.A r h1 h2) hb
    exact nb b (Array.getElem?_eq_some_iff.1 h3).1 (fun hc => (h.S1 b hc).2 r h1 h2 hb)
  · refine keepMB g q _ (h.B q hq g hgq) (fun hc => ?_)
    by_cases eq : q = p
    · subst eq; exact ni
    · exact absurd hgq ((h.S1 g hc).1 q (by omega)).1
  · by_cases eq : q < p
    · exact absurd hx ((h.S1 b hb).1 q eq).2.1
    · rcases h.K with ⟨a, -⟩ | ⟨a, -⟩ | ⟨a, c⟩
      · omega
      · omega
      · have : q = p := by omega
        subst this; exact c
  · exact absurd hx ((h.S1 b hb).1 q hq).2.2
  · rcases h.K with ⟨a, c⟩ | ⟨a, c⟩ | ⟨a, c⟩
    · exact .inr (.inl ⟨a, by omega⟩)
    · have := hk c; omega
    · exact .inr (.inr ⟨a, by omega⟩)
  · rcases hl with hl | ⟨g, hl, hge⟩
    · rw [hl] at hb; exact h.S1 b hb
    · rw [hl] at hb
      have hgb : g = b := by simpa using hb
      subst hgb
      refine ⟨fun q hq => ⟨fun hc => ?_, fun hc => ?_, fun hc => ?_⟩, fun r h1 h2 hc => ?_⟩
      · have := (h.B q (by omega) g hc).lt; omega
      · by_cases hqk : q < k
        · have := (h.C.2 q hqk).lt hc; omega
        · have : p ≤ k := by rcases h.K with ⟨a, -⟩ | ⟨a, -⟩ | ⟨a, -⟩ <;> omega
          omega
      · have := (h.D.2 q hq).lt hc; omega
      · obtain ⟨cur, h3⟩ := own_ty (h.A r h1 h2) hc
        have := (Array.getElem?_eq_some_iff.1 h3).1; omega
theorem getD_app {os : List Value} {x : Value} {k : Nat} (hl : os.length = k) (q : Nat) : (os ++ [x]).getD q (Value.slice none 0 0) = if q = k then x else os.getD q (Value.slice none 0 0) := by
  subst hl
  by_cases eq : q = os.length
  · subst eq; simp
  · rw [if_neg eq, List.getD_eq_getElem?_getD, List.getD_eq_getElem?_getD]
    by_cases hlt : q < os.length
    · rw [List.getElem?_append_left hlt]
    · rw [List.getElem?_eq_none (by simp; omega), List.getElem?_eq_none (by omega)]
/- the list is kept as the one of 'one' -/
theorem In.keep (hs : ∀ q i, (mk q i).length = s) {W W' : World} {L : VL} {p : Nat} {one one' more : Value} {os ms : List Value} {l : Value} {i : Nat} (h : In mk base b1 e e1 s W L p one more os ms l i p) (hi : i = (L.getD p dv).2 + 1) (hee : e ≠ e1) (hR : W'.ownsRow b1 e1 1 one' (p + 1) (os ++ [l])) (hg : W.grownBy W' one.ownBlock) (hl : LiesNew one one' W) : In mk base b1 e e1 s W' L p one' more (os ++ [l]) ms l i (p + 1) := by
  have hol : os.length = p := by have := h.C.1.1; omega
  have nb : ∀ (b : Nat) (cur : Array Value), W.heap[b]? = some (.cells cur e (0, 0)) → W'.heap[b]? = W.heap[b]? := fun b cur hb => hg.block b (Array.getElem?_eq_some_iff.1 hb).1 (fun hc => ty_apart h.C.1 hb (fun h => hee h.symm) hc.symm)
  have nb2 : ∀ {bb n9 : Nat} {v : Value} {xs : List Value}, W.ownsRow bb e s v n9 xs → W'.ownsRow bb e s v n9 xs := fun {bb n9 v xs} hv => own_block hv (fun b hb => by obtain ⟨cur, h1⟩ := own_ty hv hb; exact nb b cur h1)
  have nbM : ∀ {b q m : Nat}, MB mk e s W b q m → MB mk e s W' b q m := fun {b q m} hm => by obtain ⟨cur, h1⟩ := hm.1; exact hm.block (nb b cur h1)
  have nbO : ∀ {q : Nat} {x : Value} {m : Nat}, OneOk mk e s W q x m → OneOk mk e s W' q x m := fun {q x m} hm => hm.blk (fun b hb => by obtain ⟨cur, h1⟩ := hm.ty hb; exact nb b cur h1)
  have hmore : W'.ownsRow b1 e1 1 more p ms := own_block h.D.1 (fun b hb => by
    obtain ⟨cur, h1⟩ := own_ty h.D.1 hb
    refine hg.block b (Array.getElem?_eq_some_iff.1 h1).1 (fun hc => ?_)
    rcases h.E with hE | hE
    · rw [hE] at hc; cases hc
    · exact hE (by rw [← hc, hb]))
  obtain ⟨g, cap, -, -, hv⟩ := row_some h.R (by omega)
  refine ⟨fun r h1 h2 => nb2 (h.A r h1 h2), fun q hq g hgq => nbM (h.B q hq g hgq), ⟨hR, fun q hq => ?_⟩, ⟨hmore, fun q hq => nbO (h.D.2 q hq)⟩, .inr (.inr ⟨rfl, by omega⟩), nb2 h.R, fun b hb => ⟨fun q hq => ⟨((h.S1 b hb).1 q hq).1, by rw [getD_app hol, if_neg (by omega)]; exact ((h.S1 b hb).1 q hq).2.1, ((h.S1 b hb).1 q hq).2.2⟩, (h.S1 b hb).2⟩, fun r h1 h2 b hb => ⟨fun q hq => ?_, (h.S2 r h1 h2 b hb).2⟩, ?_, ⟨Nat.le_trans h.Z.1 hg.size, Nat.le_trans h.Z.2 hg.size⟩⟩
  · rw [getD_app hol]
    split
    · rename_i eq
      subst eq
      refine ⟨g, cap, by rw [hv, hi], ?_⟩
      rw [← hi]
      exact nbM (mb_own hs h.R (by rw [hv]; rfl))
    · exact nbO (h.C.2 q (by omega))
  · rw [getD_app hol]
    split
    · exact fun hc => (h.S1 b hc).2 r h1 h2 hb
    · exact (h.S2 r h1 h2 b hb).1 q (by omega)
  · rcases hl with hl | ⟨g9, hl, hge⟩
    · rw [hl]; exact h.E
    · refine .inr ?_
      rw [hl]
      intro hc
      obtain ⟨cur, h3⟩ := own_ty h.D.1 hc.symm
      have := (Array.getElem?_eq_some_iff.1 h3).1; omega
/- the list is kept as the one of 'more' -/
theorem In.done (hs : ∀ q i, (mk q i).length = s) {W W' : World} {L : VL} {p : Nat} {one more more' : Value} {os ms : List Value} {l : Value} {i : Nat} (h : In mk base b1 e e1 s W L p one more os ms l i (p + 1)) (hi : i = (L.getD p dv).2 + 70) (hee : e ≠ e1) (hR : W'.ownsRow b1 e1 1 more' (p + 1) (ms ++ [l])) (hg : W.grownBy W' more.ownBlock) (hl : LiesNew more more' W) : Ph mk base b1 e e1 s W' L (p + 1) one more' os (ms ++ [l]) := by
  have hml : ms.length = p := by have := h.D.1.1; omega
  have nb : ∀ (b : Nat) (cur : Array Value), W.heap[b]? = some (.cells cur e (0, 0)) → W'.heap[b]? = W.heap[b]? := fun b cur hb => hg.block b (Array.getElem?_eq_some_iff.1 hb).1 (fun hc => ty_apart h.D.1 hb (fun h => hee h.symm) hc.symm)
  have nb2 : ∀ {bb n9 : Nat} {v : Value} {xs : List Value}, W.ownsRow bb e s v n9 xs → W'.ownsRow bb e s v n9 xs := fun {bb n9 v xs} hv => own_block hv (fun b hb => by obtain ⟨cur, h1⟩ := own_ty hv hb; exact nb b cur h1)
  have nbM : ∀ {b q m : Nat}, MB mk e s W b q m → MB mk e s W' b q m := fun {b q m} hm => by obtain ⟨cur, h1⟩ := hm.1; exact hm.block (nb b cur h1)
  have nbO : ∀ {q : Nat} {x : Value} {m : Nat}, OneOk mk e s W q x m → OneOk mk e s W' q x m := fun {q x m} hm => hm.blk (fun b hb => by obtain ⟨cur, h1⟩ := hm.ty hb; exact nb b cur h1)
  have hone : W'.ownsRow b1 e1 1 one (p + 1) os := own_block h.C.1 (fun b hb => by
    obtain ⟨cur, h1⟩ := own_ty h.C.1 hb
    refine hg.block b (Array.getElem?_eq_some_iff.1 h1).1 (fun hc => ?_)
    rcases h.E with hE | hE
    · rw [hE] at hb; cases hb
    · exact hE (by rw [hb, hc]))
  obtain ⟨g, cap, -, -, hv⟩ := row_some h.R (by omega)
  refine ⟨fun r h1 h2 => nb2 (h.A r (by omega) h2), fun q hq g hgq => nbM (h.B q (by omega) g hgq), ⟨hone, fun q hq => nbO (h.C.2 q hq)⟩, ⟨hR, fun q hq => ?_⟩, fun q hq r h1 h2 b hb => ⟨(h.S2 r (by omega) h2 b hb).1 q hq, ?_⟩, ?_, ⟨Nat.le_trans h.Z.1 hg.size, Nat.le_trans h.Z.2 hg.size⟩⟩
  · rw [getD_app hml]
    split
    · rename_i eq
      subst eq
      refine ⟨g, cap, by rw [hv, hi], ?_⟩
      rw [← hi]
      exact nbM (mb_own hs h.R (by rw [hv]; rfl))
    · exact nbO (h.D.2 q (by omega))
  · rw [getD_app hml]
    split
    · exact fun hc => (h.S1 b hc).2 r (by omega) h2 hb
    · exact (h.S2 r (by omega) h2 b hb).2 q (by omega)
  · rcases hl with hl | ⟨g9, hl, hge⟩
    · rw [hl]; exact h.E
    · rcases h.E with hE | hE
      · exact .inl hE
      · refine .inr ?_
        rw [hl]
        intro hc
        obtain ⟨cur, h3⟩ := own_ty h.C.1 hc
        have := (Array.getElem?_eq_some_iff.1 h3).1; omega
theorem Ph.start {W : World} {L : VL} (h : Rows1 mk base e s W L L.length) (hb : b1 ≤ W.heap.size) (hb2 : base ≤ W.heap.size) : Ph mk base b1 e e1 s W L 0 (.slice none 0 0) (.slice none 0 0) [] [] :=
  ⟨fun r _ h2 => by obtain ⟨xs, h3, h4⟩ := h r h2; rw [h4 h2] at h3; exact h3, fun q hq => by omega, ⟨World.ownsRow_nil _ _ _ _, fun q hq => by omega⟩, ⟨World.ownsRow_nil _ _ _ _, fun q hq => by omega⟩, fun q hq => by omega, .inl rfl, ⟨hb, hb2⟩⟩
end Go.Proofs.YtjjikeehifndhaaDoor.BG
namespace Go.Proofs.YtjjikeehifndhaaDoor.BG
open Go

namespace TailR
section
variable {P : Program} {ops : Array Oper} {md : Region.Mode} {C : World → Prop}
def edgeB (md : Region.Mode) (ops : Array Oper) (j i : Nat) : Bool := ((ops[j]?).map fun o => o.after.any fun e => Region.binds md e && e.on == i).getD false
def depsP (md : Region.Mode) (ops : Array Oper) (listed : Array Bool) (j : Nat) : Prop := ∀ o, ops[j]? = some o → ∀ e ∈ o.after, Region.binds md e = true → listed.getD e.on false = true
def closedP (md : Region.Mode) (ops : Array Oper) (listed : Array Bool) : Prop := ∀ j, listed.getD j false = true → depsP md ops listed j
theorem edge_listed {listed : Array Bool} {j i : Nat} (h : depsP md ops listed j) (he : edgeB md ops j i = true) : listed.getD i false = true := by
  unfold edgeB at he
  cases ho : ops[j]? with
  | none => rw [ho] at he; cases he
  | some o =>
    rw [ho] at he
    simp only [Option.map_some, Option.getD_some] at he
    obtain ⟨e, he, hb⟩ := Array.any_eq_true'.1 he
    simp only [Bool.and_eq_true, beq_iff_eq] at hb
    have := h o ho e he hb.1
    rw [hb.2] at this
    exact this
theorem closed_set {listed : Array Bool} {i : Nat} (h : closedP md ops listed) (hr : i ∈ Region.ready md ops listed) : closedP md ops (listed.setIfInBounds i true) := by
  intro j hj o ho e he hb
  by_cases hji : i = j
  · subst hji
    obtain ⟨_, o', ho', hall⟩ := mem_ready.1 hr
    rw [ho] at ho'
    cases ho'
    exact getD_set_true (hall e he hb)
  · rw [getD_set_ne false hji] at hj
    exact getD_set_true (h j hj o ho e he hb)
def waitsB (md : Region.Mode) (ops : Array Oper) (k0 n : Nat) : Bool := ((List.range n).all fun i => decide (i < k0) || (List.range (n + 1)).any fun j => decide (i < j) && edgeB md ops j i) && (List.range ops.size).all fun t => decide (t ≤ n) || edgeB md ops t (t - 1)
theorem down {k0 n : Nat} (hW : waitsB md ops k0 n = true) {listed : Array Bool} (hc : closedP md ops listed) (hd : depsP md ops listed n) : ∀ d i, n - i ≤ d → k0 ≤ i → i < n → listed.getD i false = true := by
  simp only [waitsB, Bool.and_eq_true] at hW
  intro d
  induction d with
  | zero => intro i h1 h2 h3; omega
  | succ d ih =>
    intro i h1 h2 h3
    have h4 := List.all_eq_true.1 hW.1 i (List.mem_range.2 h3)
    simp only [Bool.or_eq_true, decide_eq_true_eq] at h4
    rcases h4 with h4 | h4
    · omega
    · obtain ⟨j, hj, h5⟩ := List.any_eq_true.1 h4
      simp only [Bool.and_eq_true, decide_eq_true_eq] at h5
      rw [List.mem_range] at hj
      by_cases e : j = n
      · subst e; exact edge_listed hd h5.2
      · exact edge_listed (hc j (ih j (by omega) (by omega) (by omega))) h5.2
theorem tail_down {k0 n : Nat} (hW : waitsB md ops k0 n = true) {listed : Array Bool} (hc : closedP md ops listed) : ∀ d t, t = n + d → t < ops.size → depsP md ops listed t → depsP md ops listed n := by
  intro d
  induction d with
  | zero => intro t h1 _ h2; rw [h1] at h2; exact h2
  | succ d ih =>
    intro t h1 h2 h3
    simp only [waitsB, Bool.and_eq_true] at hW
    have h4 := List.all_eq_true.1 hW.2 t (List.mem_range.2 h2)
    simp only [Bool.or_eq_true, decide_eq_true_eq] at h4
    rcases h4 with h4 | h4
    · omega
    · exact ih (t - 1) (by omega) (by omega) (hc (t - 1) (edge_listed h3 h4))
/- while one of the quiet ones is not listed, none of the tail may come up -/
theorem no_tail {k0 n : Nat} (hW : waitsB md ops k0 n = true) {listed : Array Bool} (hc : closedP md ops listed) (h0 : ∀ k, k < k0 → listed.getD k true = true) {i j : Nat} (hi : i ∈ Region.ready md ops listed) (hin : i < n) (hj : j ∈ Region.ready md ops listed) : j < n := by
  rcases Nat.lt_or_ge j n with h | h
  · exact h
  · exfalso
    obtain ⟨_, o, ho, hall⟩ := mem_ready.1 hj
    have hlt : j < ops.size := (Array.getElem?_eq_some_iff.1 ho).1
    have hd : depsP md ops listed j := fun o' ho' e he hb => by
      rw [ho] at ho'
      cases ho'
      exact hall e he hb
    have hdn := tail_down hW hc (j - n) j (by omega) hlt hd
    have hun := (mem_ready.1 hi).1
    by_cases e : i < k0
    · rw [h0 i e] at hun; cases hun
    · have := down hW hc hdn (n - i) i (Nat.le_refl _) (by omega) hin
      rcases Nat.lt_or_ge i listed.size with h' | h'
      · simp [h'] at this hun; rw [this] at hun; cases hun
      · simp [Array.getElem?_eq_none h'] at this
def wpAnyU (P : Program) (md : Region.Mode) (ops : Array Oper) (n : Nat) (C : World → Prop) (R : Array Bool → Act → Prop) : Nat → Array Bool → Act → Prop
  | 0, listed, a => (∀ i ∈ Region.ready md ops listed, n ≤ i) ∧ R listed a
  | fuel + 1, listed, a => (∃ i, i ∈ Region.ready md ops listed ∧ i < n) ∧ ∀ i ∈ Region.ready md ops listed, i < n → qOp P ops C i (wpAnyU P md ops n C R fuel (listed.setIfInBounds i true)) a
theorem wpAnyU_first {n : Nat} {R : Array Bool → Act → Prop} {i : Nat} (hin : i < n) {oi : Oper} {v : Value} (hi : ops[i]? = some oi) (hsel : ∀ (j : Nat) (o : Oper) cs b, ops[j]? = some o → o.op ≠ .select cs b) :
    ∀ (fuel : Nat) (listed : Array Bool) (a : Act),
      (∀ j oj, ops[j]? = some oj → j ≠ i → listed.getD j true = false → (∀ e ∈ oj.after, Region.binds md e = true → e.on ≠ i) → oi.apart ops oj = true) →
      i ∈ Region.ready md ops listed → YieldsIn P ops C oi v a →
      wpAnyU P md ops n C R fuel (listed.setIfInBounds i true) (a.put oi.dst v) → wpAnyU P md ops n C R (fuel + 1) listed a := by
  intro fuel
  induction fuel with
  | zero =>
    intro listed a _ hr hy H
    refine ⟨⟨i, hr, hin⟩, fun j hj hjn => ?_⟩
    by_cases hji : j = i
    · subst hji; exact hy.qOp hi H
    · have := H.1 j (ready_mono hj hji)
      omega
  | succ fuel ih =>
    intro listed a hfree hr hy H
    refine ⟨⟨i, hr, hin⟩, fun j hj hjn => ?_⟩
    by_cases hji : j = i
    · subst hji; exact hy.qOp hi H
    · have h1 := H.2 j (ready_mono hj hji) hjn
      obtain ⟨hjun, oj, hoj, hall⟩ := mem_ready.1 hj
      have hnot : ∀ e ∈ oj.after, Region.binds md e = true → e.on ≠ i := fun e he hb heq => by
        have h1 := hall e he hb
        have h0 := (mem_ready.1 hr).1
        rw [heq] at h1
        rcases Nat.lt_or_ge i listed.size with h' | h'
        · simp [h'] at h0 h1; rw [h0] at h1; cases h1
        · simp [Array.getElem?_eq_none h'] at h1
      have h2 := qOp_put hoj (hfree j oj hoj hji hjun hnot) (fun cs b => hsel i oi cs b hi) (fun cs b => hsel j oj cs b hoj) hy h1
      have hfree' : ∀ k ok, ops[k]? = some ok → k ≠ i → (listed.setIfInBounds j true).getD k true = false →
          (∀ e ∈ ok.after, Region.binds md e = true → e.on ≠ i) → oi.apart ops ok = true := fun k ok hk hki hun hno => by
        refine hfree k ok hk hki ?_ hno
        by_cases hjk : j = k
        · subst hjk; exact hjun
        · rw [getD_set_ne true hjk] at hun; exact hun
      refine qOp_mono (fun a' h3 => ih (listed.setIfInBounds j true) a' hfree' (ready_mono hr (Ne.symm hji)) h3.1 ?_) h2
      rw [Array.setIfInBounds_comm _ _ hji]
      exact h3.2
def lexU (md : Region.Mode) (ops : Array Oper) (n : Nat) : Nat → Nat → Array Bool → Bool
  | 0, _, listed => (Region.ready md ops listed).all fun i => decide (n ≤ i)
  | fuel + 1, k, listed => (Region.ready md ops listed).contains k && decide (k < n) && Region.free md ops listed k && lexU md ops n fuel (k + 1) (listed.setIfInBounds k true)
def lastU : Nat → Nat → Array Bool → Array Bool
  | 0, _, listed => listed
  | fuel + 1, k, listed => lastU fuel (k + 1) (listed.setIfInBounds k true)
theorem wpAnyU_lex {n : Nat} {R : Act → Prop} (hs : Region.noSelect ops = true) : ∀ (l : List Oper) (k : Nat) (listed : Array Bool) (a : Act), (∀ j o, l[j]? = some o → ops[k + j]? = some o) →
    lexU md ops n l.length k listed = true → wpQuiet P ops C R l a → wpAnyU P md ops n C (fun L a => L = lastU l.length k listed ∧ R a) l.length listed a
  | [], _, _, _, _, hB, h => by
    simp only [List.length_nil, lexU, List.all_eq_true, decide_eq_true_eq] at hB
    exact ⟨hB, rfl, h⟩
  | o :: l, k, listed, a, hl, hB, h => by
    have h0 : ops[k]? = some o := hl 0 o rfl
    simp only [List.length_cons, lexU, Bool.and_eq_true, decide_eq_true_eq] at hB
    obtain ⟨⟨⟨hr, hk⟩, hf⟩, hB'⟩ := hB
    have hst : qOp P ops C k (wpQuiet P ops C R l) a := by unfold qOp; simp only [h0]; exact h
    obtain ⟨v, hy, hK⟩ := yieldsIn_of_qOp h0 hst
    exact wpAnyU_first hk h0 (Region.noSelect_spec hs) l.length listed a (Region.free_spec h0 hf) (by simpa using hr) hy
      (wpAnyU_lex hs l (k + 1) _ _ (fun j o' hj => by have := hl (j + 1) o' (by simpa using hj); simpa [Nat.add_assoc, Nat.add_comm 1 j] using this) hB' hK)
theorem wpAny_of_U {k0 n t : Nat} (hW : waitsB md ops k0 n = true) {Q : Exit → Act → World → Prop} {R : Array Bool → Act → Prop} (hR : ∀ L a w, R L a → C w → wpAny P md ops Q t L a w) : ∀ (fuel : Nat) (listed : Array Bool) (a : Act) (w : World), closedP md ops listed → (∀ k, k < k0 → listed.getD k true = true) → C w →
    wpAnyU P md ops n C R fuel listed a → wpAny P md ops Q (t + fuel) listed a w
  | 0, _, _, _, _, _, hw, ⟨_, h2⟩ => hR _ _ _ h2 hw
  | fuel + 1, listed, a, w, hc, h0, hw, ⟨⟨k, hk, hkn⟩, h3⟩ => by
    refine ⟨fun e => (by rw [e] at hk; cases hk), fun i hi => ?_⟩
    have hin := no_tail hW hc h0 hk hkn hi
    refine wpOp_of_qOp hw (fun a' w' hw' h => wpAny_of_U hW hR fuel _ a' w' (closed_set hc hi) ?_ hw' h) (h3 i hi hin)
    intro k hk
    by_cases e : i = k
    · subst e
      have := (mem_ready.1 hi).1
      rw [h0 i hk] at this; cases this
    · rw [getD_set_ne true e]; exact h0 k hk
def tailB (md : Region.Mode) (ops : Array Oper) : Nat → Nat → Array Bool → Bool
  | 0, _, listed => (Region.ready md ops listed).isEmpty
  | t + 1, k, listed => (Region.ready md ops listed == [k]) && tailB md ops t (k + 1) (listed.setIfInBounds k true)
theorem wpAny_tail {Q : Exit → Act → World → Prop} : ∀ (l : List Oper) (k : Nat) (listed : Array Bool) (a : Act) (w : World), (∀ j o, l[j]? = some o → ops[k + j]? = some o) → tailB md ops l.length k listed = true → wpList P ops Q l a w → wpAny P md ops Q l.length listed a w
  | [], _, listed, a, w, _, hB, h => by
    simp only [List.length_nil, tailB, List.isEmpty_iff] at hB
    exact ⟨hB, h⟩
  | o :: l, k, listed, a, w, hl, hB, h => by
    have h0 : ops[k]? = some o := hl 0 o rfl
    simp only [List.length_cons, tailB, Bool.and_eq_true, beq_iff_eq] at hB
    refine ⟨fun e => (by rw [hB.1] at e; cases e), fun i hi => ?_⟩
    rw [hB.1] at hi
    simp at hi
    subst hi
    have hh : wpOp P ops Q i (wpList P ops Q l) a w := by unfold wpOp; simp only [h0]; exact h
    exact wpOp_mono (fun a' w' h' => wpAny_tail l (i + 1) _ a' w' (fun j o' hj => by have := hl (j + 1) o' (by simpa using hj); simpa [Nat.add_assoc, Nat.add_comm 1 j] using this) hB.2 h') hh
def allB (md : Region.Mode) (ops : Array Oper) (n : Nat) : Bool :=
  Region.noSelect ops && waitsB md ops 1 n && Region.free md ops (Array.replicate ops.size false) 0 && (Region.ready md ops (Array.replicate ops.size false)).contains 0 &&
  lexU md ops n (n - 1) 1 ((Array.replicate ops.size false).setIfInBounds 0 true) && tailB md ops (ops.size - n) n (lastU (n - 1) 1 ((Array.replicate ops.size false).setIfInBounds 0 true)) && decide (1 ≤ n) && decide (n ≤ ops.size)
end
theorem rep_false (N j : Nat) : (Array.replicate N false).getD j false = false := by
  rw [Array.getD_eq_getD_getElem?, Array.getElem?_replicate]
  split <;> rfl
theorem wp_region_tail {P : Program} {id : Nat} {Q : Exit → Act → World → Prop} {a : Act} {w : World} {o : Oper} {l : List Oper} (n : Nat) (v : Value) (hm : P.follows .mixedOrders = true) (hB : allB .any (o :: l).toArray (n + 1) = true)
    (hQ : ∀ c a w, Q (.panic c) (a.put o.dst v) w → Q (.panic c) a w) (hy : Yields P (o :: l).toArray o v a)
    (h : wpQuiet P (o :: l).toArray (fun w' => ∃ n, w' = w.drewN n) (fun a' => ∀ w', (∃ n, w' = w.drewN n) → wpList P (o :: l).toArray Q (l.drop n) a' w') (l.take n) (a.put o.dst v)) : (Code.region id (o :: l).toArray true).wp P Q a w := by
  simp only [allB, Bool.and_eq_true, decide_eq_true_eq] at hB
  obtain ⟨⟨⟨⟨⟨⟨⟨hs, hW⟩, hf⟩, hr⟩, hL⟩, hT⟩, -⟩, hn⟩ := hB
  have hsz : (o :: l).toArray.size = l.length + 1 := by simp
  rw [hsz] at hn hL hT hf hr
  have hl : (l.take n).length = n := by simp; omega
  have hd : (l.drop n).length = l.length + 1 - (n + 1) := by simp
  rw [show n + 1 - 1 = n by omega] at hL hT
  refine wp_region_any hm ?_
  rw [hsz]
  refine wpAny_take (i := 0) (v := v) rfl hs hf hr hQ hy ?_
  have key := wpAnyU_lex (P := P) (md := .any) (C := fun w' => ∃ n, w' = w.drewN n) (n := n + 1) (R := fun a' => ∀ w', (∃ n, w' = w.drewN n) → wpList P (o :: l).toArray Q (l.drop n) a' w') hs (l.take n) 1 ((Array.replicate (l.length + 1) false).setIfInBounds 0 true) (a.put o.dst v)
    (fun j o' hj => by
      rw [List.getElem?_take] at hj
      split at hj
      · rw [Nat.add_comm 1 j]; simpa using hj
      · cases hj)
    (by rw [hl]; exact hL) h
  rw [hl] at key
  rw [show l.length = (l.drop n).length + n by rw [hd]; omega]
  refine wpAny_of_U (C := fun w' => ∃ n, w' = w.drewN n) (t := (l.drop n).length) hW (fun L a' w' hRL hw' => ?_) n _ _ _ ?_ ?_ ⟨1, rfl⟩ (by rw [show (l.drop n).length + n = l.length by rw [hd]; omega]; exact key)
  · obtain ⟨rfl, hRL⟩ := hRL
    exact wpAny_tail (l.drop n) (n + 1) _ a' w' (fun j o' hj => by
      rw [List.getElem?_drop] at hj
      rw [show n + 1 + j = n + j + 1 by omega]
      simpa using hj) (by rw [hd]; exact hT) (hRL w' hw')
  · intro j hj o' ho' e he hb
    exfalso
    by_cases e0 : (0 : Nat) = j
    · subst e0
      have ho2 : o' = o := by simpa using ho'.symm
      subst ho2
      obtain ⟨_, o2, ho2, hall⟩ := mem_ready.1 (show 0 ∈ Region.ready .any (o' :: l).toArray (Array.replicate (l.length + 1) false) by simpa using hr)
      have : o2 = o' := by simpa using ho2.symm
      subst this
      have h9 := hall e he hb
      rcases Nat.lt_or_ge e.on (l.length + 1) with h' | h'
      · simp [h'] at h9
      · simp [h'] at h9
    · rw [getD_set_ne false e0] at hj
      rw [rep_false] at hj
      cases hj
  · intro k hk
    rw [show k = 0 by omega]
    simp
theorem wp_region_tail' {P : Program} {id : Nat} {Q : Exit → Act → World → Prop} {a : Act} {w : World} {o : Oper} {l : List Oper} (n : Nat) (x : Operand) (ho : o.op = .move x) (hg : o.guard = none) (hm : P.follows .mixedOrders = true) (hB : allB .any (o :: l).toArray (n + 1) = true)
    (hQ : ∀ c a v w, Q (.panic c) (a.put o.dst v) w → Q (.panic c) a w)
    (h : wpQuiet P (o :: l).toArray (fun w' => ∃ n, w' = w.drewN n) (fun a' => ∀ w', (∃ n, w' = w.drewN n) → wpList P (o :: l).toArray Q (l.drop n) a' w') (o :: l.take n) a) : (Code.region id (o :: l).toArray true).wp P Q a w := by
  have hw : Region.wanted o (yielded (o :: l).toArray a.tmps) = true := by simp [Region.wanted, hg]
  have hy : Yields P (o :: l).toArray o (a.eval x) a := .inl ⟨hw, fun w => by simp [execOp, ho]⟩
  unfold wpQuiet at h
  rw [if_pos hw] at h
  obtain ⟨v, hq, hn⟩ := h
  have hv : a.eval x = v := by
    have := hq (w.drewN 1) ⟨1, rfl⟩
    simp [Oper.quietAt, execOp, ho, Oper.quietUpon] at this
    exact this
  rw [← hv] at hn
  exact wp_region_tail n (a.eval x) hm hB (fun c a' w' => hQ c a' _ w') hy hn
def allB0 (md : Region.Mode) (ops : Array Oper) (n : Nat) : Bool :=
  Region.noSelect ops && waitsB md ops 0 n && lexU md ops n n 0 (Array.replicate ops.size false) && tailB md ops (ops.size - n) n (lastU n 0 (Array.replicate ops.size false)) && decide (n ≤ ops.size)
theorem wp_region_seq {P : Program} {id : Nat} {Q : Exit → Act → World → Prop} {a : Act} {w : World} {l : List Oper} (n : Nat) (hm : P.follows .mixedOrders = true) (hB : allB0 .any l.toArray n = true)
    (h : wpQuiet P l.toArray (fun w' => ∃ n, w' = w.drewN n) (fun a' => ∀ w', (∃ n, w' = w.drewN n) → wpList P l.toArray Q (l.drop n) a' w') (l.take n) a) : (Code.region id l.toArray true).wp P Q a w := by
  simp only [allB0, Bool.and_eq_true, decide_eq_true_eq] at hB
  obtain ⟨⟨⟨⟨hs, hW⟩, hL⟩, hT⟩, hn⟩ := hB
  have hsz : l.toArray.size = l.length := by simp
  rw [hsz] at hn hL hT
  have hl : (l.take n).length = n := by simp; omega
  have hd : (l.drop n).length = l.length - n := by simp
  refine wp_region_any hm ?_
  rw [hsz]
  have key := wpAnyU_lex (P := P) (md := .any) (C := fun w' => ∃ n, w' = w.drewN n) (n := n) (R := fun a' => ∀ w', (∃ n, w' = w.drewN n) → wpList P l.toArray Q (l.drop n) a' w') hs (l.take n) 0 (Array.replicate l.length false) a
    (fun j o' hj => by
      rw [List.getElem?_take] at hj
      split at hj
      · rw [Nat.zero_add]; simpa using hj
      · cases hj)
    (by rw [hl]; exact hL) h
  rw [hl] at key
  rw [show l.length = (l.drop n).length + n by rw [hd]; omega]
  refine wpAny_of_U (C := fun w' => ∃ n, w' = w.drewN n) (t := (l.drop n).length) hW (fun L a' w' hRL hw' => ?_) n _ _ _ ?_ (fun k hk => by omega) ⟨1, rfl⟩ (by rw [show (l.drop n).length + n = l.length by rw [hd]; omega]; exact key)
  · obtain ⟨rfl, hRL⟩ := hRL
    exact wpAny_tail (l.drop n) n _ a' w' (fun j o' hj => by
      rw [List.getElem?_drop] at hj
      simpa using hj) (by rw [hd]; exact hT) (hRL w' hw')
  · intro j hj o' ho' e he hb
    rw [rep_false] at hj
    cases hj
end TailR
end Go.Proofs.YtjjikeehifndhaaDoor.BG
namespace Go.Proofs.YtjjikeehifndhaaDoor.BG
open Go.RowKit
attribute [local go_sem ↓] Go.wp_at_zero Go.wp_at_succ

def bnum (q i : Nat) : Int := 1048576 * (q : Int) + (i : Int) + 1
theorem bnum_ (q i : Nat) (hq : q ≤ 1000) (hi : i ≤ 8589934592) (w : World) : Calls Tryd.prog 80 #[.int .i64 q, .int .i64 i] w fun e w' => e = .returned (.int .i64 (bnum q i)) ∧ w' = w := by
  go_enter Tryd.func80, Tryd.ntmps80
  go_wp2
  go_ret
  refine ⟨ret_int ?_, rfl⟩
  unfold bnum
  omega
def mkI (q i : Nat) : List Value := [.int .i64 (bnum q i)]
theorem mkI_len (q i : Nat) : (mkI q i).length = 1 := rfl
theorem infoI : (Tryd.prog.info? 3).map (fun i => (i.zero, i.size, i.bytes)) = some (some (.int .i64 0), 1, 8) := by kernel_rfl
theorem infoR : (Tryd.prog.info? 94).map (fun i => (i.zero, i.size, i.bytes)) = some (some (.slice none 0 0), 1, 24) := by kernel_rfl
theorem set_one (cur : Array Value) (i : Nat) (x : Value) (hi : i < cur.size) : cur.setIfInBounds i x = (cur.toList.take (i * 1) ++ [x] ++ cur.toList.drop (i * 1 + 1)).toArray := by
  apply Array.ext'
  rw [Array.toList_setIfInBounds, Nat.mul_one, List.set_eq_take_append_cons_drop, if_pos (by simpa using hi)]
  simp
theorem newCell (W : World) (x : Value) (t : Nat) : ∀ j u, [x][j]? = some u → (W.alloc (.cells #[x] t)).cell? ((⟨W.heap.size, 0, none⟩ : Addr).add j) = some u := by
  intro j u hj
  cases j with
  | zero => simp at hj; subst hj; simp [Addr.add]
  | succ j => simp at hj
theorem oneSl (a : Option Addr) (n c : Nat) : ∀ u ∈ [Value.slice a n c], u.oneCell' = true := by intro u hu; simp at hu; subst hu; rfl
/- the bag's list of lists -/
def Bag1 (fld tb t1 : Nat) (w : World) (gb : Nat) (a : Option Addr) (K cap : Nat) (L : VL) : Prop := (∃ bc : Array Value, w.heap[gb]? = some (.cells bc tb (0, 0)) ∧ bc[fld]? = some (.slice a K cap)) ∧ K = L.length ∧ (K ≠ 0 → ∃ lb cs, a = some ⟨lb, 0, none⟩ ∧ w.heap[lb]? = some (.cells cs t1 (0, 0)) ∧ ∀ p, p < K → cs[p]? = some (L.getD p dv).1)
theorem Bag1.cells {fld tb t1 e : Nat} {w W : World} {gb : Nat} {a : Option Addr} {K cap : Nat} {L : VL} (h : Bag1 fld tb t1 w gb a K cap L) (x : Exc (Blks L) w W) (hL : ∀ b, Blks L b → ∃ cur, w.heap[b]? = some (.cells cur e (0, 0))) (h1 : e ≠ tb) (h2 : e ≠ t1) : W.cell? ⟨gb, fld, none⟩ = some (.slice a K cap) ∧ (K ≠ 0 → ∃ lb, a = some ⟨lb, 0, none⟩ ∧ ∀ p, p < K → W.cell? ⟨lb, p, none⟩ = some (L.getD p dv).1) := by
  obtain ⟨⟨bc, h3, h4⟩, -, h6⟩ := h
  have nb : ∀ (b : Nat) (c : Array Value) (t : Nat), w.heap[b]? = some (.cells c t (0, 0)) → e ≠ t → W.heap[b]? = some (.cells c t (0, 0)) := fun b c t hb ht => x.heap hb (fun hc => by
    obtain ⟨cur, h7⟩ := hL b hc
    rw [hb] at h7
    cases h7
    exact ht rfl)
  refine ⟨by simp [World.cell?, nb gb bc tb h3 h1, h4], fun hK => ?_⟩
  obtain ⟨lb, cs, ha, h7, h8⟩ := h6 hK
  exact ⟨lb, ha, fun p hp => by simp [World.cell?, nb lb cs t1 h7 h2, h8 p hp]⟩
theorem Rows1.ty {mk : Nat → Nat → List Value} {base e s : Nat} {W : World} {L : VL} {i : Nat} (h : Rows1 mk base e s W L i) : ∀ b, Blks L b → ∃ cur, W.heap[b]? = some (.cells cur e (0, 0)) := fun b ⟨p, hp, hb⟩ => by
  obtain ⟨xs, h1, -⟩ := h p hp
  exact own_ty h1 hb
set_option maxRecDepth 100000 in
set_option maxHeartbeats 8000000 in
theorem apartI_ (gb : Nat) (a : Option Addr) (K cap base : Nat) (L : VL) (w : World) (hbag : Bag1 1 55 94 w gb a K cap L) (hK : K ≤ 400) (h1 : Rows1 mkI base 3 1 w L 0) (hd : Apart L) (hn : ∀ p, p < K → (L.getD p dv).2 ≤ 4294967296) (hbs : base ≤ w.heap.size) :
    Calls Tryd.prog 35 #[.pointer (some ⟨gb, 0, none⟩)] w fun e w' => e = .returned (.bool true) ∧ Exc (Blks L) w w' := by
  obtain ⟨iT, hiT, z0, z1, z2⟩ := info_parts infoI
  obtain ⟨iS, hiS, y0, y1, y2⟩ := info_parts infoR
  obtain ⟨Post, hPost⟩ : ∃ P : Ending → World → Prop, P = fun e w' => e = .returned (.bool true) ∧ Exc (Blks L) w w' := ⟨_, rfl⟩
  rw [← hPost]
  have HPost : Hid (Post = fun e w' => e = .returned (.bool true) ∧ Exc (Blks L) w w') := hPost
  have HKL : Hid (K = L.length) := hbag.2.1
  have HCe : Hid (∀ W, Exc (Blks L) w W → W.cell? ⟨gb, 1, none⟩ = some (.slice a K cap) ∧ (K ≠ 0 → ∃ lb, a = some ⟨lb, 0, none⟩ ∧ ∀ p, p < K → W.cell? ⟨lb, p, none⟩ = some (L.getD p dv).1)) := fun W x => hbag.cells x h1.ty (by decide) (by decide)
  have HD : Hid (Apart L) := hd
  have HN : Hid (∀ p, p < K → (L.getD p dv).2 ≤ 4294967296) := hn
  have H1 : Hid (Rows1 mkI base 3 1 w L 0) := h1
  have HBs : Hid (base ≤ w.heap.size) := hbs
  have HS : Hid (∀ p g, p < K → (L.getD p dv).1.ownBlock = some g → Blks L g) := fun p g hp hg => ⟨p, by rw [← HKL.out]; exact hp, hg⟩
  clear hPost hbag h1 hd hn hbs
  go_enter Tryd.func35, Tryd.ntmps35
  go_wp2_with fail
  go_loopw [3, 4] (fun s3 s4 W => ∃ p : Nat, p ≤ K ∧ s3 = .int .i64 p ∧ Rows1 mkI base 3 1 W L p ∧ Exc (Blks L) w W) (fun s3 _ _ => K - (intOf s3).toNat)
  case atStart => exact ⟨0, Nat.zero_le _, rfl, H1.out, Exc.refl _ _⟩
  case round =>
    obtain ⟨p, hp, rfl, hr, hx⟩ := hrel
    have HR : Hid (Rows1 mkI base 3 1 wr L p) := hr
    have HX : Hid (Exc (Blks L) w wr) := hx
    obtain ⟨q0, q1⟩ := HCe.out wr hx
    clear hr hx
    by_cases hlt : p < K
    · have hlt2 : (p : Int) < (K : Int) := by omega
      obtain ⟨lb, rfl, qc⟩ := q1 (by omega)
      obtain ⟨xs0, ho0, -⟩ := HR.out p (by rw [← HKL.out]; exact hlt)
      obtain ⟨xa, xk, hv⟩ := row_val ho0
      obtain ⟨n, hnn⟩ : ∃ n, n = (L.getD p dv).2 := ⟨_, rfl⟩
      have hnb : n ≤ 4294967296 := by rw [hnn]; exact HN.out p hlt
      rw [← hnn] at hv
      have HV : Hid ((L.getD p dv).1 = .slice xa n xk ∧ n = (L.getD p dv).2) := ⟨hv, hnn⟩
      have HLc : Hid (∀ W, Exc (Blks L) w W → W.cell? ⟨gb, 1, none⟩ = some (.slice (some ⟨lb, 0, none⟩) K cap) ∧ W.cell? ⟨lb, p, none⟩ = some (.slice xa n xk)) := fun W x => by
        obtain ⟨c0, c1⟩ := HCe.out W x
        obtain ⟨lb', e, c2⟩ := c1 (by omega)
        cases e
        exact ⟨c0, by rw [c2 p hlt, hv]⟩
      clear q1 qc ho0 hv hnn
      go_wp2_with fail
      go_loopw [4] (fun s4 W => ∃ i : Nat, i ≤ n ∧ s4 = .int .i64 i ∧ Row2 mkI base 3 1 W L p i ∧ Exc (Blks L) w W) (fun s4 _ => n - (intOf s4).toNat)
      case atStart => exact ⟨0, Nat.zero_le _, rfl, HR.out.start, HX.out⟩
      case round =>
        clear HR HX q0
        obtain ⟨i, hi, rfl, hr, hx⟩ := hrel
        have HR : Hid (Row2 mkI base 3 1 wr L p i) := hr
        have HX : Hid (Exc (Blks L) w wr) := hx
        obtain ⟨q0, q1⟩ := HLc.out wr hx
        clear hr hx
        by_cases hlt3 : i < n
        · have hlt4 : (i : Int) < (n : Int) := by omega
          obtain ⟨xs, ho, -, -⟩ := HR.out p (by rw [← HKL.out]; exact hlt)
          rw [HV.out.1, ← HV.out.2] at ho
          obtain ⟨g, cur, rfl, hgc, hil⟩ : ∃ g cur, xa = some ⟨g, 0, none⟩ ∧ wr.heap[g]? = some (.cells cur 3 (0, 0)) ∧ i < cur.size := by
            rcases ho.2 with ⟨e, -⟩ | ⟨g, c, cur, e, _, b3, b4, _, b6, _⟩
            · cases e; omega
            · cases e; exact ⟨g, cur, rfl, b3, by omega⟩
          have c1 : wr.cell? ⟨g, i, none⟩ = some cur[i] := by simp [World.cell?, hgc]
          have c2 : wr.frozen? ⟨g, i, none⟩ = false := seven_f hgc i
          have HPut : Hid (∀ nq, Row2 mkI base 3 1 ((wr.drewN nq).setCell ⟨g, i, none⟩ (.int .i64 (bnum p i))) L p (i + 1) ∧ Exc (Blks L) w ((wr.drewN nq).setCell ⟨g, i, none⟩ (.int .i64 (bnum p i)))) := fun nq => by
            have ob : (L.getD p dv).1.ownBlock = some g := by rw [HV.out.1]; rfl
            refine ⟨Row2.put mkI_len (cur := cur) (g := g) HR.out (by rw [← HKL.out]; exact hlt) (by rw [← HV.out.2]; exact hlt3) HD.out ob hgc ?_ (fun b hb => ?_), Exc.set (Exc.up HX.out ((Up.refl _).drewN nq)) g i _ (.inl (HS.out p g hlt ob))⟩
            · have h := set_cells (W := wr.drewN nq) (j := i) (x := .int .i64 (bnum p i)) (show (wr.drewN nq).heap[g]? = _ from hgc)
              rw [h, set_one cur i _ hil]
              rfl
            · exact Below.heap_setCell _ _ _ _ hb
          have HNm : Hid _ := bnum_ p i (by omega) (by omega)
          clear ho HR HX hgc
          generalize cur[i] = old at c1
          generalize bnum p i = z at HPut HNm
          go_wp2_with fail
          refine TailR.wp_region_seq 12 (by kernel_rfl) (by kernel_rfl) ?_
          simp only [List.take_succ_cons, List.take_zero, List.drop_succ_cons, List.drop_zero]
          repeat (go_big_quiet_step (exact Calls.quiet_of_same (HNm.out _)))
          refine wpQuiet_nil ?_
          intro _ hw'
          obtain ⟨nq, hw''⟩ := hw'
          subst hw''
          go_wp2_with fail
          go_roundw
          case rel => exact ⟨i + 1, by omega, by go_num, (HPut.out nq).1, (HPut.out nq).2⟩
          case measure => simp [intOf] <;> omega
        · have hlt4 : ¬ (i : Int) < (n : Int) := by omega
          have hin : i = n := by omega
          subst hin
          have HR2 : Hid (Rows1 mkI base 3 1 wr L (p + 1)) := by
            have := HR.out
            rw [HV.out.2] at this
            exact this.finish
          go_wp2_with fail
          go_roundw
          case rel => exact ⟨p + 1, by omega, by go_num, HR2.out, HX.out⟩
          case measure => simp [intOf] <;> omega
    · have hlt2 : ¬ (p : Int) < (K : Int) := by omega
      have hpK : p = L.length := by rw [← HKL.out]; omega
      have HPh : Hid (Ph mkI base w.heap.size 3 94 1 wr L 0 (.slice none 0 0) (.slice none 0 0) [] []) := by
        have h := HR.out
        rw [hpK] at h
        exact Ph.start h HX.out.2.1 (Nat.le_trans HBs.out HX.out.2.1)
      clear HR hpK q1
      go_wp2_with fail
      clear q0
      go_loopw [5, 6, 7, 8, 9] (fun s5 s6 s7 s8 s9 W => ∃ (p : Nat) (oa ma : Option Addr) (ok mk9 : Nat) (os ms : List Value), p ≤ K ∧ s7 = .int .i64 p ∧ s5 = .slice oa p ok ∧ s6 = .slice ma p mk9 ∧ Ph mkI base w.heap.size 3 94 1 W L p (.slice oa p ok) (.slice ma p mk9) os ms ∧ Exc (Blks L) w W) (fun _ _ s7 _ _ _ => K - (intOf s7).toNat)
      case atStart => exact ⟨0, none, none, 0, 0, [], [], Nat.zero_le _, rfl, rfl, rfl, HPh.out, HX.out⟩
      case round =>
        clear HPh HX hlt2 hlt hp
        obtain ⟨p, oa, ma, ok, mk9, os, ms, hp, rfl, rfl, rfl, hph, hx⟩ := hrel
        have HPh : Hid (Ph mkI base w.heap.size 3 94 1 wr L p (.slice oa p ok) (.slice ma p mk9) os ms) := hph
        have HX : Hid (Exc (Blks L) w wr) := hx
        obtain ⟨q0, q1⟩ := HCe.out wr hx
        clear hph hx
        by_cases hlt : p < K
        · have hlt2 : (p : Int) < (K : Int) := by omega
          have hpL : p < L.length := by rw [← HKL.out]; exact hlt
          obtain ⟨lb, rfl, qc⟩ := q1 (by omega)
          obtain ⟨xa, xk, hv⟩ := row_val (HPh.out.A p (Nat.le_refl _) hpL)
          obtain ⟨n, hnn⟩ : ∃ n, n = (L.getD p dv).2 := ⟨_, rfl⟩
          have hnb : n ≤ 4294967296 := by rw [hnn]; exact HN.out p hlt
          rw [← hnn] at hv
          have HV : Hid ((L.getD p dv).1 = .slice xa n xk ∧ n = (L.getD p dv).2) := ⟨hv, hnn⟩
          have HLc : Hid (∀ W, Exc (Blks L) w W → W.cell? ⟨gb, 1, none⟩ = some (.slice (some ⟨lb, 0, none⟩) K cap) ∧ W.cell? ⟨lb, p, none⟩ = some (.slice xa n xk)) := fun W x => by
            obtain ⟨c0, c1⟩ := HCe.out W x
            obtain ⟨lb', e, c2⟩ := c1 (by omega)
            cases e
            exact ⟨c0, by rw [c2 p hlt, hv]⟩
          have HI0 : Hid (In mkI base w.heap.size 3 94 1 wr L p (.slice oa p ok) (.slice ma p mk9) os ms (.slice xa n xk) n p) := by
            have h := Ph.inn mkI_len HPh.out hpL HD.out
            rw [hv, ← hnn] at h
            exact h
          have HBk : Hid (∀ b, Blks L b → b < w.heap.size ∨ True) := fun _ _ => .inr trivial
          obtain ⟨qc1, qc2⟩ := HLc.out wr HX.out
          clear q0 q1 qc hv hnn HPh HBk
          go_wp2_with fail
          go_loopw [5, 8, 9] (fun s5 s8 s9 W => ∃ (i k : Nat) (la oa : Option Addr) (lk ok : Nat) (os : List Value), n ≤ i ∧ i ≤ n + 70 ∧ s9 = .int .i64 i ∧ s8 = .slice la i lk ∧ s5 = .slice oa k ok ∧ In mkI base w.heap.size 3 94 1 W L p (.slice oa k ok) (.slice ma p mk9) os ms (.slice la i lk) i k ∧ Exc (Blks L) w W ∧ (n < i → k = p + 1) ∧ (i = n → k = p) ∧ (∀ b, (Value.slice la i lk).ownBlock = some b → Blks L b ∨ w.heap.size ≤ b)) (fun _ _ s9 _ => n + 70 - (intOf s9).toNat)
          case atStart => exact ⟨n, p, xa, oa, xk, ok, os, Nat.le_refl _, by omega, rfl, rfl, rfl, HI0.out, HX.out, fun h => by omega, fun _ => rfl, fun b hb => .inl (HS.out p b hlt (by rw [HV.out.1]; exact hb))⟩
          case round =>
            clear HI0 HX qc1 qc2
            obtain ⟨i, k, la, oa, lk, ok, os, hi1, hi2, rfl, rfl, rfl, hin, hx, hk1, hk2, hsep⟩ := hrel
            have HI : Hid (In mkI base w.heap.size 3 94 1 wr L p (.slice oa k ok) (.slice ma p mk9) os ms (.slice la i lk) i k) := hin
            have HX : Hid (Exc (Blks L) w wr) := hx
            have HSp : Hid (∀ b, (Value.slice la i lk).ownBlock = some b → Blks L b ∨ w.heap.size ≤ b) := hsep
            have HK1 : Hid ((n < i → k = p + 1) ∧ (i = n → k = p)) := ⟨hk1, hk2⟩
            obtain ⟨qc1, qc2⟩ := HLc.out wr hx
            clear hin hx hsep hk1 hk2
            by_cases hlt3 : i < n + 70
            · have hlt4 : (i : Int) < (n : Int) + 70 := by omega
              have HNm : Hid (∀ W, Calls Tryd.prog 80 #[.int .i64 p, .int .i64 i] W fun e w' => e = .returned (.int .i64 (bnum p i)) ∧ w' = W) := bnum_ p i (by omega) (by omega)
              have HIa : Hid (In mkI base w.heap.size 3 94 1 (wr.alloc (.cells #[.int .i64 (bnum p i)] 3)) L p (.slice oa k ok) (.slice ma p mk9) os ms (.slice la i lk) i k) := HI.out.up ((Up.refl _).alloc _)
              have HXa : Hid (Exc (Blks L) w (wr.alloc (.cells #[.int .i64 (bnum p i)] 3))) := HX.out.up ((Up.refl _).alloc _)
              have HG : Hid (∀ v5 w5, w5.ownsRow base 3 1 v5 (i + 1) (mks mkI p i ++ [.int .i64 (bnum p i)]) → (wr.alloc (.cells #[.int .i64 (bnum p i)] 3)).grownBy w5 (Value.slice la i lk).ownBlock → KeptS (.slice la i lk) (i * 1) (wr.alloc (.cells #[.int .i64 (bnum p i)] 3)) w5 → LiesNew (.slice la i lk) v5 (wr.alloc (.cells #[.int .i64 (bnum p i)] 3)) → TyK (wr.alloc (.cells #[.int .i64 (bnum p i)] 3)) w5 → In mkI base w.heap.size 3 94 1 w5 L p (.slice oa k ok) (.slice ma p mk9) os ms v5 (i + 1) k ∧ Exc (Blks L) w w5 ∧ ∀ b, v5.ownBlock = some b → Blks L b ∨ w.heap.size ≤ b) := fun v5 w5 a1 a2 a3 a4 a5 => by
                refine ⟨In.grow mkI_len HIa.out (fun h => HK1.out.1 (by rw [HV.out.2]; omega)) (by decide) (by rw [mks_more]; exact a1) a2 a3 a4 a5, HXa.out.grown a2 HSp.out, fun b hb => ?_⟩
                rcases a4 with a4 | ⟨g, a4, a6⟩
                · rw [a4] at hb; exact HSp.out b hb
                · rw [a4] at hb
                  have : g = b := by simpa using hb
                  subst this
                  exact .inr (Nat.le_trans HXa.out.2.1 a6)
              have HNw : Hid (∀ j u, [Value.int .i64 (bnum p i)][j]? = some u → (wr.alloc (.cells #[.int .i64 (bnum p i)] 3)).cell? ((⟨wr.heap.size, 0, none⟩ : Addr).add j) = some u) := by
                intro j u hj
                cases j with
                | zero => simp at hj; subst hj; simp [Addr.add]
                | succ j => simp at hj
              clear HX HI
              generalize bnum p i = z at HNm HIa HXa HG HNw
              go_wp2_with fail
              refine Calls.mono (HNm.out _) ?_
              rintro e w1 ⟨rfl, hw1⟩
              obtain rfl := hw1.symm
              have HOn : Hid (∀ u ∈ [Value.int .i64 z], u.oneCell' = true) := by intro u hu; simp at hu; subst hu; rfl
              have hpk : k ≤ 1000 := by
                rcases Nat.lt_or_ge n i with h | h
                · have := HK1.out.1 h; omega
                · have := HK1.out.2 (by omega); omega
              by_cases hin : i = n
              · have hkp : k = p := HK1.out.2 hin
                have hnn2 : n = (L.getD p dv).2 := HV.out.2
                have HKp : Hid (∀ (xa5 : Option Addr) (xk5 : Nat) (w5 : World) (v7 : Value) (w7 : World), In mkI base w.heap.size 3 94 1 (w5.alloc (.cells #[.slice xa5 (i + 1) xk5] 94)) L p (.slice oa k ok) (.slice ma p mk9) os ms (.slice xa5 (i + 1) xk5) (i + 1) k → Exc (Blks L) w w5 → w7.ownsRow w.heap.size 94 1 v7 (k + 1) (os ++ [.slice xa5 (i + 1) xk5]) → (w5.alloc (.cells #[.slice xa5 (i + 1) xk5] 94)).grownBy w7 (Value.slice oa k ok).ownBlock → LiesNew (.slice oa k ok) v7 (w5.alloc (.cells #[.slice xa5 (i + 1) xk5] 94)) → In mkI base w.heap.size 3 94 1 w7 L p v7 (.slice ma p mk9) (os ++ [.slice xa5 (i + 1) xk5]) ms (.slice xa5 (i + 1) xk5) (i + 1) (k + 1) ∧ Exc (Blks L) w w7) := fun xa5 xk5 w5 v7 w7 h hx a1 a2 a4 => by
                  rw [hkp] at h a1 a2 a4 ⊢
                  refine ⟨In.keep mkI_len h (by rw [hin, hnn2]) (by decide) a1 a2 a4, Exc.grown (hx.up ((Up.refl _).alloc _)) a2 (fun c hc => .inr ?_)⟩
                  rcases h.C.1.2 with ⟨e0, -⟩ | ⟨g', cap', cur', e0, b2, _⟩
                  · rw [e0] at hc; cases hc
                  · rw [e0] at hc
                    have : g' = c := by simpa [Value.ownBlock] using hc
                    subst this
                    exact b2
                have hbe : ((i : Int) == (n : Int)) = true := by rw [beq_iff_eq]; omega
                clear hin hnn2
                have HKk : Hid (k = p) := hkp
                clear hkp
                go_wp2_with (at_builtin; first | (refine wpList_append_apart _ (by rfl) (.tmp 78) (.tmp 82) 94 (by rfl) base 3 iT (.int .i64 0) 1 8 Tryd.underlying94 hiT z0 z1 z2 (by rfl) (by decide) (.slice la i lk) i (mks mkI p i) (by rfl) HIa.out.R ⟨wr.heap.size, 0, none⟩ 1 [.int .i64 z] (by rfl) (by rfl) HNw.out HOn.out (by unfold maxLen; omega) (by omega) HIa.out.Z.2 ?_; intro v5 w5 a1 a2 a3 a4 a5; have HI5 : Hid _ := HG.out v5 w5 a1 a2 a3 a4 a5; obtain ⟨xa5, xk5, hx5⟩ := row_val a1; subst hx5; clear a1 a2 a3 a4 a5 qc1 qc2; obtain ⟨qc1, qc2⟩ := HLc.out w5 HI5.out.2.1; have HI6 : Hid (In mkI base w.heap.size 3 94 1 (w5.alloc (.cells #[.slice xa5 (i + 1) xk5] 94)) L p (.slice oa k ok) (.slice ma p mk9) os ms (.slice xa5 (i + 1) xk5) (i + 1) k) := (In.up HI5.out.1 ((Up.refl _).alloc _)); have HNw2 : Hid _ := newCell w5 (.slice xa5 (i + 1) xk5) 94) | (refine wpList_append_apart _ (by rfl) (.tmp 94) (.tmp 96) 34 (by rfl) w.heap.size 94 iS (.slice none 0 0) 1 24 Tryd.underlying34 hiS y0 y1 y2 (by rfl) (by decide) (.slice oa k ok) k os (by rfl) HI6.out.C.1 ⟨w5.heap.size, 0, none⟩ 1 [.slice xa5 (i + 1) xk5] (by rfl) (by rfl) HNw2.out (oneSl _ _ _) (by unfold maxLen; omega) (by omega) HI6.out.Z.1 ?_; intro v7 w7 a1 a2 a3 a4 a5; have HI7 : Hid _ := HKp.out _ _ _ v7 w7 HI6.out HI5.out.2.1 a1 a2 a4; obtain ⟨xa7, xk7, hx7⟩ := row_val a1; subst hx7; clear a1 a2 a3 a4 a5))
                go_roundw
                case rel => exact ⟨i + 1, k + 1, xa5, xa7, xk5, xk7, _, by omega, by omega, by go_num, rfl, rfl, HI7.out.1, HI7.out.2, fun _ => by rw [HKk.out], fun h => by omega, HI5.out.2.2⟩
                case measure => simp [intOf] <;> omega
              · have hbe : ((i : Int) == (n : Int)) = false := beq_eq_false_iff_ne.2 (by omega)
                have HKk : Hid (k = p + 1) := HK1.out.1 (by omega)
                go_wp2_with (at_builtin; (refine wpList_append_apart _ (by rfl) (.tmp 78) (.tmp 82) 94 (by rfl) base 3 iT (.int .i64 0) 1 8 Tryd.underlying94 hiT z0 z1 z2 (by rfl) (by decide) (.slice la i lk) i (mks mkI p i) (by rfl) HIa.out.R ⟨wr.heap.size, 0, none⟩ 1 [.int .i64 z] (by rfl) (by rfl) HNw.out HOn.out (by unfold maxLen; omega) (by omega) HIa.out.Z.2 ?_; intro v5 w5 a1 a2 a3 a4 a5; have HI5 : Hid _ := HG.out v5 w5 a1 a2 a3 a4 a5; obtain ⟨xa5, xk5, hx5⟩ := row_val a1; subst hx5; clear a1 a2 a3 a4 a5 qc1 qc2; obtain ⟨qc1, qc2⟩ := HLc.out w5 HI5.out.2.1))
                go_roundw
                case rel => exact ⟨i + 1, k, xa5, oa, xk5, ok, os, by omega, by omega, by go_num, rfl, rfl, HI5.out.1, HI5.out.2.1, fun _ => HKk.out, fun h => by omega, HI5.out.2.2⟩
                case measure => simp [intOf] <;> omega
            · have hlt4 : ¬ (i : Int) < (n : Int) + 70 := by omega
              have HKk : Hid (k = p + 1) := HK1.out.1 (by omega)
              have hin : i = n + 70 := by omega
              have HI6 : Hid (In mkI base w.heap.size 3 94 1 (wr.alloc (.cells #[.slice la i lk] 94)) L p (.slice oa k ok) (.slice ma p mk9) os ms (.slice la i lk) i k) := HI.out.up ((Up.refl _).alloc _)
              have HNw2 : Hid _ := newCell wr (.slice la i lk) 94
              have HDn : Hid (∀ (v7 : Value) (w7 : World), w7.ownsRow w.heap.size 94 1 v7 (p + 1) (ms ++ [.slice la i lk]) → (wr.alloc (.cells #[.slice la i lk] 94)).grownBy w7 (Value.slice ma p mk9).ownBlock → LiesNew (.slice ma p mk9) v7 (wr.alloc (.cells #[.slice la i lk] 94)) → Ph mkI base w.heap.size 3 94 1 w7 L (p + 1) (.slice oa (p + 1) ok) v7 os (ms ++ [.slice la i lk]) ∧ Exc (Blks L) w w7) := fun v7 w7 a1 a2 a4 => by
                have h := HI6.out
                rw [HKk.out] at h
                refine ⟨In.done mkI_len h (by rw [hin, HV.out.2]) (by decide) a1 a2 a4, Exc.grown (HX.out.up ((Up.refl _).alloc _)) a2 (fun c hc => .inr ?_)⟩
                rcases h.D.1.2 with ⟨e0, -⟩ | ⟨g', cap', cur', e0, b2, _⟩
                · rw [e0] at hc; cases hc
                · rw [e0] at hc
                  have : g' = c := by simpa [Value.ownBlock] using hc
                  subst this
                  exact b2
              clear hin HX HI
              go_wp2_with (at_builtin; (refine wpList_append_apart _ (by rfl) (.tmp 98) (.tmp 100) 34 (by rfl) w.heap.size 94 iS (.slice none 0 0) 1 24 Tryd.underlying34 hiS y0 y1 y2 (by rfl) (by decide) (.slice ma p mk9) p ms (by rfl) HI6.out.D.1 ⟨wr.heap.size, 0, none⟩ 1 [.slice la i lk] (by rfl) (by rfl) HNw2.out (oneSl _ _ _) (by unfold maxLen; omega) (by omega) HI6.out.Z.1 ?_; intro v7 w7 a1 a2 a3 a4 a5; have HI7 : Hid _ := HDn.out v7 w7 a1 a2 a4; obtain ⟨xa7, xk7, hx7⟩ := row_val a1; subst hx7; clear a1 a2 a3 a4 a5))
              go_roundw
              case rel => exact ⟨p + 1, oa, xa7, ok, xk7, os, _, by omega, by go_num, by rw [HKk.out], rfl, HI7.out.1, HI7.out.2⟩
              case measure => simp [intOf] <;> omega
        · have hlt2 : ¬ (p : Int) < (K : Int) := by omega
          have hpK : p = K := by omega
          subst hpK
          have HFin : Hid (Post (.returned (.bool true)) wr) := by unfold Hid; rw [HPost.out]; exact ⟨rfl, HX.out⟩
          have HM : Hid (∀ q, q < p → ∃ mb o c, ma = some ⟨mb, 0, none⟩ ∧ wr.cell? ⟨mb, q, none⟩ = some (.slice (some ⟨o, 0, none⟩) ((L.getD q dv).2 + 70) c) ∧ (L.getD q dv).2 + 70 ≤ (L.getD q dv).2 + 70 ∧ ∀ i, i < (L.getD q dv).2 + 70 → wr.cell? ⟨o, i, none⟩ = some (.int .i64 (bnum q i))) := fun q hq => by
            obtain ⟨mb, c0, -, -, e⟩ := row_some HPh.out.D.1 (by omega)
            obtain ⟨o, c, h1, h2⟩ := HPh.out.D.2 q hq
            simp only [Value.slice.injEq] at e
            have hd := HPh.out.D.1
            rw [e.1] at hd
            have hc := World.ownsRow.cellAt hd q (by omega)
            have hl : ms.length = p := by have := HPh.out.D.1.1; omega
            refine ⟨mb, o, c, e.1, ?_, Nat.le_refl _, fun i hi => ?_⟩
            · rw [hc, List.getElem?_eq_getElem (by omega), ← h1, List.getD_eq_getElem?_getD, List.getElem?_eq_getElem (by omega)]
              rfl
            · have := h2.2 i 0 hi (by decide)
              rw [Nat.mul_one, Nat.add_zero] at this
              rw [this]; rfl
          have HO : Hid (∀ q, q < p → ∃ ob o c, oa = some ⟨ob, 0, none⟩ ∧ wr.cell? ⟨ob, q, none⟩ = some (.slice (some ⟨o, 0, none⟩) ((L.getD q dv).2 + 1) c) ∧ wr.cell? ⟨o, (L.getD q dv).2, none⟩ = some (.int .i64 (bnum q (L.getD q dv).2))) := fun q hq => by
            obtain ⟨mb, c0, -, -, e⟩ := row_some HPh.out.C.1 (by omega)
            obtain ⟨o, c, h1, h2⟩ := HPh.out.C.2 q hq
            simp only [Value.slice.injEq] at e
            have hd := HPh.out.C.1
            rw [e.1] at hd
            have hc := World.ownsRow.cellAt hd q (by omega)
            have hl : os.length = p := by have := HPh.out.C.1.1; omega
            refine ⟨mb, o, c, e.1, ?_, ?_⟩
            · rw [hc, List.getElem?_eq_getElem (by omega), ← h1, List.getD_eq_getElem?_getD, List.getElem?_eq_getElem (by omega)]
              rfl
            · have := h2.2 (L.getD q dv).2 0 (by omega) (by decide)
              rw [Nat.mul_one, Nat.add_zero] at this
              rw [this]; rfl
          have HB : Hid (∀ q, q < p → ∃ xa xk, (L.getD q dv).1 = .slice xa (L.getD q dv).2 xk ∧ ∀ i, i < (L.getD q dv).2 → ∃ g, xa = some ⟨g, 0, none⟩ ∧ wr.cell? ⟨g, i, none⟩ = some (.int .i64 (bnum q i))) := fun q hq => by
            obtain ⟨xs, h3, -⟩ := H1.out q (by rw [← HKL.out]; exact hq)
            obtain ⟨xa, xk, hv⟩ := row_val h3
            refine ⟨xa, xk, hv, fun i hi => ?_⟩
            obtain ⟨g, c0, -, -, e⟩ := row_some h3 (by omega)
            have h4 := HPh.out.B q hq g (by rw [e]; rfl)
            have h5 := h4.2 i 0 hi (by decide)
            rw [Nat.mul_one, Nat.add_zero] at h5
            rw [hv] at e
            simp only [Value.slice.injEq] at e
            exact ⟨g, e.1, by rw [h5]; rfl⟩
          clear HPh
          go_wp2_with fail
          go_loopw [10, 11, 12, 13] (fun s10 s11 s12 s13 W => ∃ q : Nat, q ≤ p ∧ s10 = .int .i64 q ∧ W = wr) (fun s10 _ _ _ _ => p - (intOf s10).toNat)
          case atStart => exact ⟨0, Nat.zero_le _, rfl, rfl⟩
          case round =>
            obtain ⟨q, hq, rfl, hwr⟩ := hrel
            obtain rfl := hwr.symm
            by_cases hqp : q < p
            · have hqp2 : (q : Int) < (p : Int) := by omega
              obtain ⟨mb, o, c, rfl, m1, -, m2⟩ := HM.out q hqp
              obtain ⟨ob, o1, c1, rfl, n1, n2⟩ := HO.out q hqp
              obtain ⟨xa, xk, hv, hb⟩ := HB.out q hqp
              obtain ⟨lb, rfl, qc⟩ := q1 (by omega)
              have qv := qc q hqp
              rw [hv] at qv
              have hnb := HN.out q hqp
              have HM2 : Hid _ := m2
              have HB2 : Hid _ := hb
              generalize (L.getD q dv).2 = n at m1 HM2 n1 n2 qv HB2 hnb
              have HNm : Hid (∀ i : Nat, i ≤ 8589934592 → ∀ W, Calls Tryd.prog 80 #[.int .i64 q, .int .i64 i] W fun e w' => e = .returned (.int .i64 (bnum q i)) ∧ w' = W) := fun i hi => bnum_ q i (by omega) hi
              clear m2 hb hv qc
              go_wp2_with fail
              go_loopw [11, 12, 13] (fun s11 s12 s13 W => ∃ i : Nat, i ≤ n + 70 ∧ s11 = .int .i64 i ∧ W = wr) (fun s11 _ _ _ => n + 70 - (intOf s11).toNat)
              case atStart => exact ⟨0, Nat.zero_le _, rfl, rfl⟩
              case round =>
                obtain ⟨i, hi, rfl, hwr⟩ := hrel
                obtain rfl := hwr.symm
                by_cases hi7 : i < n + 70
                · have hi8 : (i : Int) < (n : Int) + 70 := by omega
                  have k1 := HM2.out i hi7
                  have HN2 : Hid _ := HNm.out i (by omega)
                  rcases Nat.lt_trichotomy i n with hin | hin | hin
                  · obtain ⟨g, rfl, k2⟩ := HB2.out i hin
                    have hin2 : (i : Int) < (n : Int) := by omega
                    have hbe : ((i : Int) == (n : Int)) = false := beq_eq_false_iff_ne.2 (by omega)
                    generalize bnum q i = z at k1 k2 HN2
                    go_wp2_with fail
                    refine Calls.mono (HN2.out _) ?_
                    rintro e w1 ⟨rfl, hw1⟩
                    obtain rfl := hw1.symm
                    go_wp2_with fail
                    refine Calls.mono (HN2.out _) ?_
                    rintro e w1 ⟨rfl, hw1⟩
                    obtain rfl := hw1.symm
                    go_wp2_with fail
                    go_roundw
                    case rel => exact ⟨i + 1, by omega, by go_num, by first | rfl | trivial⟩
                    case measure => simp [intOf] <;> omega
                  · subst hin
                    have hin2 : ¬ (i : Int) < (i : Int) := by omega
                    generalize bnum q i = z at k1 n2 HN2
                    go_wp2_with fail
                    refine Calls.mono (HN2.out _) ?_
                    rintro e w1 ⟨rfl, hw1⟩
                    obtain rfl := hw1.symm
                    go_wp2_with fail
                    refine Calls.mono (HN2.out _) ?_
                    rintro e w1 ⟨rfl, hw1⟩
                    obtain rfl := hw1.symm
                    go_wp2_with fail
                    go_roundw
                    case rel => exact ⟨i + 1, by omega, by go_num, by first | rfl | trivial⟩
                    case measure => simp [intOf] <;> omega
                  · have hin2 : ¬ (i : Int) < (n : Int) := by omega
                    have hbe : ((i : Int) == (n : Int)) = false := beq_eq_false_iff_ne.2 (by omega)
                    generalize bnum q i = z at k1 HN2
                    go_wp2_with fail
                    refine Calls.mono (HN2.out _) ?_
                    rintro e w1 ⟨rfl, hw1⟩
                    obtain rfl := hw1.symm
                    go_wp2_with fail
                    refine Calls.mono (HN2.out _) ?_
                    rintro e w1 ⟨rfl, hw1⟩
                    obtain rfl := hw1.symm
                    go_wp2_with fail
                    go_roundw
                    case rel => exact ⟨i + 1, by omega, by go_num, by first | rfl | trivial⟩
                    case measure => simp [intOf] <;> omega
                · have hi8 : ¬ (i : Int) < (n : Int) + 70 := by omega
                  go_wp2_with fail
                  go_roundw
                  case rel => exact ⟨q + 1, by omega, by go_num, by first | rfl | trivial⟩
                  case measure => simp [intOf] <;> omega
            · have hqp2 : ¬ (q : Int) < (p : Int) := by omega
              go_wp2
              exact HFin.out
end Go.Proofs.YtjjikeehifndhaaDoor.BG
