/-
  What lies in memory while the law goes through All: boxes, two dice, a count.
-/
import Derived.Test.YthnpdlbcdaodkaaDoorRng
import Derived.Shelf.RegionOpen
namespace Go.Proofs.YthnpdlbcdaodkaaDoor
open Go.RowKit

theorem nextP (b z : Nat) (w : World) (h : Die w b z) :
    Calls Tryd.prog 10 #[.pointer (some ⟨b, 0, none⟩)] w fun e w' => e = .returned (.int .u64 (mx (stp z) : Nat)) ∧ w' = w.setCell ⟨b, 0, none⟩ (.int .u64 (stp z : Nat)) := next b z w h
theorem allPp (p : Option Addr) (w : World) :
    Calls Tryd.prog 55 #[.pointer p] w fun e w' => e = .returned (.func (.func 58) #[] #[.pointer (some ⟨w.heap.size, 0, none⟩)]) ∧ w' = w.alloc (.cells #[.pointer p] 24) := by
  go_enter Tryd.func55, Tryd.ntmps55
  go_wp2
  go_ret
  exact ⟨rfl, rfl⟩
theorem func_nil (fn : Fn) (f c : Array Value) (w : World) : (binOp .eql 95 (.func fn f c) Value.nilFunc).run Tryd.prog w = .ok (.bool false) w := by
  have hd : Op.maxDepth = (Op.maxDepth - 1) + 1 := by decide
  simp only [binOp, Op.equal]
  rw [hd]
  simp [Op.equalIn, run_underlying Tryd.underlying95, Result.andThen, go_sem]
def Box (W : World) (b : Nat) (v : Value) (t : Nat) : Prop := W.heap[b]? = some (.cells #[v] t (0, 0))
/- first, second, the answer, the dice d in their box, the dice r in theirs, the count -/
def St (w : World) (n f s k zd zr : Nat) (W : World) : Prop :=
  (Box W n (.int .i64 f) 3 ∧ Box W (n + 1) (.int .i64 s) 3 ∧ Box W (n + 2) (.bool false) 4) ∧ (Die W (n + 3) zd ∧ Box W (n + 4) (.pointer (some ⟨n + 3, 0, none⟩)) 24) ∧ (Die W (n + 5) zr ∧ Box W (n + 6) (.pointer (some ⟨n + 5, 0, none⟩)) 24) ∧ Box W (n + 8) (.int .i64 k) 3 ∧ Below n w W
def Stay (W W' : World) : Prop := ∀ (g : Nat) (cs : Array Value) (t : Nat) (fz : Nat × Nat), W.heap[g]? = some (.cells cs t fz) → W'.heap[g]? = some (.cells cs t fz)
theorem St.stay {w W W' : World} {n f s k zd zr : Nat} (h : St w n f s k zd zr W) (hs : Stay W W') (hb : Below n w W') : St w n f s k zd zr W' :=
  ⟨⟨hs _ _ _ _ h.1.1, hs _ _ _ _ h.1.2.1, hs _ _ _ _ h.1.2.2⟩, ⟨hs _ _ _ _ h.2.1.1, hs _ _ _ _ h.2.1.2⟩, ⟨hs _ _ _ _ h.2.2.1.1, hs _ _ _ _ h.2.2.1.2⟩, hs _ _ _ _ h.2.2.2.1, hb⟩
theorem Stay.up {W W' : World} (u : Up W W') : Stay W W' := fun _ _ _ _ e => u.heap e
theorem stay_row {W W' : World} {B : Nat} {row : Option Nat} (hg : W.grownBy W' row) (hr : ∀ r, row = some r → B ≤ r ∧ ∃ o : Obj, W.heap[r]? = some o ∧ o.isCells = false) : Stay W W' := by
  intro g cs t fz e
  refine (hg.block g (Array.getElem?_eq_some_iff.1 e).1 (fun he => ?_)).trans e
  obtain ⟨_, o, ho, hc⟩ := hr g he.symm
  rw [e] at ho; cases ho; cases hc
theorem St.own {w : World} {n f s k zd zr B : Nat} {W W' : World} {row : Option Nat} (h : St w n f s k zd zr W) (hn : n = w.heap.size) (hB : n ≤ B) (hg : W.grownBy W' row) (hr : ∀ r, row = some r → B ≤ r ∧ ∃ o : Obj, W.heap[r]? = some o ∧ o.isCells = false) : St w n f s k zd zr W' := by
  refine h.stay (stay_row hg hr) (Below.grown h.2.2.2.2 hg (by subst hn; exact h.2.2.2.2.size) (fun r e => ?_))
  have := (hr r e).1; omega
theorem Box.set {W : World} {b : Nat} {v : Value} {t : Nat} (h : Box W b v t) (u : Value) : Box (W.setCell ⟨b, 0, none⟩ u) b u t := one_setCell h
theorem Box.other {W : World} {b g : Nat} {v : Value} {t : Nat} (h : Box W b v t) (hne : b ≠ g) (j : Nat) (u : Value) : Box (W.setCell ⟨g, j, none⟩ u) b v t := by
  unfold Box; rw [Below.heap_setCell _ _ _ _ hne]; exact h
theorem Die.other {W : World} {b z g : Nat} (h : Die W b z) (hne : b ≠ g) (j : Nat) (u : Value) : Die (W.setCell ⟨g, j, none⟩ u) b z := by
  unfold Die; rw [Below.heap_setCell _ _ _ _ hne]; exact h
theorem St.setD {w W : World} {n f s k zd zr : Nat} (h : St w n f s k zd zr W) (y : Nat) : St w n f s k y zr (W.setCell ⟨n + 3, 0, none⟩ (.int .u64 (y : Nat))) := by
  obtain ⟨⟨a1, a2, a3⟩, ⟨a4, a5⟩, ⟨a6, a7⟩, a8, a9⟩ := h
  exact ⟨⟨a1.other (by omega) _ _, a2.other (by omega) _ _, a3.other (by omega) _ _⟩, ⟨a4.set y, a5.other (by omega) _ _⟩, ⟨a6.other (by omega) _ _, a7.other (by omega) _ _⟩, a8.other (by omega) _ _, Below.setCell a9 (by show n ≤ n + 3; omega) _⟩
theorem St.setR {w W : World} {n f s k zd zr : Nat} (h : St w n f s k zd zr W) (y : Nat) : St w n f s k zd y (W.setCell ⟨n + 5, 0, none⟩ (.int .u64 (y : Nat))) := by
  obtain ⟨⟨a1, a2, a3⟩, ⟨a4, a5⟩, ⟨a6, a7⟩, a8, a9⟩ := h
  exact ⟨⟨a1.other (by omega) _ _, a2.other (by omega) _ _, a3.other (by omega) _ _⟩, ⟨a4.other (by omega) _ _, a5.other (by omega) _ _⟩, ⟨a6.set y, a7.other (by omega) _ _⟩, a8.other (by omega) _ _, Below.setCell a9 (by show n ≤ n + 5; omega) _⟩
theorem St.setK {w W : World} {n f s k zd zr : Nat} (h : St w n f s k zd zr W) (y : Nat) : St w n f s y zd zr (W.setCell ⟨n + 8, 0, none⟩ (.int .i64 (y : Nat))) := by
  obtain ⟨⟨a1, a2, a3⟩, ⟨a4, a5⟩, ⟨a6, a7⟩, a8, a9⟩ := h
  exact ⟨⟨a1.other (by omega) _ _, a2.other (by omega) _ _, a3.other (by omega) _ _⟩, ⟨a4.other (by omega) _ _, a5.other (by omega) _ _⟩, ⟨a6.other (by omega) _ _, a7.other (by omega) _ _⟩, a8.set _, Below.setCell a9 (by show n ≤ n + 8; omega) _⟩
theorem St.up {w W W' : World} {n f s k zd zr : Nat} (h : St w n f s k zd zr W) (hn : n = w.heap.size) (u : Up W W') : St w n f s k zd zr W' :=
  h.stay (.up u) (Below.trans h.2.2.2.2 (Below.mono u (by subst hn; exact h.2.2.2.2.size)))
theorem St.drew {w W : World} {n f s k zd zr : Nat} (h : St w n f s k zd zr W) : St w n f s k zd zr W.drew := ⟨h.1, h.2.1, h.2.2.1, h.2.2.2.1, Below.drew h.2.2.2.2⟩
/- what the walk reads of it -/
theorem St.cells {w W : World} {n f s k zd zr : Nat} (h : St w n f s k zd zr W) :
    W.cell? ⟨n, 0, none⟩ = some (.int .i64 f) ∧ W.cell? ⟨n + 1, 0, none⟩ = some (.int .i64 s) ∧ W.cell? ⟨n + 4, 0, none⟩ = some (.pointer (some ⟨n + 3, 0, none⟩)) ∧ W.cell? ⟨n + 6, 0, none⟩ = some (.pointer (some ⟨n + 5, 0, none⟩)) ∧ W.cell? ⟨n + 8, 0, none⟩ = some (.int .i64 k) ∧ W.frozen? ⟨n + 8, 0, none⟩ = false ∧ W.cell? ⟨n + 2, 0, none⟩ = some (.bool false) ∧ W.frozen? ⟨n + 2, 0, none⟩ = false :=
  ⟨cell_of_one h.1.1, cell_of_one h.1.2.1, cell_of_one h.2.1.2, cell_of_one h.2.2.1.2, cell_of_one h.2.2.2.1, free_of_one h.2.2.2.1, cell_of_one h.1.2.2, free_of_one h.1.2.2⟩
theorem St.rd {w W : World} {n f s k zd zr : Nat} (h : St w n f s k zd zr W) : W.cell? ⟨n + 4, 0, none⟩ = some (.pointer (some ⟨n + 3, 0, none⟩)) := cell_of_one h.2.1.2
theorem St.rr {w W : World} {n f s k zd zr : Nat} (h : St w n f s k zd zr W) : W.cell? ⟨n + 6, 0, none⟩ = some (.pointer (some ⟨n + 5, 0, none⟩)) := cell_of_one h.2.2.1.2
/- the same, with the box of the round's All, since the world W0 -/
def Cx (w : World) (n f s k zd zr : Nat) (W0 W : World) : Prop := St w n f s k zd zr W ∧ KeepsOthers W0 W ∧ Box W (n + 9) (.pointer (some ⟨n + 3, 0, none⟩)) 24
def Pre (w : World) (n f s k b zb zd zr : Nat) (W0 W : World) : Prop := Die W b zb ∧ Cx w n f s k zd zr W0 (W.setCell ⟨b, 0, none⟩ (.int .u64 (stp zb : Nat)))
theorem Cx.pD {w W W0 : World} {n f s k zd zr : Nat} (h : Cx w n f s k zd zr W0 W) : Pre w n f s k (n + 3) zd (stp zd) zr W0 W := ⟨h.1.2.1.1, h.1.setD _, h.2.1.trans (KeepsOthers.setCell _ _ _), h.2.2.other (by omega) _ _⟩
theorem Cx.pR {w W W0 : World} {n f s k zd zr : Nat} (h : Cx w n f s k zd zr W0 W) : Pre w n f s k (n + 5) zr zd (stp zr) W0 W := ⟨h.1.2.2.1.1, h.1.setR _, h.2.1.trans (KeepsOthers.setCell _ _ _), h.2.2.other (by omega) _ _⟩
theorem nextG {w W W0 : World} {n f s k zd zr : Nat} (b zb : Nat) (h : Pre w n f s k b zb zd zr W0 W) :
    Calls Tryd.prog 10 #[.pointer (some ⟨b, 0, none⟩)] W fun e W' => e = .returned (.int .u64 (mx (stp zb) : Nat)) ∧ Cx w n f s k zd zr W0 W' := by
  refine (nextP b zb W h.1).mono ?_
  rintro e W' ⟨rfl, rfl⟩
  exact ⟨rfl, h.2⟩
/- the same without the box -/
def Cy (w : World) (n f s k zd zr : Nat) (W0 W : World) : Prop := St w n f s k zd zr W ∧ KeepsOthers W0 W
def Pq (w : World) (n f s k b zb zd zr : Nat) (W0 W : World) : Prop := Die W b zb ∧ Cy w n f s k zd zr W0 (W.setCell ⟨b, 0, none⟩ (.int .u64 (stp zb : Nat)))
theorem Cy.pD {w W W0 : World} {n f s k zd zr : Nat} (h : Cy w n f s k zd zr W0 W) : Pq w n f s k (n + 3) zd (stp zd) zr W0 W := ⟨h.1.2.1.1, h.1.setD _, h.2.trans (KeepsOthers.setCell _ _ _)⟩
theorem Cy.pR {w W W0 : World} {n f s k zd zr : Nat} (h : Cy w n f s k zd zr W0 W) : Pq w n f s k (n + 5) zr zd (stp zr) W0 W := ⟨h.1.2.2.1.1, h.1.setR _, h.2.trans (KeepsOthers.setCell _ _ _)⟩
theorem nextY {w W W0 : World} {n f s k zd zr : Nat} (b zb : Nat) (h : Pq w n f s k b zb zd zr W0 W) :
    Calls Tryd.prog 10 #[.pointer (some ⟨b, 0, none⟩)] W fun e W' => e = .returned (.int .u64 (mx (stp zb) : Nat)) ∧ Cy w n f s k zd zr W0 W' := by
  refine (nextP b zb W h.1).mono ?_
  rintro e W' ⟨rfl, rfl⟩
  exact ⟨rfl, h.2⟩
theorem livesY {w W W0 : World} {n f s k zd zr : Nat} (hn : n = w.heap.size) (h : Cy w n f s k zd zr W0 W) :
    Calls Tryd.prog 7 #[] W fun e W' => e = .returned (.bool true) ∧ Cy w n f s k zd zr W0 W' := by
  refine (lives W).mono ?_
  rintro e W' ⟨rfl, u⟩
  exact ⟨rfl, h.1.up hn u, h.2.trans ⟨u.size, fun _ _ e _ => u.heap e⟩⟩
theorem Cy.res {w W W0 : World} {n f s k zd zr : Nat} (h : Cy w n f s k zd zr W0 W) : W.cell? ⟨n + 2, 0, none⟩ = some (.bool false) ∧ W.frozen? ⟨n + 2, 0, none⟩ = false := ⟨h.1.cells.2.2.2.2.2.2.1, h.1.cells.2.2.2.2.2.2.2⟩
end Go.Proofs.YthnpdlbcdaodkaaDoor
