/-
  Drawn regions by hand: laws for loads, stores and another name for the world.
-/
import Derived.Test.YtjabjiahienohaaGreatDoorEl6ToKp6
import Derived.Deep.RegionHeld
namespace Go.Proofs.YtjabjiahienohaaGreatDoor
open Go.RowKit

namespace DE
open Go.Proofs.YtjabjiahienohaaGreatDoor.ST
theorem exec_load_row {P : Program} {o : Oper} {a : Act} (ty : TypeId) (x : Operand) (ho : o.op = .load ty x) (g : Nat) (hx : a.eval x = .pointer (some ⟨g, 0, none⟩)) (t : TypeId) (cs : Array Value) (fr : Nat × Nat) (d : TypeDesc)
    (hu : P.underlying ty = some d) (hd : (match d with | .struct _ | .array _ _ => true | _ => false) = true) (hi : (P.info? ty).map (·.size) = some cs.size) (w : World) (hg : w.heap[g]? = some (.cells cs t fr)) : (execOp a.eval o).run P w = .ok (.value (.agg cs)) w := by
  unfold execOp
  simp only [ho, hx, Instr.loadAt, Instr.sureAddr, Sem.run_bind, Sem.run_pure, Result.andThen_ok, run_loadVar_row w g t ty cs fr d hg hu hd hi]
def World.heap_size (w : World) : Nat := w.heap.size
theorem heap_size_eq (w : World) : w.heap.size = World.heap_size w := rfl
theorem wpAnyH_world {P : Program} {md : Region.Mode} {ops : Array Oper} {Q : Exit → Act → World → Prop} {S : World → Prop} {fuel : Nat} {listed : Array Bool} {a : Act} {w W : World} (h : w = W) (k : wpAnyH P md ops Q S fuel listed a W) : wpAnyH P md ops Q S fuel listed a w := by subst h; exact k
theorem stepH_store {P : Program} {o : Oper} {a : Act} {w : World} {K : Act → World → Prop} {Q : Exit → Act → World → Prop} {c X : Prop} [Decidable c] (hw : c) (ty : TypeId) (x y : Operand) (ho : o.op = .store ty x y)
    (g : Nat) (cells : Array Value) (hx : a.eval x = .pointer (some ⟨g, 0, none⟩)) (hy : a.eval y = .agg cells)
    (t : TypeId) (old : Array Value) (hg : w.heap[g]? = some (.cells old t (0, 0))) (hi : (P.info? ty).map (·.size) = some cells.size)
    (hold : old.size = cells.size) (h1 : cells.all (·.oneCell') = true) (h : K (a.put o.dst undef) (w.setRow g cells)) :
    if c then Oper.wp P o a w K Q else X := by
  rw [if_pos hw]
  exact wp_store_row ty x y ho g cells hx hy t old hg hi hold h1 h
theorem row_setRow {w : World} {base e s n g : Nat} {v : Value} {xs : List Value} {old C : Array Value} {t : TypeId} {fr : Nat × Nat} (h : w.ownsRow base e s v n xs) (hg : w.heap[g]? = some (.cells old t fr)) (ht : e ≠ t) : (w.setRow g C).ownsRow base e s v n xs := by
  refine ⟨h.1, ?_⟩
  rcases h.2 with h0 | ⟨g', cap, cur, e1, e2, e3, e4⟩
  · exact .inl h0
  · refine .inr ⟨g', cap, cur, e1, e2, ?_, e4⟩
    rw [setRow_other]
    · exact e3
    · rintro rfl
      rw [e3] at hg
      simp only [Option.some.injEq, Obj.cells.injEq] at hg
      exact ht hg.2.1
theorem SOA.setRow {w : World} {base g : Nat} {v : Value} {s : Stt} {old C : Array Value} {fr : Nat × Nat} (h : SOA base w v s) (hg : w.heap[g]? = some (.cells old 27 fr)) : SOA base (w.setRow g C) v s := by
  obtain ⟨vp, vc, vz, hv, h1, h2, vs, h3, h4, h5⟩ := h
  exact ⟨vp, vc, vz, hv, row_setRow h1 hg (by decide), row_setRow h2 hg (by decide), vs, row_setRow h3 hg (by decide), fun i hi => row_setRow (h4 i hi) hg (by decide), h5⟩
/- results: a row in a cell, and one or two numbers -/
theorem results_c1 {P : Program} {fn : Func} {p q : Tmp} {ty : TypeId} (h : fn.results = #[.cell p ty, .tmp q]) (tmps : Array Value) (w : World) (g : Nat) (t : TypeId) (cs : Array Value) (fr : Nat × Nat) (d : TypeDesc) (x : Value)
    (hp : tmps.getD p undef = .pointer (some ⟨g, 0, none⟩)) (hq : tmps.getD q undef = x) (hg : w.heap[g]? = some (.cells cs t fr))
    (hu : P.underlying ty = some d) (hd : (match d with | .struct _ | .array _ _ => true | _ => false) = true) (hi : (P.info? ty).map (·.size) = some cs.size) :
    (results fn tmps).run P w = .ok (.tuple #[.agg cs, x]) w := by
  have hp' : tmps[p]?.getD undef = .pointer (some ⟨g, 0, none⟩) := by simpa using hp
  have hq' : tmps[q]?.getD undef = x := by simpa using hq
  simp [results, h, hp', hq', asAddr, run_loadVar_row w g t ty cs fr d hg hu hd hi]
theorem results_c2 {P : Program} {fn : Func} {p q r : Tmp} {ty : TypeId} (h : fn.results = #[.cell p ty, .tmp q, .tmp r]) (tmps : Array Value) (w : World) (g : Nat) (t : TypeId) (cs : Array Value) (fr : Nat × Nat) (d : TypeDesc) (x y : Value)
    (hp : tmps.getD p undef = .pointer (some ⟨g, 0, none⟩)) (hq : tmps.getD q undef = x) (hr : tmps.getD r undef = y) (hg : w.heap[g]? = some (.cells cs t fr))
    (hu : P.underlying ty = some d) (hd : (match d with | .struct _ | .array _ _ => true | _ => false) = true) (hi : (P.info? ty).map (·.size) = some cs.size) :
    (results fn tmps).run P w = .ok (.tuple #[.agg cs, x, y]) w := by
  have hp' : tmps[p]?.getD undef = .pointer (some ⟨g, 0, none⟩) := by simpa using hp
  have hq' : tmps[q]?.getD undef = x := by simpa using hq
  have hr' : tmps[r]?.getD undef = y := by simpa using hr
  simp [results, h, hp', hq', hr', asAddr, run_loadVar_row w g t ty cs fr d hg hu hd hi]
theorem calls_world {P : Program} {f : FuncId} {args : Array Value} {w W : World} {Q : Ending → World → Prop} (h : w = W) (k : Calls P f args W Q) : Calls P f args w Q := by subst h; exact k
/- a state as a row of cells -/
theorem SOA.row {base : Nat} {W : World} {v : Value} {s : Stt} (h : SOA base W v s) : ∃ C : Array Value, v = .agg C ∧ C.size = 7 ∧ C.all (·.oneCell') = true := by
  obtain ⟨vp, vc, vz, hv, h1, h2, vs, h3, -, -⟩ := h
  obtain ⟨a1, k1, rfl⟩ := row_val h1
  obtain ⟨a2, k2, rfl⟩ := row_val h2
  obtain ⟨a3, k3, rfl⟩ := row_val h3
  unfold sv at hv
  exact ⟨_, hv, rfl, by simp [Value.oneCell']⟩
end DE
end Go.Proofs.YtjabjiahienohaaGreatDoor
