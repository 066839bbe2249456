
/-
  Rows at once; what takes a token answers.
-/
import Derived.Test.YtjjikeehifndhaaDoorCm8
import Derived.Laws.Tables
namespace Go.Proofs.YtjjikeehifndhaaDoor
open Go.RowKit
namespace TK
theorem wpList_world {P : Program} {ops : Array Oper} {rest : List Oper} {a : Act} {w : World} {Q : Exit → Act → World → Prop} {W : World} (h : w = W) (k : wpList P ops Q rest a W) : wpList P ops Q rest a w := by subst h; exact k
/- a load behind a guard that says yes -/
theorem calls_world {P : Program} {f : FuncId} {args : Array Value} {a b : World} {R : Ending → World → Prop} (h : a = b) (c : Calls P f args b R) : Calls P f args a R := by rw [h]; exact c
theorem setRow_heap (w : World) (g : Nat) (old : Array Value) (t : TypeId) (fr : Nat × Nat) (C : Array Value) (h : w.heap[g]? = some (.cells old t fr)) : (w.setRow g C).heap[g]? = some (.cells C t fr) := by
  simp only [World.setRow, Array.getElem?_modify]
  rw [if_pos trivial, h]
  rfl
theorem setRow_other (w : World) (g k : Nat) (C : Array Value) (h : k ≠ g) : (w.setRow g C).heap[k]? = w.heap[k]? := by
  simp only [World.setRow, Array.getElem?_modify]
  rw [if_neg (fun e => h e.symm)]
theorem wpList_load_rowG {P : Program} {ops : Array Oper} {rest : List Oper} {o : Oper} {a : Act} {w : World} {Q : Exit → Act → World → Prop} (hw : Region.wanted o (yielded ops a.tmps) = true) (ty : TypeId) (x : Operand) (ho : o.op = .load ty x)
    (g : Nat) (hx : a.eval x = .pointer (some ⟨g, 0, none⟩)) (t : TypeId) (cs : Array Value) (fr : Nat × Nat) (d : TypeDesc) (hg : w.heap[g]? = some (.cells cs t fr))
    (hu : P.underlying ty = some d) (hd : (match d with | .struct _ | .array _ _ => true | _ => false) = true) (hi : (P.info? ty).map (·.size) = some cs.size)
    (h : wpList P ops Q rest (a.put o.dst (.agg cs)) w) : wpList P ops Q (o :: rest) a w := by
  unfold wpList
  rw [if_pos hw]
  exact Or.inl (wp_load_row ty x ho g hx t cs fr d hg hu hd hi h)
theorem up_setRow {w W : World} {g : Nat} (h : Up w W) (hg : w.heap.size ≤ g) (C : Array Value) : Up w (W.setRow g C) := by
  refine ⟨h.os, h.tape, h.output, by have := h.size; simpa [World.setRow] using this, fun k hk => ?_⟩
  rw [← h.block k hk]
  simp only [World.setRow, Array.getElem?_modify]
  rw [if_neg (by omega)]
theorem row_setRow {w : World} {base e s n g : Nat} {v : Value} {xs : List Value} {old C : Array Value} {t : TypeId} {fr : Nat × Nat} (h : w.ownsRow base e s v n xs) (hg : w.heap[g]? = some (.cells old t fr)) (ht : e ≠ t) : (w.setRow g C).ownsRow base e s v n xs := by
  refine ⟨h.1, ?_⟩
  rcases h.2 with h0 | ⟨g', cap, cur, e1, e2, e3, e4⟩
  · exact .inl h0
  · refine .inr ⟨g', cap, cur, e1, e2, ?_, e4⟩
    rw [setRow_other]
    · exact e3
    · rintro rfl
      rw [e3] at hg
      simp only [Option.some.injEq, Obj.cells.injEq] at hg
      exact ht hg.2.1
theorem res_c2 {P : Program} {fn : Func} {p q r : Tmp} {ty : TypeId} (h : fn.results = #[.cell p ty, .tmp q, .tmp r]) (tmps : Array Value) (w : World) (g : Nat) (t : TypeId) (cs : Array Value) (fr : Nat × Nat) (d : TypeDesc) (x y : Value)
    (hp : tmps.getD p undef = .pointer (some ⟨g, 0, none⟩)) (hq : tmps.getD q undef = x) (hr : tmps.getD r undef = y) (hg : w.heap[g]? = some (.cells cs t fr))
    (hu : P.underlying ty = some d) (hd : (match d with | .struct _ | .array _ _ => true | _ => false) = true) (hi : (P.info? ty).map (·.size) = some cs.size) :
    (results fn tmps).run P w = .ok (.tuple #[.agg cs, x, y]) w := by
  have hp' : tmps[p]?.getD undef = .pointer (some ⟨g, 0, none⟩) := by simpa using hp
  have hq' : tmps[q]?.getD undef = x := by simpa using hq
  have hr' : tmps[r]?.getD undef = y := by simpa using hr
  simp [results, h, hp', hq', hr', asAddr, run_loadVar_row w g t ty cs fr d hg hu hd hi]
def tz : Array Value := #[.int .i8 0, .string ⟨#[]⟩, .int .i64 0, .int .i64 0]
def tA (k : Int) (s : List Int) (n : Int) : Array Value := #[.int .i8 k, sv s, .int .i64 n, .int .i64 0]
theorem tz_one : tz.all (·.oneCell') = true := by simp [tz, Value.oneCell']
theorem tA_one (k : Int) (s : List Int) (n : Int) : (tA k s n).all (·.oneCell') = true := by simp [tA, sv, Value.oneCell']
theorem infoTs : (Tryd.prog.info? 63).map (·.size) = some 4 := by kernel_rfl
/- a token without its place, and the place behind it; or the place of the fault -/
def TkA (w : World) (A : Array Value) (q : Nat) (ok : Bool) (e : Ending) (w' : World) : Prop := e = .returned (.tuple #[.agg A, .int .i64 q, .bool ok]) ∧ Up w w'
def TkP (w : World) (s : Stp) (e : Ending) (w' : World) : Prop := match s with
  | .tok t q => TkA w (tA t.kind t.text t.num) q true e w'
  | .bad q => TkA w tz q false e w'
  | .skip _ => False
end TK
end Go.Proofs.YtjjikeehifndhaaDoor
