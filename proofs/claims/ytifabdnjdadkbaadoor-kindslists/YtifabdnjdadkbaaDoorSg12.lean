
/-
  Signs, and the program's three lists of them in memory.
-/
import Derived.Test.YtifabdnjdadkbaaDoorMp12
namespace Go.Proofs.YtifabdnjdadkbaaDoor
open Go.RowKit
namespace KD
structure Sg where
  name : ByteArray
  args : List Int
  tell : Int
  each : Bool
deriving DecidableEq
def gi (b : Bool) : FuncId := if b then 28 else 27
def gas (b : Bool) : Value := .func (.func (gi b)) #[] #[]
def ivs (l : List Int) : List Value := l.map fun z => .int .i8 z
/- the cells of a sign whose arguments lie in block g -/
def sgc (g : Nat) (s : Sg) : List Value := [.string s.name, .slice (some ⟨g, 0, none⟩) s.args.length s.args.length, .int .i8 s.tell, gas s.each]
def rowsOf : Nat → List Sg → List Value
  | _, [] => []
  | b, s :: l => sgc b s ++ rowsOf (b + 1) l
def argO (s : Sg) : Obj := .cells (ivs s.args).toArray 52
def objs (b : Nat) (l : List Sg) : List Obj := l.map argO ++ [.cells (rowsOf b l).toArray 55]
theorem allocs_up : ∀ (os : List Obj) (w : World), Up w (os.foldl World.alloc w)
  | [], w => Up.refl w
  | o :: os, w => ((Up.refl w).alloc o).trans (allocs_up os (w.alloc o))
theorem allocs_heap : ∀ (os : List Obj) (w : World) (i : Nat) (o : Obj), os[i]? = some o → (os.foldl World.alloc w).heap[w.heap.size + i]? = some o
  | [], w, i, o, h => by simp at h
  | o :: os, w, 0, o', h => by
    simp at h
    subst h
    exact (allocs_up os (w.alloc o)).heap (heap_alloc_new w o)
  | o :: os, w, i + 1, o', h => by
    have := allocs_heap os (w.alloc o) i o' (by simpa using h)
    simp only [World.alloc, Array.size_push] at this
    rw [show w.heap.size + (i + 1) = w.heap.size + 1 + i by omega]
    exact this
/- the list l of signs: the arguments in the blocks from b on, the rows behind them -/
def SL (W : World) (b : Nat) (l : List Sg) : Prop := (∀ i s, l[i]? = some s → W.heap[b + i]? = some (argO s)) ∧ W.heap[b + l.length]? = some (.cells (rowsOf b l).toArray 55 (0, 0))
theorem SL.up {W W' : World} {b : Nat} {l : List Sg} (h : SL W b l) (u : Up W W') : SL W' b l := ⟨fun i s hi => u.heap (h.1 i s hi), u.heap h.2⟩
theorem sl_objs (w : World) (l : List Sg) : SL ((objs w.heap.size l).foldl World.alloc w) w.heap.size l := by
  refine ⟨fun i s hi => allocs_heap _ w i _ ?_, allocs_heap _ w l.length _ (by simp [objs])⟩
  obtain ⟨hl, _⟩ := List.getElem?_eq_some_iff.1 hi
  rw [objs, List.getElem?_append_left (by simpa using hl), List.getElem?_map, hi]
  rfl
end KD
end Go.Proofs.YtifabdnjdadkbaaDoor
