
/-
  The document's three lists of signs.
-/
import Derived.Test.YtifabdnjdadkbaaDoorBy12
import Derived.Test.YtifabdnjdadkbaaDoorLs12
namespace Go.Proofs.YtifabdnjdadkbaaDoor
open Go.RowKit
namespace KD
/- a sign of the document's, its arguments in block g -/
def rsc (g : Nat) (s : Sg) : List Value := [.string s.name, .slice (some ⟨g, 0, none⟩) s.args.length s.args.length, .int .i8 s.tell]
def rowsR : Nat → List Sg → List Value
  | _, [] => []
  | b, s :: l => rsc b s ++ rowsR (b + 1) l
def objR (b : Nat) (l : List Sg) : List Obj := l.map argO ++ [.cells (rowsR b l).toArray 57]
def RL (W : World) (b : Nat) (l : List Sg) : Prop := (∀ i s, l[i]? = some s → W.heap[b + i]? = some (argO s)) ∧ W.heap[b + l.length]? = some (.cells (rowsR b l).toArray 57 (0, 0))
theorem RL.up {W W' : World} {b : Nat} {l : List Sg} (h : RL W b l) (u : Up W W') : RL W' b l := ⟨fun i s hi => u.heap (h.1 i s hi), u.heap h.2⟩
theorem rl_objs (w : World) (l : List Sg) : RL ((objR w.heap.size l).foldl World.alloc w) w.heap.size l := by
  refine ⟨fun i s hi => allocs_heap _ w i _ ?_, allocs_heap _ w l.length _ (by simp [objR])⟩
  obtain ⟨hl, _⟩ := List.getElem?_eq_some_iff.1 hi
  rw [objR, List.getElem?_append_left (by simpa using hl), List.getElem?_map, hi]
  rfl
theorem rowsR_get : ∀ (l : List Sg) (b i j : Nat), i < l.length → j < 3 → (rowsR b l)[i * 3 + j]? = (rsc (b + i) (l.getD i ds))[j]?
  | [], b, i, j, h, _ => by simp at h
  | t :: l, b, 0, j, _, hj => by
    show (rsc b t ++ rowsR (b + 1) l)[0 * 3 + j]? = (rsc b t)[j]?
    rw [List.getElem?_append_left (by simp [rsc]; omega)]
    congr 1
    omega
  | t :: l, b, i + 1, j, h, hj => by
    show (rsc b t ++ rowsR (b + 1) l)[(i + 1) * 3 + j]? = (rsc (b + (i + 1)) ((t :: l).getD (i + 1) ds))[j]?
    rw [List.getElem?_append_right (by simp [rsc]; omega)]
    have h9 := rowsR_get l (b + 1) i j (by simpa using h) hj
    rw [show (i + 1) * 3 + j - (rsc b t).length = i * 3 + j by simp [rsc]; omega, h9, show b + 1 + i = b + (i + 1) by omega]
    rfl
theorem RL.row {W : World} {b : Nat} {l : List Sg} (h : RL W b l) {i : Nat} (hi : i < l.length) : W.cell? ⟨b + l.length, i * 3, none⟩ = some (.string (l.getD i ds).name) ∧ W.cell? ⟨b + l.length, i * 3 + 1, none⟩ = some (.slice (some ⟨b + i, 0, none⟩) (l.getD i ds).args.length (l.getD i ds).args.length) ∧ W.cell? ⟨b + l.length, i * 3 + 2, none⟩ = some (.int .i8 (l.getD i ds).tell) := by
  have k : ∀ j, j < 3 → W.cell? ⟨b + l.length, i * 3 + j, none⟩ = (rsc (b + i) (l.getD i ds))[j]? := fun j hj => by
    rw [← rowsR_get l b i j hi hj]
    simp [World.cell?, h.2]
  exact ⟨k 0 (by decide), k 1 (by decide), k 2 (by decide)⟩
theorem RL.args {W : World} {b : Nat} {l : List Sg} (h : RL W b l) {i : Nat} (hi : i < l.length) : W.heap[b + i]? = some (argO (l.getD i ds)) := by
  refine h.1 i _ ?_
  rw [List.getD_eq_getElem?_getD, List.getElem?_eq_getElem hi]
  rfl
set_option maxRecDepth 100000 in
set_option maxHeartbeats 8000000 in
theorem rfields_ (w : World) : Calls Tryd.prog 11 #[] w fun e w' => e = .returned (.slice (some ⟨w.heap.size + 13, 0, none⟩) 13 13) ∧ w' = (objR w.heap.size fieldsL).foldl World.alloc w := by
  go_enter Tryd.func11, Tryd.ntmps11
  go_wp2
  go_ret
  refine ⟨rfl, ?_⟩
  rfl
set_option maxRecDepth 100000 in
set_option maxHeartbeats 8000000 in
theorem rfuncs_ (w : World) : Calls Tryd.prog 23 #[] w fun e w' => e = .returned (.slice (some ⟨w.heap.size + 9, 0, none⟩) 9 9) ∧ w' = (objR w.heap.size funcsL).foldl World.alloc w := by
  go_enter Tryd.func23, Tryd.ntmps23
  go_wp2
  go_ret
  refine ⟨rfl, ?_⟩
  rfl
set_option maxRecDepth 100000 in
set_option maxHeartbeats 8000000 in
theorem reffects_ (w : World) : Calls Tryd.prog 24 #[] w fun e w' => e = .returned (.slice (some ⟨w.heap.size + 9, 0, none⟩) 9 9) ∧ w' = (objR w.heap.size effectsL).foldl World.alloc w := by
  go_enter Tryd.func24, Tryd.ntmps24
  go_wp2
  go_ret
  refine ⟨rfl, ?_⟩
  rfl
end KD
end Go.Proofs.YtifabdnjdadkbaaDoor
