
/-
  The program's three lists of signs.
-/
import Derived.Test.YtifabdnjdadkbaaDoorSg12
namespace Go.Proofs.YtifabdnjdadkbaaDoor
open Go.RowKit
namespace KD
def fieldsL : List Sg := [⟨⟨#[112, 111, 119, 101, 114]⟩, [3], 1, false⟩, ⟨⟨#[104, 101, 97, 108, 116, 104]⟩, [3], 1, false⟩, ⟨⟨#[100, 97, 109, 97, 103, 101]⟩, [3], 1, false⟩, ⟨⟨#[109, 97, 114, 107, 115]⟩, [3], 1, false⟩, ⟨⟨#[111, 119, 110, 101, 114]⟩, [3], 4, false⟩, ⟨⟨#[112, 108, 97, 99, 101]⟩, [3], 5, false⟩, ⟨⟨#[108, 105, 102, 101]⟩, [4], 1, false⟩, ⟨⟨#[101, 110, 101, 114, 103, 121]⟩, [4], 1, false⟩, ⟨⟨#[111, 117, 116]⟩, [4], 2, false⟩, ⟨⟨#[115, 105, 122, 101]⟩, [5], 1, false⟩, ⟨⟨#[99, 97, 114, 100, 115]⟩, [5], 6, true⟩, ⟨⟨#[104, 111, 108, 100, 101, 114]⟩, [5], 4, false⟩, ⟨⟨#[99, 111, 117, 110, 116]⟩, [6], 1, false⟩]
set_option maxRecDepth 100000 in
set_option maxHeartbeats 8000000 in
theorem fields_ (w : World) : Calls Tryd.prog 9 #[] w fun e w' => e = .returned (.slice (some ⟨w.heap.size + 13, 0, none⟩) 13 13) ∧ w' = (objs w.heap.size fieldsL).foldl World.alloc w := by
  go_enter Tryd.func9, Tryd.ntmps9
  go_wp2
  go_ret
  refine ⟨rfl, ?_⟩
  rfl
def funcsL : List Sg := [⟨⟨#[110, 101, 120, 116]⟩, [4], 4, false⟩, ⟨⟨#[122, 111, 110, 101]⟩, [4, -1], 5, false⟩, ⟨⟨#[114, 97, 110, 100, 111, 109]⟩, [1], 1, false⟩, ⟨⟨#[116, 111, 112]⟩, [5], 3, false⟩, ⟨⟨#[104, 97, 115]⟩, [6, 3], 2, true⟩, ⟨⟨#[105, 115]⟩, [3, -2], 2, false⟩, ⟨⟨#[97, 98, 115]⟩, [1], 1, false⟩, ⟨⟨#[109, 105, 110]⟩, [1, 1], 1, false⟩, ⟨⟨#[109, 97, 120]⟩, [1, 1], 1, false⟩]
set_option maxRecDepth 100000 in
set_option maxHeartbeats 8000000 in
theorem funcs_ (w : World) : Calls Tryd.prog 21 #[] w fun e w' => e = .returned (.slice (some ⟨w.heap.size + 9, 0, none⟩) 9 9) ∧ w' = (objs w.heap.size funcsL).foldl World.alloc w := by
  go_enter Tryd.func21, Tryd.ntmps21
  go_wp2
  go_ret
  refine ⟨rfl, ?_⟩
  rfl
def effectsL : List Sg := [⟨⟨#[109, 111, 118, 101]⟩, [3, 5], 0, false⟩, ⟨⟨#[112, 117, 116]⟩, [3, 5], 0, false⟩, ⟨⟨#[100, 114, 97, 119]⟩, [4], 0, false⟩, ⟨⟨#[104, 105, 116]⟩, [3, 1], 0, false⟩, ⟨⟨#[104, 97, 114, 109]⟩, [4, 1], 0, false⟩, ⟨⟨#[103, 97, 105, 110]⟩, [4, 1], 0, false⟩, ⟨⟨#[109, 97, 114, 107]⟩, [3, 1], 0, false⟩, ⟨⟨#[103, 114, 111, 119]⟩, [3, 1], 0, false⟩, ⟨⟨#[115, 104, 117, 102, 102, 108, 101]⟩, [5], 0, true⟩]
set_option maxRecDepth 100000 in
set_option maxHeartbeats 8000000 in
theorem effects_ (w : World) : Calls Tryd.prog 22 #[] w fun e w' => e = .returned (.slice (some ⟨w.heap.size + 9, 0, none⟩) 9 9) ∧ w' = (objs w.heap.size effectsL).foldl World.alloc w := by
  go_enter Tryd.func22, Tryd.ntmps22
  go_wp2
  go_ret
  refine ⟨rfl, ?_⟩
  rfl
end KD
end Go.Proofs.YtifabdnjdadkbaaDoor
