/-
  An event that came in, and a list of them.
-/
import Derived.Test.YtjabjiahienohaaGreatDoorOpenS2Q
import Derived.Test.YtjabjiahienohaaGreatDoorSzToCe6
namespace Go.Proofs.YtjabjiahienohaaGreatDoor
open Go.ChangeShapes Go.WideShapes Go.ChangeAt Go.RowKit
namespace DE
open Go.Proofs.YtjabjiahienohaaGreatDoor.ST
section
variable {H : Type} {enc : TypeId × Value → H} {W : World}
theorem c30 : Tryz.prog.cellsOf 30 = 12 := by kernel_rfl
theorem c28 : Tryz.prog.cellsOf 28 = 1 := by kernel_rfl
set_option maxRecDepth 100000 in
set_option maxHeartbeats 2000000 in
theorem event_of (cs : List Value) (n : Nat) (d : DataW H) (p : List MemPlace) (h : DataW.trod enc Tryz.prog W 0 (fun _ => true) true n 30 cs = some (d, p)) (hz : ∀ n, n ∈ DataW.weights Tryz.prog 30 d → n ≤ reachBytes) :
    ∃ e vo, cs = (evc e vo).toList ∧ IL W vo e.ord ∧ e.ord.length ≤ 140737488355328 := by
  obtain ⟨xs, k, -, hx, hl, hlen, hf⟩ := DataW.trod_struct Tryz.underlying30 h
  have hl : cs.length = 12 := by rw [hl]; kernel_rfl
  have hlen : xs.length = 12 := hlen
  have hd : d = .agg (xs.map (·.1)) := congrArg Prod.fst hx
  match cs, hl with
  | [a0, a1, a2, a3, a4, a5, a6, a7, a8, a9, a10, a11], _ =>
    have f0 : DataW.trod enc Tryz.prog W 0 (fun _ => true) true k 25 (([a0, a1, a2, a3, a4, a5, a6, a7, a8, a9, a10, a11].drop 0).take (Tryz.prog.cellsOf 25)) = xs[0]? := hf 0 _ rfl
    rw [c25, List.getElem?_eq_getElem (by omega)] at f0
    obtain ⟨z0, e0, -, -⟩ := DataW.trod_int Tryz.underlying25 f0
    have f1 : DataW.trod enc Tryz.prog W 0 (fun _ => true) true k 25 (([a0, a1, a2, a3, a4, a5, a6, a7, a8, a9, a10, a11].drop 1).take (Tryz.prog.cellsOf 25)) = xs[1]? := hf 1 _ rfl
    rw [c25, List.getElem?_eq_getElem (by omega)] at f1
    obtain ⟨z1, e1, -, -⟩ := DataW.trod_int Tryz.underlying25 f1
    have f2 : DataW.trod enc Tryz.prog W 0 (fun _ => true) true k 3 (([a0, a1, a2, a3, a4, a5, a6, a7, a8, a9, a10, a11].drop 2).take (Tryz.prog.cellsOf 3)) = xs[2]? := hf 2 _ rfl
    rw [c3, List.getElem?_eq_getElem (by omega)] at f2
    obtain ⟨z2, e2, -, -⟩ := DataW.trod_int Tryz.underlying3 f2
    have f3 : DataW.trod enc Tryz.prog W 0 (fun _ => true) true k 3 (([a0, a1, a2, a3, a4, a5, a6, a7, a8, a9, a10, a11].drop 3).take (Tryz.prog.cellsOf 3)) = xs[3]? := hf 3 _ rfl
    rw [c3, List.getElem?_eq_getElem (by omega)] at f3
    obtain ⟨z3, e3, -, -⟩ := DataW.trod_int Tryz.underlying3 f3
    have f4 : DataW.trod enc Tryz.prog W 0 (fun _ => true) true k 3 (([a0, a1, a2, a3, a4, a5, a6, a7, a8, a9, a10, a11].drop 4).take (Tryz.prog.cellsOf 3)) = xs[4]? := hf 4 _ rfl
    rw [c3, List.getElem?_eq_getElem (by omega)] at f4
    obtain ⟨z4, e4, -, -⟩ := DataW.trod_int Tryz.underlying3 f4
    have f5 : DataW.trod enc Tryz.prog W 0 (fun _ => true) true k 3 (([a0, a1, a2, a3, a4, a5, a6, a7, a8, a9, a10, a11].drop 5).take (Tryz.prog.cellsOf 3)) = xs[5]? := hf 5 _ rfl
    rw [c3, List.getElem?_eq_getElem (by omega)] at f5
    obtain ⟨z5, e5, -, -⟩ := DataW.trod_int Tryz.underlying3 f5
    have f6 : DataW.trod enc Tryz.prog W 0 (fun _ => true) true k 3 (([a0, a1, a2, a3, a4, a5, a6, a7, a8, a9, a10, a11].drop 6).take (Tryz.prog.cellsOf 3)) = xs[6]? := hf 6 _ rfl
    rw [c3, List.getElem?_eq_getElem (by omega)] at f6
    obtain ⟨z6, e6, -, -⟩ := DataW.trod_int Tryz.underlying3 f6
    have f7 : DataW.trod enc Tryz.prog W 0 (fun _ => true) true k 3 (([a0, a1, a2, a3, a4, a5, a6, a7, a8, a9, a10, a11].drop 7).take (Tryz.prog.cellsOf 3)) = xs[7]? := hf 7 _ rfl
    rw [c3, List.getElem?_eq_getElem (by omega)] at f7
    obtain ⟨z7, e7, -, -⟩ := DataW.trod_int Tryz.underlying3 f7
    have f8 : DataW.trod enc Tryz.prog W 0 (fun _ => true) true k 3 (([a0, a1, a2, a3, a4, a5, a6, a7, a8, a9, a10, a11].drop 8).take (Tryz.prog.cellsOf 3)) = xs[8]? := hf 8 _ rfl
    rw [c3, List.getElem?_eq_getElem (by omega)] at f8
    obtain ⟨z8, e8, -, -⟩ := DataW.trod_int Tryz.underlying3 f8
    have f9 : DataW.trod enc Tryz.prog W 0 (fun _ => true) true k 21 (([a0, a1, a2, a3, a4, a5, a6, a7, a8, a9, a10, a11].drop 9).take (Tryz.prog.cellsOf 21)) = xs[9]? := hf 9 _ rfl
    rw [c21, List.getElem?_eq_getElem (by omega)] at f9
    obtain ⟨z9, e9, -, -⟩ := DataW.trod_int Tryz.underlying21 f9
    have f10 : DataW.trod enc Tryz.prog W 0 (fun _ => true) true k 21 (([a0, a1, a2, a3, a4, a5, a6, a7, a8, a9, a10, a11].drop 10).take (Tryz.prog.cellsOf 21)) = xs[10]? := hf 10 _ rfl
    rw [c21, List.getElem?_eq_getElem (by omega)] at f10
    obtain ⟨z10, e10, -, -⟩ := DataW.trod_int Tryz.underlying21 f10
    simp at e0 e1 e2 e3 e4 e5 e6 e7 e8 e9 e10
    have f11 : DataW.trod enc Tryz.prog W 0 (fun _ => true) true k 28 (([a0, a1, a2, a3, a4, a5, a6, a7, a8, a9, a10, a11].drop 11).take (Tryz.prog.cellsOf 28)) = xs[11]? := hf 11 _ rfl
    rw [c28, List.getElem?_eq_getElem (by omega)] at f11
    obtain ⟨l, r1, r2⟩ := open_row (v := a11) (d := (xs[11]'(by omega)).1) (p := (xs[11]'(by omega)).2) f11 (fun n hn => hz n (by
      rw [hd]; simp only [DataW.weights, Tryz.underlying30]; exact DataW.weights_mem_each (j := 11) (t := 28) rfl (by simp [List.getElem?_eq_getElem (show 11 < xs.length by omega)]) n hn))
    exact ⟨⟨z0, z1, z2, z3, z4, z5, z6, z7, z8, z9, z10, l⟩, a11, by rw [e0, e1, e2, e3, e4, e5, e6, e7, e8, e9, e10]; rfl, r1, r2⟩
set_option maxRecDepth 100000 in
theorem open_event {base : Nat} {v : Value} {d : DataW H} {p : List MemPlace} (hv : Value.okWide Tryz.prog W .any base 30 v) (h : DataW.Trod enc Tryz.prog W 0 (fun _ => true) true 30 v d p) (hz : ∀ n, n ∈ DataW.weights Tryz.prog 30 d → n ≤ reachBytes) :
    ∃ e vo, v = evv e vo ∧ IL W vo e.ord ∧ e.ord.length ≤ 140737488355328 := by
  obtain ⟨cs, rfl, hsz⟩ := okWide_struct Tryz.underlying30 hv
  obtain ⟨fuel, hf⟩ := h
  obtain ⟨e, vo, h1, h2, h3⟩ := event_of cs.toList fuel d p hf hz
  refine ⟨e, vo, ?_, h2, h3⟩
  unfold evv
  congr 1
  exact Array.toList_inj.1 h1
end
end DE
end Go.Proofs.YtjabjiahienohaaGreatDoor
