/-
  A deed that came in.
-/
import Derived.Test.YtjabjiahienohaaGreatDoorOpenS2Q
import Derived.Test.YtjabjiahienohaaGreatDoorAs6ToAt6
namespace Go.Proofs.YtjabjiahienohaaGreatDoor
open Go.ChangeShapes Go.WideShapes Go.ChangeAt Go.RowKit
namespace DE
open Go.Proofs.YtjabjiahienohaaGreatDoor.ST
section
variable {H : Type} {enc : TypeId × Value → H} {W : World}
theorem c2x : Tryz.prog.cellsOf 2 = 1 := by kernel_rfl
theorem c28x : Tryz.prog.cellsOf 28 = 1 := by kernel_rfl
set_option maxRecDepth 100000 in
set_option maxHeartbeats 2000000 in
theorem do_of (cs : List Value) (n : Nat) (d : DataW H) (p : List MemPlace) (h : DataW.trod enc Tryz.prog W 0 (fun _ => true) true n 73 cs = some (d, p)) (hz : ∀ n, n ∈ DataW.weights Tryz.prog 73 d → n ≤ reachBytes) :
    ∃ e vo, cs = (doc e vo).toList ∧ IL W vo e.ord ∧ e.ord.length ≤ 140737488355328 ∧ (Lit.int .i64 e.by_).wf = true := by
  obtain ⟨xs, k, -, hx, hl, hlen, hf⟩ := DataW.trod_struct Tryz.underlying73 h
  have hl : cs.length = 7 := by rw [hl]; kernel_rfl
  have hlen : xs.length = 7 := hlen
  have hd : d = .agg (xs.map (·.1)) := congrArg Prod.fst hx
  match cs, hl with
  | [a0, a1, a2, a3, a4, a5, a6], _ =>
    have f0 : DataW.trod enc Tryz.prog W 0 (fun _ => true) true k 3 (([a0, a1, a2, a3, a4, a5, a6].drop 0).take (Tryz.prog.cellsOf 3)) = xs[0]? := hf 0 _ rfl
    rw [c3, List.getElem?_eq_getElem (by omega)] at f0
    obtain ⟨z0, e0, -, -⟩ := DataW.trod_int Tryz.underlying3 f0
    have f1 : DataW.trod enc Tryz.prog W 0 (fun _ => true) true k 3 (([a0, a1, a2, a3, a4, a5, a6].drop 1).take (Tryz.prog.cellsOf 3)) = xs[1]? := hf 1 _ rfl
    rw [c3, List.getElem?_eq_getElem (by omega)] at f1
    obtain ⟨z1, e1, -, -⟩ := DataW.trod_int Tryz.underlying3 f1
    have f2 : DataW.trod enc Tryz.prog W 0 (fun _ => true) true k 3 (([a0, a1, a2, a3, a4, a5, a6].drop 2).take (Tryz.prog.cellsOf 3)) = xs[2]? := hf 2 _ rfl
    rw [c3, List.getElem?_eq_getElem (by omega)] at f2
    obtain ⟨z2, e2, -, -⟩ := DataW.trod_int Tryz.underlying3 f2
    have f3 : DataW.trod enc Tryz.prog W 0 (fun _ => true) true k 4 (([a0, a1, a2, a3, a4, a5, a6].drop 3).take (Tryz.prog.cellsOf 4)) = xs[3]? := hf 3 _ rfl
    rw [c4, List.getElem?_eq_getElem (by omega)] at f3
    obtain ⟨z3, e3, -⟩ := DataW.trod_bool Tryz.underlying4 f3
    have f4 : DataW.trod enc Tryz.prog W 0 (fun _ => true) true k 25 (([a0, a1, a2, a3, a4, a5, a6].drop 4).take (Tryz.prog.cellsOf 25)) = xs[4]? := hf 4 _ rfl
    rw [c25, List.getElem?_eq_getElem (by omega)] at f4
    obtain ⟨z4, e4, -, -⟩ := DataW.trod_int Tryz.underlying25 f4
    have f5 : DataW.trod enc Tryz.prog W 0 (fun _ => true) true k 2 (([a0, a1, a2, a3, a4, a5, a6].drop 5).take (Tryz.prog.cellsOf 2)) = xs[5]? := hf 5 _ rfl
    rw [c2x, List.getElem?_eq_getElem (by omega)] at f5
    obtain ⟨z5, e5, -, wf5⟩ := DataW.trod_int Tryz.underlying2 f5
    simp at e0 e1 e2 e3 e4 e5
    have f6 : DataW.trod enc Tryz.prog W 0 (fun _ => true) true k 28 (([a0, a1, a2, a3, a4, a5, a6].drop 6).take (Tryz.prog.cellsOf 28)) = xs[6]? := hf 6 _ rfl
    rw [c28x, List.getElem?_eq_getElem (by omega)] at f6
    obtain ⟨l, r1, r2⟩ := open_row (v := a6) (d := (xs[6]'(by omega)).1) (p := (xs[6]'(by omega)).2) f6 (fun n hn => hz n (by
      rw [hd]; simp only [DataW.weights, Tryz.underlying73]; exact DataW.weights_mem_each (j := 6) (t := 28) rfl (by simp [List.getElem?_eq_getElem (show 6 < xs.length by omega)]) n hn))
    exact ⟨⟨z0, z1, z2, z3, z4, z5, l⟩, a6, by rw [e0, e1, e2, e3, e4, e5]; rfl, r1, r2, wf5⟩
set_option maxRecDepth 100000 in
theorem open_do {base : Nat} {v : Value} {d : DataW H} {p : List MemPlace} (hv : Value.okWide Tryz.prog W .any base 73 v) (h : DataW.Trod enc Tryz.prog W 0 (fun _ => true) true 73 v d p) (hz : ∀ n, n ∈ DataW.weights Tryz.prog 73 d → n ≤ reachBytes) :
    ∃ e vo, v = .agg (doc e vo) ∧ IL W vo e.ord ∧ e.ord.length ≤ 140737488355328 ∧ (Lit.int .i64 e.by_).wf = true := by
  obtain ⟨cs, rfl, hsz⟩ := okWide_struct Tryz.underlying73 hv
  obtain ⟨fuel, hf⟩ := h
  obtain ⟨e, vo, h1, h2, h3, h4⟩ := do_of cs.toList fuel d p hf hz
  refine ⟨e, vo, ?_, h2, h3, h4⟩
  congr 1
  exact Array.toList_inj.1 h1
end
end DE
end Go.Proofs.YtjabjiahienohaaGreatDoor
