/-
  A script that came in.
-/
import Derived.Test.YthnpdlbcdaodkaaDoorDo
import Derived.WalkKit
import Derived.ProofKit
import Derived.OpenShut
import Derived.ChangeOld
import Derived.SizedLaws
import Derived.Deep.Slices
import Derived.Deep.Strs
namespace Go.Proofs.YthnpdlbcdaodkaaDoor
open Go.ChangeShapes Go.WideShapes Go.ChangeAt Go.RowKit
section
variable {H : Type} {enc : TypeId × Value → H} {W : World}
theorem od2 : Tryd.prog.cellsOf 2 = 1 := by kernel_rfl
theorem od3 : Tryd.prog.cellsOf 3 = 1 := by kernel_rfl
theorem wf64 {z : Int} (h : (Lit.int .i64 z).wf = true) : -9223372036854775808 ≤ z ∧ z ≤ 9223372036854775807 := by
  have h2 : IntKind.i64.min ≤ z ∧ z ≤ 9223372036854775807 := by simpa [Lit.wf] using h
  have h3 : IntKind.i64.min = -9223372036854775808 := by decide
  omega
set_option maxRecDepth 100000 in
theorem op_of (cs : List Value) (n : Nat) (y : DataW H × List MemPlace) (h : DataW.trod enc Tryd.prog W 0 (fun _ => true) true n 56 cs = some y) : ∃ p : Int × Int × Int, cs = [.int .i64 p.1, .int .i64 p.2.1, .int .i64 p.2.2] ∧ (Lit.int .i64 p.2.2).wf = true := by
  obtain ⟨xs, k, -, -, hl, hlen, hf⟩ := DataW.trod_struct Tryd.underlying56 h
  have hl : cs.length = 3 := by rw [hl]; kernel_rfl
  have hlen : xs.length = 3 := hlen
  match cs, hl with
  | [a, b, c], _ =>
    have f0 : DataW.trod enc Tryd.prog W 0 (fun _ => true) true k 3 (([a, b, c].drop 0).take (Tryd.prog.cellsOf 3)) = xs[0]? := hf 0 _ rfl
    rw [od3, List.getElem?_eq_getElem (by omega)] at f0
    have f1 : DataW.trod enc Tryd.prog W 0 (fun _ => true) true k 3 (([a, b, c].drop 1).take (Tryd.prog.cellsOf 3)) = xs[1]? := hf 1 _ rfl
    rw [od3, List.getElem?_eq_getElem (by omega)] at f1
    have f2 : DataW.trod enc Tryd.prog W 0 (fun _ => true) true k 2 (([a, b, c].drop 2).take (Tryd.prog.cellsOf 2)) = xs[2]? := hf 2 _ rfl
    rw [od2, List.getElem?_eq_getElem (by omega)] at f2
    obtain ⟨z0, e0, -, -⟩ := DataW.trod_int Tryd.underlying3 f0
    obtain ⟨z1, e1, -, -⟩ := DataW.trod_int Tryd.underlying3 f1
    obtain ⟨z2, e2, hw, hw2⟩ := DataW.trod_int Tryd.underlying2 f2
    simp at e0 e1 e2
    exact ⟨(z0, z1, z2), by rw [e0, e1, e2], by first | exact hw | exact hw2⟩
def d3 : Int × Int × Int := (0, 0, 0)
def OpL (W : World) (v : Value) (rs : List (Int × Int × Int)) : Prop := ∃ ad cap, v = .slice ad rs.length cap ∧ ∀ i, i < rs.length → ((Lit.int .i64 (rs.getD i d3).2.2).wf = true) ∧ ∃ b off, ad = some ⟨b, off, none⟩ ∧ b < W.heap.size ∧ W.cell? ⟨b, off + i * 3, none⟩ = some (.int .i64 (rs.getD i d3).1) ∧ W.cell? ⟨b, off + i * 3 + 1, none⟩ = some (.int .i64 (rs.getD i d3).2.1) ∧ W.cell? ⟨b, off + i * 3 + 2, none⟩ = some (.int .i64 (rs.getD i d3).2.2)
set_option maxRecDepth 100000 in
theorem open_ops {base : Nat} {v : Value} {d : DataW H} {p : List MemPlace} (hv : Value.okWide Tryd.prog W .any base 23 v) (h : DataW.Trod enc Tryd.prog W 0 (fun _ => true) true 23 v d p) :
    ∃ rs : List (Int × Int × Int), OpL W v rs := by
  obtain ⟨fuel, h⟩ := h
  obtain ⟨va, vlen, vcap, rfl⟩ := okWide_slice Tryd.underlying23 hv
  have h : DataW.trod enc Tryd.prog W 0 (fun _ => true) true fuel 23 [.slice va vlen vcap] = some (d, p) := h
  rcases Deep.open_slice Tryd.underlying23 h with ⟨hcs, _⟩ | ⟨a, len, cap, m, n, D, Pl, hcs, _, hl, hm, hmm, hx, hel⟩
  · obtain ⟨rfl, rfl, rfl⟩ : va = none ∧ vlen = 0 ∧ vcap = 0 := by simpa using hcs
    exact ⟨[], none, 0, rfl, fun i hi => absurd hi (Nat.not_lt_zero _)⟩
  · obtain ⟨rfl, rfl, rfl⟩ : va = some a ∧ vlen = len ∧ vcap = cap := by simpa using hcs
    have hmm : m = vcap := by simpa using hmm
    subst hmm
    have each : ∀ i, ∃ x : Int × Int × Int, i < vlen → W.cells? 0 (a.add (i * 3)) 3 = some [.int .i64 x.1, .int .i64 x.2.1, .int .i64 x.2.2] ∧ (Lit.int .i64 x.2.2).wf = true := by
      intro i
      by_cases hi : i < vlen
      · obtain ⟨cs', h1, h2⟩ := hel i (by omega)
        obtain ⟨x, hx', hw⟩ := op_of cs' n _ h2
        rw [show Tryd.prog.cellsOf 56 = 3 by kernel_rfl] at h1
        exact ⟨x, fun _ => ⟨by rw [h1, hx'], hw⟩⟩
      · exact ⟨d3, fun h => absurd h hi⟩
    obtain ⟨X, hX⟩ := Classical.axiomOfChoice each
    have hlen : ((List.range vlen).map X).length = vlen := by simp
    refine ⟨(List.range vlen).map X, some a, m, by rw [hlen], fun i hi => ?_⟩
    rw [hlen] at hi
    have hspot : a.spot = none := by
      obtain ⟨_, hl0, hc0⟩ := World.cells?_some (hX 0 (by omega)).1
      have := hc0 0 (by omega)
      simpa [Addr.add] using World.cell?_spot this
    obtain ⟨b, off, spot⟩ := a
    simp only at hspot
    subst hspot
    have cell : ∀ i j, i < vlen → j < 3 → W.cell? ⟨b, off + i * 3 + j, none⟩ = [Value.int .i64 (X i).1, .int .i64 (X i).2.1, .int .i64 (X i).2.2][j]? := by
      intro i j hi hj
      obtain ⟨_, hl0, hc0⟩ := World.cells?_some (hX i hi).1
      have h1 := hc0 j hj
      rw [Addr.add_mid, Addr.add_mid] at h1
      exact h1
    have e : ((List.range vlen).map X).getD i d3 = X i := by simp [List.getD, hi]
    rw [e]
    exact ⟨(hX i hi).2, b, off, rfl, World.block_lt_of_cell? W ⟨b, off + i * 3 + 0, none⟩ (cell i 0 hi (by omega)), cell i 0 hi (by omega), cell i 1 hi (by omega), cell i 2 hi (by omega)⟩
end
end Go.Proofs.YthnpdlbcdaodkaaDoor
