/-
  A list of answers that came in.
-/
import Derived.Test.YthnpdlbcdaodkaaDoorAskD
import Derived.WalkKit
import Derived.ProofKit
import Derived.OpenShut
import Derived.ChangeOld
import Derived.SizedLaws
import Derived.Deep.Slices
import Derived.Deep.Strs
namespace Go.Proofs.YthnpdlbcdaodkaaDoor
open Go.ChangeShapes Go.WideShapes Go.ChangeAt Go.RowKit
section
variable {H : Type} {enc : TypeId × Value → H} {W : World}
theorem oc2 : Tryd.prog.cellsOf 2 = 1 := by kernel_rfl
theorem oc4 : Tryd.prog.cellsOf 4 = 1 := by kernel_rfl
set_option maxRecDepth 100000 in
theorem ans_of (cs : List Value) (n : Nat) (y : DataW H × List MemPlace) (h : DataW.trod enc Tryd.prog W 0 (fun _ => true) true n 93 cs = some y) : ∃ p : Int × Bool, cs = [.int .i64 p.1, .bool p.2] := by
  obtain ⟨xs, k, -, -, hl, hlen, hf⟩ := DataW.trod_struct Tryd.underlying93 h
  have hl : cs.length = 2 := by rw [hl]; kernel_rfl
  have hlen : xs.length = 2 := hlen
  match cs, hl with
  | [a, b], _ =>
    have f0 : DataW.trod enc Tryd.prog W 0 (fun _ => true) true k 2 (([a, b].drop 0).take (Tryd.prog.cellsOf 2)) = xs[0]? := hf 0 _ rfl
    rw [oc2, List.getElem?_eq_getElem (by omega)] at f0
    have f1 : DataW.trod enc Tryd.prog W 0 (fun _ => true) true k 4 (([a, b].drop 1).take (Tryd.prog.cellsOf 4)) = xs[1]? := hf 1 _ rfl
    rw [oc4, List.getElem?_eq_getElem (by omega)] at f1
    obtain ⟨z0, e0, -, -⟩ := DataW.trod_int Tryd.underlying2 f0
    obtain ⟨z1, e1, -⟩ := DataW.trod_bool Tryd.underlying4 f1
    simp at e0 e1
    exact ⟨(z0, z1), by rw [e0, e1]⟩
set_option maxRecDepth 100000 in
theorem open_anss {base : Nat} {v : Value} {d : DataW H} {p : List MemPlace} (hv : Value.okWide Tryd.prog W .any base 60 v) (h : DataW.Trod enc Tryd.prog W 0 (fun _ => true) true 60 v d p) :
    ∃ rs : List (Int × Bool), AnsL W.heap.size W.heap.size W v rs := by
  obtain ⟨fuel, h⟩ := h
  obtain ⟨va, vlen, vcap, rfl⟩ := okWide_slice Tryd.underlying60 hv
  have h : DataW.trod enc Tryd.prog W 0 (fun _ => true) true fuel 60 [.slice va vlen vcap] = some (d, p) := h
  rcases Deep.open_slice Tryd.underlying60 h with ⟨hcs, _⟩ | ⟨a, len, cap, m, n, D, Pl, hcs, _, hl, hm, hmm, hx, hel⟩
  · obtain ⟨rfl, rfl, rfl⟩ : va = none ∧ vlen = 0 ∧ vcap = 0 := by simpa using hcs
    exact ⟨[], none, 0, rfl, fun h => absurd rfl h⟩
  · obtain ⟨rfl, rfl, rfl⟩ : va = some a ∧ vlen = len ∧ vcap = cap := by simpa using hcs
    have hmm : m = vcap := by simpa using hmm
    subst hmm
    have each : ∀ i, ∃ x : Int × Bool, i < vlen → W.cells? 0 (a.add (i * 2)) 2 = some [.int .i64 x.1, .bool x.2] := by
      intro i
      by_cases hi : i < vlen
      · obtain ⟨cs', h1, h2⟩ := hel i (by omega)
        obtain ⟨x, hx'⟩ := ans_of cs' n _ h2
        rw [show Tryd.prog.cellsOf 93 = 2 by kernel_rfl] at h1
        exact ⟨x, fun _ => by rw [h1, hx']⟩
      · exact ⟨(0, true), fun h => absurd h hi⟩
    obtain ⟨X, hX⟩ := Classical.axiomOfChoice each
    have hlen : ((List.range vlen).map X).length = vlen := by simp
    refine ⟨(List.range vlen).map X, some a, m, by rw [hlen], fun hn => ?_⟩
    rw [hlen] at hn
    have hspot : a.spot = none := by
      obtain ⟨_, hl0, hc0⟩ := World.cells?_some (hX 0 (by omega))
      have := hc0 0 (by omega)
      simpa [Addr.add] using World.cell?_spot this
    obtain ⟨b, off, spot⟩ := a
    simp only at hspot
    subst hspot
    have cell : ∀ i j, i < vlen → j < 2 → W.cell? ⟨b, off + i * 2 + j, none⟩ = [Value.int .i64 (X i).1, .bool (X i).2][j]? := by
      intro i j hi hj
      obtain ⟨_, hl0, hc0⟩ := World.cells?_some (hX i hi)
      have h1 := hc0 j hj
      rw [Addr.add_mid, Addr.add_mid] at h1
      exact h1
    have hb : b < W.heap.size := World.block_lt_of_cell? W ⟨b, off + 0 * 2 + 0, none⟩ (cell 0 0 (by omega) (by omega))
    refine ⟨b, off, rfl, by omega, hb, fun i hi => ?_⟩
    rw [hlen] at hi
    have e : ((List.range vlen).map X).getD i (0, true) = X i := by simp [List.getD, hi]
    rw [e]
    exact ⟨cell i 0 hi (by omega), cell i 1 hi (by omega)⟩
end
end Go.Proofs.YthnpdlbcdaodkaaDoor
