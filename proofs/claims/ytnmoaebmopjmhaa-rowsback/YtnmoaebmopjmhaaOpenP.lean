/-
  A list of pairs that came in, its length bounded by the reach; one pair.
-/
import Derived.Test.YtnmoaebmopjmhaaPc
import Derived.Test.YtnmoaebmopjmhaaOpenZ
import Derived.WalkKit
import Derived.ProofKit
import Derived.OpenShut
import Derived.ChangeOld
import Derived.SizedLaws
import Derived.Deep.Slices
import Derived.Deep.Strs
import Derived.Deep.SlicePairs
import Derived.Test.YtnmoaebmopjmhaaOpenL
namespace Go.Proofs.Ytnmoaebmopjmhaa
open Go.ChangeShapes Go.WideShapes Go.ChangeAt Go.RowKit
namespace PR
section
variable {H : Type} {enc : TypeId × Value → H} {W : World}
theorem cPr : Try.prog.cellsOf 82 = 2 := by kernel_rfl
theorem cI8 : Try.prog.cellsOf 80 = 1 := by kernel_rfl
theorem cSt : Try.prog.cellsOf 9 = 1 := by kernel_rfl
set_option maxRecDepth 100000 in
theorem open_pair {base : Nat} {v : Value} {d : DataW H} {p : List MemPlace} (hv : Value.okWide Try.prog W .any base 82 v) (h : DataW.Trod enc Try.prog W 0 (fun _ => true) true 82 v d p) :
    ∃ x : PX, v = .agg #[.int .i8 x.1, .string x.2] := by
  obtain ⟨cs, rfl, hsz⟩ := okWide_struct Try.underlying82 hv
  obtain ⟨fuel, hf⟩ := h
  obtain ⟨xs, k, -, -, hl, hlen, hfd⟩ := DataW.trod_struct Try.underlying82 hf
  have hlen : xs.length = 2 := hlen
  obtain ⟨l⟩ := cs
  have hl2 : l.length = 2 := by
    rw [cPr] at hsz
    simpa using hsz
  match l, hl2 with
  | [a, b], _ =>
    have f0 : DataW.trod enc Try.prog W 0 (fun _ => true) true k 80 (([a, b].drop 0).take (Try.prog.cellsOf 80)) = xs[0]? := hfd 0 _ rfl
    rw [cI8, List.getElem?_eq_getElem (by omega)] at f0
    have f1 : DataW.trod enc Try.prog W 0 (fun _ => true) true k 9 (([a, b].drop 1).take (Try.prog.cellsOf 9)) = xs[1]? := hfd 1 _ rfl
    rw [cSt, List.getElem?_eq_getElem (by omega)] at f1
    obtain ⟨z0, e0, -, -⟩ := DataW.trod_int Try.underlying80 f0
    obtain ⟨z1, e1, -, -⟩ := DataW.trod_string Try.underlying9 f1
    simp at e0 e1
    exact ⟨(z0, z1), by rw [e0, e1]⟩
set_option maxRecDepth 100000 in
theorem open_plz {base : Nat} {v : Value} {d : DataW H} {p : List MemPlace} (hv : Value.okWide Try.prog W .any base 79 v) (h : DataW.Trod enc Try.prog W 0 (fun _ => true) true 79 v d p) (hz : ∀ n, n ∈ DataW.weights Try.prog 79 d → n ≤ reachBytes) :
    ∃ ps, PL W v ps ∧ ps.length ≤ 140737488355328 := by
  have h' := h
  obtain ⟨ps, hp, -, -⟩ := open_pl hv h'
  refine ⟨ps, hp, ?_⟩
  obtain ⟨a0, c0, rfl, -, -⟩ := hp
  obtain ⟨fuel, hf⟩ := h
  rcases Deep.open_slice Try.underlying79 hf with ⟨hcs, _⟩ | ⟨a, len, cap, m, n, D, Pl, hcs, _, hl, hm, hmm, hx, hel⟩
  · simp only [Value.cells, List.cons.injEq, Value.slice.injEq, and_true] at hcs
    omega
  · simp [Value.cells] at hcs
    obtain ⟨rfl, rfl, rfl⟩ := hcs
    have hmm : m = c0 := by simpa using hmm
    subst hmm
    have hd : d = _ := congrArg Prod.fst hx
    have hb := hz ((ps.length + (m - ps.length)) * 24) (by rw [hd]; simp [DataW.weights, Try.underlying79, show Try.prog.bytesOf 82 = 24 by kernel_rfl])
    have hr : reachBytes ≤ 281474976710656 := by decide
    omega
end
end PR
end Go.Proofs.Ytnmoaebmopjmhaa
