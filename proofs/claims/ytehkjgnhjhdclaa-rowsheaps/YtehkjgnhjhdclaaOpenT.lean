/-
  Slices of turns that came in, as the walk asks for them.
-/
import Derived.Test.YtehkjgnhjhdclaaHLaw
import Derived.WalkKit
import Derived.ProofKit
import Derived.OpenShut
import Derived.ChangeOld
import Derived.SizedLaws
import Derived.Deep.SlicePairs
namespace Go.Proofs.Ytehkjgnhjhdclaa
open Go.ChangeShapes Go.WideShapes Go.ChangeAt Go.RowKit

theorem weightsAll_mem {H : Type} {P : Program} {e : TypeId} {d : DataW H} {n : Nat} (hn : n ∈ d.weights P e) : ∀ (l : List (DataW H)), d ∈ l → n ∈ DataW.weightsAll P e l
  | [], h => (List.not_mem_nil h).elim
  | c :: r, h => by
    simp only [DataW.weightsAll, List.mem_append]
    rcases List.mem_cons.1 h with rfl | h
    · exact .inl hn
    · exact .inr (weightsAll_mem hn r h)
set_option maxRecDepth 100000 in
theorem open_things {H : Type} {enc : TypeId × Value → H} {W : World} {fuel : Nat} {v : Value} {d : DataW H} {p : List MemPlace} (hf : DataW.trod enc Try.prog W 0 (fun _ => true) true fuel 60 [v] = some (d, p)) (hz : ∀ n, n ∈ DataW.weights Try.prog 60 d → n ≤ reachBytes) :
    ∃ xs, TLst W v xs ∧ xs.length ≤ 140737488355328 := by
  rcases Deep.open_slice_pairs Try.underlying60 Try.underlying66 (by kernel_rfl) rfl rfl (by kernel_rfl) (by kernel_rfl) hf with ⟨hcs, _⟩ | ⟨x, len, cap, m, n, V0, V1, D0, D1, P0, P1, hcs, _, hl, hm, hmm, hx, hcell⟩
  · obtain rfl : v = .slice none 0 0 := by simpa using hcs
    exact ⟨[], ⟨none, 0, rfl, fun h => absurd rfl h⟩, Nat.zero_le _⟩
  · obtain rfl : v = .slice (some x) len cap := by simpa using hcs
    have hmm : m = cap := by simpa using hmm
    subst hmm
    have hd : d = _ := congrArg Prod.fst hx
    have hb := hz ((len + (m - len)) * 16) (by rw [hd]; simp [DataW.weights, Try.underlying60, show Try.prog.bytesOf 66 = 16 by kernel_rfl])
    have hr : reachBytes ≤ 281474976710656 := by decide
    have each : ∀ i, ∃ y : Int × Int, i < m → V0 i = .int .i64 y.1 ∧ V1 i = .int .i64 y.2 := by
      intro i
      by_cases hi : i < m
      · obtain ⟨_, _, h3, h4⟩ := hcell i hi
        obtain ⟨z, e0, _, _⟩ := DataW.trod_int Try.underlying3 h3
        obtain ⟨z', e1, _, _⟩ := DataW.trod_int Try.underlying3 h4
        simp at e0 e1
        exact ⟨(z, z'), fun _ => ⟨e0, e1⟩⟩
      · exact ⟨(0, 0), fun h => absurd h hi⟩
    obtain ⟨F, hF⟩ := Classical.axiomOfChoice each
    have hlen : ((List.range len).map F).length = len := by simp
    refine ⟨(List.range len).map F, ⟨some x, m, by rw [hlen], fun hn => ?_⟩, by rw [hlen]; omega⟩
    rw [hlen] at hn
    obtain ⟨b, off, spot⟩ := x
    have hspot : spot = none := by
      have := (hcell 0 (by omega)).1
      simpa [Addr.add] using World.cell?_spot this
    subst hspot
    refine ⟨b, off, rfl, fun i hi => ?_⟩
    rw [hlen] at hi
    obtain ⟨h1, h2, _, _⟩ := hcell i (by omega)
    rw [Addr.add_mid] at h1 h2
    obtain ⟨e0, e1⟩ := hF i (by omega)
    have eg : ((List.range len).map F).getD i HT.dx = F i := by simp [List.getD, hi]
    rw [eg]
    rw [e0] at h1
    rw [e1] at h2
    exact ⟨h1, by rw [show off + i * 2 + 1 = off + (i * 2 + 1) by omega]; exact h2⟩
set_option maxRecDepth 100000 in
theorem open_turns {H : Type} {enc : TypeId × Value → H} {W : World} {base : Nat} {v : Value} {d : DataW H} {p : List MemPlace} (hv : Value.okWide Try.prog W .any base 59 v) (h : DataW.Trod enc Try.prog W 0 (fun _ => true) true 59 v d p) (hz : ∀ n, n ∈ DataW.weights Try.prog 59 d → n ≤ reachBytes) :
    ∃ ts : List Tn, TL W v ts ∧ ts.length ≤ 140737488355328 ∧ (∀ i, i < ts.length → (ts.getD i dTn).2.1.length ≤ 140737488355328) ∧ ∀ i, i < ts.length → -9223372036854775808 ≤ (ts.getD i dTn).2.2 ∧ (ts.getD i dTn).2.2 ≤ 9223372036854775807 := by
  obtain ⟨a, len, cap, rfl⟩ := okWide_slice Try.underlying59 hv
  obtain ⟨fuel, hf⟩ := h
  rcases Deep.open_slice_pairs Try.underlying59 Try.underlying62 (by kernel_rfl) rfl rfl (by kernel_rfl) (by kernel_rfl) hf with ⟨hcs, _⟩ | ⟨x, l, c, m, n, V0, V1, D0, D1, P0, P1, hcs, _, hl, hm, hmm, hx, hcell⟩
  · simp [Value.cells] at hcs
    obtain ⟨rfl, rfl, rfl⟩ := hcs
    exact ⟨[], ⟨none, 0, rfl, fun h => absurd rfl h⟩, Nat.zero_le _, fun i hi => by simp at hi, fun i hi => by simp at hi⟩
  · simp [Value.cells] at hcs
    obtain ⟨rfl, rfl, rfl⟩ := hcs
    have hmm : m = cap := by simpa using hmm
    subst hmm
    have hd : d = _ := congrArg Prod.fst hx
    have hr : reachBytes ≤ 281474976710656 := by decide
    have hb := hz ((len + (m - len)) * 32) (by rw [hd]; simp [DataW.weights, Try.underlying59, show Try.prog.bytesOf 62 = 32 by kernel_rfl])
    have each : ∀ i, ∃ y : List HT.X × Int, i < len → TLst W (V0 i) y.1 ∧ y.1.length ≤ 140737488355328 ∧ V1 i = .int .i64 y.2 ∧ -9223372036854775808 ≤ y.2 ∧ y.2 ≤ 9223372036854775807 := by
      intro i
      by_cases hi : i < len
      · obtain ⟨_, _, h3, h4⟩ := hcell i (by omega)
        obtain ⟨xs, hxs, hxl⟩ := open_things (v := V0 i) h3 (fun n hn => by
          refine hz n ?_
          rw [hd]
          simp only [DataW.weights, Try.underlying59]
          refine List.mem_cons_of_mem _ (List.mem_append_left _ (weightsAll_mem (d := .agg [D0 i, D1 i]) ?_ _ (List.mem_map.2 ⟨i, List.mem_range.2 hi, rfl⟩)))
          simp only [DataW.weights, Try.underlying62]
          exact DataW.weights_mem_each (j := 0) (t := 60) rfl rfl n hn)
        obtain ⟨z, e1, _, wz⟩ := DataW.trod_int Try.underlying3 h4
        simp at e1
        exact ⟨(xs, z), fun _ => ⟨hxs, hxl, e1, (bounds_i64 wz).1, (bounds_i64 wz).2⟩⟩
      · exact ⟨([], 0), fun h => absurd h hi⟩
    obtain ⟨F, hF⟩ := Classical.axiomOfChoice each
    have hlen : ((List.range len).map fun i => (V0 i, F i)).length = len := by simp
    have eg : ∀ i, i < len → ((List.range len).map fun i => (V0 i, F i)).getD i dTn = (V0 i, F i) := fun i hi => by simp [List.getD, hi]
    refine ⟨(List.range len).map fun i => (V0 i, F i), ⟨some x, m, by rw [hlen], fun hn => ?_⟩, by rw [hlen]; omega, fun i hi => ?_, fun i hi => ?_⟩
    · rw [hlen] at hn
      obtain ⟨b, off, spot⟩ := x
      have hspot : spot = none := by
        have := (hcell 0 (by omega)).1
        simpa [Addr.add] using World.cell?_spot this
      subst hspot
      refine ⟨b, off, rfl, fun i hi => ?_⟩
      rw [hlen] at hi
      obtain ⟨h1, h2, _, _⟩ := hcell i (by omega)
      rw [Addr.add_mid] at h1 h2
      obtain ⟨e0, _, e1, _⟩ := hF i hi
      rw [eg i hi]
      rw [e1] at h2
      exact ⟨h1, by rw [show off + i * 2 + 1 = off + (i * 2 + 1) by omega]; exact h2, e0⟩
    · rw [hlen] at hi
      rw [eg i hi]
      exact (hF i hi).2.1
    · rw [hlen] at hi
      rw [eg i hi]
      exact (hF i hi).2.2.2
end Go.Proofs.Ytehkjgnhjhdclaa
