/-
  Decks that came in, with two numbers.
-/
import Derived.Test.YtndkpfkgcaebmaaOpenS
import Derived.Test.YtndkpfkgcaebmaaDe
namespace Go.Proofs.Ytndkpfkgcaebmaa
open Go.ChangeShapes Go.WideShapes Go.ChangeAt Go.RowKit

namespace ST
section
variable {H : Type} {enc : TypeId × Value → H} {W : World}
theorem open_decks {fuel : Nat} {v : Value} {d : DataW H} {p : List MemPlace} (h : DataW.trod enc Try.prog W 0 (fun _ => true) true fuel 46 [v] = some (d, p)) (hz : ∀ n, n ∈ DataW.weights Try.prog 46 d → n ≤ reachBytes) : ∃ zs : List (List Crd), DL W v zs ∧ zs.length ≤ 140737488355328 ∧ ∀ r, r < zs.length → (zs.getD r []).length ≤ 140737488355328 := by
  rcases Deep.open_slice1 Try.underlying46 (by kernel_rfl) h with ⟨hcs, _⟩ | ⟨a, len, cap, m, n, V, D, Pl, hcs, _, hl, hm, hmm, hx, hel⟩
  · obtain rfl : v = .slice none 0 0 := by simpa using hcs
    exact ⟨[], ⟨[], ⟨rfl, none, 0, rfl, Nat.le_refl _, fun h => absurd rfl h⟩, fun i hi => by simp at hi⟩, Nat.zero_le _, fun r hr => by simp at hr⟩
  · obtain rfl : v = .slice (some a) len cap := by simpa using hcs
    have hmm : m = cap := by simpa using hmm
    subst hmm
    have hd : d = _ := congrArg Prod.fst hx
    have hb := hz ((len + (m - len)) * 24) (by rw [hd]; simp [DataW.weights, Try.underlying46, show Try.prog.bytesOf 23 = 24 by kernel_rfl])
    have hr : reachBytes ≤ 281474976710656 := by decide
    have each : ∀ i, ∃ l : List Crd, i < len → CLs W (V i) l ∧ l.length ≤ 140737488355328 := by
      intro i
      by_cases hi : i < len
      · obtain ⟨_, h2⟩ := hel i (by omega)
        obtain ⟨l, h3, h4⟩ := open_flat 23 35 6 32 _ Try.underlying23 (by kernel_rfl) (by decide) (by kernel_rfl) (by decide) cv dc (fun _ => rfl) crd_of h2 (fun n hn => by
          refine hz n ?_
          rw [hd]
          simp only [DataW.weights, Try.underlying46]
          exact List.mem_cons_of_mem _ (List.mem_append_left _ (weightsAll_mem hn _ (List.mem_map.2 ⟨i, List.mem_range.2 hi, rfl⟩))))
        exact ⟨l, fun _ => ⟨h3, h4⟩⟩
      · exact ⟨[], fun h => absurd h hi⟩
    obtain ⟨X, hX⟩ := Classical.axiomOfChoice each
    have hlen : ((List.range len).map X).length = len := by simp
    have hg : ∀ i, i < len → ((List.range len).map X).getD i [] = X i := fun i hi => by simp [List.getD, hi]
    refine ⟨(List.range len).map X, ⟨(List.range len).map V, ⟨by simp, some a, m, by rw [hlen], by rw [hlen]; exact hl, fun hn => ?_⟩, fun i hi => ?_⟩, by rw [hlen]; omega, fun r hr' => ?_⟩
    · rw [hlen] at hn
      have hspot : a.spot = none := by
        have := (hel 0 (by omega)).1
        simpa [Addr.add] using World.cell?_spot this
      obtain ⟨b, off, spot⟩ := a
      simp only at hspot
      subst hspot
      refine ⟨b, off, rfl, fun j hj => ?_⟩
      rw [hlen, Nat.mul_one] at hj
      have := (hel j (by omega)).1
      rw [Addr.add_mid] at this
      rw [this]
      simp [hj]
    · rw [hlen] at hi
      rw [hg i hi]
      have e : ((List.range len).map V).getD i nl = V i := by simp [List.getD, hi]
      rw [e]
      exact (hX i hi).1
    · rw [hlen] at hr'
      rw [hg r hr']
      exact (hX r hr').2
theorem c48 : Try.prog.cellsOf 48 = 3 := by kernel_rfl
theorem c46 : Try.prog.cellsOf 46 = 1 := by kernel_rfl
set_option maxRecDepth 100000 in
theorem open_deal {base : Nat} {v : Value} {d : DataW H} {p : List MemPlace} (hv : Value.okWide Try.prog W .any base 48 v) (h : DataW.Trod enc Try.prog W 0 (fun _ => true) true 48 v d p) (hz : ∀ n, n ∈ DataW.weights Try.prog 48 d → n ≤ reachBytes) :
    ∃ (vd : Value) (ds : List (List Crd)) (li en : Int), v = .agg #[vd, .int .i32 li, .int .i32 en] ∧ DL W vd ds ∧ ds.length ≤ 140737488355328 ∧ ∀ r, r < ds.length → (ds.getD r []).length ≤ 140737488355328 := by
  obtain ⟨cs, rfl, hsz⟩ := okWide_struct Try.underlying48 hv
  obtain ⟨fuel, hf⟩ := h
  obtain ⟨xs, k, -, hx, hl, hlen, hfd⟩ := DataW.trod_struct Try.underlying48 hf
  have hlen : xs.length = 3 := hlen
  have hd : d = .agg (xs.map (·.1)) := congrArg Prod.fst hx
  obtain ⟨l⟩ := cs
  have hl3 : l.length = 3 := by
    rw [c48] at hsz
    simpa using hsz
  match l, hl3 with
  | [a, b, c], _ =>
    have f0 : DataW.trod enc Try.prog W 0 (fun _ => true) true k 46 (([a, b, c].drop 0).take (Try.prog.cellsOf 46)) = xs[0]? := hfd 0 _ rfl
    rw [c46, List.getElem?_eq_getElem (by omega)] at f0
    have f1 : DataW.trod enc Try.prog W 0 (fun _ => true) true k 21 (([a, b, c].drop 1).take (Try.prog.cellsOf 21)) = xs[1]? := hfd 1 _ rfl
    rw [c21, List.getElem?_eq_getElem (by omega)] at f1
    have f2 : DataW.trod enc Try.prog W 0 (fun _ => true) true k 21 (([a, b, c].drop 2).take (Try.prog.cellsOf 21)) = xs[2]? := hfd 2 _ rfl
    rw [c21, List.getElem?_eq_getElem (by omega)] at f2
    obtain ⟨z1, e1, -, -⟩ := DataW.trod_int Try.underlying21 f1
    obtain ⟨z2, e2, -, -⟩ := DataW.trod_int Try.underlying21 f2
    simp at e1 e2
    obtain ⟨ds, r1, r2⟩ := open_decks (v := a) (d := (xs[0]'(by omega)).1) (p := (xs[0]'(by omega)).2) f0 (fun n hn => hz n (by
      rw [hd]; simp only [DataW.weights, Try.underlying48]; exact DataW.weights_mem_each (j := 0) (t := 46) rfl (by simp [List.getElem?_eq_getElem (show 0 < xs.length by omega)]) n hn))
    exact ⟨a, ds, z1, z2, by rw [e1, e2], r1, r2⟩
end
end ST
end Go.Proofs.Ytndkpfkgcaebmaa
