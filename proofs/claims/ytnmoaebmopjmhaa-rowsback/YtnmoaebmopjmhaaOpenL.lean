/-
  Slices of pairs and of ints that came in, as the walks ask for them.
-/
import Derived.Test.YtnmoaebmopjmhaaPl
import Derived.WalkKit
import Derived.ProofKit
import Derived.OpenShut
import Derived.ChangeOld
import Derived.Deep.SlicePairs
namespace Go.Proofs.Ytnmoaebmopjmhaa
open Go.ChangeShapes Go.WideShapes Go.ChangeAt Go.RowKit

set_option maxRecDepth 100000 in
theorem open_pl {H : Type} {enc : TypeId × Value → H} {W : World} {base : Nat} {v : Value} {d : DataW H} {p : List MemPlace} (hv : Value.okWide Try.prog W .any base 79 v) (h : DataW.Trod enc Try.prog W 0 (fun _ => true) true 79 v d p) :
    ∃ ps, PL W v ps ∧ (∀ x ∈ ps, -128 ≤ x.1 ∧ x.1 ≤ 127) ∧ ps.length ≤ maxLen := by
  obtain ⟨a, len, cap, rfl⟩ := okWide_slice Try.underlying79 hv
  obtain ⟨fuel, hf⟩ := h
  rcases Deep.open_slice_pairs Try.underlying79 Try.underlying82 (by kernel_rfl) rfl rfl (by kernel_rfl) (by kernel_rfl) hf with ⟨hcs, _⟩ | ⟨x, l, c, m, n, V0, V1, D0, D1, P0, P1, hcs, _, hl, hm, hmm, _, hcell⟩
  · simp [Value.cells] at hcs
    obtain ⟨rfl, rfl, rfl⟩ := hcs
    exact ⟨[], ⟨none, 0, rfl, Nat.le_refl _, fun h => absurd rfl h⟩, fun x hx => (List.not_mem_nil hx).elim, Nat.zero_le _⟩
  · simp [Value.cells] at hcs
    obtain ⟨rfl, rfl, rfl⟩ := hcs
    have hmm : m = cap := by simpa using hmm
    subst hmm
    have each : ∀ i, i < m → ∃ z : Int, ∃ s : ByteArray, V0 i = .int .i8 z ∧ V1 i = .string s ∧ -128 ≤ z ∧ z ≤ 127 := by
      intro i hi
      obtain ⟨_, _, h3, h4⟩ := hcell i hi
      obtain ⟨z, e0, _, wz⟩ := DataW.trod_int Try.underlying80 h3
      obtain ⟨s, e1, _, _⟩ := DataW.trod_string Try.underlying9 h4
      simp at e0 e1
      obtain ⟨b1, b2⟩ := bounds_i8 wz
      exact ⟨z, s, e0, e1, b1, b2⟩
    let Z : Nat → Int := fun i => match V0 i with | .int _ z => z | _ => 0
    let S : Nat → ByteArray := fun i => match V1 i with | .string s => s | _ => ⟨#[]⟩
    have hZ : ∀ i, i < m → V0 i = .int .i8 (Z i) ∧ V1 i = .string (S i) ∧ -128 ≤ Z i ∧ Z i ≤ 127 := by
      intro i hi
      obtain ⟨z, s, e0, e1, b1, b2⟩ := each i hi
      have ez : Z i = z := by show (match V0 i with | .int _ z => z | _ => 0) = z; rw [e0]
      have es : S i = s := by show (match V1 i with | .string s => s | _ => ⟨#[]⟩) = s; rw [e1]
      rw [ez, es]
      exact ⟨e0, e1, b1, b2⟩
    have hlen : ((List.range len).map fun i => (Z i, S i)).length = len := by simp
    refine ⟨(List.range len).map fun i => (Z i, S i), ⟨some x, m, by rw [hlen], by rw [hlen]; exact hl, fun hn => ?_⟩, ?_, by rw [hlen]; exact Nat.le_trans hl hm⟩
    · rw [hlen] at hn
      obtain ⟨b, off, spot⟩ := x
      have hspot : spot = none := by
        have := (hcell 0 (by omega)).1
        simpa [Addr.add] using World.cell?_spot this
      subst hspot
      refine ⟨b, off, rfl, fun i hi => ?_⟩
      rw [hlen] at hi
      obtain ⟨h1, h2, _, _⟩ := hcell i (by omega)
      rw [Addr.add_mid] at h1 h2
      obtain ⟨e0, e1, _, _⟩ := hZ i (by omega)
      have eg : ((List.range len).map fun i => (Z i, S i)).getD i pdx = (Z i, S i) := by simp [List.getD, hi]
      rw [eg]
      rw [e0] at h1
      rw [e1] at h2
      exact ⟨h1, by rw [show off + i * 2 + 1 = off + (i * 2 + 1) by omega]; exact h2⟩
    · intro y hy
      simp only [List.mem_map, List.mem_range] at hy
      obtain ⟨i, hi, rfl⟩ := hy
      obtain ⟨_, _, b1, b2⟩ := hZ i (by omega)
      exact ⟨b1, b2⟩
set_option maxRecDepth 100000 in
theorem open_il {H : Type} {enc : TypeId × Value → H} {W : World} {base : Nat} {v : Value} {d : DataW H} {p : List MemPlace} (hv : Value.okWide Try.prog W .any base 22 v) (h : DataW.Trod enc Try.prog W 0 (fun _ => true) true 22 v d p) :
    ∃ zs, LiesI W v zs ∧ (∀ i, i < zs.length → -9223372036854775808 ≤ zs.getD i 0 ∧ zs.getD i 0 ≤ 9223372036854775807) ∧ zs.length ≤ maxLen := by
  obtain ⟨a, len, cap, rfl⟩ := okWide_slice Try.underlying22 hv
  obtain ⟨fuel, hf⟩ := h
  rcases open_ints Try.underlying22 Try.underlying3 (by kernel_rfl) hf with ⟨hcs, _⟩ | ⟨x, l, c, zs, hcs, _, hl, hm, hz, _, hcell, hwz⟩
  · simp [Value.cells] at hcs
    obtain ⟨rfl, rfl, rfl⟩ := hcs
    exact ⟨[], ⟨none, 0, rfl, fun h => absurd rfl h⟩, fun i hi => by simp at hi, Nat.zero_le _⟩
  · simp [Value.cells] at hcs
    obtain ⟨rfl, rfl, rfl⟩ := hcs
    have hz : zs.length = cap := by simpa using hz
    have hlen : (zs.take len).length = len := by rw [List.length_take]; omega
    have hg : ∀ i, i < len → (zs.take len).getD i 0 = zs.getD i 0 := fun i hi => by simp [List.getD, hi]
    refine ⟨zs.take len, ⟨some x, cap, by rw [hlen], fun hn => ?_⟩, fun i hi => ?_, by rw [hlen]; exact Nat.le_trans hl hm⟩
    · rw [hlen] at hn
      obtain ⟨b, off, spot⟩ := x
      have hspot : spot = none := by simpa [Addr.add] using World.cell?_spot (hcell 0 (by omega))
      subst hspot
      refine ⟨b, off, rfl, fun i hi => ?_⟩
      rw [hlen] at hi
      have := hcell i (by omega)
      rw [Addr.add_mid] at this
      rw [this, hg i hi]
    · rw [hlen] at hi
      rw [hg i hi]
      have : zs.getD i 0 ∈ zs := by rw [List.getD_eq_getElem?_getD, List.getElem?_eq_getElem (by omega)]; exact List.getElem_mem _
      exact bounds_i64 (hwz _ this)
end Go.Proofs.Ytnmoaebmopjmhaa
