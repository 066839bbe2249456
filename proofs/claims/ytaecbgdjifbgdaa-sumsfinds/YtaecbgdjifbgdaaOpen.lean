/-
  A slice of bytes that came in, as the walks ask for it: a list of numbers below 256 that lies in memory.
-/
import Derived.Test.YtaecbgdjifbgdaaWide
namespace Go.Proofs.Ytaecbgdjifbgdaa
open Go.RowKit

/-- A slice of integers that came in: nil, or a row of cells. -/
def IsRow (k : IntKind) (w : World) (a : Option Addr) (len cap : Nat) (zs : List Int) : Prop :=
  (a = none ∧ len = 0 ∧ cap = 0 ∧ zs = []) ∨
  ∃ x, a = some x ∧ len ≤ cap ∧ cap ≤ maxLen ∧ zs.length = cap ∧ (∀ i, i < zs.length → w.cell? (x.add i) = some (.int k (zs.getD i 0))) ∧ ∀ n ∈ zs, (Lit.int k n).wf = true
theorem toNat_u8 {n : Int} (h : (Lit.int .u8 n).wf = true) : ((n.toNat : Nat) : Int) = n ∧ n.toNat < 256 := by
  have := bounds_u8 h
  omega
theorem lies_row {w : World} {a : Option Addr} {len cap : Nat} {zs : List Int} (h : IsRow .u8 w a len cap zs) : ∃ ys : List Nat, Lies w (.slice a len cap) ys ∧ ys.length = len ∧ Bys ys := by
  rcases h with ⟨rfl, rfl, rfl, rfl⟩ | ⟨x, rfl, hl, hm, hz, hcell, hwz⟩
  · exact ⟨[], ⟨none, 0, rfl, fun _ => rfl, fun h => absurd rfl h⟩, rfl, fun i => by simp⟩
  · have hlen : ((zs.take len).map Int.toNat).length = len := by rw [List.length_map, List.length_take]; omega
    refine ⟨(zs.take len).map Int.toNat, ⟨some x, cap, by rw [hlen], (fun e => by cases e), fun hn => ?_⟩, hlen, Bys.of fun c hc => ?_⟩
    · obtain ⟨b, off, spot⟩ := x
      have hspot : spot = none := by simpa [Addr.add] using World.cell?_spot (hcell 0 (by omega))
      subst hspot
      refine ⟨b, off, rfl, fun i hi => ?_⟩
      rw [hlen] at hi
      have := hcell i (by omega)
      rw [Addr.add_mid] at this
      rw [this]
      have hiz : i < zs.length := by omega
      have e : ((zs.take len).map Int.toNat).getD i 0 = (zs[i]).toNat := by
        simp [List.getD, hi, List.getElem?_eq_getElem hiz]
      rw [e, (toNat_u8 (hwz _ (List.getElem_mem hiz))).1]
      simp [List.getD, List.getElem?_eq_getElem hiz]
    · obtain ⟨n, hn, rfl⟩ := List.mem_map.1 hc
      exact (toNat_u8 (hwz n (List.mem_of_mem_take hn))).2
end Go.Proofs.Ytaecbgdjifbgdaa
