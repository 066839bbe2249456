
/-
  Lists of pairs and of ints that came in.
-/
import Derived.Test.YtgonflnmkfgfhaaBase
namespace Go.Proofs.Ytgonflnmkfgfhaa
open Go.RowKit

def LiesI (W : World) (v : Value) (zs : List Int) : Prop := ∃ a cap, v = .slice a zs.length cap ∧ (zs.length ≠ 0 → ∃ b off, a = some ⟨b, off, none⟩ ∧ ∀ i, i < zs.length → W.cell? ⟨b, off + i, none⟩ = some (.int .i64 (zs.getD i 0)))
theorem LiesI.up {w w' : World} {v : Value} {zs : List Int} (h : LiesI w v zs) (u : Up w w') : LiesI w' v zs := by
  obtain ⟨a, cap, rfl, h⟩ := h
  refine ⟨a, cap, rfl, fun hn => ?_⟩
  obtain ⟨b, off, ha, hc⟩ := h hn
  exact ⟨b, off, ha, fun i hi => u.cell (hc i hi)⟩
abbrev PX := Int × ByteArray
def pdx : PX := (0, ⟨#[]⟩)
def PL (W : World) (v : Value) (ps : List PX) : Prop := ∃ a cap, v = .slice a ps.length cap ∧ ps.length ≤ cap ∧ (ps.length ≠ 0 → ∃ b off, a = some ⟨b, off, none⟩ ∧ ∀ i, i < ps.length → W.cell? ⟨b, off + i * 2, none⟩ = some (.int .i8 (ps.getD i pdx).1) ∧ W.cell? ⟨b, off + i * 2 + 1, none⟩ = some (.string (ps.getD i pdx).2))
theorem PL.up {w w' : World} {v : Value} {ps : List PX} (h : PL w v ps) (u : Up w w') : PL w' v ps := by
  obtain ⟨a, cap, rfl, hc, h⟩ := h
  refine ⟨a, cap, rfl, hc, fun hn => ?_⟩
  obtain ⟨b, off, ha, hc⟩ := h hn
  exact ⟨b, off, ha, fun i hi => ⟨u.cell (hc i hi).1, u.cell (hc i hi).2⟩⟩
end Go.Proofs.Ytgonflnmkfgfhaa
