/-
  States in memory.
-/
import Derived.Test.YtndkpfkgcaebmaaDoorSl
import Derived.Test.YtndkpfkgcaebmaaDoorSt
namespace Go.Proofs.YtndkpfkgcaebmaaDoor
open Go.RowKit

namespace ST
def pv (p : Ply) : List Value := [.int .i32 p.life, .int .i32 p.energy, .bool p.out]
def cv (c : Crd) : List Value := [.int .i64 c.kind, .int .i64 c.owner, .int .i32 c.power, .int .i32 c.health, .int .i32 c.damage, .int .i32 c.marks]
def pvs (l : List Ply) : List Value := l.flatMap pv
def cvs (l : List Crd) : List Value := l.flatMap cv
def ivs (l : List Int) : List Value := l.map (fun z => .int .i64 z)
theorem pvs_len (l : List Ply) : (pvs l).length = l.length * 3 := flat_len pv 3 (fun _ => rfl) l
theorem cvs_len (l : List Crd) : (cvs l).length = l.length * 6 := flat_len cv 6 (fun _ => rfl) l
theorem ivs_len (l : List Int) : (ivs l).length = l.length := by simp [ivs]
theorem ivs_get (l : List Int) (i : Nat) (hi : i < l.length) : (ivs l)[i]? = some (.int .i64 (l.getD i 0)) := by
  simp [ivs, List.getD_eq_getElem?_getD, List.getElem?_eq_getElem hi]
theorem pvs_get (l : List Ply) (i j : Nat) (hi : i < l.length) (hj : j < 3) : (pvs l)[i * 3 + j]? = (pv (l.getD i dp))[j]? := flat_get pv 3 (fun _ => rfl) dp l i j hi hj
theorem cvs_get (l : List Crd) (i j : Nat) (hi : i < l.length) (hj : j < 6) : (cvs l)[i * 6 + j]? = (cv (l.getD i dc))[j]? := flat_get cv 6 (fun _ => rfl) dc l i j hi hj
/- a list of ints, of players, of cards, of lists of ints -/
def IL (W : World) (v : Value) (l : List Int) : Prop := LC W v 1 l.length (ivs l)
def PLs (W : World) (v : Value) (l : List Ply) : Prop := LC W v 3 l.length (pvs l)
def CLs (W : World) (v : Value) (l : List Crd) : Prop := LC W v 6 l.length (cvs l)
def nl : Value := .slice none 0 0
def ZL (W : World) (v : Value) (zs : List (List Int)) : Prop := ∃ vs : List Value, LC W v 1 zs.length vs ∧ ∀ i, i < zs.length → IL W (vs.getD i nl) (zs.getD i [])
def sv (vp vc vz : Value) (s : Stt) : Value := .agg #[vp, vc, vz, .int .i32 s.turn, .int .i64 s.whose, .int .i8 s.fin, .int .i64 s.winner]
def StL (W : World) (v : Value) (s : Stt) : Prop := ∃ vp vc vz, v = sv vp vc vz s ∧ PLs W vp s.ps ∧ CLs W vc s.cs ∧ ZL W vz s.zs
theorem IL.up {W W' : World} {v : Value} {l : List Int} (h : IL W v l) (u : Up W W') : IL W' v l := LC.up h u
theorem PLs.up {W W' : World} {v : Value} {l : List Ply} (h : PLs W v l) (u : Up W W') : PLs W' v l := LC.up h u
theorem CLs.up {W W' : World} {v : Value} {l : List Crd} (h : CLs W v l) (u : Up W W') : CLs W' v l := LC.up h u
theorem ZL.up {W W' : World} {v : Value} {zs : List (List Int)} (h : ZL W v zs) (u : Up W W') : ZL W' v zs := by
  obtain ⟨vs, h1, h2⟩ := h
  exact ⟨vs, h1.up u, fun i hi => (h2 i hi).up u⟩
theorem StL.up {W W' : World} {v : Value} {s : Stt} (h : StL W v s) (u : Up W W') : StL W' v s := by
  obtain ⟨vp, vc, vz, hv, h1, h2, h3⟩ := h
  exact ⟨vp, vc, vz, hv, h1.up u, h2.up u, h3.up u⟩
/- cells, in every world behind -/
theorem lc_at {w : World} {v : Value} {s n : Nat} {cs : List Value} (h : LC w v s n cs) : ∃ a cap, v = .slice a n cap ∧ n ≤ cap ∧ (n ≠ 0 → ∃ b off, a = some ⟨b, off, none⟩ ∧ (0 < s → b < w.heap.size) ∧ ∀ W, Up w W → ∀ j, j < n * s → W.cell? ⟨b, off + j, none⟩ = cs[j]?) := by
  obtain ⟨h0, a, cap, hv, hc, h⟩ := h
  refine ⟨a, cap, hv, hc, fun hn => ?_⟩
  obtain ⟨b, off, ha, hcell⟩ := h hn
  refine ⟨b, off, ha, fun hs => ?_, fun W hu j hj => ?_⟩
  · have hp : 0 < n * s := Nat.mul_pos (by omega) hs
    have := hcell 0 hp
    rw [List.getElem?_eq_getElem (by omega)] at this
    exact World.block_lt_of_cell? w _ this
  · have := hcell j hj
    rw [List.getElem?_eq_getElem (by omega)] at this ⊢
    exact hu.cell this
theorem il_at {w : World} {v : Value} {l : List Int} (h : IL w v l) : ∃ a cap, v = .slice a l.length cap ∧ l.length ≤ cap ∧ (l.length ≠ 0 → ∃ b off, a = some ⟨b, off, none⟩ ∧ ∀ W, Up w W → ∀ i, i < l.length → W.cell? ⟨b, off + i, none⟩ = some (.int .i64 (l.getD i 0))) := by
  obtain ⟨a, cap, hv, hc, h⟩ := lc_at h
  refine ⟨a, cap, hv, hc, fun hn => ?_⟩
  obtain ⟨b, off, ha, -, hcell⟩ := h hn
  exact ⟨b, off, ha, fun W hu i hi => by rw [hcell W hu i (by omega)]; exact ivs_get l i hi⟩
theorem pl_at {w : World} {v : Value} {l : List Ply} (h : PLs w v l) : ∃ a cap, v = .slice a l.length cap ∧ l.length ≤ cap ∧ (l.length ≠ 0 → ∃ b off, a = some ⟨b, off, none⟩ ∧ ∀ W, Up w W → ∀ i, i < l.length → W.cell? ⟨b, off + i * 3, none⟩ = some (.int .i32 (l.getD i dp).life) ∧ W.cell? ⟨b, off + i * 3 + 1, none⟩ = some (.int .i32 (l.getD i dp).energy) ∧ W.cell? ⟨b, off + i * 3 + 2, none⟩ = some (.bool (l.getD i dp).out)) := by
  obtain ⟨a, cap, hv, hc, h⟩ := lc_at h
  refine ⟨a, cap, hv, hc, fun hn => ?_⟩
  obtain ⟨b, off, ha, -, hcell⟩ := h hn
  refine ⟨b, off, ha, fun W hu i hi => ?_⟩
  have k : ∀ j, j < 3 → W.cell? ⟨b, off + (i * 3 + j), none⟩ = (pv (l.getD i dp))[j]? := fun j hj => by
    rw [hcell W hu (i * 3 + j) (by omega)]; exact pvs_get l i j hi hj
  exact ⟨k 0 (by decide), k 1 (by decide), k 2 (by decide)⟩
theorem cl_at {w : World} {v : Value} {l : List Crd} (h : CLs w v l) : ∃ a cap, v = .slice a l.length cap ∧ l.length ≤ cap ∧ (l.length ≠ 0 → ∃ b off, a = some ⟨b, off, none⟩ ∧ ∀ W, Up w W → ∀ i, i < l.length → W.cell? ⟨b, off + i * 6, none⟩ = some (.int .i64 (l.getD i dc).kind) ∧ W.cell? ⟨b, off + i * 6 + 1, none⟩ = some (.int .i64 (l.getD i dc).owner) ∧ W.cell? ⟨b, off + i * 6 + 2, none⟩ = some (.int .i32 (l.getD i dc).power) ∧ W.cell? ⟨b, off + i * 6 + 3, none⟩ = some (.int .i32 (l.getD i dc).health) ∧ W.cell? ⟨b, off + i * 6 + 4, none⟩ = some (.int .i32 (l.getD i dc).damage) ∧ W.cell? ⟨b, off + i * 6 + 5, none⟩ = some (.int .i32 (l.getD i dc).marks)) := by
  obtain ⟨a, cap, hv, hc, h⟩ := lc_at h
  refine ⟨a, cap, hv, hc, fun hn => ?_⟩
  obtain ⟨b, off, ha, -, hcell⟩ := h hn
  refine ⟨b, off, ha, fun W hu i hi => ?_⟩
  have k : ∀ j, j < 6 → W.cell? ⟨b, off + (i * 6 + j), none⟩ = (cv (l.getD i dc))[j]? := fun j hj => by
    rw [hcell W hu (i * 6 + j) (by omega)]; exact cvs_get l i j hi hj
  exact ⟨k 0 (by decide), k 1 (by decide), k 2 (by decide), k 3 (by decide), k 4 (by decide), k 5 (by decide)⟩
/- row r of a list of lists -/
theorem zl_at {w : World} {v : Value} {zs : List (List Int)} (h : ZL w v zs) : ∃ a cap, v = .slice a zs.length cap ∧ zs.length ≤ cap ∧ (zs.length ≠ 0 → ∃ b off, a = some ⟨b, off, none⟩ ∧ ∀ r, r < zs.length → ∃ ra rc, (∀ W, Up w W → W.cell? ⟨b, off + r, none⟩ = some (.slice ra (zs.getD r []).length rc)) ∧ IL w (.slice ra (zs.getD r []).length rc) (zs.getD r [])) := by
  obtain ⟨vs, h, h2⟩ := h
  have hl := h.1
  obtain ⟨a, cap, hv, hc, h⟩ := lc_at h
  refine ⟨a, cap, hv, hc, fun hn => ?_⟩
  obtain ⟨b, off, ha, -, hcell⟩ := h hn
  refine ⟨b, off, ha, fun r hr => ?_⟩
  have hi := h2 r hr
  obtain ⟨ra, rc, e, -, -⟩ := il_at hi
  refine ⟨ra, rc, fun W hu => ?_, by rw [e] at hi; exact hi⟩
  rw [hcell W hu r (by omega), List.getElem?_eq_getElem (by omega), ← e, List.getD_eq_getElem?_getD, List.getElem?_eq_getElem (by omega)]
  rfl
end ST
end Go.Proofs.YtndkpfkgcaebmaaDoor
