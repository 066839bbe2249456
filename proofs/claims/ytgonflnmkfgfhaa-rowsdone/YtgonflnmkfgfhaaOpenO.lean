
/-
  A list of calls that came in.
-/
import Derived.Test.YtgonflnmkfgfhaaLc
import Derived.WalkKit
import Derived.ProofKit
import Derived.OpenShut
import Derived.ChangeOld
import Derived.SizedLaws
import Derived.Deep.Slices
import Derived.Deep.Strs
namespace Go.Proofs.Ytgonflnmkfgfhaa
open Go.ChangeShapes Go.WideShapes Go.ChangeAt Go.RowKit
namespace OP
section
variable {H : Type} {enc : TypeId × Value → H} {W : World}
theorem open_flat {E : Type} (t e s bytes fuel : Nat) (ht : Try.prog.underlying t = some (.slice e)) (ce : Try.prog.cellsOf e = s) (hs : 0 < s) (hby : Try.prog.bytesOf e = bytes) (hb2 : 2 ≤ bytes) (f : E → List Value) (dx : E) (hf : ∀ x, (f x).length = s)
    (he : ∀ cs n y, DataW.trod enc Try.prog W 0 (fun _ => true) true n e cs = some y → ∃ x : E, cs = f x) {v : Value} {d : DataW H} {p : List MemPlace}
    (h : DataW.trod enc Try.prog W 0 (fun _ => true) true fuel t [v] = some (d, p)) (hz : ∀ n, n ∈ DataW.weights Try.prog t d → n ≤ reachBytes) :
    ∃ xs : List E, LC W v s xs.length (xs.flatMap f) ∧ xs.length ≤ 140737488355328 := by
  rcases Deep.open_slice ht h with ⟨hcs, _⟩ | ⟨a, len, cap, m, n, D, Pl, hcs, _, hl, hm, hmm, hx, hel⟩
  · obtain rfl : v = .slice none 0 0 := by simpa using hcs
    exact ⟨[], ⟨by simp, none, 0, rfl, Nat.le_refl _, fun h => absurd rfl h⟩, Nat.zero_le _⟩
  · obtain rfl : v = .slice (some a) len cap := by simpa using hcs
    have hmm : m = cap := by simpa using hmm
    subst hmm
    have hd : d = _ := congrArg Prod.fst hx
    have hb := hz ((len + (m - len)) * bytes) (by rw [hd]; simp [DataW.weights, ht, hby])
    have hr : reachBytes ≤ 281474976710656 := by decide
    have hlen2 : len * 2 ≤ 281474976710656 := by
      have h1 : len * 2 ≤ (len + (m - len)) * bytes := Nat.mul_le_mul (by omega) hb2
      omega
    have each : ∀ i, ∃ x : E, i < len → W.cells? 0 (a.add (i * s)) s = some (f x) := by
      intro i
      by_cases hi : i < len
      · obtain ⟨cs', h1, h2⟩ := hel i (by omega)
        obtain ⟨x, hx'⟩ := he cs' n _ h2
        rw [ce] at h1
        exact ⟨x, fun _ => by rw [h1, hx']⟩
      · exact ⟨dx, fun h => absurd h hi⟩
    obtain ⟨X, hX⟩ := Classical.axiomOfChoice each
    have hlen : ((List.range len).map X).length = len := by simp
    refine ⟨(List.range len).map X, ⟨by rw [flat_len f s hf], some a, m, by rw [hlen], by rw [hlen]; exact hl, fun hn => ?_⟩, by rw [hlen]; omega⟩
    rw [hlen] at hn
    have hspot : a.spot = none := by
      obtain ⟨_, hl0, hc0⟩ := World.cells?_some (hX 0 (by omega))
      have := hc0 0 (by omega)
      rw [List.getElem?_eq_getElem (by omega)] at this
      simpa [Addr.add] using World.cell?_spot this
    obtain ⟨b, off, spot⟩ := a
    simp only at hspot
    subst hspot
    refine ⟨b, off, rfl, fun j hj => ?_⟩
    rw [hlen] at hj
    have hi : j / s < len := (Nat.div_lt_iff_lt_mul hs).2 hj
    have hmod : j % s < s := Nat.mod_lt _ hs
    obtain ⟨_, hl0, hc0⟩ := World.cells?_some (hX (j / s) hi)
    have h1 := hc0 (j % s) hmod
    rw [Addr.add_mid, Addr.add_mid] at h1
    have e1 : j / s * s + j % s = j := by rw [Nat.mul_comm]; exact Nat.div_add_mod j s
    rw [Nat.add_assoc, e1] at h1
    rw [h1]
    have h2 := flat_get f s hf dx ((List.range len).map X) (j / s) (j % s) (by rw [hlen]; exact hi) hmod
    rw [e1] at h2
    rw [h2]
    simp [List.getD, hi]

abbrev Opp := Int × Int × Int
def ov (o : Opp) : List Value := [.int .i64 o.1, .int .i64 o.2.1, .int .i64 o.2.2]
def dOp : Opp := (0, 0, 0)
theorem c3 : Try.prog.cellsOf 3 = 1 := by kernel_rfl
theorem op_of (cs : List Value) (n : Nat) (y : DataW H × List MemPlace) (h : DataW.trod enc Try.prog W 0 (fun _ => true) true n 32 cs = some y) : ∃ p : Opp, cs = ov p := by
  obtain ⟨y0, y1, y2, k, -, hl, h0, h1, h2⟩ := Deep.trod_struct3 Try.underlying32 h
  have hl : cs.length = 3 := by rw [hl]; kernel_rfl
  match cs, hl with
  | [a, b, c], _ =>
    simp only [c3] at h0 h1 h2
    obtain ⟨z0, e0, -, -⟩ := DataW.trod_int Try.underlying3 h0
    obtain ⟨z1, e1, -, -⟩ := DataW.trod_int Try.underlying3 h1
    obtain ⟨z2, e2, -, -⟩ := DataW.trod_int Try.underlying3 h2
    simp at e0 e1 e2
    exact ⟨(z0, z1, z2), by rw [e0, e1, e2]; rfl⟩
def OL (W : World) (v : Value) (l : List Opp) : Prop := LC W v 3 l.length (l.flatMap ov)
end
theorem open_opsz {H : Type} {enc : TypeId × Value → H} {W : World} {base : Nat} {v : Value} {d : DataW H} {p : List MemPlace} (_hv : Value.okWide Try.prog W .any base 22 v) (h : DataW.Trod enc Try.prog W 0 (fun _ => true) true 22 v d p) (hw : ∀ n, n ∈ DataW.weights Try.prog 22 d → n ≤ reachBytes) :
    ∃ l, OL W v l ∧ l.length ≤ 140737488355328 := by
  obtain ⟨a, len, cap, rfl⟩ := okWide_slice Try.underlying22 _hv
  obtain ⟨fuel, hf⟩ := h
  exact open_flat 22 32 3 24 fuel Try.underlying22 (by kernel_rfl) (by decide) (by kernel_rfl) (by decide) ov dOp (fun _ => rfl) op_of hf hw
theorem ol_at {w W : World} {va : Option Addr} {n vcap : Nat} {l : List Opp} (h : OL w (.slice va n vcap) l) (u : Up w W) (i : Nat) (hi : i < n) : ∃ b off, va = some ⟨b, off, none⟩ ∧ W.cell? ⟨b, off + i * 3, none⟩ = some (.int .i64 (l.getD i dOp).1) ∧ W.cell? ⟨b, off + i * 3 + 1, none⟩ = some (.int .i64 (l.getD i dOp).2.1) ∧ W.cell? ⟨b, off + i * 3 + 2, none⟩ = some (.int .i64 (l.getD i dOp).2.2) := by
  obtain ⟨h0, a, cap, hv, hc, hh⟩ := LC.up h u
  simp only [Value.slice.injEq] at hv
  obtain ⟨rfl, rfl, rfl⟩ := hv
  obtain ⟨b, off, rfl, hcell⟩ := hh (by omega)
  have key : ∀ j, j < 3 → W.cell? ⟨b, off + (i * 3 + j), none⟩ = (ov (l.getD i dOp))[j]? := fun j hj => by
    rw [hcell _ (by omega)]
    exact flat_get ov 3 (fun _ => rfl) dOp l i j hi hj
  exact ⟨b, off, rfl, key 0 (by decide), key 1 (by decide), key 2 (by decide)⟩
end OP
end Go.Proofs.Ytgonflnmkfgfhaa
