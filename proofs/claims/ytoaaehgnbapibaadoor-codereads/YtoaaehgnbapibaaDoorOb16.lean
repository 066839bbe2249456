
/-
  Bytes that came in, with their bounds; the error that is laid.
-/
import Derived.Test.YtoaaehgnbapibaaDoorXc16
import Derived.WalkKit
import Derived.ProofKit
import Derived.OpenShut
import Derived.ChangeOld
import Derived.SizedLaws
import Derived.Deep.Slices
import Derived.Deep.Strs
import Derived.Stop.LaidErr
namespace Go.Proofs.YtoaaehgnbapibaaDoor
open Go.ChangeShapes Go.WideShapes Go.ChangeAt Go.RowKit

namespace CD
theorem flat_len {E : Type} (f : E → List Value) (s : Nat) (hf : ∀ e, (f e).length = s) (l : List E) : (l.flatMap f).length = l.length * s := by
  induction l with
  | nil => simp
  | cons x l ih => rw [List.flatMap_cons, List.length_append, ih, hf, List.length_cons, Nat.succ_mul]; omega
theorem flat_get {E : Type} (f : E → List Value) (s : Nat) (hf : ∀ e, (f e).length = s) (d : E) (l : List E) : ∀ i j, i < l.length → j < s → (l.flatMap f)[i * s + j]? = (f (l.getD i d))[j]? := by
  induction l with
  | nil => intro i j h; simp at h
  | cons x l ih =>
    intro i j hi hj
    rw [List.flatMap_cons]
    cases i with
    | zero => rw [Nat.zero_mul, Nat.zero_add, List.getElem?_append_left (by rw [hf]; exact hj)]; rfl
    | succ i =>
      rw [List.getElem?_append_right (by rw [hf, Nat.succ_mul]; omega), hf, show (i + 1) * s + j - s = i * s + j by rw [Nat.succ_mul]; omega, ih i j (by simpa using hi) hj]
      rfl
section
variable {H : Type} {enc : TypeId × Value → H} {W : World}
theorem open_flat1 {E : Type} (t e s bytes fuel : Nat) (ht : Tryd.prog.underlying t = some (.slice e)) (ce : Tryd.prog.cellsOf e = s) (hs : 0 < s) (hby : Tryd.prog.bytesOf e = bytes) (hb2 : 1 ≤ bytes) (f : E → List Value) (dx : E) (hf : ∀ x, (f x).length = s)
    (he : ∀ cs n y, DataW.trod enc Tryd.prog W 0 (fun _ => true) true n e cs = some y → ∃ x : E, cs = f x) {v : Value} {d : DataW H} {p : List MemPlace}
    (h : DataW.trod enc Tryd.prog W 0 (fun _ => true) true fuel t [v] = some (d, p)) (hz : ∀ n, n ∈ DataW.weights Tryd.prog t d → n ≤ reachBytes) :
    ∃ xs : List E, LC W v s xs.length (xs.flatMap f) ∧ xs.length ≤ 281474976710656 ∧ ∀ cap, v ≠ .slice none 0 (cap + 1) := by
  rcases Deep.open_slice ht h with ⟨hcs, _⟩ | ⟨a, len, cap, m, n, D, Pl, hcs, _, hl, hm, hmm, hx, hel⟩
  · obtain rfl : v = .slice none 0 0 := by simpa using hcs
    exact ⟨[], ⟨by simp, none, 0, rfl, Nat.le_refl _, fun h => absurd rfl h⟩, Nat.zero_le _, fun cap h => by cases h⟩
  · obtain rfl : v = .slice (some a) len cap := by simpa using hcs
    have hmm : m = cap := by simpa using hmm
    subst hmm
    have hd : d = _ := congrArg Prod.fst hx
    have hb := hz ((len + (m - len)) * bytes) (by rw [hd]; simp [DataW.weights, ht, hby])
    have hr : reachBytes ≤ 281474976710656 := by decide
    have hlen2 : len * 1 ≤ 281474976710656 := by
      have h1 : len * 1 ≤ (len + (m - len)) * bytes := Nat.mul_le_mul (by omega) hb2
      omega
    have each : ∀ i, ∃ x : E, i < len → W.cells? 0 (a.add (i * s)) s = some (f x) := by
      intro i
      by_cases hi : i < len
      · obtain ⟨cs', h1, h2⟩ := hel i (by omega)
        obtain ⟨x, hx'⟩ := he cs' n _ h2
        rw [ce] at h1
        exact ⟨x, fun _ => by rw [h1, hx']⟩
      · exact ⟨dx, fun h => absurd h hi⟩
    obtain ⟨X, hX⟩ := Classical.axiomOfChoice each
    have hlen : ((List.range len).map X).length = len := by simp
    refine ⟨(List.range len).map X, ⟨by rw [flat_len f s hf], some a, m, by rw [hlen], by rw [hlen]; exact hl, fun hn => ?_⟩, by rw [hlen]; omega, fun cap h => by cases h⟩
    rw [hlen] at hn
    have hspot : a.spot = none := by
      obtain ⟨_, hl0, hc0⟩ := World.cells?_some (hX 0 (by omega))
      have := hc0 0 (by omega)
      rw [List.getElem?_eq_getElem (by omega)] at this
      simpa [Addr.add] using World.cell?_spot this
    obtain ⟨b, off, spot⟩ := a
    simp only at hspot
    subst hspot
    refine ⟨b, off, rfl, fun j hj => ?_⟩
    rw [hlen] at hj
    have hi : j / s < len := (Nat.div_lt_iff_lt_mul hs).2 hj
    have hmod : j % s < s := Nat.mod_lt _ hs
    obtain ⟨_, hl0, hc0⟩ := World.cells?_some (hX (j / s) hi)
    have h1 := hc0 (j % s) hmod
    rw [Addr.add_mid, Addr.add_mid] at h1
    have e1 : j / s * s + j % s = j := by rw [Nat.mul_comm]; exact Nat.div_add_mod j s
    rw [Nat.add_assoc, e1] at h1
    rw [h1]
    have h2 := flat_get f s hf dx ((List.range len).map X) (j / s) (j % s) (by rw [hlen]; exact hi) hmod
    rw [e1] at h2
    rw [h2]
    simp [List.getD, hi]
def Bt : Type := { n : Int // 0 ≤ n ∧ n < 256 }
def btv (x : Bt) : List Value := [.int .u8 x.1]
theorem btv_all (xs : List Bt) : bvs (xs.map (·.1)) = xs.flatMap btv := by
  induction xs with
  | nil => rfl
  | cons x xs ih => rw [List.flatMap_cons, ← ih]; rfl
theorem cu8 : Tryd.prog.cellsOf 5 = 1 := by kernel_rfl
set_option maxRecDepth 100000 in
theorem byt_of (cs : List Value) (n : Nat) (y : DataW H × List MemPlace) (h : DataW.trod enc Tryd.prog W 0 (fun _ => true) true n 5 cs = some y) : ∃ x : Bt, cs = btv x := by
  obtain ⟨z, e, -, wf⟩ := DataW.trod_int Tryd.underlying5 h
  have := bounds_u8 wf
  exact ⟨⟨z, by omega, by omega⟩, e⟩
set_option maxRecDepth 100000 in
theorem open_bytes {base : Nat} {v : Value} {d : DataW H} {p : List MemPlace} (hv : Value.okWide Tryd.prog W .any base 25 v) (h : DataW.Trod enc Tryd.prog W 0 (fun _ => true) true 25 v d p) (hz : ∀ n, n ∈ DataW.weights Tryd.prog 25 d → n ≤ reachBytes) :
    ∃ B, BL W v B ∧ Byt B ∧ B.length ≤ 281474976710656 ∧ ∀ cap, v ≠ .slice none 0 (cap + 1) := by
  obtain ⟨a9, n9, c9, rfl⟩ := okWide_slice Tryd.underlying25 hv
  obtain ⟨fuel, hf⟩ := h
  obtain ⟨xs, h1, h2, h3⟩ := open_flat1 (E := Bt) 25 5 1 1 fuel Tryd.underlying25 (by kernel_rfl) (by decide) (by kernel_rfl) (by decide) btv ⟨0, by decide, by decide⟩ (fun _ => rfl) byt_of (v := .slice a9 n9 c9) (d := d) (p := p) hf hz
  refine ⟨xs.map (·.1), ?_, fun c hc => ?_, by simpa using h2, h3⟩
  · unfold BL
    rw [List.length_map, btv_all]
    exact h1
  · obtain ⟨x, -, rfl⟩ := List.mem_map.1 hc
    exact x.2
end
end CD
end Go.Proofs.YtoaaehgnbapibaaDoor
