/-
  A token that came in; the tables that are laid.
-/
import Derived.Test.YtkldllnnocdhbaaGreatDoorCr8
import Derived.WalkKit
import Derived.ProofKit
import Derived.OpenShut
import Derived.ChangeOld
import Derived.SizedLaws
import Derived.Deep.Slices
import Derived.Deep.Strs
import Derived.Stop.LaidErr
import Derived.Test.YtkldllnnocdhbaaGreatDoorRows
import Derived.Test.YtkldllnnocdhbaaGreatDoorTv8
import Derived.Lib.LaidTab
namespace Go.Proofs.YtkldllnnocdhbaaGreatDoor
open Go.ChangeShapes Go.WideShapes Go.ChangeAt Go.RowKit

namespace TK
theorem flat_len {E : Type} (f : E → List Value) (s : Nat) (hf : ∀ e, (f e).length = s) (l : List E) : (l.flatMap f).length = l.length * s := by
  induction l with
  | nil => simp
  | cons x l ih => rw [List.flatMap_cons, List.length_append, ih, hf, List.length_cons, Nat.succ_mul]; omega
theorem flat_get {E : Type} (f : E → List Value) (s : Nat) (hf : ∀ e, (f e).length = s) (d : E) (l : List E) : ∀ i j, i < l.length → j < s → (l.flatMap f)[i * s + j]? = (f (l.getD i d))[j]? := by
  induction l with
  | nil => intro i j h; simp at h
  | cons x l ih =>
    intro i j hi hj
    rw [List.flatMap_cons]
    cases i with
    | zero => rw [Nat.zero_mul, Nat.zero_add, List.getElem?_append_left (by rw [hf]; exact hj)]; rfl
    | succ i =>
      rw [List.getElem?_append_right (by rw [hf, Nat.succ_mul]; omega), hf, show (i + 1) * s + j - s = i * s + j by rw [Nat.succ_mul]; omega, ih i j (by simpa using hi) hj]
      rfl
section
variable {H : Type} {enc : TypeId × Value → H} {W : World}
theorem open_flat1 {E : Type} (t e s bytes fuel : Nat) (ht : Tryz.prog.underlying t = some (.slice e)) (ce : Tryz.prog.cellsOf e = s) (hs : 0 < s) (hby : Tryz.prog.bytesOf e = bytes) (hb2 : 1 ≤ bytes) (f : E → List Value) (dx : E) (hf : ∀ x, (f x).length = s)
    (he : ∀ cs n y, DataW.trod enc Tryz.prog W 0 (fun _ => true) true n e cs = some y → ∃ x : E, cs = f x) {v : Value} {d : DataW H} {p : List MemPlace}
    (h : DataW.trod enc Tryz.prog W 0 (fun _ => true) true fuel t [v] = some (d, p)) (hz : ∀ n, n ∈ DataW.weights Tryz.prog t d → n ≤ reachBytes) :
    ∃ xs : List E, LC W v s xs.length (xs.flatMap f) ∧ xs.length ≤ 281474976710656 ∧ ∀ cap, v ≠ .slice none 0 (cap + 1) := by
  rcases Deep.open_slice ht h with ⟨hcs, _⟩ | ⟨a, len, cap, m, n, D, Pl, hcs, _, hl, hm, hmm, hx, hel⟩
  · obtain rfl : v = .slice none 0 0 := by simpa using hcs
    exact ⟨[], ⟨by simp, none, 0, rfl, Nat.le_refl _, fun h => absurd rfl h⟩, Nat.zero_le _, fun cap h => by cases h⟩
  · obtain rfl : v = .slice (some a) len cap := by simpa using hcs
    have hmm : m = cap := by simpa using hmm
    subst hmm
    have hd : d = _ := congrArg Prod.fst hx
    have hb := hz ((len + (m - len)) * bytes) (by rw [hd]; simp [DataW.weights, ht, hby])
    have hr : reachBytes ≤ 281474976710656 := by decide
    have hlen2 : len * 1 ≤ 281474976710656 := by
      have h1 : len * 1 ≤ (len + (m - len)) * bytes := Nat.mul_le_mul (by omega) hb2
      omega
    have each : ∀ i, ∃ x : E, i < len → W.cells? 0 (a.add (i * s)) s = some (f x) := by
      intro i
      by_cases hi : i < len
      · obtain ⟨cs', h1, h2⟩ := hel i (by omega)
        obtain ⟨x, hx'⟩ := he cs' n _ h2
        rw [ce] at h1
        exact ⟨x, fun _ => by rw [h1, hx']⟩
      · exact ⟨dx, fun h => absurd h hi⟩
    obtain ⟨X, hX⟩ := Classical.axiomOfChoice each
    have hlen : ((List.range len).map X).length = len := by simp
    refine ⟨(List.range len).map X, ⟨by rw [flat_len f s hf], some a, m, by rw [hlen], by rw [hlen]; exact hl, fun hn => ?_⟩, by rw [hlen]; omega, fun cap h => by cases h⟩
    rw [hlen] at hn
    have hspot : a.spot = none := by
      obtain ⟨_, hl0, hc0⟩ := World.cells?_some (hX 0 (by omega))
      have := hc0 0 (by omega)
      rw [List.getElem?_eq_getElem (by omega)] at this
      simpa [Addr.add] using World.cell?_spot this
    obtain ⟨b, off, spot⟩ := a
    simp only at hspot
    subst hspot
    refine ⟨b, off, rfl, fun j hj => ?_⟩
    rw [hlen] at hj
    have hi : j / s < len := (Nat.div_lt_iff_lt_mul hs).2 hj
    have hmod : j % s < s := Nat.mod_lt _ hs
    obtain ⟨_, hl0, hc0⟩ := World.cells?_some (hX (j / s) hi)
    have h1 := hc0 (j % s) hmod
    rw [Addr.add_mid, Addr.add_mid] at h1
    have e1 : j / s * s + j % s = j := by rw [Nat.mul_comm]; exact Nat.div_add_mod j s
    rw [Nat.add_assoc, e1] at h1
    rw [h1]
    have h2 := flat_get f s hf dx ((List.range len).map X) (j / s) (j % s) (by rw [hlen]; exact hi) hmod
    rw [e1] at h2
    rw [h2]
    simp [List.getD, hi]
def Bt : Type := { n : Int // 0 ≤ n ∧ n < 256 }
def btv (x : Bt) : List Value := [.int .u8 x.1]
theorem btv_all (xs : List Bt) : bvs (xs.map (·.1)) = xs.flatMap btv := by
  induction xs with
  | nil => rfl
  | cons x xs ih => rw [List.flatMap_cons, ← ih]; rfl
theorem cu8 : Tryz.prog.cellsOf 5 = 1 := by kernel_rfl
set_option maxRecDepth 100000 in
theorem byt_of (cs : List Value) (n : Nat) (y : DataW H × List MemPlace) (h : DataW.trod enc Tryz.prog W 0 (fun _ => true) true n 5 cs = some y) : ∃ x : Bt, cs = btv x := by
  obtain ⟨z, e, -, wf⟩ := DataW.trod_int Tryz.underlying5 h
  have := bounds_u8 wf
  exact ⟨⟨z, by omega, by omega⟩, e⟩
set_option maxRecDepth 100000 in
theorem open_bytes {base : Nat} {v : Value} {d : DataW H} {p : List MemPlace} (hv : Value.okWide Tryz.prog W .any base 26 v) (h : DataW.Trod enc Tryz.prog W 0 (fun _ => true) true 26 v d p) (hz : ∀ n, n ∈ DataW.weights Tryz.prog 26 d → n ≤ reachBytes) :
    ∃ B, BL W v B ∧ Byt B ∧ B.length ≤ 281474976710656 ∧ ∀ cap, v ≠ .slice none 0 (cap + 1) := by
  obtain ⟨a9, n9, c9, rfl⟩ := okWide_slice Tryz.underlying26 hv
  obtain ⟨fuel, hf⟩ := h
  obtain ⟨xs, h1, h2, h3⟩ := open_flat1 (E := Bt) 26 5 1 1 fuel Tryz.underlying26 (by kernel_rfl) (by decide) (by kernel_rfl) (by decide) btv ⟨0, by decide, by decide⟩ (fun _ => rfl) byt_of (v := .slice a9 n9 c9) (d := d) (p := p) hf hz
  refine ⟨xs.map (·.1), ?_, fun c hc => ?_, by simpa using h2, h3⟩
  · unfold BL
    rw [List.length_map, btv_all]
    exact h1
  · obtain ⟨x, -, rfl⟩ := List.mem_map.1 hc
    exact x.2
end
theorem starE : "*" ++ "errors.errorString" = "*errors.errorString" := by decide
end TK
end Go.Proofs.YtkldllnnocdhbaaGreatDoor
namespace Go.Proofs.YtkldllnnocdhbaaGreatDoor
open Go.ChangeShapes Go.WideShapes Go.ChangeAt Go.RowKit

namespace TK
section
variable {H : Type} {enc : TypeId × Value → H} {W : World}
theorem cTk : Tryz.prog.cellsOf 45 = 4 := by kernel_rfl
theorem cI8 : Tryz.prog.cellsOf 35 = 1 := by kernel_rfl
theorem cSt : Tryz.prog.cellsOf 9 = 1 := by kernel_rfl
theorem cI6 : Tryz.prog.cellsOf 2 = 1 := by kernel_rfl
theorem cIn : Tryz.prog.cellsOf 3 = 1 := by kernel_rfl
set_option maxRecDepth 100000 in
theorem open_tok {base : Nat} {v : Value} {d : DataW H} {p : List MemPlace} (hv : Value.okWide Tryz.prog W .any base 45 v) (h : DataW.Trod enc Tryz.prog W 0 (fun _ => true) true 45 v d p) :
    ∃ (k : Int) (s : ByteArray) (n q : Int), v = .agg #[.int .i8 k, .string s, .int .i64 n, .int .i64 q] ∧ -9223372036854775808 ≤ n ∧ n ≤ 9223372036854775807 := by
  obtain ⟨cs, rfl, hsz⟩ := okWide_struct Tryz.underlying45 hv
  obtain ⟨fuel, hf⟩ := h
  obtain ⟨xs, k, -, -, hl, hlen, hfd⟩ := DataW.trod_struct Tryz.underlying45 hf
  have hlen : xs.length = 4 := hlen
  obtain ⟨l⟩ := cs
  have hl2 : l.length = 4 := by
    rw [cTk] at hsz
    simpa using hsz
  match l, hl2 with
  | [a, b, c, e], _ =>
    have f0 : DataW.trod enc Tryz.prog W 0 (fun _ => true) true k 35 (([a, b, c, e].drop 0).take (Tryz.prog.cellsOf 35)) = xs[0]? := hfd 0 _ rfl
    rw [cI8, List.getElem?_eq_getElem (by omega)] at f0
    have f1 : DataW.trod enc Tryz.prog W 0 (fun _ => true) true k 9 (([a, b, c, e].drop 1).take (Tryz.prog.cellsOf 9)) = xs[1]? := hfd 1 _ rfl
    rw [cSt, List.getElem?_eq_getElem (by omega)] at f1
    have f2 : DataW.trod enc Tryz.prog W 0 (fun _ => true) true k 2 (([a, b, c, e].drop 2).take (Tryz.prog.cellsOf 2)) = xs[2]? := hfd 2 _ rfl
    rw [cI6, List.getElem?_eq_getElem (by omega)] at f2
    have f3 : DataW.trod enc Tryz.prog W 0 (fun _ => true) true k 3 (([a, b, c, e].drop 3).take (Tryz.prog.cellsOf 3)) = xs[3]? := hfd 3 _ rfl
    rw [cIn, List.getElem?_eq_getElem (by omega)] at f3
    obtain ⟨z0, e0, -, -⟩ := DataW.trod_int Tryz.underlying35 f0
    obtain ⟨z1, e1, -, -⟩ := DataW.trod_string Tryz.underlying9 f1
    obtain ⟨z2, e2, -, w2⟩ := DataW.trod_int Tryz.underlying2 f2
    obtain ⟨z3, e3, -, -⟩ := DataW.trod_int Tryz.underlying3 f3
    simp at e0 e1 e2 e3
    have hb := bounds_i64 w2
    exact ⟨z0, z1, z2, z3, by rw [e0, e1, e2, e3], by omega, by omega⟩
end
theorem tp_of {W : World} {r : List (String × DataW Unit)} (h : laidMet Tryz.prog (("internal/strconv.uint64pow10", Rows.laid_internal_strconv_uint64pow10) :: r) W) : TabP W := by
  unfold TabP
  exact Lib.tabIs_of_head (g := 1) (t := 214) (e := 111) (n := 20) gPow (by kernel_rfl) (by kernel_rfl) (by kernel_rfl) (by kernel_rfl) (by kernel_rfl) (rest := r) h
end TK
end Go.Proofs.YtkldllnnocdhbaaGreatDoor
