/-
  A state and bytes that came in, with their bounds.
-/
import Derived.Test.YtmpamcdobhiipaaGreatDoorOpenS2Q
import Derived.Test.YtmpamcdobhiipaaGreatDoorDd7ToCy
namespace Go.Proofs.YtmpamcdobhiipaaGreatDoor
open Go.ChangeShapes Go.WideShapes Go.ChangeAt Go.RowKit

namespace ST
section
variable {H : Type} {enc : TypeId × Value → H} {W : World}
theorem open_flat1 {E : Type} (t e s bytes fuel : Nat) (ht : Tryz.prog.underlying t = some (.slice e)) (ce : Tryz.prog.cellsOf e = s) (hs : 0 < s) (hby : Tryz.prog.bytesOf e = bytes) (hb2 : 1 ≤ bytes) (f : E → List Value) (dx : E) (hf : ∀ x, (f x).length = s)
    (he : ∀ cs n y, DataW.trod enc Tryz.prog W 0 (fun _ => true) true n e cs = some y → ∃ x : E, cs = f x) {v : Value} {d : DataW H} {p : List MemPlace}
    (h : DataW.trod enc Tryz.prog W 0 (fun _ => true) true fuel t [v] = some (d, p)) (hz : ∀ n, n ∈ DataW.weights Tryz.prog t d → n ≤ reachBytes) :
    ∃ xs : List E, LC W v s xs.length (xs.flatMap f) ∧ xs.length ≤ 281474976710656 ∧ ∀ cap, v ≠ .slice none 0 (cap + 1) := by
  rcases Deep.open_slice ht h with ⟨hcs, _⟩ | ⟨a, len, cap, m, n, D, Pl, hcs, _, hl, hm, hmm, hx, hel⟩
  · obtain rfl : v = .slice none 0 0 := by simpa using hcs
    exact ⟨[], ⟨by simp, none, 0, rfl, Nat.le_refl _, fun h => absurd rfl h⟩, Nat.zero_le _, fun cap h => by cases h⟩
  · obtain rfl : v = .slice (some a) len cap := by simpa using hcs
    have hmm : m = cap := by simpa using hmm
    subst hmm
    have hd : d = _ := congrArg Prod.fst hx
    have hb := hz ((len + (m - len)) * bytes) (by rw [hd]; simp [DataW.weights, ht, hby])
    have hr : reachBytes ≤ 281474976710656 := by decide
    have hlen2 : len * 1 ≤ 281474976710656 := by
      have h1 : len * 1 ≤ (len + (m - len)) * bytes := Nat.mul_le_mul (by omega) hb2
      omega
    have each : ∀ i, ∃ x : E, i < len → W.cells? 0 (a.add (i * s)) s = some (f x) := by
      intro i
      by_cases hi : i < len
      · obtain ⟨cs', h1, h2⟩ := hel i (by omega)
        obtain ⟨x, hx'⟩ := he cs' n _ h2
        rw [ce] at h1
        exact ⟨x, fun _ => by rw [h1, hx']⟩
      · exact ⟨dx, fun h => absurd h hi⟩
    obtain ⟨X, hX⟩ := Classical.axiomOfChoice each
    have hlen : ((List.range len).map X).length = len := by simp
    refine ⟨(List.range len).map X, ⟨by rw [flat_len f s hf], some a, m, by rw [hlen], by rw [hlen]; exact hl, fun hn => ?_⟩, by rw [hlen]; omega, fun cap h => by cases h⟩
    rw [hlen] at hn
    have hspot : a.spot = none := by
      obtain ⟨_, hl0, hc0⟩ := World.cells?_some (hX 0 (by omega))
      have := hc0 0 (by omega)
      rw [List.getElem?_eq_getElem (by omega)] at this
      simpa [Addr.add] using World.cell?_spot this
    obtain ⟨b, off, spot⟩ := a
    simp only at hspot
    subst hspot
    refine ⟨b, off, rfl, fun j hj => ?_⟩
    rw [hlen] at hj
    have hi : j / s < len := (Nat.div_lt_iff_lt_mul hs).2 hj
    have hmod : j % s < s := Nat.mod_lt _ hs
    obtain ⟨_, hl0, hc0⟩ := World.cells?_some (hX (j / s) hi)
    have h1 := hc0 (j % s) hmod
    rw [Addr.add_mid, Addr.add_mid] at h1
    have e1 : j / s * s + j % s = j := by rw [Nat.mul_comm]; exact Nat.div_add_mod j s
    rw [Nat.add_assoc, e1] at h1
    rw [h1]
    have h2 := flat_get f s hf dx ((List.range len).map X) (j / s) (j % s) (by rw [hlen]; exact hi) hmod
    rw [e1] at h2
    rw [h2]
    simp [List.getD, hi]
set_option maxRecDepth 100000 in
theorem open_stateX {base : Nat} {v : Value} {d : DataW H} {p : List MemPlace} (hv : Value.okWide Tryz.prog W .any base 30 v) (h : DataW.Trod enc Tryz.prog W 0 (fun _ => true) true 30 v d p) (hz : ∀ n, n ∈ DataW.weights Tryz.prog 30 d → n ≤ reachBytes) :
    ∃ s, StL W v s ∧ Far s ∧ IM.R4 s.turn := by
  obtain ⟨cs, rfl, hsz⟩ := okWide_struct Tryz.underlying30 hv
  obtain ⟨fuel, hf⟩ := h
  obtain ⟨xs, k, -, hx, hl, hlen, hfd⟩ := DataW.trod_struct Tryz.underlying30 hf
  have hlen : xs.length = 7 := hlen
  have hd : d = .agg (xs.map (·.1)) := congrArg Prod.fst hx
  obtain ⟨l⟩ := cs
  have hl7 : l.length = 7 := by
    rw [c27] at hsz
    simpa using hsz
  match l, hl7 with
  | [a, b, c, d1, e, g, i], _ =>
    have f0 : DataW.trod enc Tryz.prog W 0 (fun _ => true) true k 25 (([a, b, c, d1, e, g, i].drop 0).take (Tryz.prog.cellsOf 25)) = xs[0]? := hfd 0 _ rfl
    rw [c22, List.getElem?_eq_getElem (by omega)] at f0
    have f1 : DataW.trod enc Tryz.prog W 0 (fun _ => true) true k 26 (([a, b, c, d1, e, g, i].drop 1).take (Tryz.prog.cellsOf 26)) = xs[1]? := hfd 1 _ rfl
    rw [c23, List.getElem?_eq_getElem (by omega)] at f1
    have f2 : DataW.trod enc Tryz.prog W 0 (fun _ => true) true k 27 (([a, b, c, d1, e, g, i].drop 2).take (Tryz.prog.cellsOf 27)) = xs[2]? := hfd 2 _ rfl
    rw [c24, List.getElem?_eq_getElem (by omega)] at f2
    have f3 : DataW.trod enc Tryz.prog W 0 (fun _ => true) true k 21 (([a, b, c, d1, e, g, i].drop 3).take (Tryz.prog.cellsOf 21)) = xs[3]? := hfd 3 _ rfl
    rw [c21, List.getElem?_eq_getElem (by omega)] at f3
    have f4 : DataW.trod enc Tryz.prog W 0 (fun _ => true) true k 3 (([a, b, c, d1, e, g, i].drop 4).take (Tryz.prog.cellsOf 3)) = xs[4]? := hfd 4 _ rfl
    rw [c3, List.getElem?_eq_getElem (by omega)] at f4
    have f5 : DataW.trod enc Tryz.prog W 0 (fun _ => true) true k 28 (([a, b, c, d1, e, g, i].drop 5).take (Tryz.prog.cellsOf 28)) = xs[5]? := hfd 5 _ rfl
    rw [c25, List.getElem?_eq_getElem (by omega)] at f5
    have f6 : DataW.trod enc Tryz.prog W 0 (fun _ => true) true k 3 (([a, b, c, d1, e, g, i].drop 6).take (Tryz.prog.cellsOf 3)) = xs[6]? := hfd 6 _ rfl
    rw [c3, List.getElem?_eq_getElem (by omega)] at f6
    obtain ⟨z3, e3, -, wf3⟩ := DataW.trod_int Tryz.underlying21 f3
    obtain ⟨z4, e4, -, -⟩ := DataW.trod_int Tryz.underlying3 f4
    obtain ⟨z5, e5, -, -⟩ := DataW.trod_int Tryz.underlying28 f5
    obtain ⟨z6, e6, -, -⟩ := DataW.trod_int Tryz.underlying3 f6
    simp at e3 e4 e5 e6
    obtain ⟨ps, p1, p2⟩ := open_flat 25 95 3 12 k Tryz.underlying25 (by kernel_rfl) (by decide) (by kernel_rfl) (by decide) pv dp (fun _ => rfl) ply_of (v := a) (d := (xs[0]'(by omega)).1) (p := (xs[0]'(by omega)).2) f0 (fun n hn => hz n (by
      rw [hd]; simp only [DataW.weights, Tryz.underlying30]; exact DataW.weights_mem_each (j := 0) (t := 25) rfl (by simp [List.getElem?_eq_getElem (show 0 < xs.length by omega)]) n hn))
    obtain ⟨cs, q1, q2⟩ := open_flat 26 83 6 32 k Tryz.underlying26 (by kernel_rfl) (by decide) (by kernel_rfl) (by decide) cv dc (fun _ => rfl) crd_of (v := b) (d := (xs[1]'(by omega)).1) (p := (xs[1]'(by omega)).2) f1 (fun n hn => hz n (by
      rw [hd]; simp only [DataW.weights, Tryz.underlying30]; exact DataW.weights_mem_each (j := 1) (t := 26) rfl (by simp [List.getElem?_eq_getElem (show 1 < xs.length by omega)]) n hn))
    obtain ⟨zs, r1, r2⟩ := open_rows (v := c) (d := (xs[2]'(by omega)).1) (p := (xs[2]'(by omega)).2) f2 (fun n hn => hz n (by
      rw [hd]; simp only [DataW.weights, Tryz.underlying30]; exact DataW.weights_mem_each (j := 2) (t := 27) rfl (by simp [List.getElem?_eq_getElem (show 2 < xs.length by omega)]) n hn))
    exact ⟨⟨ps, cs, zs, z3, z4, z5, z6⟩, ⟨a, b, c, by rw [e3, e4, e5, e6]; rfl, p1, q1, r1⟩, ⟨p2, q2, r2⟩, by have := bounds_i32 wf3; exact ⟨this.1, by show z3 < _; omega⟩⟩
end
end ST
namespace IM
open Go.Proofs.YtmpamcdobhiipaaGreatDoor.ST
section
variable {H : Type} {enc : TypeId × Value → H} {W : World}
def Bt : Type := { n : Int // 0 ≤ n ∧ n < 256 }
def btv (x : Bt) : List Value := [.int .u8 x.1]
theorem btv_all (xs : List Bt) : bvs (xs.map (·.1)) = xs.flatMap btv := by
  induction xs with
  | nil => rfl
  | cons x xs ih => rw [List.flatMap_cons, ← ih]; rfl
theorem cu8 : Tryz.prog.cellsOf 5 = 1 := by kernel_rfl
set_option maxRecDepth 100000 in
theorem byt_of (cs : List Value) (n : Nat) (y : DataW H × List MemPlace) (h : DataW.trod enc Tryz.prog W 0 (fun _ => true) true n 5 cs = some y) : ∃ x : Bt, cs = btv x := by
  obtain ⟨z, e, -, wf⟩ := DataW.trod_int Tryz.underlying5 h
  have := bounds_u8 wf
  exact ⟨⟨z, by omega, by omega⟩, e⟩
set_option maxRecDepth 100000 in
theorem open_bytes {base : Nat} {v : Value} {d : DataW H} {p : List MemPlace} (hv : Value.okWide Tryz.prog W .any base 22 v) (h : DataW.Trod enc Tryz.prog W 0 (fun _ => true) true 22 v d p) (hz : ∀ n, n ∈ DataW.weights Tryz.prog 22 d → n ≤ reachBytes) :
    ∃ B, BL W v B ∧ Byt B ∧ B.length ≤ 281474976710656 ∧ ∀ cap, v ≠ .slice none 0 (cap + 1) := by
  obtain ⟨a9, n9, c9, rfl⟩ := okWide_slice Tryz.underlying22 hv
  obtain ⟨fuel, hf⟩ := h
  obtain ⟨xs, h1, h2, h3⟩ := open_flat1 (E := Bt) 22 5 1 1 fuel Tryz.underlying22 (by kernel_rfl) (by decide) (by kernel_rfl) (by decide) btv ⟨0, by decide, by decide⟩ (fun _ => rfl) byt_of (v := .slice a9 n9 c9) (d := d) (p := p) hf hz
  refine ⟨xs.map (·.1), ?_, fun c hc => ?_, by simpa using h2, h3⟩
  · unfold BL
    rw [List.length_map, btv_all]
    exact h1
  · obtain ⟨x, -, rfl⟩ := List.mem_map.1 hc
    exact x.2
end
end IM
end Go.Proofs.YtmpamcdobhiipaaGreatDoor
