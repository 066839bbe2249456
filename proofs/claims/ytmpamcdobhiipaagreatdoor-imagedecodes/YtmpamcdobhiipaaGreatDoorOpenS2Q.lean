/-
  A state that came in.
-/
import Derived.Test.YtmpamcdobhiipaaGreatDoorSzToEs
import Derived.WalkKit
import Derived.ProofKit
import Derived.OpenShut
import Derived.ChangeOld
import Derived.SizedLaws
import Derived.Deep.Slices
import Derived.Deep.Strs
namespace Go.Proofs.YtmpamcdobhiipaaGreatDoor
open Go.ChangeShapes Go.WideShapes Go.ChangeAt Go.RowKit

theorem weightsAll_mem {H : Type} {P : Program} {e : TypeId} {d : DataW H} {n : Nat} (hn : n ∈ d.weights P e) : ∀ (l : List (DataW H)), d ∈ l → n ∈ DataW.weightsAll P e l
  | [], h => (List.not_mem_nil h).elim
  | c :: r, h => by
    simp only [DataW.weightsAll, List.mem_append]
    rcases List.mem_cons.1 h with rfl | h
    · exact .inl hn
    · exact .inr (weightsAll_mem hn r h)
namespace ST
section
variable {H : Type} {enc : TypeId × Value → H} {W : World}
theorem open_flat {E : Type} (t e s bytes fuel : Nat) (ht : Tryz.prog.underlying t = some (.slice e)) (ce : Tryz.prog.cellsOf e = s) (hs : 0 < s) (hby : Tryz.prog.bytesOf e = bytes) (hb2 : 2 ≤ bytes) (f : E → List Value) (dx : E) (hf : ∀ x, (f x).length = s)
    (he : ∀ cs n y, DataW.trod enc Tryz.prog W 0 (fun _ => true) true n e cs = some y → ∃ x : E, cs = f x) {v : Value} {d : DataW H} {p : List MemPlace}
    (h : DataW.trod enc Tryz.prog W 0 (fun _ => true) true fuel t [v] = some (d, p)) (hz : ∀ n, n ∈ DataW.weights Tryz.prog t d → n ≤ reachBytes) :
    ∃ xs : List E, LC W v s xs.length (xs.flatMap f) ∧ xs.length ≤ 140737488355328 := by
  rcases Deep.open_slice ht h with ⟨hcs, _⟩ | ⟨a, len, cap, m, n, D, Pl, hcs, _, hl, hm, hmm, hx, hel⟩
  · obtain rfl : v = .slice none 0 0 := by simpa using hcs
    exact ⟨[], ⟨by simp, none, 0, rfl, Nat.le_refl _, fun h => absurd rfl h⟩, Nat.zero_le _⟩
  · obtain rfl : v = .slice (some a) len cap := by simpa using hcs
    have hmm : m = cap := by simpa using hmm
    subst hmm
    have hd : d = _ := congrArg Prod.fst hx
    have hb := hz ((len + (m - len)) * bytes) (by rw [hd]; simp [DataW.weights, ht, hby])
    have hr : reachBytes ≤ 281474976710656 := by decide
    have hlen2 : len * 2 ≤ 281474976710656 := by
      have h1 : len * 2 ≤ (len + (m - len)) * bytes := Nat.mul_le_mul (by omega) hb2
      omega
    have each : ∀ i, ∃ x : E, i < len → W.cells? 0 (a.add (i * s)) s = some (f x) := by
      intro i
      by_cases hi : i < len
      · obtain ⟨cs', h1, h2⟩ := hel i (by omega)
        obtain ⟨x, hx'⟩ := he cs' n _ h2
        rw [ce] at h1
        exact ⟨x, fun _ => by rw [h1, hx']⟩
      · exact ⟨dx, fun h => absurd h hi⟩
    obtain ⟨X, hX⟩ := Classical.axiomOfChoice each
    have hlen : ((List.range len).map X).length = len := by simp
    refine ⟨(List.range len).map X, ⟨by rw [flat_len f s hf], some a, m, by rw [hlen], by rw [hlen]; exact hl, fun hn => ?_⟩, by rw [hlen]; omega⟩
    rw [hlen] at hn
    have hspot : a.spot = none := by
      obtain ⟨_, hl0, hc0⟩ := World.cells?_some (hX 0 (by omega))
      have := hc0 0 (by omega)
      rw [List.getElem?_eq_getElem (by omega)] at this
      simpa [Addr.add] using World.cell?_spot this
    obtain ⟨b, off, spot⟩ := a
    simp only at hspot
    subst hspot
    refine ⟨b, off, rfl, fun j hj => ?_⟩
    rw [hlen] at hj
    have hi : j / s < len := (Nat.div_lt_iff_lt_mul hs).2 hj
    have hmod : j % s < s := Nat.mod_lt _ hs
    obtain ⟨_, hl0, hc0⟩ := World.cells?_some (hX (j / s) hi)
    have h1 := hc0 (j % s) hmod
    rw [Addr.add_mid, Addr.add_mid] at h1
    have e1 : j / s * s + j % s = j := by rw [Nat.mul_comm]; exact Nat.div_add_mod j s
    rw [Nat.add_assoc, e1] at h1
    rw [h1]
    have h2 := flat_get f s hf dx ((List.range len).map X) (j / s) (j % s) (by rw [hlen]; exact hi) hmod
    rw [e1] at h2
    rw [h2]
    simp [List.getD, hi]
theorem c21 : Tryz.prog.cellsOf 21 = 1 := by kernel_rfl
theorem c3 : Tryz.prog.cellsOf 3 = 1 := by kernel_rfl
theorem c4 : Tryz.prog.cellsOf 4 = 1 := by kernel_rfl
set_option maxRecDepth 100000 in
theorem ply_of (cs : List Value) (n : Nat) (y : DataW H × List MemPlace) (h : DataW.trod enc Tryz.prog W 0 (fun _ => true) true n 95 cs = some y) : ∃ p : Ply, cs = pv p := by
  obtain ⟨y0, y1, y2, k, -, hl, h0, h1, h2⟩ := Deep.trod_struct3 Tryz.underlying95 h
  have hl : cs.length = 3 := by rw [hl]; kernel_rfl
  match cs, hl with
  | [a, b, c], _ =>
    simp only [c21, c4] at h0 h1 h2
    obtain ⟨z0, e0, -, -⟩ := DataW.trod_int Tryz.underlying21 h0
    obtain ⟨z1, e1, -, -⟩ := DataW.trod_int Tryz.underlying21 h1
    obtain ⟨z2, e2, -⟩ := DataW.trod_bool Tryz.underlying4 h2
    simp at e0 e1 e2
    exact ⟨⟨z0, z1, z2⟩, by rw [e0, e1, e2]; rfl⟩
set_option maxRecDepth 100000 in
theorem crd_of (cs : List Value) (n : Nat) (y : DataW H × List MemPlace) (h : DataW.trod enc Tryz.prog W 0 (fun _ => true) true n 83 cs = some y) : ∃ p : Crd, cs = cv p := by
  obtain ⟨xs, k, -, -, hl, hlen, hf⟩ := DataW.trod_struct Tryz.underlying83 h
  have hl : cs.length = 6 := by rw [hl]; kernel_rfl
  have hlen : xs.length = 6 := hlen
  match cs, hl with
  | [a, b, c, d, e, g], _ =>
    have f0 : DataW.trod enc Tryz.prog W 0 (fun _ => true) true k 3 (([a, b, c, d, e, g].drop 0).take (Tryz.prog.cellsOf 3)) = xs[0]? := hf 0 _ rfl
    rw [c3, List.getElem?_eq_getElem (by omega)] at f0
    have f1 : DataW.trod enc Tryz.prog W 0 (fun _ => true) true k 3 (([a, b, c, d, e, g].drop 1).take (Tryz.prog.cellsOf 3)) = xs[1]? := hf 1 _ rfl
    rw [c3, List.getElem?_eq_getElem (by omega)] at f1
    have f2 : DataW.trod enc Tryz.prog W 0 (fun _ => true) true k 21 (([a, b, c, d, e, g].drop 2).take (Tryz.prog.cellsOf 21)) = xs[2]? := hf 2 _ rfl
    rw [c21, List.getElem?_eq_getElem (by omega)] at f2
    have f3 : DataW.trod enc Tryz.prog W 0 (fun _ => true) true k 21 (([a, b, c, d, e, g].drop 3).take (Tryz.prog.cellsOf 21)) = xs[3]? := hf 3 _ rfl
    rw [c21, List.getElem?_eq_getElem (by omega)] at f3
    have f4 : DataW.trod enc Tryz.prog W 0 (fun _ => true) true k 21 (([a, b, c, d, e, g].drop 4).take (Tryz.prog.cellsOf 21)) = xs[4]? := hf 4 _ rfl
    rw [c21, List.getElem?_eq_getElem (by omega)] at f4
    have f5 : DataW.trod enc Tryz.prog W 0 (fun _ => true) true k 21 (([a, b, c, d, e, g].drop 5).take (Tryz.prog.cellsOf 21)) = xs[5]? := hf 5 _ rfl
    rw [c21, List.getElem?_eq_getElem (by omega)] at f5
    obtain ⟨z0, e0, -, -⟩ := DataW.trod_int Tryz.underlying3 f0
    obtain ⟨z1, e1, -, -⟩ := DataW.trod_int Tryz.underlying3 f1
    obtain ⟨z2, e2, -, -⟩ := DataW.trod_int Tryz.underlying21 f2
    obtain ⟨z3, e3, -, -⟩ := DataW.trod_int Tryz.underlying21 f3
    obtain ⟨z4, e4, -, -⟩ := DataW.trod_int Tryz.underlying21 f4
    obtain ⟨z5, e5, -, -⟩ := DataW.trod_int Tryz.underlying21 f5
    simp at e0 e1 e2 e3 e4 e5
    exact ⟨⟨z0, z1, z2, z3, z4, z5⟩, by rw [e0, e1, e2, e3, e4, e5]; rfl⟩
theorem int_of (cs : List Value) (n : Nat) (y : DataW H × List MemPlace) (h : DataW.trod enc Tryz.prog W 0 (fun _ => true) true n 3 cs = some y) : ∃ z : Int, cs = [.int .i64 z] := by
  obtain ⟨z0, e0, -, -⟩ := DataW.trod_int Tryz.underlying3 h
  exact ⟨z0, e0⟩
theorem fl_ivs : ∀ l : List Int, l.flatMap (fun z : Int => [Value.int .i64 z]) = ivs l
  | [] => rfl
  | a :: l => by rw [List.flatMap_cons, fl_ivs l]; rfl
theorem c27 : Tryz.prog.cellsOf 30 = 7 := by kernel_rfl
theorem c22 : Tryz.prog.cellsOf 25 = 1 := by kernel_rfl
theorem c23 : Tryz.prog.cellsOf 26 = 1 := by kernel_rfl
theorem c24 : Tryz.prog.cellsOf 27 = 1 := by kernel_rfl
theorem c25 : Tryz.prog.cellsOf 28 = 1 := by kernel_rfl
theorem open_row {fuel : Nat} {v : Value} {d : DataW H} {p : List MemPlace} (h : DataW.trod enc Tryz.prog W 0 (fun _ => true) true fuel 84 [v] = some (d, p)) (hz : ∀ n, n ∈ DataW.weights Tryz.prog 84 d → n ≤ reachBytes) : ∃ l : List Int, IL W v l ∧ l.length ≤ 140737488355328 := by
  obtain ⟨l, h1, h2⟩ := open_flat 84 3 1 8 fuel Tryz.underlying84 c3 (by decide) (by kernel_rfl) (by decide) (fun z : Int => [.int .i64 z]) 0 (fun _ => rfl) int_of h hz
  refine ⟨l, ?_, h2⟩
  rw [fl_ivs l] at h1
  exact h1
theorem open_rows {fuel : Nat} {v : Value} {d : DataW H} {p : List MemPlace} (h : DataW.trod enc Tryz.prog W 0 (fun _ => true) true fuel 27 [v] = some (d, p)) (hz : ∀ n, n ∈ DataW.weights Tryz.prog 27 d → n ≤ reachBytes) : ∃ zs : List (List Int), ZL W v zs ∧ Near zs := by
  rcases Deep.open_slice1 Tryz.underlying27 (by kernel_rfl) h with ⟨hcs, _⟩ | ⟨a, len, cap, m, n, V, D, Pl, hcs, _, hl, hm, hmm, hx, hel⟩
  · obtain rfl : v = .slice none 0 0 := by simpa using hcs
    exact ⟨[], ⟨[], ⟨rfl, none, 0, rfl, Nat.le_refl _, fun h => absurd rfl h⟩, fun i hi => by simp at hi⟩, Nat.zero_le _, fun r hr => by simp at hr⟩
  · obtain rfl : v = .slice (some a) len cap := by simpa using hcs
    have hmm : m = cap := by simpa using hmm
    subst hmm
    have hd : d = _ := congrArg Prod.fst hx
    have hb := hz ((len + (m - len)) * 24) (by rw [hd]; simp [DataW.weights, Tryz.underlying27, show Tryz.prog.bytesOf 84 = 24 by kernel_rfl])
    have hr : reachBytes ≤ 281474976710656 := by decide
    have each : ∀ i, ∃ l : List Int, i < len → IL W (V i) l ∧ l.length ≤ 140737488355328 := by
      intro i
      by_cases hi : i < len
      · obtain ⟨_, h2⟩ := hel i (by omega)
        obtain ⟨l, h3, h4⟩ := open_row h2 (fun n hn => by
          refine hz n ?_
          rw [hd]
          simp only [DataW.weights, Tryz.underlying27]
          exact List.mem_cons_of_mem _ (List.mem_append_left _ (weightsAll_mem hn _ (List.mem_map.2 ⟨i, List.mem_range.2 hi, rfl⟩))))
        exact ⟨l, fun _ => ⟨h3, h4⟩⟩
      · exact ⟨[], fun h => absurd h hi⟩
    obtain ⟨X, hX⟩ := Classical.axiomOfChoice each
    have hlen : ((List.range len).map X).length = len := by simp
    have hg : ∀ i, i < len → ((List.range len).map X).getD i [] = X i := fun i hi => by simp [List.getD, hi]
    refine ⟨(List.range len).map X, ⟨(List.range len).map V, ⟨by simp, some a, m, by rw [hlen], by rw [hlen]; exact hl, fun hn => ?_⟩, fun i hi => ?_⟩, by rw [hlen]; omega, fun r hr' => ?_⟩
    · rw [hlen] at hn
      have hspot : a.spot = none := by
        have := (hel 0 (by omega)).1
        simpa [Addr.add] using World.cell?_spot this
      obtain ⟨b, off, spot⟩ := a
      simp only at hspot
      subst hspot
      refine ⟨b, off, rfl, fun j hj => ?_⟩
      rw [hlen, Nat.mul_one] at hj
      have := (hel j (by omega)).1
      rw [Addr.add_mid] at this
      rw [this]
      simp [hj]
    · rw [hlen] at hi
      rw [hg i hi]
      have e : ((List.range len).map V).getD i nl = V i := by simp [List.getD, hi]
      rw [e]
      exact (hX i hi).1
    · rw [hlen] at hr'
      rw [hg r hr']
      exact (hX r hr').2
set_option maxRecDepth 100000 in
theorem open_state {base : Nat} {v : Value} {d : DataW H} {p : List MemPlace} (hv : Value.okWide Tryz.prog W .any base 30 v) (h : DataW.Trod enc Tryz.prog W 0 (fun _ => true) true 30 v d p) (hz : ∀ n, n ∈ DataW.weights Tryz.prog 30 d → n ≤ reachBytes) :
    ∃ s, StL W v s ∧ Far s := by
  obtain ⟨cs, rfl, hsz⟩ := okWide_struct Tryz.underlying30 hv
  obtain ⟨fuel, hf⟩ := h
  obtain ⟨xs, k, -, hx, hl, hlen, hfd⟩ := DataW.trod_struct Tryz.underlying30 hf
  have hlen : xs.length = 7 := hlen
  have hd : d = .agg (xs.map (·.1)) := congrArg Prod.fst hx
  obtain ⟨l⟩ := cs
  have hl7 : l.length = 7 := by
    rw [c27] at hsz
    simpa using hsz
  match l, hl7 with
  | [a, b, c, d1, e, g, i], _ =>
    have f0 : DataW.trod enc Tryz.prog W 0 (fun _ => true) true k 25 (([a, b, c, d1, e, g, i].drop 0).take (Tryz.prog.cellsOf 25)) = xs[0]? := hfd 0 _ rfl
    rw [c22, List.getElem?_eq_getElem (by omega)] at f0
    have f1 : DataW.trod enc Tryz.prog W 0 (fun _ => true) true k 26 (([a, b, c, d1, e, g, i].drop 1).take (Tryz.prog.cellsOf 26)) = xs[1]? := hfd 1 _ rfl
    rw [c23, List.getElem?_eq_getElem (by omega)] at f1
    have f2 : DataW.trod enc Tryz.prog W 0 (fun _ => true) true k 27 (([a, b, c, d1, e, g, i].drop 2).take (Tryz.prog.cellsOf 27)) = xs[2]? := hfd 2 _ rfl
    rw [c24, List.getElem?_eq_getElem (by omega)] at f2
    have f3 : DataW.trod enc Tryz.prog W 0 (fun _ => true) true k 21 (([a, b, c, d1, e, g, i].drop 3).take (Tryz.prog.cellsOf 21)) = xs[3]? := hfd 3 _ rfl
    rw [c21, List.getElem?_eq_getElem (by omega)] at f3
    have f4 : DataW.trod enc Tryz.prog W 0 (fun _ => true) true k 3 (([a, b, c, d1, e, g, i].drop 4).take (Tryz.prog.cellsOf 3)) = xs[4]? := hfd 4 _ rfl
    rw [c3, List.getElem?_eq_getElem (by omega)] at f4
    have f5 : DataW.trod enc Tryz.prog W 0 (fun _ => true) true k 28 (([a, b, c, d1, e, g, i].drop 5).take (Tryz.prog.cellsOf 28)) = xs[5]? := hfd 5 _ rfl
    rw [c25, List.getElem?_eq_getElem (by omega)] at f5
    have f6 : DataW.trod enc Tryz.prog W 0 (fun _ => true) true k 3 (([a, b, c, d1, e, g, i].drop 6).take (Tryz.prog.cellsOf 3)) = xs[6]? := hfd 6 _ rfl
    rw [c3, List.getElem?_eq_getElem (by omega)] at f6
    obtain ⟨z3, e3, -, -⟩ := DataW.trod_int Tryz.underlying21 f3
    obtain ⟨z4, e4, -, -⟩ := DataW.trod_int Tryz.underlying3 f4
    obtain ⟨z5, e5, -, -⟩ := DataW.trod_int Tryz.underlying28 f5
    obtain ⟨z6, e6, -, -⟩ := DataW.trod_int Tryz.underlying3 f6
    simp at e3 e4 e5 e6
    obtain ⟨ps, p1, p2⟩ := open_flat 25 95 3 12 k Tryz.underlying25 (by kernel_rfl) (by decide) (by kernel_rfl) (by decide) pv dp (fun _ => rfl) ply_of (v := a) (d := (xs[0]'(by omega)).1) (p := (xs[0]'(by omega)).2) f0 (fun n hn => hz n (by
      rw [hd]; simp only [DataW.weights, Tryz.underlying30]; exact DataW.weights_mem_each (j := 0) (t := 25) rfl (by simp [List.getElem?_eq_getElem (show 0 < xs.length by omega)]) n hn))
    obtain ⟨cs, q1, q2⟩ := open_flat 26 83 6 32 k Tryz.underlying26 (by kernel_rfl) (by decide) (by kernel_rfl) (by decide) cv dc (fun _ => rfl) crd_of (v := b) (d := (xs[1]'(by omega)).1) (p := (xs[1]'(by omega)).2) f1 (fun n hn => hz n (by
      rw [hd]; simp only [DataW.weights, Tryz.underlying30]; exact DataW.weights_mem_each (j := 1) (t := 26) rfl (by simp [List.getElem?_eq_getElem (show 1 < xs.length by omega)]) n hn))
    obtain ⟨zs, r1, r2⟩ := open_rows (v := c) (d := (xs[2]'(by omega)).1) (p := (xs[2]'(by omega)).2) f2 (fun n hn => hz n (by
      rw [hd]; simp only [DataW.weights, Tryz.underlying30]; exact DataW.weights_mem_each (j := 2) (t := 27) rfl (by simp [List.getElem?_eq_getElem (show 2 < xs.length by omega)]) n hn))
    exact ⟨⟨ps, cs, zs, z3, z4, z5, z6⟩, ⟨a, b, c, by rw [e3, e4, e5, e6]; rfl, p1, q1, r1⟩, p2, q2, r2⟩
end
end ST
end Go.Proofs.YtmpamcdobhiipaaGreatDoor
