
/-
  Nodes that came in.
-/
import Derived.Test.YtgahdppcdeefaaaRows
import Derived.Test.YtgahdppcdeefaaaNa9
import Derived.WalkKit
import Derived.ProofKit
import Derived.OpenShut
import Derived.ChangeOld
import Derived.SizedLaws
import Derived.Deep.Slices
import Derived.Deep.Strs
namespace Go.Proofs.Ytgahdppcdeefaaa
open Go.ChangeShapes Go.WideShapes Go.ChangeAt Go.RowKit
namespace TR
theorem cI8 : Try.prog.cellsOf 31 = 1 := by kernel_rfl
theorem cSt : Try.prog.cellsOf 9 = 1 := by kernel_rfl
theorem cI6 : Try.prog.cellsOf 2 = 1 := by kernel_rfl
theorem cIn : Try.prog.cellsOf 3 = 1 := by kernel_rfl
theorem weightsAll_mem {H : Type} {P : Program} {e : TypeId} {d : DataW H} {n : Nat} (hn : n ∈ d.weights P e) : ∀ (l : List (DataW H)), d ∈ l → n ∈ DataW.weightsAll P e l
  | [], h => (List.not_mem_nil h).elim
  | c :: r, h => by
    simp only [DataW.weightsAll, List.mem_append]
    rcases List.mem_cons.1 h with rfl | h
    · exact .inl hn
    · exact .inr (weightsAll_mem hn r h)
section
variable {H : Type} {enc : TypeId × Value → H} {W : World}
theorem open_flatP {E : Type} (t e s bytes fuel : Nat) (ht : Try.prog.underlying t = some (.slice e)) (ce : Try.prog.cellsOf e = s) (hs : 0 < s) (hby : Try.prog.bytesOf e = bytes) (hb2 : 2 ≤ bytes) (f : E → List Value) (Pr : E → Prop) (dx : E) (hf : ∀ x, (f x).length = s)
    (he : ∀ cs n d p, DataW.trod enc Try.prog W 0 (fun _ => true) true n e cs = some (d, p) → (∀ n, n ∈ DataW.weights Try.prog e d → n ≤ reachBytes) → ∃ x : E, cs = f x ∧ Pr x) {v : Value} {d : DataW H} {p : List MemPlace}
    (h : DataW.trod enc Try.prog W 0 (fun _ => true) true fuel t [v] = some (d, p)) (hz : ∀ n, n ∈ DataW.weights Try.prog t d → n ≤ reachBytes) :
    ∃ xs : List E, LC W v s xs.length (xs.flatMap f) ∧ (∀ x ∈ xs, Pr x) ∧ xs.length ≤ 140737488355328 := by
  rcases Deep.open_slice ht h with ⟨hcs, _⟩ | ⟨a, len, cap, m, n, D, Pl, hcs, _, hl, hm, hmm, hx, hel⟩
  · obtain rfl : v = .slice none 0 0 := by simpa using hcs
    exact ⟨[], ⟨by simp, none, 0, rfl, Nat.le_refl _, fun h => absurd rfl h⟩, fun x hx => absurd hx (List.not_mem_nil), Nat.zero_le _⟩
  · obtain rfl : v = .slice (some a) len cap := by simpa using hcs
    have hmm : m = cap := by simpa using hmm
    subst hmm
    have hd : d = _ := congrArg Prod.fst hx
    have hb := hz ((len + (m - len)) * bytes) (by rw [hd]; simp [DataW.weights, ht, hby])
    have hr : reachBytes ≤ 281474976710656 := by decide
    have hlen2 : len * 2 ≤ 281474976710656 := by
      have h1 : len * 2 ≤ (len + (m - len)) * bytes := Nat.mul_le_mul (by omega) hb2
      omega
    have each : ∀ i, ∃ x : E, i < len → W.cells? 0 (a.add (i * s)) s = some (f x) ∧ Pr x := by
      intro i
      by_cases hi : i < len
      · obtain ⟨cs', h1, h2⟩ := hel i (by omega)
        obtain ⟨x, hx', hp⟩ := he cs' n _ _ h2 (fun n hn => by
          refine hz n ?_
          rw [hd]
          simp only [DataW.weights, ht]
          exact List.mem_cons_of_mem _ (List.mem_append_left _ (weightsAll_mem hn _ (List.mem_map.2 ⟨i, List.mem_range.2 hi, rfl⟩))))
        rw [ce] at h1
        exact ⟨x, fun _ => ⟨by rw [h1, hx'], hp⟩⟩
      · exact ⟨dx, fun h => absurd h hi⟩
    obtain ⟨X, hX⟩ := Classical.axiomOfChoice each
    have hlen : ((List.range len).map X).length = len := by simp
    refine ⟨(List.range len).map X, ⟨by rw [flat_len f s hf], some a, m, by rw [hlen], by rw [hlen]; exact hl, fun hn => ?_⟩, fun x hx => ?_, by rw [hlen]; omega⟩
    · rw [hlen] at hn
      have hspot : a.spot = none := by
        obtain ⟨_, hl0, hc0⟩ := World.cells?_some (hX 0 (by omega)).1
        have := hc0 0 (by omega)
        rw [List.getElem?_eq_getElem (by omega)] at this
        simpa [Addr.add] using World.cell?_spot this
      obtain ⟨b, off, spot⟩ := a
      simp only at hspot
      subst hspot
      refine ⟨b, off, rfl, fun j hj => ?_⟩
      rw [hlen] at hj
      have hi : j / s < len := (Nat.div_lt_iff_lt_mul hs).2 hj
      have hmod : j % s < s := Nat.mod_lt _ hs
      obtain ⟨_, hl0, hc0⟩ := World.cells?_some (hX (j / s) hi).1
      have h1 := hc0 (j % s) hmod
      rw [Addr.add_mid, Addr.add_mid] at h1
      have e1 : j / s * s + j % s = j := by rw [Nat.mul_comm]; exact Nat.div_add_mod j s
      rw [Nat.add_assoc, e1] at h1
      rw [h1]
      have h2 := flat_get f s hf dx ((List.range len).map X) (j / s) (j % s) (by rw [hlen]; exact hi) hmod
      rw [e1] at h2
      rw [h2]
      simp [List.getD, hi]
    · obtain ⟨i, hi, rfl⟩ := List.mem_map.1 hx
      exact (hX i (List.mem_range.1 hi)).2
def NdOk (t : Nd) : Prop := Byt t.text ∧ t.text.length ≤ 281474976710656 ∧ (-128 ≤ t.op ∧ t.op ≤ 127) ∧ (-128 ≤ t.kind ∧ t.kind ≤ 127) ∧ (-9223372036854775808 ≤ t.n ∧ t.n ≤ 9223372036854775807) ∧ (-9223372036854775808 ≤ t.m ∧ t.m ≤ 9223372036854775807) ∧ (-9223372036854775808 ≤ t.pos ∧ t.pos ≤ 9223372036854775807) ∧ (-9223372036854775808 ≤ t.kids ∧ t.kids ≤ 9223372036854775807)
set_option maxRecDepth 100000 in
theorem nd_of (cs : List Value) (n : Nat) (d : DataW H) (p : List MemPlace) (h : DataW.trod enc Try.prog W 0 (fun _ => true) true n 33 cs = some (d, p)) (hz : ∀ n, n ∈ DataW.weights Try.prog 33 d → n ≤ reachBytes) : ∃ t : Nd, cs = ndc t ∧ NdOk t := by
  obtain ⟨xs, k, -, hx, hl, hlen, hfd⟩ := DataW.trod_struct Try.underlying33 h
  have hl : cs.length = 7 := by rw [hl]; kernel_rfl
  have hlen : xs.length = 7 := hlen
  have hd : d = .agg (xs.map (·.1)) := congrArg Prod.fst hx
  match cs, hl with
  | [a, b, c, e, f, g, h], _ =>
    have f0 : DataW.trod enc Try.prog W 0 (fun _ => true) true k 31 (([a, b, c, e, f, g, h].drop 0).take (Try.prog.cellsOf 31)) = xs[0]? := hfd 0 _ rfl
    rw [cI8, List.getElem?_eq_getElem (by omega)] at f0
    have f1 : DataW.trod enc Try.prog W 0 (fun _ => true) true k 31 (([a, b, c, e, f, g, h].drop 1).take (Try.prog.cellsOf 31)) = xs[1]? := hfd 1 _ rfl
    rw [cI8, List.getElem?_eq_getElem (by omega)] at f1
    have f2 : DataW.trod enc Try.prog W 0 (fun _ => true) true k 2 (([a, b, c, e, f, g, h].drop 2).take (Try.prog.cellsOf 2)) = xs[2]? := hfd 2 _ rfl
    rw [cI6, List.getElem?_eq_getElem (by omega)] at f2
    have f3 : DataW.trod enc Try.prog W 0 (fun _ => true) true k 2 (([a, b, c, e, f, g, h].drop 3).take (Try.prog.cellsOf 2)) = xs[3]? := hfd 3 _ rfl
    rw [cI6, List.getElem?_eq_getElem (by omega)] at f3
    have f4 : DataW.trod enc Try.prog W 0 (fun _ => true) true k 9 (([a, b, c, e, f, g, h].drop 4).take (Try.prog.cellsOf 9)) = xs[4]? := hfd 4 _ rfl
    rw [cSt, List.getElem?_eq_getElem (by omega)] at f4
    have f5 : DataW.trod enc Try.prog W 0 (fun _ => true) true k 3 (([a, b, c, e, f, g, h].drop 5).take (Try.prog.cellsOf 3)) = xs[5]? := hfd 5 _ rfl
    rw [cIn, List.getElem?_eq_getElem (by omega)] at f5
    have f6 : DataW.trod enc Try.prog W 0 (fun _ => true) true k 3 (([a, b, c, e, f, g, h].drop 6).take (Try.prog.cellsOf 3)) = xs[6]? := hfd 6 _ rfl
    rw [cIn, List.getElem?_eq_getElem (by omega)] at f6
    obtain ⟨z0, e0, -, w0⟩ := DataW.trod_int Try.underlying31 f0
    obtain ⟨z1, e1, -, w1⟩ := DataW.trod_int Try.underlying31 f1
    obtain ⟨z2, e2, -, w2⟩ := DataW.trod_int Try.underlying2 f2
    obtain ⟨z3, e3, -, w3⟩ := DataW.trod_int Try.underlying2 f3
    obtain ⟨z4, e4, x4, -⟩ := DataW.trod_string Try.underlying9 f4
    obtain ⟨z5, e5, -, w5⟩ := DataW.trod_int Try.underlying3 f5
    obtain ⟨z6, e6, -, w6⟩ := DataW.trod_int Try.underlying3 f6
    simp at e0 e1 e2 e3 e4 e5 e6
    have b0 := bounds_i8 w0
    have b1 := bounds_i8 w1
    have b2 := bounds_i64 w2
    have b3 := bounds_i64 w3
    have b5 := bounds_i64 w5
    have b6 := bounds_i64 w6
    have hs := hz z4.data.toList.length (by
      rw [hd]
      simp only [DataW.weights, Try.underlying33]
      refine DataW.weights_mem_each (j := 4) (t := 9) (d := (xs[4]'(by omega)).1) rfl (by simp [List.getElem?_eq_getElem (show 4 < xs.length by omega)]) _ ?_
      rw [x4]
      simp [DataW.weights])
    have hr : reachBytes ≤ 281474976710656 := by decide
    refine ⟨⟨z0, z1, z2, z3, z4.data.toList.map fun b => (b.toNat : Int), z5, z6⟩, ?_, byt_nums z4, ?_, b0, b1, b2, b3, b5, b6⟩
    · unfold ndc
      rw [nums_back, e0, e1, e2, e3, e4, e5, e6]
    · rw [List.length_map]
      omega
set_option maxRecDepth 100000 in
theorem open_nodes {base : Nat} {v : Value} {d : DataW H} {p : List MemPlace} (hv : Value.okWide Try.prog W .any base 22 v) (h : DataW.Trod enc Try.prog W 0 (fun _ => true) true 22 v d p) (hz : ∀ n, n ∈ DataW.weights Try.prog 22 d → n ≤ reachBytes) :
    ∃ l : List Nd, NLs W v l ∧ (∀ t ∈ l, NdOk t) ∧ l.length ≤ 140737488355328 := by
  obtain ⟨a9, n9, c9, rfl⟩ := okWide_slice Try.underlying22 hv
  obtain ⟨fuel, hf⟩ := h
  exact open_flatP 22 33 7 56 fuel Try.underlying22 (by kernel_rfl) (by decide) (by kernel_rfl) (by decide) ndc NdOk dn (fun _ => rfl) nd_of (v := .slice a9 n9 c9) (d := d) (p := p) hf hz
end
end TR
end Go.Proofs.Ytgahdppcdeefaaa
