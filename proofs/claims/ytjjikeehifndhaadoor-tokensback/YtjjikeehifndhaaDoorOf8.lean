
/-
  Lists of tokens that came in, and lists of bytes in a list.
-/
import Derived.Test.YtjjikeehifndhaaDoorOc8
import Derived.Test.YtjjikeehifndhaaDoorEt8
namespace Go.Proofs.YtjjikeehifndhaaDoor
open Go.ChangeShapes Go.WideShapes Go.ChangeAt Go.RowKit
namespace TK
theorem weightsAll_mem {H : Type} {P : Program} {e : TypeId} {d : DataW H} {n : Nat} (hn : n ∈ d.weights P e) : ∀ (l : List (DataW H)), d ∈ l → n ∈ DataW.weightsAll P e l
  | [], h => (List.not_mem_nil h).elim
  | c :: r, h => by
    simp only [DataW.weightsAll, List.mem_append]
    rcases List.mem_cons.1 h with rfl | h
    · exact .inl hn
    · exact .inr (weightsAll_mem hn r h)
section
variable {H : Type} {enc : TypeId × Value → H} {W : World}
theorem open_flatP {E : Type} (t e s bytes fuel : Nat) (ht : Tryd.prog.underlying t = some (.slice e)) (ce : Tryd.prog.cellsOf e = s) (hs : 0 < s) (hby : Tryd.prog.bytesOf e = bytes) (hb2 : 2 ≤ bytes) (f : E → List Value) (Pr : E → Prop) (dx : E) (hf : ∀ x, (f x).length = s)
    (he : ∀ cs n d p, DataW.trod enc Tryd.prog W 0 (fun _ => true) true n e cs = some (d, p) → (∀ n, n ∈ DataW.weights Tryd.prog e d → n ≤ reachBytes) → ∃ x : E, cs = f x ∧ Pr x) {v : Value} {d : DataW H} {p : List MemPlace}
    (h : DataW.trod enc Tryd.prog W 0 (fun _ => true) true fuel t [v] = some (d, p)) (hz : ∀ n, n ∈ DataW.weights Tryd.prog t d → n ≤ reachBytes) :
    ∃ xs : List E, LC W v s xs.length (xs.flatMap f) ∧ (∀ x ∈ xs, Pr x) ∧ xs.length ≤ 140737488355328 := by
  rcases Deep.open_slice ht h with ⟨hcs, _⟩ | ⟨a, len, cap, m, n, D, Pl, hcs, _, hl, hm, hmm, hx, hel⟩
  · obtain rfl : v = .slice none 0 0 := by simpa using hcs
    exact ⟨[], ⟨by simp, none, 0, rfl, Nat.le_refl _, fun h => absurd rfl h⟩, fun x hx => absurd hx (List.not_mem_nil), Nat.zero_le _⟩
  · obtain rfl : v = .slice (some a) len cap := by simpa using hcs
    have hmm : m = cap := by simpa using hmm
    subst hmm
    have hd : d = _ := congrArg Prod.fst hx
    have hb := hz ((len + (m - len)) * bytes) (by rw [hd]; simp [DataW.weights, ht, hby])
    have hr : reachBytes ≤ 281474976710656 := by decide
    have hlen2 : len * 2 ≤ 281474976710656 := by
      have h1 : len * 2 ≤ (len + (m - len)) * bytes := Nat.mul_le_mul (by omega) hb2
      omega
    have each : ∀ i, ∃ x : E, i < len → W.cells? 0 (a.add (i * s)) s = some (f x) ∧ Pr x := by
      intro i
      by_cases hi : i < len
      · obtain ⟨cs', h1, h2⟩ := hel i (by omega)
        obtain ⟨x, hx', hp⟩ := he cs' n _ _ h2 (fun n hn => by
          refine hz n ?_
          rw [hd]
          simp only [DataW.weights, ht]
          exact List.mem_cons_of_mem _ (List.mem_append_left _ (weightsAll_mem hn _ (List.mem_map.2 ⟨i, List.mem_range.2 hi, rfl⟩))))
        rw [ce] at h1
        exact ⟨x, fun _ => ⟨by rw [h1, hx'], hp⟩⟩
      · exact ⟨dx, fun h => absurd h hi⟩
    obtain ⟨X, hX⟩ := Classical.axiomOfChoice each
    have hlen : ((List.range len).map X).length = len := by simp
    refine ⟨(List.range len).map X, ⟨by rw [flat_len f s hf], some a, m, by rw [hlen], by rw [hlen]; exact hl, fun hn => ?_⟩, fun x hx => ?_, by rw [hlen]; omega⟩
    · rw [hlen] at hn
      have hspot : a.spot = none := by
        obtain ⟨_, hl0, hc0⟩ := World.cells?_some (hX 0 (by omega)).1
        have := hc0 0 (by omega)
        rw [List.getElem?_eq_getElem (by omega)] at this
        simpa [Addr.add] using World.cell?_spot this
      obtain ⟨b, off, spot⟩ := a
      simp only at hspot
      subst hspot
      refine ⟨b, off, rfl, fun j hj => ?_⟩
      rw [hlen] at hj
      have hi : j / s < len := (Nat.div_lt_iff_lt_mul hs).2 hj
      have hmod : j % s < s := Nat.mod_lt _ hs
      obtain ⟨_, hl0, hc0⟩ := World.cells?_some (hX (j / s) hi).1
      have h1 := hc0 (j % s) hmod
      rw [Addr.add_mid, Addr.add_mid] at h1
      have e1 : j / s * s + j % s = j := by rw [Nat.mul_comm]; exact Nat.div_add_mod j s
      rw [Nat.add_assoc, e1] at h1
      rw [h1]
      have h2 := flat_get f s hf dx ((List.range len).map X) (j / s) (j % s) (by rw [hlen]; exact hi) hmod
      rw [e1] at h2
      rw [h2]
      simp [List.getD, hi]
    · obtain ⟨i, hi, rfl⟩ := List.mem_map.1 hx
      exact (hX i (List.mem_range.1 hi)).2
/- tokens -/
def TokOk (t : Tok) : Prop := Byt t.text ∧ t.text.length ≤ 281474976710656 ∧ -9223372036854775808 ≤ t.num ∧ t.num ≤ 9223372036854775807
set_option maxRecDepth 100000 in
theorem tok_of (cs : List Value) (n : Nat) (d : DataW H) (p : List MemPlace) (h : DataW.trod enc Tryd.prog W 0 (fun _ => true) true n 63 cs = some (d, p)) (hz : ∀ n, n ∈ DataW.weights Tryd.prog 63 d → n ≤ reachBytes) : ∃ t : Tok, cs = tvs1 t ∧ TokOk t := by
  obtain ⟨xs, k, -, hx, hl, hlen, hfd⟩ := DataW.trod_struct Tryd.underlying63 h
  have hl : cs.length = 4 := by rw [hl]; kernel_rfl
  have hlen : xs.length = 4 := hlen
  have hd : d = .agg (xs.map (·.1)) := congrArg Prod.fst hx
  match cs, hl with
  | [a, b, c, e], _ =>
    have f0 : DataW.trod enc Tryd.prog W 0 (fun _ => true) true k 61 (([a, b, c, e].drop 0).take (Tryd.prog.cellsOf 61)) = xs[0]? := hfd 0 _ rfl
    rw [cI8, List.getElem?_eq_getElem (by omega)] at f0
    have f1 : DataW.trod enc Tryd.prog W 0 (fun _ => true) true k 9 (([a, b, c, e].drop 1).take (Tryd.prog.cellsOf 9)) = xs[1]? := hfd 1 _ rfl
    rw [cSt, List.getElem?_eq_getElem (by omega)] at f1
    have f2 : DataW.trod enc Tryd.prog W 0 (fun _ => true) true k 2 (([a, b, c, e].drop 2).take (Tryd.prog.cellsOf 2)) = xs[2]? := hfd 2 _ rfl
    rw [cI6, List.getElem?_eq_getElem (by omega)] at f2
    have f3 : DataW.trod enc Tryd.prog W 0 (fun _ => true) true k 3 (([a, b, c, e].drop 3).take (Tryd.prog.cellsOf 3)) = xs[3]? := hfd 3 _ rfl
    rw [cIn, List.getElem?_eq_getElem (by omega)] at f3
    obtain ⟨z0, e0, -, -⟩ := DataW.trod_int Tryd.underlying61 f0
    obtain ⟨z1, e1, x1, -⟩ := DataW.trod_string Tryd.underlying9 f1
    obtain ⟨z2, e2, -, w2⟩ := DataW.trod_int Tryd.underlying2 f2
    obtain ⟨z3, e3, -, -⟩ := DataW.trod_int Tryd.underlying3 f3
    simp at e0 e1 e2 e3
    have hb := bounds_i64 w2
    have hs := hz z1.data.toList.length (by
      rw [hd]
      simp only [DataW.weights, Tryd.underlying63]
      refine DataW.weights_mem_each (j := 1) (t := 9) (d := (xs[1]'(by omega)).1) rfl (by simp [List.getElem?_eq_getElem (show 1 < xs.length by omega)]) _ ?_
      rw [x1]
      simp [DataW.weights])
    have hr : reachBytes ≤ 281474976710656 := by decide
    refine ⟨⟨z0, z1.data.toList.map fun b => (b.toNat : Int), z2, z3⟩, ?_, byt_nums z1, ?_, (by show -9223372036854775808 ≤ z2; omega), (by show z2 ≤ 9223372036854775807; omega)⟩
    · unfold tvs1 sv
      rw [nums_back, e0, e1, e2, e3]
    · rw [List.length_map]
      omega
set_option maxRecDepth 100000 in
theorem open_toks {base : Nat} {v : Value} {d : DataW H} {p : List MemPlace} (hv : Value.okWide Tryd.prog W .any base 25 v) (h : DataW.Trod enc Tryd.prog W 0 (fun _ => true) true 25 v d p) (hz : ∀ n, n ∈ DataW.weights Tryd.prog 25 d → n ≤ reachBytes) :
    ∃ l : List Tok, TLs W v l ∧ (∀ t ∈ l, TokOk t) ∧ l.length ≤ 140737488355328 := by
  obtain ⟨a9, n9, c9, rfl⟩ := okWide_slice Tryd.underlying25 hv
  obtain ⟨fuel, hf⟩ := h
  exact open_flatP 25 63 4 40 fuel Tryd.underlying25 (by kernel_rfl) (by decide) (by kernel_rfl) (by decide) tvs1 TokOk dt (fun _ => rfl) tok_of (v := .slice a9 n9 c9) (d := d) (p := p) hf hz
/- lists of bytes in a list -/
def RowsB (W : World) (v : Value) (l : List (List Int)) : Prop := ∃ V : List Value, V.length = l.length ∧ LC W v 1 l.length V ∧ ∀ i, i < l.length → BL W (V.getD i (.slice none 0 0)) (l.getD i []) ∧ Byt (l.getD i []) ∧ (l.getD i []).length ≤ 281474976710656
def bwF (x : List Int × Value) : List Value := [x.2]
theorem bwF_map (xs : List (List Int × Value)) : xs.flatMap bwF = xs.map (·.2) := by
  induction xs with
  | nil => rfl
  | cons x r ih => rw [List.flatMap_cons, ih]; rfl
theorem row_of (cs : List Value) (n : Nat) (d : DataW H) (p : List MemPlace) (h : DataW.trod enc Tryd.prog W 0 (fun _ => true) true n 22 cs = some (d, p)) (hz : ∀ n, n ∈ DataW.weights Tryd.prog 22 d → n ≤ reachBytes) : ∃ x : List Int × Value, cs = bwF x ∧ BL W x.2 x.1 ∧ Byt x.1 ∧ x.1.length ≤ 281474976710656 := by
  obtain ⟨v, rfl⟩ : ∃ v, cs = [v] := by
    rcases Deep.open_slice Tryd.underlying22 h with ⟨hcs, _⟩ | ⟨a, len, cap, m, n, D, Pl, hcs, _⟩
    · exact ⟨_, hcs⟩
    · exact ⟨_, hcs⟩
  obtain ⟨xs, h1, h2, -⟩ := open_flat1 (E := Bt) 22 5 1 1 n Tryd.underlying22 (by kernel_rfl) (by decide) (by kernel_rfl) (by decide) btv ⟨0, by decide, by decide⟩ (fun _ => rfl) byt_of (v := v) (d := d) (p := p) h hz
  refine ⟨(xs.map (·.1), v), rfl, ?_, fun c hc => ?_, by simpa using h2⟩
  · show BL W v _
    unfold BL
    rw [List.length_map, btv_all]
    exact h1
  · obtain ⟨x, -, rfl⟩ := List.mem_map.1 hc
    exact x.2
set_option maxRecDepth 100000 in
theorem open_rowsB {base : Nat} {v : Value} {d : DataW H} {p : List MemPlace} (hv : Value.okWide Tryd.prog W .any base 33 v) (h : DataW.Trod enc Tryd.prog W 0 (fun _ => true) true 33 v d p) (hz : ∀ n, n ∈ DataW.weights Tryd.prog 33 d → n ≤ reachBytes) :
    ∃ l : List (List Int), RowsB W v l ∧ l.length ≤ 140737488355328 := by
  obtain ⟨a9, n9, c9, rfl⟩ := okWide_slice Tryd.underlying33 hv
  obtain ⟨fuel, hf⟩ := h
  obtain ⟨xs, h1, h2, h3⟩ := open_flatP 33 22 1 24 fuel Tryd.underlying33 (by kernel_rfl) (by decide) (by kernel_rfl) (by decide) bwF (fun x => BL W x.2 x.1 ∧ Byt x.1 ∧ x.1.length ≤ 281474976710656) ([], .slice none 0 0) (fun _ => rfl) row_of (v := .slice a9 n9 c9) (d := d) (p := p) hf hz
  rw [bwF_map] at h1
  refine ⟨xs.map (·.1), ⟨xs.map (·.2), by simp, by rw [List.length_map]; exact h1, fun i hi => ?_⟩, by simpa using h3⟩
  have hi : i < xs.length := by simpa using hi
  have e1 : (xs.map (·.1)).getD i [] = (xs[i]).1 := by simp [List.getD, hi]
  have e2 : (xs.map (·.2)).getD i (.slice none 0 0) = (xs[i]).2 := by simp [List.getD, hi]
  rw [e1, e2]
  exact h2 _ (List.getElem_mem hi)
end
end TK
end Go.Proofs.YtjjikeehifndhaaDoor
