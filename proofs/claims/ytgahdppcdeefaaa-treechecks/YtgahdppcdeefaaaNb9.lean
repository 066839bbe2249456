/-
  Lists of nodes: how long, whether they are the same.
-/
import Derived.Test.YtgahdppcdeefaaaRows
import Derived.Test.YtgahdppcdeefaaaNa9
import Derived.WalkKit
import Derived.ProofKit
import Derived.OpenShut
import Derived.ChangeOld
import Derived.SizedLaws
import Derived.Deep.Slices
import Derived.Deep.Strs
import Derived.Deep.QuietTactic
import Derived.BigQuiet
namespace Go.Proofs.Ytgahdppcdeefaaa
open Go.ChangeShapes Go.WideShapes Go.ChangeAt Go.RowKit
namespace TR
theorem cI8 : Try.prog.cellsOf 31 = 1 := by kernel_rfl
theorem cSt : Try.prog.cellsOf 9 = 1 := by kernel_rfl
theorem cI6 : Try.prog.cellsOf 2 = 1 := by kernel_rfl
theorem cIn : Try.prog.cellsOf 3 = 1 := by kernel_rfl
theorem weightsAll_mem {H : Type} {P : Program} {e : TypeId} {d : DataW H} {n : Nat} (hn : n ∈ d.weights P e) : ∀ (l : List (DataW H)), d ∈ l → n ∈ DataW.weightsAll P e l
  | [], h => (List.not_mem_nil h).elim
  | c :: r, h => by
    simp only [DataW.weightsAll, List.mem_append]
    rcases List.mem_cons.1 h with rfl | h
    · exact .inl hn
    · exact .inr (weightsAll_mem hn r h)
section
variable {H : Type} {enc : TypeId × Value → H} {W : World}
theorem open_flatP {E : Type} (t e s bytes fuel : Nat) (ht : Try.prog.underlying t = some (.slice e)) (ce : Try.prog.cellsOf e = s) (hs : 0 < s) (hby : Try.prog.bytesOf e = bytes) (hb2 : 2 ≤ bytes) (f : E → List Value) (Pr : E → Prop) (dx : E) (hf : ∀ x, (f x).length = s)
    (he : ∀ cs n d p, DataW.trod enc Try.prog W 0 (fun _ => true) true n e cs = some (d, p) → (∀ n, n ∈ DataW.weights Try.prog e d → n ≤ reachBytes) → ∃ x : E, cs = f x ∧ Pr x) {v : Value} {d : DataW H} {p : List MemPlace}
    (h : DataW.trod enc Try.prog W 0 (fun _ => true) true fuel t [v] = some (d, p)) (hz : ∀ n, n ∈ DataW.weights Try.prog t d → n ≤ reachBytes) :
    ∃ xs : List E, LC W v s xs.length (xs.flatMap f) ∧ (∀ x ∈ xs, Pr x) ∧ xs.length ≤ 140737488355328 := by
  rcases Deep.open_slice ht h with ⟨hcs, _⟩ | ⟨a, len, cap, m, n, D, Pl, hcs, _, hl, hm, hmm, hx, hel⟩
  · obtain rfl : v = .slice none 0 0 := by simpa using hcs
    exact ⟨[], ⟨by simp, none, 0, rfl, Nat.le_refl _, fun h => absurd rfl h⟩, fun x hx => absurd hx (List.not_mem_nil), Nat.zero_le _⟩
  · obtain rfl : v = .slice (some a) len cap := by simpa using hcs
    have hmm : m = cap := by simpa using hmm
    subst hmm
    have hd : d = _ := congrArg Prod.fst hx
    have hb := hz ((len + (m - len)) * bytes) (by rw [hd]; simp [DataW.weights, ht, hby])
    have hr : reachBytes ≤ 281474976710656 := by decide
    have hlen2 : len * 2 ≤ 281474976710656 := by
      have h1 : len * 2 ≤ (len + (m - len)) * bytes := Nat.mul_le_mul (by omega) hb2
      omega
    have each : ∀ i, ∃ x : E, i < len → W.cells? 0 (a.add (i * s)) s = some (f x) ∧ Pr x := by
      intro i
      by_cases hi : i < len
      · obtain ⟨cs', h1, h2⟩ := hel i (by omega)
        obtain ⟨x, hx', hp⟩ := he cs' n _ _ h2 (fun n hn => by
          refine hz n ?_
          rw [hd]
          simp only [DataW.weights, ht]
          exact List.mem_cons_of_mem _ (List.mem_append_left _ (weightsAll_mem hn _ (List.mem_map.2 ⟨i, List.mem_range.2 hi, rfl⟩))))
        rw [ce] at h1
        exact ⟨x, fun _ => ⟨by rw [h1, hx'], hp⟩⟩
      · exact ⟨dx, fun h => absurd h hi⟩
    obtain ⟨X, hX⟩ := Classical.axiomOfChoice each
    have hlen : ((List.range len).map X).length = len := by simp
    refine ⟨(List.range len).map X, ⟨by rw [flat_len f s hf], some a, m, by rw [hlen], by rw [hlen]; exact hl, fun hn => ?_⟩, fun x hx => ?_, by rw [hlen]; omega⟩
    · rw [hlen] at hn
      have hspot : a.spot = none := by
        obtain ⟨_, hl0, hc0⟩ := World.cells?_some (hX 0 (by omega)).1
        have := hc0 0 (by omega)
        rw [List.getElem?_eq_getElem (by omega)] at this
        simpa [Addr.add] using World.cell?_spot this
      obtain ⟨b, off, spot⟩ := a
      simp only at hspot
      subst hspot
      refine ⟨b, off, rfl, fun j hj => ?_⟩
      rw [hlen] at hj
      have hi : j / s < len := (Nat.div_lt_iff_lt_mul hs).2 hj
      have hmod : j % s < s := Nat.mod_lt _ hs
      obtain ⟨_, hl0, hc0⟩ := World.cells?_some (hX (j / s) hi).1
      have h1 := hc0 (j % s) hmod
      rw [Addr.add_mid, Addr.add_mid] at h1
      have e1 : j / s * s + j % s = j := by rw [Nat.mul_comm]; exact Nat.div_add_mod j s
      rw [Nat.add_assoc, e1] at h1
      rw [h1]
      have h2 := flat_get f s hf dx ((List.range len).map X) (j / s) (j % s) (by rw [hlen]; exact hi) hmod
      rw [e1] at h2
      rw [h2]
      simp [List.getD, hi]
    · obtain ⟨i, hi, rfl⟩ := List.mem_map.1 hx
      exact (hX i (List.mem_range.1 hi)).2
def NdOk (t : Nd) : Prop := Byt t.text ∧ t.text.length ≤ 281474976710656 ∧ (-128 ≤ t.op ∧ t.op ≤ 127) ∧ (-128 ≤ t.kind ∧ t.kind ≤ 127) ∧ (-9223372036854775808 ≤ t.n ∧ t.n ≤ 9223372036854775807) ∧ (-9223372036854775808 ≤ t.m ∧ t.m ≤ 9223372036854775807) ∧ (-9223372036854775808 ≤ t.pos ∧ t.pos ≤ 9223372036854775807) ∧ (-9223372036854775808 ≤ t.kids ∧ t.kids ≤ 9223372036854775807)
set_option maxRecDepth 100000 in
theorem nd_of (cs : List Value) (n : Nat) (d : DataW H) (p : List MemPlace) (h : DataW.trod enc Try.prog W 0 (fun _ => true) true n 33 cs = some (d, p)) (hz : ∀ n, n ∈ DataW.weights Try.prog 33 d → n ≤ reachBytes) : ∃ t : Nd, cs = ndc t ∧ NdOk t := by
  obtain ⟨xs, k, -, hx, hl, hlen, hfd⟩ := DataW.trod_struct Try.underlying33 h
  have hl : cs.length = 7 := by rw [hl]; kernel_rfl
  have hlen : xs.length = 7 := hlen
  have hd : d = .agg (xs.map (·.1)) := congrArg Prod.fst hx
  match cs, hl with
  | [a, b, c, e, f, g, h], _ =>
    have f0 : DataW.trod enc Try.prog W 0 (fun _ => true) true k 31 (([a, b, c, e, f, g, h].drop 0).take (Try.prog.cellsOf 31)) = xs[0]? := hfd 0 _ rfl
    rw [cI8, List.getElem?_eq_getElem (by omega)] at f0
    have f1 : DataW.trod enc Try.prog W 0 (fun _ => true) true k 31 (([a, b, c, e, f, g, h].drop 1).take (Try.prog.cellsOf 31)) = xs[1]? := hfd 1 _ rfl
    rw [cI8, List.getElem?_eq_getElem (by omega)] at f1
    have f2 : DataW.trod enc Try.prog W 0 (fun _ => true) true k 2 (([a, b, c, e, f, g, h].drop 2).take (Try.prog.cellsOf 2)) = xs[2]? := hfd 2 _ rfl
    rw [cI6, List.getElem?_eq_getElem (by omega)] at f2
    have f3 : DataW.trod enc Try.prog W 0 (fun _ => true) true k 2 (([a, b, c, e, f, g, h].drop 3).take (Try.prog.cellsOf 2)) = xs[3]? := hfd 3 _ rfl
    rw [cI6, List.getElem?_eq_getElem (by omega)] at f3
    have f4 : DataW.trod enc Try.prog W 0 (fun _ => true) true k 9 (([a, b, c, e, f, g, h].drop 4).take (Try.prog.cellsOf 9)) = xs[4]? := hfd 4 _ rfl
    rw [cSt, List.getElem?_eq_getElem (by omega)] at f4
    have f5 : DataW.trod enc Try.prog W 0 (fun _ => true) true k 3 (([a, b, c, e, f, g, h].drop 5).take (Try.prog.cellsOf 3)) = xs[5]? := hfd 5 _ rfl
    rw [cIn, List.getElem?_eq_getElem (by omega)] at f5
    have f6 : DataW.trod enc Try.prog W 0 (fun _ => true) true k 3 (([a, b, c, e, f, g, h].drop 6).take (Try.prog.cellsOf 3)) = xs[6]? := hfd 6 _ rfl
    rw [cIn, List.getElem?_eq_getElem (by omega)] at f6
    obtain ⟨z0, e0, -, w0⟩ := DataW.trod_int Try.underlying31 f0
    obtain ⟨z1, e1, -, w1⟩ := DataW.trod_int Try.underlying31 f1
    obtain ⟨z2, e2, -, w2⟩ := DataW.trod_int Try.underlying2 f2
    obtain ⟨z3, e3, -, w3⟩ := DataW.trod_int Try.underlying2 f3
    obtain ⟨z4, e4, x4, -⟩ := DataW.trod_string Try.underlying9 f4
    obtain ⟨z5, e5, -, w5⟩ := DataW.trod_int Try.underlying3 f5
    obtain ⟨z6, e6, -, w6⟩ := DataW.trod_int Try.underlying3 f6
    simp at e0 e1 e2 e3 e4 e5 e6
    have b0 := bounds_i8 w0
    have b1 := bounds_i8 w1
    have b2 := bounds_i64 w2
    have b3 := bounds_i64 w3
    have b5 := bounds_i64 w5
    have b6 := bounds_i64 w6
    have hs := hz z4.data.toList.length (by
      rw [hd]
      simp only [DataW.weights, Try.underlying33]
      refine DataW.weights_mem_each (j := 4) (t := 9) (d := (xs[4]'(by omega)).1) rfl (by simp [List.getElem?_eq_getElem (show 4 < xs.length by omega)]) _ ?_
      rw [x4]
      simp [DataW.weights])
    have hr : reachBytes ≤ 281474976710656 := by decide
    refine ⟨⟨z0, z1, z2, z3, z4.data.toList.map fun b => (b.toNat : Int), z5, z6⟩, ?_, byt_nums z4, ?_, b0, b1, b2, b3, b5, b6⟩
    · unfold ndc
      rw [nums_back, e0, e1, e2, e3, e4, e5, e6]
    · rw [List.length_map]
      omega
set_option maxRecDepth 100000 in
theorem open_nodes {base : Nat} {v : Value} {d : DataW H} {p : List MemPlace} (hv : Value.okWide Try.prog W .any base 22 v) (h : DataW.Trod enc Try.prog W 0 (fun _ => true) true 22 v d p) (hz : ∀ n, n ∈ DataW.weights Try.prog 22 d → n ≤ reachBytes) :
    ∃ l : List Nd, NLs W v l ∧ (∀ t ∈ l, NdOk t) ∧ l.length ≤ 140737488355328 := by
  obtain ⟨a9, n9, c9, rfl⟩ := okWide_slice Try.underlying22 hv
  obtain ⟨fuel, hf⟩ := h
  exact open_flatP 22 33 7 56 fuel Try.underlying22 (by kernel_rfl) (by decide) (by kernel_rfl) (by decide) ndc NdOk dn (fun _ => rfl) nd_of (v := .slice a9 n9 c9) (d := d) (p := p) hf hz
end
end TR
end Go.Proofs.Ytgahdppcdeefaaa
namespace Go.Proofs.Ytgahdppcdeefaaa
open Go.RowKit
attribute [local go_sem ↓] Go.wp_at_zero Go.wp_at_succ
namespace TR
set_option maxRecDepth 100000 in
set_option maxHeartbeats 8000000 in
theorem sizeN_ (v : Value) (l : List Nd) (w : World) (hv : NLs w v l) (hl : l.length ≤ 140737488355328) (ht : ∀ t ∈ l, t.text.length ≤ 281474976710656) : Calls Try.prog 26 #[v] w fun e w' => (∃ n : Nat, e = .returned (.int .i64 n) ∧ n ≤ 562949953421312) ∧ w' = w := by
  obtain ⟨Post, hPost⟩ : ∃ P : Ending → World → Prop, P = fun e w' => (∃ n : Nat, e = .returned (.int .i64 n) ∧ n ≤ 562949953421312) ∧ w' = w := ⟨_, rfl⟩
  rw [← hPost]
  have HPo : Hid (Post = fun e w' => (∃ n : Nat, e = .returned (.int .i64 n) ∧ n ≤ 562949953421312) ∧ w' = w) := hPost
  clear hPost
  obtain ⟨a, c, rfl, hc, hcell⟩ := nl_at hv
  have HT : Hid (∀ i, i < l.length → (l.getD i dn).text.length ≤ 281474976710656) := fun i hi => ht _ (by rw [List.getD_eq_getElem?_getD, List.getElem?_eq_getElem hi]; exact List.getElem_mem hi)
  have HC : Hid (l.length ≠ 0 → ∃ b off, a = some ⟨b, off, none⟩ ∧ ∀ i, i < l.length → w.cell? ⟨b, off + i * 7 + 4, none⟩ = some (.string (strOfNums (l.getD i dn).text))) := fun h0 => by
    obtain ⟨b, off, h1, h2⟩ := hcell h0
    exact ⟨b, off, h1, fun i hi => h2 w (Up.refl _) i hi 4 _ rfl⟩
  obtain ⟨n, hN⟩ : ∃ n, n = l.length := ⟨_, rfl⟩
  rw [← hN] at hc HT HC hl ⊢
  clear hv ht hcell hN
  go_enter Try.func26, Try.ntmps26
  go_wp2_with fail
  go_loopw [3, 4] (fun s3 s4 W => ∃ (k i : Nat), s3 = .int .i64 k ∧ s4 = .int .i64 i ∧ i ≤ n ∧ k ≤ 562949953421312 ∧ W = w) (fun _ s4 _ => n - (intOf s4).toNat)
  case atStart => exact ⟨n, 0, rfl, rfl, Nat.zero_le _, by omega, rfl⟩
  case round =>
    obtain ⟨k, i, rfl, rfl, hi, hk, rfl⟩ := hrel
    by_cases hlt : i < n
    · have hlt2 : (i : Int) < (n : Int) := by omega
      by_cases hk2 : k ≤ 2147483647
      · have hk3 : (k : Int) ≤ 2147483647 := by omega
        obtain ⟨b, off, rfl, hce⟩ := HC.out (by omega)
        have x1 := hce i hlt
        have hs := HT.out i hlt
        have hsz : (strOfNums (l.getD i dn).text).size = (l.getD i dn).text.length := strOfNums_size _
        rw [← hsz] at hs
        clear hce hsz
        generalize strOfNums (l.getD i dn).text = ys at *
        have e1 : IntKind.i64.wrap ((k : Int) + (ys.size : Int)) = ((k + ys.size : Nat) : Int) := by rw [IntKind.wrap_i64]; omega
        have ei : IntKind.i64.wrap ((i : Int) + 1) = ((i + 1 : Nat) : Int) := by rw [IntKind.wrap_i64]; omega
        go_wp2_with fail
        go_roundw
        case rel => exact ⟨k + ys.size, i + 1, by go_num, by go_num, by omega, by omega, by first | rfl | trivial⟩
        case measure => simp [intOf]; omega
      · have hk3 : ¬ (k : Int) ≤ 2147483647 := by omega
        go_wp2_with fail
        rw [HPo.out]
        exact ⟨⟨k, rfl, hk⟩, rfl⟩
    · have hlt2 : ¬ (i : Int) < (n : Int) := by omega
      go_wp2_with fail
      rw [HPo.out]
      exact ⟨⟨k, rfl, hk⟩, rfl⟩
/- a list of nodes that came in -/
def Ndl (l : List Nd) : Prop := l.length ≤ 140737488355328 ∧ (∀ t ∈ l, t.text.length ≤ 281474976710656) ∧ (∀ a ∈ l, Byt a.text) ∧ ∀ a ∈ l, -9223372036854775808 ≤ a.kids ∧ a.kids ≤ 9223372036854775807
/- beyond: what is let by is not long -/
def BeyR (l : List Nd) (w : World) (e : Ending) (w' : World) : Prop := (∃ b : Bool, e = .returned (.bool b) ∧ (b = false → l.length ≤ 65536)) ∧ w' = w
set_option maxRecDepth 100000 in
set_option maxHeartbeats 8000000 in
theorem beyond_ (v : Value) (l : List Nd) (w : World) (hv : NLs w v l) (hl : l.length ≤ 140737488355328) (ht : ∀ t ∈ l, t.text.length ≤ 281474976710656) : Calls Try.prog 8 #[v] w (BeyR l w) := by
  obtain ⟨Post, hPost⟩ : ∃ P : Ending → World → Prop, P = BeyR l w := ⟨_, rfl⟩
  rw [← hPost]
  have HPo : Hid (Post = BeyR l w) := hPost
  clear hPost
  have HSZ : Hid (Calls Try.prog 26 #[v] w fun e w' => (∃ n : Nat, e = .returned (.int .i64 n) ∧ n ≤ 562949953421312) ∧ w' = w) := sizeN_ v l w hv hl ht
  obtain ⟨a, c, rfl, hc, -⟩ := nl_at hv
  obtain ⟨n, hN⟩ : ∃ n, n = l.length := ⟨_, rfl⟩
  have HN : Hid (n = l.length) := hN
  rw [← hN] at hc hl HSZ ⊢
  clear hv ht hN
  go_enter Try.func8, Try.ntmps8
  go_wp2_with fail
  refine Calls.mono HSZ.out ?_
  rintro e w1 ⟨⟨z, rfl, hz⟩, rfl⟩
  clear HSZ
  go_wp2_with fail
  go_enter Try.func25, Try.ntmps25
  go_wp2_with fail
  all_goals (try (go_ret; skip))
  all_goals go_wp2_with fail
  all_goals rw [HPo.out]
  all_goals (refine ⟨⟨_, rfl, fun h9 => ?_⟩, rfl⟩; have h8 := HN.out; first | omega | (simp at h9; done) | (simp at h9; omega))
theorem sNod : Try.prog.underlying 33 = some (.struct (Try.prog.fieldsOf 33)) := by kernel_rfl
theorem hNod : Try.prog.stoodInHeld 33 = false := by kernel_rfl
theorem nodIn (xo xk xn xm xp xc yo yk yn ym yp yc : Int) (xs ys : ByteArray) (W : World) : (Op.equalIn 10000 33 (.agg #[.int .i8 xo, .int .i8 xk, .int .i64 xn, .int .i64 xm, .string xs, .int .i64 xp, .int .i64 xc]) (.agg #[.int .i8 yo, .int .i8 yk, .int .i64 yn, .int .i64 ym, .string ys, .int .i64 yp, .int .i64 yc])).run Try.prog W = .ok (decide (xo = yo ∧ xk = yk ∧ xn = yn ∧ xm = ym ∧ xs.toList = ys.toList ∧ xp = yp ∧ xc = yc)) W := by
  have u3 := Try.underlying3
  have v3 := Try.isAgg3
  have z3 := Try.sizeOf3
  have u4 := Try.underlying31
  have v4 := Try.isAgg31
  have z4 := Try.sizeOf31
  have u5 := Try.underlying9
  have v5 := Try.isAgg9
  have z5 := Try.sizeOf9
  have u6 := Try.underlying2
  have v6 := Try.isAgg2
  have z6 := Try.sizeOf2
  rw [show (10000 : Nat) = 9999 + 1 from rfl, run_equalIn_agg W 9999 33 _ _ sNod hNod]
  simp only [Program.fieldsOf, Try.underlying33]
  go_simp
  by_cases h0 : xo = yo
  · by_cases h1 : xk = yk
    · by_cases h2 : xn = yn
      · by_cases h3 : xm = ym
        · by_cases h4 : xs.toList = ys.toList
          · by_cases h5 : xp = yp
            · by_cases h6 : xc = yc <;> simp [h0, h1, h2, h3, h4, h5, h6]
            · simp [h0, h1, h2, h3, h4, h5]
          · simp [h0, h1, h2, h3, h4]
        · simp [h0, h1, h2, h3]
      · simp [h0, h1, h2]
    · simp [h0, h1]
  · simp [h0]
theorem nodSame (xo xk xn xm xp xc : Int) (xs : ByteArray) : ∀ W, (binOp .neq 33 (.agg #[.int .i8 xo, .int .i8 xk, .int .i64 xn, .int .i64 xm, .string xs, .int .i64 xp, .int .i64 xc]) (.agg #[.int .i8 xo, .int .i8 xk, .int .i64 xn, .int .i64 xm, .string xs, .int .i64 xp, .int .i64 xc])).run Try.prog W = .ok (.bool false) W := fun W => by
  rw [run_neq_struct, nodIn]
  simp [Result.andThen]
theorem nodIs (xo xk xn xm xp xc yo yk yn ym yp yc : Int) (xs ys : ByteArray) (h : xo = yo ∧ xk = yk ∧ xn = yn ∧ xm = ym ∧ xs.toList = ys.toList ∧ xp = yp ∧ xc = yc) : ∀ W, (binOp .neq 33 (.agg #[.int .i8 xo, .int .i8 xk, .int .i64 xn, .int .i64 xm, .string xs, .int .i64 xp, .int .i64 xc]) (.agg #[.int .i8 yo, .int .i8 yk, .int .i64 yn, .int .i64 ym, .string ys, .int .i64 yp, .int .i64 yc])).run Try.prog W = .ok (.bool false) W := fun W => by
  rw [run_neq_struct, nodIn]
  rw [decide_eq_true h]
  simp [Result.andThen]
theorem nodNot (xo xk xn xm xp xc yo yk yn ym yp yc : Int) (xs ys : ByteArray) (h : ¬ (xo = yo ∧ xk = yk ∧ xn = yn ∧ xm = ym ∧ xs.toList = ys.toList ∧ xp = yp ∧ xc = yc)) : ∀ W, (binOp .neq 33 (.agg #[.int .i8 xo, .int .i8 xk, .int .i64 xn, .int .i64 xm, .string xs, .int .i64 xp, .int .i64 xc]) (.agg #[.int .i8 yo, .int .i8 yk, .int .i64 yn, .int .i64 ym, .string ys, .int .i64 yp, .int .i64 yc])).run Try.prog W = .ok (.bool true) W := fun W => by
  rw [run_neq_struct, nodIn]
  rw [decide_eq_false h]
  simp [Result.andThen]
set_option maxRecDepth 100000 in
set_option maxHeartbeats 8000000 in
theorem eqN_ (v u : Value) (l : List Nd) (w : World) (hv : NLs w v l) (hu : NLs w u l) (hn : l.length ≤ 4294967296) :
    Calls Try.prog 16 #[v, u] w fun e w' => e = .returned (.bool true) ∧ Up w w' := by
  obtain ⟨a1, k1, rfl, -, h1⟩ := nl_at hv
  obtain ⟨a2, k2, rfl, -, h2⟩ := nl_at hu
  obtain ⟨n, hn0⟩ : ∃ n, n = l.length := ⟨_, rfl⟩
  rw [← hn0] at hn h1 h2 ⊢
  have H1 : Hid (n ≠ 0 → ∃ b off, a1 = some ⟨b, off, none⟩ ∧ ∀ W, Up w W → ∀ i, i < n → ∀ j x, (ndc (l.getD i dn))[j]? = some x → W.cell? ⟨b, off + i * 7 + j, none⟩ = some x) := h1
  have H2 : Hid (n ≠ 0 → ∃ b off, a2 = some ⟨b, off, none⟩ ∧ ∀ W, Up w W → ∀ i, i < n → ∀ j x, (ndc (l.getD i dn))[j]? = some x → W.cell? ⟨b, off + i * 7 + j, none⟩ = some x) := h2
  clear hv hu h1 h2 hn0
  go_enter Try.func16, Try.ntmps16
  go_wp2_with fail
  go_loopw [4, 5] (fun s4 s5 wr => ∃ i : Nat, i ≤ n ∧ s4 = .bool false ∧ s5 = .int .i64 i ∧ Up w wr) (fun _ s5 _ => n - (intOf s5).toNat)
  case atStart => exact ⟨0, Nat.zero_le _, rfl, rfl, Up.refl _⟩
  case round =>
    obtain ⟨i, hi, rfl, rfl, hu⟩ := hrel
    have HU : Hid (Up w wr) := hu
    by_cases hlt : i < n
    · have hlt2 : (i : Int) < (n : Int) := by omega
      obtain ⟨b1, o1, rfl, c1⟩ := H1.out (by omega)
      obtain ⟨b2, o2, rfl, c2⟩ := H2.out (by omega)
      have x0 : wr.cell? ⟨b1, o1 + i * 7, none⟩ = some (.int .i8 (l.getD i dn).op) := c1 wr hu i hlt 0 _ rfl
      have x1 : wr.cell? ⟨b1, o1 + i * 7 + 1, none⟩ = some (.int .i8 (l.getD i dn).kind) := c1 wr hu i hlt 1 _ rfl
      have x2 : wr.cell? ⟨b1, o1 + i * 7 + 2, none⟩ = some (.int .i64 (l.getD i dn).n) := c1 wr hu i hlt 2 _ rfl
      have x3 : wr.cell? ⟨b1, o1 + i * 7 + 3, none⟩ = some (.int .i64 (l.getD i dn).m) := c1 wr hu i hlt 3 _ rfl
      have x4 : wr.cell? ⟨b1, o1 + i * 7 + 4, none⟩ = some (.string (strOfNums (l.getD i dn).text)) := c1 wr hu i hlt 4 _ rfl
      have x5 : wr.cell? ⟨b1, o1 + i * 7 + 5, none⟩ = some (.int .i64 (l.getD i dn).pos) := c1 wr hu i hlt 5 _ rfl
      have x6 : wr.cell? ⟨b1, o1 + i * 7 + 6, none⟩ = some (.int .i64 (l.getD i dn).kids) := c1 wr hu i hlt 6 _ rfl
      have y0 : wr.cell? ⟨b2, o2 + i * 7, none⟩ = some (.int .i8 (l.getD i dn).op) := c2 wr hu i hlt 0 _ rfl
      have y1 : wr.cell? ⟨b2, o2 + i * 7 + 1, none⟩ = some (.int .i8 (l.getD i dn).kind) := c2 wr hu i hlt 1 _ rfl
      have y2 : wr.cell? ⟨b2, o2 + i * 7 + 2, none⟩ = some (.int .i64 (l.getD i dn).n) := c2 wr hu i hlt 2 _ rfl
      have y3 : wr.cell? ⟨b2, o2 + i * 7 + 3, none⟩ = some (.int .i64 (l.getD i dn).m) := c2 wr hu i hlt 3 _ rfl
      have y4 : wr.cell? ⟨b2, o2 + i * 7 + 4, none⟩ = some (.string (strOfNums (l.getD i dn).text)) := c2 wr hu i hlt 4 _ rfl
      have y5 : wr.cell? ⟨b2, o2 + i * 7 + 5, none⟩ = some (.int .i64 (l.getD i dn).pos) := c2 wr hu i hlt 5 _ rfl
      have y6 : wr.cell? ⟨b2, o2 + i * 7 + 6, none⟩ = some (.int .i64 (l.getD i dn).kids) := c2 wr hu i hlt 6 _ rfl
      have ei : IntKind.i64.wrap ((i : Int) + 1) = ((i + 1 : Nat) : Int) := by rw [IntKind.wrap_i64]; omega
      clear c1 c2 hu
      have hq := nodSame (l.getD i dn).op (l.getD i dn).kind (l.getD i dn).n (l.getD i dn).m (l.getD i dn).pos (l.getD i dn).kids (strOfNums (l.getD i dn).text)
      generalize (l.getD i dn).op = t1 at *
      generalize (l.getD i dn).kind = t2 at *
      generalize (l.getD i dn).n = t3 at *
      generalize (l.getD i dn).m = t4 at *
      generalize strOfNums (l.getD i dn).text = t5 at *
      generalize (l.getD i dn).pos = t6 at *
      generalize (l.getD i dn).kids = t7 at *
      go_wp2_with fail
      go_quiet (fail)
      go_wp2
      go_roundw
      case rel => exact ⟨i + 1, by omega, rfl, by go_num, HU.out.drewN nq⟩
      case measure => simp [intOf]; omega
    · have hlt2 : ¬ (i : Int) < (n : Int) := by omega
      go_wp2
      go_ret
      exact ⟨rfl, HU.out⟩
end TR
end Go.Proofs.Ytgahdppcdeefaaa
