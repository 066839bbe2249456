/-
  Lists of tokens that came in, and lists of bytes in a list.
-/
import Derived.Test.YtkldllnnocdhbaaGreatDoorCp8
import Derived.Test.YtkldllnnocdhbaaGreatDoorCq8
import Derived.Deep.Cut
namespace Go.Proofs.YtkldllnnocdhbaaGreatDoor
open Go.RowKit
attribute [local go_sem ↓] Go.wp_at_zero Go.wp_at_succ
namespace TK
theorem cls_blk {c : Int} (h : clsI c = 1) : blk c = true := by
  unfold clsI at h
  split at h
  · assumption
  · repeat' split at h
    all_goals omega
theorem cls_sml {c : Int} (h : clsI c = 2) : blk c = false ∧ sml c = true := by
  unfold clsI at h
  split at h
  · omega
  · split at h
    · rename_i h1 h2; exact ⟨by simpa using h1, h2⟩
    · repeat' split at h
      all_goals omega
theorem cls_dig {c : Int} (h : clsI c = 4) : blk c = false ∧ sml c = false ∧ dig c = true := by
  unfold clsI at h
  split at h
  · omega
  · split at h
    · omega
    · split at h
      · omega
      · split at h
        · rename_i h1 h2 _ h4; exact ⟨by simpa using h1, by simpa using h2, h4⟩
        · repeat' split at h
          all_goals omega
theorem cls_quo {c : Int} (h : clsI c = 6) : c = 34 := by
  unfold clsI at h
  repeat' split at h
  all_goals first | omega | (rename_i h9; simpa using h9)
theorem cls_sls {c : Int} (h : clsI c = 7) : c = 47 := by
  unfold clsI at h
  repeat' split at h
  all_goals first | omega | (rename_i h9; simpa using h9)
theorem cls_oth {c : Int} (h1 : clsI c ≠ 1) (h2 : clsI c ≠ 2) (h4 : clsI c ≠ 4) (h6 : clsI c ≠ 6) (h7 : clsI c ≠ 7) : blk c = false ∧ sml c = false ∧ dig c = false ∧ c ≠ 34 ∧ c ≠ 47 := by
  have k1 : blk c = false := by
    cases hb : blk c with
    | false => rfl
    | true => exact absurd (by unfold clsI; rw [if_pos hb]) h1
  have k2 : sml c = false := by
    cases hb : sml c with
    | false => rfl
    | true => exact absurd (by unfold clsI; rw [if_neg (by rw [k1]; decide), if_pos hb]) h2
  have k6 : c ≠ 34 := by
    rintro rfl
    exact h6 (by decide)
  have k7 : c ≠ 47 := by
    rintro rfl
    exact h7 (by decide)
  refine ⟨k1, k2, ?_, k6, k7⟩
  rw [dig_cls]
  simpa using h4
theorem not_rmk {B : List Int} {p : Nat} (h : B.getD p 0 ≠ 47) : rmk B p = false := by
  unfold rmk
  rw [show (B.getD p 0 == 47) = false by simpa using h]
  rfl
theorem stp_1 {B : List Int} {p : Nat} (h : clsI (B.getD p 0) = 1) : stp B p = .skip (p + 1) := by
  unfold stp
  rw [if_pos (cls_blk h)]
theorem stp_2 {B : List Int} {p : Nat} (h : clsI (B.getD p 0) = 2) : stp B p = nme B p := by
  obtain ⟨h1, h2⟩ := cls_sml h
  unfold stp
  rw [h1, not_rmk (by unfold sml at h2; simp only [Bool.and_eq_true, decide_eq_true_eq] at h2; omega), h2]
  rfl
theorem stp_4 {B : List Int} {p : Nat} (h : clsI (B.getD p 0) = 4) : stp B p = nmb B p ∧ dig (B.getD p 0) = true := by
  obtain ⟨h1, h2, h3⟩ := cls_dig h
  refine ⟨?_, h3⟩
  unfold stp
  rw [h1, not_rmk (by unfold dig at h3; simp only [Bool.and_eq_true, decide_eq_true_eq] at h3; omega), h2, h3]
  rfl
theorem stp_6 {B : List Int} {p : Nat} (h : clsI (B.getD p 0) = 6) : stp B p = tx B p := by
  have h1 := cls_quo h
  unfold stp
  rw [not_rmk (by omega), h1]
  rfl
theorem stp_7 {B : List Int} {p : Nat} (h : clsI (B.getD p 0) = 7) : stp B p = if decide (p + 1 < B.length) && B.getD (p + 1) 0 == 47 then .skip (spn nnl B p) else mkk B p := by
  have h1 := cls_sls h
  unfold stp rmk
  rw [h1]
  rfl
theorem stp_0 {B : List Int} {p : Nat} (h1 : clsI (B.getD p 0) ≠ 1) (h2 : clsI (B.getD p 0) ≠ 2) (h4 : clsI (B.getD p 0) ≠ 4) (h6 : clsI (B.getD p 0) ≠ 6) (h7 : clsI (B.getD p 0) ≠ 7) : stp B p = mkk B p := by
  obtain ⟨k1, k2, k3, k4, k5⟩ := cls_oth h1 h2 h4 h6 h7
  unfold stp
  rw [k1, not_rmk k5, k2, k3, show (B.getD p 0 == 34) = false by simpa using k4]
  rfl
end TK
end Go.Proofs.YtkldllnnocdhbaaGreatDoor
namespace Go.Proofs.YtkldllnnocdhbaaGreatDoor
open Go.RowKit
attribute [local go_sem ↓] Go.wp_at_zero Go.wp_at_succ
namespace TK
def CuP (w : World) (B : List Int) (e : Ending) (w' : World) : Prop := ∃ v, e = .returned (.tuple #[v, .int .i64 (cuE B), .int .i64 (cuA B)]) ∧ w'.ownsRow w.heap.size 45 4 v (cuL B).length (tvs (cuL B)) ∧ Up w w'
theorem cu_bad {w W : World} {B : List Int} {q : Nat} (hl : B.length ≤ 65536) (h : cutF B (B.length + 1) 0 [] = .error q) (u : Up w W) : CuP w B (.returned (.tuple #[.slice none 0 0, .int .i64 21, .int .i64 (q : Int)])) W := by
  have h1 : cuE B = 21 := by unfold cuE; rw [if_neg (by omega), h]
  have h2 : cuA B = (q : Int) := by unfold cuA; rw [if_neg (by omega), h]
  have h3 : cuL B = [] := by unfold cuL; rw [if_neg (by omega), h]
  refine ⟨.slice none 0 0, by rw [h1, h2], ?_, u⟩
  rw [h3]
  exact World.ownsRow_nil _ _ _ _
theorem cu_long {w : World} {B : List Int} (hl : 65536 < B.length) : CuP w B (.returned (.tuple #[.slice none 0 0, .int .i64 20, .int .i64 65536])) w := by
  have h1 : cuE B = 20 := by unfold cuE; rw [if_pos hl]
  have h2 : cuA B = 65536 := by unfold cuA; rw [if_pos hl]
  have h3 : cuL B = [] := by unfold cuL; rw [if_pos hl]
  refine ⟨.slice none 0 0, by rw [h1, h2], ?_, Up.refl _⟩
  rw [h3]
  exact World.ownsRow_nil _ _ _ _
theorem cu_ok {w W : World} {B : List Int} {L : List Tok} {v : Value} {m : Nat} (hl : B.length ≤ 65536) (h : cutF B (B.length + 1) 0 [] = .ok L) (hm : L.length = m) (hr : W.ownsRow w.heap.size 45 4 v m (tvs L)) (u : Up w W) : CuP w B (.returned (.tuple #[v, .int .i64 0, .int .i64 0])) W := by
  have h1 : cuE B = 0 := by unfold cuE; rw [if_neg (by omega), h]
  have h2 : cuA B = 0 := by unfold cuA; rw [if_neg (by omega), h]
  have h3 : cuL B = L := by unfold cuL; rw [if_neg (by omega), h]
  refine ⟨v, by rw [h1, h2], ?_, u⟩
  rw [h3, hm]
  exact hr
end TK
end Go.Proofs.YtkldllnnocdhbaaGreatDoor
namespace Go.Proofs.YtkldllnnocdhbaaGreatDoor
open Go.RowKit
attribute [local go_sem ↓] Go.wp_at_zero Go.wp_at_succ
namespace TK
def TLs (W : World) (v : Value) (l : List Tok) : Prop := LC W v 4 l.length (tvs l)
theorem TLs.up {W W' : World} {v : Value} {l : List Tok} (h : TLs W v l) (u : Up W W') : TLs W' v l := LC.up h u
def dt : Tok := ⟨0, [], 0, 0⟩
theorem tvs_get : ∀ (l : List Tok) (i j : Nat), i < l.length → j < 4 → (tvs l)[i * 4 + j]? = (tvs1 (l.getD i dt))[j]?
  | [], i, j, h, _ => by simp at h
  | t :: l, 0, j, _, hj => by
    show (tvs1 t ++ tvs l)[0 * 4 + j]? = (tvs1 t)[j]?
    rw [List.getElem?_append_left (by simp [tvs1]; omega)]
    congr 1
    omega
  | t :: l, i + 1, j, h, hj => by
    show (tvs1 t ++ tvs l)[(i + 1) * 4 + j]? = (tvs1 ((t :: l).getD (i + 1) dt))[j]?
    rw [List.getElem?_append_right (by simp [tvs1]; omega)]
    have h9 := tvs_get l i j (by simpa using h) hj
    rw [show (i + 1) * 4 + j - (tvs1 t).length = i * 4 + j by simp [tvs1]; omega, h9]
    rfl
theorem tl_at {w : World} {v : Value} {l : List Tok} (h : TLs w v l) : ∃ a cap, v = .slice a l.length cap ∧ l.length ≤ cap ∧ (l.length ≠ 0 → ∃ b off, a = some ⟨b, off, none⟩ ∧ ∀ W, Up w W → ∀ i, i < l.length → W.cell? ⟨b, off + i * 4, none⟩ = some (.int .i8 (l.getD i dt).kind) ∧ W.cell? ⟨b, off + i * 4 + 1, none⟩ = some (.string (strOfNums (l.getD i dt).text)) ∧ W.cell? ⟨b, off + i * 4 + 2, none⟩ = some (.int .i64 (l.getD i dt).num) ∧ W.cell? ⟨b, off + i * 4 + 3, none⟩ = some (.int .i64 (l.getD i dt).pos)) := by
  obtain ⟨h0, a, cap, hv, hc, h⟩ := h
  refine ⟨a, cap, hv, hc, fun hn => ?_⟩
  obtain ⟨b, off, ha, hcell⟩ := h hn
  refine ⟨b, off, ha, fun W hu i hi => ?_⟩
  have k : ∀ j, j < 4 → W.cell? ⟨b, off + i * 4 + j, none⟩ = (tvs1 (l.getD i dt))[j]? := fun j hj => by
    have h9 := hcell (i * 4 + j) (by omega)
    rw [tvs_get l i j hi hj, List.getElem?_eq_getElem (by simpa [tvs1] using hj)] at h9
    rw [List.getElem?_eq_getElem (by simpa [tvs1] using hj), Nat.add_assoc]
    exact hu.cell h9
  exact ⟨k 0 (by decide), k 1 (by decide), k 2 (by decide), k 3 (by decide)⟩
theorem own_tl {W : World} {base : Nat} {v : Value} {l : List Tok} (h : W.ownsRow base 45 4 v l.length (tvs l)) : TLs W v l := by
  refine ⟨tvs_len l, ?_⟩
  rcases h.2 with ⟨rfl, h0⟩ | ⟨g, cap, cur, rfl, h1, h2, h3, h4, h5, h6⟩
  · exact ⟨none, 0, by rw [h0], by omega, fun hn => absurd h0 hn⟩
  · refine ⟨_, cap, rfl, h3, fun _ => ⟨g, 0, rfl, fun j hj => ?_⟩⟩
    rw [Nat.zero_add, h.cellAt j (by omega)]
theorem sTok : Tryz.prog.underlying 45 = some (.struct (Tryz.prog.fieldsOf 45)) := by kernel_rfl
theorem hTok : Tryz.prog.stoodInHeld 45 = false := by kernel_rfl
theorem tokSame (k : Int) (s : ByteArray) (n p : Int) : ∀ W, (binOp .neq 45 (.agg #[.int .i8 k, .string s, .int .i64 n, .int .i64 p]) (.agg #[.int .i8 k, .string s, .int .i64 n, .int .i64 p])).run Tryz.prog W = .ok (.bool false) W := fun W => by
  have h : (Op.equalIn 10000 45 (.agg #[.int .i8 k, .string s, .int .i64 n, .int .i64 p]) (.agg #[.int .i8 k, .string s, .int .i64 n, .int .i64 p])).run Tryz.prog W = .ok true W := by
    have u3 := Tryz.underlying3
    have v3 := Tryz.isAgg3
    have z3 := Tryz.sizeOf3
    have u4 := Tryz.underlying35
    have v4 := Tryz.isAgg35
    have z4 := Tryz.sizeOf35
    have u5 := Tryz.underlying9
    have v5 := Tryz.isAgg9
    have z5 := Tryz.sizeOf9
    have u6 := Tryz.underlying2
    have v6 := Tryz.isAgg2
    have z6 := Tryz.sizeOf2
    rw [show (10000 : Nat) = 9999 + 1 from rfl, run_equalIn_agg W 9999 45 _ _ sTok hTok]
    simp only [Program.fieldsOf, Tryz.underlying45]
    go_simp
  rw [run_neq_struct, h]
  simp [Result.andThen]
set_option maxRecDepth 100000 in
set_option maxHeartbeats 8000000 in
theorem eqTok_ (v u : Value) (l : List Tok) (w : World) (hv : TLs w v l) (hu : TLs w u l) (hn : l.length ≤ 4294967296) :
    Calls Tryz.prog 18 #[v, u] w fun e w' => e = .returned (.bool true) ∧ Up w w' := by
  obtain ⟨a1, k1, rfl, -, h1⟩ := tl_at hv
  obtain ⟨a2, k2, rfl, -, h2⟩ := tl_at hu
  obtain ⟨n, hn0⟩ : ∃ n, n = l.length := ⟨_, rfl⟩
  rw [← hn0] at hn h1 h2 ⊢
  have H1 : Hid (n ≠ 0 → ∃ b off, a1 = some ⟨b, off, none⟩ ∧ ∀ W, Up w W → ∀ i, i < n → W.cell? ⟨b, off + i * 4, none⟩ = some (.int .i8 (l.getD i dt).kind) ∧ W.cell? ⟨b, off + i * 4 + 1, none⟩ = some (.string (strOfNums (l.getD i dt).text)) ∧ W.cell? ⟨b, off + i * 4 + 2, none⟩ = some (.int .i64 (l.getD i dt).num) ∧ W.cell? ⟨b, off + i * 4 + 3, none⟩ = some (.int .i64 (l.getD i dt).pos)) := h1
  have H2 : Hid (n ≠ 0 → ∃ b off, a2 = some ⟨b, off, none⟩ ∧ ∀ W, Up w W → ∀ i, i < n → W.cell? ⟨b, off + i * 4, none⟩ = some (.int .i8 (l.getD i dt).kind) ∧ W.cell? ⟨b, off + i * 4 + 1, none⟩ = some (.string (strOfNums (l.getD i dt).text)) ∧ W.cell? ⟨b, off + i * 4 + 2, none⟩ = some (.int .i64 (l.getD i dt).num) ∧ W.cell? ⟨b, off + i * 4 + 3, none⟩ = some (.int .i64 (l.getD i dt).pos)) := h2
  clear hv hu h1 h2 hn0
  go_enter Tryz.func18, Tryz.ntmps18
  go_wp2_with fail
  go_loopw [4, 5] (fun s4 s5 wr => ∃ i : Nat, i ≤ n ∧ s4 = .bool false ∧ s5 = .int .i64 i ∧ Up w wr) (fun _ s5 _ => n - (intOf s5).toNat)
  case atStart => exact ⟨0, Nat.zero_le _, rfl, rfl, Up.refl _⟩
  case round =>
    obtain ⟨i, hi, rfl, rfl, hu⟩ := hrel
    have HU : Hid (Up w wr) := hu
    by_cases hlt : i < n
    · have hlt2 : (i : Int) < (n : Int) := by omega
      obtain ⟨b1, o1, rfl, c1⟩ := H1.out (by omega)
      obtain ⟨b2, o2, rfl, c2⟩ := H2.out (by omega)
      obtain ⟨x0, x1, x2, x3⟩ := c1 _ hu i hlt
      obtain ⟨y0, y1, y2, y3⟩ := c2 _ hu i hlt
      have ei : IntKind.i64.wrap ((i : Int) + 1) = ((i + 1 : Nat) : Int) := by rw [IntKind.wrap_i64]; omega
      clear c1 c2 hu
      have hq := tokSame (l.getD i dt).kind (strOfNums (l.getD i dt).text) (l.getD i dt).num (l.getD i dt).pos
      generalize (l.getD i dt).kind = t1 at *
      generalize strOfNums (l.getD i dt).text = t2 at *
      generalize (l.getD i dt).num = t3 at *
      generalize (l.getD i dt).pos = t4 at *
      go_wp2_with fail
      go_quiet (fail)
      go_wp2
      go_roundw
      case rel => exact ⟨i + 1, by omega, rfl, by go_num, HU.out.drewN nq⟩
      case measure => simp [intOf]; omega
    · have hlt2 : ¬ (i : Int) < (n : Int) := by omega
      go_wp2
      go_ret
      exact ⟨rfl, HU.out⟩
end TK
end Go.Proofs.YtkldllnnocdhbaaGreatDoor
namespace Go.Proofs.YtkldllnnocdhbaaGreatDoor
open Go.ChangeShapes Go.WideShapes Go.ChangeAt Go.RowKit
namespace TK
theorem weightsAll_mem {H : Type} {P : Program} {e : TypeId} {d : DataW H} {n : Nat} (hn : n ∈ d.weights P e) : ∀ (l : List (DataW H)), d ∈ l → n ∈ DataW.weightsAll P e l
  | [], h => (List.not_mem_nil h).elim
  | c :: r, h => by
    simp only [DataW.weightsAll, List.mem_append]
    rcases List.mem_cons.1 h with rfl | h
    · exact .inl hn
    · exact .inr (weightsAll_mem hn r h)
section
variable {H : Type} {enc : TypeId × Value → H} {W : World}
theorem open_flatP {E : Type} (t e s bytes fuel : Nat) (ht : Tryz.prog.underlying t = some (.slice e)) (ce : Tryz.prog.cellsOf e = s) (hs : 0 < s) (hby : Tryz.prog.bytesOf e = bytes) (hb2 : 2 ≤ bytes) (f : E → List Value) (Pr : E → Prop) (dx : E) (hf : ∀ x, (f x).length = s)
    (he : ∀ cs n d p, DataW.trod enc Tryz.prog W 0 (fun _ => true) true n e cs = some (d, p) → (∀ n, n ∈ DataW.weights Tryz.prog e d → n ≤ reachBytes) → ∃ x : E, cs = f x ∧ Pr x) {v : Value} {d : DataW H} {p : List MemPlace}
    (h : DataW.trod enc Tryz.prog W 0 (fun _ => true) true fuel t [v] = some (d, p)) (hz : ∀ n, n ∈ DataW.weights Tryz.prog t d → n ≤ reachBytes) :
    ∃ xs : List E, LC W v s xs.length (xs.flatMap f) ∧ (∀ x ∈ xs, Pr x) ∧ xs.length ≤ 140737488355328 := by
  rcases Deep.open_slice ht h with ⟨hcs, _⟩ | ⟨a, len, cap, m, n, D, Pl, hcs, _, hl, hm, hmm, hx, hel⟩
  · obtain rfl : v = .slice none 0 0 := by simpa using hcs
    exact ⟨[], ⟨by simp, none, 0, rfl, Nat.le_refl _, fun h => absurd rfl h⟩, fun x hx => absurd hx (List.not_mem_nil), Nat.zero_le _⟩
  · obtain rfl : v = .slice (some a) len cap := by simpa using hcs
    have hmm : m = cap := by simpa using hmm
    subst hmm
    have hd : d = _ := congrArg Prod.fst hx
    have hb := hz ((len + (m - len)) * bytes) (by rw [hd]; simp [DataW.weights, ht, hby])
    have hr : reachBytes ≤ 281474976710656 := by decide
    have hlen2 : len * 2 ≤ 281474976710656 := by
      have h1 : len * 2 ≤ (len + (m - len)) * bytes := Nat.mul_le_mul (by omega) hb2
      omega
    have each : ∀ i, ∃ x : E, i < len → W.cells? 0 (a.add (i * s)) s = some (f x) ∧ Pr x := by
      intro i
      by_cases hi : i < len
      · obtain ⟨cs', h1, h2⟩ := hel i (by omega)
        obtain ⟨x, hx', hp⟩ := he cs' n _ _ h2 (fun n hn => by
          refine hz n ?_
          rw [hd]
          simp only [DataW.weights, ht]
          exact List.mem_cons_of_mem _ (List.mem_append_left _ (weightsAll_mem hn _ (List.mem_map.2 ⟨i, List.mem_range.2 hi, rfl⟩))))
        rw [ce] at h1
        exact ⟨x, fun _ => ⟨by rw [h1, hx'], hp⟩⟩
      · exact ⟨dx, fun h => absurd h hi⟩
    obtain ⟨X, hX⟩ := Classical.axiomOfChoice each
    have hlen : ((List.range len).map X).length = len := by simp
    refine ⟨(List.range len).map X, ⟨by rw [flat_len f s hf], some a, m, by rw [hlen], by rw [hlen]; exact hl, fun hn => ?_⟩, fun x hx => ?_, by rw [hlen]; omega⟩
    · rw [hlen] at hn
      have hspot : a.spot = none := by
        obtain ⟨_, hl0, hc0⟩ := World.cells?_some (hX 0 (by omega)).1
        have := hc0 0 (by omega)
        rw [List.getElem?_eq_getElem (by omega)] at this
        simpa [Addr.add] using World.cell?_spot this
      obtain ⟨b, off, spot⟩ := a
      simp only at hspot
      subst hspot
      refine ⟨b, off, rfl, fun j hj => ?_⟩
      rw [hlen] at hj
      have hi : j / s < len := (Nat.div_lt_iff_lt_mul hs).2 hj
      have hmod : j % s < s := Nat.mod_lt _ hs
      obtain ⟨_, hl0, hc0⟩ := World.cells?_some (hX (j / s) hi).1
      have h1 := hc0 (j % s) hmod
      rw [Addr.add_mid, Addr.add_mid] at h1
      have e1 : j / s * s + j % s = j := by rw [Nat.mul_comm]; exact Nat.div_add_mod j s
      rw [Nat.add_assoc, e1] at h1
      rw [h1]
      have h2 := flat_get f s hf dx ((List.range len).map X) (j / s) (j % s) (by rw [hlen]; exact hi) hmod
      rw [e1] at h2
      rw [h2]
      simp [List.getD, hi]
    · obtain ⟨i, hi, rfl⟩ := List.mem_map.1 hx
      exact (hX i (List.mem_range.1 hi)).2
/- tokens -/
def TokOk (t : Tok) : Prop := Byt t.text ∧ t.text.length ≤ 281474976710656 ∧ -9223372036854775808 ≤ t.num ∧ t.num ≤ 9223372036854775807
set_option maxRecDepth 100000 in
theorem tok_of (cs : List Value) (n : Nat) (d : DataW H) (p : List MemPlace) (h : DataW.trod enc Tryz.prog W 0 (fun _ => true) true n 45 cs = some (d, p)) (hz : ∀ n, n ∈ DataW.weights Tryz.prog 45 d → n ≤ reachBytes) : ∃ t : Tok, cs = tvs1 t ∧ TokOk t := by
  obtain ⟨xs, k, -, hx, hl, hlen, hfd⟩ := DataW.trod_struct Tryz.underlying45 h
  have hl : cs.length = 4 := by rw [hl]; kernel_rfl
  have hlen : xs.length = 4 := hlen
  have hd : d = .agg (xs.map (·.1)) := congrArg Prod.fst hx
  match cs, hl with
  | [a, b, c, e], _ =>
    have f0 : DataW.trod enc Tryz.prog W 0 (fun _ => true) true k 35 (([a, b, c, e].drop 0).take (Tryz.prog.cellsOf 35)) = xs[0]? := hfd 0 _ rfl
    rw [cI8, List.getElem?_eq_getElem (by omega)] at f0
    have f1 : DataW.trod enc Tryz.prog W 0 (fun _ => true) true k 9 (([a, b, c, e].drop 1).take (Tryz.prog.cellsOf 9)) = xs[1]? := hfd 1 _ rfl
    rw [cSt, List.getElem?_eq_getElem (by omega)] at f1
    have f2 : DataW.trod enc Tryz.prog W 0 (fun _ => true) true k 2 (([a, b, c, e].drop 2).take (Tryz.prog.cellsOf 2)) = xs[2]? := hfd 2 _ rfl
    rw [cI6, List.getElem?_eq_getElem (by omega)] at f2
    have f3 : DataW.trod enc Tryz.prog W 0 (fun _ => true) true k 3 (([a, b, c, e].drop 3).take (Tryz.prog.cellsOf 3)) = xs[3]? := hfd 3 _ rfl
    rw [cIn, List.getElem?_eq_getElem (by omega)] at f3
    obtain ⟨z0, e0, -, -⟩ := DataW.trod_int Tryz.underlying35 f0
    obtain ⟨z1, e1, x1, -⟩ := DataW.trod_string Tryz.underlying9 f1
    obtain ⟨z2, e2, -, w2⟩ := DataW.trod_int Tryz.underlying2 f2
    obtain ⟨z3, e3, -, -⟩ := DataW.trod_int Tryz.underlying3 f3
    simp at e0 e1 e2 e3
    have hb := bounds_i64 w2
    have hs := hz z1.data.toList.length (by
      rw [hd]
      simp only [DataW.weights, Tryz.underlying45]
      refine DataW.weights_mem_each (j := 1) (t := 9) (d := (xs[1]'(by omega)).1) rfl (by simp [List.getElem?_eq_getElem (show 1 < xs.length by omega)]) _ ?_
      rw [x1]
      simp [DataW.weights])
    have hr : reachBytes ≤ 281474976710656 := by decide
    refine ⟨⟨z0, z1.data.toList.map fun b => (b.toNat : Int), z2, z3⟩, ?_, byt_nums z1, ?_, (by show -9223372036854775808 ≤ z2; omega), (by show z2 ≤ 9223372036854775807; omega)⟩
    · unfold tvs1 sv
      rw [nums_back, e0, e1, e2, e3]
    · rw [List.length_map]
      omega
set_option maxRecDepth 100000 in
theorem open_toks {base : Nat} {v : Value} {d : DataW H} {p : List MemPlace} (hv : Value.okWide Tryz.prog W .any base 22 v) (h : DataW.Trod enc Tryz.prog W 0 (fun _ => true) true 22 v d p) (hz : ∀ n, n ∈ DataW.weights Tryz.prog 22 d → n ≤ reachBytes) :
    ∃ l : List Tok, TLs W v l ∧ (∀ t ∈ l, TokOk t) ∧ l.length ≤ 140737488355328 := by
  obtain ⟨a9, n9, c9, rfl⟩ := okWide_slice Tryz.underlying22 hv
  obtain ⟨fuel, hf⟩ := h
  exact open_flatP 22 45 4 40 fuel Tryz.underlying22 (by kernel_rfl) (by decide) (by kernel_rfl) (by decide) tvs1 TokOk dt (fun _ => rfl) tok_of (v := .slice a9 n9 c9) (d := d) (p := p) hf hz
/- lists of bytes in a list -/
def RowsB (W : World) (v : Value) (l : List (List Int)) : Prop := ∃ V : List Value, V.length = l.length ∧ LC W v 1 l.length V ∧ ∀ i, i < l.length → BL W (V.getD i (.slice none 0 0)) (l.getD i []) ∧ Byt (l.getD i []) ∧ (l.getD i []).length ≤ 281474976710656
def bwF (x : List Int × Value) : List Value := [x.2]
theorem bwF_map (xs : List (List Int × Value)) : xs.flatMap bwF = xs.map (·.2) := by
  induction xs with
  | nil => rfl
  | cons x r ih => rw [List.flatMap_cons, ih]; rfl
theorem row_of (cs : List Value) (n : Nat) (d : DataW H) (p : List MemPlace) (h : DataW.trod enc Tryz.prog W 0 (fun _ => true) true n 26 cs = some (d, p)) (hz : ∀ n, n ∈ DataW.weights Tryz.prog 26 d → n ≤ reachBytes) : ∃ x : List Int × Value, cs = bwF x ∧ BL W x.2 x.1 ∧ Byt x.1 ∧ x.1.length ≤ 281474976710656 := by
  obtain ⟨v, rfl⟩ : ∃ v, cs = [v] := by
    rcases Deep.open_slice Tryz.underlying26 h with ⟨hcs, _⟩ | ⟨a, len, cap, m, n, D, Pl, hcs, _⟩
    · exact ⟨_, hcs⟩
    · exact ⟨_, hcs⟩
  obtain ⟨xs, h1, h2, -⟩ := open_flat1 (E := Bt) 26 5 1 1 n Tryz.underlying26 (by kernel_rfl) (by decide) (by kernel_rfl) (by decide) btv ⟨0, by decide, by decide⟩ (fun _ => rfl) byt_of (v := v) (d := d) (p := p) h hz
  refine ⟨(xs.map (·.1), v), rfl, ?_, fun c hc => ?_, by simpa using h2⟩
  · show BL W v _
    unfold BL
    rw [List.length_map, btv_all]
    exact h1
  · obtain ⟨x, -, rfl⟩ := List.mem_map.1 hc
    exact x.2
set_option maxRecDepth 100000 in
theorem open_rowsB {base : Nat} {v : Value} {d : DataW H} {p : List MemPlace} (hv : Value.okWide Tryz.prog W .any base 47 v) (h : DataW.Trod enc Tryz.prog W 0 (fun _ => true) true 47 v d p) (hz : ∀ n, n ∈ DataW.weights Tryz.prog 47 d → n ≤ reachBytes) :
    ∃ l : List (List Int), RowsB W v l ∧ l.length ≤ 140737488355328 := by
  obtain ⟨a9, n9, c9, rfl⟩ := okWide_slice Tryz.underlying47 hv
  obtain ⟨fuel, hf⟩ := h
  obtain ⟨xs, h1, h2, h3⟩ := open_flatP 47 26 1 24 fuel Tryz.underlying47 (by kernel_rfl) (by decide) (by kernel_rfl) (by decide) bwF (fun x => BL W x.2 x.1 ∧ Byt x.1 ∧ x.1.length ≤ 281474976710656) ([], .slice none 0 0) (fun _ => rfl) row_of (v := .slice a9 n9 c9) (d := d) (p := p) hf hz
  rw [bwF_map] at h1
  refine ⟨xs.map (·.1), ⟨xs.map (·.2), by simp, by rw [List.length_map]; exact h1, fun i hi => ?_⟩, by simpa using h3⟩
  have hi : i < xs.length := by simpa using hi
  have e1 : (xs.map (·.1)).getD i [] = (xs[i]).1 := by simp [List.getD, hi]
  have e2 : (xs.map (·.2)).getD i (.slice none 0 0) = (xs[i]).2 := by simp [List.getD, hi]
  rw [e1, e2]
  exact h2 _ (List.getElem_mem hi)
end
end TK
end Go.Proofs.YtkldllnnocdhbaaGreatDoor
