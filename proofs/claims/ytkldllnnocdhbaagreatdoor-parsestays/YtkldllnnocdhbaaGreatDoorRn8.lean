/-
  The document's name.
-/
import Derived.Test.YtkldllnnocdhbaaGreatDoorCq8
import Derived.Test.YtkldllnnocdhbaaGreatDoorRy8
import Derived.Handy
import Derived.Test.YtkldllnnocdhbaaGreatDoorTs8
namespace Go.Proofs.YtkldllnnocdhbaaGreatDoor
open Go.RowKit
attribute [local go_sem ↓] Go.wp_at_zero Go.wp_at_succ
namespace TK
/- a list of bytes that is nil, or lies at its block -/
theorem w64e (x : Int) : IntKind.i64.wrap x = wrap64 x := by rw [IntKind.wrap_i64, wrap64]
def LV (w : World) (v : Value) (B : List Int) : Prop := (v = .slice none 0 0 ∧ B = []) ∨ ∃ b o c, v = .slice (some ⟨b, o, none⟩) B.length c ∧ B.length ≤ c ∧ BA w b o B
theorem LV.up {w W : World} {v : Value} {B : List Int} (h : LV w v B) (u : Up w W) : LV W v B := by
  rcases h with h | ⟨b, o, c, h1, h2, h3⟩
  · exact .inl h
  · exact .inr ⟨b, o, c, h1, h2, h3.up u⟩
theorem own_lv {W : World} {base : Nat} {v : Value} {l : List Int} (h : W.ownsRow base 5 1 v l.length (bvs l)) : LV W v l := by
  have h0 := h
  rcases h.2 with ⟨rfl, h1⟩ | ⟨g, cap, cur, rfl, h1, h2, h3, h4⟩
  · exact .inl ⟨rfl, List.eq_nil_of_length_eq_zero h1⟩
  · refine .inr ⟨g, 0, cap, rfl, h3, fun W' u j hj => ?_⟩
    have h9 := h0.cellAt j (by omega)
    rw [bvs_at hj] at h9
    rw [Nat.zero_add]
    exact u.cell h9
/- what Line answers -/
def lnA (B : List Int) (k : Int) : Int × Int := if 0 ≤ k ∧ k ≤ B.length then ln (B.take k.toNat) else (0, 0)
theorem lnA_in {B : List Int} {k : Nat} (h : k ≤ B.length) : lnA B k = ln (B.take k) := by
  unfold lnA
  rw [if_pos ⟨by omega, by omega⟩, Int.toNat_natCast]
theorem lnA_out {B : List Int} {k : Int} (h : k < 0 ∨ (B.length : Int) < k) : lnA B k = (0, 0) := by
  unfold lnA
  rw [if_neg (by omega)]
end TK
end Go.Proofs.YtkldllnnocdhbaaGreatDoor
namespace Go.Proofs.YtkldllnnocdhbaaGreatDoor
open Go.RowKit
attribute [local go_sem ↓] Go.wp_at_zero Go.wp_at_succ
namespace TK
def bts (l : List Int) : List Nat := l.map Int.toNat
theorem bts_len (l : List Int) : (bts l).length = l.length := by simp [bts]
theorem bts_getD {l : List Int} (hl : Byt l) (i : Nat) (h : i < l.length) : ((bts l).getD i 0 : Int) = l.getD i 0 := by
  have h1 := hl l[i] (List.getElem_mem h)
  simp [bts, List.getD, h]
  omega
theorem bts_bys {l : List Int} (hl : Byt l) : SM.Bys (bts l) := SM.Bys.of fun c hc => by
  obtain ⟨z, hz, rfl⟩ := List.mem_map.1 hc
  have := hl z hz
  omega
theorem bts_bv {l : List Int} (hl : Byt l) : (bts l).map SM.bv = bvs l := by
  unfold bts bvs
  rw [List.map_map]
  refine List.map_congr_left fun z hz => ?_
  have := hl z hz
  show Value.int .u8 ((z.toNat : Nat) : Int) = _
  congr 1
  omega
theorem BL.lies {W : World} {v : Value} {l : List Int} (h : BL W v l) (hl : Byt l) (hz : ∀ cap, v ≠ .slice none 0 (cap + 1)) : SM.Lies W v (bts l) := by
  obtain ⟨-, a, cap, rfl, hcap, hc⟩ := h
  have hbl : (bts l).length = l.length := bts_len l
  refine ⟨a, cap, by rw [hbl], fun ha => ?_, fun hn => ?_⟩
  · subst ha
    by_cases h0 : l.length = 0
    · cases cap with
      | zero => rfl
      | succ c => exact absurd (by rw [h0]) (hz c)
    · obtain ⟨b, off, hb, -⟩ := hc h0
      cases hb
  · rw [hbl] at hn
    obtain ⟨b, off, rfl, hcell⟩ := hc hn
    refine ⟨b, off, rfl, fun i hi => ?_⟩
    rw [hbl] at hi
    rw [hcell i (by omega), bvs_at hi, bts_getD hl i hi]
/- a list with 64 marks behind it -/
def WB (w W : World) (g : Nat) (B : List Int) : Prop := SM.Row W w.heap.size g (SM.fillL (bts B) (B.length + 64) (B.length + 64))
theorem WB.up {w W W' : World} {g : Nat} {B : List Int} (h : WB w W g B) (u : Up W W') : WB w W' g B := SM.Row.up h u
theorem WB.ba {w W : World} {g : Nat} {B : List Int} (h : WB w W g B) (hl : Byt B) : BA W g 0 B := fun W' u j hj => by
  have h1 := SM.Row.cell (WB.up h u) j (by rw [SM.fillL_len]; omega)
  rw [SM.fillL_at _ _ _ _ (by omega), if_pos (by omega), if_pos (by rw [bts_len]; omega), bts_getD hl j hj] at h1
  rw [Nat.zero_add]
  exact h1
theorem WB.lv {w W : World} {g : Nat} {B : List Int} (h : WB w W g B) (hl : Byt B) : LV W (.slice (some ⟨g, 0, none⟩) B.length (B.length + 64)) B := .inr ⟨g, 0, _, rfl, by omega, h.ba hl⟩
theorem WB.bl {w W : World} {g : Nat} {B : List Int} (h : WB w W g B) (hl : Byt B) : BL W (.slice (some ⟨g, 0, none⟩) B.length (B.length + 64)) B := ba_bl (h.ba hl) (by omega)
theorem WB.spare {w W : World} {g : Nat} {B : List Int} (h : WB w W g B) : ∀ j, B.length ≤ j → j < B.length + 64 → W.cell? ⟨g, j, none⟩ = some (.int .u8 (SM.mark j : Nat)) := fun j h1 h2 => by
  rw [SM.Row.cell h j (by rw [SM.fillL_len]; omega), SM.fillL_at _ _ _ _ h2, if_pos h2, if_neg (by rw [bts_len]; omega)]
end TK
end Go.Proofs.YtkldllnnocdhbaaGreatDoor
namespace Go.Proofs.YtkldllnnocdhbaaGreatDoor
open Go.RowKit
attribute [local go_sem ↓] Go.wp_at_zero Go.wp_at_succ
namespace TK
theorem val_take {D : List Int} {i : Nat} (hi : i < D.length) : val (D.take (i + 1)) = 10 * val (D.take i) + (D.getD i 0 - 48) := by
  rw [List.take_add_one, List.getElem?_eq_getElem hi, List.getD_eq_getElem?_getD, List.getElem?_eq_getElem hi]
  exact val_app _ _
theorem val_more {D : List Int} (hd : ∀ c ∈ D, dig c = true) (i : Nat) : val (D.take i) ≤ val D := by
  have h := vfr_ge (D.drop i) (val (D.take i)) (val_nn fun c hc => hd c (List.mem_of_mem_take hc)) (fun c hc => hd c (List.mem_of_mem_drop hc))
  have e : vfr (val (D.take i)) (D.drop i) = val D := by
    unfold vfr val
    rw [← List.foldl_append, List.take_append_drop]
  omega
set_option maxRecDepth 100000 in
set_option maxHeartbeats 8000000 in
theorem rvalue_ (v : Value) (D : List Int) (w : World) (hv : BL w v D) (hd : ∀ c ∈ D, dig c = true) (hn : D.length ≤ 65536) :
    Calls Tryz.prog 87 #[v] w fun e w' => e = .returned (.tuple #[.int .i64 (if 9223372036854775807 < val D then 0 else val D), .bool (decide (val D ≤ 9223372036854775807))]) ∧ w' = w := by
  obtain ⟨Post, hPost⟩ : ∃ P : Ending → World → Prop, P = fun e w' => e = .returned (.tuple #[.int .i64 (if 9223372036854775807 < val D then 0 else val D), .bool (decide (val D ≤ 9223372036854775807))]) ∧ w' = w := ⟨_, rfl⟩
  rw [← hPost]
  have HPo : Hid (Post = fun e w' => e = .returned (.tuple #[.int .i64 (if 9223372036854775807 < val D then 0 else val D), .bool (decide (val D ≤ 9223372036854775807))]) ∧ w' = w) := hPost
  clear hPost
  obtain ⟨n, hN⟩ : ∃ n, n = D.length := ⟨_, rfl⟩
  have HN : Hid (n = D.length) := hN
  have HD : Hid (∀ c ∈ D, dig c = true) := hd
  obtain ⟨a, c, hvv, -, hce⟩ := bl_cells hv
  rw [← hN] at hvv hce hn
  have HC : Hid (n ≠ 0 → ∃ b off, a = some ⟨b, off, none⟩ ∧ ∀ j, j < n → w.cell? ⟨b, off + j, none⟩ = some (.int .u8 (D.getD j 0))) := fun h0 => by
    obtain ⟨b, off, h1, h2⟩ := hce h0
    exact ⟨b, off, h1, fun j hj => h2 w (Up.refl _) j (by omega)⟩
  subst hvv
  clear hv hce hN hd
  go_enter Tryz.func87, Tryz.ntmps87
  go_wp2_with fail
  go_loopw [4, 5] (fun s4 s5 W => ∃ (i : Nat) (N : Int), i ≤ n ∧ N = val (D.take i) ∧ 0 ≤ N ∧ N ≤ 9223372036854775807 ∧ s4 = .int .i64 N ∧ s5 = .int .i64 i ∧ W = w) (fun _ s5 _ => n - (intOf s5).toNat)
  case atStart => exact ⟨0, 0, Nat.zero_le _, rfl, by omega, by omega, rfl, rfl, rfl⟩
  case round =>
    obtain ⟨i, N, hi, hNv, hN0, hN1, rfl, rfl, rfl⟩ := hrel
    by_cases hlt : i < n
    · have hlt2 : (i : Int) < (n : Int) := by omega
      obtain ⟨b, off, rfl, hcc⟩ := HC.out (by omega)
      have hx := hcc i (by omega)
      have ei : IntKind.i64.wrap ((i : Int) + 1) = ((i + 1 : Nat) : Int) := by rw [IntKind.wrap_i64]; omega
      have hdg : dig (D.getD i 0) = true := by
        have h9 : i < D.length := by have := HN.out; omega
        rw [List.getD_eq_getElem?_getD, List.getElem?_eq_getElem h9]
        exact HD.out _ (List.getElem_mem h9)
      unfold dig at hdg
      simp only [Bool.and_eq_true, decide_eq_true_eq] at hdg
      have HS : Hid (val (D.take (i + 1)) = 10 * N + (D.getD i 0 - 48)) := by unfold Hid; rw [hNv]; exact val_take (by have := HN.out; omega)
      have HM : Hid (val (D.take (i + 1)) ≤ val D) := val_more HD.out _
      clear hcc hNv
      generalize D.getD i 0 = d at *
      obtain ⟨x, rfl⟩ : ∃ x, d = x + 48 := ⟨d - 48, by omega⟩
      have hx0 : 0 ≤ x := by omega
      have hx9 : x < 10 := by omega
      rw [show x + 48 - 48 = x by omega] at HS
      have e1 : IntKind.u8.wrap (x + 48 - 48) = x := by rw [IntKind.wrap_u8]; omega
      have e2 : IntKind.i64.wrap x = x := by rw [IntKind.wrap_i64]; omega
      have e3 : IntKind.i64.wrap (9223372036854775807 - x) = 9223372036854775807 - x := by rw [IntKind.wrap_i64]; omega
      have e4 : IntKind.i64.wrap ((9223372036854775807 - x).tdiv 10) = (9223372036854775807 - x) / 10 := by rw [Int.tdiv_eq_ediv_of_nonneg (by omega), IntKind.wrap_i64]; omega
      by_cases hbig : (9223372036854775807 - x) / 10 < N
      · have HV : Hid (9223372036854775807 < val D) := by have h1 := HS.out; have h2 := HM.out; unfold Hid; omega
        clear HS HM hdg
        go_wp2_with fail
        rw [HPo.out]
        refine ⟨?_, rfl⟩
        rw [if_pos HV.out, decide_eq_false (by have := HV.out; omega)] <;> rfl
      · have e5 : IntKind.i64.wrap (10 * N) = 10 * N := by rw [IntKind.wrap_i64]; omega
        have e6 : IntKind.i64.wrap (10 * N + x) = 10 * N + x := by rw [IntKind.wrap_i64]; omega
        clear HM hdg
        go_wp2_with fail
        go_roundw
        case rel => exact ⟨i + 1, 10 * N + x, by omega, HS.out.symm, by omega, by omega, by go_num, by go_num, trivial⟩
        case measure => simp [intOf] <;> omega
    · have hlt2 : ¬ (i : Int) < (n : Int) := by omega
      obtain rfl : i = n := by omega
      have HV : Hid (N = val D) := by unfold Hid; rw [hNv, HN.out, List.take_length]
      clear hNv
      go_wp2_with fail
      rw [HPo.out]
      refine ⟨?_, rfl⟩
      have h9 : ¬ 9223372036854775807 < val D := by have := HV.out; omega
      rw [if_neg h9, decide_eq_true (by omega), HV.out] <;> rfl
end TK
end Go.Proofs.YtkldllnnocdhbaaGreatDoor
namespace Go.Proofs.YtkldllnnocdhbaaGreatDoor
open Go.RowKit
attribute [local go_sem ↓] Go.wp_at_zero Go.wp_at_succ
namespace TK
/- the cutter at block g: its source, its place, its fault -/
structure RC (w0 : World) (g : Nat) (vb : Value) (B : List Int) (p : Nat) (bad : Int) (W : World) : Prop where
  hp : W.heap[g]? = some (.cells #[vb, .int .i64 p, .int .i64 bad] 73 (0, 0))
  up : Up w0 W
  le : w0.heap.size ≤ g
  bl : BL w0 vb B
  byt : Byt B
  len : B.length ≤ 65536
  at_le : p ≤ B.length
theorem RC.kb {w0 : World} {g : Nat} {vb : Value} {B : List Int} {p : Nat} {bad : Int} {W W' : World} (h : RC w0 g vb B p bad W) (u : Up W W') : RC w0 g vb B p bad W' := ⟨u.heap h.hp, h.up.trans u, h.le, h.bl, h.byt, h.len, h.at_le⟩
theorem RC.cells {w0 : World} {g : Nat} {vb : Value} {B : List Int} {p : Nat} {bad : Int} {W : World} (h : RC w0 g vb B p bad W) : W.cell? ⟨g, 0, none⟩ = some vb ∧ W.cell? ⟨g, 1, none⟩ = some (.int .i64 p) ∧ W.cell? ⟨g, 2, none⟩ = some (.int .i64 bad) := by
  refine ⟨?_, ?_, ?_⟩ <;> simp only [World.cell?, h.hp] <;> rfl
theorem RC.go {w0 : World} {g : Nat} {vb : Value} {B : List Int} {p : Nat} {bad : Int} {W : World} (h : RC w0 g vb B p bad W) (q : Nat) (hq : q ≤ B.length) : RC w0 g vb B q bad (W.setCell ⟨g, 1, none⟩ (.int .i64 (q : Int))) :=
  ⟨by rw [set_cells h.hp]; simp, Below.setCell h.up h.le _, h.le, h.bl, h.byt, h.len, hq⟩
theorem RC.fault {w0 : World} {g : Nat} {vb : Value} {B : List Int} {p : Nat} {bad : Int} {W : World} (h : RC w0 g vb B p bad W) (q : Int) : RC w0 g vb B p q (W.setCell ⟨g, 2, none⟩ (.int .i64 q)) :=
  ⟨by rw [set_cells h.hp]; simp, Below.setCell h.up h.le _, h.le, h.bl, h.byt, h.len, h.at_le⟩
theorem nums_inj {a b : List Int} (ha : Byt a) (hb : Byt b) : (strOfNums a).toList = (strOfNums b).toList ↔ a = b := by
  constructor
  · intro h
    rw [nums_list, nums_list] at h
    have k : ∀ l : List Int, Byt l → (l.map fun n => UInt8.ofNat n.toNat).map (fun b => (b.toNat : Int)) = l := by
      intro l hl
      rw [List.map_map]
      conv => rhs; rw [← List.map_id l]
      refine List.map_congr_left fun c hc => ?_
      have := hl c hc
      simp only [Function.comp, UInt8.toNat_ofNat', id]
      omega
    rw [← k a ha, ← k b hb, h]
  · intro h
    rw [h]
/- whether l stands at the place p -/
def isB (B : List Int) (p : Nat) (l : List Int) : Bool := decide (p + l.length ≤ B.length) && decide (sub B p (p + l.length) = l)
set_option maxRecDepth 100000 in
set_option maxHeartbeats 8000000 in
theorem ris_ (w0 : World) (g : Nat) (vb : Value) (B : List Int) (p : Nat) (bad : Int) (l : List Int) (w : World) (h : RC w0 g vb B p bad w) (hl : Byt l) (hl0 : l.length ≠ 0) (hl9 : l.length ≤ 65536) :
    Calls Tryz.prog 58 #[.pointer (some ⟨g, 0, none⟩), .string (strOfNums l)] w fun e w' => e = .returned (.bool (isB B p l)) ∧ Up w w' := by
  obtain ⟨Post, hPost⟩ : ∃ P : Ending → World → Prop, P = fun e w' => e = .returned (.bool (isB B p l)) ∧ Up w w' := ⟨_, rfl⟩
  rw [← hPost]
  have HPo : Hid (Post = fun e w' => e = .returned (.bool (isB B p l)) ∧ Up w w') := hPost
  clear hPost
  obtain ⟨x0, x1, x2⟩ := h.cells
  obtain ⟨a, c, hvb, hc, hce⟩ := bl_cells (h.bl.up h.up)
  have hlen := h.len
  have hle := h.at_le
  have HBY : Hid (Byt B) := h.byt
  have hsz : (strOfNums l).size = l.length := strOfNums_size _
  obtain ⟨n, hN⟩ : ∃ n, n = B.length := ⟨_, rfl⟩
  have HN : Hid (n = B.length) := hN
  rw [← hN] at hvb hc hce hlen hle
  subst hvb
  have e1 : IntKind.i64.wrap ((p : Int) + ((strOfNums l).size : Int)) = (p : Int) + ((strOfNums l).size : Int) := by rw [IntKind.wrap_i64]; omega
  by_cases hin : p + l.length ≤ n
  · obtain ⟨b, off, rfl, hba⟩ := hce (by omega)
    have hq1 : ((p : Int) + ((strOfNums l).size : Int)) ≤ (n : Int) := by omega
    have hq2 : p + (strOfNums l).size ≤ n := by omega
    have hpc : p < c := by omega
    have hs0 : (0 : Int) ≤ (p : Int) + ((strOfNums l).size : Int) := by omega
    have hs1 : (p : Int) + ((strOfNums l).size : Int) ≤ (c : Int) := by omega
    have hs2 : ((p : Int) + ((strOfNums l).size : Int)).toNat = p + (strOfNums l).size := by omega
    have hs3 : p ≤ c := by omega
    have hs4 : p + (strOfNums l).size ≤ c := by omega
    have hs5 : ¬ c = p := by omega
    have hBA : BA w b off B := fun W u j hj => hba W u j (by omega)
    have hcv : ∀ k, (convert 26 9 (.slice (some ⟨b, off + p, none⟩) (strOfNums l).size (c - p))).run Tryz.prog (w.drewN k) = .ok (.string (strOfNums (sub B p (p + (strOfNums l).size)))) (w.drewN k) := fun k => by
      have h9 := conv_sub (hBA.up ((Up.refl w).drewN k)) (p := p) (e := p + l.length) (by omega) (c - p)
      rw [Nat.add_sub_cancel_left, ← hsz] at h9
      exact h9
    have HE : Hid (isB B p l = decide ((strOfNums (sub B p (p + (strOfNums l).size))).toList = (strOfNums l).toList)) := by
      unfold Hid isB
      rw [decide_eq_true (show p + l.length ≤ B.length by omega), Bool.true_and, hsz]
      exact decide_eq_decide.2 (nums_inj (byt_sub HBY.out (by omega)) hl).symm
    clear hba hBA hsz hN hin hl h hl0 hl9
    generalize strOfNums (sub B p (p + (strOfNums l).size)) = y at *
    generalize strOfNums l = s at *
    by_cases hy : y.toList = s.toList
    · have HE2 : Hid (isB B p l = true) := by unfold Hid; rw [HE.out]; exact decide_eq_true hy
      clear HE
      have hy2 : (y.toList == s.toList) = true := by simpa using hy
      go_enter Tryz.func58, Tryz.ntmps58
      go_wp2_with fail
      go_quiet (fail)
      go_wp2
      rw [HPo.out, HE2.out]
      exact ⟨rfl, (Up.refl _).drewN nq⟩
    · have HE2 : Hid (isB B p l = false) := by unfold Hid; rw [HE.out]; exact decide_eq_false hy
      clear HE
      have hy2 : (y.toList == s.toList) = false := by simpa using hy
      go_enter Tryz.func58, Tryz.ntmps58
      go_wp2_with fail
      go_quiet (fail)
      go_wp2
      rw [HPo.out, HE2.out]
      exact ⟨rfl, (Up.refl _).drewN nq⟩
  · have hq1 : ¬ ((p : Int) + ((strOfNums l).size : Int)) ≤ (n : Int) := by omega
    have HE2 : Hid (isB B p l = false) := by
      unfold Hid isB
      rw [decide_eq_false (by omega), Bool.false_and]
    have hq2 : decide ((p : Int) + ((strOfNums l).size : Int) ≤ (n : Int)) = false := decide_eq_false hq1
    clear hce hsz hN hin hl h hl0 hl9
    generalize strOfNums l = s at *
    go_enter Tryz.func58, Tryz.ntmps58
    go_wp2_with fail
    go_quiet (fail)
    go_wp2
    rw [HPo.out, HE2.out]
    exact ⟨rfl, (Up.refl _).drewN nq⟩
end TK
end Go.Proofs.YtkldllnnocdhbaaGreatDoor
namespace Go.Proofs.YtkldllnnocdhbaaGreatDoor
open Go.RowKit
attribute [local go_sem ↓] Go.wp_at_zero Go.wp_at_succ
namespace TK
/- but for block g nothing that was there has changed -/
def Kg (g : Nat) (w w' : World) : Prop := w.heap.size ≤ w'.heap.size ∧ ∀ k, k < w.heap.size → k ≠ g → w'.heap[k]? = w.heap[k]?
theorem Kg.refl (g : Nat) (w : World) : Kg g w w := ⟨Nat.le_refl _, fun _ _ _ => rfl⟩
theorem Kg.trans {g : Nat} {a b c : World} (h : Kg g a b) (k : Kg g b c) : Kg g a c := ⟨Nat.le_trans h.1 k.1, fun j hj hg => (k.2 j (by have := h.1; omega) hg).trans (h.2 j hj hg)⟩
theorem Kg.up {g : Nat} {a b c : World} (h : Kg g a b) (u : Up b c) : Kg g a c := h.trans ⟨u.size, fun j hj _ => u.block j hj⟩
theorem Kg.set {g : Nat} {a b : World} (h : Kg g a b) (j : Nat) (v : Value) : Kg g a (b.setCell ⟨g, j, none⟩ v) := by
  refine h.trans ⟨by simp [World.setCell], fun k hk hg => ?_⟩
  simp only [World.setCell, Array.getElem?_modify]
  rw [if_neg (fun e => hg e.symm)]
def ptAt (W : World) (g : Nat) : Nat := match W.cell? ⟨g, 1, none⟩ with
  | some (.int _ z) => z.toNat
  | _ => 0
theorem RC.ptAt {w0 : World} {g : Nat} {vb : Value} {B : List Int} {p : Nat} {bad : Int} {W : World} (h : RC w0 g vb B p bad W) : ptAt W g = p := by
  unfold TK.ptAt
  rw [h.cells.2.1]
  exact Int.toNat_natCast p
set_option maxRecDepth 100000 in
set_option maxHeartbeats 8000000 in
theorem cname_ (w0 : World) (g : Nat) (vb : Value) (B : List Int) (p : Nat) (bad : Int) (w : World) (h : RC w0 g vb B p bad w) (hp0 : p < B.length) :
    Calls Tryz.prog 60 #[.pointer (some ⟨g, 0, none⟩)] w fun e w' => e = .returned (.string (strOfNums (sub B p (spn prt B p)))) ∧ RC w0 g vb B (spn prt B p) (if 32 < spn prt B p - p then (p : Int) else bad) w' ∧ Kg g w w' := by
  obtain ⟨Post, hPost⟩ : ∃ P : Ending → World → Prop, P = fun e w' => e = .returned (.string (strOfNums (sub B p (spn prt B p)))) ∧ RC w0 g vb B (spn prt B p) (if 32 < spn prt B p - p then (p : Int) else bad) w' ∧ Kg g w w' := ⟨_, rfl⟩
  rw [← hPost]
  have HPo : Hid (Post = fun e w' => e = .returned (.string (strOfNums (sub B p (spn prt B p)))) ∧ RC w0 g vb B (spn prt B p) (if 32 < spn prt B p - p then (p : Int) else bad) w' ∧ Kg g w w') := hPost
  clear hPost
  have HR : Hid (RC w0 g vb B p bad w) := h
  obtain ⟨x0, x1, x2⟩ := h.cells
  have hlen := h.len
  have HSL : Hid (spn prt B p ≤ B.length) := spn_le prt (by omega)
  obtain ⟨a, c, hvb, hc, hce⟩ := bl_cells h.bl
  obtain ⟨b, off, rfl, hba⟩ := hce (by omega)
  have HBA : Hid (BA w0 b off B) := hba
  obtain ⟨n, hN⟩ : ∃ n, n = B.length := ⟨_, rfl⟩
  have HN : Hid (n = B.length) := hN
  rw [← hN] at hvb hc hlen hp0 HSL
  subst hvb
  clear h hba hce hN
  go_enter Tryz.func60, Tryz.ntmps60
  go_wp2_with fail
  go_loopw [8] (fun _ W => ∃ q : Nat, p ≤ q ∧ spn prt B q = spn prt B p ∧ RC w0 g (.slice (some ⟨b, off, none⟩) n c) B q bad W ∧ Kg g w W) (fun _ W => n - ptAt W g)
  case atStart => exact ⟨p, Nat.le_refl _, rfl, HR.out, Kg.refl _ _⟩
  case round =>
    obtain ⟨q, hpq, hsp, hrc, hkg⟩ := hrel
    have HRC : Hid (RC w0 g (.slice (some ⟨b, off, none⟩) n c) B q bad wr) := hrc
    have HKG : Hid (Kg g w wr) := hkg
    have HSP : Hid (spn prt B q = spn prt B p) := hsp
    have hq := hrc.at_le
    rw [← HN.out] at hq
    obtain ⟨y0, y1, y2⟩ := hrc.cells
    have f1 : wr.frozen? ⟨g, 1, none⟩ = false := by simp [World.frozen?, hrc.hp]
    have f2 : wr.frozen? ⟨g, 2, none⟩ = false := by simp [World.frozen?, hrc.hp]
    clear x0 x1 x2 hrc hkg hsp
    by_cases hlt : q < n
    · have hlt2 : (q : Int) < (n : Int) := by omega
      have hd2 : decide ((q : Int) < (n : Int)) = true := decide_eq_true hlt2
      have hx := HBA.out wr HRC.out.up q (by have := HN.out; omega)
      have HPT : Hid (∀ k, Calls Tryz.prog 86 #[.int .u8 (B.getD q 0)] k fun e w' => e = .returned (.bool (prt (B.getD q 0))) ∧ w' = k) := fun k => part_ _ k
      have HST : Hid (prt (B.getD q 0) = true → spn prt B (q + 1) = spn prt B q) := fun h9 => (spn_more (by have := HN.out; omega) h9).symm
      have HSS : Hid (prt (B.getD q 0) = false → spn prt B q = q) := fun h9 => spn_stop (by have := HN.out; omega) h9
      generalize B.getD q 0 = d at *
      generalize prt d = pd at *
      cases pd
      · have HQ : Hid (q = spn prt B p) := by unfold Hid; rw [← HSP.out]; exact (HSS.out rfl).symm
        clear HST HSS
        have e1 : IntKind.i64.wrap ((q : Int) - (p : Int)) = (q : Int) - (p : Int) := by rw [IntKind.wrap_i64]; omega
        have hpc : p < c := by omega
        have hs3 : p ≤ c := by omega
        have hs4 : q ≤ c := by omega
        have hs5 : ¬ c = p := by omega
        have HCV : Hid (∀ W, Up w0 W → (convert 26 9 (.slice (some ⟨b, off + p, none⟩) (q - p) (c - p))).run Tryz.prog W = .ok (.string (strOfNums (sub B p q))) W) := fun W hu => conv_sub (HBA.out.up hu) (by have := HN.out; omega) _
        by_cases hbig : 32 < q - p
        · have hb2 : (32 : Int) < (q : Int) - (p : Int) := by omega
          go_wp2_with fail
          go_quiet (exact Calls.quiet_of_same (HPT.out _))
          obtain ⟨W9, hW9⟩ : ∃ W9, (wr.drewN nq).setCell ⟨g, 2, none⟩ (.int .i64 (p : Int)) = W9 := ⟨_, rfl⟩
          have HR9 : Hid (RC w0 g (.slice (some ⟨b, off, none⟩) n c) B q (p : Int) W9) := by unfold Hid; rw [← hW9]; exact (HRC.out.kb ((Up.refl _).drewN nq)).fault _
          have HK9 : Hid (Kg g w W9) := by unfold Hid; rw [← hW9]; exact (HKG.out.up ((Up.refl _).drewN nq)).set _ _
          obtain ⟨z0, z1, z2⟩ := HR9.out.cells
          have hcv : ∀ k, (convert 26 9 (.slice (some ⟨b, off + p, none⟩) (q - p) (c - p))).run Tryz.prog (W9.drewN k) = .ok (.string (strOfNums (sub B p q))) (W9.drewN k) := fun k => HCV.out _ (HR9.out.up.drewN k)
          go_wp2_with fail
          go_quiet (fail)
          go_wp2_with fail
          rw [HPo.out, ← HQ.out, if_pos hbig]
          exact ⟨rfl, HR9.out.kb ((Up.refl _).drewN _), HK9.out.up ((Up.refl _).drewN _)⟩
        · have hb2 : ¬ (32 : Int) < (q : Int) - (p : Int) := by omega
          have hcv : ∀ k, (convert 26 9 (.slice (some ⟨b, off + p, none⟩) (q - p) (c - p))).run Tryz.prog (wr.drewN k) = .ok (.string (strOfNums (sub B p q))) (wr.drewN k) := fun k => HCV.out _ (HRC.out.up.drewN k)
          have hcw : ∀ k m, (convert 26 9 (.slice (some ⟨b, off + p, none⟩) (q - p) (c - p))).run Tryz.prog ((wr.drewN k).drewN m) = .ok (.string (strOfNums (sub B p q))) ((wr.drewN k).drewN m) := fun k m => HCV.out _ ((HRC.out.up.drewN k).drewN m)
          go_wp2_with fail
          go_quiet (exact Calls.quiet_of_same (HPT.out _))
          go_wp2_with fail
          go_quiet (fail)
          go_wp2_with fail
          rw [HPo.out, ← HQ.out, if_neg hbig]
          exact ⟨rfl, HRC.out.kb (((Up.refl _).drewN _).drewN _), HKG.out.up (((Up.refl _).drewN _).drewN _)⟩
      · have HQ : Hid (spn prt B (q + 1) = spn prt B p) := by unfold Hid; rw [← HSP.out]; exact HST.out rfl
        have ei : IntKind.i64.wrap ((q : Int) + 1) = ((q + 1 : Nat) : Int) := by rw [IntKind.wrap_i64]; omega
        clear HST HSS
        go_wp2_with fail
        go_quiet (exact Calls.quiet_of_same (HPT.out _))
        go_wp2_with fail
        go_roundw
        case rel => exact ⟨q + 1, by omega, HQ.out, (HRC.out.kb ((Up.refl _).drewN nq)).go (q + 1) (by have := HN.out; omega), (HKG.out.up ((Up.refl _).drewN nq)).set _ _⟩
        case measure =>
          have hcst : (q : Int) + 1 = ((q + 1 : Nat) : Int) := by omega
          rw [hcst, ((HRC.out.kb ((Up.refl _).drewN nq)).go (q + 1) (by have := HN.out; omega)).ptAt, HRC.out.ptAt]
          omega
    · have hlt2 : ¬ (q : Int) < (n : Int) := by omega
      have hd2 : decide ((q : Int) < (n : Int)) = false := decide_eq_false hlt2
      have HQ : Hid (q = spn prt B p) := by unfold Hid; rw [← HSP.out]; exact (spn_end (by have := HN.out; omega)).symm
      have e1 : IntKind.i64.wrap ((q : Int) - (p : Int)) = (q : Int) - (p : Int) := by rw [IntKind.wrap_i64]; omega
      have hpc : p < c := by omega
      have hs3 : p ≤ c := by omega
      have hs4 : q ≤ c := by omega
      have hs5 : ¬ c = p := by omega
      have HCV : Hid (∀ W, Up w0 W → (convert 26 9 (.slice (some ⟨b, off + p, none⟩) (q - p) (c - p))).run Tryz.prog W = .ok (.string (strOfNums (sub B p q))) W) := fun W hu => conv_sub (HBA.out.up hu) (by have := HN.out; omega) _
      by_cases hbig : 32 < q - p
      · have hb2 : (32 : Int) < (q : Int) - (p : Int) := by omega
        go_wp2_with fail
        go_quiet (fail)
        obtain ⟨W9, hW9⟩ : ∃ W9, (wr.drewN nq).setCell ⟨g, 2, none⟩ (.int .i64 (p : Int)) = W9 := ⟨_, rfl⟩
        have HR9 : Hid (RC w0 g (.slice (some ⟨b, off, none⟩) n c) B q (p : Int) W9) := by unfold Hid; rw [← hW9]; exact (HRC.out.kb ((Up.refl _).drewN nq)).fault _
        have HK9 : Hid (Kg g w W9) := by unfold Hid; rw [← hW9]; exact (HKG.out.up ((Up.refl _).drewN nq)).set _ _
        obtain ⟨z0, z1, z2⟩ := HR9.out.cells
        have hcv : ∀ k, (convert 26 9 (.slice (some ⟨b, off + p, none⟩) (q - p) (c - p))).run Tryz.prog (W9.drewN k) = .ok (.string (strOfNums (sub B p q))) (W9.drewN k) := fun k => HCV.out _ (HR9.out.up.drewN k)
        go_wp2_with fail
        go_quiet (fail)
        go_wp2_with fail
        rw [HPo.out, ← HQ.out, if_pos hbig]
        exact ⟨rfl, HR9.out.kb ((Up.refl _).drewN _), HK9.out.up ((Up.refl _).drewN _)⟩
      · have hb2 : ¬ (32 : Int) < (q : Int) - (p : Int) := by omega
        have hcv : ∀ k, (convert 26 9 (.slice (some ⟨b, off + p, none⟩) (q - p) (c - p))).run Tryz.prog (wr.drewN k) = .ok (.string (strOfNums (sub B p q))) (wr.drewN k) := fun k => HCV.out _ (HRC.out.up.drewN k)
        have hcw : ∀ k m, (convert 26 9 (.slice (some ⟨b, off + p, none⟩) (q - p) (c - p))).run Tryz.prog ((wr.drewN k).drewN m) = .ok (.string (strOfNums (sub B p q))) ((wr.drewN k).drewN m) := fun k m => HCV.out _ ((HRC.out.up.drewN k).drewN m)
        go_wp2_with fail
        go_quiet (fail)
        go_wp2_with fail
        go_quiet (fail)
        go_wp2_with fail
        rw [HPo.out, ← HQ.out, if_neg hbig]
        exact ⟨rfl, HRC.out.kb (((Up.refl _).drewN _).drewN _), HKG.out.up (((Up.refl _).drewN _).drewN _)⟩
end TK
end Go.Proofs.YtkldllnnocdhbaaGreatDoor
