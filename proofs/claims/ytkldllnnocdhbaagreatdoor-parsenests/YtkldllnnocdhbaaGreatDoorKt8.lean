/-
  Rows at once; what takes a token answers.
-/
import Derived.Test.YtkldllnnocdhbaaGreatDoorBy8
import Derived.Shelf.Abstract
import Derived.Lib.ParseIntBCases
import Derived.Lib.ItoaNum
import Derived.Test.YtkldllnnocdhbaaGreatDoorTail
import Derived.Laws.Tables
namespace Go.Proofs.YtkldllnnocdhbaaGreatDoor
open Go.RowKit
attribute [local go_sem ↓] Go.wp_at_zero Go.wp_at_succ
namespace TK
def clsI (c : Int) : Int := if blk c then 1 else if sml c then 2 else if grt c then 3 else if dig c then 4 else if c == 95 then 5 else if c == 34 then 6 else if c == 47 then 7 else 0
set_option maxRecDepth 100000 in
set_option maxHeartbeats 4000000 in
theorem classOf_ (c : Int) (w : World) : Calls Tryz.prog 161 #[.int .u8 c] w fun e w' => e = .returned (.int .i64 (clsI c)) ∧ w' = w := by
  obtain ⟨k, hk⟩ : ∃ k, k = clsI c := ⟨_, rfl⟩
  rw [← hk]
  have HK : Hid (k = clsI c) := hk
  clear hk
  go_enter Tryz.func161, Tryz.ntmps161
  go_wp2
  all_goals go_ret
  all_goals refine ⟨ret_int ?_, rfl⟩
  all_goals rw [HK.out]
  all_goals unfold clsI blk sml grt dig
  all_goals simp_all
  all_goals omega
def mrkS (s : ByteArray) : Bool := decide (s.toList = [123]) || (decide (s.toList = [125]) || (decide (s.toList = [40]) || (decide (s.toList = [41]) || (decide (s.toList = [59]) || (decide (s.toList = [44]) || (decide (s.toList = [46]) || (decide (s.toList = [61]) || (decide (s.toList = [61, 61]) || (decide (s.toList = [33]) || (decide (s.toList = [33, 61]) || (decide (s.toList = [60]) || (decide (s.toList = [60, 61]) || (decide (s.toList = [62]) || (decide (s.toList = [62, 61]) || (decide (s.toList = [43]) || (decide (s.toList = [45]) || (decide (s.toList = [42]) || (decide (s.toList = [47]) || (decide (s.toList = [37]) || (decide (s.toList = [38, 38]) || (decide (s.toList = [124, 124]))))))))))))))))))))))
set_option maxRecDepth 100000 in
set_option maxHeartbeats 4000000 in
theorem isMark_ (s : ByteArray) (w : World) : Calls Tryz.prog 130 #[.string s] w fun e w' => e = .returned (.bool (mrkS s)) ∧ w' = w := by
  obtain ⟨k, hk⟩ : ∃ k, k = mrkS s := ⟨_, rfl⟩
  rw [← hk]
  have HK : Hid (k = mrkS s) := hk
  clear hk
  go_enter Tryz.func130, Tryz.ntmps130
  go_wp2
  all_goals go_ret
  all_goals refine ⟨?_, rfl⟩
  all_goals rw [HK.out]
  all_goals unfold mrkS
  all_goals simp_all
set_option maxRecDepth 100000 in
set_option maxHeartbeats 4000000 in
theorem isPlain_ (c : Int) (w : World) : Calls Tryz.prog 165 #[.int .u8 c] w fun e w' => e = .returned (.bool (pln c)) ∧ w' = w := by
  obtain ⟨k, hk⟩ : ∃ k, k = pln c := ⟨_, rfl⟩
  rw [← hk]
  have HK : Hid (k = pln c) := hk
  clear hk
  go_enter Tryz.func165, Tryz.ntmps165
  go_wp2
  all_goals go_ret
  all_goals refine ⟨?_, rfl⟩
  all_goals rw [HK.out]
  all_goals unfold pln
  all_goals simp_all
  all_goals omega
set_option maxRecDepth 100000 in
set_option maxHeartbeats 4000000 in
theorem isEscaped_ (c : Int) (w : World) : Calls Tryz.prog 166 #[.int .u8 c] w fun e w' => e = .returned (.bool (esc c)) ∧ w' = w := by
  obtain ⟨k, hk⟩ : ∃ k, k = esc c := ⟨_, rfl⟩
  rw [← hk]
  have HK : Hid (k = esc c) := hk
  clear hk
  go_enter Tryz.func166, Tryz.ntmps166
  go_wp2
  all_goals go_ret
  all_goals refine ⟨?_, rfl⟩
  all_goals rw [HK.out]
  all_goals unfold esc
  all_goals simp_all
end TK
end Go.Proofs.YtkldllnnocdhbaaGreatDoor
namespace Go.Proofs.YtkldllnnocdhbaaGreatDoor
namespace TK
theorem u8_is {a : Int} (h : 0 ≤ a ∧ a < 256) (k : UInt8) : (UInt8.ofNat a.toNat = k) ↔ (a = (k.toNat : Int)) := by
  constructor
  · intro e
    have h1 := congrArg UInt8.toNat e
    rw [UInt8.toNat_ofNat'] at h1
    omega
  · intro e
    apply UInt8.toNat_inj.1
    rw [UInt8.toNat_ofNat']
    have := k.toNat_lt
    omega
theorem nums_list (l : List Int) : (strOfNums l).toList = l.map fun n => UInt8.ofNat n.toNat := by
  rw [ByteArray.toList_eq]
  rfl
theorem mrk_is {l : List Int} (h : Byt l) : mrkS (strOfNums l) = mrk l := by
  unfold mrkS
  rw [nums_list]
  match l, h with
  | [], _ => rfl
  | [a], h =>
    have ha := h a (by simp)
    simp only [List.map_cons, List.map_nil, mrk, sgl, List.cons.injEq, and_true, reduceCtorEq, and_false, decide_false, Bool.or_false, Bool.false_or, u8_is ha]
    rw [Bool.eq_iff_iff]
    simp
    omega
  | [a, b], h =>
    have ha := h a (by simp)
    have hb := h b (by simp)
    simp only [List.map_cons, List.map_nil, mrk, two, List.cons.injEq, and_true, reduceCtorEq, and_false, decide_false, Bool.false_or, u8_is ha, u8_is hb]
    rw [Bool.eq_iff_iff]
    simp
    omega
  | a :: b :: c :: r, _ => simp [mrk]
end TK
end Go.Proofs.YtkldllnnocdhbaaGreatDoor
namespace Go.Proofs.YtkldllnnocdhbaaGreatDoor
namespace TK
def vfr (a : Int) (l : List Int) : Int := l.foldl (fun n c => 10 * n + (c - 48)) a
theorem vfr_ge : ∀ (l : List Int) (a : Int), 0 ≤ a → (∀ c ∈ l, dig c = true) → a ≤ vfr a l
  | [], a, _, _ => Int.le_refl a
  | c :: r, a, ha, h => by
    have hc := h c (by simp)
    unfold dig at hc
    simp only [Bool.and_eq_true, decide_eq_true_eq] at hc
    have := vfr_ge r (10 * a + (c - 48)) (by omega) (fun x hx => h x (by simp [hx]))
    show a ≤ vfr (10 * a + (c - 48)) r
    omega
theorem uint_is : ∀ (l : List Int) (a : Nat), (∀ c ∈ l, dig c = true) → a ≤ 18446744073709551615 → Lib.parseUintM 18446744073709551615 a (l.map fun n => UInt8.ofNat n.toNat) = if vfr a l ≤ 18446744073709551615 then .ok (vfr a l).toNat else .range
  | [], a, _, ha => by
    show Lib.NumEnd.ok a = if (a : Int) ≤ _ then .ok ((a : Int)).toNat else _
    rw [if_pos (by omega), Int.toNat_natCast]
  | c :: r, a, h, ha => by
    have hc := h c (by simp)
    unfold dig at hc
    simp only [Bool.and_eq_true, decide_eq_true_eq] at hc
    have hr : ∀ x ∈ r, dig x = true := fun x hx => h x (by simp [hx])
    have e1 : (UInt8.ofNat c.toNat).toNat = c.toNat := by rw [UInt8.toNat_ofNat']; omega
    have e2 : vfr a (c :: r) = vfr (10 * (a : Int) + (c - 48)) r := rfl
    have hge := vfr_ge r (10 * (a : Int) + (c - 48)) (by omega) hr
    rw [List.map_cons, Lib.parseUintM, e1, if_pos (by omega), e2]
    by_cases h1 : 1844674407370955162 ≤ a
    · rw [if_pos h1, if_neg (by omega)]
    · rw [if_neg h1]
      by_cases h2 : 18446744073709551615 < a * 10 + (c.toNat - 48)
      · rw [if_pos h2, if_neg (by omega)]
      · rw [if_neg h2, uint_is r _ hr (by omega), show ((a * 10 + (c.toNat - 48) : Nat) : Int) = 10 * (a : Int) + (c - 48) by omega]
theorem int_is {l : List Int} (hl : l ≠ []) (h : ∀ c ∈ l, dig c = true) : Lib.parseIntB 64 (strOfNums l).data.toList = if 9223372036854775807 < val l then .range else .ok (val l) := by
  rw [strOfNums_data]
  cases l with
  | nil => exact absurd rfl hl
  | cons c r =>
    have hc := h c (by simp)
    unfold dig at hc
    simp only [Bool.and_eq_true, decide_eq_true_eq] at hc
    have e1 : (UInt8.ofNat c.toNat).toNat = c.toNat := by rw [UInt8.toNat_ofNat']; omega
    have e0 : vfr ((0 : Nat) : Int) (c :: r) = val (c :: r) := rfl
    have hge := vfr_ge (c :: r) ((0 : Nat) : Int) (by omega) h
    rw [List.map_cons, Lib.parseIntB_plain 64 _ _ (by rw [e1]; omega) (by rw [e1]; omega)]
    have h2 := uint_is (c :: r) 0 h (by omega)
    rw [List.map_cons, e0] at h2
    rw [e0] at hge
    unfold Lib.parseUintB
    rw [if_neg (by simp)]
    show Lib.signlessC _ (Lib.parseUintM 18446744073709551615 0 _) = _
    rw [h2]
    by_cases h3 : val (c :: r) ≤ 18446744073709551615
    · rw [if_pos h3]
      show (if 2 ^ (64 - 1) ≤ (val (c :: r)).toNat then Lib.NumEnd.range else .ok (((val (c :: r)).toNat : Nat) : Int)) = _
      by_cases h4 : 9223372036854775807 < val (c :: r)
      · rw [if_pos h4, if_pos (by omega)]
      · rw [if_neg h4, if_neg (by omega), Int.toNat_of_nonneg (by omega)]
    · rw [if_neg h3, if_pos (by omega)]
      rfl
theorem val_nn {l : List Int} (h : ∀ c ∈ l, dig c = true) : 0 ≤ val l := vfr_ge l 0 (by decide) h
theorem nue_dig {B : List Int} {p : Nat} (hp : p < B.length) (hd : dig (B.getD p 0) = true) : sub B p (nue B p) ≠ [] ∧ ∀ c ∈ sub B p (nue B p), dig c = true := by
  have h1 := nue_in hp
  refine ⟨fun h => ?_, fun c hc => ?_⟩
  · have h2 := congrArg List.length h
    rw [sub_len h1.2] at h2
    simp at h2
    omega
  · obtain ⟨i, hi, rfl⟩ := List.getElem_of_mem hc
    have hi2 : i < nue B p - p := by rw [sub_len h1.2] at hi; exact hi
    have h3 := sub_getD (B := B) hi2
    rw [List.getD_eq_getElem?_getD, List.getElem?_eq_getElem hi] at h3
    have h4 : (sub B p (nue B p))[i] = B.getD (p + i) 0 := h3
    rw [h4]
    cases i with
    | zero => exact hd
    | succ i =>
      unfold nue at hi2
      split at hi2
      · omega
      · exact spn_all (p := p + 1) (i := p + (i + 1)) (by omega) (by omega)
end TK
end Go.Proofs.YtkldllnnocdhbaaGreatDoor
namespace Go.Proofs.YtkldllnnocdhbaaGreatDoor
namespace TK
def okN (l : List Int) : Bool := decide (l ≠ []) && (decide (l.length ≤ 32) && (sml (l.getD 0 0) && l.all prt))
def okT (l : List Int) : Bool := decide (l.length ≤ 64) && l.all pln
def quC (c : Int) : List Int := if esc c then [92, c] else [c]
def quo (l : List Int) : List Int := [34] ++ (l.flatMap quC ++ [34])
def dcm (n : Int) : List Int := (Lib.itoa n).map fun b => (b.toNat : Int)
def tex (t : Tok) : List Int :=
  if t.pos < 0 ∨ t.num < 0 then []
  else if t.kind = 2 ∧ t.text = [] then dcm t.num
  else if t.num ≠ 0 then []
  else if (t.kind = 1 ∧ okN t.text = true) ∨ (t.kind = 4 ∧ mrk t.text = true) then t.text
  else if t.kind = 3 ∧ okT t.text = true then quo t.text else []
theorem takeW {f : Int → Bool} : ∀ {l : List Int}, l.all f = true → l.takeWhile f = l
  | [], _ => rfl
  | c :: r, h => by
    rw [List.all_cons, Bool.and_eq_true] at h
    rw [List.takeWhile_cons, if_pos h.1, takeW h.2]
theorem spn_whole (f : Int → Bool) (l : List Int) : (spn f l 0 = l.length) ↔ l.all f = true := by
  unfold spn
  rw [List.drop_zero, Nat.zero_add]
  constructor
  · intro h
    have h1 := List.takeWhile_prefix (l := l) f
    have h2 := h1.eq_of_length h
    rw [← h2]
    exact List.all_takeWhile
  · intro h
    rw [takeW h]
theorem nums_back (s : ByteArray) : strOfNums (s.data.toList.map fun b => (b.toNat : Int)) = s := by
  unfold strOfNums
  rw [List.map_map]
  have h : ((fun n : Int => UInt8.ofNat n.toNat) ∘ fun b : UInt8 => (b.toNat : Int)) = id := by
    funext b
    simp
  rw [h, List.map_id]
theorem byt_nums (s : ByteArray) : Byt (s.data.toList.map fun b => (b.toNat : Int)) := fun c hc => by
  obtain ⟨b, -, rfl⟩ := List.mem_map.1 hc
  have := b.toNat_lt
  omega
theorem dcm_str (n : Int) : strOfNums (dcm n) = ⟨(Lib.itoa n).toArray⟩ := by
  have h := nums_back ⟨(Lib.itoa n).toArray⟩
  exact h
theorem nums_at {l : List Int} (hl : Byt l) {i : Nat} (hi : i < l.length) (h : i < (strOfNums l).size) : (((strOfNums l)[i]'h).toNat : Int) = l.getD i 0 := by
  have h1 := hl.at i
  have h3 := strOfNums_data l
  have h2 : (strOfNums l)[i]'h = UInt8.ofNat (l[i]'hi).toNat := by
    have h4 : (strOfNums l)[i]'h = (strOfNums l).data.toList[i]'(by rw [h3]; simpa using hi) := rfl
    rw [h4, List.getElem_of_eq h3]
    simp
  rw [h2, UInt8.toNat_ofNat']
  rw [List.getD_eq_getElem?_getD, List.getElem?_eq_getElem hi] at h1 ⊢
  simp only [Option.getD_some] at h1 ⊢
  omega
theorem nums_nil {l : List Int} : (strOfNums l).toList = [] ↔ l = [] := by
  rw [nums_list]
  simp
end TK
end Go.Proofs.YtkldllnnocdhbaaGreatDoor
namespace Go.Proofs.YtkldllnnocdhbaaGreatDoor
open Go.RowKit
attribute [local go_sem ↓] Go.wp_at_zero Go.wp_at_succ
namespace TK
theorem cls_in (c : Int) : clsI c = 0 ∨ clsI c = 1 ∨ clsI c = 2 ∨ clsI c = 3 ∨ clsI c = 4 ∨ clsI c = 5 ∨ clsI c = 6 ∨ clsI c = 7 := by
  unfold clsI
  split
  · simp
  · split
    · simp
    · split
      · simp
      · split
        · simp
        · split
          · simp
          · split
            · simp
            · split <;> simp
theorem prt_cls (c : Int) : prt c = (clsI c == 2 || clsI c == 3 || clsI c == 4 || clsI c == 5) := by
  unfold clsI prt
  by_cases h0 : blk c = true
  · have h1 : sml c = false ∧ grt c = false ∧ dig c = false ∧ (c == 95) = false := by
      unfold blk at h0
      simp only [Bool.or_eq_true, beq_iff_eq] at h0
      rcases h0 with ((h | h) | h) | h <;> subst h <;> decide
    rw [h1.1, h1.2.1, h1.2.2.1, h1.2.2.2, if_pos h0]
    decide
  · rw [if_neg h0]
    cases sml c with
    | true => simp
    | false =>
      cases grt c with
      | true => simp
      | false =>
        cases dig c with
        | true => simp
        | false =>
          cases h5 : (c == 95) with
          | true => simp
          | false =>
            simp only [Bool.false_eq_true, ↓reduceIte, Bool.or_false]
            split
            · rfl
            · split <;> rfl
theorem dig_cls (c : Int) : dig c = (clsI c == 4) := by
  unfold clsI
  by_cases h0 : dig c = true
  · have h1 : blk c = false ∧ sml c = false ∧ grt c = false := by
      unfold dig at h0
      simp only [Bool.and_eq_true, decide_eq_true_eq] at h0
      unfold blk sml grt
      refine ⟨?_, ?_, ?_⟩ <;> simp <;> omega
    rw [h1.1, h1.2.1, h1.2.2, h0]
    simp
  · have h2 : dig c = false := by simpa using h0
    rw [h2]
    split
    · rfl
    · split
      · rfl
      · split
        · rfl
        · simp only [Bool.false_eq_true, ↓reduceIte]
          split
          · rfl
          · split
            · rfl
            · split <;> rfl
set_option maxRecDepth 100000 in
set_option maxHeartbeats 4000000 in
theorem ofN_ (c : Int) (g : Nat) (w : World) (h : w.cell? ⟨g, 0, none⟩ = some (.int .u64 60)) : Calls Tryz.prog 193 #[.int .u8 c, .pointer (some ⟨g, 0, none⟩)] w fun e w' => e = .returned (.bool (prt c)) ∧ Up w w' := by
  rw [prt_cls]
  have HC : Hid (∀ W, Calls Tryz.prog 161 #[.int .u8 c] W fun e w' => e = .returned (.int .i64 (clsI c)) ∧ w' = W) := fun W => classOf_ c W
  have hin := cls_in c
  generalize clsI c = k at *
  rcases hin with rfl | rfl | rfl | rfl | rfl | rfl | rfl | rfl
  all_goals
    go_enter Tryz.func193, Tryz.ntmps193
    go_wp2_with fail
    go_quiet (exact Calls.quiet_of_same (HC.out _))
    go_wp2
    go_ret
    exact ⟨rfl, (Up.refl _).drewN _⟩
set_option maxRecDepth 100000 in
set_option maxHeartbeats 4000000 in
theorem ofD_ (c : Int) (g : Nat) (w : World) (h : w.cell? ⟨g, 0, none⟩ = some (.int .u64 16)) : Calls Tryz.prog 193 #[.int .u8 c, .pointer (some ⟨g, 0, none⟩)] w fun e w' => e = .returned (.bool (dig c)) ∧ Up w w' := by
  rw [dig_cls]
  have HC : Hid (∀ W, Calls Tryz.prog 161 #[.int .u8 c] W fun e w' => e = .returned (.int .i64 (clsI c)) ∧ w' = W) := fun W => classOf_ c W
  have hin := cls_in c
  generalize clsI c = k at *
  rcases hin with rfl | rfl | rfl | rfl | rfl | rfl | rfl | rfl
  all_goals
    go_enter Tryz.func193, Tryz.ntmps193
    go_wp2_with fail
    go_quiet (exact Calls.quiet_of_same (HC.out _))
    go_wp2
    go_ret
    exact ⟨rfl, (Up.refl _).drewN _⟩
set_option maxRecDepth 100000 in
set_option maxHeartbeats 4000000 in
theorem behind_ (k : Nat) (fst cap : Array Value) (f : Int → Bool) (v : Value) (B : List Int) (p : Nat) (w : World) (hB : BL w v B) (hp : p ≤ B.length) (hn : B.length ≤ 4611686018427387904)
    (hent : ∀ args w, (callFunc k args).run Tryz.prog w = .ok (.enter k args) w) (hask : ∀ W c, Up w W → Calls Tryz.prog k (fst.push (.int .u8 c) ++ cap) W fun e W' => e = .returned (.bool (f c)) ∧ Up W W') :
    Calls Tryz.prog 162 #[v, .int .i64 p, .func (.func k) fst cap] w fun e w' => e = .returned (.int .i64 (spn f B p)) ∧ Up w w' := by
  obtain ⟨Post, hPost⟩ : ∃ P : Ending → World → Prop, P = fun e w' => e = .returned (.int .i64 (spn f B p)) ∧ Up w w' := ⟨_, rfl⟩
  rw [← hPost]
  have HPo : Hid (Post = fun e w' => e = .returned (.int .i64 (spn f B p)) ∧ Up w w') := hPost
  clear hPost
  obtain ⟨a, c, rfl, -, hc⟩ := bl_cells hB
  obtain ⟨n, hN⟩ : ∃ n, n = B.length := ⟨_, rfl⟩
  have HN : Hid (n = B.length) := hN
  rw [← hN] at hp hn hc ⊢
  have HC : Hid (∀ W, Up w W → ∀ q, q < n → ∃ b off, a = some ⟨b, off, none⟩ ∧ W.cell? ⟨b, off + q, none⟩ = some (.int .u8 (B.getD q 0))) := fun W u q hq => by
    obtain ⟨b, off, ha, hcc⟩ := hc (by omega)
    exact ⟨b, off, ha, hcc W u q hq⟩
  have HA : Hid (∀ W c, Up w W → Calls Tryz.prog k (fst.push (.int .u8 c) ++ cap) W fun e W' => e = .returned (.bool (f c)) ∧ Up W W') := hask
  clear hB hc hask hN
  go_enter Tryz.func162, Tryz.ntmps162
  go_wp2_with fail
  go_loopw [1] (fun s1 W => ∃ q : Nat, q ≤ n ∧ s1 = .int .i64 q ∧ spn f B p = spn f B q ∧ Up w W) (fun s1 _ => n - (intOf s1).toNat)
  case atStart => exact ⟨p, hp, rfl, rfl, Up.refl _⟩
  case round =>
    obtain ⟨q, hq, rfl, hs, hu⟩ := hrel
    have HS : Hid (spn f B p = spn f B q ∧ Up w wr) := ⟨hs, hu⟩
    clear hs hu
    by_cases hlt : q < n
    · have hlt2 : (q : Int) < (n : Int) := by omega
      obtain ⟨b, off, rfl, hcell⟩ := HC.out wr HS.out.2 q hlt
      have ei : IntKind.i64.wrap ((q : Int) + 1) = ((q + 1 : Nat) : Int) := by rw [IntKind.wrap_i64]; omega
      have HQ : Hid (q < B.length) := by have := HN.out; unfold Hid; omega
      have HF : Hid (∀ y, y = f (B.getD q 0) → (y = true → spn f B q = spn f B (q + 1)) ∧ (y = false → spn f B q = q)) := fun y hy => ⟨fun h => spn_more HQ.out (by rw [← hy]; exact h), fun h => spn_stop HQ.out (by rw [← hy]; exact h)⟩
      have HA2 : Hid (Calls Tryz.prog k (fst.push (.int .u8 (B.getD q 0)) ++ cap) wr fun e W' => e = .returned (.bool (f (B.getD q 0))) ∧ Up wr W') := HA.out wr _ HS.out.2
      generalize hcv : B.getD q 0 = c9 at *
      clear hcv
      go_wp2_with fail
      refine Calls.mono HA2.out ?_
      rintro r W1 ⟨rfl, u⟩
      obtain ⟨y, hy⟩ : ∃ y, y = f c9 := ⟨_, rfl⟩
      have HY := HF.out y hy
      rw [← hy]
      have HS : Hid (spn f B p = spn f B q ∧ Up w W1) := ⟨HS.out.1, HS.out.2.trans u⟩
      clear hy u hcell HA2 HF
      cases y with
      | true =>
        have HY2 : Hid (spn f B q = spn f B (q + 1)) := HY.1 rfl
        clear HY
        go_wp2_with fail
        go_roundw
        case rel => exact ⟨q + 1, by omega, by go_num, by rw [HS.out.1, HY2.out], HS.out.2⟩
        case measure => simp [intOf]; omega
      | false =>
        have HY2 : Hid (spn f B q = q) := HY.2 rfl
        clear HY
        go_wp2_with fail
        rw [HPo.out]
        exact ⟨by rw [HS.out.1, HY2.out] <;> rfl, HS.out.2⟩
    · have hlt2 : ¬ (q : Int) < (n : Int) := by omega
      have HY2 : Hid (spn f B q = q) := spn_end (by have := HN.out; omega)
      go_wp2_with fail
      rw [HPo.out]
      exact ⟨by rw [HS.out.1, HY2.out] <;> rfl, HS.out.2⟩
end TK
end Go.Proofs.YtkldllnnocdhbaaGreatDoor
namespace Go.Proofs.YtkldllnnocdhbaaGreatDoor
open Go.RowKit
namespace TK
theorem wpList_world {P : Program} {ops : Array Oper} {rest : List Oper} {a : Act} {w : World} {Q : Exit → Act → World → Prop} {W : World} (h : w = W) (k : wpList P ops Q rest a W) : wpList P ops Q rest a w := by subst h; exact k
/- a load behind a guard that says yes -/
theorem calls_world {P : Program} {f : FuncId} {args : Array Value} {a b : World} {R : Ending → World → Prop} (h : a = b) (c : Calls P f args b R) : Calls P f args a R := by rw [h]; exact c
theorem setRow_heap (w : World) (g : Nat) (old : Array Value) (t : TypeId) (fr : Nat × Nat) (C : Array Value) (h : w.heap[g]? = some (.cells old t fr)) : (w.setRow g C).heap[g]? = some (.cells C t fr) := by
  simp only [World.setRow, Array.getElem?_modify]
  rw [if_pos trivial, h]
  rfl
theorem setRow_other (w : World) (g k : Nat) (C : Array Value) (h : k ≠ g) : (w.setRow g C).heap[k]? = w.heap[k]? := by
  simp only [World.setRow, Array.getElem?_modify]
  rw [if_neg (fun e => h e.symm)]
theorem wpList_load_rowG {P : Program} {ops : Array Oper} {rest : List Oper} {o : Oper} {a : Act} {w : World} {Q : Exit → Act → World → Prop} (hw : Region.wanted o (yielded ops a.tmps) = true) (ty : TypeId) (x : Operand) (ho : o.op = .load ty x)
    (g : Nat) (hx : a.eval x = .pointer (some ⟨g, 0, none⟩)) (t : TypeId) (cs : Array Value) (fr : Nat × Nat) (d : TypeDesc) (hg : w.heap[g]? = some (.cells cs t fr))
    (hu : P.underlying ty = some d) (hd : (match d with | .struct _ | .array _ _ => true | _ => false) = true) (hi : (P.info? ty).map (·.size) = some cs.size)
    (h : wpList P ops Q rest (a.put o.dst (.agg cs)) w) : wpList P ops Q (o :: rest) a w := by
  unfold wpList
  rw [if_pos hw]
  exact Or.inl (wp_load_row ty x ho g hx t cs fr d hg hu hd hi h)
theorem up_setRow {w W : World} {g : Nat} (h : Up w W) (hg : w.heap.size ≤ g) (C : Array Value) : Up w (W.setRow g C) := by
  refine ⟨h.os, h.tape, h.output, by have := h.size; simpa [World.setRow] using this, fun k hk => ?_⟩
  rw [← h.block k hk]
  simp only [World.setRow, Array.getElem?_modify]
  rw [if_neg (by omega)]
theorem row_setRow {w : World} {base e s n g : Nat} {v : Value} {xs : List Value} {old C : Array Value} {t : TypeId} {fr : Nat × Nat} (h : w.ownsRow base e s v n xs) (hg : w.heap[g]? = some (.cells old t fr)) (ht : e ≠ t) : (w.setRow g C).ownsRow base e s v n xs := by
  refine ⟨h.1, ?_⟩
  rcases h.2 with h0 | ⟨g', cap, cur, e1, e2, e3, e4⟩
  · exact .inl h0
  · refine .inr ⟨g', cap, cur, e1, e2, ?_, e4⟩
    rw [setRow_other]
    · exact e3
    · rintro rfl
      rw [e3] at hg
      simp only [Option.some.injEq, Obj.cells.injEq] at hg
      exact ht hg.2.1
theorem res_c2 {P : Program} {fn : Func} {p q r : Tmp} {ty : TypeId} (h : fn.results = #[.cell p ty, .tmp q, .tmp r]) (tmps : Array Value) (w : World) (g : Nat) (t : TypeId) (cs : Array Value) (fr : Nat × Nat) (d : TypeDesc) (x y : Value)
    (hp : tmps.getD p undef = .pointer (some ⟨g, 0, none⟩)) (hq : tmps.getD q undef = x) (hr : tmps.getD r undef = y) (hg : w.heap[g]? = some (.cells cs t fr))
    (hu : P.underlying ty = some d) (hd : (match d with | .struct _ | .array _ _ => true | _ => false) = true) (hi : (P.info? ty).map (·.size) = some cs.size) :
    (results fn tmps).run P w = .ok (.tuple #[.agg cs, x, y]) w := by
  have hp' : tmps[p]?.getD undef = .pointer (some ⟨g, 0, none⟩) := by simpa using hp
  have hq' : tmps[q]?.getD undef = x := by simpa using hq
  have hr' : tmps[r]?.getD undef = y := by simpa using hr
  simp [results, h, hp', hq', hr', asAddr, run_loadVar_row w g t ty cs fr d hg hu hd hi]
def tz : Array Value := #[.int .i8 0, .string ⟨#[]⟩, .int .i64 0, .int .i64 0]
def tA (k : Int) (s : List Int) (n : Int) : Array Value := #[.int .i8 k, sv s, .int .i64 n, .int .i64 0]
theorem tz_one : tz.all (·.oneCell') = true := by simp [tz, Value.oneCell']
theorem tA_one (k : Int) (s : List Int) (n : Int) : (tA k s n).all (·.oneCell') = true := by simp [tA, sv, Value.oneCell']
theorem infoTs : (Tryz.prog.info? 45).map (·.size) = some 4 := by kernel_rfl
/- a token without its place, and the place behind it; or the place of the fault -/
def TkA (w : World) (A : Array Value) (q : Nat) (ok : Bool) (e : Ending) (w' : World) : Prop := e = .returned (.tuple #[.agg A, .int .i64 q, .bool ok]) ∧ Up w w'
def TkP (w : World) (s : Stp) (e : Ending) (w' : World) : Prop := match s with
  | .tok t q => TkA w (tA t.kind t.text t.num) q true e w'
  | .bad q => TkA w tz q false e w'
  | .skip _ => False
end TK
end Go.Proofs.YtkldllnnocdhbaaGreatDoor
