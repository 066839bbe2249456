/-
  The program's parser: cards and packs.
-/
import Derived.Test.YtkldllnnocdhbaaGreatDoorBxl10
namespace Go.Proofs.YtkldllnnocdhbaaGreatDoor
open Go.RowKit
attribute [local go_sem ↓] Go.wp_at_zero Go.wp_at_succ
namespace TP
open TR (Nd Byt nums_inj)
open TK (Tok)
set_option maxRecDepth 100000 in
set_option maxHeartbeats 16000000 in
theorem pcard_ (w0 W : World) (b bt off n c ml ms i d : Nat) (l : List Tok) (hE : Ev w0 b bt off n c l) (ho : Only b w0 W) (hi : i < n) (hP : QS W b bt off n c ml ms i d) (hd : d ≤ 64) (N : Nat) (R : Rs) (hl : (tk l (l.length - 1)).kind = 0) (hX : Ex l n) (hF : ∀ k, k ≤ N → Prt w0 b bt off n c ml ms l k 119 .line) (hR : P l (N + 1) .card i d = some R) : Calls Tryz.prog 78 #[.pointer (some ⟨b, 0, none⟩)] W (QG b bt off n c ml ms d R W) := by
  obtain ⟨Post, hPost⟩ : ∃ P : Ending → World → Prop, P = QG b bt off n c ml ms d R W := ⟨_, rfl⟩
  rw [← hPost]
  have HPo : Hid (Post = QG b bt off n c ml ms d R W) := hPost
  clear hPost
  have HE : Hid (Ev w0 b bt off n c l) := hE
  have HXX : Hid (Ex l n) := hX
  have HW : Hid (Only b w0 W) := ho
  have HP : Hid (QS W b bt off n c ml ms i d) := hP
  have HLA : Hid ((tk l (l.length - 1)).kind = 0) := hl
  have HBL : Hid (b < W.heap.size) := hP.cells.2.2.2.2.2.2
  have HLP : Hid (∀ k, k ≤ N → Prt w0 b bt off n c ml ms l k 119 .line) := hF
  rw [P] at hR
  clear hE ho hP hl hX hF
  go_enter Tryz.func78, Tryz.ntmps78
  have HC1 : Hid _ := here_ w0 W b bt off n c ml ms i d l HE.out HW.out hi HP.out 2
  go_wp2_with fail
  refine Calls.mono HC1.out ?_
  rintro r9 w1 ⟨uw1, g, rfl, hgw1, hcw1⟩
  have HSw1 : Hid (ST W w1 b bt off n c ml ms i d g (⟨2, 0, 0, 0, [], (tk l i).pos, 0⟩ : Nd) (.slice none 0 0) [] .nil) := ST.made (Only.up uw1) (HP.out.up uw1) HBL.out hgw1 hcw1
  have hjw1 : i < n := hi
  clear uw1 hgw1 hcw1 HC1
  have HC2 : Hid _ := takeWord_ w0 w1 b bt off n c ml ms i d l HE.out (HW.out.trans HSw1.out.o) hjw1 HSw1.out.p ⟨#[99, 97, 114, 100]⟩ [99, 97, 114, 100] (by unfold TR.Byt; decide) (congrArg ByteArray.toList (show (⟨#[99, 97, 114, 100]⟩ : ByteArray) = strOfNums [99, 97, 114, 100] from rfl)) (by decide)
  go_wp2_with fail
  refine Calls.mono HC2.out ?_
  rintro r9 w2 ⟨ow2, ⟨ht, rfl, pw2⟩ | ⟨ht, rfl⟩⟩
  · rw [if_pos ht] at hR
    have HSw2 : Hid (ST W w2 b bt off n c ml ms (i + 1) d g (⟨2, 0, 0, 0, [], (tk l i).pos, 0⟩ : Nd) (.slice none 0 0) [] .nil) := HSw1.out.only ow2 pw2
    have hjw2 : (i + 1) < n := HE.out.next hjw1 (wd_kind ht)
    clear ow2 pw2 ht HSw1 hjw1 HC2
    have HC3 : Hid _ := takeText_ w0 w2 b bt off n c ml ms (i + 1) d l HE.out (HW.out.trans HSw2.out.o) hjw2 HSw2.out.p HXX.out
    go_wp2_with fail
    refine Calls.mono HC3.out ?_
    rintro r9 w3 ⟨ow3, ⟨ht, rfl, pw3⟩ | ⟨ht, rfl⟩⟩
    · rw [if_pos ht] at hR
      have HSw3 : Hid (ST W w3 b bt off n c ml ms ((i + 1) + 1) d g (⟨2, 0, 0, 0, [], (tk l i).pos, 0⟩ : Nd) (.slice none 0 0) [] .nil) := HSw2.out.only ow3 pw3
      have hjw3 : ((i + 1) + 1) < n := HE.out.next hjw2 (by rw [ht]; decide)
      clear ow3 pw3 ht HSw2 hjw2 HC3
      obtain ⟨c4, f4, hs4⟩ := HSw3.out.set 4 (a' := (⟨2, 0, 0, 0, (tk l (i + 1)).text, (tk l i).pos, 0⟩ : Nd)) (x := .string (strOfNums (tk l (i + 1)).text)) (y := .string ⟨#[]⟩) (by first | rfl | (unfold pcell; rfl)) (by first | rfl | (unfold pcell; rfl))
      obtain ⟨V4, hV4⟩ : ∃ V, w3.setCell ⟨g, 4, none⟩ (.string (strOfNums (tk l (i + 1)).text)) = V := ⟨_, rfl⟩
      rw [hV4] at hs4
      have HSV4 : Hid (ST W V4 b bt off n c ml ms ((i + 1) + 1) d g (⟨2, 0, 0, 0, (tk l (i + 1)).text, (tk l i).pos, 0⟩ : Nd) (.slice none 0 0) [] .nil) := hs4
      have hjV4 := hjw3
      clear hs4 HSw3
      have HC5 : Hid _ := takeMark_ w0 V4 b bt off n c ml ms ((i + 1) + 1) d l HE.out (HW.out.trans HSV4.out.o) hjV4 HSV4.out.p ⟨#[123]⟩ [123] (by unfold TR.Byt; decide) (congrArg ByteArray.toList (show (⟨#[123]⟩ : ByteArray) = strOfNums [123] from rfl))
      go_wp2_with fail
      try rw [hV4]
      clear hV4
      refine Calls.mono HC5.out ?_
      rintro r9 w5 ⟨ow5, ⟨ht, rfl, pw5⟩ | ⟨ht, rfl⟩⟩
      · rw [if_pos ht] at hR
        have HSw5 : Hid (ST W w5 b bt off n c ml ms (((i + 1) + 1) + 1) d g (⟨2, 0, 0, 0, (tk l (i + 1)).text, (tk l i).pos, 0⟩ : Nd) (.slice none 0 0) [] .nil) := HSV4.out.only ow5 pw5
        have hjw5 : (((i + 1) + 1) + 1) < n := HE.out.next hjV4 (mk_kind ht)
        clear ow5 pw5 ht HSV4 hjV4 HC5
        obtain ⟨R0, hR0, hb0⟩ := bd_get hR
        clear hR
        have HI0 : Hid (∃ (sv : Value) (kv : List Value) (fo : Fo) (j k : Nat), ST W w5 b bt off n c ml ms j d g (⟨2, 0, 0, 0, (tk l (i + 1)).text, (tk l i).pos, 0⟩ : Nd) sv kv fo ∧ j < n ∧ k ≤ N ∧ kv.length ≤ j ∧ P l k (.lines fo) j d = some R0) := ⟨_, _, _, _, N, HSw5.out, hjw5, Nat.le_refl _, Nat.zero_le _, hR0⟩
        clear HSw5 hR0
        go_wp2_with fail
        go_loopw [16] (fun _ W3 => ∃ (sv : Value) (kv : List Value) (fo : Fo) (j k : Nat), ST W W3 b bt off n c ml ms j d g (⟨2, 0, 0, 0, (tk l (i + 1)).text, (tk l i).pos, 0⟩ : Nd) sv kv fo ∧ j < n ∧ k ≤ N ∧ kv.length ≤ j ∧ P l k (.lines fo) j d = some R0) (fun _ W3 => n + 1 - posOf b W3)
        case atStart => exact HI0.out
        case round =>
          obtain ⟨sv, kv, fo, j, k, hs, hj, hk, hkv, hRe⟩ := hrel
          have HSr : Hid (ST W wr b bt off n c ml ms j d g (⟨2, 0, 0, 0, (tk l (i + 1)).text, (tk l i).pos, 0⟩ : Nd) sv kv fo) := hs
          clear hs HI0
          have HIM : Hid _ := isMark_ w0 wr b bt off n c ml ms j d l HE.out (HW.out.trans HSr.out.o) hj HSr.out.p ⟨#[125]⟩ [125] (by unfold TR.Byt; decide) (congrArg ByteArray.toList (show (⟨#[125]⟩ : ByteArray) = strOfNums [125] from rfl))
          cases k with
          | zero => cases hRe
          | succ k =>
            rw [P] at hRe
            cases hmc : mk (tk l j) [125] with
            | true =>
              rw [hmc] at HIM
              rw [if_pos hmc] at hRe
              clear hk
              go_wp2_with fail
              refine Calls.mono HIM.out ?_
              rintro r9 w2 ⟨rfl, u2⟩
              have HSe : Hid (ST W w2 b bt off n c ml ms j d g (⟨2, 0, 0, 0, (tk l (i + 1)).text, (tk l i).pos, 0⟩ : Nd) sv kv fo) := HSr.out.up u2
              clear u2 HIM HSr
              have hRf := Option.some.inj hRe
              clear hRe
              have HLV : Hid _ := takeMark_ w0 w2 b bt off n c ml ms j d l HE.out (HW.out.trans HSe.out.o) hj HSe.out.p ⟨#[125]⟩ [125] (by unfold TR.Byt; decide) (congrArg ByteArray.toList (show (⟨#[125]⟩ : ByteArray) = strOfNums [125] from rfl))
              go_wp2_with fail
              refine Calls.mono HLV.out ?_
              rintro r9 w9 ⟨o9, ⟨-, rfl, p9⟩ | ⟨h9, -⟩⟩
              · subst hRf
                obtain rfl := Option.some.inj (bd_ok hb0)
                have HS9 : Hid _ := HSe.out.only o9 p9
                clear hb0 o9 p9 HLV HSe
                go_wp2_with fail
                rw [HPo.out]
                exact ⟨HS9.out.o, g, rfl, HS9.out.done, HS9.out.p⟩
              · rw [hmc] at h9
                cases h9
            | false =>
              rw [hmc] at HIM
              rw [if_neg (by rw [hmc]; decide)] at hRe
              obtain ⟨R1, h1, hb1⟩ := bd_get hRe
              have hst9 : ∀ y q, R1 = .ok y q → j + 1 ≤ q ∧ q < n := fun y q e => by
                subst e
                have h9 := stays HLA.out h1 (by have := HE.out.len; omega)
                have h8 : j + 1 ≤ q := h9.1
                have := h9.2.1
                have := HE.out.len
                exact ⟨h8, by omega⟩
              have HST9 : Hid (∀ y q, R1 = .ok y q → j + 1 ≤ q ∧ q < n) := hst9
              have HPR : Hid (∀ w2, Up wr w2 → Calls Tryz.prog 119 #[.pointer (some ⟨b, 0, none⟩)] w2 (QG b bt off n c ml ms d R1 w2)) := fun w2 u => HLP.out k (by omega) j d R1 w2 (HW.out.trans (HSr.out.o.trans (Only.up u))) (HSr.out.p.up u) hj hd h1
              clear hRe h1 hst9
              go_wp2_with fail
              refine Calls.mono HIM.out ?_
              rintro r9 w2 ⟨rfl, u2⟩
              have HS2 : Hid (ST W w2 b bt off n c ml ms j d g (⟨2, 0, 0, 0, (tk l (i + 1)).text, (tk l i).pos, 0⟩ : Nd) sv kv fo) := HSr.out.up u2
              have HC := HPR.out w2 u2
              have hpos := HSr.out.p.pos
              clear u2 HIM HSr HPR
              go_wp2_with fail
              refine Calls.mono HC ?_
              intro r9 w3 hh
              obtain ⟨o3, hh⟩ := hh
              clear HC
              cases R1 with
              | bad er pp =>
                obtain rfl : r9 = pnc er pp := hh
                have hRb := bd_bad hb1
                have HO9 : Hid (Only b W w3) := HS2.out.o.trans o3
                clear hb1 o3 HST9
                subst hRb
                obtain rfl := bd_bad hb0
                clear hb0
                unfold pnc at *
                go_wp2_with fail
                rw [HPo.out]
                exact ⟨rfl, HO9.out, rfl⟩
              | ok y q =>
                obtain ⟨gr, rfl, hy, p3⟩ := hh
                have hRk := bd_ok hb1
                try dsimp only at hRk
                obtain ⟨hq1, hq2⟩ := HST9.out y q rfl
                have HA : Hid _ := HS2.out.add1 o3 p3 hy (by have := HE.out.small; omega)
                clear hb1 o3 p3 hy HST9
                go_wp2_with fail
                refine Calls.mono HA.out ?_
                rintro r9 w4 ⟨rfl, sv4, hs4⟩
                have hp4 := hs4.p.pos
                have HN4 : Hid (∃ (sv : Value) (kv : List Value) (fo : Fo) (j k : Nat), ST W w4 b bt off n c ml ms j d g (⟨2, 0, 0, 0, (tk l (i + 1)).text, (tk l i).pos, 0⟩ : Nd) sv kv fo ∧ j < n ∧ k ≤ N ∧ kv.length ≤ j ∧ P l k (.lines fo) j d = some R0) := ⟨sv4, _, _, q, k, hs4, hq2, by omega, by rw [List.length_append]; simp; omega, hRk⟩
                clear hs4 HA HS2 hRk
                go_wp2_with fail
                go_roundw
                case rel => exact HN4.out
                case measure => rw [hpos, hp4]; omega
      · rw [if_neg (by rw [ht]; decide)] at hR
        obtain rfl : Rs.bad 22 (tk l ((i + 1) + 1)).pos = R := Option.some.inj hR
        have HO9 : Hid (Only b W w5) := HSV4.out.o.trans ow5
        clear hR ow5
        unfold pnc at *
        go_wp2_with fail
        rw [HPo.out]
        exact ⟨rfl, HO9.out, rfl⟩
    · rw [if_neg ht] at hR
      obtain rfl : Rs.bad 22 (tk l (i + 1)).pos = R := Option.some.inj hR
      have HO9 : Hid (Only b W w3) := HSw2.out.o.trans ow3
      clear hR ow3
      unfold pnc at *
      go_wp2_with fail
      rw [HPo.out]
      exact ⟨rfl, HO9.out, rfl⟩
  · rw [if_neg (by rw [ht]; decide)] at hR
    obtain rfl : Rs.bad 22 (tk l i).pos = R := Option.some.inj hR
    have HO9 : Hid (Only b W w2) := HSw1.out.o.trans ow2
    clear hR ow2
    unfold pnc at *
    go_wp2_with fail
    rw [HPo.out]
    exact ⟨rfl, HO9.out, rfl⟩
set_option maxRecDepth 100000 in
set_option maxHeartbeats 16000000 in
theorem ppack_ (w0 W : World) (b bt off n c ml ms i d : Nat) (l : List Tok) (hE : Ev w0 b bt off n c l) (ho : Only b w0 W) (hi : i < n) (hP : QS W b bt off n c ml ms i d) (hd : d ≤ 64) (N : Nat) (R : Rs) (hl : (tk l (l.length - 1)).kind = 0) (hF : ∀ k, k ≤ N → Prt w0 b bt off n c ml ms l k 78 .card) (hR : bd (P l N (.cards .nil) i d) (fun x j => okr (nod 1 0 [] (tk l i).pos x) j) = some R) : Calls Tryz.prog 28 #[.pointer (some ⟨b, 0, none⟩)] W (QG b bt off n c ml ms d R W) := by
  obtain ⟨Post, hPost⟩ : ∃ P : Ending → World → Prop, P = QG b bt off n c ml ms d R W := ⟨_, rfl⟩
  rw [← hPost]
  have HPo : Hid (Post = QG b bt off n c ml ms d R W) := hPost
  clear hPost
  have HE : Hid (Ev w0 b bt off n c l) := hE
  have HW : Hid (Only b w0 W) := ho
  have HP : Hid (QS W b bt off n c ml ms i d) := hP
  have HLA : Hid ((tk l (l.length - 1)).kind = 0) := hl
  have HBL : Hid (b < W.heap.size) := hP.cells.2.2.2.2.2.2
  have HLP : Hid (∀ k, k ≤ N → Prt w0 b bt off n c ml ms l k 78 .card) := hF
  clear hE ho hP hl hF
  go_enter Tryz.func28, Tryz.ntmps28
  have HC7 : Hid _ := here_ w0 W b bt off n c ml ms i d l HE.out HW.out hi HP.out 1
  go_wp2_with fail
  refine Calls.mono HC7.out ?_
  rintro r9 w7 ⟨uw7, g, rfl, hgw7, hcw7⟩
  have HSw7 : Hid (ST W w7 b bt off n c ml ms i d g (⟨1, 0, 0, 0, [], (tk l i).pos, 0⟩ : Nd) (.slice none 0 0) [] .nil) := ST.made (Only.up uw7) (HP.out.up uw7) HBL.out hgw7 hcw7
  have hjw7 : i < n := hi
  clear uw7 hgw7 hcw7 HC7
  obtain ⟨R0, hR0, hb0⟩ := bd_get hR
  clear hR
  have HI0 : Hid (∃ (sv : Value) (kv : List Value) (fo : Fo) (j k : Nat), ST W w7 b bt off n c ml ms j d g (⟨1, 0, 0, 0, [], (tk l i).pos, 0⟩ : Nd) sv kv fo ∧ j < n ∧ k ≤ N ∧ kv.length ≤ j ∧ P l k (.cards fo) j d = some R0) := ⟨_, _, _, _, N, HSw7.out, hjw7, Nat.le_refl _, Nat.zero_le _, hR0⟩
  clear HSw7 hR0
  go_wp2_with fail
  go_loopw [6] (fun _ W3 => ∃ (sv : Value) (kv : List Value) (fo : Fo) (j k : Nat), ST W W3 b bt off n c ml ms j d g (⟨1, 0, 0, 0, [], (tk l i).pos, 0⟩ : Nd) sv kv fo ∧ j < n ∧ k ≤ N ∧ kv.length ≤ j ∧ P l k (.cards fo) j d = some R0) (fun _ W3 => n + 1 - posOf b W3)
  case atStart => exact HI0.out
  case round =>
    obtain ⟨sv, kv, fo, j, k, hs, hj, hk, hkv, hRe⟩ := hrel
    have HSr : Hid (ST W wr b bt off n c ml ms j d g (⟨1, 0, 0, 0, [], (tk l i).pos, 0⟩ : Nd) sv kv fo) := hs
    clear hs HI0
    have HIM : Hid _ := isEnd_ w0 wr b bt off n c ml ms j d l HE.out (HW.out.trans HSr.out.o) hj HSr.out.p
    cases k with
    | zero => cases hRe
    | succ k =>
      rw [P] at hRe
      by_cases hmc : (tk l j).kind = 0
      · rw [if_pos hmc] at hRe
        rw [decide_eq_true hmc] at HIM
        clear hk
        go_wp2_with fail
        refine Calls.mono HIM.out ?_
        rintro r9 w2 ⟨rfl, u2⟩
        have HSe : Hid (ST W w2 b bt off n c ml ms j d g (⟨1, 0, 0, 0, [], (tk l i).pos, 0⟩ : Nd) sv kv fo) := HSr.out.up u2
        clear u2 HIM HSr
        have hRf := Option.some.inj hRe
        clear hRe
        subst hRf
        obtain rfl := Option.some.inj (bd_ok hb0)
        clear hb0
        go_wp2_with fail
        rw [HPo.out]
        exact ⟨HSe.out.o, g, rfl, HSe.out.done, HSe.out.p⟩
      · rw [if_neg hmc] at hRe
        rw [decide_eq_false hmc] at HIM
        obtain ⟨R1, h1, hb1⟩ := bd_get hRe
        have hst9 : ∀ y q, R1 = .ok y q → j + 1 ≤ q ∧ q < n := fun y q e => by
          subst e
          have h9 := stays HLA.out h1 (by have := HE.out.len; omega)
          have h8 : j + 1 ≤ q := h9.1
          have := h9.2.1
          have := HE.out.len
          exact ⟨h8, by omega⟩
        have HST9 : Hid (∀ y q, R1 = .ok y q → j + 1 ≤ q ∧ q < n) := hst9
        have HPR : Hid (∀ w2, Up wr w2 → Calls Tryz.prog 78 #[.pointer (some ⟨b, 0, none⟩)] w2 (QG b bt off n c ml ms d R1 w2)) := fun w2 u => HLP.out k (by omega) j d R1 w2 (HW.out.trans (HSr.out.o.trans (Only.up u))) (HSr.out.p.up u) hj hd h1
        clear hRe h1 hst9
        go_wp2_with fail
        refine Calls.mono HIM.out ?_
        rintro r9 w2 ⟨rfl, u2⟩
        have HS2 : Hid (ST W w2 b bt off n c ml ms j d g (⟨1, 0, 0, 0, [], (tk l i).pos, 0⟩ : Nd) sv kv fo) := HSr.out.up u2
        have HC := HPR.out w2 u2
        have hpos := HSr.out.p.pos
        clear u2 HIM HSr HPR
        go_wp2_with fail
        refine Calls.mono HC ?_
        intro r9 w3 hh
        obtain ⟨o3, hh⟩ := hh
        clear HC
        cases R1 with
        | bad er pp =>
          obtain rfl : r9 = pnc er pp := hh
          have hRb := bd_bad hb1
          have HO9 : Hid (Only b W w3) := HS2.out.o.trans o3
          clear hb1 o3 HST9
          subst hRb
          obtain rfl := bd_bad hb0
          clear hb0
          unfold pnc at *
          go_wp2_with fail
          rw [HPo.out]
          exact ⟨rfl, HO9.out, rfl⟩
        | ok y q =>
          obtain ⟨gr, rfl, hy, p3⟩ := hh
          have hRk := bd_ok hb1
          try dsimp only at hRk
          obtain ⟨hq1, hq2⟩ := HST9.out y q rfl
          have HA : Hid _ := HS2.out.add1 o3 p3 hy (by have := HE.out.small; omega)
          clear hb1 o3 p3 hy HST9
          go_wp2_with fail
          refine Calls.mono HA.out ?_
          rintro r9 w4 ⟨rfl, sv4, hs4⟩
          have hp4 := hs4.p.pos
          have HN4 : Hid (∃ (sv : Value) (kv : List Value) (fo : Fo) (j k : Nat), ST W w4 b bt off n c ml ms j d g (⟨1, 0, 0, 0, [], (tk l i).pos, 0⟩ : Nd) sv kv fo ∧ j < n ∧ k ≤ N ∧ kv.length ≤ j ∧ P l k (.cards fo) j d = some R0) := ⟨sv4, _, _, q, k, hs4, hq2, by omega, by rw [List.length_append]; simp; omega, hRk⟩
          clear hs4 HA HS2 hRk
          go_wp2_with fail
          go_roundw
          case rel => exact HN4.out
          case measure => rw [hpos, hp4]; omega
/- every part at once -/
structure All (w0 : World) (b bt off n c ml ms : Nat) (l : List Tok) (N : Nat) : Prop where
  a_expr : Prt w0 b bt off n c ml ms l N 27 (.row 1)
  a_and : Prt w0 b bt off n c ml ms l N 74 (.row 2)
  a_not : Prt w0 b bt off n c ml ms l N 113 .not
  a_sum : Prt w0 b bt off n c ml ms l N 172 (.row 5)
  a_term : Prt w0 b bt off n c ml ms l N 185 (.row 6)
  a_sign : Prt w0 b bt off n c ml ms l N 194 .sign
  a_item : Prt w0 b bt off n c ml ms l N 202 .item
  a_argument : Prt w0 b bt off n c ml ms l N 206 .arg
  a_block : Prt w0 b bt off n c ml ms l N 140 .block
  a_statement : Prt w0 b bt off n c ml ms l N 168 .stmt
  a_ifs : Prf w0 b bt off n c ml ms l N
  a_line : Prt w0 b bt off n c ml ms l N 119 .line
  a_card : Prt w0 b bt off n c ml ms l N 78 .card
theorem all_ (w0 : World) (b bt off n c ml ms : Nat) (l : List Tok) (hE : Ev w0 b bt off n c l) (hX : Ex l n) (hl : (tk l (l.length - 1)).kind = 0) (hM : Mps w0 b ml ms lkey) : ∀ N, All w0 b bt off n c ml ms l N := by
  intro N
  induction N using Nat.strongRecOn with
  | _ N ih =>
    cases N with
    | zero => exact ⟨prt0 _ _ _ _ _ _ _ _ _ _ _, prt0 _ _ _ _ _ _ _ _ _ _ _, prt0 _ _ _ _ _ _ _ _ _ _ _, prt0 _ _ _ _ _ _ _ _ _ _ _, prt0 _ _ _ _ _ _ _ _ _ _ _, prt0 _ _ _ _ _ _ _ _ _ _ _, prt0 _ _ _ _ _ _ _ _ _ _ _, prt0 _ _ _ _ _ _ _ _ _ _ _, prt0 _ _ _ _ _ _ _ _ _ _ _, prt0 _ _ _ _ _ _ _ _ _ _ _, (fun _ _ _ _ _ _ _ _ _ h => by cases h), prt0 _ _ _ _ _ _ _ _ _ _ _, prt0 _ _ _ _ _ _ _ _ _ _ _⟩
    | succ N =>
      have IH : ∀ k, k ≤ N → All w0 b bt off n c ml ms l k := fun k hk => ih k (by omega)
      refine ⟨?_, ?_, ?_, ?_, ?_, ?_, ?_, ?_, ?_, ?_, ?_, ?_, ?_⟩
      · intro i d R W ho hP hi hd hR
        exact pexpr_ w0 W b bt off n c ml ms i d l hE ho hi hP hd N R hl (fun k hk => (IH k hk).a_and) hR
      · intro i d R W ho hP hi hd hR
        exact pand_ w0 W b bt off n c ml ms i d l hE ho hi hP hd N R hl (fun k hk => (IH k hk).a_not) hR
      · intro i d R W ho hP hi hd hR
        exact pnot_ w0 W b bt off n c ml ms i d l hE ho hi hP hd N R hl (IH N (Nat.le_refl _)).a_not (IH N (Nat.le_refl _)).a_sum hR
      · intro i d R W ho hP hi hd hR
        exact psum_ w0 W b bt off n c ml ms i d l hE ho hi hP hd N R hl (fun k hk => (IH k hk).a_term) hR
      · intro i d R W ho hP hi hd hR
        exact pterm_ w0 W b bt off n c ml ms i d l hE ho hi hP hd N R hl (fun k hk => (IH k hk).a_sign) hR
      · intro i d R W ho hP hi hd hR
        exact psign_ w0 W b bt off n c ml ms i d l hE ho hi hP hd N R hl hX (IH N (Nat.le_refl _)).a_sign (IH N (Nat.le_refl _)).a_item hR
      · intro i d R W ho hP hi hd hR
        exact pitem_ w0 W b bt off n c ml ms i d l hE ho hi hP hd N R hl hX (fun k hk => (IH k hk).a_argument) (IH N (Nat.le_refl _)).a_expr hR
      · intro i d R W ho hP hi hd hR
        exact argument_ w0 W b bt off n c ml ms i d l hE ho hi hP hd N R hX (IH N (Nat.le_refl _)).a_expr hR
      · intro i d R W ho hP hi hd hR
        exact pblock_ w0 W b bt off n c ml ms i d l hE ho hi hP hd N R hl (fun k hk => (IH k hk).a_statement) hR
      · intro i d R W ho hP hi hd hR
        exact pstmt_ w0 W b bt off n c ml ms i d l hE ho hi hP hd N R hl hX lkey hM (fun k hk => (IH k hk).a_expr) (IH N (Nat.le_refl _)).a_block (IH N (Nat.le_refl _)).a_ifs hR
      · intro i d R W hm ho hP hi hd hR
        exact pifs_ w0 W b bt off n c ml ms i d l hE ho hi hP hd N R hl hm (IH N (Nat.le_refl _)).a_expr (IH N (Nat.le_refl _)).a_block (IH N (Nat.le_refl _)).a_ifs hR
      · intro i d R W ho hP hi hd hR
        exact pline_ w0 W b bt off n c ml ms i d l hE ho hi hP hd N R hl hX hM (IH N (Nat.le_refl _)).a_expr (IH N (Nat.le_refl _)).a_block hR
      · intro i d R W ho hP hi hd hR
        exact pcard_ w0 W b bt off n c ml ms i d l hE ho hi hP hd N R hl hX (fun k hk => (IH k hk).a_line) hR
end TP
end Go.Proofs.YtkldllnnocdhbaaGreatDoor
