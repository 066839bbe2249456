/-
  The program's parser: the lines that begin with on.
-/
import Derived.Test.YtkldllnnocdhbaaGreatDoorBx10
namespace Go.Proofs.YtkldllnnocdhbaaGreatDoor
open Go.RowKit
attribute [local go_sem ↓] Go.wp_at_zero Go.wp_at_succ
namespace TP
open TR (Nd Byt nums_inj)
open TK (Tok)
def onP (l : List Tok) (N i d : Nat) : Option Rs := (match evnt (tk l (i + 1)) with | none => bad (tk l (i + 1)) | some v => if wd (tk l (i + 2)) [119, 104, 101, 110] = true then bd (P l N (.row 1) (i + 3) d) fun x j => bd (P l N .block j d) fun y k => okr (nod 7 v [] (tk l i).pos (x.app y)) k else bd (P l N .block (i + 2) d) fun y k => okr (nod 7 v [] (tk l i).pos y) k)
set_option maxRecDepth 100000 in
set_option maxHeartbeats 16000000 in
theorem pon_ (w0 W : World) (b bt off n c ml ms i d : Nat) (l : List Tok) (hE : Ev w0 b bt off n c l) (ho : Only b w0 W) (hi : i < n) (hP : QS W b bt off n c ml ms i d) (hd : d ≤ 64) (N : Nat) (R : Rs) (hl : (tk l (l.length - 1)).kind = 0) (hk0 : (tk l i).kind ≠ 0) (hF : Prt w0 b bt off n c ml ms l N 27 (.row 1)) (hG : Prt w0 b bt off n c ml ms l N 140 (.block)) (hR : onP l N i d = some R) : Calls Tryz.prog 94 #[.pointer (some ⟨b, 0, none⟩)] W (QG b bt off n c ml ms d R W) := by
  obtain ⟨Post, hPost⟩ : ∃ P : Ending → World → Prop, P = QG b bt off n c ml ms d R W := ⟨_, rfl⟩
  rw [← hPost]
  have HPo : Hid (Post = QG b bt off n c ml ms d R W) := hPost
  clear hPost
  unfold onP at hR
  have HE : Hid (Ev w0 b bt off n c l) := hE
  have HW : Hid (Only b w0 W) := ho
  have HP : Hid (QS W b bt off n c ml ms i d) := hP
  have HLA : Hid ((tk l (l.length - 1)).kind = 0) := hl
  have HBL : Hid (b < W.heap.size) := hP.cells.2.2.2.2.2.2
  have HEX : Hid (Prt w0 b bt off n c ml ms l N 27 (.row 1)) := hF
  have HBK : Hid (Prt w0 b bt off n c ml ms l N 140 (.block)) := hG
  clear hE ho hP hl hF hG
  go_enter Tryz.func94, Tryz.ntmps94
  have HC9 : Hid _ := begin_ w0 W b bt off n c ml ms i d l HE.out HW.out hi HP.out 7
  go_wp2_with fail
  refine Calls.mono HC9.out ?_
  rintro r9 w9 ⟨ow9, pw9, g, rfl, hgw9, hcw9⟩
  have HSw9 : Hid (ST W w9 b bt off n c ml ms (i + 1) d g (⟨7, 0, 0, 0, [], (tk l i).pos, 0⟩ : Nd) (.slice none 0 0) [] .nil) := ST.made ow9 pw9 HBL.out hgw9 hcw9
  have hjw9 : i + 1 < n := HE.out.next hi hk0
  clear ow9 pw9 hgw9 hcw9 HC9
  obtain ⟨Wa10, hWa10⟩ : ∃ Wa, w9.alloc (.cells #[.string ⟨#[112, 108, 97, 121]⟩, .string ⟨#[100, 105, 101]⟩, .string ⟨#[104, 105, 116]⟩, .string ⟨#[116, 117, 114, 110]⟩, .string ⟨#[100, 114, 97, 119]⟩] 9) = Wa := ⟨_, rfl⟩
  have HSWa10 : Hid (ST W Wa10 b bt off n c ml ms (i + 1) d g (⟨7, 0, 0, 0, [], (tk l i).pos, 0⟩ : Nd) (.slice none 0 0) [] .nil) := by unfold Hid; rw [← hWa10]; exact HSw9.out.up ((Up.refl _).alloc _)
  have HN10 : Hid _ := name_ w0 Wa10 b bt off n c ml ms (i + 1) d l HE.out (HW.out.trans HSWa10.out.o) hjw9 HSWa10.out.p
  have hbn : Byt (nm (tk l (i + 1))) := by
    unfold nm
    split
    · exact HE.out.byt (i + 1) hjw9
    · intro c hc
      cases hc
  have HI10 : Hid (∀ W2, Up Wa10 W2 → Calls Tryz.prog 136 #[.slice (some ⟨w9.heap.size, 0, none⟩) 5 5, .string (strOfNums (nm (tk l (i + 1))))] W2 fun r w' => r = .returned (.int .i64 (iw (nm (tk l (i + 1))) eqs 0)) ∧ w' = W2) := fun W2 hu => index0_ _ eqs (nm (tk l (i + 1))) W2 (sl_lit eqs eqs_row (by rw [← hWa10]; exact heap_alloc_new _ _) hu) hbn eqs_byt (by decide)
  rw [evnt_iw] at hR
  have HKZ : Hid ((tk l (i + 1)).kind = 0 → iw (nm (tk l (i + 1))) eqs 0 = -1) := fun h => by
    have h9 : nm (tk l (i + 1)) = [] := by unfold nm; rw [if_neg (by rw [h]; decide)]
    rw [h9]
    decide
  generalize iw (nm (tk l (i + 1))) eqs 0 = z at *
  generalize strOfNums (nm (tk l (i + 1))) = sn at *
  clear hbn
  go_wp2_with fail
  try rw [hWa10]
  clear hWa10
  refine Calls.mono HN10.out ?_
  rintro r9 wb10 ⟨rfl, ub10⟩
  have HSwb10 : Hid (ST W wb10 b bt off n c ml ms (i + 1) d g (⟨7, 0, 0, 0, [], (tk l i).pos, 0⟩ : Nd) (.slice none 0 0) [] .nil) := HSWa10.out.up ub10
  have HC10 := HI10.out wb10 ub10
  clear ub10 HN10 HI10 HSWa10 HSw9
  go_wp2_with fail
  refine Calls.mono HC10 ?_
  rintro r9 wc10 ⟨rfl, ec10⟩
  obtain rfl := ec10.symm
  clear ec10 HC10
  by_cases hz : z < 0
  · have HD9 : Hid (decide ((0 : Int) ≤ z) = false) := by unfold Hid; rw [decide_eq_false_iff_not]; omega
    rw [if_pos hz] at hR
    have HC210 : Hid _ := take_f w0 wb10 b bt off n c ml ms (i + 1) d l HE.out (HW.out.trans HSwb10.out.o) hjw9 HSwb10.out.p
    obtain rfl : Rs.bad 22 (tk l (i + 1)).pos = R := Option.some.inj hR
    clear hR HKZ hz
    go_wp2_with fail
    rw [HD9.out]
    refine Calls.mono HC210.out ?_
    rintro r9 w10 ⟨rfl, uw10⟩
    have HO9 : Hid (Only b W w10) := HSwb10.out.o.trans (Only.up uw10)
    clear uw10
    unfold pnc at *
    go_wp2_with fail
    rw [HPo.out]
    exact ⟨rfl, HO9.out, rfl⟩
  · have HD9 : Hid (decide ((0 : Int) ≤ z) = true) := by unfold Hid; rw [decide_eq_true_eq]; omega
    rw [if_neg hz] at hR
    have hR : _ = some R := hR
    try dsimp only at hR
    have HC210 : Hid _ := take_t w0 wb10 b bt off n c ml ms (i + 1) d l HE.out (HW.out.trans HSwb10.out.o) hjw9 HSwb10.out.p
    have hjw10 : ((i + 1) + 1) < n := HE.out.next hjw9 (fun h => by have := HKZ.out h; omega)
    clear HKZ hz
    go_wp2_with fail
    rw [HD9.out]
    refine Calls.mono HC210.out ?_
    rintro r9 w10 ⟨rfl, ow10, pw10⟩
    have HSw10 : Hid (ST W w10 b bt off n c ml ms ((i + 1) + 1) d g (⟨7, 0, 0, 0, [], (tk l i).pos, 0⟩ : Nd) (.slice none 0 0) [] .nil) := HSwb10.out.only ow10 pw10
    clear ow10 pw10 HC210 HSwb10 hjw9
    obtain ⟨c11, f11, hs11⟩ := HSw10.out.set 2 (a' := (⟨7, 0, z, 0, [], (tk l i).pos, 0⟩ : Nd)) (x := .int .i64 z) (y := .int .i64 0) (by first | rfl | (unfold pcell; rfl)) (by first | rfl | (unfold pcell; rfl))
    obtain ⟨V11, hV11⟩ : ∃ V, w10.setCell ⟨g, 2, none⟩ (.int .i64 z) = V := ⟨_, rfl⟩
    rw [hV11] at hs11
    have HSV11 : Hid (ST W V11 b bt off n c ml ms ((i + 1) + 1) d g (⟨7, 0, z, 0, [], (tk l i).pos, 0⟩ : Nd) (.slice none 0 0) [] .nil) := hs11
    have hjV11 := hjw10
    clear hs11 HSw10
    have HC12 : Hid _ := isWord_ w0 V11 b bt off n c ml ms ((i + 1) + 1) d l HE.out (HW.out.trans HSV11.out.o) hjV11 HSV11.out.p ⟨#[119, 104, 101, 110]⟩ [119, 104, 101, 110] (by unfold TR.Byt; decide) (congrArg ByteArray.toList (show (⟨#[119, 104, 101, 110]⟩ : ByteArray) = strOfNums [119, 104, 101, 110] from rfl)) (by decide)
    cases ht12 : wd (tk l ((i + 1) + 1)) [119, 104, 101, 110] with
    | true =>
      rw [ht12] at HC12
      rw [if_pos ht12] at hR
      go_wp2_with fail
      try rw [hV11]
      clear hV11
      refine Calls.mono HC12.out ?_
      rintro r9 w12 ⟨rfl, uw12⟩
      have HSw12 : Hid (ST W w12 b bt off n c ml ms ((i + 1) + 1) d g (⟨7, 0, z, 0, [], (tk l i).pos, 0⟩ : Nd) (.slice none 0 0) [] .nil) := HSV11.out.up uw12
      have hjw12 := hjV11
      clear uw12 HC12 HSV11 hjV11
      have HC13 : Hid _ := pass_ w0 w12 b bt off n c ml ms ((i + 1) + 1) d l HE.out (HW.out.trans HSw12.out.o) hjw12 HSw12.out.p
      go_wp2_with fail
      refine Calls.mono HC13.out ?_
      rintro r9 w13 ⟨rfl, ow13, pw13⟩
      have HSw13 : Hid (ST W w13 b bt off n c ml ms (((i + 1) + 1) + 1) d g (⟨7, 0, z, 0, [], (tk l i).pos, 0⟩ : Nd) (.slice none 0 0) [] .nil) := HSw12.out.only ow13 pw13
      have hjw13 : (((i + 1) + 1) + 1) < n := HE.out.next hjw12 (wd_kind ht12)
      clear ow13 pw13 HC13 HSw12 hjw12
      obtain ⟨R14, h14, hb14⟩ := bd_get hR
      have HC14 : Hid _ := HEX.out (((i + 1) + 1) + 1) d R14 w13 (HW.out.trans (HSw13.out.o)) (HSw13.out.p) hjw13 hd h14
      have HL14 : Hid (∀ f q, R14 = .ok f q → q < n) := fun f q e => ok_lt HE.out HLA.out (by rw [h14, e]) hjw13
      clear hR h14
      go_wp2_with fail
      refine Calls.mono HC14.out ?_
      intro r9 w14 hh
      obtain ⟨ow14, hh⟩ := hh
      clear HC14
      cases R14 with
      | bad er pp =>
        obtain rfl : r9 = pnc er pp := hh
        obtain rfl := bd_bad hb14
        have HO9 : Hid (Only b W w14) := (HSw13.out.o).trans ow14
        clear hb14 ow14
        unfold pnc at *
        go_wp2_with fail
        rw [HPo.out]
        exact ⟨rfl, HO9.out, rfl⟩
      | ok y14 q14 =>
        obtain ⟨gr14, rfl, hy14, pw14⟩ := hh
        have hR := bd_ok hb14
        try dsimp only at hR
        have hjw14 := HL14.out y14 q14 rfl
        have HO14 : Hid (Only b w13 w14) := ow14
        have HP14 : Hid (QS w14 b bt off n c ml ms q14 d) := pw14
        have HY14 : Hid (PF w14 (Sn w13.heap.size w14) y14 [ptr gr14]) := hy14
        clear hb14 HL14 ow14 pw14 hy14
        have HA15 : Hid _ := HSw13.out.add1 HO14.out HP14.out HY14.out (by simp)
        go_wp2_with fail
        refine Calls.mono HA15.out ?_
        rintro r9 w15 ⟨rfl, sv15, hs15⟩
        have HSw15 : Hid (ST W w15 b bt off n c ml ms q14 d g (⟨7, 0, z, 0, [], (tk l i).pos, 0⟩ : Nd) sv15 ([] ++ [ptr gr14]) (Fo.app .nil y14)) := hs15
        have hjw15 := hjw14
        clear hs15 HA15 HO14 HP14 HY14 HSw13
        obtain ⟨R16, h16, hb16⟩ := bd_get hR
        have HC16 : Hid _ := HBK.out q14 d R16 w15 (HW.out.trans (HSw15.out.o)) (HSw15.out.p) hjw15 hd h16
        have HL16 : Hid (∀ f q, R16 = .ok f q → q < n) := fun f q e => ok_lt HE.out HLA.out (by rw [h16, e]) hjw15
        clear hR h16
        go_wp2_with fail
        refine Calls.mono HC16.out ?_
        intro r9 w16 hh
        obtain ⟨ow16, hh⟩ := hh
        clear HC16
        cases R16 with
        | bad er pp =>
          obtain rfl : r9 = pnc er pp := hh
          obtain rfl := bd_bad hb16
          have HO9 : Hid (Only b W w16) := (HSw15.out.o).trans ow16
          clear hb16 ow16
          unfold pnc at *
          go_wp2_with fail
          rw [HPo.out]
          exact ⟨rfl, HO9.out, rfl⟩
        | ok y16 q16 =>
          obtain ⟨gr16, rfl, hy16, pw16⟩ := hh
          have hR := bd_ok hb16
          try dsimp only at hR
          have hjw16 := HL16.out y16 q16 rfl
          have HO16 : Hid (Only b w15 w16) := ow16
          have HP16 : Hid (QS w16 b bt off n c ml ms q16 d) := pw16
          have HY16 : Hid (PF w16 (Sn w15.heap.size w16) y16 [ptr gr16]) := hy16
          clear hb16 HL16 ow16 pw16 hy16
          have HA17 : Hid _ := HSw15.out.add1 HO16.out HP16.out HY16.out (by simp)
          go_wp2_with fail
          refine Calls.mono HA17.out ?_
          rintro r9 w17 ⟨rfl, sv17, hs17⟩
          have HSw17 : Hid (ST W w17 b bt off n c ml ms q16 d g (⟨7, 0, z, 0, [], (tk l i).pos, 0⟩ : Nd) sv17 (([] ++ [ptr gr14]) ++ [ptr gr16]) (Fo.app (Fo.app .nil y14) y16)) := hs17
          have hjw17 := hjw16
          clear hs17 HA17 HO16 HP16 HY16 HSw15
          obtain rfl := Option.some.inj hR
          clear hR
          go_wp2_with fail
          rw [HPo.out]
          exact ⟨HSw17.out.o, g, rfl, HSw17.out.done, HSw17.out.p⟩
    | false =>
      rw [ht12] at HC12
      rw [if_neg (by rw [ht12]; decide)] at hR
      go_wp2_with fail
      try rw [hV11]
      clear hV11
      refine Calls.mono HC12.out ?_
      rintro r9 w12 ⟨rfl, uw12⟩
      have HSw12 : Hid (ST W w12 b bt off n c ml ms ((i + 1) + 1) d g (⟨7, 0, z, 0, [], (tk l i).pos, 0⟩ : Nd) (.slice none 0 0) [] .nil) := HSV11.out.up uw12
      have hjw12 := hjV11
      clear uw12 HC12 HSV11 hjV11
      obtain ⟨R18, h18, hb18⟩ := bd_get hR
      have HC18 : Hid _ := HBK.out ((i + 1) + 1) d R18 w12 (HW.out.trans (HSw12.out.o)) (HSw12.out.p) hjw12 hd h18
      have HL18 : Hid (∀ f q, R18 = .ok f q → q < n) := fun f q e => ok_lt HE.out HLA.out (by rw [h18, e]) hjw12
      clear hR h18
      go_wp2_with fail
      refine Calls.mono HC18.out ?_
      intro r9 w18 hh
      obtain ⟨ow18, hh⟩ := hh
      clear HC18
      cases R18 with
      | bad er pp =>
        obtain rfl : r9 = pnc er pp := hh
        obtain rfl := bd_bad hb18
        have HO9 : Hid (Only b W w18) := (HSw12.out.o).trans ow18
        clear hb18 ow18
        unfold pnc at *
        go_wp2_with fail
        rw [HPo.out]
        exact ⟨rfl, HO9.out, rfl⟩
      | ok y18 q18 =>
        obtain ⟨gr18, rfl, hy18, pw18⟩ := hh
        have hR := bd_ok hb18
        try dsimp only at hR
        have hjw18 := HL18.out y18 q18 rfl
        have HO18 : Hid (Only b w12 w18) := ow18
        have HP18 : Hid (QS w18 b bt off n c ml ms q18 d) := pw18
        have HY18 : Hid (PF w18 (Sn w12.heap.size w18) y18 [ptr gr18]) := hy18
        clear hb18 HL18 ow18 pw18 hy18
        have HA19 : Hid _ := HSw12.out.add1 HO18.out HP18.out HY18.out (by simp)
        go_wp2_with fail
        refine Calls.mono HA19.out ?_
        rintro r9 w19 ⟨rfl, sv19, hs19⟩
        have HSw19 : Hid (ST W w19 b bt off n c ml ms q18 d g (⟨7, 0, z, 0, [], (tk l i).pos, 0⟩ : Nd) sv19 ([] ++ [ptr gr18]) (Fo.app .nil y18)) := hs19
        have hjw19 := hjw18
        clear hs19 HA19 HO18 HP18 HY18 HSw12
        obtain rfl := Option.some.inj hR
        clear hR
        go_wp2_with fail
        rw [HPo.out]
        exact ⟨HSw19.out.o, g, rfl, HSw19.out.done, HSw19.out.p⟩
end TP
end Go.Proofs.YtkldllnnocdhbaaGreatDoor
