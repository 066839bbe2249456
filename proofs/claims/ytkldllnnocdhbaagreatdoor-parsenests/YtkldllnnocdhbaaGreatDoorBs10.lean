/-
  The program's parser: loops and ifs.
-/
import Derived.Test.YtkldllnnocdhbaaGreatDoorBr10
namespace Go.Proofs.YtkldllnnocdhbaaGreatDoor
open Go.RowKit
attribute [local go_sem ↓] Go.wp_at_zero Go.wp_at_succ
namespace TP
open TR (Nd Byt nums_inj)
open TK (Tok)
/- a loop over a list, up to its block -/
def QO (b bt off n c ml ms d : Nat) (op : Int) (x : List Int) (p : Int) (R : Rs) (K : Fo → Fo → Nat → Option Rs) (W : World) (e : Ending) (w' : World) : Prop := Only b W w' ∧ ((∃ er pp, R = .bad er pp ∧ e = pnc er pp) ∨ ∃ g sv kv u v q, e = .returned (ptr g) ∧ ST W w' b bt off n c ml ms q d g (⟨op, 0, 0, 0, x, p, 0⟩ : Nd) sv kv (Fo.app u v) ∧ K u v q = some R ∧ q < n ∧ kv.length ≤ 2)
/- an if is read, from that word on -/
def Prf (w0 : World) (b bt off n c ml ms : Nat) (l : List Tok) (N : Nat) : Prop := ∀ (j d' : Nat) (R' : Rs) (W' : World), wd (tk l j) [105, 102] = true → Only b w0 W' → QS W' b bt off n c ml ms j d' → j < n → d' ≤ 64 → P l N .branch j d' = some R' → Calls Tryz.prog 96 #[.pointer (some ⟨b, 0, none⟩)] W' (QG b bt off n c ml ms d' R' W')
/- a part that is gone on with -/
def QK (b bt off n c ml ms d : Nat) (R : Rs) (K : Fo → Nat → Option Rs) (W : World) (e : Ending) (w' : World) : Prop := Only b W w' ∧ ((∃ er pp, R = .bad er pp ∧ e = pnc er pp) ∨ ∃ g x q, e = .returned (ptr g) ∧ PF w' (Sn W.heap.size w') x [ptr g] ∧ QS w' b bt off n c ml ms q d ∧ K x q = some R ∧ q < n)
set_option maxRecDepth 100000 in
set_option maxHeartbeats 16000000 in
theorem prepeat_ (w0 W : World) (b bt off n c ml ms i d : Nat) (l : List Tok) (hE : Ev w0 b bt off n c l) (ho : Only b w0 W) (hi : i < n) (hP : QS W b bt off n c ml ms i d) (hd : d ≤ 64) (N : Nat) (R : Rs) (hl : (tk l (l.length - 1)).kind = 0) (hX : Ex l n) (hk0 : (tk l i).kind ≠ 0) (hG : Prt w0 b bt off n c ml ms l N 140 (.block)) (hR : (if (tk l (i + 1)).kind = 2 then (if wd (tk l (i + 2)) [97, 115] = true then (if frt (tk l (i + 3)) = true then bd (P l N .block (i + 4) d) fun x j => okr (nod 14 (tk l (i + 1)).num (tk l (i + 3)).text (tk l i).pos x) j else bad (tk l (i + 3))) else bad (tk l (i + 2))) else bad (tk l (i + 1))) = some R) : Calls Tryz.prog 97 #[.pointer (some ⟨b, 0, none⟩)] W (QG b bt off n c ml ms d R W) := by
  obtain ⟨Post, hPost⟩ : ∃ P : Ending → World → Prop, P = QG b bt off n c ml ms d R W := ⟨_, rfl⟩
  rw [← hPost]
  have HPo : Hid (Post = QG b bt off n c ml ms d R W) := hPost
  clear hPost
  have HE : Hid (Ev w0 b bt off n c l) := hE
  have HXX : Hid (Ex l n) := hX
  have HW : Hid (Only b w0 W) := ho
  have HP : Hid (QS W b bt off n c ml ms i d) := hP
  have HLA : Hid ((tk l (l.length - 1)).kind = 0) := hl
  have HBL : Hid (b < W.heap.size) := hP.cells.2.2.2.2.2.2
  have HBK : Hid (Prt w0 b bt off n c ml ms l N 140 (.block)) := hG
  clear hE ho hP hl hX hG
  go_enter Tryz.func97, Tryz.ntmps97
  have HC1 : Hid _ := begin_ w0 W b bt off n c ml ms i d l HE.out HW.out hi HP.out 14
  go_wp2_with fail
  refine Calls.mono HC1.out ?_
  rintro r9 w1 ⟨ow1, pw1, g, rfl, hgw1, hcw1⟩
  have HSw1 : Hid (ST W w1 b bt off n c ml ms (i + 1) d g (⟨14, 0, 0, 0, [], (tk l i).pos, 0⟩ : Nd) (.slice none 0 0) [] .nil) := ST.made ow1 pw1 HBL.out hgw1 hcw1
  have hjw1 : i + 1 < n := HE.out.next hi hk0
  clear ow1 pw1 hgw1 hcw1 HC1
  have HC2 : Hid _ := takeNumber_ w0 w1 b bt off n c ml ms (i + 1) d l HE.out (HW.out.trans HSw1.out.o) hjw1 HSw1.out.p 
  go_wp2_with fail
  refine Calls.mono HC2.out ?_
  rintro r9 w2 ⟨ow2, ⟨ht, rfl, pw2⟩ | ⟨ht, rfl⟩⟩
  · rw [if_pos ht] at hR
    have HSw2 : Hid (ST W w2 b bt off n c ml ms ((i + 1) + 1) d g (⟨14, 0, 0, 0, [], (tk l i).pos, 0⟩ : Nd) (.slice none 0 0) [] .nil) := HSw1.out.only ow2 pw2
    have hjw2 : ((i + 1) + 1) < n := HE.out.next hjw1 (by rw [ht]; decide)
    clear ow2 pw2 ht HSw1 hjw1 HC2
    obtain ⟨c3, f3, hs3⟩ := HSw2.out.set 2 (a' := (⟨14, 0, (tk l (i + 1)).num, 0, [], (tk l i).pos, 0⟩ : Nd)) (x := .int .i64 (tk l (i + 1)).num) (y := .int .i64 0) (by first | rfl | (unfold pcell; rfl)) (by first | rfl | (unfold pcell; rfl))
    obtain ⟨V3, hV3⟩ : ∃ V, w2.setCell ⟨g, 2, none⟩ (.int .i64 (tk l (i + 1)).num) = V := ⟨_, rfl⟩
    rw [hV3] at hs3
    have HSV3 : Hid (ST W V3 b bt off n c ml ms ((i + 1) + 1) d g (⟨14, 0, (tk l (i + 1)).num, 0, [], (tk l i).pos, 0⟩ : Nd) (.slice none 0 0) [] .nil) := hs3
    have hjV3 := hjw2
    clear hs3 HSw2
    have HC4 : Hid _ := takeWord_ w0 V3 b bt off n c ml ms ((i + 1) + 1) d l HE.out (HW.out.trans HSV3.out.o) hjV3 HSV3.out.p ⟨#[97, 115]⟩ [97, 115] (by unfold TR.Byt; decide) (congrArg ByteArray.toList (show (⟨#[97, 115]⟩ : ByteArray) = strOfNums [97, 115] from rfl)) (by decide)
    go_wp2_with fail
    try rw [hV3]
    clear hV3
    refine Calls.mono HC4.out ?_
    rintro r9 w4 ⟨ow4, ⟨ht, rfl, pw4⟩ | ⟨ht, rfl⟩⟩
    · rw [if_pos ht] at hR
      have HSw4 : Hid (ST W w4 b bt off n c ml ms (((i + 1) + 1) + 1) d g (⟨14, 0, (tk l (i + 1)).num, 0, [], (tk l i).pos, 0⟩ : Nd) (.slice none 0 0) [] .nil) := HSV3.out.only ow4 pw4
      have hjw4 : (((i + 1) + 1) + 1) < n := HE.out.next hjV3 (wd_kind ht)
      clear ow4 pw4 ht HSV3 hjV3 HC4
      have HC5 : Hid _ := takeFree_ w0 w4 b bt off n c ml ms (((i + 1) + 1) + 1) d l HE.out (HW.out.trans HSw4.out.o) hjw4 HSw4.out.p HXX.out (.slice none 0 0) [] (fun W2 _ => sl_nil W2) (fun _ h => by cases h) (by decide)
      go_wp2_with fail
      refine Calls.mono HC5.out ?_
      rintro r9 w5 ⟨ow5, ⟨ht, rfl, pw5⟩ | ⟨ht, rfl⟩⟩
      · have ht : frt (tk l (((i + 1) + 1) + 1)) = true := by simpa using ht
        rw [if_pos ht] at hR
        have HSw5 : Hid (ST W w5 b bt off n c ml ms ((((i + 1) + 1) + 1) + 1) d g (⟨14, 0, (tk l (i + 1)).num, 0, [], (tk l i).pos, 0⟩ : Nd) (.slice none 0 0) [] .nil) := HSw4.out.only ow5 pw5
        have hjw5 : ((((i + 1) + 1) + 1) + 1) < n := HE.out.next hjw4 (frt_kind ht)
        clear ow5 pw5 ht HSw4 hjw4 HC5
        obtain ⟨c6, f6, hs6⟩ := HSw5.out.set 4 (a' := (⟨14, 0, (tk l (i + 1)).num, 0, (tk l (i + 3)).text, (tk l i).pos, 0⟩ : Nd)) (x := .string (strOfNums (tk l (i + 3)).text)) (y := .string ⟨#[]⟩) (by first | rfl | (unfold pcell; rfl)) (by first | rfl | (unfold pcell; rfl))
        obtain ⟨V6, hV6⟩ : ∃ V, w5.setCell ⟨g, 4, none⟩ (.string (strOfNums (tk l (i + 3)).text)) = V := ⟨_, rfl⟩
        rw [hV6] at hs6
        have HSV6 : Hid (ST W V6 b bt off n c ml ms ((((i + 1) + 1) + 1) + 1) d g (⟨14, 0, (tk l (i + 1)).num, 0, (tk l (i + 3)).text, (tk l i).pos, 0⟩ : Nd) (.slice none 0 0) [] .nil) := hs6
        have hjV6 := hjw5
        clear hs6 HSw5
        obtain ⟨R7, h7, hb7⟩ := bd_get hR
        have HC7 : Hid _ := HBK.out ((((i + 1) + 1) + 1) + 1) d R7 V6 (HW.out.trans (HSV6.out.o)) (HSV6.out.p) hjV6 hd h7
        have HL7 : Hid (∀ f q, R7 = .ok f q → q < n) := fun f q e => ok_lt HE.out HLA.out (by rw [h7, e]) hjV6
        clear hR h7
        go_wp2_with fail
        try rw [hV6]
        clear hV6
        refine Calls.mono HC7.out ?_
        intro r9 w7 hh
        obtain ⟨ow7, hh⟩ := hh
        clear HC7
        cases R7 with
        | bad er pp =>
          obtain rfl : r9 = pnc er pp := hh
          obtain rfl := bd_bad hb7
          have HO9 : Hid (Only b W w7) := (HSV6.out.o).trans ow7
          clear hb7 ow7
          unfold pnc at *
          go_wp2_with fail
          rw [HPo.out]
          exact ⟨rfl, HO9.out, rfl⟩
        | ok y7 q7 =>
          obtain ⟨gr7, rfl, hy7, pw7⟩ := hh
          have hR := bd_ok hb7
          try dsimp only at hR
          have hjw7 := HL7.out y7 q7 rfl
          have HO7 : Hid (Only b V6 w7) := ow7
          have HP7 : Hid (QS w7 b bt off n c ml ms q7 d) := pw7
          have HY7 : Hid (PF w7 (Sn V6.heap.size w7) y7 [ptr gr7]) := hy7
          clear hb7 HL7 ow7 pw7 hy7
          have HA8 : Hid _ := HSV6.out.add1 HO7.out HP7.out HY7.out (by simp)
          go_wp2_with fail
          refine Calls.mono HA8.out ?_
          rintro r9 w8 ⟨rfl, sv8, hs8⟩
          have HSw8 : Hid (ST W w8 b bt off n c ml ms q7 d g (⟨14, 0, (tk l (i + 1)).num, 0, (tk l (i + 3)).text, (tk l i).pos, 0⟩ : Nd) sv8 ([] ++ [ptr gr7]) (Fo.app .nil y7)) := hs8
          have hjw8 := hjw7
          clear hs8 HA8 HO7 HP7 HY7 HSV6
          obtain rfl := Option.some.inj hR
          clear hR
          go_wp2_with fail
          rw [HPo.out]
          exact ⟨HSw8.out.o, g, rfl, HSw8.out.done, HSw8.out.p⟩
      · have ht : frt (tk l (((i + 1) + 1) + 1)) = false := by simpa using ht
        rw [if_neg (by rw [ht]; decide)] at hR
        obtain rfl : Rs.bad 22 (tk l (((i + 1) + 1) + 1)).pos = R := Option.some.inj hR
        have HO9 : Hid (Only b W w5) := HSw4.out.o.trans ow5
        clear hR ow5
        unfold pnc at *
        go_wp2_with fail
        rw [HPo.out]
        exact ⟨rfl, HO9.out, rfl⟩
    · rw [if_neg (by rw [ht]; decide)] at hR
      obtain rfl : Rs.bad 22 (tk l ((i + 1) + 1)).pos = R := Option.some.inj hR
      have HO9 : Hid (Only b W w4) := HSV3.out.o.trans ow4
      clear hR ow4
      unfold pnc at *
      go_wp2_with fail
      rw [HPo.out]
      exact ⟨rfl, HO9.out, rfl⟩
  · rw [if_neg ht] at hR
    obtain rfl : Rs.bad 22 (tk l (i + 1)).pos = R := Option.some.inj hR
    have HO9 : Hid (Only b W w2) := HSw1.out.o.trans ow2
    clear hR ow2
    unfold pnc at *
    go_wp2_with fail
    rw [HPo.out]
    exact ⟨rfl, HO9.out, rfl⟩
set_option maxRecDepth 100000 in
set_option maxHeartbeats 16000000 in
theorem overList_ (w0 W : World) (b bt off n c ml ms i d : Nat) (l : List Tok) (hE : Ev w0 b bt off n c l) (ho : Only b w0 W) (hi : i < n) (hP : QS W b bt off n c ml ms i d) (hd : d ≤ 64) (N : Nat) (R : Rs) (hl : (tk l (l.length - 1)).kind = 0) (hX : Ex l n) (hk0 : (tk l i).kind ≠ 0) (op : Int) (K : Fo → Fo → Nat → Option Rs) (hF : Prt w0 b bt off n c ml ms l N 27 (.row 1)) (hG : Prt w0 b bt off n c ml ms l N 140 (.block)) (hR : (if frt (tk l (i + 1)) = true then (if wd (tk l (i + 2)) [105, 110] = true then bd (P l N (.row 1) (i + 3) d) fun x j => bd (P l N .block j d) fun y q => K x y q else bad (tk l (i + 2))) else bad (tk l (i + 1))) = some R) : Calls Tryz.prog 145 #[.pointer (some ⟨b, 0, none⟩), .int .i8 op] W (QO b bt off n c ml ms d op (tk l (i + 1)).text (tk l i).pos R K W) := by
  obtain ⟨Post, hPost⟩ : ∃ P : Ending → World → Prop, P = QO b bt off n c ml ms d op (tk l (i + 1)).text (tk l i).pos R K W := ⟨_, rfl⟩
  rw [← hPost]
  have HPo : Hid (Post = QO b bt off n c ml ms d op (tk l (i + 1)).text (tk l i).pos R K W) := hPost
  clear hPost
  have HE : Hid (Ev w0 b bt off n c l) := hE
  have HXX : Hid (Ex l n) := hX
  have HW : Hid (Only b w0 W) := ho
  have HP : Hid (QS W b bt off n c ml ms i d) := hP
  have HLA : Hid ((tk l (l.length - 1)).kind = 0) := hl
  have HBL : Hid (b < W.heap.size) := hP.cells.2.2.2.2.2.2
  have HEX : Hid (Prt w0 b bt off n c ml ms l N 27 (.row 1)) := hF
  have HBK : Hid (Prt w0 b bt off n c ml ms l N 140 (.block)) := hG
  clear hE ho hP hl hX hF hG
  go_enter Tryz.func145, Tryz.ntmps145
  have HC9 : Hid _ := begin_ w0 W b bt off n c ml ms i d l HE.out HW.out hi HP.out op
  go_wp2_with fail
  refine Calls.mono HC9.out ?_
  rintro r9 w9 ⟨ow9, pw9, g, rfl, hgw9, hcw9⟩
  have HSw9 : Hid (ST W w9 b bt off n c ml ms (i + 1) d g (⟨op, 0, 0, 0, [], (tk l i).pos, 0⟩ : Nd) (.slice none 0 0) [] .nil) := ST.made ow9 pw9 HBL.out hgw9 hcw9
  have hjw9 : i + 1 < n := HE.out.next hi hk0
  clear ow9 pw9 hgw9 hcw9 HC9
  have HC10 : Hid _ := takeFree_ w0 w9 b bt off n c ml ms (i + 1) d l HE.out (HW.out.trans HSw9.out.o) hjw9 HSw9.out.p HXX.out (.slice none 0 0) [] (fun W2 _ => sl_nil W2) (fun _ h => by cases h) (by decide)
  go_wp2_with fail
  refine Calls.mono HC10.out ?_
  rintro r9 w10 ⟨ow10, ⟨ht, rfl, pw10⟩ | ⟨ht, rfl⟩⟩
  · have ht : frt (tk l (i + 1)) = true := by simpa using ht
    rw [if_pos ht] at hR
    have HSw10 : Hid (ST W w10 b bt off n c ml ms ((i + 1) + 1) d g (⟨op, 0, 0, 0, [], (tk l i).pos, 0⟩ : Nd) (.slice none 0 0) [] .nil) := HSw9.out.only ow10 pw10
    have hjw10 : ((i + 1) + 1) < n := HE.out.next hjw9 (frt_kind ht)
    clear ow10 pw10 ht HSw9 hjw9 HC10
    obtain ⟨c11, f11, hs11⟩ := HSw10.out.set 4 (a' := (⟨op, 0, 0, 0, (tk l (i + 1)).text, (tk l i).pos, 0⟩ : Nd)) (x := .string (strOfNums (tk l (i + 1)).text)) (y := .string ⟨#[]⟩) (by first | rfl | (unfold pcell; rfl)) (by first | rfl | (unfold pcell; rfl))
    obtain ⟨V11, hV11⟩ : ∃ V, w10.setCell ⟨g, 4, none⟩ (.string (strOfNums (tk l (i + 1)).text)) = V := ⟨_, rfl⟩
    rw [hV11] at hs11
    have HSV11 : Hid (ST W V11 b bt off n c ml ms ((i + 1) + 1) d g (⟨op, 0, 0, 0, (tk l (i + 1)).text, (tk l i).pos, 0⟩ : Nd) (.slice none 0 0) [] .nil) := hs11
    have hjV11 := hjw10
    clear hs11 HSw10
    have HC12 : Hid _ := takeWord_ w0 V11 b bt off n c ml ms ((i + 1) + 1) d l HE.out (HW.out.trans HSV11.out.o) hjV11 HSV11.out.p ⟨#[105, 110]⟩ [105, 110] (by unfold TR.Byt; decide) (congrArg ByteArray.toList (show (⟨#[105, 110]⟩ : ByteArray) = strOfNums [105, 110] from rfl)) (by decide)
    go_wp2_with fail
    try rw [hV11]
    clear hV11
    refine Calls.mono HC12.out ?_
    rintro r9 w12 ⟨ow12, ⟨ht, rfl, pw12⟩ | ⟨ht, rfl⟩⟩
    · rw [if_pos ht] at hR
      have HSw12 : Hid (ST W w12 b bt off n c ml ms (((i + 1) + 1) + 1) d g (⟨op, 0, 0, 0, (tk l (i + 1)).text, (tk l i).pos, 0⟩ : Nd) (.slice none 0 0) [] .nil) := HSV11.out.only ow12 pw12
      have hjw12 : (((i + 1) + 1) + 1) < n := HE.out.next hjV11 (wd_kind ht)
      clear ow12 pw12 ht HSV11 hjV11 HC12
      obtain ⟨R13, h13, hb13⟩ := bd_get hR
      have HC13 : Hid _ := HEX.out (((i + 1) + 1) + 1) d R13 w12 (HW.out.trans (HSw12.out.o)) (HSw12.out.p) hjw12 hd h13
      have HL13 : Hid (∀ f q, R13 = .ok f q → q < n) := fun f q e => ok_lt HE.out HLA.out (by rw [h13, e]) hjw12
      clear hR h13
      go_wp2_with fail
      refine Calls.mono HC13.out ?_
      intro r9 w13 hh
      obtain ⟨ow13, hh⟩ := hh
      clear HC13
      cases R13 with
      | bad er pp =>
        obtain rfl : r9 = pnc er pp := hh
        obtain rfl := bd_bad hb13
        have HO9 : Hid (Only b W w13) := (HSw12.out.o).trans ow13
        clear hb13 ow13
        unfold pnc at *
        go_wp2_with fail
        rw [HPo.out]
        exact ⟨rfl, HO9.out, .inl ⟨_, _, rfl, rfl⟩⟩
      | ok y13 q13 =>
        obtain ⟨gr13, rfl, hy13, pw13⟩ := hh
        have hR := bd_ok hb13
        try dsimp only at hR
        have hjw13 := HL13.out y13 q13 rfl
        have HO13 : Hid (Only b w12 w13) := ow13
        have HP13 : Hid (QS w13 b bt off n c ml ms q13 d) := pw13
        have HY13 : Hid (PF w13 (Sn w12.heap.size w13) y13 [ptr gr13]) := hy13
        clear hb13 HL13 ow13 pw13 hy13
        obtain ⟨R14, h14, hb14⟩ := bd_get hR
        have HC14 : Hid _ := HBK.out q13 d R14 w13 (HW.out.trans (HSw12.out.o.trans HO13.out)) (HP13.out) hjw13 hd h14
        have HL14 : Hid (∀ f q, R14 = .ok f q → q < n) := fun f q e => ok_lt HE.out HLA.out (by rw [h14, e]) hjw13
        clear hR h14
        go_wp2_with fail
        refine Calls.mono HC14.out ?_
        intro r9 w14 hh
        obtain ⟨ow14, hh⟩ := hh
        clear HC14
        cases R14 with
        | bad er pp =>
          obtain rfl : r9 = pnc er pp := hh
          obtain rfl := bd_bad hb14
          have HO9 : Hid (Only b W w14) := (HSw12.out.o.trans HO13.out).trans ow14
          clear hb14 ow14
          unfold pnc at *
          go_wp2_with fail
          rw [HPo.out]
          exact ⟨rfl, HO9.out, .inl ⟨_, _, rfl, rfl⟩⟩
        | ok y14 q14 =>
          obtain ⟨gr14, rfl, hy14, pw14⟩ := hh
          have hR := bd_ok hb14
          try dsimp only at hR
          have hjw14 := HL14.out y14 q14 rfl
          have HO14 : Hid (Only b w13 w14) := ow14
          have HP14 : Hid (QS w14 b bt off n c ml ms q14 d) := pw14
          have HY14 : Hid (PF w14 (Sn w13.heap.size w14) y14 [ptr gr14]) := hy14
          clear hb14 HL14 ow14 pw14 hy14
          have HA15 : Hid _ := HSw12.out.add2 HO13.out HO14.out HP14.out HY13.out HY14.out (by simp)
          go_wp2_with fail
          refine Calls.mono HA15.out ?_
          rintro r9 w15 ⟨rfl, sv15, hs15⟩
          have HSw15 : Hid (ST W w15 b bt off n c ml ms q14 d g (⟨op, 0, 0, 0, (tk l (i + 1)).text, (tk l i).pos, 0⟩ : Nd) sv15 ([] ++ [ptr gr13, ptr gr14]) (Fo.app .nil (Fo.app y13 y14))) := hs15
          have hjw15 := hjw14
          clear hs15 HA15 HO13 HP13 HY13 HO14 HP14 HY14 HSw12
          go_wp2_with fail
          rw [HPo.out]
          exact ⟨HSw15.out.o, .inr ⟨g, _, _, y13, y14, _, rfl, HSw15.out, hR, hjw15, by simp⟩⟩
    · rw [if_neg (by rw [ht]; decide)] at hR
      obtain rfl : Rs.bad 22 (tk l ((i + 1) + 1)).pos = R := Option.some.inj hR
      have HO9 : Hid (Only b W w12) := HSV11.out.o.trans ow12
      clear hR ow12
      unfold pnc at *
      go_wp2_with fail
      rw [HPo.out]
      exact ⟨rfl, HO9.out, .inl ⟨_, _, rfl, rfl⟩⟩
  · have ht : frt (tk l (i + 1)) = false := by simpa using ht
    rw [if_neg (by rw [ht]; decide)] at hR
    obtain rfl : Rs.bad 22 (tk l (i + 1)).pos = R := Option.some.inj hR
    have HO9 : Hid (Only b W w10) := HSw9.out.o.trans ow10
    clear hR ow10
    unfold pnc at *
    go_wp2_with fail
    rw [HPo.out]
    exact ⟨rfl, HO9.out, .inl ⟨_, _, rfl, rfl⟩⟩
set_option maxRecDepth 100000 in
set_option maxHeartbeats 16000000 in
theorem peach_ (w0 W : World) (b bt off n c ml ms i d : Nat) (l : List Tok) (hE : Ev w0 b bt off n c l) (ho : Only b w0 W) (hi : i < n) (hP : QS W b bt off n c ml ms i d) (hd : d ≤ 64) (N : Nat) (R : Rs) (hl : (tk l (l.length - 1)).kind = 0) (hX : Ex l n) (hk0 : (tk l i).kind ≠ 0) (hF : Prt w0 b bt off n c ml ms l N 27 (.row 1)) (hG : Prt w0 b bt off n c ml ms l N 140 (.block)) (hR : (if frt (tk l (i + 1)) = true then (if wd (tk l (i + 2)) [105, 110] = true then bd (P l N (.row 1) (i + 3) d) fun x j => bd (P l N .block j d) fun y q => okr (nod 15 0 (tk l (i + 1)).text (tk l i).pos (x.app y)) q else bad (tk l (i + 2))) else bad (tk l (i + 1))) = some R) : Calls Tryz.prog 98 #[.pointer (some ⟨b, 0, none⟩)] W (QG b bt off n c ml ms d R W) := by
  obtain ⟨Post, hPost⟩ : ∃ P : Ending → World → Prop, P = QG b bt off n c ml ms d R W := ⟨_, rfl⟩
  rw [← hPost]
  have HPo : Hid (Post = QG b bt off n c ml ms d R W) := hPost
  clear hPost
  have HE : Hid (Ev w0 b bt off n c l) := hE
  have HXX : Hid (Ex l n) := hX
  have HW : Hid (Only b w0 W) := ho
  have HP : Hid (QS W b bt off n c ml ms i d) := hP
  have HLA : Hid ((tk l (l.length - 1)).kind = 0) := hl
  have HBL : Hid (b < W.heap.size) := hP.cells.2.2.2.2.2.2
  have HEX : Hid (Prt w0 b bt off n c ml ms l N 27 (.row 1)) := hF
  have HBK : Hid (Prt w0 b bt off n c ml ms l N 140 (.block)) := hG
  clear hE ho hP hl hX hF hG
  go_enter Tryz.func98, Tryz.ntmps98
  have HC16 : Hid _ := overList_ w0 W b bt off n c ml ms i d l HE.out HW.out hi HP.out hd N R HLA.out HXX.out hk0 15 (fun x y q => okr (nod 15 0 (tk l (i + 1)).text (tk l i).pos (x.app y)) q) HEX.out HBK.out hR
  clear hR
  go_wp2_with fail
  refine Calls.mono HC16.out ?_
  intro r9 w16 hh
  obtain ⟨ow16, hh⟩ := hh
  have HO9 : Hid (Only b W w16) := ow16
  clear ow16 HC16
  rcases hh with ⟨er, pp, rfl, rfl⟩ | ⟨g, sv16, kv16, u16, v16, q16, rfl, hs16, hR, hjw16, hkv16⟩
  · unfold pnc at *
    go_wp2_with fail
    rw [HPo.out]
    exact ⟨rfl, HO9.out, rfl⟩
  · try dsimp only at hR
    have HSw16 : Hid (ST W w16 b bt off n c ml ms q16 d g (⟨15, 0, 0, 0, (tk l (i + 1)).text, (tk l i).pos, 0⟩ : Nd) sv16 kv16 (Fo.app u16 v16)) := hs16
    have HKV : Hid (kv16.length ≤ 2) := hkv16
    clear hs16 hkv16 HO9
    obtain rfl := Option.some.inj hR
    clear hR
    go_wp2_with fail
    rw [HPo.out]
    exact ⟨HSw16.out.o, g, rfl, HSw16.out.done, HSw16.out.p⟩
set_option maxRecDepth 100000 in
set_option maxHeartbeats 16000000 in
theorem pchoose_ (w0 W : World) (b bt off n c ml ms i d : Nat) (l : List Tok) (hE : Ev w0 b bt off n c l) (ho : Only b w0 W) (hi : i < n) (hP : QS W b bt off n c ml ms i d) (hd : d ≤ 64) (N : Nat) (R : Rs) (hl : (tk l (l.length - 1)).kind = 0) (hX : Ex l n) (hk0 : (tk l i).kind ≠ 0) (hF : Prt w0 b bt off n c ml ms l N 27 (.row 1)) (hG : Prt w0 b bt off n c ml ms l N 140 (.block)) (hR : (if frt (tk l (i + 1)) = true then (if wd (tk l (i + 2)) [105, 110] = true then bd (P l N (.row 1) (i + 3) d) fun x j => bd (P l N .block j d) fun y k => (if wd (tk l k) [101, 108, 115, 101] = true then bd (P l N .block (k + 1) d) fun z q => okr (nod 16 0 (tk l (i + 1)).text (tk l i).pos ((x.app y).app z)) q else okr (nod 16 0 (tk l (i + 1)).text (tk l i).pos (x.app y)) k) else bad (tk l (i + 2))) else bad (tk l (i + 1))) = some R) : Calls Tryz.prog 99 #[.pointer (some ⟨b, 0, none⟩)] W (QG b bt off n c ml ms d R W) := by
  obtain ⟨Post, hPost⟩ : ∃ P : Ending → World → Prop, P = QG b bt off n c ml ms d R W := ⟨_, rfl⟩
  rw [← hPost]
  have HPo : Hid (Post = QG b bt off n c ml ms d R W) := hPost
  clear hPost
  have HE : Hid (Ev w0 b bt off n c l) := hE
  have HXX : Hid (Ex l n) := hX
  have HW : Hid (Only b w0 W) := ho
  have HP : Hid (QS W b bt off n c ml ms i d) := hP
  have HLA : Hid ((tk l (l.length - 1)).kind = 0) := hl
  have HBL : Hid (b < W.heap.size) := hP.cells.2.2.2.2.2.2
  have HEX : Hid (Prt w0 b bt off n c ml ms l N 27 (.row 1)) := hF
  have HBK : Hid (Prt w0 b bt off n c ml ms l N 140 (.block)) := hG
  clear hE ho hP hl hX hF hG
  go_enter Tryz.func99, Tryz.ntmps99
  have HC17 : Hid _ := overList_ w0 W b bt off n c ml ms i d l HE.out HW.out hi HP.out hd N R HLA.out HXX.out hk0 16 (fun x y k => if wd (tk l k) [101, 108, 115, 101] = true then bd (P l N .block (k + 1) d) fun z q => okr (nod 16 0 (tk l (i + 1)).text (tk l i).pos ((x.app y).app z)) q else okr (nod 16 0 (tk l (i + 1)).text (tk l i).pos (x.app y)) k) HEX.out HBK.out hR
  clear hR
  go_wp2_with fail
  refine Calls.mono HC17.out ?_
  intro r9 w17 hh
  obtain ⟨ow17, hh⟩ := hh
  have HO9 : Hid (Only b W w17) := ow17
  clear ow17 HC17
  rcases hh with ⟨er, pp, rfl, rfl⟩ | ⟨g, sv17, kv17, u17, v17, q17, rfl, hs17, hR, hjw17, hkv17⟩
  · unfold pnc at *
    go_wp2_with fail
    rw [HPo.out]
    exact ⟨rfl, HO9.out, rfl⟩
  · try dsimp only at hR
    have HSw17 : Hid (ST W w17 b bt off n c ml ms q17 d g (⟨16, 0, 0, 0, (tk l (i + 1)).text, (tk l i).pos, 0⟩ : Nd) sv17 kv17 (Fo.app u17 v17)) := hs17
    have HKV : Hid (kv17.length ≤ 2) := hkv17
    clear hs17 hkv17 HO9
    have HC18 : Hid _ := isWord_ w0 w17 b bt off n c ml ms q17 d l HE.out (HW.out.trans HSw17.out.o) hjw17 HSw17.out.p ⟨#[101, 108, 115, 101]⟩ [101, 108, 115, 101] (by unfold TR.Byt; decide) (congrArg ByteArray.toList (show (⟨#[101, 108, 115, 101]⟩ : ByteArray) = strOfNums [101, 108, 115, 101] from rfl)) (by decide)
    cases ht18 : wd (tk l q17) [101, 108, 115, 101] with
    | true =>
      rw [ht18] at HC18
      rw [if_pos ht18] at hR
      go_wp2_with fail
      refine Calls.mono HC18.out ?_
      rintro r9 w18 ⟨rfl, uw18⟩
      have HSw18 : Hid (ST W w18 b bt off n c ml ms q17 d g (⟨16, 0, 0, 0, (tk l (i + 1)).text, (tk l i).pos, 0⟩ : Nd) sv17 kv17 (Fo.app u17 v17)) := HSw17.out.up uw18
      have hjw18 := hjw17
      clear uw18 HC18 HSw17 hjw17
      have HC19 : Hid _ := pass_ w0 w18 b bt off n c ml ms q17 d l HE.out (HW.out.trans HSw18.out.o) hjw18 HSw18.out.p
      go_wp2_with fail
      refine Calls.mono HC19.out ?_
      rintro r9 w19 ⟨rfl, ow19, pw19⟩
      have HSw19 : Hid (ST W w19 b bt off n c ml ms (q17 + 1) d g (⟨16, 0, 0, 0, (tk l (i + 1)).text, (tk l i).pos, 0⟩ : Nd) sv17 kv17 (Fo.app u17 v17)) := HSw18.out.only ow19 pw19
      have hjw19 : (q17 + 1) < n := HE.out.next hjw18 (wd_kind ht18)
      clear ow19 pw19 HC19 HSw18 hjw18
      obtain ⟨R20, h20, hb20⟩ := bd_get hR
      have HC20 : Hid _ := HBK.out (q17 + 1) d R20 w19 (HW.out.trans (HSw19.out.o)) (HSw19.out.p) hjw19 hd h20
      have HL20 : Hid (∀ f q, R20 = .ok f q → q < n) := fun f q e => ok_lt HE.out HLA.out (by rw [h20, e]) hjw19
      clear hR h20
      go_wp2_with fail
      refine Calls.mono HC20.out ?_
      intro r9 w20 hh
      obtain ⟨ow20, hh⟩ := hh
      clear HC20
      cases R20 with
      | bad er pp =>
        obtain rfl : r9 = pnc er pp := hh
        obtain rfl := bd_bad hb20
        have HO9 : Hid (Only b W w20) := (HSw19.out.o).trans ow20
        clear hb20 ow20
        unfold pnc at *
        go_wp2_with fail
        rw [HPo.out]
        exact ⟨rfl, HO9.out, rfl⟩
      | ok y20 q20 =>
        obtain ⟨gr20, rfl, hy20, pw20⟩ := hh
        have hR := bd_ok hb20
        try dsimp only at hR
        have hjw20 := HL20.out y20 q20 rfl
        have HO20 : Hid (Only b w19 w20) := ow20
        have HP20 : Hid (QS w20 b bt off n c ml ms q20 d) := pw20
        have HY20 : Hid (PF w20 (Sn w19.heap.size w20) y20 [ptr gr20]) := hy20
        clear hb20 HL20 ow20 pw20 hy20
        have HA21 : Hid _ := HSw19.out.add1 HO20.out HP20.out HY20.out (by have := HKV.out; omega)
        go_wp2_with fail
        refine Calls.mono HA21.out ?_
        rintro r9 w21 ⟨rfl, sv21, hs21⟩
        have HSw21 : Hid (ST W w21 b bt off n c ml ms q20 d g (⟨16, 0, 0, 0, (tk l (i + 1)).text, (tk l i).pos, 0⟩ : Nd) sv21 (kv17 ++ [ptr gr20]) (Fo.app (Fo.app u17 v17) y20)) := hs21
        have hjw21 := hjw20
        clear hs21 HA21 HO20 HP20 HY20 HSw19
        obtain rfl := Option.some.inj hR
        clear hR
        go_wp2_with fail
        rw [HPo.out]
        exact ⟨HSw21.out.o, g, rfl, HSw21.out.done, HSw21.out.p⟩
    | false =>
      rw [ht18] at HC18
      rw [if_neg (by rw [ht18]; decide)] at hR
      go_wp2_with fail
      refine Calls.mono HC18.out ?_
      rintro r9 w18 ⟨rfl, uw18⟩
      have HSw18 : Hid (ST W w18 b bt off n c ml ms q17 d g (⟨16, 0, 0, 0, (tk l (i + 1)).text, (tk l i).pos, 0⟩ : Nd) sv17 kv17 (Fo.app u17 v17)) := HSw17.out.up uw18
      have hjw18 := hjw17
      clear uw18 HC18 HSw17 hjw17
      obtain rfl := Option.some.inj hR
      clear hR
      go_wp2_with fail
      rw [HPo.out]
      exact ⟨HSw18.out.o, g, rfl, HSw18.out.done, HSw18.out.p⟩
set_option maxRecDepth 100000 in
set_option maxHeartbeats 16000000 in
theorem behindElse_ (w0 W : World) (b bt off n c ml ms i d : Nat) (l : List Tok) (hE : Ev w0 b bt off n c l) (ho : Only b w0 W) (hi : i < n) (hP : QS W b bt off n c ml ms i d) (hd : d ≤ 64) (N : Nat) (R : Rs) (hl : (tk l (l.length - 1)).kind = 0) (K : Fo → Nat → Option Rs) (hG : Prt w0 b bt off n c ml ms l N 140 (.block)) (hI : Prf w0 b bt off n c ml ms l N) (hR : (if wd (tk l i) [105, 102] = true then (if d = 64 then deep (tk l i) else bd (P l N .branch i (d + 1)) K) else bd (P l N .block i d) K) = some R) : Calls Tryz.prog 143 #[.pointer (some ⟨b, 0, none⟩)] W (QK b bt off n c ml ms d R K W) := by
  obtain ⟨Post, hPost⟩ : ∃ P : Ending → World → Prop, P = QK b bt off n c ml ms d R K W := ⟨_, rfl⟩
  rw [← hPost]
  have HPo : Hid (Post = QK b bt off n c ml ms d R K W) := hPost
  clear hPost
  have HE : Hid (Ev w0 b bt off n c l) := hE
  have HW : Hid (Only b w0 W) := ho
  have HP : Hid (QS W b bt off n c ml ms i d) := hP
  have HLA : Hid ((tk l (l.length - 1)).kind = 0) := hl
  have HBL : Hid (b < W.heap.size) := hP.cells.2.2.2.2.2.2
  have HBK : Hid (Prt w0 b bt off n c ml ms l N 140 (.block)) := hG
  have HIF : Hid (Prf w0 b bt off n c ml ms l N) := hI
  clear hE ho hP hl hG hI
  have HW1 : Hid _ := isWord_ w0 W b bt off n c ml ms i d l HE.out HW.out hi HP.out ⟨#[105, 102]⟩ [105, 102] (by unfold TR.Byt; decide) (congrArg ByteArray.toList (show (⟨#[105, 102]⟩ : ByteArray) = strOfNums [105, 102] from rfl)) (by decide)
  cases ht : wd (tk l i) [105, 102] with
  | false =>
    rw [ht] at HW1
    rw [if_neg (by rw [ht]; decide)] at hR
    obtain ⟨R1, h1, hb1⟩ := bd_get hR
    have HL1 : Hid (∀ f q, R1 = .ok f q → q < n) := fun f q e => ok_lt HE.out HLA.out (by rw [h1, e]) hi
    have HC1 : Hid (∀ w1, Up W w1 → Calls Tryz.prog 140 #[.pointer (some ⟨b, 0, none⟩)] w1 (QG b bt off n c ml ms d R1 w1)) := fun w1 u => HBK.out i d R1 w1 (HW.out.trans (Only.up u)) (HP.out.up u) hi hd h1
    clear hR h1 ht
    go_enter Tryz.func143, Tryz.ntmps143
    go_wp2_with fail
    refine Calls.mono HW1.out ?_
    rintro r9 w1 ⟨rfl, u1⟩
    have HU1 : Hid (Up W w1) := u1
    have HC2 := HC1.out w1 u1
    clear u1 HC1 HW1
    go_wp2_with fail
    refine Calls.mono HC2 ?_
    intro r9 w2 hh
    obtain ⟨o2, hh⟩ := hh
    have HO2 : Hid (Only b W w2) := (Only.up HU1.out).trans o2
    clear o2 HC2
    cases R1 with
    | bad er pp =>
      obtain rfl : r9 = pnc er pp := hh
      obtain rfl := bd_bad hb1
      unfold pnc at *
      go_wp2_with fail
      rw [HPo.out]
      exact ⟨rfl, HO2.out, .inl ⟨_, _, rfl, rfl⟩⟩
    | ok y q =>
      obtain ⟨g, rfl, hy, p2⟩ := hh
      have hR := bd_ok hb1
      have hq := HL1.out y q rfl
      have HY : Hid (PF w2 (Sn W.heap.size w2) y [ptr g]) := PF.mono (fun z hz => ⟨Nat.le_trans HU1.out.size hz.1, hz.2⟩) y _ hy
      have HP2 : Hid (QS w2 b bt off n c ml ms q d) := p2
      clear hy p2 hb1 HL1
      go_wp2_with fail
      rw [HPo.out]
      exact ⟨HO2.out, .inr ⟨g, y, q, rfl, HY.out, HP2.out, hR, hq⟩⟩
  | true =>
    rw [ht] at HW1
    rw [if_pos ht] at hR
    have HOP : Hid (∀ W2, Up W W2 → Calls Tryz.prog 111 #[.pointer (some ⟨b, 0, none⟩)] W2 (fun r w' => Only b W2 w' ∧ ((d ≠ 64 ∧ r = .returned (.tuple #[]) ∧ QS w' b bt off n c ml ms i (d + 1)) ∨ (d = 64 ∧ r = pnc 23 (tk l i).pos)))) := fun W2 hu => popens_ w0 W2 b bt off n c ml ms i d l HE.out (HW.out.trans (Only.up hu)) hi (HP.out.up hu) hd
    have eD : IntKind.i64.wrap (((d + 1 : Nat) : Int) - 1) = (d : Int) := by rw [IntKind.wrap_i64]; omega
    go_enter Tryz.func143, Tryz.ntmps143
    go_wp2_with fail
    refine Calls.mono HW1.out ?_
    rintro r9 w1 ⟨rfl, u1⟩
    have HU1 : Hid (Up W w1) := u1
    have HC2 := HOP.out w1 u1
    have HT9 : Hid (wd (tk l i) [105, 102] = true) := ht
    clear u1 HOP HW1 ht
    go_wp2_with fail
    refine Calls.mono HC2 ?_
    rintro r9 w2 ⟨o2, ⟨h64, rfl, p2⟩ | ⟨h64, rfl⟩⟩
    · have HO2 : Hid (Only b W w2) := (Only.up HU1.out).trans o2
      rw [if_neg h64] at hR
      obtain ⟨R1, h1, hb1⟩ := bd_get hR
      have HL1 : Hid (∀ f q, R1 = .ok f q → q < n) := fun f q e => ok_lt HE.out HLA.out (by rw [h1, e]) hi
      have HC3 : Hid _ := HIF.out i (d + 1) R1 w2 HT9.out (HW.out.trans HO2.out) p2 hi (by omega) h1
      have HB : Hid (b < W.heap.size) := HBL.out
      clear hR h1 o2 p2 HC2 h64
      go_wp2_with fail
      refine Calls.mono HC3.out ?_
      intro r9 w3 hh
      obtain ⟨o3, hh⟩ := hh
      have HO3 : Hid (Only b W w3) := HO2.out.trans o3
      clear o3 HC3
      cases R1 with
      | bad er pp =>
        obtain rfl : r9 = pnc er pp := hh
        obtain rfl := bd_bad hb1
        unfold pnc at *
        go_wp2_with fail
        rw [HPo.out]
        exact ⟨rfl, HO3.out, .inl ⟨_, _, rfl, rfl⟩⟩
      | ok y q =>
        obtain ⟨g, rfl, hy, p3⟩ := hh
        have hR := bd_ok hb1
        have hq := HL1.out y q rfl
        have HY : Hid (PF w3 (Sn W.heap.size w3) y [ptr g]) := PF.mono (fun z hz => ⟨Nat.le_trans HO2.out.2.1 hz.1, hz.2⟩) y _ hy
        have HP3 : Hid (QS w3 b bt off n c ml ms q (d + 1)) := p3
        clear hy p3 hb1 HL1
        obtain ⟨a0, a1, a2, a3, a4, fz, hbl5⟩ := HP3.out.cells
        have hbl9 := HB.out
        go_wp2_with fail
        rw [HPo.out]
        refine ⟨HO3.out.set 2 _, .inr ⟨g, y, q, rfl, ?_, HP3.out.op d, hR, hq⟩⟩
        refine PF.mono (fun z hz => ⟨hz.1, by simpa [World.setCell] using hz.2⟩) y _ (PF.keep (W := w3) (fun z o hz e => ?_) y _ HY.out)
        rw [Below.heap_setCell _ _ _ _ (show z ≠ b by have := hz.1; omega)]
        exact e
    · have HO2 : Hid (Only b W w2) := (Only.up HU1.out).trans o2
      rw [if_pos h64] at hR
      obtain rfl : Rs.bad 23 (tk l i).pos = R := Option.some.inj hR
      clear hR o2 HC2
      unfold pnc at *
      go_wp2_with fail
      rw [HPo.out]
      exact ⟨rfl, HO2.out, .inl ⟨_, _, rfl, rfl⟩⟩
set_option maxRecDepth 100000 in
set_option maxHeartbeats 16000000 in
theorem pifs_ (w0 W : World) (b bt off n c ml ms i d : Nat) (l : List Tok) (hE : Ev w0 b bt off n c l) (ho : Only b w0 W) (hi : i < n) (hP : QS W b bt off n c ml ms i d) (hd : d ≤ 64) (N : Nat) (R : Rs) (hl : (tk l (l.length - 1)).kind = 0) (hm : wd (tk l i) [105, 102] = true) (hF : Prt w0 b bt off n c ml ms l N 27 (.row 1)) (hG : Prt w0 b bt off n c ml ms l N 140 (.block)) (hI : Prf w0 b bt off n c ml ms l N) (hR : P l (N + 1) .branch i d = some R) : Calls Tryz.prog 96 #[.pointer (some ⟨b, 0, none⟩)] W (QG b bt off n c ml ms d R W) := by
  obtain ⟨Post, hPost⟩ : ∃ P : Ending → World → Prop, P = QG b bt off n c ml ms d R W := ⟨_, rfl⟩
  rw [← hPost]
  have HPo : Hid (Post = QG b bt off n c ml ms d R W) := hPost
  clear hPost
  have HE : Hid (Ev w0 b bt off n c l) := hE
  have HW : Hid (Only b w0 W) := ho
  have HP : Hid (QS W b bt off n c ml ms i d) := hP
  have HLA : Hid ((tk l (l.length - 1)).kind = 0) := hl
  have HBL : Hid (b < W.heap.size) := hP.cells.2.2.2.2.2.2
  have HEX : Hid (Prt w0 b bt off n c ml ms l N 27 (.row 1)) := hF
  have HBK : Hid (Prt w0 b bt off n c ml ms l N 140 (.block)) := hG
  have HIF : Hid (Prf w0 b bt off n c ml ms l N) := hI
  have HBE : Hid (∀ (W2 : World) (j : Nat) (K : Fo → Nat → Option Rs), Only b w0 W2 → QS W2 b bt off n c ml ms j d → j < n → (if wd (tk l j) [105, 102] = true then (if d = 64 then deep (tk l j) else bd (P l N .branch j (d + 1)) K) else bd (P l N .block j d) K) = some R → Calls Tryz.prog 143 #[.pointer (some ⟨b, 0, none⟩)] W2 (QK b bt off n c ml ms d R K W2)) := fun W2 j K o p hj h => behindElse_ w0 W2 b bt off n c ml ms j d l HE.out o hj p hd N R HLA.out K HBK.out HIF.out h
  rw [P, if_pos hm] at hR
  have hk0 := wd_kind hm
  clear hE ho hP hl hF hG hI hm
  go_enter Tryz.func96, Tryz.ntmps96
  have HC22 : Hid _ := begin_ w0 W b bt off n c ml ms i d l HE.out HW.out hi HP.out 13
  go_wp2_with fail
  refine Calls.mono HC22.out ?_
  rintro r9 w22 ⟨ow22, pw22, g, rfl, hgw22, hcw22⟩
  have HSw22 : Hid (ST W w22 b bt off n c ml ms (i + 1) d g (⟨13, 0, 0, 0, [], (tk l i).pos, 0⟩ : Nd) (.slice none 0 0) [] .nil) := ST.made ow22 pw22 HBL.out hgw22 hcw22
  have hjw22 : i + 1 < n := HE.out.next hi hk0
  clear ow22 pw22 hgw22 hcw22 HC22
  obtain ⟨R23, h23, hb23⟩ := bd_get hR
  have HC23 : Hid _ := HEX.out (i + 1) d R23 w22 (HW.out.trans (HSw22.out.o)) (HSw22.out.p) hjw22 hd h23
  have HL23 : Hid (∀ f q, R23 = .ok f q → q < n) := fun f q e => ok_lt HE.out HLA.out (by rw [h23, e]) hjw22
  clear hR h23
  go_wp2_with fail
  refine Calls.mono HC23.out ?_
  intro r9 w23 hh
  obtain ⟨ow23, hh⟩ := hh
  clear HC23
  cases R23 with
  | bad er pp =>
    obtain rfl : r9 = pnc er pp := hh
    obtain rfl := bd_bad hb23
    have HO9 : Hid (Only b W w23) := (HSw22.out.o).trans ow23
    clear hb23 ow23
    unfold pnc at *
    go_wp2_with fail
    rw [HPo.out]
    exact ⟨rfl, HO9.out, rfl⟩
  | ok y23 q23 =>
    obtain ⟨gr23, rfl, hy23, pw23⟩ := hh
    have hR := bd_ok hb23
    try dsimp only at hR
    have hjw23 := HL23.out y23 q23 rfl
    have HO23 : Hid (Only b w22 w23) := ow23
    have HP23 : Hid (QS w23 b bt off n c ml ms q23 d) := pw23
    have HY23 : Hid (PF w23 (Sn w22.heap.size w23) y23 [ptr gr23]) := hy23
    clear hb23 HL23 ow23 pw23 hy23
    obtain ⟨R24, h24, hb24⟩ := bd_get hR
    have HC24 : Hid _ := HBK.out q23 d R24 w23 (HW.out.trans (HSw22.out.o.trans HO23.out)) (HP23.out) hjw23 hd h24
    have HL24 : Hid (∀ f q, R24 = .ok f q → q < n) := fun f q e => ok_lt HE.out HLA.out (by rw [h24, e]) hjw23
    clear hR h24
    go_wp2_with fail
    refine Calls.mono HC24.out ?_
    intro r9 w24 hh
    obtain ⟨ow24, hh⟩ := hh
    clear HC24
    cases R24 with
    | bad er pp =>
      obtain rfl : r9 = pnc er pp := hh
      obtain rfl := bd_bad hb24
      have HO9 : Hid (Only b W w24) := (HSw22.out.o.trans HO23.out).trans ow24
      clear hb24 ow24
      unfold pnc at *
      go_wp2_with fail
      rw [HPo.out]
      exact ⟨rfl, HO9.out, rfl⟩
    | ok y24 q24 =>
      obtain ⟨gr24, rfl, hy24, pw24⟩ := hh
      have hR := bd_ok hb24
      try dsimp only at hR
      have hjw24 := HL24.out y24 q24 rfl
      have HO24 : Hid (Only b w23 w24) := ow24
      have HP24 : Hid (QS w24 b bt off n c ml ms q24 d) := pw24
      have HY24 : Hid (PF w24 (Sn w23.heap.size w24) y24 [ptr gr24]) := hy24
      clear hb24 HL24 ow24 pw24 hy24
      have HA25 : Hid _ := HSw22.out.add2 HO23.out HO24.out HP24.out HY23.out HY24.out (by simp)
      go_wp2_with fail
      refine Calls.mono HA25.out ?_
      rintro r9 w25 ⟨rfl, sv25, hs25⟩
      have HSw25 : Hid (ST W w25 b bt off n c ml ms q24 d g (⟨13, 0, 0, 0, [], (tk l i).pos, 0⟩ : Nd) sv25 ([] ++ [ptr gr23, ptr gr24]) (Fo.app .nil (Fo.app y23 y24))) := hs25
      have hjw25 := hjw24
      clear hs25 HA25 HO23 HP23 HY23 HO24 HP24 HY24 HSw22
      have HC26 : Hid _ := isWord_ w0 w25 b bt off n c ml ms q24 d l HE.out (HW.out.trans HSw25.out.o) hjw25 HSw25.out.p ⟨#[101, 108, 115, 101]⟩ [101, 108, 115, 101] (by unfold TR.Byt; decide) (congrArg ByteArray.toList (show (⟨#[101, 108, 115, 101]⟩ : ByteArray) = strOfNums [101, 108, 115, 101] from rfl)) (by decide)
      cases ht26 : wd (tk l q24) [101, 108, 115, 101] with
      | true =>
        rw [ht26] at HC26
        rw [if_pos ht26] at hR
        go_wp2_with fail
        refine Calls.mono HC26.out ?_
        rintro r9 w26 ⟨rfl, uw26⟩
        have HSw26 : Hid (ST W w26 b bt off n c ml ms q24 d g (⟨13, 0, 0, 0, [], (tk l i).pos, 0⟩ : Nd) sv25 ([] ++ [ptr gr23, ptr gr24]) (Fo.app .nil (Fo.app y23 y24))) := HSw25.out.up uw26
        have hjw26 := hjw25
        clear uw26 HC26 HSw25 hjw25
        have HC27 : Hid _ := pass_ w0 w26 b bt off n c ml ms q24 d l HE.out (HW.out.trans HSw26.out.o) hjw26 HSw26.out.p
        go_wp2_with fail
        refine Calls.mono HC27.out ?_
        rintro r9 w27 ⟨rfl, ow27, pw27⟩
        have HSw27 : Hid (ST W w27 b bt off n c ml ms (q24 + 1) d g (⟨13, 0, 0, 0, [], (tk l i).pos, 0⟩ : Nd) sv25 ([] ++ [ptr gr23, ptr gr24]) (Fo.app .nil (Fo.app y23 y24))) := HSw26.out.only ow27 pw27
        have hjw27 : (q24 + 1) < n := HE.out.next hjw26 (wd_kind ht26)
        clear ow27 pw27 HC27 HSw26 hjw26
        have HC28 : Hid _ := HBE.out w27 (q24 + 1) (fun z q => okr (nod 13 0 [] (tk l i).pos ((Fo.app y23 y24).app z)) q) (HW.out.trans HSw27.out.o) HSw27.out.p hjw27 (by split at hR <;> first | exact hR | (split <;> first | exact hR | contradiction))
        clear hR
        go_wp2_with fail
        refine Calls.mono HC28.out ?_
        intro r9 w28 hh
        obtain ⟨ow28, hh⟩ := hh
        clear HC28
        rcases hh with ⟨er, pp, rfl, rfl⟩ | ⟨gr28, y28, q28, rfl, hy28, pw28, hR, hjw28⟩
        · have HO9 : Hid (Only b W w28) := HSw27.out.o.trans ow28
          clear ow28
          unfold pnc at *
          go_wp2_with fail
          rw [HPo.out]
          exact ⟨rfl, HO9.out, rfl⟩
        · try dsimp only at hR
          have HO28 : Hid (Only b w27 w28) := ow28
          have HP28 : Hid (QS w28 b bt off n c ml ms q28 d) := pw28
          have HY28 : Hid (PF w28 (Sn w27.heap.size w28) y28 [ptr gr28]) := hy28
          clear ow28 pw28 hy28
          have HA29 : Hid _ := HSw27.out.add1 HO28.out HP28.out HY28.out (by simp)
          go_wp2_with fail
          refine Calls.mono HA29.out ?_
          rintro r9 w29 ⟨rfl, sv29, hs29⟩
          have HSw29 : Hid (ST W w29 b bt off n c ml ms q28 d g (⟨13, 0, 0, 0, [], (tk l i).pos, 0⟩ : Nd) sv29 (([] ++ [ptr gr23, ptr gr24]) ++ [ptr gr28]) (Fo.app (Fo.app .nil (Fo.app y23 y24)) y28)) := hs29
          have hjw29 := hjw28
          clear hs29 HA29 HO28 HP28 HY28 HSw27
          obtain rfl := Option.some.inj hR
          clear hR
          go_wp2_with fail
          rw [HPo.out]
          exact ⟨HSw29.out.o, g, rfl, HSw29.out.done, HSw29.out.p⟩
      | false =>
        rw [ht26] at HC26
        rw [if_neg (by rw [ht26]; decide)] at hR
        go_wp2_with fail
        refine Calls.mono HC26.out ?_
        rintro r9 w26 ⟨rfl, uw26⟩
        have HSw26 : Hid (ST W w26 b bt off n c ml ms q24 d g (⟨13, 0, 0, 0, [], (tk l i).pos, 0⟩ : Nd) sv25 ([] ++ [ptr gr23, ptr gr24]) (Fo.app .nil (Fo.app y23 y24))) := HSw25.out.up uw26
        have hjw26 := hjw25
        clear uw26 HC26 HSw25 hjw25
        obtain rfl := Option.some.inj hR
        clear hR
        go_wp2_with fail
        rw [HPo.out]
        exact ⟨HSw26.out.o, g, rfl, HSw26.out.done, HSw26.out.p⟩
end TP
end Go.Proofs.YtkldllnnocdhbaaGreatDoor
