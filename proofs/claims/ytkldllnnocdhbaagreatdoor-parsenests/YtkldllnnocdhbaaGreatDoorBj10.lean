/-
  The program's parser: rows by their marks; relations; not.
-/
import Derived.Test.YtkldllnnocdhbaaGreatDoorBi10
namespace Go.Proofs.YtkldllnnocdhbaaGreatDoor
open Go.RowKit
attribute [local go_sem ↓] Go.wp_at_zero Go.wp_at_succ
namespace TP
open TR (Nd Byt nums_inj)
open TK (Tok)
theorem hmf : ∀ (fn : Fn) (first cap : Array Value) (w : World), (Instr.makeFunc fn first cap).run Tryz.prog w = .ok (.func fn first cap) w := fun _ _ _ _ => rfl
theorem ent_and : Ent 74 := fun _ _ => by kernel_rfl
theorem ent_not : Ent 113 := fun _ _ => by kernel_rfl
theorem ent_sum : Ent 172 := fun _ _ => by kernel_rfl
theorem ent_term : Ent 185 := fun _ _ => by kernel_rfl
theorem ent_sign : Ent 194 := fun _ _ => by kernel_rfl
theorem ent_argument : Ent 206 := fun _ _ => by kernel_rfl
theorem ent_expr : Ent 27 := fun _ _ => by kernel_rfl
set_option maxRecDepth 100000 in
set_option maxHeartbeats 16000000 in
theorem pexpr_ (w0 W : World) (b bt off n c ml ms i d : Nat) (l : List Tok) (hE : Ev w0 b bt off n c l) (ho : Only b w0 W) (hi : i < n) (hP : QS W b bt off n c ml ms i d) (hd : d ≤ 64) (N : Nat) (R : Rs) (hl : (tk l (l.length - 1)).kind = 0) (hF : ∀ k, k ≤ N → Prt w0 b bt off n c ml ms l k 74 (.row 2)) (hR : P l (N + 1) (.row 1) i d = some R) : Calls Tryz.prog 27 #[.pointer (some ⟨b, 0, none⟩)] W (QG b bt off n c ml ms d R W) := by
  obtain ⟨Post, hPost⟩ : ∃ P : Ending → World → Prop, P = QG b bt off n c ml ms d R W := ⟨_, rfl⟩
  rw [← hPost]
  have HPo : Hid (Post = QG b bt off n c ml ms d R W) := hPost
  clear hPost
  have HRW : Hid (Calls Tryz.prog 73 #[.pointer (some ⟨b, 0, none⟩), .func (.func 74) #[.pointer (some ⟨b, 0, none⟩)] #[], .int .i8 36, .int .i8 36] W (QG b bt off n c ml ms d R W)) := prow_ w0 W b bt off n c ml ms i d l hE ho hi hP hd 1 36 36 (by omega) N 74 ent_and hF R hl hR
  have hmf9 := hmf
  clear hE ho hP hF hl hR
  go_enter Tryz.func27, Tryz.ntmps27
  go_wp2_with fail
  refine Calls.mono HRW.out ?_
  intro r9 w1 h
  obtain ⟨ow1, h⟩ := h
  have HOw1 : Hid (Only b W w1) := ow1
  clear ow1
  cases R with
  | bad er pp =>
    obtain rfl : r9 = pnc er pp := h
    unfold pnc at *
    go_wp2_with fail
    rw [HPo.out]
    exact ⟨rfl, HOw1.out, rfl⟩
  | ok y j =>
    obtain ⟨g, rfl, hy, p9⟩ := h
    have hy9 : PF w1 (Sn W.heap.size w1) y [ptr g] := hy
    have HR9 : Hid _ := And.intro hy9 p9
    clear hy p9 hy9
    go_wp2_with fail
    rw [HPo.out]
    exact ⟨HOw1.out, g, rfl, HR9.out.1, HR9.out.2⟩
set_option maxRecDepth 100000 in
set_option maxHeartbeats 16000000 in
theorem pand_ (w0 W : World) (b bt off n c ml ms i d : Nat) (l : List Tok) (hE : Ev w0 b bt off n c l) (ho : Only b w0 W) (hi : i < n) (hP : QS W b bt off n c ml ms i d) (hd : d ≤ 64) (N : Nat) (R : Rs) (hl : (tk l (l.length - 1)).kind = 0) (hF : ∀ k, k ≤ N → Prt w0 b bt off n c ml ms l k 113 (.not)) (hR : P l (N + 1) (.row 2) i d = some R) : Calls Tryz.prog 74 #[.pointer (some ⟨b, 0, none⟩)] W (QG b bt off n c ml ms d R W) := by
  obtain ⟨Post, hPost⟩ : ∃ P : Ending → World → Prop, P = QG b bt off n c ml ms d R W := ⟨_, rfl⟩
  rw [← hPost]
  have HPo : Hid (Post = QG b bt off n c ml ms d R W) := hPost
  clear hPost
  have HRW : Hid (Calls Tryz.prog 73 #[.pointer (some ⟨b, 0, none⟩), .func (.func 113) #[.pointer (some ⟨b, 0, none⟩)] #[], .int .i8 37, .int .i8 37] W (QG b bt off n c ml ms d R W)) := prow_ w0 W b bt off n c ml ms i d l hE ho hi hP hd 2 37 37 (by omega) N 113 ent_not hF R hl hR
  have hmf9 := hmf
  clear hE ho hP hF hl hR
  go_enter Tryz.func74, Tryz.ntmps74
  go_wp2_with fail
  refine Calls.mono HRW.out ?_
  intro r9 w1 h
  obtain ⟨ow1, h⟩ := h
  have HOw1 : Hid (Only b W w1) := ow1
  clear ow1
  cases R with
  | bad er pp =>
    obtain rfl : r9 = pnc er pp := h
    unfold pnc at *
    go_wp2_with fail
    rw [HPo.out]
    exact ⟨rfl, HOw1.out, rfl⟩
  | ok y j =>
    obtain ⟨g, rfl, hy, p9⟩ := h
    have hy9 : PF w1 (Sn W.heap.size w1) y [ptr g] := hy
    have HR9 : Hid _ := And.intro hy9 p9
    clear hy p9 hy9
    go_wp2_with fail
    rw [HPo.out]
    exact ⟨HOw1.out, g, rfl, HR9.out.1, HR9.out.2⟩
set_option maxRecDepth 100000 in
set_option maxHeartbeats 16000000 in
theorem psum_ (w0 W : World) (b bt off n c ml ms i d : Nat) (l : List Tok) (hE : Ev w0 b bt off n c l) (ho : Only b w0 W) (hi : i < n) (hP : QS W b bt off n c ml ms i d) (hd : d ≤ 64) (N : Nat) (R : Rs) (hl : (tk l (l.length - 1)).kind = 0) (hF : ∀ k, k ≤ N → Prt w0 b bt off n c ml ms l k 185 (.row 6)) (hR : P l (N + 1) (.row 5) i d = some R) : Calls Tryz.prog 172 #[.pointer (some ⟨b, 0, none⟩)] W (QG b bt off n c ml ms d R W) := by
  obtain ⟨Post, hPost⟩ : ∃ P : Ending → World → Prop, P = QG b bt off n c ml ms d R W := ⟨_, rfl⟩
  rw [← hPost]
  have HPo : Hid (Post = QG b bt off n c ml ms d R W) := hPost
  clear hPost
  have HRW : Hid (Calls Tryz.prog 73 #[.pointer (some ⟨b, 0, none⟩), .func (.func 185) #[.pointer (some ⟨b, 0, none⟩)] #[], .int .i8 44, .int .i8 45] W (QG b bt off n c ml ms d R W)) := prow_ w0 W b bt off n c ml ms i d l hE ho hi hP hd 5 44 45 (by omega) N 185 ent_term hF R hl hR
  have hmf9 := hmf
  clear hE ho hP hF hl hR
  go_enter Tryz.func172, Tryz.ntmps172
  go_wp2_with fail
  refine Calls.mono HRW.out ?_
  intro r9 w1 h
  obtain ⟨ow1, h⟩ := h
  have HOw1 : Hid (Only b W w1) := ow1
  clear ow1
  cases R with
  | bad er pp =>
    obtain rfl : r9 = pnc er pp := h
    unfold pnc at *
    go_wp2_with fail
    rw [HPo.out]
    exact ⟨rfl, HOw1.out, rfl⟩
  | ok y j =>
    obtain ⟨g, rfl, hy, p9⟩ := h
    have hy9 : PF w1 (Sn W.heap.size w1) y [ptr g] := hy
    have HR9 : Hid _ := And.intro hy9 p9
    clear hy p9 hy9
    go_wp2_with fail
    rw [HPo.out]
    exact ⟨HOw1.out, g, rfl, HR9.out.1, HR9.out.2⟩
set_option maxRecDepth 100000 in
set_option maxHeartbeats 16000000 in
theorem pterm_ (w0 W : World) (b bt off n c ml ms i d : Nat) (l : List Tok) (hE : Ev w0 b bt off n c l) (ho : Only b w0 W) (hi : i < n) (hP : QS W b bt off n c ml ms i d) (hd : d ≤ 64) (N : Nat) (R : Rs) (hl : (tk l (l.length - 1)).kind = 0) (hF : ∀ k, k ≤ N → Prt w0 b bt off n c ml ms l k 194 (.sign)) (hR : P l (N + 1) (.row 6) i d = some R) : Calls Tryz.prog 185 #[.pointer (some ⟨b, 0, none⟩)] W (QG b bt off n c ml ms d R W) := by
  obtain ⟨Post, hPost⟩ : ∃ P : Ending → World → Prop, P = QG b bt off n c ml ms d R W := ⟨_, rfl⟩
  rw [← hPost]
  have HPo : Hid (Post = QG b bt off n c ml ms d R W) := hPost
  clear hPost
  have HRW : Hid (Calls Tryz.prog 73 #[.pointer (some ⟨b, 0, none⟩), .func (.func 194) #[.pointer (some ⟨b, 0, none⟩)] #[], .int .i8 46, .int .i8 48] W (QG b bt off n c ml ms d R W)) := prow_ w0 W b bt off n c ml ms i d l hE ho hi hP hd 6 46 48 (by omega) N 194 ent_sign hF R hl hR
  have hmf9 := hmf
  clear hE ho hP hF hl hR
  go_enter Tryz.func185, Tryz.ntmps185
  go_wp2_with fail
  refine Calls.mono HRW.out ?_
  intro r9 w1 h
  obtain ⟨ow1, h⟩ := h
  have HOw1 : Hid (Only b W w1) := ow1
  clear ow1
  cases R with
  | bad er pp =>
    obtain rfl : r9 = pnc er pp := h
    unfold pnc at *
    go_wp2_with fail
    rw [HPo.out]
    exact ⟨rfl, HOw1.out, rfl⟩
  | ok y j =>
    obtain ⟨g, rfl, hy, p9⟩ := h
    have hy9 : PF w1 (Sn W.heap.size w1) y [ptr g] := hy
    have HR9 : Hid _ := And.intro hy9 p9
    clear hy p9 hy9
    go_wp2_with fail
    rw [HPo.out]
    exact ⟨HOw1.out, g, rfl, HR9.out.1, HR9.out.2⟩
set_option maxRecDepth 100000 in
set_option maxHeartbeats 16000000 in
theorem prel_ (w0 W : World) (b bt off n c ml ms i d : Nat) (l : List Tok) (hE : Ev w0 b bt off n c l) (ho : Only b w0 W) (hi : i < n) (hP : QS W b bt off n c ml ms i d) (hd : d ≤ 64) (N : Nat) (R : Rs) (hl : (tk l (l.length - 1)).kind = 0) (hF : Prt w0 b bt off n c ml ms l N 172 (.row 5)) (hR : bd (P l N (.row 5) i d) (fun x j => if bop (tk l j) 4 = 0 then okr x j else bd (P l N (.row 5) (j + 1) d) fun y k => okr (nod (bop (tk l j) 4) 0 [] (tk l j).pos (x.app y)) k) = some R) : Calls Tryz.prog 154 #[.pointer (some ⟨b, 0, none⟩)] W (QG b bt off n c ml ms d R W) := by
  obtain ⟨Post, hPost⟩ : ∃ P : Ending → World → Prop, P = QG b bt off n c ml ms d R W := ⟨_, rfl⟩
  rw [← hPost]
  have HPo : Hid (Post = QG b bt off n c ml ms d R W) := hPost
  clear hPost
  have HE : Hid (Ev w0 b bt off n c l) := hE
  have HW : Hid (Only b w0 W) := ho
  have HLA : Hid ((tk l (l.length - 1)).kind = 0) := hl
  have HLN : Hid (n = l.length) := hE.len
  have HF : Hid (Prt w0 b bt off n c ml ms l N 172 (.row 5)) := hF
  have hbl := hP.cells.2.2.2.2.2.2
  obtain ⟨R1, hR1, hb1⟩ : ∃ R1, P l N (.row 5) i d = some R1 ∧ bd (some R1) (fun x j => if bop (tk l j) 4 = 0 then okr x j else bd (P l N (.row 5) (j + 1) d) fun y k => okr (nod (bop (tk l j) 4) 0 [] (tk l j).pos (x.app y)) k) = some R := by
    cases h9 : P l N (.row 5) i d with
    | none => rw [h9] at hR; cases hR
    | some R1 => rw [h9] at hR; exact ⟨R1, rfl, hR⟩
  have HFC : Hid (Calls Tryz.prog 172 #[.pointer (some ⟨b, 0, none⟩)] W (QG b bt off n c ml ms d R1 W)) := hF i d R1 W ho hP hi hd hR1
  have HS1 : Hid (∀ x j, R1 = .ok x j → j < n) := fun x j e => by
    subst e
    have h9 := stays hl hR1 (by have := HLN.out; omega)
    have := h9.2.1
    have := HLN.out
    omega
  have hmf9 := hmf
  clear hE ho hP hF hl hR hR1
  go_enter Tryz.func154, Tryz.ntmps154
  go_wp2_with fail
  refine Calls.mono HFC.out ?_
  intro r9 w1 h
  obtain ⟨o1, h⟩ := h
  have HO1 : Hid (Only b W w1) := o1
  clear o1 HFC
  cases R1 with
  | bad er pp =>
    obtain rfl : r9 = pnc er pp := h
    obtain rfl : Rs.bad er pp = R := Option.some.inj hb1
    unfold pnc at *
    go_wp2_with fail
    rw [HPo.out]
    exact ⟨rfl, HO1.out, rfl⟩
  | ok x j =>
    obtain ⟨gl, rfl, hx, p1⟩ := h
    have hj := HS1.out x j rfl
    have HX1 : Hid (PF w1 (Sn W.heap.size w1) x [ptr gl]) := hx
    have HP1 : Hid (QS w1 b bt off n c ml ms j d) := p1
    have HIB : Hid (Calls Tryz.prog 110 #[.pointer (some ⟨b, 0, none⟩), .int .i8 38, .int .i8 43] w1 fun r w' => r = .returned (.bool (decide (38 ≤ bwn (tk l j) ∧ bwn (tk l j) ≤ 43))) ∧ Up w1 w') := isBetween_ w0 w1 b bt off n c ml ms j d l HE.out (HW.out.trans HO1.out) hj p1 38 43
    have hPk : (if bop (tk l j) 4 = 0 then okr x j else bd (P l N (.row 5) (j + 1) d) fun y k => okr (nod (bop (tk l j) 4) 0 [] (tk l j).pos (x.app y)) k) = some R := hb1
    clear hx p1 HS1 hb1
    rcases bwn_row (tk l j) 4 38 43 (by omega) with ⟨q1, q2, hbop, hbne, hkd⟩ | ⟨q1, hb0⟩
    · have hdec : decide (38 ≤ bwn (tk l j) ∧ bwn (tk l j) ≤ 43) = true := by simp [q1, q2]
      rw [hdec] at HIB
      rw [if_neg hbne] at hPk
      clear q1 q2 hdec
      obtain ⟨R2, h2, h3⟩ : ∃ R2, P l N (.row 5) (j + 1) d = some R2 ∧ bd (some R2) (fun y k => okr (nod (bop (tk l j) 4) 0 [] (tk l j).pos (x.app y)) k) = some R := by
        cases h9 : P l N (.row 5) (j + 1) d with
        | none => rw [h9] at hPk; cases hPk
        | some R2 => rw [h9] at hPk; exact ⟨R2, rfl, hPk⟩
      clear hPk
      go_wp2_with fail
      refine Calls.mono HIB.out ?_
      rintro r9 w2 ⟨rfl, u2⟩
      have HO2 : Hid (Only b W w2) := HO1.out.trans (Only.up u2)
      have HAB : Hid (Calls Tryz.prog 112 #[.pointer (some ⟨b, 0, none⟩), ptr gl, .func (.func 172) #[.pointer (some ⟨b, 0, none⟩)] #[]] w2 (QA b bt off n c ml ms d W.heap.size R2 (fun y => nod (bwn (tk l j)) 0 [] (tk l j).pos (x.app y)) w2)) := above_ w0 w2 b bt off n c ml ms j d l HE.out (HW.out.trans HO2.out) hj (HP1.out.up u2) hd (by rw [hkd]; decide) N 172 ent_sum (.row 5) HF.out R2 h2 W.heap.size gl x (PF.mono (fun z hz => ⟨hz.1, Nat.lt_of_lt_of_le hz.2 u2.size⟩) x _ (PF.keep (fun _ _ _ e => u2.heap e) x _ HX1.out)) hbl HO2.out.2.1
      clear u2 HIB HO1 HP1 HX1
      go_wp2_with fail
      refine Calls.mono HAB.out ?_
      intro r9 w4 h
      obtain ⟨o4, h⟩ := h
      have HO4 : Hid (Only b W w4) := HO2.out.trans o4
      clear o4 HAB HO2
      cases R2 with
      | bad er pp =>
        obtain rfl : r9 = pnc er pp := h
        obtain rfl : Rs.bad er pp = R := Option.some.inj h3
        unfold pnc at *
        clear h2 h3
        go_wp2_with fail
        rw [HPo.out]
        exact ⟨rfl, HO4.out, rfl⟩
      | ok y j2 =>
        obtain ⟨g2, rfl, hy, p4⟩ := h
        rw [hbop] at h3
        obtain rfl := Option.some.inj h3
        have HR9 : Hid _ := And.intro hy p4
        clear h2 h3 hy p4
        go_wp2_with fail
        rw [HPo.out]
        exact ⟨HO4.out, g2, rfl, HR9.out.1, HR9.out.2⟩
    · have hdec : decide (38 ≤ bwn (tk l j) ∧ bwn (tk l j) ≤ 43) = false := by simpa using fun h => Int.not_le.1 (fun h9 => q1 ⟨h, h9⟩)
      rw [hdec] at HIB
      rw [if_pos hb0] at hPk
      obtain rfl : Rs.ok x j = R := Option.some.inj hPk
      clear hPk q1 hdec hb0
      go_wp2_with fail
      refine Calls.mono HIB.out ?_
      rintro r9 w2 ⟨rfl, u2⟩
      have HO2 : Hid (Only b W w2) := HO1.out.trans (Only.up u2)
      have HP2 : Hid (QS w2 b bt off n c ml ms j d) := HP1.out.up u2
      have HX2 : Hid (PF w2 (Sn W.heap.size w2) x [ptr gl]) := PF.mono (fun z hz => ⟨hz.1, Nat.lt_of_lt_of_le hz.2 u2.size⟩) x _ (PF.keep (fun _ _ _ e => u2.heap e) x _ HX1.out)
      clear u2 HIB HO1 HP1 HX1
      go_wp2_with fail
      rw [HPo.out]
      exact ⟨HO2.out, gl, rfl, HX2.out, HP2.out⟩
set_option maxRecDepth 100000 in
set_option maxHeartbeats 16000000 in
theorem pnot_ (w0 W : World) (b bt off n c ml ms i d : Nat) (l : List Tok) (hE : Ev w0 b bt off n c l) (ho : Only b w0 W) (hi : i < n) (hP : QS W b bt off n c ml ms i d) (hd : d ≤ 64) (N : Nat) (R : Rs) (hl : (tk l (l.length - 1)).kind = 0) (hF : Prt w0 b bt off n c ml ms l N 113 .not) (hG : Prt w0 b bt off n c ml ms l N 172 (.row 5)) (hR : P l (N + 1) .not i d = some R) : Calls Tryz.prog 113 #[.pointer (some ⟨b, 0, none⟩)] W (QG b bt off n c ml ms d R W) := by
  obtain ⟨Post, hPost⟩ : ∃ P : Ending → World → Prop, P = QG b bt off n c ml ms d R W := ⟨_, rfl⟩
  rw [← hPost]
  have HPo : Hid (Post = QG b bt off n c ml ms d R W) := hPost
  clear hPost
  have HM : Hid (Calls Tryz.prog 118 #[.pointer (some ⟨b, 0, none⟩), .string ⟨#[33]⟩] W fun r w' => r = .returned (.bool (mk (tk l i) [33])) ∧ Up W w') := isMark_ w0 W b bt off n c ml ms i d l hE ho hi hP ⟨#[33]⟩ [33] (by unfold TR.Byt; decide) (congrArg ByteArray.toList (show (⟨#[33]⟩ : ByteArray) = strOfNums [33] from rfl))
  have HW2 : Hid (∀ W2, Up W W2 → Only b w0 W2 ∧ QS W2 b bt off n c ml ms i d) := fun W2 hu => ⟨ho.trans (Only.up hu), hP.up hu⟩
  have HE : Hid (Ev w0 b bt off n c l) := hE
  rw [P] at hR
  have hmf9 := hmf
  cases hmk : mk (tk l i) [33] with
  | true =>
    rw [hmk] at HM
    rw [if_pos hmk] at hR
    have HAH : Hid (∀ W2, Up W W2 → Calls Tryz.prog 153 #[.pointer (some ⟨b, 0, none⟩), .int .i8 34, .func (.func 113) #[.pointer (some ⟨b, 0, none⟩)] #[]] W2 (QG b bt off n c ml ms d R W2)) := fun W2 hu => ahead_ w0 W2 b bt off n c ml ms i d l HE.out (HW2.out W2 hu).1 hi (HW2.out W2 hu).2 hd (mk_kind hmk) 34 N 113 ent_not .not hF R hR
    clear hE ho hP hF hR HW2 hmk
    go_enter Tryz.func113, Tryz.ntmps113
    go_wp2_with fail
    refine Calls.mono HM.out ?_
    rintro r w1 ⟨rfl, u1⟩
    have HU1 : Hid (Up W w1) := u1
    have HC := HAH.out w1 u1
    clear u1 HM HAH
    go_wp2_with fail
    refine Calls.mono HC ?_
    intro r9 w2 h
    obtain ⟨ow2, h⟩ := h
    have HOw2 : Hid (Only b W w2) := (Only.up HU1.out).trans ow2
    clear ow2
    cases R with
    | bad er pp =>
      obtain rfl : r9 = pnc er pp := h
      unfold pnc at *
      go_wp2_with fail
      rw [HPo.out]
      exact ⟨rfl, HOw2.out, rfl⟩
    | ok y j =>
      obtain ⟨g, rfl, hy, p9⟩ := h
      have hy9 : PF w2 (Sn W.heap.size w2) y [ptr g] := PF.mono (fun z hz => ⟨Nat.le_trans HU1.out.size hz.1, hz.2⟩) y _ hy
      have HR9 : Hid _ := And.intro hy9 p9
      clear hy p9 hy9
      go_wp2_with fail
      rw [HPo.out]
      exact ⟨HOw2.out, g, rfl, HR9.out.1, HR9.out.2⟩
  | false =>
    rw [hmk] at HM
    rw [if_neg (by rw [hmk]; decide)] at hR
    have HRL : Hid (∀ W2, Up W W2 → Calls Tryz.prog 154 #[.pointer (some ⟨b, 0, none⟩)] W2 (QG b bt off n c ml ms d R W2)) := fun W2 hu => prel_ w0 W2 b bt off n c ml ms i d l HE.out (HW2.out W2 hu).1 hi (HW2.out W2 hu).2 hd N R hl hG hR
    clear hE ho hP hF hR HW2 hmk
    go_enter Tryz.func113, Tryz.ntmps113
    go_wp2_with fail
    refine Calls.mono HM.out ?_
    rintro r w1 ⟨rfl, u1⟩
    have HU1 : Hid (Up W w1) := u1
    have HC := HRL.out w1 u1
    clear u1 HM HRL
    go_wp2_with fail
    refine Calls.mono HC ?_
    intro r9 w2 h
    obtain ⟨ow2, h⟩ := h
    have HOw2 : Hid (Only b W w2) := (Only.up HU1.out).trans ow2
    clear ow2
    cases R with
    | bad er pp =>
      obtain rfl : r9 = pnc er pp := h
      unfold pnc at *
      go_wp2_with fail
      rw [HPo.out]
      exact ⟨rfl, HOw2.out, rfl⟩
    | ok y j =>
      obtain ⟨g, rfl, hy, p9⟩ := h
      have hy9 : PF w2 (Sn W.heap.size w2) y [ptr g] := PF.mono (fun z hz => ⟨Nat.le_trans HU1.out.size hz.1, hz.2⟩) y _ hy
      have HR9 : Hid _ := And.intro hy9 p9
      clear hy p9 hy9
      go_wp2_with fail
      rw [HPo.out]
      exact ⟨HOw2.out, g, rfl, HR9.out.1, HR9.out.2⟩
end TP
end Go.Proofs.YtkldllnnocdhbaaGreatDoor
