/-
  An append to a row of the call's own: where the longer row lies.
-/
import Derived.Test.YtkldllnnocdhbaaGreatDoorBc10
import Derived.Test.YtkldllnnocdhbaaGreatDoorRh10
import Derived.Laws.AppendOwn
namespace Go.Proofs.YtkldllnnocdhbaaGreatDoor
open Go.RowKit
attribute [local go_sem ↓] Go.wp_at_zero Go.wp_at_succ
namespace TP
open TR (Nd Byt nums_inj)
open TK (Tok)
open TR (nums_list nums_nil)
set_option maxRecDepth 100000 in
set_option maxHeartbeats 16000000 in
theorem popens_ (w0 W : World) (b bt off n c ml ms i d : Nat) (l : List Tok) (hE : Ev w0 b bt off n c l) (ho : Only b w0 W) (hi : i < n) (hP : QS W b bt off n c ml ms i d) (hd : d ≤ 64) : Calls Tryz.prog 111 #[.pointer (some ⟨b, 0, none⟩)] W (fun r w' => Only b W w' ∧ ((d ≠ 64 ∧ r = .returned (.tuple #[]) ∧ QS w' b bt off n c ml ms i (d + 1)) ∨ (d = 64 ∧ r = pnc 23 (tk l i).pos))) := by
  obtain ⟨Post, hPost⟩ : ∃ P : Ending → World → Prop, P = fun r w' => Only b W w' ∧ ((d ≠ 64 ∧ r = .returned (.tuple #[]) ∧ QS w' b bt off n c ml ms i (d + 1)) ∨ (d = 64 ∧ r = pnc 23 (tk l i).pos)) := ⟨_, rfl⟩
  rw [← hPost]
  have HPo : Hid (Post = fun r w' => Only b W w' ∧ ((d ≠ 64 ∧ r = .returned (.tuple #[]) ∧ QS w' b bt off n c ml ms i (d + 1)) ∨ (d = 64 ∧ r = pnc 23 (tk l i).pos))) := hPost
  clear hPost
  have HRF : Hid (Calls Tryz.prog 148 #[.pointer (some ⟨b, 0, none⟩), .int .i64 23] W fun r w' => r = pnc 23 (tk l i).pos ∧ Up W w') := refuse_ w0 W b bt off n c ml ms i d l hE ho hi hP 23
  obtain ⟨a0, a1, a2, a3, a4, fz, hbl⟩ := hP.cells
  have HP : Hid (QS W b bt off n c ml ms i d) := hP
  clear hE ho hP
  generalize (tk l i).pos = q at *
  by_cases h64 : d = 64
  · subst h64
    go_enter Tryz.func111, Tryz.ntmps111
    go_wp2_with fail
    refine Calls.mono HRF.out ?_
    rintro r w1 ⟨rfl, u1⟩
    have HU1 : Hid (Up W w1) := u1
    clear u1 HRF
    unfold pnc at *
    go_wp2_with fail
    rw [HPo.out]
    exact ⟨rfl, Only.up HU1.out, .inr ⟨by first | rfl | trivial, rfl⟩⟩
  · have HD : Hid (d ≠ 64) := h64
    have h1 : ((d : Int) == 64) = false := by
      have : ¬ (d : Int) = 64 := by omega
      simpa using this
    obtain ⟨d', hd'⟩ : ∃ d', d' = d + 1 := ⟨_, rfl⟩
    rw [← hd'] at HPo
    have ed : IntKind.i64.wrap ((d : Int) + 1) = (d' : Int) := by rw [IntKind.wrap_i64]; omega
    clear HRF h64 hd'
    go_enter Tryz.func111, Tryz.ntmps111
    go_wp2_with fail
    refine bodyPost_end (v := .tuple #[]) (by simp [results, Tryz.results111, go_sem]) rfl ?_
    rw [HPo.out]
    exact ⟨(Only.refl b W).set 2 _, .inl ⟨HD.out, rfl, HP.out.op d'⟩⟩
set_option maxRecDepth 100000 in
set_option maxHeartbeats 16000000 in
theorem enter_ (w0 W : World) (b bt off n c ml ms i d : Nat) (l : List Tok) (hE : Ev w0 b bt off n c l) (ho : Only b w0 W) (hi : i < n) (hP : QS W b bt off n c ml ms i d) (s : ByteArray) (m : List Int) (hm : Byt m) (hs : s.toList = (strOfNums m).toList) (hd : d ≤ 64) : Calls Tryz.prog 167 #[.pointer (some ⟨b, 0, none⟩), .string s] W (fun r w' => Only b W w' ∧ ((mk (tk l i) m = true ∧ d ≠ 64 ∧ r = .returned (.tuple #[]) ∧ QS w' b bt off n c ml ms (i + 1) (d + 1)) ∨ (mk (tk l i) m = true ∧ d = 64 ∧ r = pnc 23 (tk l i).pos) ∨ (mk (tk l i) m = false ∧ r = pnc 22 (tk l i).pos))) := by
  obtain ⟨Post, hPost⟩ : ∃ P : Ending → World → Prop, P = fun r w' => Only b W w' ∧ ((mk (tk l i) m = true ∧ d ≠ 64 ∧ r = .returned (.tuple #[]) ∧ QS w' b bt off n c ml ms (i + 1) (d + 1)) ∨ (mk (tk l i) m = true ∧ d = 64 ∧ r = pnc 23 (tk l i).pos) ∨ (mk (tk l i) m = false ∧ r = pnc 22 (tk l i).pos)) := ⟨_, rfl⟩
  rw [← hPost]
  have HPo : Hid (Post = fun r w' => Only b W w' ∧ ((mk (tk l i) m = true ∧ d ≠ 64 ∧ r = .returned (.tuple #[]) ∧ QS w' b bt off n c ml ms (i + 1) (d + 1)) ∨ (mk (tk l i) m = true ∧ d = 64 ∧ r = pnc 23 (tk l i).pos) ∨ (mk (tk l i) m = false ∧ r = pnc 22 (tk l i).pos))) := hPost
  clear hPost
  have HM : Hid (Calls Tryz.prog 118 #[.pointer (some ⟨b, 0, none⟩), .string s] W fun r w' => r = .returned (.bool (mk (tk l i) m)) ∧ Up W w') := isMark_ w0 W b bt off n c ml ms i d l hE ho hi hP s m hm hs
  have HOP : Hid (∀ W2, Up W W2 → Calls Tryz.prog 111 #[.pointer (some ⟨b, 0, none⟩)] W2 (fun r w' => Only b W2 w' ∧ ((d ≠ 64 ∧ r = .returned (.tuple #[]) ∧ QS w' b bt off n c ml ms i (d + 1)) ∨ (d = 64 ∧ r = pnc 23 (tk l i).pos)))) := fun W2 hu => popens_ w0 W2 b bt off n c ml ms i d l hE (ho.trans (Only.up hu)) hi (hP.up hu) hd
  have HP : Hid (QS W b bt off n c ml ms i d) := hP
  have HTM : Hid (∀ (d' : Nat) W2, Only b W W2 → QS W2 b bt off n c ml ms i d' → Calls Tryz.prog 117 #[.pointer (some ⟨b, 0, none⟩), .string s] W2 (fun r w' => Only b W2 w' ∧ ((mk (tk l i) m = true ∧ r = .returned (.tuple #[]) ∧ QS w' b bt off n c ml ms (i + 1) d') ∨ (mk (tk l i) m = false ∧ r = pnc 22 (tk l i).pos)))) := fun d' W2 o2 p2 => takeMark_ w0 W2 b bt off n c ml ms i d' l hE (ho.trans o2) hi p2 s m hm hs
  clear hE ho hP hm hs
  cases hmk : mk (tk l i) m with
  | true =>
    rw [hmk] at HM HPo HTM
    clear hmk
    generalize tk l i = t at *
    go_enter Tryz.func167, Tryz.ntmps167
    go_wp2_with fail
    refine Calls.mono HM.out ?_
    rintro r w1 ⟨rfl, u1⟩
    have HC := HOP.out w1 u1
    have HU1 : Hid (Up W w1) := u1
    clear u1 HOP HM
    go_wp2_with fail
    refine Calls.mono HC ?_
    rintro r w2 ⟨ow2, ⟨hd2, rfl, p2⟩ | ⟨hd2, rfl⟩⟩
    · have HO2 : Hid (Only b W w2) := (Only.up HU1.out).trans ow2
      have HC3 := HTM.out (d + 1) w2 HO2.out p2
      have HD : Hid (d ≠ 64) := hd2
      clear ow2 p2 HC HTM hd2 hd
      go_wp2_with fail
      refine Calls.mono HC3 ?_
      rintro r w3 ⟨ow3, ⟨-, rfl, p3⟩ | ⟨q3, -⟩⟩
      · have HO3 : Hid (Only b W w3) := HO2.out.trans ow3
        have HP3 : Hid (QS w3 b bt off n c ml ms (i + 1) (d + 1)) := p3
        clear ow3 p3 HC3
        go_wp2_with fail
        refine bodyPost_end (v := .tuple #[]) (by simp [results, Tryz.results167, go_sem]) rfl ?_
        rw [HPo.out]
        exact ⟨HO3.out, .inl ⟨by first | rfl | trivial, HD.out, rfl, HP3.out⟩⟩
      · cases q3
    · have HO2 : Hid (Only b W w2) := (Only.up HU1.out).trans ow2
      have HD : Hid (d = 64) := hd2
      clear ow2 HC HTM hd2 hd
      unfold pnc at *
      go_wp2_with fail
      rw [HPo.out]
      exact ⟨rfl, HO2.out, .inr (.inl ⟨by first | rfl | trivial, HD.out, rfl⟩)⟩
  | false =>
    rw [hmk] at HM HPo HTM
    clear hmk HOP
    generalize tk l i = t at *
    go_enter Tryz.func167, Tryz.ntmps167
    go_wp2_with fail
    refine Calls.mono HM.out ?_
    rintro r w1 ⟨rfl, u1⟩
    have HC := HTM.out d w1 (Only.up u1) (HP.out.up u1)
    have HU1 : Hid (Up W w1) := u1
    clear u1 HTM HM
    go_wp2_with fail
    refine Calls.mono HC ?_
    rintro r w2 ⟨ow2, ⟨q2, -⟩ | ⟨-, rfl⟩⟩
    · cases q2
    · have HO2 : Hid (Only b W w2) := (Only.up HU1.out).trans ow2
      clear ow2 HC hd
      unfold pnc at *
      go_wp2_with fail
      rw [HPo.out]
      exact ⟨rfl, HO2.out, .inr (.inr ⟨by first | rfl | trivial, rfl⟩)⟩
set_option maxRecDepth 100000 in
set_option maxHeartbeats 16000000 in
theorem leave_ (w0 W : World) (b bt off n c ml ms i d : Nat) (l : List Tok) (hE : Ev w0 b bt off n c l) (ho : Only b w0 W) (hi : i < n) (hP : QS W b bt off n c ml ms i d) (s : ByteArray) (m : List Int) (hm : Byt m) (hs : s.toList = (strOfNums m).toList) (d' : Nat) (hd : d = d' + 1) (hd2 : d ≤ 1000) : Calls Tryz.prog 169 #[.pointer (some ⟨b, 0, none⟩), .string s] W (fun r w' => Only b W w' ∧ ((mk (tk l i) m = true ∧ r = .returned (.tuple #[]) ∧ QS w' b bt off n c ml ms (i + 1) d') ∨ (mk (tk l i) m = false ∧ r = pnc 22 (tk l i).pos))) := by
  obtain ⟨Post, hPost⟩ : ∃ P : Ending → World → Prop, P = fun r w' => Only b W w' ∧ ((mk (tk l i) m = true ∧ r = .returned (.tuple #[]) ∧ QS w' b bt off n c ml ms (i + 1) d') ∨ (mk (tk l i) m = false ∧ r = pnc 22 (tk l i).pos)) := ⟨_, rfl⟩
  rw [← hPost]
  have HPo : Hid (Post = fun r w' => Only b W w' ∧ ((mk (tk l i) m = true ∧ r = .returned (.tuple #[]) ∧ QS w' b bt off n c ml ms (i + 1) d') ∨ (mk (tk l i) m = false ∧ r = pnc 22 (tk l i).pos))) := hPost
  clear hPost
  have HTM : Hid (Calls Tryz.prog 117 #[.pointer (some ⟨b, 0, none⟩), .string s] W (fun r w' => Only b W w' ∧ ((mk (tk l i) m = true ∧ r = .returned (.tuple #[]) ∧ QS w' b bt off n c ml ms (i + 1) d) ∨ (mk (tk l i) m = false ∧ r = pnc 22 (tk l i).pos)))) := takeMark_ w0 W b bt off n c ml ms i d l hE ho hi hP s m hm hs
  have hbl := hP.cells.2.2.2.2.2.2
  have ed : IntKind.i64.wrap ((d : Int) - 1) = (d' : Int) := by rw [IntKind.wrap_i64]; omega
  clear hE ho hP hm hs hd hd2
  generalize tk l i = t at *
  go_enter Tryz.func169, Tryz.ntmps169
  go_wp2_with fail
  refine Calls.mono HTM.out ?_
  rintro r w1 ⟨ow1, ⟨hm, rfl, p1⟩ | ⟨hm, rfl⟩⟩
  · have HM : Hid (mk t m = true) := hm
    have HO1 : Hid (Only b W w1) := ow1
    have HP1 : Hid (QS w1 b bt off n c ml ms (i + 1) d) := p1
    obtain ⟨a0, a1, a2, a3, a4, fz, hbl1⟩ := HP1.out.cells
    clear ow1 p1 hm HTM
    go_wp2_with fail
    refine bodyPost_end (v := .tuple #[]) (by simp [results, Tryz.results169, go_sem]) rfl ?_
    rw [HPo.out]
    exact ⟨HO1.out.set 2 _, .inl ⟨HM.out, rfl, HP1.out.op d'⟩⟩
  · have HM : Hid (mk t m = false) := hm
    have HO1 : Hid (Only b W w1) := ow1
    clear ow1 hm HTM
    unfold pnc at *
    go_wp2_with fail
    rw [HPo.out]
    exact ⟨rfl, HO1.out, .inr ⟨HM.out, rfl⟩⟩
set_option maxRecDepth 100000 in
set_option maxHeartbeats 16000000 in
theorem takeFree_ (w0 W : World) (b bt off n c ml ms i d : Nat) (l : List Tok) (hE : Ev w0 b bt off n c l) (ho : Only b w0 W) (hi : i < n) (hP : QS W b bt off n c ml ms i d) (hX : Ex l n) (v : Value) (also : List (List Int)) (hv : ∀ W2, Up W W2 → SL W2 v also) (ha : ∀ x ∈ also, Byt x) (hn : also.length ≤ 1000) : Calls Tryz.prog 141 #[.pointer (some ⟨b, 0, none⟩), v] W (fun r w' => Only b W w' ∧ (((frt (tk l i) || also.contains (nm (tk l i))) = true ∧ r = .returned (.string (strOfNums (tk l i).text)) ∧ QS w' b bt off n c ml ms (i + 1) d) ∨ ((frt (tk l i) || also.contains (nm (tk l i))) = false ∧ r = pnc 22 (tk l i).pos))) := by
  obtain ⟨Post, hPost⟩ : ∃ P : Ending → World → Prop, P = fun r w' => Only b W w' ∧ (((frt (tk l i) || also.contains (nm (tk l i))) = true ∧ r = .returned (.string (strOfNums (tk l i).text)) ∧ QS w' b bt off n c ml ms (i + 1) d) ∨ ((frt (tk l i) || also.contains (nm (tk l i))) = false ∧ r = pnc 22 (tk l i).pos)) := ⟨_, rfl⟩
  rw [← hPost]
  have HPo : Hid (Post = fun r w' => Only b W w' ∧ (((frt (tk l i) || also.contains (nm (tk l i))) = true ∧ r = .returned (.string (strOfNums (tk l i).text)) ∧ QS w' b bt off n c ml ms (i + 1) d) ∨ ((frt (tk l i) || also.contains (nm (tk l i))) = false ∧ r = pnc 22 (tk l i).pos))) := hPost
  clear hPost
  have HNM : Hid (∀ W2, Up W W2 → Calls Tryz.prog 137 #[.pointer (some ⟨b, 0, none⟩)] W2 fun r w' => r = .returned (.string (strOfNums (nm (tk l i)))) ∧ Up W2 w') := fun W2 hu => name_ w0 W2 b bt off n c ml ms i d l hE (ho.trans (Only.up hu)) hi (hP.up hu)
  have HTT : Hid (∀ W2, Up W W2 → Calls Tryz.prog 105 #[.pointer (some ⟨b, 0, none⟩), .bool true] W2 fun r w' => r = .returned (.agg #[.int .i8 (tk l i).kind, .string (strOfNums (tk l i).text), .int .i64 (tk l i).num, .int .i64 (tk l i).pos]) ∧ Only b W2 w' ∧ QS w' b bt off n c ml ms (i + 1) d) := fun W2 hu => take_t w0 W2 b bt off n c ml ms i d l hE (ho.trans (Only.up hu)) hi (hP.up hu)
  have HTF : Hid (∀ W2, Up W W2 → Calls Tryz.prog 105 #[.pointer (some ⟨b, 0, none⟩), .bool false] W2 fun r w' => r = pnc 22 (tk l i).pos ∧ Up W2 w') := fun W2 hu => take_f w0 W2 b bt off n c ml ms i d l hE (ho.trans (Only.up hu)) hi (hP.up hu)
  have HCL : Hid (∀ W2, Calls Tryz.prog 131 #[.string (strOfNums (tk l i).text)] W2 fun r w' => r = .returned (.string (strOfNums (tk l i).text)) ∧ Up W2 w') := fun W2 => clone0_ _ W2 (by rw [strOfNums_size]; have := hX.len i hi; omega)
  have f1 := fld1
  have hbn : Byt (nm (tk l i)) := by
    unfold nm
    split
    · exact hE.byt i hi
    · intro c hc
      cases hc
  have HFR : Hid (∀ W2, Calls Tryz.prog 170 #[.string (strOfNums (nm (tk l i)))] W2 fun r w' => r = .returned (.bool (frt (tk l i))) ∧ w' = W2) := fun W2 => by
    have h9 := isFree_ (nm (tk l i)) W2 hbn
    have e9 : (decide (nm (tk l i) ≠ []) && !TR.words.contains (nm (tk l i))) = frt (tk l i) := by
      unfold nm frt fre
      by_cases hk : (tk l i).kind = 1
      · have hn := hX.nam i hi hk
        have hne : (tk l i).text ≠ [] := fun e => by
          rw [e] at hn
          exact absurd hn (by decide)
        rw [if_pos hk, hn, hk]
        simp [hne]
      · rw [if_neg hk]
        have : ((tk l i).kind == 1) = false := by simpa using hk
        rw [this]
        simp
    rw [e9] at h9
    exact h9
  have HCT : Hid (∀ W2, Up W W2 → Calls Tryz.prog 171 #[v, .string (strOfNums (nm (tk l i)))] W2 fun r w' => r = .returned (.bool (also.contains (nm (tk l i)))) ∧ w' = W2) := fun W2 hu => contains0_ v also (nm (tk l i)) W2 (hv W2 hu) hbn ha hn
  clear hE ho hP hbn hv ha hn
  generalize frt (tk l i) = bf at *
  generalize also.contains (nm (tk l i)) = bc at *
  generalize strOfNums (nm (tk l i)) = sn at *
  generalize tk l i = t at *
  obtain ⟨kd, tx, tn, tp⟩ := t
  simp only at HTT HTF HPo HCL
  generalize strOfNums tx = st at *
  cases bf with
  | true =>
    rw [Bool.true_or] at HPo
    clear HCT
    have HUW : Hid (Up W W) := Up.refl _
    go_enter Tryz.func141, Tryz.ntmps141
    go_wp2_with fail
    refine Calls.mono (HNM.out W (Up.refl _)) ?_
    rintro r w1 ⟨rfl, uw1⟩
    have HUw1 : Hid (Up W w1) := HUW.out.trans uw1
    clear uw1
    go_wp2_with fail
    refine Calls.mono (HFR.out w1) ?_
    rintro r w2 ⟨rfl, ew2⟩
    have HUw2 : Hid (Up W w2) := by unfold Hid; rw [ew2]; exact HUw1.out
    clear ew2
    have HC := HTT.out w2 HUw2.out
    have HO1 : Hid (Up W w2) := HUw2.out
    clear HTT HTF
    go_wp2_with fail
    refine Calls.mono HC ?_
    rintro r w5 ⟨rfl, o5, p5⟩
    have HO5 : Hid (Only b W w5) := (Only.up HO1.out).trans o5
    have HP5 : Hid (QS w5 b bt off n c ml ms (i + 1) d) := p5
    clear o5 p5 HC
    have HC3 := HCL.out w5
    clear HCL
    go_wp2_with fail
    refine Calls.mono HC3 ?_
    rintro r w6 ⟨rfl, u6⟩
    have HO6 : Hid (Only b W w6) := HO5.out.trans (Only.up u6)
    have HP6 : Hid (QS w6 b bt off n c ml ms (i + 1) d) := HP5.out.up u6
    clear u6 HC3
    go_wp2_with fail
    rw [HPo.out]
    exact ⟨HO6.out, .inl ⟨by first | rfl | trivial, rfl, HP6.out⟩⟩
  | false =>
    rw [Bool.false_or] at HPo
    cases bc with
    | true =>
      have HUW : Hid (Up W W) := Up.refl _
      go_enter Tryz.func141, Tryz.ntmps141
      go_wp2_with fail
      refine Calls.mono (HNM.out W (Up.refl _)) ?_
      rintro r w1 ⟨rfl, uw1⟩
      have HUw1 : Hid (Up W w1) := HUW.out.trans uw1
      clear uw1
      go_wp2_with fail
      refine Calls.mono (HFR.out w1) ?_
      rintro r w2 ⟨rfl, ew2⟩
      have HUw2 : Hid (Up W w2) := by unfold Hid; rw [ew2]; exact HUw1.out
      clear ew2
      go_wp2_with fail
      refine Calls.mono (HNM.out w2 HUw2.out) ?_
      rintro r w3 ⟨rfl, uw3⟩
      have HUw3 : Hid (Up W w3) := HUw2.out.trans uw3
      clear uw3
      go_wp2_with fail
      refine Calls.mono (HCT.out w3 HUw3.out) ?_
      rintro r w4 ⟨rfl, ew4⟩
      have HUw4 : Hid (Up W w4) := by unfold Hid; rw [ew4]; exact HUw3.out
      clear ew4
      have HC := HTT.out w4 HUw4.out
      have HO1 : Hid (Up W w4) := HUw4.out
      clear HTT HTF
      go_wp2_with fail
      refine Calls.mono HC ?_
      rintro r w5 ⟨rfl, o5, p5⟩
      have HO5 : Hid (Only b W w5) := (Only.up HO1.out).trans o5
      have HP5 : Hid (QS w5 b bt off n c ml ms (i + 1) d) := p5
      clear o5 p5 HC
      have HC3 := HCL.out w5
      clear HCL
      go_wp2_with fail
      refine Calls.mono HC3 ?_
      rintro r w6 ⟨rfl, u6⟩
      have HO6 : Hid (Only b W w6) := HO5.out.trans (Only.up u6)
      have HP6 : Hid (QS w6 b bt off n c ml ms (i + 1) d) := HP5.out.up u6
      clear u6 HC3
      go_wp2_with fail
      rw [HPo.out]
      exact ⟨HO6.out, .inl ⟨by first | rfl | trivial, rfl, HP6.out⟩⟩
    | false =>
      have HUW : Hid (Up W W) := Up.refl _
      go_enter Tryz.func141, Tryz.ntmps141
      go_wp2_with fail
      refine Calls.mono (HNM.out W (Up.refl _)) ?_
      rintro r w1 ⟨rfl, uw1⟩
      have HUw1 : Hid (Up W w1) := HUW.out.trans uw1
      clear uw1
      go_wp2_with fail
      refine Calls.mono (HFR.out w1) ?_
      rintro r w2 ⟨rfl, ew2⟩
      have HUw2 : Hid (Up W w2) := by unfold Hid; rw [ew2]; exact HUw1.out
      clear ew2
      go_wp2_with fail
      refine Calls.mono (HNM.out w2 HUw2.out) ?_
      rintro r w3 ⟨rfl, uw3⟩
      have HUw3 : Hid (Up W w3) := HUw2.out.trans uw3
      clear uw3
      go_wp2_with fail
      refine Calls.mono (HCT.out w3 HUw3.out) ?_
      rintro r w4 ⟨rfl, ew4⟩
      have HUw4 : Hid (Up W w4) := by unfold Hid; rw [ew4]; exact HUw3.out
      clear ew4
      have HC := HTF.out w4 HUw4.out
      clear HTT HTF
      go_wp2_with fail
      refine Calls.mono HC ?_
      rintro r w5 ⟨rfl, u5⟩
      have HO5 : Hid (Only b W w5) := (Only.up HUw4.out).trans (Only.up u5)
      clear u5 HC
      unfold pnc at *
      go_wp2_with fail
      rw [HPo.out]
      exact ⟨rfl, HO5.out, .inr ⟨by first | rfl | trivial, rfl⟩⟩
end TP
end Go.Proofs.YtkldllnnocdhbaaGreatDoor
namespace Go.Proofs.YtkldllnnocdhbaaGreatDoor
open Go.RowKit
namespace TP
/- where the longer row lies: in its block, or in a new one -/
def LiesN (v v' : Value) (w : World) : Prop := v'.ownBlock = v.ownBlock ∨ ∃ g, v'.ownBlock = some g ∧ w.heap.size ≤ g
theorem run_append_far {P : Program} (w : World) (base : Nat) (t ty e : TypeId) (i : TypeInfo) (z : Value) (size bytes : Nat) (ht : P.underlying t = some (.slice e)) (hi : P.info? e = some i) (hz : i.zero = some z)
    (hsize : i.size = size) (hby : i.bytes = bytes) (hzs : z.cells.size = size) (hsz : 0 < size)
    (v : Value) (n : Nat) (xs : List Value) (hown : w.ownsRow base e size v n xs)
    (a : Addr) (m c : Nat) (ys : List Value) (hm : 0 < m) (hys : ys.length = m * size) (hnews : ∀ j u, ys[j]? = some u → w.cell? (a.add j) = some u) (hone : ∀ u ∈ ys, u.oneCell' = true)
    (h63 : n + m ≤ maxLen) (hbytes : (n + m) * bytes ≤ 140737488355328) (hbase : base ≤ w.heap.size) :
    ∃ v' w', (Builtin.append_ #[t, t] ty #[v, .slice (some a) m c]).run P w = .ok v' w' ∧ w'.ownsRow base e size v' (n + m) (xs ++ ys) ∧ w.grownBy w' v.ownBlock ∧ LiesN v v' w := by
  subst hby
  subst hsize
  obtain ⟨v', w', hr, h2, h3, _⟩ := run_append_own (P := P) w base t ty e i z i.size i.bytes ht hi hz rfl rfl hzs hsz v n xs hown a m c ys hys hnews hone h63 hbytes hbase
  refine ⟨v', w', hr, h2, h3, ?_⟩
  rcases hown.2 with ⟨rfl, rfl⟩ | ⟨g', cap, cur, rfl, hbg, hgc, hnc, hcm, hcs, htake⟩
  · obtain ⟨v9, w9, hr9, h9, _, _⟩ := run_append_own (P := P) w w.heap.size t ty e i z i.size i.bytes ht hi hz rfl rfl hzs hsz (.slice none 0 0) 0 [] (World.ownsRow_nil _ _ _ _) a m c ys hys hnews hone h63 hbytes (Nat.le_refl _)
    rw [hr] at hr9
    cases hr9
    refine .inr ?_
    rcases h9.2 with ⟨-, h0⟩ | ⟨g, cap, cur, rfl, hb, _⟩
    · omega
    · exact ⟨g, rfl, hb⟩
  · by_cases hroom : n + m ≤ cap
    · have hr2 := run_append_room (P := P) w t ty e i ht hi g' n cap cur hgc a m c ys hys hnews hone hroom (by rw [hcs, hys, ← Nat.add_mul]; exact Nat.mul_le_mul_right _ hroom)
      rw [hr] at hr2
      cases hr2
      exact .inl rfl
    · have holds : ∀ j u, xs[j]? = some u → w.cell? ((⟨g', 0, none⟩ : Addr).add j) = some u := hown.cells (g := g') rfl
      have hr2 := run_append_grow (P := P) w t ty e i z ht hi hz ⟨g', 0, none⟩ n cap xs hown.1 holds a m c ys hys hnews (by omega) (by simp only [maxLen] at h63; omega) (growslice_fits (by omega) hbytes)
      rw [hr] at hr2
      cases hr2
      exact .inr ⟨_, rfl, Nat.le_refl _⟩
theorem wpList_append_far {P : Program} (w : World) {ops : Array Oper} {rest : List Oper} {o : Oper} {a : Act} {Q : Exit → Act → World → Prop} (hgd : o.guard = none) (s x : Operand) (t : TypeId)
    (ho : o.op = .call { callee := .builtin .append, args := #[s, x], argTypes := #[t, t] })
    (base : Nat) (e : TypeId) (i : TypeInfo) (z : Value) (size bytes : Nat) (ht : P.underlying t = some (.slice e)) (hi : P.info? e = some i) (hz : i.zero = some z)
    (hsize : i.size = size) (hby : i.bytes = bytes) (hzs : z.cells.size = size) (hsz : 0 < size)
    (v : Value) (n : Nat) (xs : List Value) (hs : a.eval s = v) (hown : w.ownsRow base e size v n xs)
    (ad : Addr) (m c : Nat) (ys : List Value) (hx : a.eval x = .slice (some ad) m c) (hm : 0 < m) (hys : ys.length = m * size) (hnews : ∀ j u, ys[j]? = some u → w.cell? (ad.add j) = some u) (hone : ∀ u ∈ ys, u.oneCell' = true)
    (h63 : n + m ≤ maxLen) (hbytes : (n + m) * bytes ≤ 140737488355328) (hbase : base ≤ w.heap.size)
    (h : ∀ v' w', w'.ownsRow base e size v' (n + m) (xs ++ ys) → w.grownBy w' v.ownBlock → LiesN v v' w → wpList P ops Q rest (a.put o.dst v') w') : wpList P ops Q (o :: rest) a w := by
  refine wpList_plain hgd fun _ hK => ?_
  obtain ⟨v', w', hr, h2, h3, h4⟩ := run_append_far (P := P) w base t o.type e i z size bytes ht hi hz hsize hby hzs hsz v n xs hown ad m c ys hm hys hnews hone h63 hbytes hbase
  unfold Oper.wp execOp
  simp only [ho, resolve, invoke, builtin, Sem.run_bind, Sem.run_pure, Result.andThen_ok, List.map_toArray, List.map_cons, List.map_nil, hs, hx, hr]
  exact hK _ _ (h v' w' h2 h3 h4)
/- two rows in blocks of their own -/
def Dj (a b : Value) : Prop := ∀ g, a.ownBlock = some g → b.ownBlock ≠ some g
theorem Dj.symm {a b : Value} (h : Dj a b) : Dj b a := fun g h1 h2 => h g h2 h1
theorem Dj.ne {a b : Value} (h : Dj a b) : a.ownBlock = none ∨ a.ownBlock ≠ b.ownBlock := by
  cases ha : a.ownBlock with
  | none => exact .inl rfl
  | some g => exact .inr (fun e => h g ha e.symm)
theorem Dj.next {w : World} {base e s n : Nat} {a a' b : Value} {xs : List Value} (h : Dj a b) (hb : w.ownsRow base e s b n xs) (hl : LiesN a a' w) : Dj a' b := fun g h1 h2 => by
  rcases hl with h3 | ⟨g', h3, h4⟩
  · exact h g (by rw [← h3]; exact h1) h2
  · rw [h3] at h1
    have e9 : g' = g := by simpa using h1
    subst e9
    have := (World.ownsRow.lt hb g' h2).2
    omega
/- nodes in a new block -/
theorem lit_news {w : World} {cs : Array Value} {t : TypeId} : ∀ j u, cs.toList[j]? = some u → (w.alloc (.cells cs t)).cell? ((⟨w.heap.size, 0, none⟩ : Addr).add j) = some u := World.news_of_block (heap_alloc_new w _)
end TP
end Go.Proofs.YtkldllnnocdhbaaGreatDoor
