/-
  The program's parser: items.
-/
import Derived.Test.YtkldllnnocdhbaaGreatDoorBo10
namespace Go.Proofs.YtkldllnnocdhbaaGreatDoor
open Go.RowKit
attribute [local go_sem ↓] Go.wp_at_zero Go.wp_at_succ
namespace TP
open TR (Nd Byt nums_inj)
open TK (Tok)
set_option maxRecDepth 100000 in
set_option maxHeartbeats 16000000 in
theorem pitem_ (w0 W : World) (b bt off n c ml ms i d : Nat) (l : List Tok) (hE : Ev w0 b bt off n c l) (ho : Only b w0 W) (hi : i < n) (hP : QS W b bt off n c ml ms i d) (hd : d ≤ 64) (N : Nat) (R : Rs) (hl : (tk l (l.length - 1)).kind = 0) (hX : Ex l n) (hF : ∀ k, k ≤ N → Prt w0 b bt off n c ml ms l k 206 .arg) (hG : Prt w0 b bt off n c ml ms l N 27 (.row 1)) (hR : P l (N + 1) .item i d = some R) : Calls Tryz.prog 202 #[.pointer (some ⟨b, 0, none⟩)] W (QG b bt off n c ml ms d R W) := by
  obtain ⟨Post, hPost⟩ : ∃ P : Ending → World → Prop, P = QG b bt off n c ml ms d R W := ⟨_, rfl⟩
  rw [← hPost]
  have HPo : Hid (Post = QG b bt off n c ml ms d R W) := hPost
  clear hPost
  have HNW : Hid (∀ W2, Up W W2 → Calls Tryz.prog 114 #[.pointer (some ⟨b, 0, none⟩)] W2 fun r w' => r = .returned (.agg #[.int .i8 (tk l i).kind, .string (strOfNums (tk l i).text), .int .i64 (tk l i).num, .int .i64 (tk l i).pos]) ∧ Up W2 w') := fun W2 hu => next_ w0 W2 b bt off n c ml ms i d l hE (ho.trans (Only.up hu)) hi (hP.up hu)
  have HHR : Hid (∀ W2, Up W W2 → Calls Tryz.prog 75 #[.pointer (some ⟨b, 0, none⟩), .int .i8 30] W2 (fun r w' => Up W2 w' ∧ ∃ g, r = .returned (ptr g) ∧ W2.heap.size ≤ g ∧ w'.heap[g]? = some (.cells (pcell (⟨30, 0, 0, 0, [], (tk l i).pos, 0⟩ : Nd) (.slice none 0 0)) 170 (0, 0)))) := fun W2 hu => here_ w0 W2 b bt off n c ml ms i d l hE (ho.trans (Only.up hu)) hi (hP.up hu) 30
  have HTX : Hid (∀ W2, Up W W2 → Calls Tryz.prog 144 #[.pointer (some ⟨b, 0, none⟩)] W2 (fun r w' => Only b W2 w' ∧ (((tk l i).kind = 2 ∧ r = .returned (.int .i64 (tk l i).num) ∧ QS w' b bt off n c ml ms (i + 1) d) ∨ ((tk l i).kind ≠ 2 ∧ r = pnc 22 (tk l i).pos)))) := fun W2 hu => takeNumber_ w0 W2 b bt off n c ml ms i d l hE (ho.trans (Only.up hu)) hi (hP.up hu)
  have HBT : Hid (∀ W2, Up W W2 → Calls Tryz.prog 135 #[.pointer (some ⟨b, 0, none⟩), .int .i8 31] W2 (fun r w' => Only b W2 w' ∧ QS w' b bt off n c ml ms (i + 1) d ∧ ∃ g, r = .returned (ptr g) ∧ W2.heap.size ≤ g ∧ w'.heap[g]? = some (.cells (pcell (⟨31, 0, 0, 0, [], (tk l i).pos, 0⟩ : Nd) (.slice none 0 0)) 170 (0, 0)))) := fun W2 hu => begin_ w0 W2 b bt off n c ml ms i d l hE (ho.trans (Only.up hu)) hi (hP.up hu) 31
  have HBF : Hid (∀ W2, Up W W2 → Calls Tryz.prog 135 #[.pointer (some ⟨b, 0, none⟩), .int .i8 32] W2 (fun r w' => Only b W2 w' ∧ QS w' b bt off n c ml ms (i + 1) d ∧ ∃ g, r = .returned (ptr g) ∧ W2.heap.size ≤ g ∧ w'.heap[g]? = some (.cells (pcell (⟨32, 0, 0, 0, [], (tk l i).pos, 0⟩ : Nd) (.slice none 0 0)) 170 (0, 0)))) := fun W2 hu => begin_ w0 W2 b bt off n c ml ms i d l hE (ho.trans (Only.up hu)) hi (hP.up hu) 32
  have HWT : Hid (∀ W2, Up W W2 → Calls Tryz.prog 138 #[.pointer (some ⟨b, 0, none⟩), .string ⟨#[116, 114, 117, 101]⟩] W2 fun r w' => r = .returned (.bool (wd (tk l i) [116, 114, 117, 101])) ∧ Up W2 w') := fun W2 hu => isWord_ w0 W2 b bt off n c ml ms i d l hE (ho.trans (Only.up hu)) hi (hP.up hu) ⟨#[116, 114, 117, 101]⟩ [116, 114, 117, 101] (by unfold TR.Byt; decide) (congrArg ByteArray.toList (show (⟨#[116, 114, 117, 101]⟩ : ByteArray) = strOfNums [116, 114, 117, 101] from rfl)) (by decide)
  have HWF : Hid (∀ W2, Up W W2 → Calls Tryz.prog 138 #[.pointer (some ⟨b, 0, none⟩), .string ⟨#[102, 97, 108, 115, 101]⟩] W2 fun r w' => r = .returned (.bool (wd (tk l i) [102, 97, 108, 115, 101])) ∧ Up W2 w') := fun W2 hu => isWord_ w0 W2 b bt off n c ml ms i d l hE (ho.trans (Only.up hu)) hi (hP.up hu) ⟨#[102, 97, 108, 115, 101]⟩ [102, 97, 108, 115, 101] (by unfold TR.Byt; decide) (congrArg ByteArray.toList (show (⟨#[102, 97, 108, 115, 101]⟩ : ByteArray) = strOfNums [102, 97, 108, 115, 101] from rfl)) (by decide)
  have HMP : Hid (∀ W2, Up W W2 → Calls Tryz.prog 118 #[.pointer (some ⟨b, 0, none⟩), .string ⟨#[40]⟩] W2 fun r w' => r = .returned (.bool (mk (tk l i) [40])) ∧ Up W2 w') := fun W2 hu => isMark_ w0 W2 b bt off n c ml ms i d l hE (ho.trans (Only.up hu)) hi (hP.up hu) ⟨#[40]⟩ [40] (by unfold TR.Byt; decide) (congrArg ByteArray.toList (show (⟨#[40]⟩ : ByteArray) = strOfNums [40] from rfl))
  have HPR : Hid (∀ W2, Up W W2 → mk (tk l i) [40] = true → (if d = 64 then deep (tk l i) else bd (P l N (.row 1) (i + 1) (d + 1)) (fun x j => if mk (tk l j) [41] = true then okr x (j + 1) else bad (tk l j))) = some R → Calls Tryz.prog 204 #[.pointer (some ⟨b, 0, none⟩)] W2 (QG b bt off n c ml ms d R W2)) := fun W2 hu hm h => parens_ w0 W2 b bt off n c ml ms i d l hE (ho.trans (Only.up hu)) hi (hP.up hu) hd N R hl hm hG h
  have HNM : Hid (∀ W2, Up W W2 → (if wd (tk l i) TR.wself = true ∨ wd (tk l i) TR.wme = true then okr (nod 33 0 (tk l i).text (tk l i).pos .nil) (i + 1) else if frt (tk l i) = true then (if mk (tk l (i + 1)) [40] = true then bd (P l N (.args true) (i + 1) d) fun k j => okr (nod 50 0 (tk l i).text (tk l i).pos k) j else okr (nod 33 0 (tk l i).text (tk l i).pos .nil) (i + 1)) else bad (tk l i)) = some R → Calls Tryz.prog 205 #[.pointer (some ⟨b, 0, none⟩)] W2 (QG b bt off n c ml ms d R W2)) := fun W2 hu h => named_ w0 W2 b bt off n c ml ms i d l hE (ho.trans (Only.up hu)) hi (hP.up hu) hd N R hl hX hF h
  have hbl := hP.cells.2.2.2.2.2.2
  have f0 := fld0
  rw [P] at hR
  clear hE ho hP hF hG hl hX
  by_cases hk : (tk l i).kind = 2
  · rw [if_pos hk] at hR
    have HRE : Hid (Rs.ok (nod 30 (tk l i).num [] (tk l i).pos .nil) (i + 1) = R) := Option.some.inj hR
    have hk2 : ((tk l i).kind == 2) = true := by rw [hk]; rfl
    clear hR HBT HBF HWT HWF HMP HPR HNM
    go_enter Tryz.func202, Tryz.ntmps202
    go_wp2_with fail
    refine Calls.mono (HNW.out W (Up.refl _)) ?_
    rintro r9 w1 ⟨rfl, u1⟩
    have HU1 : Hid (Up W w1) := u1
    clear u1
    have HC := HHR.out w1 HU1.out
    clear HHR
    go_wp2_with fail
    refine Calls.mono HC ?_
    rintro r9 w2 ⟨u2, g, rfl, hg, hc⟩
    have HU2 : Hid (Up W w2) := HU1.out.trans u2
    have hgW : W.heap.size ≤ g := Nat.le_trans HU1.out.size hg
    have HN2 : Hid _ := hc
    clear u2 hc HC hg
    have HC := HTX.out w2 HU2.out
    clear HTX
    go_wp2_with fail
    refine Calls.mono HC ?_
    rintro r w3 ⟨ow3, ⟨-, rfl, p3⟩ | ⟨h9, -⟩⟩
    · have HOw3 : Hid (Only b W w3) := (Only.up HU2.out).trans ow3
      have HNw3 : Hid (w3.heap[g]? = some (.cells (pcell (⟨30, 0, 0, 0, [], (tk l i).pos, 0⟩ : Nd) (.slice none 0 0)) 170 (0, 0))) := ow3.heap HN2.out (by omega)
      have HPw3 : Hid (QS w3 b bt off n c ml ms (i + 1) d) := p3
      clear ow3 p3 HC HN2
      obtain ⟨c9, f9⟩ := new_cell (j := 2) (x := .int .i64 0) HNw3.out (by first | rfl | (unfold pcell; rfl))
      obtain ⟨s1, s2, s3⟩ := put_new (b := b) (W := W) (a := (⟨30, 0, 0, 0, [], (tk l i).pos, 0⟩ : Nd)) (a' := (⟨30, 0, (tk l i).num, 0, [], (tk l i).pos, 0⟩ : Nd)) (x := .int .i64 (tk l i).num) 2 HOw3.out hgW HNw3.out (by first | rfl | (unfold pcell; rfl))
      have HOs : Hid (Only b W (w3.setCell ⟨g, 2, none⟩ (.int .i64 (tk l i).num))) := s1
      have HNs : Hid ((w3.setCell ⟨g, 2, none⟩ (.int .i64 (tk l i).num)).heap[g]? = some (.cells (pcell (⟨30, 0, (tk l i).num, 0, [], (tk l i).pos, 0⟩ : Nd) (.slice none 0 0)) 170 (0, 0))) := s2
      have HPs : Hid (QS (w3.setCell ⟨g, 2, none⟩ (.int .i64 (tk l i).num)) b bt off n c ml ms (i + 1) d) := s3 b _ (by omega) HPw3.out
      clear s1 s2 s3
      go_wp2_with fail
      rw [HPo.out, ← HRE.out]
      exact ⟨HOs.out, g, rfl, leaf_done HNs.out hgW, HPs.out⟩
    · exact absurd hk h9
  · have hk2 : ((tk l i).kind == 2) = false := by simpa using hk
    rw [if_neg hk] at hR
    clear HHR HTX
    cases hmp : mk (tk l i) [40] with
    | true =>
      rw [hmp] at HMP
      have n1 : wd (tk l i) [116, 114, 117, 101] = false := mk_not_wd hmp
      have n2 : wd (tk l i) [102, 97, 108, 115, 101] = false := mk_not_wd hmp
      have n3 : wd (tk l i) TR.wself = false := mk_not_wd hmp
      have n4 : wd (tk l i) TR.wme = false := mk_not_wd hmp
      rw [if_neg (by rw [n1]; decide), if_neg (by rw [n2]; decide), if_neg (by rw [n3, n4]; decide), if_pos hmp] at hR
      have HPR2 : Hid (∀ W2, Up W W2 → Calls Tryz.prog 204 #[.pointer (some ⟨b, 0, none⟩)] W2 (QG b bt off n c ml ms d R W2)) := fun W2 hu => HPR.out W2 hu hmp hR
      clear hR n1 n2 n3 n4 hmp HPR HBT HBF HWT HWF HNM hk
      go_enter Tryz.func202, Tryz.ntmps202
      have HUW : Hid (Up W W) := Up.refl _
      have HCw1 := HNW.out W HUW.out
      clear HNW
      go_wp2_with fail
      refine Calls.mono HCw1 ?_
      rintro r9 w1 ⟨rfl, uw1⟩
      have HUw1 : Hid (Up W w1) := HUW.out.trans uw1
      clear uw1 HCw1
      have HCw2 := HMP.out w1 HUw1.out
      clear HMP
      go_wp2_with fail
      refine Calls.mono HCw2 ?_
      rintro r9 w2 ⟨rfl, uw2⟩
      have HUw2 : Hid (Up W w2) := HUw1.out.trans uw2
      clear uw2 HCw2
      have HC := HPR2.out w2 HUw2.out
      clear HPR2
      go_wp2_with fail
      refine Calls.mono HC ?_
      intro r9 w3 h
      obtain ⟨ow3, h⟩ := h
      have HOw3 : Hid (Only b W w3) := (Only.up HUw2.out).trans ow3
      clear ow3
      cases R with
      | bad er pp =>
        obtain rfl : r9 = pnc er pp := h
        unfold pnc at *
        go_wp2_with fail
        rw [HPo.out]
        exact ⟨rfl, HOw3.out, rfl⟩
      | ok y j =>
        obtain ⟨g, rfl, hy, p9⟩ := h
        have hy9 : PF w3 (Sn W.heap.size w3) y [ptr g] := PF.mono (fun z hz => ⟨Nat.le_trans HUw2.out.size hz.1, hz.2⟩) y _ hy
        have HR9 : Hid _ := And.intro hy9 p9
        clear hy p9 hy9
        go_wp2_with fail
        rw [HPo.out]
        exact ⟨HOw3.out, g, rfl, HR9.out.1, HR9.out.2⟩
    | false =>
      rw [hmp] at HMP
      clear HPR
      cases hwt : wd (tk l i) [116, 114, 117, 101] with
      | true =>
        rw [hwt] at HWT
        rw [if_pos hwt] at hR
        have HRE : Hid (Rs.ok (nod 31 0 [] (tk l i).pos .nil) (i + 1) = R) := Option.some.inj hR
        clear hR hwt hmp HBF HWF HNM hk
        go_enter Tryz.func202, Tryz.ntmps202
        have HUW : Hid (Up W W) := Up.refl _
        have HCw1 := HNW.out W HUW.out
        clear HNW
        go_wp2_with fail
        refine Calls.mono HCw1 ?_
        rintro r9 w1 ⟨rfl, uw1⟩
        have HUw1 : Hid (Up W w1) := HUW.out.trans uw1
        clear uw1 HCw1
        have HCw2 := HMP.out w1 HUw1.out
        clear HMP
        go_wp2_with fail
        refine Calls.mono HCw2 ?_
        rintro r9 w2 ⟨rfl, uw2⟩
        have HUw2 : Hid (Up W w2) := HUw1.out.trans uw2
        clear uw2 HCw2
        have HCw3 := HWT.out w2 HUw2.out
        clear HWT
        go_wp2_with fail
        refine Calls.mono HCw3 ?_
        rintro r9 w3 ⟨rfl, uw3⟩
        have HUw3 : Hid (Up W w3) := HUw2.out.trans uw3
        clear uw3 HCw3
        have HC := HBT.out w3 HUw3.out
        clear HBT
        go_wp2_with fail
        refine Calls.mono HC ?_
        rintro r9 w9 ⟨o9, p9, g, rfl, hg, hc⟩
        have hgW : W.heap.size ≤ g := Nat.le_trans HUw3.out.size hg
        have HO9 : Hid (Only b W w9) := (Only.up HUw3.out).trans o9
        have HN9 : Hid _ := hc
        have HP9 : Hid (QS w9 b bt off n c ml ms (i + 1) d) := p9
        clear o9 p9 hc HC hg
        go_wp2_with fail
        rw [HPo.out, ← HRE.out]
        exact ⟨HO9.out, g, rfl, leaf_done HN9.out hgW, HP9.out⟩
      | false =>
        rw [hwt] at HWT
        rw [if_neg (by rw [hwt]; decide)] at hR
        cases hwf : wd (tk l i) [102, 97, 108, 115, 101] with
        | true =>
          rw [hwf] at HWF
          rw [if_pos hwf] at hR
          have HRE : Hid (Rs.ok (nod 32 0 [] (tk l i).pos .nil) (i + 1) = R) := Option.some.inj hR
          clear hR hwt hmp hwf HBT HNM hk
          go_enter Tryz.func202, Tryz.ntmps202
          have HUW : Hid (Up W W) := Up.refl _
          have HCw1 := HNW.out W HUW.out
          clear HNW
          go_wp2_with fail
          refine Calls.mono HCw1 ?_
          rintro r9 w1 ⟨rfl, uw1⟩
          have HUw1 : Hid (Up W w1) := HUW.out.trans uw1
          clear uw1 HCw1
          have HCw2 := HMP.out w1 HUw1.out
          clear HMP
          go_wp2_with fail
          refine Calls.mono HCw2 ?_
          rintro r9 w2 ⟨rfl, uw2⟩
          have HUw2 : Hid (Up W w2) := HUw1.out.trans uw2
          clear uw2 HCw2
          have HCw3 := HWT.out w2 HUw2.out
          clear HWT
          go_wp2_with fail
          refine Calls.mono HCw3 ?_
          rintro r9 w3 ⟨rfl, uw3⟩
          have HUw3 : Hid (Up W w3) := HUw2.out.trans uw3
          clear uw3 HCw3
          have HCw4 := HWF.out w3 HUw3.out
          clear HWF
          go_wp2_with fail
          refine Calls.mono HCw4 ?_
          rintro r9 w4 ⟨rfl, uw4⟩
          have HUw4 : Hid (Up W w4) := HUw3.out.trans uw4
          clear uw4 HCw4
          have HC := HBF.out w4 HUw4.out
          clear HBF
          go_wp2_with fail
          refine Calls.mono HC ?_
          rintro r9 w9 ⟨o9, p9, g, rfl, hg, hc⟩
          have hgW : W.heap.size ≤ g := Nat.le_trans HUw4.out.size hg
          have HO9 : Hid (Only b W w9) := (Only.up HUw4.out).trans o9
          have HN9 : Hid _ := hc
          have HP9 : Hid (QS w9 b bt off n c ml ms (i + 1) d) := p9
          clear o9 p9 hc HC hg
          go_wp2_with fail
          rw [HPo.out, ← HRE.out]
          exact ⟨HO9.out, g, rfl, leaf_done HN9.out hgW, HP9.out⟩
        | false =>
          rw [hwf] at HWF
          rw [if_neg (by rw [hwf]; decide)] at hR
          have hR2 : (if wd (tk l i) TR.wself = true ∨ wd (tk l i) TR.wme = true then okr (nod 33 0 (tk l i).text (tk l i).pos .nil) (i + 1) else if frt (tk l i) = true then (if mk (tk l (i + 1)) [40] = true then bd (P l N (.args true) (i + 1) d) fun k j => okr (nod 50 0 (tk l i).text (tk l i).pos k) j else okr (nod 33 0 (tk l i).text (tk l i).pos .nil) (i + 1)) else bad (tk l i)) = some R := by
            by_cases hs : wd (tk l i) TR.wself = true ∨ wd (tk l i) TR.wme = true
            · rw [if_pos hs] at hR ⊢
              exact hR
            · rw [if_neg hs, if_neg (by rw [hmp]; decide)] at hR
              rw [if_neg hs]
              exact hR
          have HNM2 : Hid (∀ W2, Up W W2 → Calls Tryz.prog 205 #[.pointer (some ⟨b, 0, none⟩)] W2 (QG b bt off n c ml ms d R W2)) := fun W2 hu => HNM.out W2 hu hR2
          clear hR hR2 hwt hmp hwf HBT HBF HNM hk
          go_enter Tryz.func202, Tryz.ntmps202
          have HUW : Hid (Up W W) := Up.refl _
          have HCw1 := HNW.out W HUW.out
          clear HNW
          go_wp2_with fail
          refine Calls.mono HCw1 ?_
          rintro r9 w1 ⟨rfl, uw1⟩
          have HUw1 : Hid (Up W w1) := HUW.out.trans uw1
          clear uw1 HCw1
          have HCw2 := HMP.out w1 HUw1.out
          clear HMP
          go_wp2_with fail
          refine Calls.mono HCw2 ?_
          rintro r9 w2 ⟨rfl, uw2⟩
          have HUw2 : Hid (Up W w2) := HUw1.out.trans uw2
          clear uw2 HCw2
          have HCw3 := HWT.out w2 HUw2.out
          clear HWT
          go_wp2_with fail
          refine Calls.mono HCw3 ?_
          rintro r9 w3 ⟨rfl, uw3⟩
          have HUw3 : Hid (Up W w3) := HUw2.out.trans uw3
          clear uw3 HCw3
          have HCw4 := HWF.out w3 HUw3.out
          clear HWF
          go_wp2_with fail
          refine Calls.mono HCw4 ?_
          rintro r9 w4 ⟨rfl, uw4⟩
          have HUw4 : Hid (Up W w4) := HUw3.out.trans uw4
          clear uw4 HCw4
          have HC := HNM2.out w4 HUw4.out
          clear HNM2
          go_wp2_with fail
          refine Calls.mono HC ?_
          intro r9 w5 h
          obtain ⟨ow5, h⟩ := h
          have HOw5 : Hid (Only b W w5) := (Only.up HUw4.out).trans ow5
          clear ow5
          cases R with
          | bad er pp =>
            obtain rfl : r9 = pnc er pp := h
            unfold pnc at *
            go_wp2_with fail
            rw [HPo.out]
            exact ⟨rfl, HOw5.out, rfl⟩
          | ok y j =>
            obtain ⟨g, rfl, hy, p9⟩ := h
            have hy9 : PF w5 (Sn W.heap.size w5) y [ptr g] := PF.mono (fun z hz => ⟨Nat.le_trans HUw4.out.size hz.1, hz.2⟩) y _ hy
            have HR9 : Hid _ := And.intro hy9 p9
            clear hy p9 hy9
            go_wp2_with fail
            rw [HPo.out]
            exact ⟨HOw5.out, g, rfl, HR9.out.1, HR9.out.2⟩
end TP
end Go.Proofs.YtkldllnnocdhbaaGreatDoor
