/-
  The program's parser: what is set, what is done.
-/
import Derived.Test.YtkldllnnocdhbaaGreatDoorBs10
namespace Go.Proofs.YtkldllnnocdhbaaGreatDoor
open Go.RowKit
attribute [local go_sem ↓] Go.wp_at_zero Go.wp_at_succ
namespace TP
open TR (Nd Byt nums_inj)
open TK (Tok)
def hqs : List (List Int) := [[104, 105, 116], [100, 114, 97, 119]]
theorem hqs_row : hqs.map (fun x => Value.string (strOfNums x)) = (#[.string ⟨#[104, 105, 116]⟩, .string ⟨#[100, 114, 97, 119]⟩] : Array Value).toList := by kernel_rfl
theorem hqs_byt : ∀ x ∈ hqs, Byt x := by unfold Byt hqs; decide
set_option maxRecDepth 100000 in
set_option maxHeartbeats 16000000 in
theorem pset_ (w0 W : World) (b bt off n c ml ms i d : Nat) (l : List Tok) (hE : Ev w0 b bt off n c l) (ho : Only b w0 W) (hi : i < n) (hP : QS W b bt off n c ml ms i d) (hd : d ≤ 64) (N : Nat) (R : Rs) (hl : (tk l (l.length - 1)).kind = 0) (hX : Ex l n) (hk0 : (tk l i).kind ≠ 0) (hfr : (frt (tk l i) || sqs.contains (nm (tk l i))) = true) (hF : Prt w0 b bt off n c ml ms l N 27 (.row 1)) (hR : (if mk (tk l (i + 1)) [61] = true then bd (P l N (.row 1) (i + 2) d) (fun x j => if mk (tk l j) [59] = true then okr (nod 12 0 (tk l i).text (tk l i).pos x) (j + 1) else bad (tk l j)) else bad (tk l (i + 1))) = some R) : Calls Tryz.prog 102 #[.pointer (some ⟨b, 0, none⟩)] W (QG b bt off n c ml ms d R W) := by
  obtain ⟨Post, hPost⟩ : ∃ P : Ending → World → Prop, P = QG b bt off n c ml ms d R W := ⟨_, rfl⟩
  rw [← hPost]
  have HPo : Hid (Post = QG b bt off n c ml ms d R W) := hPost
  clear hPost
  have HE : Hid (Ev w0 b bt off n c l) := hE
  have HXX : Hid (Ex l n) := hX
  have HW : Hid (Only b w0 W) := ho
  have HP : Hid (QS W b bt off n c ml ms i d) := hP
  have HLA : Hid ((tk l (l.length - 1)).kind = 0) := hl
  have HBL : Hid (b < W.heap.size) := hP.cells.2.2.2.2.2.2
  have HEX : Hid (Prt w0 b bt off n c ml ms l N 27 (.row 1)) := hF
  clear hE ho hP hl hX hF
  go_enter Tryz.func102, Tryz.ntmps102
  have HC1 : Hid _ := here_ w0 W b bt off n c ml ms i d l HE.out HW.out hi HP.out 12
  go_wp2_with fail
  refine Calls.mono HC1.out ?_
  rintro r9 w1 ⟨uw1, g, rfl, hgw1, hcw1⟩
  have HSw1 : Hid (ST W w1 b bt off n c ml ms i d g (⟨12, 0, 0, 0, [], (tk l i).pos, 0⟩ : Nd) (.slice none 0 0) [] .nil) := ST.made (Only.up uw1) (HP.out.up uw1) HBL.out hgw1 hcw1
  have hjw1 : i < n := hi
  clear uw1 hgw1 hcw1 HC1
  obtain ⟨Wa2, hWa2⟩ : ∃ Wa, w1.alloc (.cells #[.string ⟨#[115, 101, 108, 102]⟩, .string ⟨#[109, 101]⟩] 9) = Wa := ⟨_, rfl⟩
  have HSWa2 : Hid (ST W Wa2 b bt off n c ml ms i d g (⟨12, 0, 0, 0, [], (tk l i).pos, 0⟩ : Nd) (.slice none 0 0) [] .nil) := by unfold Hid; rw [← hWa2]; exact HSw1.out.up ((Up.refl _).alloc _)
  have HC2 : Hid _ := takeFree_ w0 Wa2 b bt off n c ml ms i d l HE.out (HW.out.trans HSWa2.out.o) hjw1 HSWa2.out.p HXX.out (.slice (some ⟨w1.heap.size, 0, none⟩) 2 2) sqs (fun W3 hu => sl_lit sqs sqs_row (by rw [← hWa2]; exact heap_alloc_new _ _) hu) sqs_byt (by decide)
  go_wp2_with fail
  try rw [hWa2]
  clear hWa2
  refine Calls.mono HC2.out ?_
  rintro r9 w2 ⟨ow2, ⟨ht, rfl, pw2⟩ | ⟨ht, -⟩⟩
  · have HSw2 : Hid (ST W w2 b bt off n c ml ms (i + 1) d g (⟨12, 0, 0, 0, [], (tk l i).pos, 0⟩ : Nd) (.slice none 0 0) [] .nil) := HSWa2.out.only ow2 pw2
    have hjw2 : (i + 1) < n := HE.out.next hjw1 hk0
    clear ow2 pw2 ht HSw1 HSWa2 hjw1 HC2
    obtain ⟨c3, f3, hs3⟩ := HSw2.out.set 4 (a' := (⟨12, 0, 0, 0, (tk l i).text, (tk l i).pos, 0⟩ : Nd)) (x := .string (strOfNums (tk l i).text)) (y := .string ⟨#[]⟩) (by first | rfl | (unfold pcell; rfl)) (by first | rfl | (unfold pcell; rfl))
    obtain ⟨V3, hV3⟩ : ∃ V, w2.setCell ⟨g, 4, none⟩ (.string (strOfNums (tk l i).text)) = V := ⟨_, rfl⟩
    rw [hV3] at hs3
    have HSV3 : Hid (ST W V3 b bt off n c ml ms (i + 1) d g (⟨12, 0, 0, 0, (tk l i).text, (tk l i).pos, 0⟩ : Nd) (.slice none 0 0) [] .nil) := hs3
    have hjV3 := hjw2
    clear hs3 HSw2
    have HC4 : Hid _ := assigned_ w0 W V3 b bt off n c ml ms (i + 1) d g (⟨12, 0, 0, 0, (tk l i).text, (tk l i).pos, 0⟩ : Nd) l HE.out HW.out hjV3 hd HLA.out N R (fun x q => okr (nod 12 0 (tk l i).text (tk l i).pos x) q) HSV3.out HEX.out hR
    clear hR
    go_wp2_with fail
    try rw [hV3]
    clear hV3
    refine Calls.mono HC4.out ?_
    intro r9 w4 hh
    obtain ⟨ow4, hh⟩ := hh
    have HO9 : Hid (Only b W w4) := ow4
    clear ow4 HC4 HSV3 hjV3
    rcases hh with ⟨er, pp, rfl, rfl⟩ | ⟨sv9, kv9, x9, q9, rfl, hs9, hk9, -⟩
    · unfold pnc at *
      go_wp2_with fail
      rw [HPo.out]
      exact ⟨rfl, HO9.out, rfl⟩
    · obtain rfl := Option.some.inj hk9
      have HS9 : Hid _ := hs9
      clear hs9 hk9
      go_wp2_with fail
      rw [HPo.out]
      exact ⟨HO9.out, g, rfl, HS9.out.done, HS9.out.p⟩
  · rw [hfr] at ht
    cases ht
set_option maxRecDepth 100000 in
set_option maxHeartbeats 16000000 in
theorem pdo_ (w0 W : World) (b bt off n c ml ms i d : Nat) (l : List Tok) (hE : Ev w0 b bt off n c l) (ho : Only b w0 W) (hi : i < n) (hP : QS W b bt off n c ml ms i d) (hd : d ≤ 64) (N : Nat) (R : Rs) (hl : (tk l (l.length - 1)).kind = 0) (hX : Ex l n) (hk0 : (tk l i).kind ≠ 0) (hfr : (frt (tk l i) || hqs.contains (nm (tk l i))) = true) (hF : ∀ k, k + 1 ≤ N → Prt w0 b bt off n c ml ms l k 27 (.row 1)) (hR : bd (P l N (.args false) (i + 1) d) (fun x j => if mk (tk l j) [59] = true then okr (nod 19 0 (tk l i).text (tk l i).pos x) (j + 1) else bad (tk l j)) = some R) : Calls Tryz.prog 103 #[.pointer (some ⟨b, 0, none⟩)] W (QG b bt off n c ml ms d R W) := by
  obtain ⟨Post, hPost⟩ : ∃ P : Ending → World → Prop, P = QG b bt off n c ml ms d R W := ⟨_, rfl⟩
  rw [← hPost]
  have HPo : Hid (Post = QG b bt off n c ml ms d R W) := hPost
  clear hPost
  have HE : Hid (Ev w0 b bt off n c l) := hE
  have HXX : Hid (Ex l n) := hX
  have HW : Hid (Only b w0 W) := ho
  have HP : Hid (QS W b bt off n c ml ms i d) := hP
  have HLA : Hid ((tk l (l.length - 1)).kind = 0) := hl
  have HBL : Hid (b < W.heap.size) := hP.cells.2.2.2.2.2.2
  have HEK : Hid (∀ k, k + 1 ≤ N → Prt w0 b bt off n c ml ms l k 27 (.row 1)) := hF
  have hmf9 := hmf
  clear hE ho hP hl hX hF
  go_enter Tryz.func103, Tryz.ntmps103
  have HC5 : Hid _ := here_ w0 W b bt off n c ml ms i d l HE.out HW.out hi HP.out 19
  go_wp2_with fail
  refine Calls.mono HC5.out ?_
  rintro r9 w5 ⟨uw5, g, rfl, hgw5, hcw5⟩
  have HSw5 : Hid (ST W w5 b bt off n c ml ms i d g (⟨19, 0, 0, 0, [], (tk l i).pos, 0⟩ : Nd) (.slice none 0 0) [] .nil) := ST.made (Only.up uw5) (HP.out.up uw5) HBL.out hgw5 hcw5
  have hjw5 : i < n := hi
  clear uw5 hgw5 hcw5 HC5
  obtain ⟨Wa6, hWa6⟩ : ∃ Wa, w5.alloc (.cells #[.string ⟨#[104, 105, 116]⟩, .string ⟨#[100, 114, 97, 119]⟩] 9) = Wa := ⟨_, rfl⟩
  have HSWa6 : Hid (ST W Wa6 b bt off n c ml ms i d g (⟨19, 0, 0, 0, [], (tk l i).pos, 0⟩ : Nd) (.slice none 0 0) [] .nil) := by unfold Hid; rw [← hWa6]; exact HSw5.out.up ((Up.refl _).alloc _)
  have HC6 : Hid _ := takeFree_ w0 Wa6 b bt off n c ml ms i d l HE.out (HW.out.trans HSWa6.out.o) hjw5 HSWa6.out.p HXX.out (.slice (some ⟨w5.heap.size, 0, none⟩) 2 2) hqs (fun W3 hu => sl_lit hqs hqs_row (by rw [← hWa6]; exact heap_alloc_new _ _) hu) hqs_byt (by decide)
  go_wp2_with fail
  try rw [hWa6]
  clear hWa6
  refine Calls.mono HC6.out ?_
  rintro r9 w6 ⟨ow6, ⟨ht, rfl, pw6⟩ | ⟨ht, -⟩⟩
  · have HSw6 : Hid (ST W w6 b bt off n c ml ms (i + 1) d g (⟨19, 0, 0, 0, [], (tk l i).pos, 0⟩ : Nd) (.slice none 0 0) [] .nil) := HSWa6.out.only ow6 pw6
    have hjw6 : (i + 1) < n := HE.out.next hjw5 hk0
    clear ow6 pw6 ht HSw5 HSWa6 hjw5 HC6
    obtain ⟨c7, f7, hs7⟩ := HSw6.out.set 4 (a' := (⟨19, 0, 0, 0, (tk l i).text, (tk l i).pos, 0⟩ : Nd)) (x := .string (strOfNums (tk l i).text)) (y := .string ⟨#[]⟩) (by first | rfl | (unfold pcell; rfl)) (by first | rfl | (unfold pcell; rfl))
    obtain ⟨V7, hV7⟩ : ∃ V, w6.setCell ⟨g, 4, none⟩ (.string (strOfNums (tk l i).text)) = V := ⟨_, rfl⟩
    rw [hV7] at hs7
    have HSV7 : Hid (ST W V7 b bt off n c ml ms (i + 1) d g (⟨19, 0, 0, 0, (tk l i).text, (tk l i).pos, 0⟩ : Nd) (.slice none 0 0) [] .nil) := hs7
    have hjV7 := hjw6
    clear hs7 HSw6
    obtain ⟨R8, h8, hb8⟩ := bd_get hR
    have HC8 : Hid (Calls Tryz.prog 147 #[.pointer (some ⟨b, 0, none⟩), .func (.func 27) #[.pointer (some ⟨b, 0, none⟩)] #[]] V7 (QL b bt off n c ml ms d R8 V7)) := by
      cases N with
      | zero => cases h8
      | succ N => exact listed_ w0 V7 b bt off n c ml ms (i + 1) d l HE.out (HW.out.trans HSV7.out.o) hjV7 HSV7.out.p hd N R8 HLA.out 27 ent_expr false (fun k hk9 => HEK.out k (by omega)) h8
    have HL8 : Hid (∀ f q, R8 = .ok f q → q < n ∧ cntF f ≤ 1048576) := fun f q e => by
      subst e
      have hst := stays HLA.out h8 (by have := HE.out.len; omega)
      have h9 := hst.2.2.1
      rw [show accF (.args false) = .nil from rfl, len_nil] at h9
      have h8 := cnt_lf f
      have := hst.2.1
      have := HE.out.len
      have := HE.out.small
      omega
    clear hR h8
    go_wp2_with fail
    try rw [hV7]
    clear hV7
    refine Calls.mono HC8.out ?_
    intro r9 w8 hh
    obtain ⟨ow8, hh⟩ := hh
    clear HC8
    cases R8 with
    | bad er pp =>
      obtain rfl : r9 = pnc er pp := hh
      obtain rfl := bd_bad hb8
      have HO9 : Hid (Only b W w8) := HSV7.out.o.trans ow8
      clear hb8 ow8
      unfold pnc at *
      go_wp2_with fail
      rw [HPo.out]
      exact ⟨rfl, HO9.out, rfl⟩
    | ok y8 q8 =>
      obtain ⟨lv, kv8, rfl, hlb, pw8, hnil⟩ := hh
      have hR := bd_ok hb8
      have hjq := (HL8.out y8 q8 rfl).1
      have hct := (HL8.out y8 q8 rfl).2
      have HA9 : Hid _ := HSV7.out.addL ow8 pw8 hlb hnil (by rw [hlb.len]; omega)
      clear hb8 HL8 ow8 pw8 hlb hnil hct
      go_wp2_with fail
      refine Calls.mono HA9.out ?_
      rintro r9 w9 ⟨rfl, sv9, hs9⟩
      have HSw9 : Hid (ST W w9 b bt off n c ml ms q8 d g (⟨19, 0, 0, 0, (tk l i).text, (tk l i).pos, 0⟩ : Nd) sv9 kv8 y8) := hs9
      have hjw9 := hjq
      clear hs9 HA9 HSV7
      have HC10 : Hid _ := takeMark_ w0 w9 b bt off n c ml ms q8 d l HE.out (HW.out.trans HSw9.out.o) hjw9 HSw9.out.p ⟨#[59]⟩ [59] (by unfold TR.Byt; decide) (congrArg ByteArray.toList (show (⟨#[59]⟩ : ByteArray) = strOfNums [59] from rfl))
      go_wp2_with fail
      refine Calls.mono HC10.out ?_
      rintro r9 w10 ⟨ow10, ⟨ht, rfl, pw10⟩ | ⟨ht, rfl⟩⟩
      · rw [if_pos ht] at hR
        have HSw10 : Hid (ST W w10 b bt off n c ml ms (q8 + 1) d g (⟨19, 0, 0, 0, (tk l i).text, (tk l i).pos, 0⟩ : Nd) sv9 kv8 y8) := HSw9.out.only ow10 pw10
        have hjw10 : (q8 + 1) < n := HE.out.next hjw9 (mk_kind ht)
        clear ow10 pw10 ht HSw9 hjw9 HC10
        obtain rfl := Option.some.inj hR
        clear hR
        go_wp2_with fail
        rw [HPo.out]
        exact ⟨HSw10.out.o, g, rfl, HSw10.out.done, HSw10.out.p⟩
      · rw [if_neg (by rw [ht]; decide)] at hR
        obtain rfl : Rs.bad 22 (tk l q8).pos = R := Option.some.inj hR
        have HO9 : Hid (Only b W w10) := HSw9.out.o.trans ow10
        clear hR ow10
        unfold pnc at *
        go_wp2_with fail
        rw [HPo.out]
        exact ⟨rfl, HO9.out, rfl⟩
  · rw [hfr] at ht
    cases ht
end TP
end Go.Proofs.YtkldllnnocdhbaaGreatDoor
