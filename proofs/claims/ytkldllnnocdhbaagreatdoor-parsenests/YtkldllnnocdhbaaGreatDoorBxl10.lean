/-
  The program's parser: a line.
-/
import Derived.Test.YtkldllnnocdhbaaGreatDoorBxo10
namespace Go.Proofs.YtkldllnnocdhbaaGreatDoor
open Go.RowKit
attribute [local go_sem ↓] Go.wp_at_zero Go.wp_at_succ
namespace TP
open TR (Nd Byt nums_inj)
open TK (Tok)
set_option maxRecDepth 100000 in
set_option maxHeartbeats 16000000 in
theorem pline_ (w0 W : World) (b bt off n c ml ms i d : Nat) (l : List Tok) (hE : Ev w0 b bt off n c l) (ho : Only b w0 W) (hi : i < n) (hP : QS W b bt off n c ml ms i d) (hd : d ≤ 64) (N : Nat) (R : Rs) (hl : (tk l (l.length - 1)).kind = 0) (hX : Ex l n) (hM : Mps w0 b ml ms lkey) (hF : Prt w0 b bt off n c ml ms l N 27 (.row 1)) (hG : Prt w0 b bt off n c ml ms l N 140 .block) (hR : P l (N + 1) .line i d = some R) : Calls Tryz.prog 119 #[.pointer (some ⟨b, 0, none⟩)] W (QG b bt off n c ml ms d R W) := by
  obtain ⟨Post, hPost⟩ : ∃ P : Ending → World → Prop, P = QG b bt off n c ml ms d R W := ⟨_, rfl⟩
  rw [← hPost]
  have HPo : Hid (Post = QG b bt off n c ml ms d R W) := hPost
  clear hPost
  have HE : Hid (Ev w0 b bt off n c l) := hE
  have HXX : Hid (Ex l n) := hX
  have HW : Hid (Only b w0 W) := ho
  have HP : Hid (QS W b bt off n c ml ms i d) := hP
  have HLA : Hid ((tk l (l.length - 1)).kind = 0) := hl
  have HBL : Hid (b < W.heap.size) := hP.cells.2.2.2.2.2.2
  have hbn : Byt (nm (tk l i)) := by
    unfold nm
    split
    · exact hE.byt i hi
    · intro c hc
      cases hc
  have HLK : Hid (∀ W2, Up W W2 → (Instr.lookup 151 (.map (some ml)) (.string (strOfNums (nm (tk l i)))) false).run Tryz.prog W2 = .ok (((lkey.find? (fun p => decide (p.1 = nm (tk l i)))).map (fun p => fnv b p.2)).getD .nilFunc) W2) := fun W2 hu => by
    rw [← lk_key b (nm (tk l i)) hbn lkey lkey_byt]
    exact run_lookF mt_map mt_str ((mp_only hM.ln ho hM.nl).up hu) _ (mt_zero W2)
  have HNM : Hid (∀ W2, Up W W2 → Calls Tryz.prog 137 #[.pointer (some ⟨b, 0, none⟩)] W2 fun r w' => r = .returned (.string (strOfNums (nm (tk l i)))) ∧ Up W2 w') := fun W2 hu => name_ w0 W2 b bt off n c ml ms i d l hE (ho.trans (Only.up hu)) hi (hP.up hu)
  have HRF : Hid (∀ W2, Up W W2 → Calls Tryz.prog 148 #[.pointer (some ⟨b, 0, none⟩), .int .i64 22] W2 fun r w' => r = pnc 22 (tk l i).pos ∧ Up W2 w') := fun W2 hu => refuse_ w0 W2 b bt off n c ml ms i d l hE (ho.trans (Only.up hu)) hi (hP.up hu) 22
  have HW2 : Hid (∀ W2, Up W W2 → Only b w0 W2 ∧ QS W2 b bt off n c ml ms i d) := fun W2 hu => ⟨ho.trans (Only.up hu), hP.up hu⟩
  have HEX : Hid (Prt w0 b bt off n c ml ms l N 27 (.row 1)) := hF
  have HBK : Hid (Prt w0 b bt off n c ml ms l N 140 .block) := hG
  obtain ⟨a0, a1, a2, a3, a4, fz, hbl⟩ := hP.cells
  rw [P] at hR
  have w_cost := wd_nm (tk l i) [99, 111, 115, 116] (by decide)
  have w_power := wd_nm (tk l i) [112, 111, 119, 101, 114] (by decide)
  have w_health := wd_nm (tk l i) [104, 101, 97, 108, 116, 104] (by decide)
  have w_tag := wd_nm (tk l i) [116, 97, 103] (by decide)
  have w_on := wd_nm (tk l i) [111, 110] (by decide)
  clear hE ho hP hl hX hF hG hM
  generalize hnx : nm (tk l i) = x at *
  by_cases hx : x = [99, 111, 115, 116]
  · have hk0 := nm_kind hnx (by rw [hx]; decide)
    have hfd : lkey.find? (fun p => decide (p.1 = x)) = some ([99, 111, 115, 116], 90) := by
      rw [hx]
      rfl
    rw [hfd] at HLK
    rw [if_pos (.inl (w_cost.2 hx))] at hR
    have hcf := w_cost.2 hx
    simp only [hcf, if_true] at hR
    have HC : Hid (∀ W2, Up W W2 → Calls Tryz.prog 90 #[.pointer (some ⟨b, 0, none⟩)] W2 (QG b bt off n c ml ms d R W2)) := fun W2 hu => pcost_ w0 W2 b bt off n c ml ms i d l HE.out (HW2.out W2 hu).1 hi (HW2.out W2 hu).2 R hk0 hR
    clear hR hfd w_cost w_power w_health w_tag w_on  hcf hk0 hnx HW2
    have HLK2 : Hid (∀ W2, Up W W2 → (Instr.lookup 151 (.map (some ml)) (.string (strOfNums x)) false).run Tryz.prog W2 = .ok (.func (.func 90) #[.pointer (some ⟨b, 0, none⟩)] #[]) W2) := HLK
    clear HLK hx
    generalize strOfNums x = sn at *
    have fne9 := fp_ne
    have feq9 := fp_eq
    go_enter Tryz.func119, Tryz.ntmps119
    go_upto_region 1 with fail
    refine wp_region_held_drew (S := fun W9 => Up W W9) (by kernel_rfl) (Up.drew (Up.refl _)) (fun hHeld => ?_)
    have Ua0 : Up W W.drew := Up.drew (Up.refl _)
    refine wpAnyH_take (i := 0) (v := ?_) rfl (by kernel_rfl) (by kernel_rfl) (by kernel_rfl) (fun _ _ _ h => h) (Or.inl ⟨by rfl, ?_⟩) (by assumption) ?_
    rotate_left
    · intro w9 hSw
      go_simp
      try with_reducible rfl
    simp only [Act.put, List.setIfInBounds_toArray, List.set_cons_zero, List.set_cons_succ, List.getElem_toArray, List.getElem_cons_zero]
    refine wpAnyH_take (i := 1) (v := ?_) rfl (by kernel_rfl) (by kernel_rfl) (by kernel_rfl) (fun _ _ _ h => h) (Or.inl ⟨by rfl, ?_⟩) (by assumption) ?_
    rotate_left
    · intro w9 hSw
      go_simp
      try with_reducible rfl
    simp only [Act.put, List.setIfInBounds_toArray, List.set_cons_zero, List.set_cons_succ, List.getElem_toArray, List.getElem_cons_zero, List.getElem_cons_succ]
    refine wpAnyH_take (i := 2) (v := ?_) rfl (by kernel_rfl) (by kernel_rfl) (by kernel_rfl) (fun _ _ _ h => h) (Or.inl ⟨by rfl, ?_⟩) (by assumption) ?_
    rotate_left
    · intro w9 hSw
      go_simp
      try with_reducible rfl
    simp only [Act.put, List.setIfInBounds_toArray, List.set_cons_zero, List.set_cons_succ, List.getElem_toArray, List.getElem_cons_zero, List.getElem_cons_succ]
    refine wpAnyH_take (i := 3) (v := ?_) rfl (by kernel_rfl) (by kernel_rfl) (by kernel_rfl) (fun _ _ _ h => h) (Or.inl ⟨by rfl, ?_⟩) (by assumption) ?_
    rotate_left
    · intro w9 hSw
      have c2 := hSw.cell a3
      go_simp
      try with_reducible rfl
    simp only [Act.put, List.setIfInBounds_toArray, List.set_cons_zero, List.set_cons_succ, List.getElem_toArray, List.getElem_cons_zero, List.getElem_cons_succ]
    refine wpAnyH_take (i := 4) (v := ?_) rfl (by kernel_rfl) (by kernel_rfl) (by kernel_rfl) (fun _ _ _ h => h) (Or.inl ⟨by rfl, ?_⟩) (by assumption) ?_
    rotate_left
    · intro w9 hSw
      go_simp
      try with_reducible rfl
    simp only [Act.put, List.setIfInBounds_toArray, List.set_cons_zero, List.set_cons_succ, List.getElem_toArray, List.getElem_cons_zero, List.getElem_cons_succ]
    refine wpAnyH_ready (rs := [5]) (by kernel_rfl) (by simp) ?_
    refine AllReadyH.cons rfl (fun K hK => ?_) AllReadyH.nil
    simp only [List.getElem_toArray, List.getElem_cons_zero, List.getElem_cons_succ]
    go_simp
    refine Calls.mono (HNM.out _ Ua0) ?_
    rintro r9 Wa1 ⟨rfl, ua1⟩
    go_simp
    have Ua1 := Ua0.trans ua1
    refine hK.out _ _ ?_ (fun hHeld => ?_)
    · exact Ua1
    clear hK K
    try simp only [Act.put, List.setIfInBounds_toArray, List.set_cons_zero, List.set_cons_succ]
    have hSS := Ua1
    refine wpAnyH_take (i := 6) (v := ?_) rfl (by kernel_rfl) (by kernel_rfl) (by kernel_rfl) (fun _ _ _ h => h) (Or.inl ⟨by rfl, ?_⟩) (by assumption) ?_
    rotate_left
    · intro w9 hSw
      have c2 := HLK2.out w9 hSw
      go_simp
      try with_reducible rfl
    simp only [Act.put, List.setIfInBounds_toArray, List.set_cons_zero, List.set_cons_succ, List.getElem_toArray, List.getElem_cons_zero, List.getElem_cons_succ]
    refine wpAnyH_take (i := 7) (v := ?_) rfl (by kernel_rfl) (by kernel_rfl) (by kernel_rfl) (fun _ _ _ h => h) (Or.inl ⟨by rfl, ?_⟩) (by assumption) ?_
    rotate_left
    · intro w9 hSw
      go_simp
      try with_reducible rfl
    simp only [Act.put, List.setIfInBounds_toArray, List.set_cons_zero, List.set_cons_succ, List.getElem_toArray, List.getElem_cons_zero, List.getElem_cons_succ]
    refine wpAnyH_done (by kernel_rfl) ?_ _
    have HU9 : Hid (Up W Wa1) := Ua1
    have HCC := HC.out Wa1 HU9.out
    clear HC HNM HLK2 HRF
    go_wp2_with fail
    refine Calls.mono HCC ?_
    intro r9 w8 h
    obtain ⟨ow8, h⟩ := h
    have HOw8 : Hid (Only b W w8) := (Only.up HU9.out).trans ow8
    clear ow8
    cases R with
    | bad er pp =>
      obtain rfl : r9 = pnc er pp := h
      unfold pnc at *
      go_wp2_with fail
      rw [HPo.out]
      exact ⟨rfl, HOw8.out, rfl⟩
    | ok y j =>
      obtain ⟨g, rfl, hy, p9⟩ := h
      have hy9 : PF w8 (Sn W.heap.size w8) y [ptr g] := PF.mono (fun z hz => ⟨Nat.le_trans HU9.out.size hz.1, hz.2⟩) y _ hy
      have HR9 : Hid _ := And.intro hy9 p9
      clear hy p9 hy9
      go_wp2_with fail
      rw [HPo.out]
      exact ⟨HOw8.out, g, rfl, HR9.out.1, HR9.out.2⟩
  have n_cost : ¬ x = [99, 111, 115, 116] := hx
  clear hx
  by_cases hx : x = [112, 111, 119, 101, 114]
  · have hk0 := nm_kind hnx (by rw [hx]; decide)
    have hfd : lkey.find? (fun p => decide (p.1 = x)) = some ([112, 111, 119, 101, 114], 91) := by
      rw [hx]
      rfl
    rw [hfd] at HLK
    rw [if_pos (.inr (.inl (w_power.2 hx)))] at hR
    have hcf := w_power.2 hx
    have f_cost : wd (tk l i) [99, 111, 115, 116] = false := by
      cases h9 : wd (tk l i) [99, 111, 115, 116] with
      | false => rfl
      | true => exact absurd ((w_cost.1 h9).symm.trans hx) (by decide)
    simp only [hcf, f_cost, Bool.false_eq_true, if_false, if_true] at hR
    have HC : Hid (∀ W2, Up W W2 → Calls Tryz.prog 91 #[.pointer (some ⟨b, 0, none⟩)] W2 (QG b bt off n c ml ms d R W2)) := fun W2 hu => ppower_ w0 W2 b bt off n c ml ms i d l HE.out (HW2.out W2 hu).1 hi (HW2.out W2 hu).2 R hk0 hR
    clear hR hfd w_cost w_power w_health w_tag w_on n_cost hcf f_cost hk0 hnx HW2
    have HLK2 : Hid (∀ W2, Up W W2 → (Instr.lookup 151 (.map (some ml)) (.string (strOfNums x)) false).run Tryz.prog W2 = .ok (.func (.func 91) #[.pointer (some ⟨b, 0, none⟩)] #[]) W2) := HLK
    clear HLK hx
    generalize strOfNums x = sn at *
    have fne9 := fp_ne
    have feq9 := fp_eq
    go_enter Tryz.func119, Tryz.ntmps119
    go_upto_region 1 with fail
    refine wp_region_held_drew (S := fun W9 => Up W W9) (by kernel_rfl) (Up.drew (Up.refl _)) (fun hHeld => ?_)
    have Ua0 : Up W W.drew := Up.drew (Up.refl _)
    refine wpAnyH_take (i := 0) (v := ?_) rfl (by kernel_rfl) (by kernel_rfl) (by kernel_rfl) (fun _ _ _ h => h) (Or.inl ⟨by rfl, ?_⟩) (by assumption) ?_
    rotate_left
    · intro w9 hSw
      go_simp
      try with_reducible rfl
    simp only [Act.put, List.setIfInBounds_toArray, List.set_cons_zero, List.set_cons_succ, List.getElem_toArray, List.getElem_cons_zero]
    refine wpAnyH_take (i := 1) (v := ?_) rfl (by kernel_rfl) (by kernel_rfl) (by kernel_rfl) (fun _ _ _ h => h) (Or.inl ⟨by rfl, ?_⟩) (by assumption) ?_
    rotate_left
    · intro w9 hSw
      go_simp
      try with_reducible rfl
    simp only [Act.put, List.setIfInBounds_toArray, List.set_cons_zero, List.set_cons_succ, List.getElem_toArray, List.getElem_cons_zero, List.getElem_cons_succ]
    refine wpAnyH_take (i := 2) (v := ?_) rfl (by kernel_rfl) (by kernel_rfl) (by kernel_rfl) (fun _ _ _ h => h) (Or.inl ⟨by rfl, ?_⟩) (by assumption) ?_
    rotate_left
    · intro w9 hSw
      go_simp
      try with_reducible rfl
    simp only [Act.put, List.setIfInBounds_toArray, List.set_cons_zero, List.set_cons_succ, List.getElem_toArray, List.getElem_cons_zero, List.getElem_cons_succ]
    refine wpAnyH_take (i := 3) (v := ?_) rfl (by kernel_rfl) (by kernel_rfl) (by kernel_rfl) (fun _ _ _ h => h) (Or.inl ⟨by rfl, ?_⟩) (by assumption) ?_
    rotate_left
    · intro w9 hSw
      have c2 := hSw.cell a3
      go_simp
      try with_reducible rfl
    simp only [Act.put, List.setIfInBounds_toArray, List.set_cons_zero, List.set_cons_succ, List.getElem_toArray, List.getElem_cons_zero, List.getElem_cons_succ]
    refine wpAnyH_take (i := 4) (v := ?_) rfl (by kernel_rfl) (by kernel_rfl) (by kernel_rfl) (fun _ _ _ h => h) (Or.inl ⟨by rfl, ?_⟩) (by assumption) ?_
    rotate_left
    · intro w9 hSw
      go_simp
      try with_reducible rfl
    simp only [Act.put, List.setIfInBounds_toArray, List.set_cons_zero, List.set_cons_succ, List.getElem_toArray, List.getElem_cons_zero, List.getElem_cons_succ]
    refine wpAnyH_ready (rs := [5]) (by kernel_rfl) (by simp) ?_
    refine AllReadyH.cons rfl (fun K hK => ?_) AllReadyH.nil
    simp only [List.getElem_toArray, List.getElem_cons_zero, List.getElem_cons_succ]
    go_simp
    refine Calls.mono (HNM.out _ Ua0) ?_
    rintro r9 Wa1 ⟨rfl, ua1⟩
    go_simp
    have Ua1 := Ua0.trans ua1
    refine hK.out _ _ ?_ (fun hHeld => ?_)
    · exact Ua1
    clear hK K
    try simp only [Act.put, List.setIfInBounds_toArray, List.set_cons_zero, List.set_cons_succ]
    have hSS := Ua1
    refine wpAnyH_take (i := 6) (v := ?_) rfl (by kernel_rfl) (by kernel_rfl) (by kernel_rfl) (fun _ _ _ h => h) (Or.inl ⟨by rfl, ?_⟩) (by assumption) ?_
    rotate_left
    · intro w9 hSw
      have c2 := HLK2.out w9 hSw
      go_simp
      try with_reducible rfl
    simp only [Act.put, List.setIfInBounds_toArray, List.set_cons_zero, List.set_cons_succ, List.getElem_toArray, List.getElem_cons_zero, List.getElem_cons_succ]
    refine wpAnyH_take (i := 7) (v := ?_) rfl (by kernel_rfl) (by kernel_rfl) (by kernel_rfl) (fun _ _ _ h => h) (Or.inl ⟨by rfl, ?_⟩) (by assumption) ?_
    rotate_left
    · intro w9 hSw
      go_simp
      try with_reducible rfl
    simp only [Act.put, List.setIfInBounds_toArray, List.set_cons_zero, List.set_cons_succ, List.getElem_toArray, List.getElem_cons_zero, List.getElem_cons_succ]
    refine wpAnyH_done (by kernel_rfl) ?_ _
    have HU9 : Hid (Up W Wa1) := Ua1
    have HCC := HC.out Wa1 HU9.out
    clear HC HNM HLK2 HRF
    go_wp2_with fail
    refine Calls.mono HCC ?_
    intro r9 w8 h
    obtain ⟨ow8, h⟩ := h
    have HOw8 : Hid (Only b W w8) := (Only.up HU9.out).trans ow8
    clear ow8
    cases R with
    | bad er pp =>
      obtain rfl : r9 = pnc er pp := h
      unfold pnc at *
      go_wp2_with fail
      rw [HPo.out]
      exact ⟨rfl, HOw8.out, rfl⟩
    | ok y j =>
      obtain ⟨g, rfl, hy, p9⟩ := h
      have hy9 : PF w8 (Sn W.heap.size w8) y [ptr g] := PF.mono (fun z hz => ⟨Nat.le_trans HU9.out.size hz.1, hz.2⟩) y _ hy
      have HR9 : Hid _ := And.intro hy9 p9
      clear hy p9 hy9
      go_wp2_with fail
      rw [HPo.out]
      exact ⟨HOw8.out, g, rfl, HR9.out.1, HR9.out.2⟩
  have n_power : ¬ x = [112, 111, 119, 101, 114] := hx
  clear hx
  by_cases hx : x = [104, 101, 97, 108, 116, 104]
  · have hk0 := nm_kind hnx (by rw [hx]; decide)
    have hfd : lkey.find? (fun p => decide (p.1 = x)) = some ([104, 101, 97, 108, 116, 104], 92) := by
      rw [hx]
      rfl
    rw [hfd] at HLK
    rw [if_pos (.inr (.inr (w_health.2 hx)))] at hR
    have f_cost : wd (tk l i) [99, 111, 115, 116] = false := by
      cases h9 : wd (tk l i) [99, 111, 115, 116] with
      | false => rfl
      | true => exact absurd ((w_cost.1 h9).symm.trans hx) (by decide)
    have f_power : wd (tk l i) [112, 111, 119, 101, 114] = false := by
      cases h9 : wd (tk l i) [112, 111, 119, 101, 114] with
      | false => rfl
      | true => exact absurd ((w_power.1 h9).symm.trans hx) (by decide)
    simp only [f_power, f_cost, Bool.false_eq_true, if_false] at hR
    have HC : Hid (∀ W2, Up W W2 → Calls Tryz.prog 92 #[.pointer (some ⟨b, 0, none⟩)] W2 (QG b bt off n c ml ms d R W2)) := fun W2 hu => phealth_ w0 W2 b bt off n c ml ms i d l HE.out (HW2.out W2 hu).1 hi (HW2.out W2 hu).2 R hk0 hR
    clear hR hfd w_cost w_power w_health w_tag w_on n_cost n_power f_cost f_power hk0 hnx HW2
    have HLK2 : Hid (∀ W2, Up W W2 → (Instr.lookup 151 (.map (some ml)) (.string (strOfNums x)) false).run Tryz.prog W2 = .ok (.func (.func 92) #[.pointer (some ⟨b, 0, none⟩)] #[]) W2) := HLK
    clear HLK hx
    generalize strOfNums x = sn at *
    have fne9 := fp_ne
    have feq9 := fp_eq
    go_enter Tryz.func119, Tryz.ntmps119
    go_upto_region 1 with fail
    refine wp_region_held_drew (S := fun W9 => Up W W9) (by kernel_rfl) (Up.drew (Up.refl _)) (fun hHeld => ?_)
    have Ua0 : Up W W.drew := Up.drew (Up.refl _)
    refine wpAnyH_take (i := 0) (v := ?_) rfl (by kernel_rfl) (by kernel_rfl) (by kernel_rfl) (fun _ _ _ h => h) (Or.inl ⟨by rfl, ?_⟩) (by assumption) ?_
    rotate_left
    · intro w9 hSw
      go_simp
      try with_reducible rfl
    simp only [Act.put, List.setIfInBounds_toArray, List.set_cons_zero, List.set_cons_succ, List.getElem_toArray, List.getElem_cons_zero]
    refine wpAnyH_take (i := 1) (v := ?_) rfl (by kernel_rfl) (by kernel_rfl) (by kernel_rfl) (fun _ _ _ h => h) (Or.inl ⟨by rfl, ?_⟩) (by assumption) ?_
    rotate_left
    · intro w9 hSw
      go_simp
      try with_reducible rfl
    simp only [Act.put, List.setIfInBounds_toArray, List.set_cons_zero, List.set_cons_succ, List.getElem_toArray, List.getElem_cons_zero, List.getElem_cons_succ]
    refine wpAnyH_take (i := 2) (v := ?_) rfl (by kernel_rfl) (by kernel_rfl) (by kernel_rfl) (fun _ _ _ h => h) (Or.inl ⟨by rfl, ?_⟩) (by assumption) ?_
    rotate_left
    · intro w9 hSw
      go_simp
      try with_reducible rfl
    simp only [Act.put, List.setIfInBounds_toArray, List.set_cons_zero, List.set_cons_succ, List.getElem_toArray, List.getElem_cons_zero, List.getElem_cons_succ]
    refine wpAnyH_take (i := 3) (v := ?_) rfl (by kernel_rfl) (by kernel_rfl) (by kernel_rfl) (fun _ _ _ h => h) (Or.inl ⟨by rfl, ?_⟩) (by assumption) ?_
    rotate_left
    · intro w9 hSw
      have c2 := hSw.cell a3
      go_simp
      try with_reducible rfl
    simp only [Act.put, List.setIfInBounds_toArray, List.set_cons_zero, List.set_cons_succ, List.getElem_toArray, List.getElem_cons_zero, List.getElem_cons_succ]
    refine wpAnyH_take (i := 4) (v := ?_) rfl (by kernel_rfl) (by kernel_rfl) (by kernel_rfl) (fun _ _ _ h => h) (Or.inl ⟨by rfl, ?_⟩) (by assumption) ?_
    rotate_left
    · intro w9 hSw
      go_simp
      try with_reducible rfl
    simp only [Act.put, List.setIfInBounds_toArray, List.set_cons_zero, List.set_cons_succ, List.getElem_toArray, List.getElem_cons_zero, List.getElem_cons_succ]
    refine wpAnyH_ready (rs := [5]) (by kernel_rfl) (by simp) ?_
    refine AllReadyH.cons rfl (fun K hK => ?_) AllReadyH.nil
    simp only [List.getElem_toArray, List.getElem_cons_zero, List.getElem_cons_succ]
    go_simp
    refine Calls.mono (HNM.out _ Ua0) ?_
    rintro r9 Wa1 ⟨rfl, ua1⟩
    go_simp
    have Ua1 := Ua0.trans ua1
    refine hK.out _ _ ?_ (fun hHeld => ?_)
    · exact Ua1
    clear hK K
    try simp only [Act.put, List.setIfInBounds_toArray, List.set_cons_zero, List.set_cons_succ]
    have hSS := Ua1
    refine wpAnyH_take (i := 6) (v := ?_) rfl (by kernel_rfl) (by kernel_rfl) (by kernel_rfl) (fun _ _ _ h => h) (Or.inl ⟨by rfl, ?_⟩) (by assumption) ?_
    rotate_left
    · intro w9 hSw
      have c2 := HLK2.out w9 hSw
      go_simp
      try with_reducible rfl
    simp only [Act.put, List.setIfInBounds_toArray, List.set_cons_zero, List.set_cons_succ, List.getElem_toArray, List.getElem_cons_zero, List.getElem_cons_succ]
    refine wpAnyH_take (i := 7) (v := ?_) rfl (by kernel_rfl) (by kernel_rfl) (by kernel_rfl) (fun _ _ _ h => h) (Or.inl ⟨by rfl, ?_⟩) (by assumption) ?_
    rotate_left
    · intro w9 hSw
      go_simp
      try with_reducible rfl
    simp only [Act.put, List.setIfInBounds_toArray, List.set_cons_zero, List.set_cons_succ, List.getElem_toArray, List.getElem_cons_zero, List.getElem_cons_succ]
    refine wpAnyH_done (by kernel_rfl) ?_ _
    have HU9 : Hid (Up W Wa1) := Ua1
    have HCC := HC.out Wa1 HU9.out
    clear HC HNM HLK2 HRF
    go_wp2_with fail
    refine Calls.mono HCC ?_
    intro r9 w8 h
    obtain ⟨ow8, h⟩ := h
    have HOw8 : Hid (Only b W w8) := (Only.up HU9.out).trans ow8
    clear ow8
    cases R with
    | bad er pp =>
      obtain rfl : r9 = pnc er pp := h
      unfold pnc at *
      go_wp2_with fail
      rw [HPo.out]
      exact ⟨rfl, HOw8.out, rfl⟩
    | ok y j =>
      obtain ⟨g, rfl, hy, p9⟩ := h
      have hy9 : PF w8 (Sn W.heap.size w8) y [ptr g] := PF.mono (fun z hz => ⟨Nat.le_trans HU9.out.size hz.1, hz.2⟩) y _ hy
      have HR9 : Hid _ := And.intro hy9 p9
      clear hy p9 hy9
      go_wp2_with fail
      rw [HPo.out]
      exact ⟨HOw8.out, g, rfl, HR9.out.1, HR9.out.2⟩
  have n_health : ¬ x = [104, 101, 97, 108, 116, 104] := hx
  clear hx
  by_cases hx : x = [116, 97, 103]
  · have hk0 := nm_kind hnx (by rw [hx]; decide)
    have hfd : lkey.find? (fun p => decide (p.1 = x)) = some ([116, 97, 103], 93) := by
      rw [hx]
      rfl
    rw [hfd] at HLK
    rw [if_neg (fun h => h.elim (fun h => n_cost (w_cost.1 h)) (fun h => h.elim (fun h => n_power (w_power.1 h)) (fun h => n_health (w_health.1 h)))), if_pos (w_tag.2 hx)] at hR
    have HC : Hid (∀ W2, Up W W2 → Calls Tryz.prog 93 #[.pointer (some ⟨b, 0, none⟩)] W2 (QG b bt off n c ml ms d R W2)) := fun W2 hu => ptag_ w0 W2 b bt off n c ml ms i d l HE.out (HW2.out W2 hu).1 hi (HW2.out W2 hu).2 R HXX.out hk0 hR
    clear hR hfd w_cost w_power w_health w_tag w_on n_cost n_power n_health  hk0 hnx HW2
    have HLK2 : Hid (∀ W2, Up W W2 → (Instr.lookup 151 (.map (some ml)) (.string (strOfNums x)) false).run Tryz.prog W2 = .ok (.func (.func 93) #[.pointer (some ⟨b, 0, none⟩)] #[]) W2) := HLK
    clear HLK hx
    generalize strOfNums x = sn at *
    have fne9 := fp_ne
    have feq9 := fp_eq
    go_enter Tryz.func119, Tryz.ntmps119
    go_upto_region 1 with fail
    refine wp_region_held_drew (S := fun W9 => Up W W9) (by kernel_rfl) (Up.drew (Up.refl _)) (fun hHeld => ?_)
    have Ua0 : Up W W.drew := Up.drew (Up.refl _)
    refine wpAnyH_take (i := 0) (v := ?_) rfl (by kernel_rfl) (by kernel_rfl) (by kernel_rfl) (fun _ _ _ h => h) (Or.inl ⟨by rfl, ?_⟩) (by assumption) ?_
    rotate_left
    · intro w9 hSw
      go_simp
      try with_reducible rfl
    simp only [Act.put, List.setIfInBounds_toArray, List.set_cons_zero, List.set_cons_succ, List.getElem_toArray, List.getElem_cons_zero]
    refine wpAnyH_take (i := 1) (v := ?_) rfl (by kernel_rfl) (by kernel_rfl) (by kernel_rfl) (fun _ _ _ h => h) (Or.inl ⟨by rfl, ?_⟩) (by assumption) ?_
    rotate_left
    · intro w9 hSw
      go_simp
      try with_reducible rfl
    simp only [Act.put, List.setIfInBounds_toArray, List.set_cons_zero, List.set_cons_succ, List.getElem_toArray, List.getElem_cons_zero, List.getElem_cons_succ]
    refine wpAnyH_take (i := 2) (v := ?_) rfl (by kernel_rfl) (by kernel_rfl) (by kernel_rfl) (fun _ _ _ h => h) (Or.inl ⟨by rfl, ?_⟩) (by assumption) ?_
    rotate_left
    · intro w9 hSw
      go_simp
      try with_reducible rfl
    simp only [Act.put, List.setIfInBounds_toArray, List.set_cons_zero, List.set_cons_succ, List.getElem_toArray, List.getElem_cons_zero, List.getElem_cons_succ]
    refine wpAnyH_take (i := 3) (v := ?_) rfl (by kernel_rfl) (by kernel_rfl) (by kernel_rfl) (fun _ _ _ h => h) (Or.inl ⟨by rfl, ?_⟩) (by assumption) ?_
    rotate_left
    · intro w9 hSw
      have c2 := hSw.cell a3
      go_simp
      try with_reducible rfl
    simp only [Act.put, List.setIfInBounds_toArray, List.set_cons_zero, List.set_cons_succ, List.getElem_toArray, List.getElem_cons_zero, List.getElem_cons_succ]
    refine wpAnyH_take (i := 4) (v := ?_) rfl (by kernel_rfl) (by kernel_rfl) (by kernel_rfl) (fun _ _ _ h => h) (Or.inl ⟨by rfl, ?_⟩) (by assumption) ?_
    rotate_left
    · intro w9 hSw
      go_simp
      try with_reducible rfl
    simp only [Act.put, List.setIfInBounds_toArray, List.set_cons_zero, List.set_cons_succ, List.getElem_toArray, List.getElem_cons_zero, List.getElem_cons_succ]
    refine wpAnyH_ready (rs := [5]) (by kernel_rfl) (by simp) ?_
    refine AllReadyH.cons rfl (fun K hK => ?_) AllReadyH.nil
    simp only [List.getElem_toArray, List.getElem_cons_zero, List.getElem_cons_succ]
    go_simp
    refine Calls.mono (HNM.out _ Ua0) ?_
    rintro r9 Wa1 ⟨rfl, ua1⟩
    go_simp
    have Ua1 := Ua0.trans ua1
    refine hK.out _ _ ?_ (fun hHeld => ?_)
    · exact Ua1
    clear hK K
    try simp only [Act.put, List.setIfInBounds_toArray, List.set_cons_zero, List.set_cons_succ]
    have hSS := Ua1
    refine wpAnyH_take (i := 6) (v := ?_) rfl (by kernel_rfl) (by kernel_rfl) (by kernel_rfl) (fun _ _ _ h => h) (Or.inl ⟨by rfl, ?_⟩) (by assumption) ?_
    rotate_left
    · intro w9 hSw
      have c2 := HLK2.out w9 hSw
      go_simp
      try with_reducible rfl
    simp only [Act.put, List.setIfInBounds_toArray, List.set_cons_zero, List.set_cons_succ, List.getElem_toArray, List.getElem_cons_zero, List.getElem_cons_succ]
    refine wpAnyH_take (i := 7) (v := ?_) rfl (by kernel_rfl) (by kernel_rfl) (by kernel_rfl) (fun _ _ _ h => h) (Or.inl ⟨by rfl, ?_⟩) (by assumption) ?_
    rotate_left
    · intro w9 hSw
      go_simp
      try with_reducible rfl
    simp only [Act.put, List.setIfInBounds_toArray, List.set_cons_zero, List.set_cons_succ, List.getElem_toArray, List.getElem_cons_zero, List.getElem_cons_succ]
    refine wpAnyH_done (by kernel_rfl) ?_ _
    have HU9 : Hid (Up W Wa1) := Ua1
    have HCC := HC.out Wa1 HU9.out
    clear HC HNM HLK2 HRF
    go_wp2_with fail
    refine Calls.mono HCC ?_
    intro r9 w8 h
    obtain ⟨ow8, h⟩ := h
    have HOw8 : Hid (Only b W w8) := (Only.up HU9.out).trans ow8
    clear ow8
    cases R with
    | bad er pp =>
      obtain rfl : r9 = pnc er pp := h
      unfold pnc at *
      go_wp2_with fail
      rw [HPo.out]
      exact ⟨rfl, HOw8.out, rfl⟩
    | ok y j =>
      obtain ⟨g, rfl, hy, p9⟩ := h
      have hy9 : PF w8 (Sn W.heap.size w8) y [ptr g] := PF.mono (fun z hz => ⟨Nat.le_trans HU9.out.size hz.1, hz.2⟩) y _ hy
      have HR9 : Hid _ := And.intro hy9 p9
      clear hy p9 hy9
      go_wp2_with fail
      rw [HPo.out]
      exact ⟨HOw8.out, g, rfl, HR9.out.1, HR9.out.2⟩
  have n_tag : ¬ x = [116, 97, 103] := hx
  clear hx
  by_cases hx : x = [111, 110]
  · have hk0 := nm_kind hnx (by rw [hx]; decide)
    have hfd : lkey.find? (fun p => decide (p.1 = x)) = some ([111, 110], 94) := by
      rw [hx]
      rfl
    rw [hfd] at HLK
    rw [if_neg (fun h => h.elim (fun h => n_cost (w_cost.1 h)) (fun h => h.elim (fun h => n_power (w_power.1 h)) (fun h => n_health (w_health.1 h)))), if_neg (fun h => n_tag (w_tag.1 h)), if_pos (w_on.2 hx)] at hR
    have hR : onP l N i d = some R := hR
    have HC : Hid (∀ W2, Up W W2 → Calls Tryz.prog 94 #[.pointer (some ⟨b, 0, none⟩)] W2 (QG b bt off n c ml ms d R W2)) := fun W2 hu => pon_ w0 W2 b bt off n c ml ms i d l HE.out (HW2.out W2 hu).1 hi (HW2.out W2 hu).2 hd N R HLA.out hk0 HEX.out HBK.out hR
    clear hR hfd w_cost w_power w_health w_tag w_on n_cost n_power n_health n_tag  hk0 hnx HW2
    have HLK2 : Hid (∀ W2, Up W W2 → (Instr.lookup 151 (.map (some ml)) (.string (strOfNums x)) false).run Tryz.prog W2 = .ok (.func (.func 94) #[.pointer (some ⟨b, 0, none⟩)] #[]) W2) := HLK
    clear HLK hx
    generalize strOfNums x = sn at *
    have fne9 := fp_ne
    have feq9 := fp_eq
    go_enter Tryz.func119, Tryz.ntmps119
    go_upto_region 1 with fail
    refine wp_region_held_drew (S := fun W9 => Up W W9) (by kernel_rfl) (Up.drew (Up.refl _)) (fun hHeld => ?_)
    have Ua0 : Up W W.drew := Up.drew (Up.refl _)
    refine wpAnyH_take (i := 0) (v := ?_) rfl (by kernel_rfl) (by kernel_rfl) (by kernel_rfl) (fun _ _ _ h => h) (Or.inl ⟨by rfl, ?_⟩) (by assumption) ?_
    rotate_left
    · intro w9 hSw
      go_simp
      try with_reducible rfl
    simp only [Act.put, List.setIfInBounds_toArray, List.set_cons_zero, List.set_cons_succ, List.getElem_toArray, List.getElem_cons_zero]
    refine wpAnyH_take (i := 1) (v := ?_) rfl (by kernel_rfl) (by kernel_rfl) (by kernel_rfl) (fun _ _ _ h => h) (Or.inl ⟨by rfl, ?_⟩) (by assumption) ?_
    rotate_left
    · intro w9 hSw
      go_simp
      try with_reducible rfl
    simp only [Act.put, List.setIfInBounds_toArray, List.set_cons_zero, List.set_cons_succ, List.getElem_toArray, List.getElem_cons_zero, List.getElem_cons_succ]
    refine wpAnyH_take (i := 2) (v := ?_) rfl (by kernel_rfl) (by kernel_rfl) (by kernel_rfl) (fun _ _ _ h => h) (Or.inl ⟨by rfl, ?_⟩) (by assumption) ?_
    rotate_left
    · intro w9 hSw
      go_simp
      try with_reducible rfl
    simp only [Act.put, List.setIfInBounds_toArray, List.set_cons_zero, List.set_cons_succ, List.getElem_toArray, List.getElem_cons_zero, List.getElem_cons_succ]
    refine wpAnyH_take (i := 3) (v := ?_) rfl (by kernel_rfl) (by kernel_rfl) (by kernel_rfl) (fun _ _ _ h => h) (Or.inl ⟨by rfl, ?_⟩) (by assumption) ?_
    rotate_left
    · intro w9 hSw
      have c2 := hSw.cell a3
      go_simp
      try with_reducible rfl
    simp only [Act.put, List.setIfInBounds_toArray, List.set_cons_zero, List.set_cons_succ, List.getElem_toArray, List.getElem_cons_zero, List.getElem_cons_succ]
    refine wpAnyH_take (i := 4) (v := ?_) rfl (by kernel_rfl) (by kernel_rfl) (by kernel_rfl) (fun _ _ _ h => h) (Or.inl ⟨by rfl, ?_⟩) (by assumption) ?_
    rotate_left
    · intro w9 hSw
      go_simp
      try with_reducible rfl
    simp only [Act.put, List.setIfInBounds_toArray, List.set_cons_zero, List.set_cons_succ, List.getElem_toArray, List.getElem_cons_zero, List.getElem_cons_succ]
    refine wpAnyH_ready (rs := [5]) (by kernel_rfl) (by simp) ?_
    refine AllReadyH.cons rfl (fun K hK => ?_) AllReadyH.nil
    simp only [List.getElem_toArray, List.getElem_cons_zero, List.getElem_cons_succ]
    go_simp
    refine Calls.mono (HNM.out _ Ua0) ?_
    rintro r9 Wa1 ⟨rfl, ua1⟩
    go_simp
    have Ua1 := Ua0.trans ua1
    refine hK.out _ _ ?_ (fun hHeld => ?_)
    · exact Ua1
    clear hK K
    try simp only [Act.put, List.setIfInBounds_toArray, List.set_cons_zero, List.set_cons_succ]
    have hSS := Ua1
    refine wpAnyH_take (i := 6) (v := ?_) rfl (by kernel_rfl) (by kernel_rfl) (by kernel_rfl) (fun _ _ _ h => h) (Or.inl ⟨by rfl, ?_⟩) (by assumption) ?_
    rotate_left
    · intro w9 hSw
      have c2 := HLK2.out w9 hSw
      go_simp
      try with_reducible rfl
    simp only [Act.put, List.setIfInBounds_toArray, List.set_cons_zero, List.set_cons_succ, List.getElem_toArray, List.getElem_cons_zero, List.getElem_cons_succ]
    refine wpAnyH_take (i := 7) (v := ?_) rfl (by kernel_rfl) (by kernel_rfl) (by kernel_rfl) (fun _ _ _ h => h) (Or.inl ⟨by rfl, ?_⟩) (by assumption) ?_
    rotate_left
    · intro w9 hSw
      go_simp
      try with_reducible rfl
    simp only [Act.put, List.setIfInBounds_toArray, List.set_cons_zero, List.set_cons_succ, List.getElem_toArray, List.getElem_cons_zero, List.getElem_cons_succ]
    refine wpAnyH_done (by kernel_rfl) ?_ _
    have HU9 : Hid (Up W Wa1) := Ua1
    have HCC := HC.out Wa1 HU9.out
    clear HC HNM HLK2 HRF
    go_wp2_with fail
    refine Calls.mono HCC ?_
    intro r9 w8 h
    obtain ⟨ow8, h⟩ := h
    have HOw8 : Hid (Only b W w8) := (Only.up HU9.out).trans ow8
    clear ow8
    cases R with
    | bad er pp =>
      obtain rfl : r9 = pnc er pp := h
      unfold pnc at *
      go_wp2_with fail
      rw [HPo.out]
      exact ⟨rfl, HOw8.out, rfl⟩
    | ok y j =>
      obtain ⟨g, rfl, hy, p9⟩ := h
      have hy9 : PF w8 (Sn W.heap.size w8) y [ptr g] := PF.mono (fun z hz => ⟨Nat.le_trans HU9.out.size hz.1, hz.2⟩) y _ hy
      have HR9 : Hid _ := And.intro hy9 p9
      clear hy p9 hy9
      go_wp2_with fail
      rw [HPo.out]
      exact ⟨HOw8.out, g, rfl, HR9.out.1, HR9.out.2⟩
  have n_on : ¬ x = [111, 110] := hx
  clear hx
  have hfd : lkey.find? (fun p => decide (p.1 = x)) = none := by
    unfold lkey
    simp only [List.find?_cons, List.find?_nil, decide_eq_false (Ne.symm n_cost), decide_eq_false (Ne.symm n_power), decide_eq_false (Ne.symm n_health), decide_eq_false (Ne.symm n_tag), decide_eq_false (Ne.symm n_on)]
  rw [hfd] at HLK
  rw [if_neg (fun h => h.elim (fun h => n_cost (w_cost.1 h)) (fun h => h.elim (fun h => n_power (w_power.1 h)) (fun h => n_health (w_health.1 h)))), if_neg (fun h => n_tag (w_tag.1 h)), if_neg (fun h => n_on (w_on.1 h))] at hR
  obtain rfl : Rs.bad 22 (tk l i).pos = R := Option.some.inj hR
  clear hfd w_cost w_power w_health w_tag w_on n_cost n_power n_health n_tag n_on hnx hR HW2
  have HLK2 : Hid (∀ W2, Up W W2 → (Instr.lookup 151 (.map (some ml)) (.string (strOfNums x)) false).run Tryz.prog W2 = .ok (.nilFunc) W2) := HLK
  clear HLK
  generalize strOfNums x = sn at *
  have fne9 := fp_ne
  have feq9 := fp_eq
  go_enter Tryz.func119, Tryz.ntmps119
  go_upto_region 1 with fail
  refine wp_region_held_drew (S := fun W9 => Up W W9) (by kernel_rfl) (Up.drew (Up.refl _)) (fun hHeld => ?_)
  have Ua0 : Up W W.drew := Up.drew (Up.refl _)
  refine wpAnyH_take (i := 0) (v := ?_) rfl (by kernel_rfl) (by kernel_rfl) (by kernel_rfl) (fun _ _ _ h => h) (Or.inl ⟨by rfl, ?_⟩) (by assumption) ?_
  rotate_left
  · intro w9 hSw
    go_simp
    try with_reducible rfl
  simp only [Act.put, List.setIfInBounds_toArray, List.set_cons_zero, List.set_cons_succ, List.getElem_toArray, List.getElem_cons_zero]
  refine wpAnyH_take (i := 1) (v := ?_) rfl (by kernel_rfl) (by kernel_rfl) (by kernel_rfl) (fun _ _ _ h => h) (Or.inl ⟨by rfl, ?_⟩) (by assumption) ?_
  rotate_left
  · intro w9 hSw
    go_simp
    try with_reducible rfl
  simp only [Act.put, List.setIfInBounds_toArray, List.set_cons_zero, List.set_cons_succ, List.getElem_toArray, List.getElem_cons_zero, List.getElem_cons_succ]
  refine wpAnyH_take (i := 2) (v := ?_) rfl (by kernel_rfl) (by kernel_rfl) (by kernel_rfl) (fun _ _ _ h => h) (Or.inl ⟨by rfl, ?_⟩) (by assumption) ?_
  rotate_left
  · intro w9 hSw
    go_simp
    try with_reducible rfl
  simp only [Act.put, List.setIfInBounds_toArray, List.set_cons_zero, List.set_cons_succ, List.getElem_toArray, List.getElem_cons_zero, List.getElem_cons_succ]
  refine wpAnyH_take (i := 3) (v := ?_) rfl (by kernel_rfl) (by kernel_rfl) (by kernel_rfl) (fun _ _ _ h => h) (Or.inl ⟨by rfl, ?_⟩) (by assumption) ?_
  rotate_left
  · intro w9 hSw
    have c2 := hSw.cell a3
    go_simp
    try with_reducible rfl
  simp only [Act.put, List.setIfInBounds_toArray, List.set_cons_zero, List.set_cons_succ, List.getElem_toArray, List.getElem_cons_zero, List.getElem_cons_succ]
  refine wpAnyH_take (i := 4) (v := ?_) rfl (by kernel_rfl) (by kernel_rfl) (by kernel_rfl) (fun _ _ _ h => h) (Or.inl ⟨by rfl, ?_⟩) (by assumption) ?_
  rotate_left
  · intro w9 hSw
    go_simp
    try with_reducible rfl
  simp only [Act.put, List.setIfInBounds_toArray, List.set_cons_zero, List.set_cons_succ, List.getElem_toArray, List.getElem_cons_zero, List.getElem_cons_succ]
  refine wpAnyH_ready (rs := [5]) (by kernel_rfl) (by simp) ?_
  refine AllReadyH.cons rfl (fun K hK => ?_) AllReadyH.nil
  simp only [List.getElem_toArray, List.getElem_cons_zero, List.getElem_cons_succ]
  go_simp
  refine Calls.mono (HNM.out _ Ua0) ?_
  rintro r9 Wa1 ⟨rfl, ua1⟩
  go_simp
  have Ua1 := Ua0.trans ua1
  refine hK.out _ _ ?_ (fun hHeld => ?_)
  · exact Ua1
  clear hK K
  try simp only [Act.put, List.setIfInBounds_toArray, List.set_cons_zero, List.set_cons_succ]
  have hSS := Ua1
  refine wpAnyH_take (i := 6) (v := ?_) rfl (by kernel_rfl) (by kernel_rfl) (by kernel_rfl) (fun _ _ _ h => h) (Or.inl ⟨by rfl, ?_⟩) (by assumption) ?_
  rotate_left
  · intro w9 hSw
    have c2 := HLK2.out w9 hSw
    go_simp
    try with_reducible rfl
  simp only [Act.put, List.setIfInBounds_toArray, List.set_cons_zero, List.set_cons_succ, List.getElem_toArray, List.getElem_cons_zero, List.getElem_cons_succ]
  refine wpAnyH_take (i := 7) (v := ?_) rfl (by kernel_rfl) (by kernel_rfl) (by kernel_rfl) (fun _ _ _ h => h) (Or.inl ⟨by rfl, ?_⟩) (by assumption) ?_
  rotate_left
  · intro w9 hSw
    go_simp
    try with_reducible rfl
  simp only [Act.put, List.setIfInBounds_toArray, List.set_cons_zero, List.set_cons_succ, List.getElem_toArray, List.getElem_cons_zero, List.getElem_cons_succ]
  refine wpAnyH_done (by kernel_rfl) ?_ _
  have HU9 : Hid (Up W Wa1) := Ua1
  have HCC := HRF.out Wa1 HU9.out
  clear HNM HLK2 HRF
  go_wp2_with fail
  refine Calls.mono HCC ?_
  rintro r9 w7 ⟨rfl, u7⟩
  have HU7 : Hid (Up W w7) := HU9.out.trans u7
  clear u7 HCC
  unfold pnc at *
  go_wp2_with fail
  rw [HPo.out]
  exact ⟨rfl, Only.up HU7.out, rfl⟩
end TP
end Go.Proofs.YtkldllnnocdhbaaGreatDoor
