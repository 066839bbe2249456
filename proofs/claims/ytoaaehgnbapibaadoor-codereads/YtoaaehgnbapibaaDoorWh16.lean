
/-
  Which numbers fit a row's operands.
-/
import Derived.Test.YtoaaehgnbapibaaDoorWg16
namespace Go.Proofs.YtoaaehgnbapibaaDoor
open Go.RowKit
attribute [local go_sem ↓] Go.wp_at_zero Go.wp_at_succ
namespace CD
def mst (w : Int) : Int := if w = 0 then 0 else if w = 1 then 255 else 65535
def okn (w x : Int) : Bool := decide (0 ≤ x) && decide (x ≤ mst w)
def Wd (w : Int) : Prop := w = 0 ∨ w = 1 ∨ w = 2
set_option maxRecDepth 100000 in
set_option maxHeartbeats 8000000 in
theorem most0_ (W : World) : Calls Tryd.prog 91 #[.int .i64 0] W fun e w' => e = .returned (.int .i64 0) ∧ Up W w' := by
  obtain ⟨Post, hPost⟩ : ∃ P : Ending → World → Prop, P = fun e w' => e = .returned (.int .i64 0) ∧ Up W w' := ⟨_, rfl⟩
  rw [← hPost]
  have HPo : Hid (Post = fun e w' => e = .returned (.int .i64 0) ∧ Up W w') := hPost
  clear hPost
  go_enter Tryd.func91, Tryd.ntmps91
  go_wp2_with fail
  rw [HPo.out]
  exact ⟨by rfl, Up.refl _⟩
set_option maxRecDepth 100000 in
set_option maxHeartbeats 8000000 in
theorem most1_ (W : World) : Calls Tryd.prog 91 #[.int .i64 1] W fun e w' => e = .returned (.int .i64 255) ∧ Up W w' := by
  obtain ⟨Post, hPost⟩ : ∃ P : Ending → World → Prop, P = fun e w' => e = .returned (.int .i64 255) ∧ Up W w' := ⟨_, rfl⟩
  rw [← hPost]
  have HPo : Hid (Post = fun e w' => e = .returned (.int .i64 255) ∧ Up W w') := hPost
  clear hPost
  go_enter Tryd.func91, Tryd.ntmps91
  go_wp2_with fail
  rw [HPo.out]
  exact ⟨by rfl, Up.refl _⟩
set_option maxRecDepth 100000 in
set_option maxHeartbeats 8000000 in
theorem most2_ (W : World) : Calls Tryd.prog 91 #[.int .i64 2] W fun e w' => e = .returned (.int .i64 65535) ∧ Up W w' := by
  obtain ⟨Post, hPost⟩ : ∃ P : Ending → World → Prop, P = fun e w' => e = .returned (.int .i64 65535) ∧ Up W w' := ⟨_, rfl⟩
  rw [← hPost]
  have HPo : Hid (Post = fun e w' => e = .returned (.int .i64 65535) ∧ Up W w') := hPost
  clear hPost
  go_enter Tryd.func91, Tryd.ntmps91
  go_wp2_with fail
  rw [HPo.out]
  exact ⟨by rfl, Up.refl _⟩
theorem most_ (w : Int) (hw : Wd w) (W : World) : Calls Tryd.prog 91 #[.int .i64 w] W fun e w' => e = .returned (.int .i64 (mst w)) ∧ Up W w' := by
  rcases hw with rfl | rfl | rfl
  · exact most0_ W
  · exact most1_ W
  · exact most2_ W
set_option maxRecDepth 100000 in
set_option maxHeartbeats 16000000 in
theorem fits_ (s : ByteArray) (a b c : Int) (f : Value) (A B C : Int) (ha : Wd a) (hb : Wd b) (hc : Wd c) (W : World) : Calls Tryd.prog 78 #[.agg #[.string s, .int .i64 a, .int .i64 b, .int .i64 c, f], .agg #[.int .i64 A, .int .i64 B, .int .i64 C]] W fun e w' => e = .returned (.bool (okn a A && (okn b B && okn c C))) ∧ Up W w' := by
  obtain ⟨Post, hPost⟩ : ∃ P : Ending → World → Prop, P = fun e w' => e = .returned (.bool (okn a A && (okn b B && okn c C))) ∧ Up W w' := ⟨_, rfl⟩
  rw [← hPost]
  have HPo : Hid (Post = fun e w' => e = .returned (.bool (okn a A && (okn b B && okn c C))) ∧ Up W w') := hPost
  clear hPost
  have i0 := ix0 a b c
  have i1 := ix1 a b c
  have i2 := ix2 a b c
  have HMA : Hid (∀ V, Calls Tryd.prog 91 #[.int .i64 a] V fun e w' => e = .returned (.int .i64 (mst a)) ∧ Up V w') := most_ a ha
  have HMB : Hid (∀ V, Calls Tryd.prog 91 #[.int .i64 b] V fun e w' => e = .returned (.int .i64 (mst b)) ∧ Up V w') := most_ b hb
  have HMC : Hid (∀ V, Calls Tryd.prog 91 #[.int .i64 c] V fun e w' => e = .returned (.int .i64 (mst c)) ∧ Up V w') := most_ c hc
  obtain ⟨g, hg⟩ : ∃ g, g = W.heap.size := ⟨_, rfl⟩
  obtain ⟨W1, hW1⟩ : ∃ X, W.alloc (.cells #[.string s, .int .i64 a, .int .i64 b, .int .i64 c, f] 78) = X := ⟨_, rfl⟩
  have g0 : W1.heap[g]? = some (.cells #[.string s, .int .i64 a, .int .i64 b, .int .i64 c, f] 78 (0, 0)) := by rw [← hW1, hg]; exact heap_alloc_new _ _
  obtain ⟨h, hh⟩ : ∃ h, h = W1.heap.size := ⟨_, rfl⟩
  obtain ⟨W2, hW2⟩ : ∃ X, W1.alloc (.cells #[.int .i64 A, .int .i64 B, .int .i64 C] 95) = X := ⟨_, rfl⟩
  have g1 : W2.heap[h]? = some (.cells #[.int .i64 A, .int .i64 B, .int .i64 C] 95 (0, 0)) := by rw [← hW2, hh]; exact heap_alloc_new _ _
  have g2 : W2.heap[g]? = some (.cells #[.string s, .int .i64 a, .int .i64 b, .int .i64 c, f] 78 (0, 0)) := by rw [← hW2]; exact ((Up.refl W1).alloc _).heap g0
  have HU : Hid (Up W W2) := by unfold Hid; rw [← hW2, ← hW1]; exact ((Up.refl _).alloc _).alloc _
  have HN : Hid (W2.heap[h]? = some (.cells #[.int .i64 A, .int .i64 B, .int .i64 C] 95 (0, 0))) := g1
  clear ha hb hc
  go_enter Tryd.func78, Tryd.ntmps78
  go_upto_region 1 with fail
  try rw [hW1]
  try rw [hW2]
  try rw [← hg]
  try rw [← hh]
  clear hW1 hW2 hg hh g0 g1
  have c1 : W2.cell? ⟨g, 1, none⟩ = some (.int .i64 a) := by simp only [World.cell?, g2]; rfl
  have c2 : W2.cell? ⟨g, 2, none⟩ = some (.int .i64 b) := by simp only [World.cell?, g2]; rfl
  have c3 : W2.cell? ⟨g, 3, none⟩ = some (.int .i64 c) := by simp only [World.cell?, g2]; rfl
  go_upto_region 2 with fail
  go_wp2_with fail
  clear c1 c2 c3 g2
  go_loopw [9] (fun s9 V => ∃ i : Nat, i ≤ 3 ∧ s9 = .int .i64 (i : Int) ∧ (1 ≤ i → okn a A = true) ∧ (2 ≤ i → okn b B = true) ∧ (3 ≤ i → okn c C = true) ∧ Up W2 V) (fun s9 _ => 3 - (intOf s9).toNat)
  case atStart => exact ⟨0, by omega, rfl, fun h => by omega, fun h => by omega, fun h => by omega, Up.refl _⟩
  case round =>
    obtain ⟨i, hi, rfl, k1, k2, k3, hup⟩ := hrel
    have HK : Hid ((1 ≤ i → okn a A = true) ∧ (2 ≤ i → okn b B = true) ∧ (3 ≤ i → okn c C = true)) := ⟨k1, k2, k3⟩
    have HUR : Hid (Up W2 wr) := hup
    clear k1 k2 k3 hup
    have hi4 : i = 0 ∨ i = 1 ∨ i = 2 ∨ i = 3 := by omega
    rcases hi4 with hi4 | hi4 | hi4 | hi4
    · subst hi4
      have HM : Hid (∀ U : UW wr, Calls Tryd.prog 91 #[.int .i64 a] U.W fun e w' => e = .returned (.int .i64 (mst a)) ∧ ∃ V : UW wr, w' = V.W) := fun U => (HMA.out U.W).mono fun e w' h => ⟨h.1, ⟨_, U.up.trans h.2⟩, rfl⟩
      have cn : ∀ U : UW wr, U.W.cell? ⟨h, 0, none⟩ = some (.int .i64 A) := fun U => by
        have h9 := (HUR.out.trans U.up).heap HN.out
        simp only [World.cell?, h9]
        rfl
      have kn : Nonempty (UW wr) := ⟨⟨_, Up.refl _⟩⟩
      have lt : ((0 : Nat) : Int) < 3 := by omega
      go_upto_region 4 with fail
      try simp only [Act.put]
      by_cases hx : A < 0
      · have HBD : Hid (okn a A = false) := by unfold Hid okn; rw [decide_eq_false (by omega)]; rfl
        refine TailR.wp_region_seqC 11 (fun w' => ∃ U : UW wr, w' = U.W) ⟨⟨_, (Up.refl _).drewN 1⟩, rfl⟩ (by kernel_rfl) (by kernel_rfl) ?_
        simp only [List.take_succ_cons, List.take_zero, List.drop_succ_cons, List.drop_zero]
        repeat (go_big_quiet_step (first | with_reducible exact HM.out _))
        refine wpQuiet_nil ?_
        intro _ hw'
        obtain ⟨U, hw''⟩ := hw'
        subst hw''
        go_wp2_with fail
        rw [HPo.out]
        refine ⟨?_, HU.out.trans (HUR.out.trans U.up)⟩
        have hbad : okn a A = false := HBD.out
        rw [hbad]; rfl
      · by_cases hm : mst a < A
        · have HBD : Hid (okn a A = false) := by unfold Hid okn; rw [decide_eq_false (show ¬ A ≤ mst a by omega), Bool.and_false]
          generalize mst a = mw at HM hm
          refine TailR.wp_region_seqC 11 (fun w' => ∃ U : UW wr, w' = U.W) ⟨⟨_, (Up.refl _).drewN 1⟩, rfl⟩ (by kernel_rfl) (by kernel_rfl) ?_
          simp only [List.take_succ_cons, List.take_zero, List.drop_succ_cons, List.drop_zero]
          repeat (go_big_quiet_step (first | with_reducible exact HM.out _))
          refine wpQuiet_nil ?_
          intro _ hw'
          obtain ⟨U, hw''⟩ := hw'
          subst hw''
          go_wp2_with fail
          rw [HPo.out]
          refine ⟨?_, HU.out.trans (HUR.out.trans U.up)⟩
          have hbad : okn a A = false := HBD.out
          rw [hbad]; rfl
        · have HGD : Hid (okn a A = true) := by unfold Hid okn; rw [decide_eq_true (by omega), decide_eq_true (by omega)]; rfl
          generalize mst a = mw at HM hm
          refine TailR.wp_region_seqC 11 (fun w' => ∃ U : UW wr, w' = U.W) ⟨⟨_, (Up.refl _).drewN 1⟩, rfl⟩ (by kernel_rfl) (by kernel_rfl) ?_
          simp only [List.take_succ_cons, List.take_zero, List.drop_succ_cons, List.drop_zero]
          repeat (go_big_quiet_step (first | with_reducible exact HM.out _))
          refine wpQuiet_nil ?_
          intro _ hw'
          obtain ⟨U, hw''⟩ := hw'
          subst hw''
          go_wp2_with fail
          go_roundw
          case rel => exact ⟨1, by omega, by first | rfl | go_num, fun _ => HGD.out, fun h => by omega, fun h => by omega, HUR.out.trans U.up⟩
          case measure => simp [intOf]
    · subst hi4
      have HM : Hid (∀ U : UW wr, Calls Tryd.prog 91 #[.int .i64 b] U.W fun e w' => e = .returned (.int .i64 (mst b)) ∧ ∃ V : UW wr, w' = V.W) := fun U => (HMB.out U.W).mono fun e w' h => ⟨h.1, ⟨_, U.up.trans h.2⟩, rfl⟩
      have cn : ∀ U : UW wr, U.W.cell? ⟨h, 1, none⟩ = some (.int .i64 B) := fun U => by
        have h9 := (HUR.out.trans U.up).heap HN.out
        simp only [World.cell?, h9]
        rfl
      have kn : Nonempty (UW wr) := ⟨⟨_, Up.refl _⟩⟩
      have lt : ((1 : Nat) : Int) < 3 := by omega
      go_upto_region 4 with fail
      try simp only [Act.put]
      by_cases hx : B < 0
      · have HBD : Hid (okn b B = false) := by unfold Hid okn; rw [decide_eq_false (by omega)]; rfl
        refine TailR.wp_region_seqC 11 (fun w' => ∃ U : UW wr, w' = U.W) ⟨⟨_, (Up.refl _).drewN 1⟩, rfl⟩ (by kernel_rfl) (by kernel_rfl) ?_
        simp only [List.take_succ_cons, List.take_zero, List.drop_succ_cons, List.drop_zero]
        repeat (go_big_quiet_step (first | with_reducible exact HM.out _))
        refine wpQuiet_nil ?_
        intro _ hw'
        obtain ⟨U, hw''⟩ := hw'
        subst hw''
        go_wp2_with fail
        rw [HPo.out]
        refine ⟨?_, HU.out.trans (HUR.out.trans U.up)⟩
        have hbad : okn b B = false := HBD.out
        rw [hbad]; cases okn a A <;> rfl
      · by_cases hm : mst b < B
        · have HBD : Hid (okn b B = false) := by unfold Hid okn; rw [decide_eq_false (show ¬ B ≤ mst b by omega), Bool.and_false]
          generalize mst b = mw at HM hm
          refine TailR.wp_region_seqC 11 (fun w' => ∃ U : UW wr, w' = U.W) ⟨⟨_, (Up.refl _).drewN 1⟩, rfl⟩ (by kernel_rfl) (by kernel_rfl) ?_
          simp only [List.take_succ_cons, List.take_zero, List.drop_succ_cons, List.drop_zero]
          repeat (go_big_quiet_step (first | with_reducible exact HM.out _))
          refine wpQuiet_nil ?_
          intro _ hw'
          obtain ⟨U, hw''⟩ := hw'
          subst hw''
          go_wp2_with fail
          rw [HPo.out]
          refine ⟨?_, HU.out.trans (HUR.out.trans U.up)⟩
          have hbad : okn b B = false := HBD.out
          rw [hbad]; cases okn a A <;> rfl
        · have HGD : Hid (okn b B = true) := by unfold Hid okn; rw [decide_eq_true (by omega), decide_eq_true (by omega)]; rfl
          generalize mst b = mw at HM hm
          refine TailR.wp_region_seqC 11 (fun w' => ∃ U : UW wr, w' = U.W) ⟨⟨_, (Up.refl _).drewN 1⟩, rfl⟩ (by kernel_rfl) (by kernel_rfl) ?_
          simp only [List.take_succ_cons, List.take_zero, List.drop_succ_cons, List.drop_zero]
          repeat (go_big_quiet_step (first | with_reducible exact HM.out _))
          refine wpQuiet_nil ?_
          intro _ hw'
          obtain ⟨U, hw''⟩ := hw'
          subst hw''
          go_wp2_with fail
          go_roundw
          case rel => exact ⟨2, by omega, by first | rfl | go_num, fun _ => HK.out.1 (by omega), fun _ => HGD.out, fun h => by omega, HUR.out.trans U.up⟩
          case measure => simp [intOf]
    · subst hi4
      have HM : Hid (∀ U : UW wr, Calls Tryd.prog 91 #[.int .i64 c] U.W fun e w' => e = .returned (.int .i64 (mst c)) ∧ ∃ V : UW wr, w' = V.W) := fun U => (HMC.out U.W).mono fun e w' h => ⟨h.1, ⟨_, U.up.trans h.2⟩, rfl⟩
      have cn : ∀ U : UW wr, U.W.cell? ⟨h, 2, none⟩ = some (.int .i64 C) := fun U => by
        have h9 := (HUR.out.trans U.up).heap HN.out
        simp only [World.cell?, h9]
        rfl
      have kn : Nonempty (UW wr) := ⟨⟨_, Up.refl _⟩⟩
      have lt : ((2 : Nat) : Int) < 3 := by omega
      go_upto_region 4 with fail
      try simp only [Act.put]
      by_cases hx : C < 0
      · have HBD : Hid (okn c C = false) := by unfold Hid okn; rw [decide_eq_false (by omega)]; rfl
        refine TailR.wp_region_seqC 11 (fun w' => ∃ U : UW wr, w' = U.W) ⟨⟨_, (Up.refl _).drewN 1⟩, rfl⟩ (by kernel_rfl) (by kernel_rfl) ?_
        simp only [List.take_succ_cons, List.take_zero, List.drop_succ_cons, List.drop_zero]
        repeat (go_big_quiet_step (first | with_reducible exact HM.out _))
        refine wpQuiet_nil ?_
        intro _ hw'
        obtain ⟨U, hw''⟩ := hw'
        subst hw''
        go_wp2_with fail
        rw [HPo.out]
        refine ⟨?_, HU.out.trans (HUR.out.trans U.up)⟩
        have hbad : okn c C = false := HBD.out
        rw [hbad]; cases okn a A <;> cases okn b B <;> rfl
      · by_cases hm : mst c < C
        · have HBD : Hid (okn c C = false) := by unfold Hid okn; rw [decide_eq_false (show ¬ C ≤ mst c by omega), Bool.and_false]
          generalize mst c = mw at HM hm
          refine TailR.wp_region_seqC 11 (fun w' => ∃ U : UW wr, w' = U.W) ⟨⟨_, (Up.refl _).drewN 1⟩, rfl⟩ (by kernel_rfl) (by kernel_rfl) ?_
          simp only [List.take_succ_cons, List.take_zero, List.drop_succ_cons, List.drop_zero]
          repeat (go_big_quiet_step (first | with_reducible exact HM.out _))
          refine wpQuiet_nil ?_
          intro _ hw'
          obtain ⟨U, hw''⟩ := hw'
          subst hw''
          go_wp2_with fail
          rw [HPo.out]
          refine ⟨?_, HU.out.trans (HUR.out.trans U.up)⟩
          have hbad : okn c C = false := HBD.out
          rw [hbad]; cases okn a A <;> cases okn b B <;> rfl
        · have HGD : Hid (okn c C = true) := by unfold Hid okn; rw [decide_eq_true (by omega), decide_eq_true (by omega)]; rfl
          generalize mst c = mw at HM hm
          refine TailR.wp_region_seqC 11 (fun w' => ∃ U : UW wr, w' = U.W) ⟨⟨_, (Up.refl _).drewN 1⟩, rfl⟩ (by kernel_rfl) (by kernel_rfl) ?_
          simp only [List.take_succ_cons, List.take_zero, List.drop_succ_cons, List.drop_zero]
          repeat (go_big_quiet_step (first | with_reducible exact HM.out _))
          refine wpQuiet_nil ?_
          intro _ hw'
          obtain ⟨U, hw''⟩ := hw'
          subst hw''
          go_wp2_with fail
          go_roundw
          case rel => exact ⟨3, by omega, by first | rfl | go_num, fun _ => HK.out.1 (by omega), fun _ => HK.out.2.1 (by omega), fun _ => HGD.out, HUR.out.trans U.up⟩
          case measure => simp [intOf]
    · subst hi4
      have hr1 : okn a A = true := HK.out.1 (by omega)
      have hr2 : okn b B = true := HK.out.2.1 (by omega)
      have hr3 : okn c C = true := HK.out.2.2 (by omega)
      have HRS : Hid ((okn a A && (okn b B && okn c C)) = true) := by unfold Hid; rw [hr1, hr2, hr3]; rfl
      clear hr1 hr2 hr3
      go_wp2_with fail
      rw [HPo.out]
      exact ⟨by rw [HRS.out]; rfl, HU.out.trans HUR.out⟩
end CD
end Go.Proofs.YtoaaehgnbapibaaDoor
