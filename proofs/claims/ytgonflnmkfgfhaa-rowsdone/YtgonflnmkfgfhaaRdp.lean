
/-
  RowsDone: the law's walk.
-/
import Derived.Test.YtgonflnmkfgfhaaRdm
import Derived.Test.YtgonflnmkfgfhaaTp
namespace Go.Proofs.Ytgonflnmkfgfhaa
open Go.RowKit
attribute [local go_sem ↓] Go.wp_at_zero Go.wp_at_succ

namespace RD
open LPS
set_option maxRecDepth 100000 in
set_option maxHeartbeats 60000000 in
theorem doneMain (most : Int) (v : Value) (l : List OP.Opp) (w : World) (hv : OP.OL w v l) (hm : l.length ≤ 140737488355328) :
    Calls Try.prog 4 #[.int .i64 most, v] w fun e w' => e = .returned (.bool true) ∧ Below w.heap.size w w' := by
  obtain ⟨Post, hPost⟩ : ∃ P : Ending → World → Prop, P = fun e w' => e = .returned (.bool true) ∧ Below w.heap.size w w' := ⟨_, rfl⟩
  rw [← hPost]
  have HPost : Hid (Post = fun e w' => e = .returned (.bool true) ∧ Below w.heap.size w w') := hPost
  clear hPost
  obtain ⟨iT, hiT, z0, z1, z2⟩ := info_parts infoT
  have HW : Hid _ := works
  have HV : Hid (OP.OL w v l) := hv
  obtain ⟨-, va, vcap, rfl, hvc, -⟩ := hv
  obtain ⟨n, hn⟩ : ∃ n, n = l.length := ⟨_, rfl⟩
  rw [← hn] at HV hm hvc ⊢
  have HN : Hid (n = l.length) := hn
  clear hn
  go_enter Try.func4, Try.ntmps4
  go_wp2_with fail
  refine Calls.mono (HW.out _) ?_
  rintro e w1 ⟨rfl, u1⟩
  have HU1 : Hid (Up w w1) := u1
  clear u1
  by_cases hbig : (1024 : Int) < (n : Int)
  · go_wp2
    rw [HPost.out]
    exact ⟨rfl, HU1.out⟩
  · by_cases hneg : most < 0
    · go_wp2_with fail
      refine Calls.mono (newStackNil most _ hneg) ?_
      rintro e w2 ⟨rfl, rfl⟩
      go_wp2
      rw [HPost.out]
      exact ⟨rfl, HU1.out⟩
    · go_wp2_with fail
      refine Calls.mono (newStack most _ (by omega)) ?_
      rintro e w2 ⟨rfl, s2, u2, hz2⟩
      have HJ : Hid (DD w w1.heap.size most 0 w2 none 0 [] 0) := ⟨_, s2, World.ownsRow_nil _ _ _ _, fun g e => (by cases e), ⟨Nat.le_refl _, by simp; omega⟩, HU1.out.trans u2, HU1.out.size⟩
      clear s2 u2 hz2
      go_wp2_with fail
      obtain ⟨sb, hsb⟩ : ∃ sb, sb = w1.heap.size := ⟨_, rfl⟩
      simp only [← hsb] at HJ ⊢
      clear hsb HW HU1
      go_loopw [7, 8, 9] (fun s7 s8 s9 W => ∃ (i d : Nat) (all : List X) (ua : Option Addr) (uc : Nat), i ≤ n ∧ s9 = .int .i64 i ∧ s8 = .int .i64 d ∧ s7 = .slice ua all.length uc ∧ DD w sb most i W ua uc all d) (fun _ _ s9 _ => n - (intOf s9).toNat)
      case atStart => exact ⟨0, 0, [], none, 0, Nat.zero_le _, rfl, rfl, rfl, HJ.out⟩
      case round =>
        clear HJ
        obtain ⟨i, d, all, ua, uc, hi, rfl, rfl, rfl, hj⟩ := hrel
        have HJ : Hid _ := hj
        by_cases hlt : i < n
        · have hlt2 : (i : Int) < (n : Int) := by omega
          have hup : Up w wr := by
            obtain ⟨_, -, -, -, -, u, -⟩ := hj
            exact u
          obtain ⟨b, off, rfl, k0, k1, k2⟩ := OP.ol_at HV.out hup i hlt
          obtain ⟨⟨j1, j2, j3, j4, j5⟩, j6, j7⟩ := dd_cells hj
          have HJ7 : Hid _ := j7
          clear hj hup k1 j7
          obtain ⟨o, ho⟩ : ∃ o, o = l.getD i OP.dOp := ⟨_, rfl⟩
          rw [← ho] at k0 k2
          clear ho
          obtain ⟨kd, on, nn⟩ := o
          have hbl : b < wr.heap.size := World.block_lt_of_cell? wr _ k0
          have j8 : d ≤ uc := by omega
          have j9 : (d : Int) ≤ (uc : Int) := by omega
          by_cases h0 : kd = 0
          · subst h0
            by_cases hdm : (d : Int) < most
            · have HDo : Hid _ := dd_do (bx := wr.heap.size) (x := (IntKind.i8.wrap nn, ⟨#[112]⟩)) HJ.out ((Up.refl _).alloc (.cells #[.int .i8 (IntKind.i8.wrap nn), .string ⟨#[112]⟩] 53)) (by omega) hdm (heap_alloc_new wr _) (Nat.le_refl _)
              go_wp2_with fail
              refine Calls.mono HDo.out ?_
              rintro e W3 ⟨rfl, hdm3⟩
              have HM : Hid _ := hdm3
              clear HDo
              have y0 : W3.cell? ⟨wr.heap.size, 0, none⟩ = some (.int .i8 (IntKind.i8.wrap nn)) := by
                obtain ⟨_, -, -, -, -, hb, -⟩ := hdm3
                simp [World.cell?, hb]
              have y1 : W3.cell? ⟨wr.heap.size, 1, none⟩ = some (.string ⟨#[112]⟩) := by
                obtain ⟨_, -, -, -, -, hb, -⟩ := hdm3
                simp [World.cell?, hb]
              have hw3 : sb + 1 ≤ W3.heap.size := by
                obtain ⟨_, -, -, -, -, -, hs, -⟩ := hdm3
                exact hs.2
              have HOWN : Hid (((W3.alloc (.cells #[.int .i8 (IntKind.i8.wrap nn), .string ⟨#[112]⟩] 53)).drew).ownsRow (sb + 1) 53 2 (.slice ua d uc) d (flX (all.take d))) := by
                obtain ⟨_, -, hr, -⟩ := hdm3
                exact (hr.alloc _).drew
              clear hdm3
              have HGO : Hid (∀ gq cap W2, W2.ownsRow (sb + 1) 53 2 (.slice (some ⟨gq, 0, none⟩) (d + 1) cap) (d + 1) (flX (all.take d) ++ [.int .i8 (IntKind.i8.wrap nn), .string ⟨#[112]⟩]) → ((W3.alloc (.cells #[.int .i8 (IntKind.i8.wrap nn), .string ⟨#[112]⟩] 53)).drew).grownBy W2 (Value.slice ua d uc).ownBlock → ((Value.slice ua d uc).ownBlock = some gq ∨ gq = W3.heap.size + 1) → DD w sb most (i + 1) W2 (some ⟨gq, 0, none⟩) cap (all.take d ++ [(IntKind.i8.wrap nn, ⟨#[112]⟩)]) (d + 1)) := fun gq cap W2 h1 h2 h3 => dd_app HM.out j4 hdm h1 h2 h3
              go_wp2_with fail
              refine (fun key : ∀ gq cap W2, DD w sb most (i + 1) W2 (some ⟨gq, 0, none⟩) cap (all.take d ++ [(IntKind.i8.wrap nn, ⟨#[112]⟩)]) (d + 1) → (?G1 : Nat → Nat → World → Prop) gq cap W2 => ?main1) ?kp1
              case main1 =>
                go_region_law ((refine step_append_lies _ (by rfl) _ _ _ (by rfl) (sb + 1) 53 iT _ 2 24 Try.underlying54 hiT z0 z1 z2 rfl (by omega) (.slice ua d uc) d (flX (all.take d)) (by rfl) HOWN.out ⟨W3.heap.size, 0, none⟩ 1 1 [.int .i8 (IntKind.i8.wrap nn), .string ⟨#[112]⟩] (by rfl) (by rfl) (World.news_of_block (cs := #[.int .i8 (IntKind.i8.wrap nn), .string ⟨#[112]⟩]) (t := 53) (fr := (0, 0)) (show ((W3.alloc (.cells #[.int .i8 (IntKind.i8.wrap nn), .string ⟨#[112]⟩] 53)).drew).heap[W3.heap.size]? = some (.cells #[.int .i8 (IntKind.i8.wrap nn), .string ⟨#[112]⟩] 53 (0, 0)) from heap_alloc_new W3 _)) (by simp [Value.oneCell']) (by omega) (by unfold maxLen; omega) (by omega) (by simp; omega) (W3.heap.size + 1) (by simp) ?_; intro gg gcap W2 hown1 hgrow hat hlt))
                all_goals exact key _ _ _ (HGO.out gg gcap W2 hown1 hgrow hat)
              case kp1 =>
                intro g2 cap2 W2 hf
                have HF : Hid _ := hf
                clear HGO HOWN HM hf y0 y1
                go_wp2_with fail
                obtain ⟨D, hD⟩ : ∃ D, D = d + 1 := ⟨_, rfl⟩
                have hD2 : (d : Int) + 1 = (D : Int) := by omega
                have hLEN : (all.take d ++ [(IntKind.i8.wrap nn, (⟨#[112]⟩ : ByteArray))]).length = D := by simp; omega
                obtain ⟨all2, hall2⟩ : ∃ all2, all2 = all.take d ++ [(IntKind.i8.wrap nn, (⟨#[112]⟩ : ByteArray))] := ⟨_, rfl⟩
                rw [← hall2] at HF hLEN
                rw [← hD] at HF
                rw [← hD, hD2]
                clear hall2
                have hDM : D ≤ D ∧ (D : Int) ≤ most ∧ D ≤ 2000 := by omega
                obtain ⟨t1, t2, t3⟩ := hDM
                have t4 : decide (most < (D : Int)) = false := decide_eq_false (by omega)
                have t5 : D ≤ cap2 := by
                  have h9 := (dd_cells HF.out).1
                  omega
                have t6 : (D : Int) ≤ (cap2 : Int) := by omega
                have HDn : Hid _ := fun W u => dd_done (W' := W) HF.out u (by omega)
                have HSm : Hid _ := fun W u x => dd_same (W' := W) HF.out u (by omega) x
                have HU : Hid (Up w W2) := by
                  obtain ⟨_, -, -, -, -, u, -⟩ := HF.out
                  exact u
                refine Calls.mono (dd_len HF.out (Up.refl _) (by omega)) ?_
                rintro e W4 ⟨rfl, u4⟩
                have HU4 : Hid (Up W2 W4) := u4
                rw [hLEN]
                clear u4 hD hD2 t1
                go_wp2_with fail
                refine TailR.wp_region_pre 25 8 rfl (fun w' => ∃ q, w' = W4.drewN q) ⟨1, rfl⟩ (by kernel_rfl) (by kernel_rfl) ?_
                simp only [List.take_succ_cons, List.take_zero]
                repeat (go_big_quiet_step (fail))
                refine wpQuiet_nil ?_
                intro _ hw'
                obtain ⟨nq, hw''⟩ := hw'
                subst hw''
                refine wpAny_take (i := 25) (v := ?v25) rfl (by kernel_rfl) (by kernel_rfl) (by kernel_rfl) (fun _ _ _ h => h) (Or.inl ⟨by rfl, by intro w; go_simp; try with_reducible rfl⟩) ?_
                refine wpAny_take (i := 27) (v := ?v27) rfl (by kernel_rfl) (by kernel_rfl) (by kernel_rfl) (fun _ _ _ h => h) (Or.inl ⟨by rfl, by intro w; go_simp; try with_reducible rfl⟩) ?_
                refine wpAny_take (i := 28) (v := ?v28) rfl (by kernel_rfl) (by kernel_rfl) (by kernel_rfl) (fun _ _ _ h => h) (Or.inl ⟨by rfl, by intro w; go_simp; try with_reducible rfl⟩) ?_
                refine wpAny_take (i := 29) (v := ?v29) rfl (by kernel_rfl) (by kernel_rfl) (by kernel_rfl) (fun _ _ _ h => h) (Or.inl ⟨by rfl, by intro w; go_simp; try with_reducible rfl⟩) ?_
                refine wpAny_ready (rs := [26]) (by kernel_rfl) (by simp) ?_
                refine AllReady.cons rfl (fun K hK => ?_) AllReady.nil
                go_simp
                refine Calls.mono (HDn.out _ (HU4.out.drewN nq)) ?_
                rintro e W5 ⟨x5, rfl, p5, u5⟩
                have HP5 : Hid _ := p5
                have HU5 : Hid (Up W2 W5) := (HU4.out.drewN nq).trans u5
                clear p5 u5
                refine hK _ _ ?_
                clear hK K
                refine wpAny_ready (rs := [30]) (by kernel_rfl) (by simp) ?_
                refine AllReady.cons rfl (fun K hK => ?_) AllReady.nil
                go_simp
                refine Calls.mono (HSm.out _ HU5.out x5 HP5.out) ?_
                rintro e W6 ⟨rfl, u6⟩
                have HU6 : Hid (Up W2 W6) := HU5.out.trans u6
                clear u6
                refine hK _ _ ?_
                clear hK K
                refine wpAny_take (i := 31) (v := ?v31) rfl (by kernel_rfl) (by kernel_rfl) (by kernel_rfl) (fun _ _ _ h => h) (Or.inl ⟨by rfl, by intro w; go_simp; try with_reducible rfl⟩) ?_
                refine wpAny_take (i := 32) (v := ?v32) rfl (by kernel_rfl) (by kernel_rfl) (by kernel_rfl) (fun _ _ _ h => h) (Or.inl ⟨by rfl, by intro w; go_simp; try with_reducible rfl⟩) ?_
                refine wpAny_done (by kernel_rfl) ?_ _
                have HF6 : Hid _ := DD.up HF.out HU6.out
                clear HF HDn HSm HP5 HU4 HU5 HU6 HU
                go_wp2_with fail
                go_roundw
                case rel => exact ⟨i + 1, D, all2, _, _, by omega, by go_num, rfl, by rw [hLEN], HF6.out⟩
                case measure => simp [intOf] <;> omega
            · have HDF : Hid _ := fun (W : World) (u : Up wr W) => dd_full (x := (IntKind.i8.wrap nn, ⟨#[112]⟩)) HJ.out u (by omega)
              go_wp2_with fail
              refine Calls.mono (HDF.out _ ((Up.refl _).alloc _)) ?_
              rintro e W2 ⟨rfl, u2⟩
              have HF : Hid _ := DD.up HJ.out (Up.trans ((Up.refl _).alloc (.cells #[.int .i8 (IntKind.i8.wrap nn), .string ⟨#[112]⟩] 53)) u2)
              clear u2 HDF HJ
              go_wp2_with fail
              have t2 : (all.length : Int) ≤ most := by omega
              have t4 : decide (most < (all.length : Int)) = false := decide_eq_false (by omega)
              have t5 : d ≤ uc := by omega
              have t6 : (d : Int) ≤ (uc : Int) := by omega
              have t7 : (d : Int) + ((all.length : Int) - (d : Int)) = (all.length : Int) := by omega
              have HDn : Hid _ := fun W u => dd_done (W' := W) HF.out u (by omega)
              have HSm : Hid _ := fun W u x => dd_same (W' := W) HF.out u (by omega) x
              refine Calls.mono (dd_len HF.out (Up.refl _) (by omega)) ?_
              rintro e W4 ⟨rfl, u4⟩
              have HU4 : Hid (Up W2 W4) := u4
              clear u4
              go_wp2_with fail
              refine TailR.wp_region_pre 25 8 rfl (fun w' => ∃ q, w' = W4.drewN q) ⟨1, rfl⟩ (by kernel_rfl) (by kernel_rfl) ?_
              simp only [List.take_succ_cons, List.take_zero]
              repeat (go_big_quiet_step (fail))
              refine wpQuiet_nil ?_
              intro _ hw'
              obtain ⟨nq, hw''⟩ := hw'
              subst hw''
              refine wpAny_take (i := 25) (v := ?v25b) rfl (by kernel_rfl) (by kernel_rfl) (by kernel_rfl) (fun _ _ _ h => h) (Or.inl ⟨by rfl, by intro w; go_simp; try with_reducible rfl⟩) ?_
              refine wpAny_take (i := 27) (v := ?v27b) rfl (by kernel_rfl) (by kernel_rfl) (by kernel_rfl) (fun _ _ _ h => h) (Or.inl ⟨by rfl, by intro w; go_simp; try with_reducible rfl⟩) ?_
              refine wpAny_take (i := 28) (v := ?v28b) rfl (by kernel_rfl) (by kernel_rfl) (by kernel_rfl) (fun _ _ _ h => h) (Or.inl ⟨by rfl, by intro w; go_simp; try with_reducible rfl⟩) ?_
              refine wpAny_take (i := 29) (v := ?v29b) rfl (by kernel_rfl) (by kernel_rfl) (by kernel_rfl) (fun _ _ _ h => h) (Or.inl ⟨by rfl, by intro w; go_simp; try with_reducible rfl⟩) ?_
              refine wpAny_ready (rs := [26]) (by kernel_rfl) (by simp) ?_
              refine AllReady.cons rfl (fun K hK => ?_) AllReady.nil
              go_simp
              refine Calls.mono (HDn.out _ (HU4.out.drewN nq)) ?_
              rintro e W5 ⟨x5, rfl, p5, u5⟩
              have HP5 : Hid _ := p5
              have HU5 : Hid (Up W2 W5) := (HU4.out.drewN nq).trans u5
              clear p5 u5
              refine hK _ _ ?_
              clear hK K
              refine wpAny_ready (rs := [30]) (by kernel_rfl) (by simp) ?_
              refine AllReady.cons rfl (fun K hK => ?_) AllReady.nil
              go_simp
              refine Calls.mono (HSm.out _ HU5.out x5 HP5.out) ?_
              rintro e W6 ⟨rfl, u6⟩
              have HU6 : Hid (Up W2 W6) := HU5.out.trans u6
              clear u6
              refine hK _ _ ?_
              clear hK K
              refine wpAny_take (i := 31) (v := ?v31b) rfl (by kernel_rfl) (by kernel_rfl) (by kernel_rfl) (fun _ _ _ h => h) (Or.inl ⟨by rfl, by intro w; go_simp; try with_reducible rfl⟩) ?_
              refine wpAny_take (i := 32) (v := ?v32b) rfl (by kernel_rfl) (by kernel_rfl) (by kernel_rfl) (fun _ _ _ h => h) (Or.inl ⟨by rfl, by intro w; go_simp; try with_reducible rfl⟩) ?_
              refine wpAny_done (by kernel_rfl) ?_ _
              have HF6 : Hid _ := DD.more (M := i + 1) (DD.up HF.out HU6.out) (by omega)
              clear HF HDn HSm HP5 HU4 HU5 HU6
              go_wp2_with fail
              go_roundw
              case rel => exact ⟨i + 1, d, all, _, _, by omega, by go_num, rfl, rfl, HF6.out⟩
              case measure => simp [intOf] <;> omega
          · by_cases h1 : kd = 1
            · subst h1
              cases d with
              | zero =>
                have HUn : Hid _ := fun (W : World) (u : Up wr W) => dd_undo0 HJ.out u
                go_wp2_with fail
                refine Calls.mono (HUn.out _ ((Up.refl _).alloc _)) ?_
                rintro e W1 ⟨rfl, u1⟩
                have HU1 : Hid (Up wr W1) := Up.trans ((Up.refl _).alloc (.cells #[.int .i8 (IntKind.i8.wrap nn), .string ⟨#[112]⟩] 53)) u1
                clear u1 HUn
                go_wp2_with fail
                go_quiet (fail)
                go_wp2_with fail
                obtain ⟨W2, hW2⟩ : ∃ W2, W2 = (W1.alloc (.cells #[.int .i8 0, .string ⟨#[]⟩] 53)).drewN nq := ⟨_, rfl⟩
                have u2 : Up wr W2 := by rw [hW2]; exact (HU1.out.alloc _).drewN _
                have HF : Hid _ := DD.up HJ.out u2
                rw [← hW2]
                clear hW2 u2 HJ HU1
                have t2 : (all.length : Int) ≤ most := by omega
                have t4 : decide (most < (all.length : Int)) = false := decide_eq_false (by omega)
                have t5 : 0 ≤ uc := by omega
                have t6 : (0 : Int) ≤ (uc : Int) := by omega
                have t7 : (0 : Int) + ((all.length : Int) - (0 : Int)) = (all.length : Int) := by omega
                have HDn : Hid _ := fun W u => dd_done (W' := W) HF.out u (by omega)
                have HSm : Hid _ := fun W u x => dd_same (W' := W) HF.out u (by omega) x
                refine Calls.mono (dd_len HF.out (Up.refl _) (by omega)) ?_
                rintro e W4 ⟨rfl, u4⟩
                have HU4 : Hid (Up W2 W4) := u4
                clear u4
                go_wp2_with fail
                refine TailR.wp_region_pre 25 8 rfl (fun w' => ∃ q, w' = W4.drewN q) ⟨1, rfl⟩ (by kernel_rfl) (by kernel_rfl) ?_
                simp only [List.take_succ_cons, List.take_zero]
                repeat (go_big_quiet_step (fail))
                refine wpQuiet_nil ?_
                intro _ hw'
                obtain ⟨nq, hw''⟩ := hw'
                subst hw''
                refine wpAny_take (i := 25) (v := ?v25d) rfl (by kernel_rfl) (by kernel_rfl) (by kernel_rfl) (fun _ _ _ h => h) (Or.inl ⟨by rfl, by intro w; go_simp; try with_reducible rfl⟩) ?_
                refine wpAny_take (i := 27) (v := ?v27d) rfl (by kernel_rfl) (by kernel_rfl) (by kernel_rfl) (fun _ _ _ h => h) (Or.inl ⟨by rfl, by intro w; go_simp; try with_reducible rfl⟩) ?_
                refine wpAny_take (i := 28) (v := ?v28d) rfl (by kernel_rfl) (by kernel_rfl) (by kernel_rfl) (fun _ _ _ h => h) (Or.inl ⟨by rfl, by intro w; go_simp; try with_reducible rfl⟩) ?_
                refine wpAny_take (i := 29) (v := ?v29d) rfl (by kernel_rfl) (by kernel_rfl) (by kernel_rfl) (fun _ _ _ h => h) (Or.inl ⟨by rfl, by intro w; go_simp; try with_reducible rfl⟩) ?_
                refine wpAny_ready (rs := [26]) (by kernel_rfl) (by simp) ?_
                refine AllReady.cons rfl (fun K hK => ?_) AllReady.nil
                go_simp
                refine Calls.mono (HDn.out _ (HU4.out.drewN nq)) ?_
                rintro e W5 ⟨x5, rfl, p5, u5⟩
                have HP5 : Hid _ := p5
                have HU5 : Hid (Up W2 W5) := (HU4.out.drewN nq).trans u5
                clear p5 u5
                refine hK _ _ ?_
                clear hK K
                refine wpAny_ready (rs := [30]) (by kernel_rfl) (by simp) ?_
                refine AllReady.cons rfl (fun K hK => ?_) AllReady.nil
                go_simp
                refine Calls.mono (HSm.out _ HU5.out x5 HP5.out) ?_
                rintro e W6 ⟨rfl, u6⟩
                have HU6 : Hid (Up W2 W6) := HU5.out.trans u6
                clear u6
                refine hK _ _ ?_
                clear hK K
                refine wpAny_take (i := 31) (v := ?v31d) rfl (by kernel_rfl) (by kernel_rfl) (by kernel_rfl) (fun _ _ _ h => h) (Or.inl ⟨by rfl, by intro w; go_simp; try with_reducible rfl⟩) ?_
                refine wpAny_take (i := 32) (v := ?v32d) rfl (by kernel_rfl) (by kernel_rfl) (by kernel_rfl) (fun _ _ _ h => h) (Or.inl ⟨by rfl, by intro w; go_simp; try with_reducible rfl⟩) ?_
                refine wpAny_done (by kernel_rfl) ?_ _
                have HF6 : Hid _ := DD.more (M := i + 1) (DD.up HF.out HU6.out) (by omega)
                clear HF HDn HSm HP5 HU4 HU5 HU6
                go_wp2_with fail
                go_roundw
                case rel => exact ⟨i + 1, 0, all, _, _, by omega, by go_num, rfl, rfl, HF6.out⟩
                case measure => simp [intOf] <;> omega
              | succ d =>
                have HUn : Hid _ := fun (W : World) (u : Up wr W) => dd_undo HJ.out u (by omega)
                obtain ⟨g, hg, hgc⟩ := HJ7.out d (by omega)
                subst hg
                have e2 : (d : Int) + 1 - 1 = (d : Int) := by omega
                have e3 : (0 : Int) < (d : Int) + 1 := by omega
                have e4 : decide ((0 : Int) < (d : Int) + 1) = true := decide_eq_true e3
                have hdl : d < all.length := by omega
                have hdl2 : (d : Int) < (all.length : Int) := by omega
                obtain ⟨y, hy⟩ : ∃ y, y = all.getD d dx := ⟨_, rfl⟩
                rw [← hy] at HUn
                have HY : Hid (y = all.getD d dx) := hy
                clear hy hgc
                go_wp2_with fail
                refine Calls.mono (HUn.out _ ((Up.refl _).alloc _)) ?_
                rintro e W1 ⟨rfl, d1⟩
                have HD1 : Hid _ := d1
                obtain ⟨g', hg', c'⟩ := (dd_cells d1).2.2 d hdl
                simp only [Option.some.injEq, Addr.mk.injEq, and_true] at hg'
                subst hg'
                rw [← HY.out] at c'
                have HC : Hid _ := c'
                clear d1 HUn c'
                have uy : Up W1 (W1.alloc (.cells #[.int .i8 y.1, .string y.2] 53)) := (Up.refl _).alloc _
                obtain ⟨q1, q2⟩ := HC.out _ uy
                have nqq := PR.pairNeq' y
                clear uy
                go_wp2_with fail
                go_quiet (fail)
                go_wp2_with fail
                obtain ⟨W2, hW2⟩ : ∃ W2, W2 = (W1.alloc (.cells #[.int .i8 y.1, .string y.2] 53)).drewN nq := ⟨_, rfl⟩
                have u2 : Up W1 W2 := by rw [hW2]; exact ((Up.refl _).alloc _).drewN _
                have HF : Hid _ := DD.up HD1.out u2
                rw [← hW2]
                clear hW2 u2 HJ HD1 HC q1 q2 nqq e2 e3 e4
                have t2 : (all.length : Int) ≤ most := by omega
                have t4 : decide (most < (all.length : Int)) = false := decide_eq_false (by omega)
                have t5 : d ≤ uc := by omega
                have t6 : (d : Int) ≤ (uc : Int) := by omega
                have t7 : (d : Int) + ((all.length : Int) - (d : Int)) = (all.length : Int) := by omega
                have HDn : Hid _ := fun W u => dd_done (W' := W) HF.out u (by omega)
                have HSm : Hid _ := fun W u x => dd_same (W' := W) HF.out u (by omega) x
                refine Calls.mono (dd_len HF.out (Up.refl _) (by omega)) ?_
                rintro e W4 ⟨rfl, u4⟩
                have HU4 : Hid (Up W2 W4) := u4
                clear u4
                go_wp2_with fail
                refine TailR.wp_region_pre 25 8 rfl (fun w' => ∃ q, w' = W4.drewN q) ⟨1, rfl⟩ (by kernel_rfl) (by kernel_rfl) ?_
                simp only [List.take_succ_cons, List.take_zero]
                repeat (go_big_quiet_step (fail))
                refine wpQuiet_nil ?_
                intro _ hw'
                obtain ⟨nq, hw''⟩ := hw'
                subst hw''
                refine wpAny_take (i := 25) (v := ?v25e) rfl (by kernel_rfl) (by kernel_rfl) (by kernel_rfl) (fun _ _ _ h => h) (Or.inl ⟨by rfl, by intro w; go_simp; try with_reducible rfl⟩) ?_
                refine wpAny_take (i := 27) (v := ?v27e) rfl (by kernel_rfl) (by kernel_rfl) (by kernel_rfl) (fun _ _ _ h => h) (Or.inl ⟨by rfl, by intro w; go_simp; try with_reducible rfl⟩) ?_
                refine wpAny_take (i := 28) (v := ?v28e) rfl (by kernel_rfl) (by kernel_rfl) (by kernel_rfl) (fun _ _ _ h => h) (Or.inl ⟨by rfl, by intro w; go_simp; try with_reducible rfl⟩) ?_
                refine wpAny_take (i := 29) (v := ?v29e) rfl (by kernel_rfl) (by kernel_rfl) (by kernel_rfl) (fun _ _ _ h => h) (Or.inl ⟨by rfl, by intro w; go_simp; try with_reducible rfl⟩) ?_
                refine wpAny_ready (rs := [26]) (by kernel_rfl) (by simp) ?_
                refine AllReady.cons rfl (fun K hK => ?_) AllReady.nil
                go_simp
                refine Calls.mono (HDn.out _ (HU4.out.drewN nq)) ?_
                rintro e W5 ⟨x5, rfl, p5, u5⟩
                have HP5 : Hid _ := p5
                have HU5 : Hid (Up W2 W5) := (HU4.out.drewN nq).trans u5
                clear p5 u5
                refine hK _ _ ?_
                clear hK K
                refine wpAny_ready (rs := [30]) (by kernel_rfl) (by simp) ?_
                refine AllReady.cons rfl (fun K hK => ?_) AllReady.nil
                go_simp
                refine Calls.mono (HSm.out _ HU5.out x5 HP5.out) ?_
                rintro e W6 ⟨rfl, u6⟩
                have HU6 : Hid (Up W2 W6) := HU5.out.trans u6
                clear u6
                refine hK _ _ ?_
                clear hK K
                refine wpAny_take (i := 31) (v := ?v31e) rfl (by kernel_rfl) (by kernel_rfl) (by kernel_rfl) (fun _ _ _ h => h) (Or.inl ⟨by rfl, by intro w; go_simp; try with_reducible rfl⟩) ?_
                refine wpAny_take (i := 32) (v := ?v32e) rfl (by kernel_rfl) (by kernel_rfl) (by kernel_rfl) (fun _ _ _ h => h) (Or.inl ⟨by rfl, by intro w; go_simp; try with_reducible rfl⟩) ?_
                refine wpAny_done (by kernel_rfl) ?_ _
                have HF6 : Hid _ := DD.more (M := i + 1) (DD.up HF.out HU6.out) (by omega)
                clear HF HDn HSm HP5 HU4 HU5 HU6
                go_wp2_with fail
                go_roundw
                case rel => exact ⟨i + 1, d, all, _, _, by omega, by go_num, rfl, rfl, HF6.out⟩
                case measure => simp [intOf] <;> omega
            · by_cases h2 : kd = 2
              · subst h2
                by_cases hdl : d < all.length
                · have HUn : Hid _ := fun (W : World) (u : Up wr W) => dd_redo HJ.out u (by omega) hdl
                  obtain ⟨g, hg, hgc⟩ := HJ7.out d hdl
                  subst hg
                  have e3 : (d : Int) < (all.length : Int) := by omega
                  have e4 : decide ((d : Int) < (all.length : Int)) = true := decide_eq_true e3
                  obtain ⟨y, hy⟩ : ∃ y, y = all.getD d dx := ⟨_, rfl⟩
                  rw [← hy] at HUn
                  have HY : Hid (y = all.getD d dx) := hy
                  clear hy hgc
                  go_wp2_with fail
                  refine Calls.mono (HUn.out _ ((Up.refl _).alloc _)) ?_
                  rintro e W1 ⟨rfl, d1⟩
                  have HD1 : Hid _ := d1
                  obtain ⟨g', hg', c'⟩ := (dd_cells d1).2.2 d hdl
                  simp only [Option.some.injEq, Addr.mk.injEq, and_true] at hg'
                  subst hg'
                  rw [← HY.out] at c'
                  have HC : Hid _ := c'
                  clear d1 HUn c'
                  have uy : Up W1 (W1.alloc (.cells #[.int .i8 y.1, .string y.2] 53)) := (Up.refl _).alloc _
                  obtain ⟨q1, q2⟩ := HC.out _ uy
                  have nqq := PR.pairNeq' y
                  clear uy
                  go_wp2_with fail
                  go_quiet (fail)
                  go_wp2_with fail
                  obtain ⟨W2, hW2⟩ : ∃ W2, W2 = (W1.alloc (.cells #[.int .i8 y.1, .string y.2] 53)).drewN nq := ⟨_, rfl⟩
                  have u2 : Up W1 W2 := by rw [hW2]; exact ((Up.refl _).alloc _).drewN _
                  obtain ⟨D, hD⟩ : ∃ D, D = d + 1 := ⟨_, rfl⟩
                  have hD2 : (d : Int) + 1 = (D : Int) := by omega
                  have hDl : D ≤ all.length := by omega
                  have HF : Hid _ := DD.up HD1.out u2
                  rw [← hD] at HF
                  rw [← hW2, hD2]
                  clear hW2 u2 HJ HD1 HC q1 q2 nqq e3 e4 hD hD2
                  have t2 : (all.length : Int) ≤ most := by omega
                  have t4 : decide (most < (all.length : Int)) = false := decide_eq_false (by omega)
                  have t5 : D ≤ uc := by omega
                  have t6 : (D : Int) ≤ (uc : Int) := by omega
                  have t7 : (D : Int) + ((all.length : Int) - (D : Int)) = (all.length : Int) := by omega
                  have HDn : Hid _ := fun W u => dd_done (W' := W) HF.out u (by omega)
                  have HSm : Hid _ := fun W u x => dd_same (W' := W) HF.out u (by omega) x
                  refine Calls.mono (dd_len HF.out (Up.refl _) (by omega)) ?_
                  rintro e W4 ⟨rfl, u4⟩
                  have HU4 : Hid (Up W2 W4) := u4
                  clear u4
                  go_wp2_with fail
                  refine TailR.wp_region_pre 25 8 rfl (fun w' => ∃ q, w' = W4.drewN q) ⟨1, rfl⟩ (by kernel_rfl) (by kernel_rfl) ?_
                  simp only [List.take_succ_cons, List.take_zero]
                  repeat (go_big_quiet_step (fail))
                  refine wpQuiet_nil ?_
                  intro _ hw'
                  obtain ⟨nq, hw''⟩ := hw'
                  subst hw''
                  refine wpAny_take (i := 25) (v := ?v25f) rfl (by kernel_rfl) (by kernel_rfl) (by kernel_rfl) (fun _ _ _ h => h) (Or.inl ⟨by rfl, by intro w; go_simp; try with_reducible rfl⟩) ?_
                  refine wpAny_take (i := 27) (v := ?v27f) rfl (by kernel_rfl) (by kernel_rfl) (by kernel_rfl) (fun _ _ _ h => h) (Or.inl ⟨by rfl, by intro w; go_simp; try with_reducible rfl⟩) ?_
                  refine wpAny_take (i := 28) (v := ?v28f) rfl (by kernel_rfl) (by kernel_rfl) (by kernel_rfl) (fun _ _ _ h => h) (Or.inl ⟨by rfl, by intro w; go_simp; try with_reducible rfl⟩) ?_
                  refine wpAny_take (i := 29) (v := ?v29f) rfl (by kernel_rfl) (by kernel_rfl) (by kernel_rfl) (fun _ _ _ h => h) (Or.inl ⟨by rfl, by intro w; go_simp; try with_reducible rfl⟩) ?_
                  refine wpAny_ready (rs := [26]) (by kernel_rfl) (by simp) ?_
                  refine AllReady.cons rfl (fun K hK => ?_) AllReady.nil
                  go_simp
                  refine Calls.mono (HDn.out _ (HU4.out.drewN nq)) ?_
                  rintro e W5 ⟨x5, rfl, p5, u5⟩
                  have HP5 : Hid _ := p5
                  have HU5 : Hid (Up W2 W5) := (HU4.out.drewN nq).trans u5
                  clear p5 u5
                  refine hK _ _ ?_
                  clear hK K
                  refine wpAny_ready (rs := [30]) (by kernel_rfl) (by simp) ?_
                  refine AllReady.cons rfl (fun K hK => ?_) AllReady.nil
                  go_simp
                  refine Calls.mono (HSm.out _ HU5.out x5 HP5.out) ?_
                  rintro e W6 ⟨rfl, u6⟩
                  have HU6 : Hid (Up W2 W6) := HU5.out.trans u6
                  clear u6
                  refine hK _ _ ?_
                  clear hK K
                  refine wpAny_take (i := 31) (v := ?v31f) rfl (by kernel_rfl) (by kernel_rfl) (by kernel_rfl) (fun _ _ _ h => h) (Or.inl ⟨by rfl, by intro w; go_simp; try with_reducible rfl⟩) ?_
                  refine wpAny_take (i := 32) (v := ?v32f) rfl (by kernel_rfl) (by kernel_rfl) (by kernel_rfl) (fun _ _ _ h => h) (Or.inl ⟨by rfl, by intro w; go_simp; try with_reducible rfl⟩) ?_
                  refine wpAny_done (by kernel_rfl) ?_ _
                  have HF6 : Hid _ := DD.more (M := i + 1) (DD.up HF.out HU6.out) (by omega)
                  clear HF HDn HSm HP5 HU4 HU5 HU6
                  go_wp2_with fail
                  go_roundw
                  case rel => exact ⟨i + 1, D, all, _, _, by omega, by go_num, rfl, rfl, HF6.out⟩
                  case measure => simp [intOf] <;> omega
                · have HUn : Hid _ := fun (W : World) (u : Up wr W) => dd_redo0 HJ.out u (by omega)
                  have e3 : ¬ (d : Int) < (all.length : Int) := by omega
                  have e4 : decide ((d : Int) < (all.length : Int)) = false := decide_eq_false e3
                  go_wp2_with fail
                  refine Calls.mono (HUn.out _ ((Up.refl _).alloc _)) ?_
                  rintro e W1 ⟨rfl, u1⟩
                  have HU1 : Hid (Up wr W1) := Up.trans ((Up.refl _).alloc (.cells #[.int .i8 (IntKind.i8.wrap nn), .string ⟨#[112]⟩] 53)) u1
                  clear u1 HUn
                  go_wp2_with fail
                  go_quiet (fail)
                  go_wp2_with fail
                  obtain ⟨W2, hW2⟩ : ∃ W2, W2 = (W1.alloc (.cells #[.int .i8 0, .string ⟨#[]⟩] 53)).drewN nq := ⟨_, rfl⟩
                  have u2 : Up wr W2 := by rw [hW2]; exact (HU1.out.alloc _).drewN _
                  have HF : Hid _ := DD.up HJ.out u2
                  rw [← hW2]
                  clear hW2 u2 HJ HU1 e3 e4
                  have t2 : (all.length : Int) ≤ most := by omega
                  have t4 : decide (most < (all.length : Int)) = false := decide_eq_false (by omega)
                  have t5 : d ≤ uc := by omega
                  have t6 : (d : Int) ≤ (uc : Int) := by omega
                  have t7 : (d : Int) + ((all.length : Int) - (d : Int)) = (all.length : Int) := by omega
                  have HDn : Hid _ := fun W u => dd_done (W' := W) HF.out u (by omega)
                  have HSm : Hid _ := fun W u x => dd_same (W' := W) HF.out u (by omega) x
                  refine Calls.mono (dd_len HF.out (Up.refl _) (by omega)) ?_
                  rintro e W4 ⟨rfl, u4⟩
                  have HU4 : Hid (Up W2 W4) := u4
                  clear u4
                  go_wp2_with fail
                  refine TailR.wp_region_pre 25 8 rfl (fun w' => ∃ q, w' = W4.drewN q) ⟨1, rfl⟩ (by kernel_rfl) (by kernel_rfl) ?_
                  simp only [List.take_succ_cons, List.take_zero]
                  repeat (go_big_quiet_step (fail))
                  refine wpQuiet_nil ?_
                  intro _ hw'
                  obtain ⟨nq, hw''⟩ := hw'
                  subst hw''
                  refine wpAny_take (i := 25) (v := ?v25g) rfl (by kernel_rfl) (by kernel_rfl) (by kernel_rfl) (fun _ _ _ h => h) (Or.inl ⟨by rfl, by intro w; go_simp; try with_reducible rfl⟩) ?_
                  refine wpAny_take (i := 27) (v := ?v27g) rfl (by kernel_rfl) (by kernel_rfl) (by kernel_rfl) (fun _ _ _ h => h) (Or.inl ⟨by rfl, by intro w; go_simp; try with_reducible rfl⟩) ?_
                  refine wpAny_take (i := 28) (v := ?v28g) rfl (by kernel_rfl) (by kernel_rfl) (by kernel_rfl) (fun _ _ _ h => h) (Or.inl ⟨by rfl, by intro w; go_simp; try with_reducible rfl⟩) ?_
                  refine wpAny_take (i := 29) (v := ?v29g) rfl (by kernel_rfl) (by kernel_rfl) (by kernel_rfl) (fun _ _ _ h => h) (Or.inl ⟨by rfl, by intro w; go_simp; try with_reducible rfl⟩) ?_
                  refine wpAny_ready (rs := [26]) (by kernel_rfl) (by simp) ?_
                  refine AllReady.cons rfl (fun K hK => ?_) AllReady.nil
                  go_simp
                  refine Calls.mono (HDn.out _ (HU4.out.drewN nq)) ?_
                  rintro e W5 ⟨x5, rfl, p5, u5⟩
                  have HP5 : Hid _ := p5
                  have HU5 : Hid (Up W2 W5) := (HU4.out.drewN nq).trans u5
                  clear p5 u5
                  refine hK _ _ ?_
                  clear hK K
                  refine wpAny_ready (rs := [30]) (by kernel_rfl) (by simp) ?_
                  refine AllReady.cons rfl (fun K hK => ?_) AllReady.nil
                  go_simp
                  refine Calls.mono (HSm.out _ HU5.out x5 HP5.out) ?_
                  rintro e W6 ⟨rfl, u6⟩
                  have HU6 : Hid (Up W2 W6) := HU5.out.trans u6
                  clear u6
                  refine hK _ _ ?_
                  clear hK K
                  refine wpAny_take (i := 31) (v := ?v31g) rfl (by kernel_rfl) (by kernel_rfl) (by kernel_rfl) (fun _ _ _ h => h) (Or.inl ⟨by rfl, by intro w; go_simp; try with_reducible rfl⟩) ?_
                  refine wpAny_take (i := 32) (v := ?v32g) rfl (by kernel_rfl) (by kernel_rfl) (by kernel_rfl) (fun _ _ _ h => h) (Or.inl ⟨by rfl, by intro w; go_simp; try with_reducible rfl⟩) ?_
                  refine wpAny_done (by kernel_rfl) ?_ _
                  have HF6 : Hid _ := DD.more (M := i + 1) (DD.up HF.out HU6.out) (by omega)
                  clear HF HDn HSm HP5 HU4 HU5 HU6
                  go_wp2_with fail
                  go_roundw
                  case rel => exact ⟨i + 1, d, all, _, _, by omega, by go_num, rfl, rfl, HF6.out⟩
                  case measure => simp [intOf] <;> omega
              · have f0 : (kd == 0) = false := beq_eq_false_iff_ne.2 h0
                have f1 : (kd == 1) = false := beq_eq_false_iff_ne.2 h1
                have f2 : (kd == 2) = false := beq_eq_false_iff_ne.2 h2
                go_wp2_with fail
                obtain ⟨W2, hW2⟩ : ∃ W2, W2 = wr.alloc (.cells #[.int .i8 (IntKind.i8.wrap nn), .string ⟨#[112]⟩] 53) := ⟨_, rfl⟩
                have u2 : Up wr W2 := by rw [hW2]; exact (Up.refl _).alloc _
                have HF : Hid _ := DD.up HJ.out u2
                rw [← hW2]
                clear hW2 u2 HJ
                have t2 : (all.length : Int) ≤ most := by omega
                have t4 : decide (most < (all.length : Int)) = false := decide_eq_false (by omega)
                have t5 : d ≤ uc := by omega
                have t6 : (d : Int) ≤ (uc : Int) := by omega
                have t7 : (d : Int) + ((all.length : Int) - (d : Int)) = (all.length : Int) := by omega
                have HDn : Hid _ := fun W u => dd_done (W' := W) HF.out u (by omega)
                have HSm : Hid _ := fun W u x => dd_same (W' := W) HF.out u (by omega) x
                refine Calls.mono (dd_len HF.out (Up.refl _) (by omega)) ?_
                rintro e W4 ⟨rfl, u4⟩
                have HU4 : Hid (Up W2 W4) := u4
                clear u4
                go_wp2_with fail
                refine TailR.wp_region_pre 25 8 rfl (fun w' => ∃ q, w' = W4.drewN q) ⟨1, rfl⟩ (by kernel_rfl) (by kernel_rfl) ?_
                simp only [List.take_succ_cons, List.take_zero]
                repeat (go_big_quiet_step (fail))
                refine wpQuiet_nil ?_
                intro _ hw'
                obtain ⟨nq, hw''⟩ := hw'
                subst hw''
                refine wpAny_take (i := 25) (v := ?v25c) rfl (by kernel_rfl) (by kernel_rfl) (by kernel_rfl) (fun _ _ _ h => h) (Or.inl ⟨by rfl, by intro w; go_simp; try with_reducible rfl⟩) ?_
                refine wpAny_take (i := 27) (v := ?v27c) rfl (by kernel_rfl) (by kernel_rfl) (by kernel_rfl) (fun _ _ _ h => h) (Or.inl ⟨by rfl, by intro w; go_simp; try with_reducible rfl⟩) ?_
                refine wpAny_take (i := 28) (v := ?v28c) rfl (by kernel_rfl) (by kernel_rfl) (by kernel_rfl) (fun _ _ _ h => h) (Or.inl ⟨by rfl, by intro w; go_simp; try with_reducible rfl⟩) ?_
                refine wpAny_take (i := 29) (v := ?v29c) rfl (by kernel_rfl) (by kernel_rfl) (by kernel_rfl) (fun _ _ _ h => h) (Or.inl ⟨by rfl, by intro w; go_simp; try with_reducible rfl⟩) ?_
                refine wpAny_ready (rs := [26]) (by kernel_rfl) (by simp) ?_
                refine AllReady.cons rfl (fun K hK => ?_) AllReady.nil
                go_simp
                refine Calls.mono (HDn.out _ (HU4.out.drewN nq)) ?_
                rintro e W5 ⟨x5, rfl, p5, u5⟩
                have HP5 : Hid _ := p5
                have HU5 : Hid (Up W2 W5) := (HU4.out.drewN nq).trans u5
                clear p5 u5
                refine hK _ _ ?_
                clear hK K
                refine wpAny_ready (rs := [30]) (by kernel_rfl) (by simp) ?_
                refine AllReady.cons rfl (fun K hK => ?_) AllReady.nil
                go_simp
                refine Calls.mono (HSm.out _ HU5.out x5 HP5.out) ?_
                rintro e W6 ⟨rfl, u6⟩
                have HU6 : Hid (Up W2 W6) := HU5.out.trans u6
                clear u6
                refine hK _ _ ?_
                clear hK K
                refine wpAny_take (i := 31) (v := ?v31c) rfl (by kernel_rfl) (by kernel_rfl) (by kernel_rfl) (fun _ _ _ h => h) (Or.inl ⟨by rfl, by intro w; go_simp; try with_reducible rfl⟩) ?_
                refine wpAny_take (i := 32) (v := ?v32c) rfl (by kernel_rfl) (by kernel_rfl) (by kernel_rfl) (fun _ _ _ h => h) (Or.inl ⟨by rfl, by intro w; go_simp; try with_reducible rfl⟩) ?_
                refine wpAny_done (by kernel_rfl) ?_ _
                have HF6 : Hid _ := DD.more (M := i + 1) (DD.up HF.out HU6.out) (by omega)
                clear HF HDn HSm HP5 HU4 HU5 HU6
                go_wp2_with fail
                go_roundw
                case rel => exact ⟨i + 1, d, all, _, _, by omega, by go_num, rfl, rfl, HF6.out⟩
                case measure => simp [intOf] <;> omega
        · have hlt2 : ¬ (i : Int) < (n : Int) := by omega
          have HF : Hid (Up w wr) := by
            obtain ⟨_, -, -, -, -, u, -⟩ := hj
            exact u
          clear hj
          go_wp2
          rw [HPost.out]
          exact ⟨rfl, HF.out⟩
end RD
end Go.Proofs.Ytgonflnmkfgfhaa
