/-
  The document's reader: head.
-/
import Derived.Test.YtmpamcdobhiipaaGreatDoorRrd7Q
namespace Go.Proofs.YtmpamcdobhiipaaGreatDoor
open Go.RowKit
attribute [local go_sem ↓] Go.wp_at_zero Go.wp_at_succ

namespace IM
open Go.Proofs.YtmpamcdobhiipaaGreatDoor.ST
/- the first five bytes -/
def HdI (w0 : World) (rb : Nat) (vb : Value) (B : List Int) (i : Nat) (W : World) : Prop := ∃ p bad, RX w0 rb vb B p bad W ∧ (if bad = true then rdS B = .error (B.length - p) else p = i ∧ rdS B = bnd (mI i) (fun _ => k2) (B.drop i))
set_option maxRecDepth 100000 in
set_option maxHeartbeats 8000000 in
theorem rheadR_ (w0 : World) (rb : Nat) (vb : Value) (B : List Int) (w : World) (h : RX w0 rb vb B 0 false w) :
    Calls Tryz.prog 51 #[.pointer (some ⟨rb, 0, none⟩)] w fun x w' => x = .returned (.tuple #[]) ∧ HdI w0 rb vb B 5 w' ∧ Kb (fun x => x = rb) w w' := by
  obtain ⟨Post, hPost⟩ : ∃ P : Ending → World → Prop, P = fun x w' => x = .returned (.tuple #[]) ∧ HdI w0 rb vb B 5 w' ∧ Kb (fun x => x = rb) w w' := ⟨_, rfl⟩
  rw [← hPost]
  have HPo : Hid (Post = fun x w' => x = .returned (.tuple #[]) ∧ HdI w0 rb vb B 5 w' ∧ Kb (fun x => x = rb) w w') := hPost
  clear hPost
  have HR : Hid (RX w0 rb vb B 0 false w) := h
  obtain ⟨a, cap, hvb, -⟩ := byte_at (h.bl.up h.up)
  obtain ⟨L, hL⟩ : ∃ L, L = B.length := ⟨_, rfl⟩
  have HL : Hid (L = B.length) := hL
  have hLl : L ≤ 4611686018427387904 := by rw [hL]; exact h.len
  rw [← hL] at hvb
  subst hvb
  have HC : Hid (∀ W p, RX w0 rb (.slice a L cap) B p false W → ∀ i, i < L → ∃ b off, a = some ⟨b, off, none⟩ ∧ W.cell? ⟨b, off + i, none⟩ = some (.int .u8 (B.getD i 0))) := fun W p hW i hi => by
    obtain ⟨a', cap', hv, hc'⟩ := byte_at (hW.bl.up hW.up)
    cases hv
    exact hc' i (by rw [← HL.out]; exact hi)
  clear h hL
  go_enter Tryz.func51, Tryz.ntmps51
  go_wp2_with fail
  refine Calls.mono (rhead_ w) ?_
  rintro r W1 ⟨rfl, hW1⟩
  have g1 : W1.heap[w.heap.size]? = some (.cells #[.int .u8 84, .int .u8 66, .int .u8 76, .int .u8 83, .int .u8 1] 5 (0, 0)) := by rw [hW1]; exact heap_alloc_new _ _
  have u1 : Up w W1 := by rw [hW1]; exact (Up.refl _).alloc _
  obtain ⟨hb, hhb⟩ : ∃ hb, hb = w.heap.size := ⟨_, rfl⟩
  rw [← hhb] at g1 ⊢
  have hbr : hb ≠ rb := by
    have := (Array.getElem?_eq_some_iff.1 HR.out.hp).1
    omega
  have H0 : Hid (HdI w0 rb (.slice a L cap) B 0 W1 ∧ Kb (fun x => x = rb) w W1 ∧ W1.heap[hb]? = some (.cells #[.int .u8 84, .int .u8 66, .int .u8 76, .int .u8 83, .int .u8 1] 5 (0, 0))) := ⟨⟨0, false, HR.out.kb u1, by rw [if_neg (by decide)]; exact ⟨rfl, rdS_k B⟩⟩, Kb.of_up u1, g1⟩
  clear g1 u1 hW1 hhb
  go_wp2_with fail
  go_loopw [3] (fun s3 W => ∃ i : Nat, i ≤ 5 ∧ s3 = .int .i64 i ∧ HdI w0 rb (.slice a L cap) B i W ∧ Kb (fun x => x = rb) w W ∧ W.heap[hb]? = some (.cells #[.int .u8 84, .int .u8 66, .int .u8 76, .int .u8 83, .int .u8 1] 5 (0, 0))) (fun s3 _ => 5 - (intOf s3).toNat)
  case atStart => exact ⟨0, by decide, rfl, H0.out⟩
  case round =>
    obtain ⟨i, hi, rfl, ⟨p, bad, hrx, hpb⟩, hkb, hhb⟩ := hrel
    clear H0
    by_cases hlt : i < 5
    · have hlt2 : (i : Int) < 5 := by omega
      have e7 : IntKind.i64.wrap ((i : Int) + 1) = ((i + 1 : Nat) : Int) := by rw [IntKind.wrap_i64]; omega
      have hm : wr.cell? ⟨hb, i, none⟩ = some (.int .u8 (mk.getD i 0)) := by
        simp only [World.cell?, hhb]
        obtain rfl | rfl | rfl | rfl | rfl : i = 0 ∨ i = 1 ∨ i = 2 ∨ i = 3 ∨ i = 4 := by omega
        all_goals rfl
      obtain ⟨x0, x1, x2, fz⟩ := hrx.cells
      have hf1 := fz 1
      have hf2 := fz 2
      have HX : Hid (RX w0 rb (.slice a L cap) B p bad wr ∧ Kb (fun x => x = rb) w wr ∧ wr.heap[hb]? = some (.cells #[.int .u8 84, .int .u8 66, .int .u8 76, .int .u8 83, .int .u8 1] 5 (0, 0))) := ⟨hrx, hkb, hhb⟩
      have HS1 : Hid (∀ k j v, ((wr.drewN k).setCell ⟨rb, j, none⟩ v).heap[hb]? = some (.cells #[.int .u8 84, .int .u8 66, .int .u8 76, .int .u8 83, .int .u8 1] 5 (0, 0))) := fun k j v => set_other (W := wr.drewN k) hhb hbr
      clear fz hrx hkb hhb
      cases bad with
      | true =>
        have HPB : Hid (rdS B = .error (B.length - p)) := by rw [if_pos rfl] at hpb; exact hpb
        clear hpb
        go_wp2_with fail
        refine TailR.wp_region_seq 33 (by kernel_rfl) (by kernel_rfl) ?_
        simp only [List.take_succ_cons, List.take_zero, List.drop_succ_cons, List.drop_zero]
        repeat (go_big_quiet_step (fail))
        refine wpQuiet_nil ?_
        intro _ hw'
        obtain ⟨nq, hw''⟩ := hw'
        subst hw''
        go_wp2_with fail
        go_roundw
        case rel => exact ⟨i + 1, hlt, by go_num, ⟨p, true, HX.out.1.kb ((Up.refl _).drewN nq), by rw [if_pos rfl]; exact HPB.out⟩, HX.out.2.1.trans (Kb.drewN nq), HX.out.2.2⟩
        case measure => simp [intOf]; omega
      | false =>
        rw [if_neg (by decide)] at hpb
        obtain ⟨hpi, hrd⟩ := hpb
        subst hpi
        have HRD : Hid (rdS B = bnd (mI p) (fun _ => k2) (B.drop p)) := hrd
        clear hrd
        have hpl : p ≤ B.length := HX.out.1.at_le
        by_cases hk : mok B p = true
        · have HN : Hid (rdS B = bnd (mI (p + 1)) (fun _ => k2) (B.drop (p + 1))) := by unfold Hid; rw [HRD.out, mI_ok B _ p hlt hpl hk]
          unfold mok at hk
          simp only [Bool.and_eq_true, decide_eq_true_eq] at hk
          rw [← HL.out] at hk hpl
          obtain ⟨hk1, hk2⟩ := hk
          obtain ⟨b, off, rfl, hcell⟩ := HC.out wr p HX.out.1 p hk1
          rw [hk2] at hcell
          have e1 : ¬ (L : Int) ≤ (p : Int) := by omega
          have e1n : ¬ L ≤ p := by omega
          have e2 : (mk.getD p 0 != mk.getD p 0) = false := by simp
          have e3 : (p : Int) < (L : Int) := by omega
          have e4 : ((p : Int) == (L : Int)) = false := by simp; omega
          generalize mk.getD p 0 = mm at *
          clear hk2
          go_wp2_with fail
          refine TailR.wp_region_seq 33 (by kernel_rfl) (by kernel_rfl) ?_
          simp only [List.take_succ_cons, List.take_zero, List.drop_succ_cons, List.drop_zero]
          repeat (go_big_quiet_step (fail))
          refine wpQuiet_nil ?_
          intro _ hw'
          obtain ⟨nq, hw''⟩ := hw'
          subst hw''
          go_wp2_with fail
          go_roundw
          case rel => exact ⟨p + 1, hlt, by go_num, ⟨p + 1, false, HX.out.1.go nq (p + 1) (by rw [← HL.out]; omega), by rw [if_neg (by decide)]; exact ⟨rfl, HN.out⟩⟩, HX.out.2.1.trans kb_setr, HS1.out nq 1 _⟩
          case measure => simp [intOf]; omega
        · have HN : Hid (rdS B = .error (B.length - p)) := by unfold Hid; rw [HRD.out, mI_no B _ p hlt hpl hk]
          by_cases hp : p < L
          · obtain ⟨b, off, rfl, hcell⟩ := HC.out wr p HX.out.1 p hp
            have e2 : (B.getD p 0 != mk.getD p 0) = true := by
              unfold mok at hk
              rw [decide_eq_true (show p < B.length by rw [← HL.out]; exact hp)] at hk
              simpa using hk
            have e1 : ¬ (L : Int) ≤ (p : Int) := by omega
            have e1n : ¬ L ≤ p := by omega
            have e3 : (p : Int) < (L : Int) := by omega
            generalize mk.getD p 0 = mm at *
            generalize B.getD p 0 = cc at *
            clear hk hpl
            go_wp2_with fail
            refine TailR.wp_region_seq 33 (by kernel_rfl) (by kernel_rfl) ?_
            simp only [List.take_succ_cons, List.take_zero, List.drop_succ_cons, List.drop_zero]
            repeat (go_big_quiet_step (fail))
            refine wpQuiet_nil ?_
            intro _ hw'
            obtain ⟨nq, hw''⟩ := hw'
            subst hw''
            go_wp2_with fail
            go_roundw
            case rel => exact ⟨p + 1, hlt, by go_num, ⟨p, true, HX.out.1.bad nq, by rw [if_pos rfl]; exact HN.out⟩, HX.out.2.1.trans kb_setr, HS1.out nq 2 _⟩
            case measure => simp [intOf]; omega
          · have e1 : (L : Int) ≤ (p : Int) := by omega
            clear hk hpl
            go_wp2_with fail
            refine TailR.wp_region_seq 33 (by kernel_rfl) (by kernel_rfl) ?_
            simp only [List.take_succ_cons, List.take_zero, List.drop_succ_cons, List.drop_zero]
            repeat (go_big_quiet_step (fail))
            refine wpQuiet_nil ?_
            intro _ hw'
            obtain ⟨nq, hw''⟩ := hw'
            subst hw''
            go_wp2_with fail
            go_roundw
            case rel => exact ⟨p + 1, hlt, by go_num, ⟨p, true, HX.out.1.bad nq, by rw [if_pos rfl]; exact HN.out⟩, HX.out.2.1.trans kb_setr, HS1.out nq 2 _⟩
            case measure => simp [intOf]; omega
    · obtain rfl : i = 5 := by omega
      have HZ : Hid (HdI w0 rb (.slice a L cap) B 5 wr ∧ Kb (fun x => x = rb) w wr) := ⟨⟨p, bad, hrx, hpb⟩, hkb⟩
      clear hrx hpb hkb hhb
      go_wp2_with fail
      refine bodyPost_end (v := .tuple #[]) (by simp [results, go_sem]) rfl ?_
      rw [HPo.out]
      exact ⟨rfl, HZ.out⟩
end IM
end Go.Proofs.YtmpamcdobhiipaaGreatDoor
