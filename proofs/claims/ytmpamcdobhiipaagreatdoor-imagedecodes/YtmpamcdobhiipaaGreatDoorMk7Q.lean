/-
  Decode: the bytes of the mark.
-/
import Derived.Test.YtmpamcdobhiipaaGreatDoorEc7ToFl7
namespace Go.Proofs.YtmpamcdobhiipaaGreatDoor
open Go.RowKit
attribute [local go_sem ↓] Go.wp_at_zero Go.wp_at_succ

namespace IM
open Go.Proofs.YtmpamcdobhiipaaGreatDoor.ST
set_option maxRecDepth 100000 in
set_option maxHeartbeats 1000000 in
theorem mark_end (rb : Nat) (a : Option Addr) (n cap : Nat) (w : World) (c0 : w.cell? ⟨rb, 0, none⟩ = some (.slice a n cap)) (c1 : w.cell? ⟨rb, 1, none⟩ = some (.int .i64 n)) :
    Calls Tryz.prog 63 #[.pointer (some ⟨rb, 0, none⟩)] w fun x w' => x = .returned (.bool false) ∧ ∃ k, w' = w.drewN k := by
  have e1 : ((n : Int) == (n : Int)) = true := by simp
  go_enter Tryz.func63, Tryz.ntmps63
  go_wp2_with fail
  refine TailR.wp_region_seq 27 (by kernel_rfl) (by kernel_rfl) ?_
  simp only [List.take_succ_cons, List.take_zero, List.drop_succ_cons, List.drop_zero]
  repeat (go_big_quiet_step (fail))
  refine wpQuiet_nil ?_
  intro _ hw'
  obtain ⟨nq, hw''⟩ := hw'
  subst hw''
  go_wp2
  go_ret
  exact ⟨rfl, _, rfl⟩
set_option maxRecDepth 100000 in
set_option maxHeartbeats 1000000 in
theorem mark0_bad (rb b off n cap : Nat) (c : Int) (w : World) (c0 : w.cell? ⟨rb, 0, none⟩ = some (.slice (some ⟨b, off, none⟩) n cap)) (c1 : w.cell? ⟨rb, 1, none⟩ = some (.int .i64 0)) (hat : 0 < n) (hB : w.cell? ⟨b, off, none⟩ = some (.int .u8 c)) (hc : c ≠ 84) :
    Calls Tryz.prog 63 #[.pointer (some ⟨rb, 0, none⟩)] w fun x w' => x = .returned (.bool false) ∧ ∃ k, w' = w.drewN k := by
  have e1 : ((0 : Int) == (n : Int)) = false := by simp; omega
  have e2 : (0 : Int) < (n : Int) := by omega
  have e5 : (((({ data := #[84, 66, 76, 83, 1] } : ByteArray)[0]'(by decide)).toNat : Nat) : Int) = 84 := by rfl
  have e4 : (c != 84) = true := by simpa using hc
  go_enter Tryz.func63, Tryz.ntmps63
  go_wp2_with fail
  refine TailR.wp_region_seq 27 (by kernel_rfl) (by kernel_rfl) ?_
  simp only [List.take_succ_cons, List.take_zero, List.drop_succ_cons, List.drop_zero]
  repeat (go_big_quiet_step (fail))
  refine wpQuiet_nil ?_
  intro _ hw'
  obtain ⟨nq, hw''⟩ := hw'
  subst hw''
  go_wp2
  go_ret
  exact ⟨rfl, _, rfl⟩
set_option maxRecDepth 100000 in
set_option maxHeartbeats 1000000 in
theorem mark0_good (rb b off n cap : Nat) (c : Int) (w : World) (c0 : w.cell? ⟨rb, 0, none⟩ = some (.slice (some ⟨b, off, none⟩) n cap)) (c1 : w.cell? ⟨rb, 1, none⟩ = some (.int .i64 0)) (hf : w.frozen? ⟨rb, 1, none⟩ = false) (hat : 0 < n) (hB : w.cell? ⟨b, off, none⟩ = some (.int .u8 c)) (hc : c = 84) :
    Calls Tryz.prog 63 #[.pointer (some ⟨rb, 0, none⟩)] w fun x w' => x = .returned (.bool true) ∧ ∃ k, w' = (w.drewN k).setCell ⟨rb, 1, none⟩ (.int .i64 1) := by
  have e1 : ((0 : Int) == (n : Int)) = false := by simp; omega
  have e2 : (0 : Int) < (n : Int) := by omega
  have e5 : (((({ data := #[84, 66, 76, 83, 1] } : ByteArray)[0]'(by decide)).toNat : Nat) : Int) = 84 := by rfl
  subst hc
  go_enter Tryz.func63, Tryz.ntmps63
  go_wp2_with fail
  refine TailR.wp_region_seq 27 (by kernel_rfl) (by kernel_rfl) ?_
  simp only [List.take_succ_cons, List.take_zero, List.drop_succ_cons, List.drop_zero]
  repeat (go_big_quiet_step (fail))
  refine wpQuiet_nil ?_
  intro _ hw'
  obtain ⟨nq, hw''⟩ := hw'
  subst hw''
  go_wp2
  go_ret
  exact ⟨rfl, _, rfl⟩
set_option maxRecDepth 100000 in
set_option maxHeartbeats 1000000 in
theorem mark1_bad (rb b off n cap : Nat) (c : Int) (w : World) (c0 : w.cell? ⟨rb, 0, none⟩ = some (.slice (some ⟨b, off, none⟩) n cap)) (c1 : w.cell? ⟨rb, 1, none⟩ = some (.int .i64 1)) (hat : 1 < n) (hB : w.cell? ⟨b, off + 1, none⟩ = some (.int .u8 c)) (hc : c ≠ 66) :
    Calls Tryz.prog 63 #[.pointer (some ⟨rb, 0, none⟩)] w fun x w' => x = .returned (.bool false) ∧ ∃ k, w' = w.drewN k := by
  have e1 : ((1 : Int) == (n : Int)) = false := by simp; omega
  have e2 : (1 : Int) < (n : Int) := by omega
  have e5 : (((({ data := #[84, 66, 76, 83, 1] } : ByteArray)[1]'(by decide)).toNat : Nat) : Int) = 66 := by rfl
  have e4 : (c != 66) = true := by simpa using hc
  go_enter Tryz.func63, Tryz.ntmps63
  go_wp2_with fail
  refine TailR.wp_region_seq 27 (by kernel_rfl) (by kernel_rfl) ?_
  simp only [List.take_succ_cons, List.take_zero, List.drop_succ_cons, List.drop_zero]
  repeat (go_big_quiet_step (fail))
  refine wpQuiet_nil ?_
  intro _ hw'
  obtain ⟨nq, hw''⟩ := hw'
  subst hw''
  go_wp2
  go_ret
  exact ⟨rfl, _, rfl⟩
set_option maxRecDepth 100000 in
set_option maxHeartbeats 1000000 in
theorem mark1_good (rb b off n cap : Nat) (c : Int) (w : World) (c0 : w.cell? ⟨rb, 0, none⟩ = some (.slice (some ⟨b, off, none⟩) n cap)) (c1 : w.cell? ⟨rb, 1, none⟩ = some (.int .i64 1)) (hf : w.frozen? ⟨rb, 1, none⟩ = false) (hat : 1 < n) (hB : w.cell? ⟨b, off + 1, none⟩ = some (.int .u8 c)) (hc : c = 66) :
    Calls Tryz.prog 63 #[.pointer (some ⟨rb, 0, none⟩)] w fun x w' => x = .returned (.bool true) ∧ ∃ k, w' = (w.drewN k).setCell ⟨rb, 1, none⟩ (.int .i64 2) := by
  have e1 : ((1 : Int) == (n : Int)) = false := by simp; omega
  have e2 : (1 : Int) < (n : Int) := by omega
  have e5 : (((({ data := #[84, 66, 76, 83, 1] } : ByteArray)[1]'(by decide)).toNat : Nat) : Int) = 66 := by rfl
  subst hc
  go_enter Tryz.func63, Tryz.ntmps63
  go_wp2_with fail
  refine TailR.wp_region_seq 27 (by kernel_rfl) (by kernel_rfl) ?_
  simp only [List.take_succ_cons, List.take_zero, List.drop_succ_cons, List.drop_zero]
  repeat (go_big_quiet_step (fail))
  refine wpQuiet_nil ?_
  intro _ hw'
  obtain ⟨nq, hw''⟩ := hw'
  subst hw''
  go_wp2
  go_ret
  exact ⟨rfl, _, rfl⟩
set_option maxRecDepth 100000 in
set_option maxHeartbeats 1000000 in
theorem mark2_bad (rb b off n cap : Nat) (c : Int) (w : World) (c0 : w.cell? ⟨rb, 0, none⟩ = some (.slice (some ⟨b, off, none⟩) n cap)) (c1 : w.cell? ⟨rb, 1, none⟩ = some (.int .i64 2)) (hat : 2 < n) (hB : w.cell? ⟨b, off + 2, none⟩ = some (.int .u8 c)) (hc : c ≠ 76) :
    Calls Tryz.prog 63 #[.pointer (some ⟨rb, 0, none⟩)] w fun x w' => x = .returned (.bool false) ∧ ∃ k, w' = w.drewN k := by
  have e1 : ((2 : Int) == (n : Int)) = false := by simp; omega
  have e2 : (2 : Int) < (n : Int) := by omega
  have e5 : (((({ data := #[84, 66, 76, 83, 1] } : ByteArray)[2]'(by decide)).toNat : Nat) : Int) = 76 := by rfl
  have e4 : (c != 76) = true := by simpa using hc
  go_enter Tryz.func63, Tryz.ntmps63
  go_wp2_with fail
  refine TailR.wp_region_seq 27 (by kernel_rfl) (by kernel_rfl) ?_
  simp only [List.take_succ_cons, List.take_zero, List.drop_succ_cons, List.drop_zero]
  repeat (go_big_quiet_step (fail))
  refine wpQuiet_nil ?_
  intro _ hw'
  obtain ⟨nq, hw''⟩ := hw'
  subst hw''
  go_wp2
  go_ret
  exact ⟨rfl, _, rfl⟩
set_option maxRecDepth 100000 in
set_option maxHeartbeats 1000000 in
theorem mark2_good (rb b off n cap : Nat) (c : Int) (w : World) (c0 : w.cell? ⟨rb, 0, none⟩ = some (.slice (some ⟨b, off, none⟩) n cap)) (c1 : w.cell? ⟨rb, 1, none⟩ = some (.int .i64 2)) (hf : w.frozen? ⟨rb, 1, none⟩ = false) (hat : 2 < n) (hB : w.cell? ⟨b, off + 2, none⟩ = some (.int .u8 c)) (hc : c = 76) :
    Calls Tryz.prog 63 #[.pointer (some ⟨rb, 0, none⟩)] w fun x w' => x = .returned (.bool true) ∧ ∃ k, w' = (w.drewN k).setCell ⟨rb, 1, none⟩ (.int .i64 3) := by
  have e1 : ((2 : Int) == (n : Int)) = false := by simp; omega
  have e2 : (2 : Int) < (n : Int) := by omega
  have e5 : (((({ data := #[84, 66, 76, 83, 1] } : ByteArray)[2]'(by decide)).toNat : Nat) : Int) = 76 := by rfl
  subst hc
  go_enter Tryz.func63, Tryz.ntmps63
  go_wp2_with fail
  refine TailR.wp_region_seq 27 (by kernel_rfl) (by kernel_rfl) ?_
  simp only [List.take_succ_cons, List.take_zero, List.drop_succ_cons, List.drop_zero]
  repeat (go_big_quiet_step (fail))
  refine wpQuiet_nil ?_
  intro _ hw'
  obtain ⟨nq, hw''⟩ := hw'
  subst hw''
  go_wp2
  go_ret
  exact ⟨rfl, _, rfl⟩
set_option maxRecDepth 100000 in
set_option maxHeartbeats 1000000 in
theorem mark3_bad (rb b off n cap : Nat) (c : Int) (w : World) (c0 : w.cell? ⟨rb, 0, none⟩ = some (.slice (some ⟨b, off, none⟩) n cap)) (c1 : w.cell? ⟨rb, 1, none⟩ = some (.int .i64 3)) (hat : 3 < n) (hB : w.cell? ⟨b, off + 3, none⟩ = some (.int .u8 c)) (hc : c ≠ 83) :
    Calls Tryz.prog 63 #[.pointer (some ⟨rb, 0, none⟩)] w fun x w' => x = .returned (.bool false) ∧ ∃ k, w' = w.drewN k := by
  have e1 : ((3 : Int) == (n : Int)) = false := by simp; omega
  have e2 : (3 : Int) < (n : Int) := by omega
  have e5 : (((({ data := #[84, 66, 76, 83, 1] } : ByteArray)[3]'(by decide)).toNat : Nat) : Int) = 83 := by rfl
  have e4 : (c != 83) = true := by simpa using hc
  go_enter Tryz.func63, Tryz.ntmps63
  go_wp2_with fail
  refine TailR.wp_region_seq 27 (by kernel_rfl) (by kernel_rfl) ?_
  simp only [List.take_succ_cons, List.take_zero, List.drop_succ_cons, List.drop_zero]
  repeat (go_big_quiet_step (fail))
  refine wpQuiet_nil ?_
  intro _ hw'
  obtain ⟨nq, hw''⟩ := hw'
  subst hw''
  go_wp2
  go_ret
  exact ⟨rfl, _, rfl⟩
set_option maxRecDepth 100000 in
set_option maxHeartbeats 1000000 in
theorem mark3_good (rb b off n cap : Nat) (c : Int) (w : World) (c0 : w.cell? ⟨rb, 0, none⟩ = some (.slice (some ⟨b, off, none⟩) n cap)) (c1 : w.cell? ⟨rb, 1, none⟩ = some (.int .i64 3)) (hf : w.frozen? ⟨rb, 1, none⟩ = false) (hat : 3 < n) (hB : w.cell? ⟨b, off + 3, none⟩ = some (.int .u8 c)) (hc : c = 83) :
    Calls Tryz.prog 63 #[.pointer (some ⟨rb, 0, none⟩)] w fun x w' => x = .returned (.bool true) ∧ ∃ k, w' = (w.drewN k).setCell ⟨rb, 1, none⟩ (.int .i64 4) := by
  have e1 : ((3 : Int) == (n : Int)) = false := by simp; omega
  have e2 : (3 : Int) < (n : Int) := by omega
  have e5 : (((({ data := #[84, 66, 76, 83, 1] } : ByteArray)[3]'(by decide)).toNat : Nat) : Int) = 83 := by rfl
  subst hc
  go_enter Tryz.func63, Tryz.ntmps63
  go_wp2_with fail
  refine TailR.wp_region_seq 27 (by kernel_rfl) (by kernel_rfl) ?_
  simp only [List.take_succ_cons, List.take_zero, List.drop_succ_cons, List.drop_zero]
  repeat (go_big_quiet_step (fail))
  refine wpQuiet_nil ?_
  intro _ hw'
  obtain ⟨nq, hw''⟩ := hw'
  subst hw''
  go_wp2
  go_ret
  exact ⟨rfl, _, rfl⟩
set_option maxRecDepth 100000 in
set_option maxHeartbeats 1000000 in
theorem mark4_bad (rb b off n cap : Nat) (c : Int) (w : World) (c0 : w.cell? ⟨rb, 0, none⟩ = some (.slice (some ⟨b, off, none⟩) n cap)) (c1 : w.cell? ⟨rb, 1, none⟩ = some (.int .i64 4)) (hat : 4 < n) (hB : w.cell? ⟨b, off + 4, none⟩ = some (.int .u8 c)) (hc : c ≠ 1) :
    Calls Tryz.prog 63 #[.pointer (some ⟨rb, 0, none⟩)] w fun x w' => x = .returned (.bool false) ∧ ∃ k, w' = w.drewN k := by
  have e1 : ((4 : Int) == (n : Int)) = false := by simp; omega
  have e2 : (4 : Int) < (n : Int) := by omega
  have e5 : (((({ data := #[84, 66, 76, 83, 1] } : ByteArray)[4]'(by decide)).toNat : Nat) : Int) = 1 := by rfl
  have e4 : (c != 1) = true := by simpa using hc
  go_enter Tryz.func63, Tryz.ntmps63
  go_wp2_with fail
  refine TailR.wp_region_seq 27 (by kernel_rfl) (by kernel_rfl) ?_
  simp only [List.take_succ_cons, List.take_zero, List.drop_succ_cons, List.drop_zero]
  repeat (go_big_quiet_step (fail))
  refine wpQuiet_nil ?_
  intro _ hw'
  obtain ⟨nq, hw''⟩ := hw'
  subst hw''
  go_wp2
  go_ret
  exact ⟨rfl, _, rfl⟩
set_option maxRecDepth 100000 in
set_option maxHeartbeats 1000000 in
theorem mark4_good (rb b off n cap : Nat) (c : Int) (w : World) (c0 : w.cell? ⟨rb, 0, none⟩ = some (.slice (some ⟨b, off, none⟩) n cap)) (c1 : w.cell? ⟨rb, 1, none⟩ = some (.int .i64 4)) (hf : w.frozen? ⟨rb, 1, none⟩ = false) (hat : 4 < n) (hB : w.cell? ⟨b, off + 4, none⟩ = some (.int .u8 c)) (hc : c = 1) :
    Calls Tryz.prog 63 #[.pointer (some ⟨rb, 0, none⟩)] w fun x w' => x = .returned (.bool true) ∧ ∃ k, w' = (w.drewN k).setCell ⟨rb, 1, none⟩ (.int .i64 5) := by
  have e1 : ((4 : Int) == (n : Int)) = false := by simp; omega
  have e2 : (4 : Int) < (n : Int) := by omega
  have e5 : (((({ data := #[84, 66, 76, 83, 1] } : ByteArray)[4]'(by decide)).toNat : Nat) : Int) = 1 := by rfl
  subst hc
  go_enter Tryz.func63, Tryz.ntmps63
  go_wp2_with fail
  refine TailR.wp_region_seq 27 (by kernel_rfl) (by kernel_rfl) ?_
  simp only [List.take_succ_cons, List.take_zero, List.drop_succ_cons, List.drop_zero]
  repeat (go_big_quiet_step (fail))
  refine wpQuiet_nil ?_
  intro _ hw'
  obtain ⟨nq, hw''⟩ := hw'
  subst hw''
  go_wp2
  go_ret
  exact ⟨rfl, _, rfl⟩
end IM
end Go.Proofs.YtmpamcdobhiipaaGreatDoor
