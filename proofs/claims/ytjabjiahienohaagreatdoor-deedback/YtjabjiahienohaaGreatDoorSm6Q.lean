/-
  The small state, and that a state may be.
-/
import Derived.Test.YtjabjiahienohaaGreatDoorDr6Q
namespace Go.Proofs.YtjabjiahienohaaGreatDoor
open Go.RowKit
attribute [local go_sem ↓] Go.wp_at_zero Go.wp_at_succ

namespace DE
open Go.Proofs.YtjabjiahienohaaGreatDoor.ST
def smS : Stt := ⟨[⟨20, 0, false⟩, ⟨20, 0, false⟩], [⟨0, 0, 1, 2, 0, 0⟩, ⟨0, 1, 1, 2, 0, 0⟩], [[0], [], [], [], [], [], [1], []], 1, 0, 0, 0⟩
theorem sm_ok : ff smS = none := by decide
theorem six_blocks (w : World) (o0 o1 o2 o3 o4 o5 : Obj) : ∀ W, W = (((((w.alloc o0).alloc o1).alloc o2).alloc o3).alloc o4).alloc o5 → W.heap[w.heap.size]? = some o0 ∧ W.heap[w.heap.size + 1]? = some o1 ∧ W.heap[w.heap.size + 1 + 1]? = some o2 ∧ W.heap[w.heap.size + 1 + 1 + 1]? = some o3 ∧ W.heap[w.heap.size + 1 + 1 + 1 + 1]? = some o4 ∧ W.heap[w.heap.size + 1 + 1 + 1 + 1 + 1]? = some o5 ∧ Up w W := by
  intro W h
  subst h
  have g0 := heap_alloc_new w o0
  have u0 : Up (w.alloc o0) ((((((w.alloc o0).alloc o1).alloc o2).alloc o3).alloc o4).alloc o5) := ((((((Up.refl _).alloc _).alloc _).alloc _).alloc _).alloc _)
  have s1 : (w.alloc o0).heap.size = w.heap.size + 1 := by simp
  have g1 := heap_alloc_new (w.alloc o0) o1
  rw [s1] at g1
  have u1 : Up ((w.alloc o0).alloc o1) ((((((w.alloc o0).alloc o1).alloc o2).alloc o3).alloc o4).alloc o5) := (((((Up.refl _).alloc _).alloc _).alloc _).alloc _)
  have s2 : ((w.alloc o0).alloc o1).heap.size = w.heap.size + 1 + 1 := by simp
  have g2 := heap_alloc_new ((w.alloc o0).alloc o1) o2
  rw [s2] at g2
  have u2 : Up (((w.alloc o0).alloc o1).alloc o2) ((((((w.alloc o0).alloc o1).alloc o2).alloc o3).alloc o4).alloc o5) := ((((Up.refl _).alloc _).alloc _).alloc _)
  have s3 : (((w.alloc o0).alloc o1).alloc o2).heap.size = w.heap.size + 1 + 1 + 1 := by simp
  have g3 := heap_alloc_new (((w.alloc o0).alloc o1).alloc o2) o3
  rw [s3] at g3
  have u3 : Up ((((w.alloc o0).alloc o1).alloc o2).alloc o3) ((((((w.alloc o0).alloc o1).alloc o2).alloc o3).alloc o4).alloc o5) := (((Up.refl _).alloc _).alloc _)
  have s4 : ((((w.alloc o0).alloc o1).alloc o2).alloc o3).heap.size = w.heap.size + 1 + 1 + 1 + 1 := by simp
  have g4 := heap_alloc_new ((((w.alloc o0).alloc o1).alloc o2).alloc o3) o4
  rw [s4] at g4
  have u4 : Up (((((w.alloc o0).alloc o1).alloc o2).alloc o3).alloc o4) ((((((w.alloc o0).alloc o1).alloc o2).alloc o3).alloc o4).alloc o5) := ((Up.refl _).alloc _)
  have s5 : (((((w.alloc o0).alloc o1).alloc o2).alloc o3).alloc o4).heap.size = w.heap.size + 1 + 1 + 1 + 1 + 1 := by simp
  have g5 := heap_alloc_new (((((w.alloc o0).alloc o1).alloc o2).alloc o3).alloc o4) o5
  rw [s5] at g5
  have u5 : Up ((((((w.alloc o0).alloc o1).alloc o2).alloc o3).alloc o4).alloc o5) ((((((w.alloc o0).alloc o1).alloc o2).alloc o3).alloc o4).alloc o5) := (Up.refl _)
  exact ⟨u0.heap g0, u1.heap g1, u2.heap g2, u3.heap g3, u4.heap g4, u5.heap g5, ((((((Up.refl _).alloc _).alloc _).alloc _).alloc _).alloc _).alloc _⟩
set_option maxRecDepth 100000 in
set_option maxHeartbeats 4000000 in
theorem small_ (w : World) : Calls Tryz.prog 82 #[] w (CpPost w fun W v => SOA w.heap.size W v smS) := by
  obtain ⟨Post, hPost⟩ : ∃ P : Ending → World → Prop, P = CpPost w fun W v => SOA w.heap.size W v smS := ⟨_, rfl⟩
  rw [← hPost]
  have HP : Hid _ := hPost
  clear hPost
  go_enter Tryz.func82, Tryz.ntmps82
  go_wp2
  obtain ⟨W6, hW6⟩ : ∃ W6, W6 = (((((w.alloc (.cells #[.slice (some ⟨w.heap.size + 1, 0, none⟩) 2 2, .slice (some ⟨w.heap.size + 1 + 1, 0, none⟩) 2 2, .slice (some ⟨w.heap.size + 1 + 1 + 1 + 1 + 1, 0, none⟩) 8 8, .int .i32 1, .int .i64 0, .int .i8 0, .int .i64 0] 27)).alloc (.cells #[.int .i32 20, .int .i32 0, .bool false, .int .i32 20, .int .i32 0, .bool false] 99)).alloc (.cells #[.int .i64 0, .int .i64 0, .int .i32 1, .int .i32 2, .int .i32 0, .int .i32 0, .int .i64 0, .int .i64 1, .int .i32 1, .int .i32 2, .int .i32 0, .int .i32 0] 97)).alloc (.cells #[.int .i64 0] 3)).alloc (.cells #[.int .i64 1] 3)).alloc (.cells #[.slice (some ⟨w.heap.size + 1 + 1 + 1, 0, none⟩) 1 1, .slice none 0 0, .slice none 0 0, .slice none 0 0, .slice none 0 0, .slice none 0 0, .slice (some ⟨w.heap.size + 1 + 1 + 1 + 1, 0, none⟩) 1 1, .slice none 0 0] 28) := ⟨_, rfl⟩
  obtain ⟨g0, g1, g2, g3, g4, g5, gu⟩ := six_blocks w _ _ _ _ _ _ W6 hW6
  rw [← hW6]
  refine bodyPost_ret (v := .agg #[.slice (some ⟨w.heap.size + 1, 0, none⟩) 2 2, .slice (some ⟨w.heap.size + 1 + 1, 0, none⟩) 2 2, .slice (some ⟨w.heap.size + 1 + 1 + 1 + 1 + 1, 0, none⟩) 8 8, .int .i32 1, .int .i64 0, .int .i8 0, .int .i64 0]) (results_cell_row (p := 0) (ty := 27) rfl _ _ w.heap.size 27 _ (0, 0) _ rfl g0 Tryz.underlying27 rfl infoSt) rfl ?_
  rw [HP.out]
  refine ⟨_, rfl, ⟨_, _, _, rfl, own_made (xs := pvs smS.ps) g1 rfl (by omega) (by unfold maxLen; decide), own_made (xs := cvs smS.cs) g2 rfl (by omega) (by unfold maxLen; decide), _, own_made (xs := [.slice (some ⟨w.heap.size + 1 + 1 + 1, 0, none⟩) 1 1, .slice none 0 0, .slice none 0 0, .slice none 0 0, .slice none 0 0, .slice none 0 0, .slice (some ⟨w.heap.size + 1 + 1 + 1 + 1, 0, none⟩) 1 1, .slice none 0 0]) g5 rfl (by omega) (by unfold maxLen; decide), fun i hi => ?_, fun p q g hp hq hpq h1 h2 => ?_⟩, gu⟩
  · have o0 : IRow w.heap.size W6 (.slice (some ⟨w.heap.size + 1 + 1 + 1, 0, none⟩) 1 1) [0] := own_made (xs := ivs [0]) g3 rfl (by omega) (by unfold maxLen; decide)
    have o1 : IRow w.heap.size W6 (.slice (some ⟨w.heap.size + 1 + 1 + 1 + 1, 0, none⟩) 1 1) [1] := own_made (xs := ivs [1]) g4 rfl (by omega) (by unfold maxLen; decide)
    have on : IRow w.heap.size W6 (.slice none 0 0) [] := World.ownsRow_nil _ _ _ _
    have hi : i < 8 := hi
    match i, hi with
    | 0, _ => exact o0
    | 1, _ => exact on
    | 2, _ => exact on
    | 3, _ => exact on
    | 4, _ => exact on
    | 5, _ => exact on
    | 6, _ => exact o1
    | 7, _ => exact on
  · have hp : p < 8 := hp
    have hq : q < 8 := hq
    have key : ∀ k, k < 8 → ∀ g, (([.slice (some ⟨w.heap.size + 1 + 1 + 1, 0, none⟩) 1 1, .slice none 0 0, .slice none 0 0, .slice none 0 0, .slice none 0 0, .slice none 0 0, .slice (some ⟨w.heap.size + 1 + 1 + 1 + 1, 0, none⟩) 1 1, .slice none 0 0] : List Value).getD k nl).ownBlock = some g → (k = 0 ∧ g = w.heap.size + 1 + 1 + 1) ∨ (k = 6 ∧ g = w.heap.size + 1 + 1 + 1 + 1) := by
      intro k hk g hg
      match k, hk with
      | 0, _ => simp [Value.ownBlock] at hg; omega
      | 1, _ => simp [Value.ownBlock] at hg
      | 2, _ => simp [Value.ownBlock] at hg
      | 3, _ => simp [Value.ownBlock] at hg
      | 4, _ => simp [Value.ownBlock] at hg
      | 5, _ => simp [Value.ownBlock] at hg
      | 6, _ => simp [Value.ownBlock] at hg; omega
      | 7, _ => simp [Value.ownBlock] at hg
    rcases key p hp g h1 with h | h <;> rcases key q hq g h2 with h' | h' <;> omega
end DE
end Go.Proofs.YtjabjiahienohaaGreatDoor
