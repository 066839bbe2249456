
/-
  Sets of classes.
-/
import Derived.Test.YtjjikeehifndhaaDoorKt8
namespace Go.Proofs.YtjjikeehifndhaaDoor
open Go.RowKit
attribute [local go_sem ↓] Go.wp_at_zero Go.wp_at_succ
namespace TK
theorem set_cells {W : World} {a j : Nat} {cs : Array Value} {t : TypeId} {x : Value} (h : W.heap[a]? = some (.cells cs t (0, 0))) : (W.setCell ⟨a, j, none⟩ x).heap[a]? = some (.cells (cs.setIfInBounds j x) t (0, 0)) := by
  simp only [World.setCell, Array.getElem?_modify]; rw [h]; simp
set_option maxRecDepth 100000 in
set_option maxHeartbeats 8000000 in
theorem ofNw_ (b : Nat) (w : World) (hb : w.heap[b]? = some (.cells #[.int .i64 2, .int .i64 3, .int .i64 4, .int .i64 5] 70 (0, 0))) :
    Calls Tryd.prog 68 #[.slice (some ⟨b, 0, none⟩) 4 4] w fun e w' => ∃ g, e = .returned (.func (.func 91) #[] #[.pointer (some ⟨g, 0, none⟩)]) ∧ w'.cell? ⟨g, 0, none⟩ = some (.int .u64 60) ∧ Up w w' := by
  obtain ⟨Post, hPost⟩ : ∃ P : Ending → World → Prop, P = fun e w' => ∃ g, e = .returned (.func (.func 91) #[] #[.pointer (some ⟨g, 0, none⟩)]) ∧ w'.cell? ⟨g, 0, none⟩ = some (.int .u64 60) ∧ Up w w' := ⟨_, rfl⟩
  rw [← hPost]
  have HPo : Hid (Post = fun e w' => ∃ g, e = .returned (.func (.func 91) #[] #[.pointer (some ⟨g, 0, none⟩)]) ∧ w'.cell? ⟨g, 0, none⟩ = some (.int .u64 60) ∧ Up w w') := hPost
  have HB : Hid (∀ W, Up w W → ∀ j, W.cell? ⟨b, j, none⟩ = (#[Value.int .i64 2, Value.int .i64 3, Value.int .i64 4, Value.int .i64 5])[j]?) := fun W u j => by
    have h9 := u.heap hb
    simp only [World.cell?, h9]
    rfl
  clear hPost hb
  go_enter Tryd.func68, Tryd.ntmps68
  go_wp2_with fail
  go_loopw [8] (fun s8 W => ∃ k : Nat, k ≤ 4 ∧ s8 = .int .i64 k ∧ W.heap[w.heap.size]? = some (.cells #[.int .u64 (([0, 4, 12, 28, 60] : List Int).getD k 0)] 139 (0, 0)) ∧ Up w W) (fun s8 _ => 4 - (intOf s8).toNat)
  case atStart => exact ⟨0, Nat.zero_le _, rfl, heap_alloc_new w _, (Up.refl _).alloc _⟩
  case round =>
    obtain ⟨k, hk, rfl, hg, hu⟩ := hrel
    have HS : Hid (wr.heap[w.heap.size]? = some (.cells #[.int .u64 (([0, 4, 12, 28, 60] : List Int).getD k 0)] 139 (0, 0)) ∧ Up w wr) := ⟨hg, hu⟩
    have x0 : wr.cell? ⟨w.heap.size, 0, none⟩ = some (.int .u64 (([0, 4, 12, 28, 60] : List Int).getD k 0)) := by simp [World.cell?, hg]
    have f0 : wr.frozen? ⟨w.heap.size, 0, none⟩ = false := by simp [World.frozen?, hg]
    clear hg hu
    by_cases hlt : k < 4
    · have c1 := HB.out wr HS.out.2 k
      have HX : Hid (∀ nq y, y = (([0, 4, 12, 28, 60] : List Int).getD (k + 1) 0) → ((wr.drewN nq).setCell ⟨w.heap.size, 0, none⟩ (.int .u64 y)).heap[w.heap.size]? = some (.cells #[.int .u64 (([0, 4, 12, 28, 60] : List Int).getD (k + 1) 0)] 139 (0, 0)) ∧ Up w ((wr.drewN nq).setCell ⟨w.heap.size, 0, none⟩ (.int .u64 y))) := fun nq y hy => by
        refine ⟨?_, Below.setCell (HS.out.2.drewN nq) (Nat.le_refl _) _⟩
        have h9 : (wr.drewN nq).heap[w.heap.size]? = some (.cells #[.int .u64 (([0, 4, 12, 28, 60] : List Int).getD k 0)] 139 (0, 0)) := HS.out.1
        rw [set_cells h9, hy]
        simp
      have hkk : k = 0 ∨ k = 1 ∨ k = 2 ∨ k = 3 := by omega
      rcases hkk with rfl | rfl | rfl | rfl
      all_goals
        simp at x0 c1
        go_wp2_with fail
        refine TailR.wp_region_seq 4 (by kernel_rfl) (by kernel_rfl) ?_
        simp only [List.take_succ_cons, List.take_zero, List.drop_succ_cons, List.drop_zero]
        repeat (go_big_quiet_step (fail))
        refine wpQuiet_nil ?_
        intro _ hw'
        obtain ⟨nq, hw''⟩ := hw'
        subst hw''
        go_wp2_with fail
        go_roundw
        case rel => exact ⟨_, by omega, by go_num, HX.out _ _ rfl⟩
        case measure => simp [intOf]
    · obtain rfl : k = 4 := by omega
      simp at x0
      go_wp2_with fail
      rw [HPo.out]
      exact ⟨_, rfl, x0, HS.out.2⟩
set_option maxRecDepth 100000 in
set_option maxHeartbeats 8000000 in
theorem ofDw_ (b : Nat) (w : World) (hb : w.heap[b]? = some (.cells #[.int .i64 4] 70 (0, 0))) :
    Calls Tryd.prog 68 #[.slice (some ⟨b, 0, none⟩) 1 1] w fun e w' => ∃ g, e = .returned (.func (.func 91) #[] #[.pointer (some ⟨g, 0, none⟩)]) ∧ w'.cell? ⟨g, 0, none⟩ = some (.int .u64 16) ∧ Up w w' := by
  obtain ⟨Post, hPost⟩ : ∃ P : Ending → World → Prop, P = fun e w' => ∃ g, e = .returned (.func (.func 91) #[] #[.pointer (some ⟨g, 0, none⟩)]) ∧ w'.cell? ⟨g, 0, none⟩ = some (.int .u64 16) ∧ Up w w' := ⟨_, rfl⟩
  rw [← hPost]
  have HPo : Hid (Post = fun e w' => ∃ g, e = .returned (.func (.func 91) #[] #[.pointer (some ⟨g, 0, none⟩)]) ∧ w'.cell? ⟨g, 0, none⟩ = some (.int .u64 16) ∧ Up w w') := hPost
  have HB : Hid (∀ W, Up w W → ∀ j, W.cell? ⟨b, j, none⟩ = (#[Value.int .i64 4])[j]?) := fun W u j => by
    have h9 := u.heap hb
    simp only [World.cell?, h9]
    rfl
  clear hPost hb
  go_enter Tryd.func68, Tryd.ntmps68
  go_wp2_with fail
  go_loopw [8] (fun s8 W => ∃ k : Nat, k ≤ 1 ∧ s8 = .int .i64 k ∧ W.heap[w.heap.size]? = some (.cells #[.int .u64 (([0, 16] : List Int).getD k 0)] 139 (0, 0)) ∧ Up w W) (fun s8 _ => 1 - (intOf s8).toNat)
  case atStart => exact ⟨0, Nat.zero_le _, rfl, heap_alloc_new w _, (Up.refl _).alloc _⟩
  case round =>
    obtain ⟨k, hk, rfl, hg, hu⟩ := hrel
    have HS : Hid (wr.heap[w.heap.size]? = some (.cells #[.int .u64 (([0, 16] : List Int).getD k 0)] 139 (0, 0)) ∧ Up w wr) := ⟨hg, hu⟩
    have x0 : wr.cell? ⟨w.heap.size, 0, none⟩ = some (.int .u64 (([0, 16] : List Int).getD k 0)) := by simp [World.cell?, hg]
    have f0 : wr.frozen? ⟨w.heap.size, 0, none⟩ = false := by simp [World.frozen?, hg]
    clear hg hu
    by_cases hlt : k < 1
    · have c1 := HB.out wr HS.out.2 k
      have HX : Hid (∀ nq y, y = (([0, 16] : List Int).getD (k + 1) 0) → ((wr.drewN nq).setCell ⟨w.heap.size, 0, none⟩ (.int .u64 y)).heap[w.heap.size]? = some (.cells #[.int .u64 (([0, 16] : List Int).getD (k + 1) 0)] 139 (0, 0)) ∧ Up w ((wr.drewN nq).setCell ⟨w.heap.size, 0, none⟩ (.int .u64 y))) := fun nq y hy => by
        refine ⟨?_, Below.setCell (HS.out.2.drewN nq) (Nat.le_refl _) _⟩
        have h9 : (wr.drewN nq).heap[w.heap.size]? = some (.cells #[.int .u64 (([0, 16] : List Int).getD k 0)] 139 (0, 0)) := HS.out.1
        rw [set_cells h9, hy]
        simp
      have hkk : k = 0 := by omega
      rcases hkk with rfl
      all_goals
        simp at x0 c1
        go_wp2_with fail
        refine TailR.wp_region_seq 4 (by kernel_rfl) (by kernel_rfl) ?_
        simp only [List.take_succ_cons, List.take_zero, List.drop_succ_cons, List.drop_zero]
        repeat (go_big_quiet_step (fail))
        refine wpQuiet_nil ?_
        intro _ hw'
        obtain ⟨nq, hw''⟩ := hw'
        subst hw''
        go_wp2_with fail
        go_roundw
        case rel => exact ⟨_, by omega, by go_num, HX.out _ _ rfl⟩
        case measure => simp [intOf]
    · obtain rfl : k = 1 := by omega
      simp at x0
      go_wp2_with fail
      rw [HPo.out]
      exact ⟨_, rfl, x0, HS.out.2⟩
set_option maxRecDepth 100000 in
set_option maxHeartbeats 8000000 in
theorem inName_ (w : World) : Calls Tryd.prog 67 #[] w fun e w' => ∃ g, e = .returned (.func (.func 91) #[] #[.pointer (some ⟨g, 0, none⟩)]) ∧ w'.cell? ⟨g, 0, none⟩ = some (.int .u64 60) ∧ Up w w' := by
  have HO := ofNw_ w.heap.size (w.alloc (.cells #[.int .i64 2, .int .i64 3, .int .i64 4, .int .i64 5] 70)) (heap_alloc_new w _)
  have HO2 : Hid (Calls Tryd.prog 68 #[.slice (some ⟨w.heap.size, 0, none⟩) 4 4] (w.alloc (.cells #[.int .i64 2, .int .i64 3, .int .i64 4, .int .i64 5] 70)) fun e w' => ∃ g, e = .returned (.func (.func 91) #[] #[.pointer (some ⟨g, 0, none⟩)]) ∧ w'.cell? ⟨g, 0, none⟩ = some (.int .u64 60) ∧ Up w w') := Calls.mono HO (fun e w' h => by
    obtain ⟨g, h1, h2, h3⟩ := h
    exact ⟨g, h1, h2, ((Up.refl w).alloc _).trans h3⟩)
  clear HO
  go_enter Tryd.func67, Tryd.ntmps67
  go_wp2_with fail
  refine Calls.mono HO2.out ?_
  rintro r W1 ⟨g, rfl, hc, u⟩
  go_wp2_with fail
  go_ret
  exact ⟨g, rfl, hc, u⟩
end TK
end Go.Proofs.YtjjikeehifndhaaDoor
