
/-
  The document's widths, sizes and names.
-/
import Derived.Test.YtoaaehgnbapibaaDoorWo16
namespace Go.Proofs.YtoaaehgnbapibaaDoor
open Go.RowKit
attribute [local go_sem ↓] Go.wp_at_zero Go.wp_at_succ
namespace CD
def wds (k : Nat) : List Int := if k = 2 then [1] else if k = 3 then [2] else if k = 4 then [1, 1, 2] else []
def ivl (l : List Int) : List Value := l.map fun z => .int .i64 z
theorem own_new (base : Nat) (w : World) (vs : List Value) (e : TypeId) (hb : base ≤ w.heap.size) (hm : vs.length ≤ maxLen) : (w.alloc (.cells vs.toArray e)).ownsRow base e 1 (.slice (some ⟨w.heap.size, 0, none⟩) vs.length vs.length) vs.length vs :=
 by
  refine ⟨by simp, .inr ⟨w.heap.size, vs.length, vs.toArray, rfl, hb, heap_alloc_new _ _, ?_⟩⟩
  simp [hm]
def WdQ (d : Nat) (W : World) (e : Ending) (w' : World) : Prop := ∃ v, e = .returned (.tuple #[v, .bool (decide (knd d ≠ 0))]) ∧ w'.ownsRow W.heap.size 3 1 v (wds (knd d)).length (ivl (wds (knd d))) ∧ Up W w'
theorem ops_all (d : Nat) (_h : d < 256) : knd d ≠ 0 → d = 2 ∨ d = 3 ∨ d = 10 ∨ d = 11 ∨ d = 12 ∨ d = 13 ∨ d = 14 ∨ d = 15 ∨ d = 16 ∨ d = 17 ∨ d = 18 ∨ d = 19 ∨ d = 20 ∨ d = 21 ∨ d = 22 ∨ d = 23 ∨ d = 34 ∨ d = 35 ∨ d = 40 ∨ d = 42 ∨ d = 43 ∨ d = 44 ∨ d = 4 ∨ d = 5 ∨ d = 24 ∨ d = 41 ∨ d = 46 ∨ d = 60 ∨ d = 1 ∨ d = 30 ∨ d = 31 ∨ d = 33 ∨ d = 45 ∨ d = 32 := by
  by_cases h61 : d < 61
  · have h1 : ∀ i : Fin 61, knd i ≠ 0 → (i : Nat) = 2 ∨ (i : Nat) = 3 ∨ (i : Nat) = 10 ∨ (i : Nat) = 11 ∨ (i : Nat) = 12 ∨ (i : Nat) = 13 ∨ (i : Nat) = 14 ∨ (i : Nat) = 15 ∨ (i : Nat) = 16 ∨ (i : Nat) = 17 ∨ (i : Nat) = 18 ∨ (i : Nat) = 19 ∨ (i : Nat) = 20 ∨ (i : Nat) = 21 ∨ (i : Nat) = 22 ∨ (i : Nat) = 23 ∨ (i : Nat) = 34 ∨ (i : Nat) = 35 ∨ (i : Nat) = 40 ∨ (i : Nat) = 42 ∨ (i : Nat) = 43 ∨ (i : Nat) = 44 ∨ (i : Nat) = 4 ∨ (i : Nat) = 5 ∨ (i : Nat) = 24 ∨ (i : Nat) = 41 ∨ (i : Nat) = 46 ∨ (i : Nat) = 60 ∨ (i : Nat) = 1 ∨ (i : Nat) = 30 ∨ (i : Nat) = 31 ∨ (i : Nat) = 33 ∨ (i : Nat) = 45 ∨ (i : Nat) = 32 := by decide +kernel
    exact h1 ⟨d, h61⟩
  · intro h2
    unfold knd at h2
    rw [rwo_none h61] at h2
    exact absurd rfl h2
theorem ops_not (d : Nat) (h : knd d = 0) : d ≠ 2 ∧ d ≠ 3 ∧ d ≠ 10 ∧ d ≠ 11 ∧ d ≠ 12 ∧ d ≠ 13 ∧ d ≠ 14 ∧ d ≠ 15 ∧ d ≠ 16 ∧ d ≠ 17 ∧ d ≠ 18 ∧ d ≠ 19 ∧ d ≠ 20 ∧ d ≠ 21 ∧ d ≠ 22 ∧ d ≠ 23 ∧ d ≠ 34 ∧ d ≠ 35 ∧ d ≠ 40 ∧ d ≠ 42 ∧ d ≠ 43 ∧ d ≠ 44 ∧ d ≠ 4 ∧ d ≠ 5 ∧ d ≠ 24 ∧ d ≠ 41 ∧ d ≠ 46 ∧ d ≠ 60 ∧ d ≠ 1 ∧ d ≠ 30 ∧ d ≠ 31 ∧ d ≠ 33 ∧ d ≠ 45 ∧ d ≠ 32 := by
  refine ⟨?_, ?_, ?_, ?_, ?_, ?_, ?_, ?_, ?_, ?_, ?_, ?_, ?_, ?_, ?_, ?_, ?_, ?_, ?_, ?_, ?_, ?_, ?_, ?_, ?_, ?_, ?_, ?_, ?_, ?_, ?_, ?_, ?_, ?_⟩ <;> (rintro rfl; revert h; decide +kernel)
set_option maxRecDepth 100000 in
set_option maxHeartbeats 8000000 in
theorem widths2_ (W : World) : Calls Tryd.prog 35 #[.int .u8 2] W (WdQ 2 W) := by
  obtain ⟨Post, hPost⟩ : ∃ P : Ending → World → Prop, P = WdQ 2 W := ⟨_, rfl⟩
  rw [← hPost]
  have HPo : Hid (Post = WdQ 2 W) := hPost
  clear hPost
  go_enter Tryd.func35, Tryd.ntmps35
  go_wp2_with fail
  rw [HPo.out]
  exact ⟨.slice none 0 0, rfl, World.ownsRow_nil _ _ _ _, Up.refl _⟩
set_option maxRecDepth 100000 in
set_option maxHeartbeats 8000000 in
theorem widths3_ (W : World) : Calls Tryd.prog 35 #[.int .u8 3] W (WdQ 3 W) := by
  obtain ⟨Post, hPost⟩ : ∃ P : Ending → World → Prop, P = WdQ 3 W := ⟨_, rfl⟩
  rw [← hPost]
  have HPo : Hid (Post = WdQ 3 W) := hPost
  clear hPost
  go_enter Tryd.func35, Tryd.ntmps35
  go_wp2_with fail
  rw [HPo.out]
  exact ⟨.slice none 0 0, rfl, World.ownsRow_nil _ _ _ _, Up.refl _⟩
set_option maxRecDepth 100000 in
set_option maxHeartbeats 8000000 in
theorem widths10_ (W : World) : Calls Tryd.prog 35 #[.int .u8 10] W (WdQ 10 W) := by
  obtain ⟨Post, hPost⟩ : ∃ P : Ending → World → Prop, P = WdQ 10 W := ⟨_, rfl⟩
  rw [← hPost]
  have HPo : Hid (Post = WdQ 10 W) := hPost
  clear hPost
  go_enter Tryd.func35, Tryd.ntmps35
  go_wp2_with fail
  rw [HPo.out]
  exact ⟨.slice none 0 0, rfl, World.ownsRow_nil _ _ _ _, Up.refl _⟩
set_option maxRecDepth 100000 in
set_option maxHeartbeats 8000000 in
theorem widths11_ (W : World) : Calls Tryd.prog 35 #[.int .u8 11] W (WdQ 11 W) := by
  obtain ⟨Post, hPost⟩ : ∃ P : Ending → World → Prop, P = WdQ 11 W := ⟨_, rfl⟩
  rw [← hPost]
  have HPo : Hid (Post = WdQ 11 W) := hPost
  clear hPost
  go_enter Tryd.func35, Tryd.ntmps35
  go_wp2_with fail
  rw [HPo.out]
  exact ⟨.slice none 0 0, rfl, World.ownsRow_nil _ _ _ _, Up.refl _⟩
set_option maxRecDepth 100000 in
set_option maxHeartbeats 8000000 in
theorem widths12_ (W : World) : Calls Tryd.prog 35 #[.int .u8 12] W (WdQ 12 W) := by
  obtain ⟨Post, hPost⟩ : ∃ P : Ending → World → Prop, P = WdQ 12 W := ⟨_, rfl⟩
  rw [← hPost]
  have HPo : Hid (Post = WdQ 12 W) := hPost
  clear hPost
  go_enter Tryd.func35, Tryd.ntmps35
  go_wp2_with fail
  rw [HPo.out]
  exact ⟨.slice none 0 0, rfl, World.ownsRow_nil _ _ _ _, Up.refl _⟩
set_option maxRecDepth 100000 in
set_option maxHeartbeats 8000000 in
theorem widths13_ (W : World) : Calls Tryd.prog 35 #[.int .u8 13] W (WdQ 13 W) := by
  obtain ⟨Post, hPost⟩ : ∃ P : Ending → World → Prop, P = WdQ 13 W := ⟨_, rfl⟩
  rw [← hPost]
  have HPo : Hid (Post = WdQ 13 W) := hPost
  clear hPost
  go_enter Tryd.func35, Tryd.ntmps35
  go_wp2_with fail
  rw [HPo.out]
  exact ⟨.slice none 0 0, rfl, World.ownsRow_nil _ _ _ _, Up.refl _⟩
set_option maxRecDepth 100000 in
set_option maxHeartbeats 8000000 in
theorem widths14_ (W : World) : Calls Tryd.prog 35 #[.int .u8 14] W (WdQ 14 W) := by
  obtain ⟨Post, hPost⟩ : ∃ P : Ending → World → Prop, P = WdQ 14 W := ⟨_, rfl⟩
  rw [← hPost]
  have HPo : Hid (Post = WdQ 14 W) := hPost
  clear hPost
  go_enter Tryd.func35, Tryd.ntmps35
  go_wp2_with fail
  rw [HPo.out]
  exact ⟨.slice none 0 0, rfl, World.ownsRow_nil _ _ _ _, Up.refl _⟩
set_option maxRecDepth 100000 in
set_option maxHeartbeats 8000000 in
theorem widths15_ (W : World) : Calls Tryd.prog 35 #[.int .u8 15] W (WdQ 15 W) := by
  obtain ⟨Post, hPost⟩ : ∃ P : Ending → World → Prop, P = WdQ 15 W := ⟨_, rfl⟩
  rw [← hPost]
  have HPo : Hid (Post = WdQ 15 W) := hPost
  clear hPost
  go_enter Tryd.func35, Tryd.ntmps35
  go_wp2_with fail
  rw [HPo.out]
  exact ⟨.slice none 0 0, rfl, World.ownsRow_nil _ _ _ _, Up.refl _⟩
set_option maxRecDepth 100000 in
set_option maxHeartbeats 8000000 in
theorem widths16_ (W : World) : Calls Tryd.prog 35 #[.int .u8 16] W (WdQ 16 W) := by
  obtain ⟨Post, hPost⟩ : ∃ P : Ending → World → Prop, P = WdQ 16 W := ⟨_, rfl⟩
  rw [← hPost]
  have HPo : Hid (Post = WdQ 16 W) := hPost
  clear hPost
  go_enter Tryd.func35, Tryd.ntmps35
  go_wp2_with fail
  rw [HPo.out]
  exact ⟨.slice none 0 0, rfl, World.ownsRow_nil _ _ _ _, Up.refl _⟩
set_option maxRecDepth 100000 in
set_option maxHeartbeats 8000000 in
theorem widths17_ (W : World) : Calls Tryd.prog 35 #[.int .u8 17] W (WdQ 17 W) := by
  obtain ⟨Post, hPost⟩ : ∃ P : Ending → World → Prop, P = WdQ 17 W := ⟨_, rfl⟩
  rw [← hPost]
  have HPo : Hid (Post = WdQ 17 W) := hPost
  clear hPost
  go_enter Tryd.func35, Tryd.ntmps35
  go_wp2_with fail
  rw [HPo.out]
  exact ⟨.slice none 0 0, rfl, World.ownsRow_nil _ _ _ _, Up.refl _⟩
set_option maxRecDepth 100000 in
set_option maxHeartbeats 8000000 in
theorem widths18_ (W : World) : Calls Tryd.prog 35 #[.int .u8 18] W (WdQ 18 W) := by
  obtain ⟨Post, hPost⟩ : ∃ P : Ending → World → Prop, P = WdQ 18 W := ⟨_, rfl⟩
  rw [← hPost]
  have HPo : Hid (Post = WdQ 18 W) := hPost
  clear hPost
  go_enter Tryd.func35, Tryd.ntmps35
  go_wp2_with fail
  rw [HPo.out]
  exact ⟨.slice none 0 0, rfl, World.ownsRow_nil _ _ _ _, Up.refl _⟩
set_option maxRecDepth 100000 in
set_option maxHeartbeats 8000000 in
theorem widths19_ (W : World) : Calls Tryd.prog 35 #[.int .u8 19] W (WdQ 19 W) := by
  obtain ⟨Post, hPost⟩ : ∃ P : Ending → World → Prop, P = WdQ 19 W := ⟨_, rfl⟩
  rw [← hPost]
  have HPo : Hid (Post = WdQ 19 W) := hPost
  clear hPost
  go_enter Tryd.func35, Tryd.ntmps35
  go_wp2_with fail
  rw [HPo.out]
  exact ⟨.slice none 0 0, rfl, World.ownsRow_nil _ _ _ _, Up.refl _⟩
set_option maxRecDepth 100000 in
set_option maxHeartbeats 8000000 in
theorem widths20_ (W : World) : Calls Tryd.prog 35 #[.int .u8 20] W (WdQ 20 W) := by
  obtain ⟨Post, hPost⟩ : ∃ P : Ending → World → Prop, P = WdQ 20 W := ⟨_, rfl⟩
  rw [← hPost]
  have HPo : Hid (Post = WdQ 20 W) := hPost
  clear hPost
  go_enter Tryd.func35, Tryd.ntmps35
  go_wp2_with fail
  rw [HPo.out]
  exact ⟨.slice none 0 0, rfl, World.ownsRow_nil _ _ _ _, Up.refl _⟩
set_option maxRecDepth 100000 in
set_option maxHeartbeats 8000000 in
theorem widths21_ (W : World) : Calls Tryd.prog 35 #[.int .u8 21] W (WdQ 21 W) := by
  obtain ⟨Post, hPost⟩ : ∃ P : Ending → World → Prop, P = WdQ 21 W := ⟨_, rfl⟩
  rw [← hPost]
  have HPo : Hid (Post = WdQ 21 W) := hPost
  clear hPost
  go_enter Tryd.func35, Tryd.ntmps35
  go_wp2_with fail
  rw [HPo.out]
  exact ⟨.slice none 0 0, rfl, World.ownsRow_nil _ _ _ _, Up.refl _⟩
set_option maxRecDepth 100000 in
set_option maxHeartbeats 8000000 in
theorem widths22_ (W : World) : Calls Tryd.prog 35 #[.int .u8 22] W (WdQ 22 W) := by
  obtain ⟨Post, hPost⟩ : ∃ P : Ending → World → Prop, P = WdQ 22 W := ⟨_, rfl⟩
  rw [← hPost]
  have HPo : Hid (Post = WdQ 22 W) := hPost
  clear hPost
  go_enter Tryd.func35, Tryd.ntmps35
  go_wp2_with fail
  rw [HPo.out]
  exact ⟨.slice none 0 0, rfl, World.ownsRow_nil _ _ _ _, Up.refl _⟩
set_option maxRecDepth 100000 in
set_option maxHeartbeats 8000000 in
theorem widths23_ (W : World) : Calls Tryd.prog 35 #[.int .u8 23] W (WdQ 23 W) := by
  obtain ⟨Post, hPost⟩ : ∃ P : Ending → World → Prop, P = WdQ 23 W := ⟨_, rfl⟩
  rw [← hPost]
  have HPo : Hid (Post = WdQ 23 W) := hPost
  clear hPost
  go_enter Tryd.func35, Tryd.ntmps35
  go_wp2_with fail
  rw [HPo.out]
  exact ⟨.slice none 0 0, rfl, World.ownsRow_nil _ _ _ _, Up.refl _⟩
set_option maxRecDepth 100000 in
set_option maxHeartbeats 8000000 in
theorem widths34_ (W : World) : Calls Tryd.prog 35 #[.int .u8 34] W (WdQ 34 W) := by
  obtain ⟨Post, hPost⟩ : ∃ P : Ending → World → Prop, P = WdQ 34 W := ⟨_, rfl⟩
  rw [← hPost]
  have HPo : Hid (Post = WdQ 34 W) := hPost
  clear hPost
  go_enter Tryd.func35, Tryd.ntmps35
  go_wp2_with fail
  rw [HPo.out]
  exact ⟨.slice none 0 0, rfl, World.ownsRow_nil _ _ _ _, Up.refl _⟩
set_option maxRecDepth 100000 in
set_option maxHeartbeats 8000000 in
theorem widths35_ (W : World) : Calls Tryd.prog 35 #[.int .u8 35] W (WdQ 35 W) := by
  obtain ⟨Post, hPost⟩ : ∃ P : Ending → World → Prop, P = WdQ 35 W := ⟨_, rfl⟩
  rw [← hPost]
  have HPo : Hid (Post = WdQ 35 W) := hPost
  clear hPost
  go_enter Tryd.func35, Tryd.ntmps35
  go_wp2_with fail
  rw [HPo.out]
  exact ⟨.slice none 0 0, rfl, World.ownsRow_nil _ _ _ _, Up.refl _⟩
set_option maxRecDepth 100000 in
set_option maxHeartbeats 8000000 in
theorem widths40_ (W : World) : Calls Tryd.prog 35 #[.int .u8 40] W (WdQ 40 W) := by
  obtain ⟨Post, hPost⟩ : ∃ P : Ending → World → Prop, P = WdQ 40 W := ⟨_, rfl⟩
  rw [← hPost]
  have HPo : Hid (Post = WdQ 40 W) := hPost
  clear hPost
  go_enter Tryd.func35, Tryd.ntmps35
  go_wp2_with fail
  rw [HPo.out]
  exact ⟨.slice none 0 0, rfl, World.ownsRow_nil _ _ _ _, Up.refl _⟩
set_option maxRecDepth 100000 in
set_option maxHeartbeats 8000000 in
theorem widths42_ (W : World) : Calls Tryd.prog 35 #[.int .u8 42] W (WdQ 42 W) := by
  obtain ⟨Post, hPost⟩ : ∃ P : Ending → World → Prop, P = WdQ 42 W := ⟨_, rfl⟩
  rw [← hPost]
  have HPo : Hid (Post = WdQ 42 W) := hPost
  clear hPost
  go_enter Tryd.func35, Tryd.ntmps35
  go_wp2_with fail
  rw [HPo.out]
  exact ⟨.slice none 0 0, rfl, World.ownsRow_nil _ _ _ _, Up.refl _⟩
set_option maxRecDepth 100000 in
set_option maxHeartbeats 8000000 in
theorem widths43_ (W : World) : Calls Tryd.prog 35 #[.int .u8 43] W (WdQ 43 W) := by
  obtain ⟨Post, hPost⟩ : ∃ P : Ending → World → Prop, P = WdQ 43 W := ⟨_, rfl⟩
  rw [← hPost]
  have HPo : Hid (Post = WdQ 43 W) := hPost
  clear hPost
  go_enter Tryd.func35, Tryd.ntmps35
  go_wp2_with fail
  rw [HPo.out]
  exact ⟨.slice none 0 0, rfl, World.ownsRow_nil _ _ _ _, Up.refl _⟩
set_option maxRecDepth 100000 in
set_option maxHeartbeats 8000000 in
theorem widths44_ (W : World) : Calls Tryd.prog 35 #[.int .u8 44] W (WdQ 44 W) := by
  obtain ⟨Post, hPost⟩ : ∃ P : Ending → World → Prop, P = WdQ 44 W := ⟨_, rfl⟩
  rw [← hPost]
  have HPo : Hid (Post = WdQ 44 W) := hPost
  clear hPost
  go_enter Tryd.func35, Tryd.ntmps35
  go_wp2_with fail
  rw [HPo.out]
  exact ⟨.slice none 0 0, rfl, World.ownsRow_nil _ _ _ _, Up.refl _⟩
set_option maxRecDepth 100000 in
set_option maxHeartbeats 8000000 in
theorem widths4_ (W : World) : Calls Tryd.prog 35 #[.int .u8 4] W (WdQ 4 W) := by
  obtain ⟨Post, hPost⟩ : ∃ P : Ending → World → Prop, P = WdQ 4 W := ⟨_, rfl⟩
  rw [← hPost]
  have HPo : Hid (Post = WdQ 4 W) := hPost
  clear hPost
  go_enter Tryd.func35, Tryd.ntmps35
  go_wp2_with fail
  rw [HPo.out]
  exact ⟨.slice (some ⟨W.heap.size, 0, none⟩) 1 1, rfl, own_new W.heap.size W [.int .i64 1] 3 (Nat.le_refl _) (by unfold maxLen; decide), (Up.refl _).alloc _⟩
set_option maxRecDepth 100000 in
set_option maxHeartbeats 8000000 in
theorem widths5_ (W : World) : Calls Tryd.prog 35 #[.int .u8 5] W (WdQ 5 W) := by
  obtain ⟨Post, hPost⟩ : ∃ P : Ending → World → Prop, P = WdQ 5 W := ⟨_, rfl⟩
  rw [← hPost]
  have HPo : Hid (Post = WdQ 5 W) := hPost
  clear hPost
  go_enter Tryd.func35, Tryd.ntmps35
  go_wp2_with fail
  rw [HPo.out]
  exact ⟨.slice (some ⟨W.heap.size, 0, none⟩) 1 1, rfl, own_new W.heap.size W [.int .i64 1] 3 (Nat.le_refl _) (by unfold maxLen; decide), (Up.refl _).alloc _⟩
set_option maxRecDepth 100000 in
set_option maxHeartbeats 8000000 in
theorem widths24_ (W : World) : Calls Tryd.prog 35 #[.int .u8 24] W (WdQ 24 W) := by
  obtain ⟨Post, hPost⟩ : ∃ P : Ending → World → Prop, P = WdQ 24 W := ⟨_, rfl⟩
  rw [← hPost]
  have HPo : Hid (Post = WdQ 24 W) := hPost
  clear hPost
  go_enter Tryd.func35, Tryd.ntmps35
  go_wp2_with fail
  rw [HPo.out]
  exact ⟨.slice (some ⟨W.heap.size, 0, none⟩) 1 1, rfl, own_new W.heap.size W [.int .i64 1] 3 (Nat.le_refl _) (by unfold maxLen; decide), (Up.refl _).alloc _⟩
set_option maxRecDepth 100000 in
set_option maxHeartbeats 8000000 in
theorem widths41_ (W : World) : Calls Tryd.prog 35 #[.int .u8 41] W (WdQ 41 W) := by
  obtain ⟨Post, hPost⟩ : ∃ P : Ending → World → Prop, P = WdQ 41 W := ⟨_, rfl⟩
  rw [← hPost]
  have HPo : Hid (Post = WdQ 41 W) := hPost
  clear hPost
  go_enter Tryd.func35, Tryd.ntmps35
  go_wp2_with fail
  rw [HPo.out]
  exact ⟨.slice (some ⟨W.heap.size, 0, none⟩) 1 1, rfl, own_new W.heap.size W [.int .i64 1] 3 (Nat.le_refl _) (by unfold maxLen; decide), (Up.refl _).alloc _⟩
set_option maxRecDepth 100000 in
set_option maxHeartbeats 8000000 in
theorem widths46_ (W : World) : Calls Tryd.prog 35 #[.int .u8 46] W (WdQ 46 W) := by
  obtain ⟨Post, hPost⟩ : ∃ P : Ending → World → Prop, P = WdQ 46 W := ⟨_, rfl⟩
  rw [← hPost]
  have HPo : Hid (Post = WdQ 46 W) := hPost
  clear hPost
  go_enter Tryd.func35, Tryd.ntmps35
  go_wp2_with fail
  rw [HPo.out]
  exact ⟨.slice (some ⟨W.heap.size, 0, none⟩) 1 1, rfl, own_new W.heap.size W [.int .i64 1] 3 (Nat.le_refl _) (by unfold maxLen; decide), (Up.refl _).alloc _⟩
set_option maxRecDepth 100000 in
set_option maxHeartbeats 8000000 in
theorem widths60_ (W : World) : Calls Tryd.prog 35 #[.int .u8 60] W (WdQ 60 W) := by
  obtain ⟨Post, hPost⟩ : ∃ P : Ending → World → Prop, P = WdQ 60 W := ⟨_, rfl⟩
  rw [← hPost]
  have HPo : Hid (Post = WdQ 60 W) := hPost
  clear hPost
  go_enter Tryd.func35, Tryd.ntmps35
  go_wp2_with fail
  rw [HPo.out]
  exact ⟨.slice (some ⟨W.heap.size, 0, none⟩) 1 1, rfl, own_new W.heap.size W [.int .i64 1] 3 (Nat.le_refl _) (by unfold maxLen; decide), (Up.refl _).alloc _⟩
set_option maxRecDepth 100000 in
set_option maxHeartbeats 8000000 in
theorem widths1_ (W : World) : Calls Tryd.prog 35 #[.int .u8 1] W (WdQ 1 W) := by
  obtain ⟨Post, hPost⟩ : ∃ P : Ending → World → Prop, P = WdQ 1 W := ⟨_, rfl⟩
  rw [← hPost]
  have HPo : Hid (Post = WdQ 1 W) := hPost
  clear hPost
  go_enter Tryd.func35, Tryd.ntmps35
  go_wp2_with fail
  rw [HPo.out]
  exact ⟨.slice (some ⟨W.heap.size, 0, none⟩) 1 1, rfl, own_new W.heap.size W [.int .i64 2] 3 (Nat.le_refl _) (by unfold maxLen; decide), (Up.refl _).alloc _⟩
set_option maxRecDepth 100000 in
set_option maxHeartbeats 8000000 in
theorem widths30_ (W : World) : Calls Tryd.prog 35 #[.int .u8 30] W (WdQ 30 W) := by
  obtain ⟨Post, hPost⟩ : ∃ P : Ending → World → Prop, P = WdQ 30 W := ⟨_, rfl⟩
  rw [← hPost]
  have HPo : Hid (Post = WdQ 30 W) := hPost
  clear hPost
  go_enter Tryd.func35, Tryd.ntmps35
  go_wp2_with fail
  rw [HPo.out]
  exact ⟨.slice (some ⟨W.heap.size, 0, none⟩) 1 1, rfl, own_new W.heap.size W [.int .i64 2] 3 (Nat.le_refl _) (by unfold maxLen; decide), (Up.refl _).alloc _⟩
set_option maxRecDepth 100000 in
set_option maxHeartbeats 8000000 in
theorem widths31_ (W : World) : Calls Tryd.prog 35 #[.int .u8 31] W (WdQ 31 W) := by
  obtain ⟨Post, hPost⟩ : ∃ P : Ending → World → Prop, P = WdQ 31 W := ⟨_, rfl⟩
  rw [← hPost]
  have HPo : Hid (Post = WdQ 31 W) := hPost
  clear hPost
  go_enter Tryd.func35, Tryd.ntmps35
  go_wp2_with fail
  rw [HPo.out]
  exact ⟨.slice (some ⟨W.heap.size, 0, none⟩) 1 1, rfl, own_new W.heap.size W [.int .i64 2] 3 (Nat.le_refl _) (by unfold maxLen; decide), (Up.refl _).alloc _⟩
set_option maxRecDepth 100000 in
set_option maxHeartbeats 8000000 in
theorem widths33_ (W : World) : Calls Tryd.prog 35 #[.int .u8 33] W (WdQ 33 W) := by
  obtain ⟨Post, hPost⟩ : ∃ P : Ending → World → Prop, P = WdQ 33 W := ⟨_, rfl⟩
  rw [← hPost]
  have HPo : Hid (Post = WdQ 33 W) := hPost
  clear hPost
  go_enter Tryd.func35, Tryd.ntmps35
  go_wp2_with fail
  rw [HPo.out]
  exact ⟨.slice (some ⟨W.heap.size, 0, none⟩) 1 1, rfl, own_new W.heap.size W [.int .i64 2] 3 (Nat.le_refl _) (by unfold maxLen; decide), (Up.refl _).alloc _⟩
set_option maxRecDepth 100000 in
set_option maxHeartbeats 8000000 in
theorem widths45_ (W : World) : Calls Tryd.prog 35 #[.int .u8 45] W (WdQ 45 W) := by
  obtain ⟨Post, hPost⟩ : ∃ P : Ending → World → Prop, P = WdQ 45 W := ⟨_, rfl⟩
  rw [← hPost]
  have HPo : Hid (Post = WdQ 45 W) := hPost
  clear hPost
  go_enter Tryd.func35, Tryd.ntmps35
  go_wp2_with fail
  rw [HPo.out]
  exact ⟨.slice (some ⟨W.heap.size, 0, none⟩) 1 1, rfl, own_new W.heap.size W [.int .i64 2] 3 (Nat.le_refl _) (by unfold maxLen; decide), (Up.refl _).alloc _⟩
set_option maxRecDepth 100000 in
set_option maxHeartbeats 8000000 in
theorem widths32_ (W : World) : Calls Tryd.prog 35 #[.int .u8 32] W (WdQ 32 W) := by
  obtain ⟨Post, hPost⟩ : ∃ P : Ending → World → Prop, P = WdQ 32 W := ⟨_, rfl⟩
  rw [← hPost]
  have HPo : Hid (Post = WdQ 32 W) := hPost
  clear hPost
  go_enter Tryd.func35, Tryd.ntmps35
  go_wp2_with fail
  rw [HPo.out]
  exact ⟨.slice (some ⟨W.heap.size, 0, none⟩) 3 3, rfl, own_new W.heap.size W [.int .i64 1, .int .i64 1, .int .i64 2] 3 (Nat.le_refl _) (by unfold maxLen; decide), (Up.refl _).alloc _⟩
set_option maxRecDepth 100000 in
set_option maxHeartbeats 8000000 in
theorem widthsN_ (d : Nat) (h0 : knd d = 0) (W : World) : Calls Tryd.prog 35 #[.int .u8 (d : Int)] W (WdQ d W) := by
  obtain ⟨Post, hPost⟩ : ∃ P : Ending → World → Prop, P = WdQ d W := ⟨_, rfl⟩
  rw [← hPost]
  have HPo : Hid (Post = WdQ d W) := hPost
  clear hPost
  have HK : Hid (knd d = 0) := h0
  obtain ⟨n2, n3, n10, n11, n12, n13, n14, n15, n16, n17, n18, n19, n20, n21, n22, n23, n34, n35, n40, n42, n43, n44, n4, n5, n24, n41, n46, n60, n1, n30, n31, n33, n45, n32⟩ := ops_not d h0
  have m2 : ¬ (d : Int) = 2 := by omega
  have m3 : ¬ (d : Int) = 3 := by omega
  have m10 : ¬ (d : Int) = 10 := by omega
  have m11 : ¬ (d : Int) = 11 := by omega
  have m12 : ¬ (d : Int) = 12 := by omega
  have m13 : ¬ (d : Int) = 13 := by omega
  have m14 : ¬ (d : Int) = 14 := by omega
  have m15 : ¬ (d : Int) = 15 := by omega
  have m16 : ¬ (d : Int) = 16 := by omega
  have m17 : ¬ (d : Int) = 17 := by omega
  have m18 : ¬ (d : Int) = 18 := by omega
  have m19 : ¬ (d : Int) = 19 := by omega
  have m20 : ¬ (d : Int) = 20 := by omega
  have m21 : ¬ (d : Int) = 21 := by omega
  have m22 : ¬ (d : Int) = 22 := by omega
  have m23 : ¬ (d : Int) = 23 := by omega
  have m34 : ¬ (d : Int) = 34 := by omega
  have m35 : ¬ (d : Int) = 35 := by omega
  have m40 : ¬ (d : Int) = 40 := by omega
  have m42 : ¬ (d : Int) = 42 := by omega
  have m43 : ¬ (d : Int) = 43 := by omega
  have m44 : ¬ (d : Int) = 44 := by omega
  have m4 : ¬ (d : Int) = 4 := by omega
  have m5 : ¬ (d : Int) = 5 := by omega
  have m24 : ¬ (d : Int) = 24 := by omega
  have m41 : ¬ (d : Int) = 41 := by omega
  have m46 : ¬ (d : Int) = 46 := by omega
  have m60 : ¬ (d : Int) = 60 := by omega
  have m1 : ¬ (d : Int) = 1 := by omega
  have m30 : ¬ (d : Int) = 30 := by omega
  have m31 : ¬ (d : Int) = 31 := by omega
  have m33 : ¬ (d : Int) = 33 := by omega
  have m45 : ¬ (d : Int) = 45 := by omega
  have m32 : ¬ (d : Int) = 32 := by omega
  clear h0 n2 n3 n10 n11 n12 n13 n14 n15 n16 n17 n18 n19 n20 n21 n22 n23 n34 n35 n40 n42 n43 n44 n4 n5 n24 n41 n46 n60 n1 n30 n31 n33 n45 n32
  go_enter Tryd.func35, Tryd.ntmps35
  go_wp2_with fail
  rw [HPo.out]
  refine ⟨.slice none 0 0, by rw [HK.out]; rfl, by rw [HK.out]; exact World.ownsRow_nil _ _ _ _, Up.refl _⟩
theorem Widths_ (d : Nat) (h : d < 256) (W : World) : Calls Tryd.prog 35 #[.int .u8 (d : Int)] W (WdQ d W) := by
  by_cases h0 : knd d = 0
  · exact widthsN_ d h0 W
  · rcases ops_all d h h0 with rfl | rfl | rfl | rfl | rfl | rfl | rfl | rfl | rfl | rfl | rfl | rfl | rfl | rfl | rfl | rfl | rfl | rfl | rfl | rfl | rfl | rfl | rfl | rfl | rfl | rfl | rfl | rfl | rfl | rfl | rfl | rfl | rfl | rfl
    · exact widths2_ W
    · exact widths3_ W
    · exact widths10_ W
    · exact widths11_ W
    · exact widths12_ W
    · exact widths13_ W
    · exact widths14_ W
    · exact widths15_ W
    · exact widths16_ W
    · exact widths17_ W
    · exact widths18_ W
    · exact widths19_ W
    · exact widths20_ W
    · exact widths21_ W
    · exact widths22_ W
    · exact widths23_ W
    · exact widths34_ W
    · exact widths35_ W
    · exact widths40_ W
    · exact widths42_ W
    · exact widths43_ W
    · exact widths44_ W
    · exact widths4_ W
    · exact widths5_ W
    · exact widths24_ W
    · exact widths41_ W
    · exact widths46_ W
    · exact widths60_ W
    · exact widths1_ W
    · exact widths30_ W
    · exact widths31_ W
    · exact widths33_ W
    · exact widths45_ W
    · exact widths32_ W
set_option maxRecDepth 100000 in
set_option maxHeartbeats 8000000 in
theorem rSize_ (d : Nat) (h : d < 256) (W : World) : Calls Tryd.prog 9 #[.int .u8 (d : Int)] W fun e w' => e = .returned (.int .i64 (siz (knd d) : Nat)) ∧ Up W w' := by
  obtain ⟨Post, hPost⟩ : ∃ P : Ending → World → Prop, P = fun e w' => e = .returned (.int .i64 (siz (knd d) : Nat)) ∧ Up W w' := ⟨_, rfl⟩
  rw [← hPost]
  have HPo : Hid (Post = fun e w' => e = .returned (.int .i64 (siz (knd d) : Nat)) ∧ Up W w') := hPost
  clear hPost
  have HWD : Hid _ := Widths_ d h W
  have HK4 : Hid (knd d ≤ 4) := (rwo_nam d).2.1
  unfold WdQ at HWD
  generalize knd d = k at HPo HWD HK4
  go_enter Tryd.func9, Tryd.ntmps9
  go_wp2_with fail
  refine Calls.mono HWD.out ?_
  rintro e1 W1 ⟨v, rfl, hrow, u1⟩
  have HU : Hid (Up W W1) := u1
  clear u1 HWD
  by_cases hk0 : k = 0
  · subst hk0
    obtain ⟨va, vc, hva⟩ := row_val hrow
    rw [show (decide ((0 : Nat) ≠ 0)) = false from rfl]
    subst hva
    clear hrow
    go_wp2_with fail
    rw [HPo.out]
    exact ⟨rfl, HU.out⟩
  rw [decide_eq_true hk0]
  have hk4 : k = 1 ∨ k = 2 ∨ k = 3 ∨ k = 4 := by have := HK4.out; omega
  clear HK4 hk0
  rcases hk4 with rfl | rfl | rfl | rfl
  · obtain ⟨va, vc, rfl⟩ := row_val hrow
    rw [show (wds 1).length = 0 from rfl]
    clear hrow
    go_wp2_with fail
    go_rounds 1
    go_wp2_with fail
    rw [HPo.out]
    exact ⟨rfl, HU.out⟩
  · obtain ⟨g, vc, -, -, rfl⟩ := row_some hrow (by decide)
    have c0 : W1.cell? ⟨g, 0, none⟩ = some (.int .i64 1) := by
      have h9 := hrow.cells (g := g) rfl 0 (.int .i64 1) rfl
      simpa [Addr.add] using h9
    rw [show (wds 2).length = 1 from rfl]
    clear hrow
    go_wp2_with fail
    go_rounds 2
    go_wp2_with fail
    rw [HPo.out]
    exact ⟨rfl, HU.out⟩
  · obtain ⟨g, vc, -, -, rfl⟩ := row_some hrow (by decide)
    have c0 : W1.cell? ⟨g, 0, none⟩ = some (.int .i64 2) := by
      have h9 := hrow.cells (g := g) rfl 0 (.int .i64 2) rfl
      simpa [Addr.add] using h9
    rw [show (wds 3).length = 1 from rfl]
    clear hrow
    go_wp2_with fail
    go_rounds 2
    go_wp2_with fail
    rw [HPo.out]
    exact ⟨rfl, HU.out⟩
  · obtain ⟨g, vc, -, -, rfl⟩ := row_some hrow (by decide)
    have c0 : W1.cell? ⟨g, 0, none⟩ = some (.int .i64 1) := by
      have h9 := hrow.cells (g := g) rfl 0 (.int .i64 1) rfl
      simpa [Addr.add] using h9
    have c1 : W1.cell? ⟨g, 1, none⟩ = some (.int .i64 1) := by
      have h9 := hrow.cells (g := g) rfl 1 (.int .i64 1) rfl
      simpa [Addr.add] using h9
    have c2 : W1.cell? ⟨g, 2, none⟩ = some (.int .i64 2) := by
      have h9 := hrow.cells (g := g) rfl 2 (.int .i64 2) rfl
      simpa [Addr.add] using h9
    rw [show (wds 4).length = 3 from rfl]
    clear hrow
    go_wp2_with fail
    go_rounds 4
    go_wp2_with fail
    rw [HPo.out]
    exact ⟨rfl, HU.out⟩
def NMS : Array Value := ((List.range 47).map fun j => Value.string (strOfNums (nam j))).toArray
theorem nms_lit : (#[.string ⟨#[]⟩, .string ⟨#[112, 117, 115, 104]⟩, .string ⟨#[116, 114, 117, 101]⟩, .string ⟨#[102, 97, 108, 115, 101]⟩, .string ⟨#[108, 111, 97, 100]⟩, .string ⟨#[115, 116, 111, 114, 101]⟩, .string ⟨#[]⟩, .string ⟨#[]⟩, .string ⟨#[]⟩, .string ⟨#[]⟩, .string ⟨#[97, 100, 100]⟩, .string ⟨#[115, 117, 98]⟩, .string ⟨#[109, 117, 108]⟩, .string ⟨#[100, 105, 118]⟩, .string ⟨#[114, 101, 109]⟩, .string ⟨#[110, 101, 103]⟩, .string ⟨#[97, 98, 115]⟩, .string ⟨#[109, 105, 110]⟩, .string ⟨#[109, 97, 120]⟩, .string ⟨#[108, 116]⟩, .string ⟨#[108, 101]⟩, .string ⟨#[103, 116]⟩, .string ⟨#[103, 101]⟩, .string ⟨#[110, 111, 116]⟩, .string ⟨#[101, 113]⟩, .string ⟨#[]⟩, .string ⟨#[]⟩, .string ⟨#[]⟩, .string ⟨#[]⟩, .string ⟨#[]⟩, .string ⟨#[106, 117, 109, 112]⟩, .string ⟨#[117, 110, 108, 101, 115, 115]⟩, .string ⟨#[101, 97, 99, 104]⟩, .string ⟨#[99, 104, 111, 111, 115, 101]⟩, .string ⟨#[115, 116, 111, 112]⟩, .string ⟨#[97, 98, 111, 114, 116]⟩, .string ⟨#[]⟩, .string ⟨#[]⟩, .string ⟨#[]⟩, .string ⟨#[]⟩, .string ⟨#[110, 101, 120, 116]⟩, .string ⟨#[122, 111, 110, 101]⟩, .string ⟨#[114, 97, 110, 100, 111, 109]⟩, .string ⟨#[116, 111, 112]⟩, .string ⟨#[104, 97, 115]⟩, .string ⟨#[105, 115]⟩, .string ⟨#[102, 105, 101, 108, 100]⟩] : Array Value) = NMS := by kernel_rfl
theorem nms_at {d : Nat} (h : d < 47) : NMS[d]? = some (.string (strOfNums (nam d))) := by
  unfold NMS
  rw [List.getElem?_toArray, List.getElem?_map, List.getElem?_range h]
  rfl
theorem nam_none {d : Nat} (h : 47 ≤ d) (h6 : d ≠ 60) : nam d = [] := by
  by_cases h61 : d < 61
  · have h1 : ∀ i : Fin 61, 47 ≤ (i : Nat) → (i : Nat) ≠ 60 → nam i = [] := by decide +kernel
    exact h1 ⟨d, h61⟩ h h6
  · unfold nam
    rw [rwo_none h61]
set_option maxRecDepth 100000 in
set_option maxHeartbeats 8000000 in
theorem rName_ (d : Nat) (_h : d < 256) (W : World) : Calls Tryd.prog 11 #[.int .u8 (d : Int)] W fun e w' => e = .returned (.string (strOfNums (nam d))) ∧ Up W w' := by
  obtain ⟨Post, hPost⟩ : ∃ P : Ending → World → Prop, P = fun e w' => e = .returned (.string (strOfNums (nam d))) ∧ Up W w' := ⟨_, rfl⟩
  rw [← hPost]
  have HPo : Hid (Post = fun e w' => e = .returned (.string (strOfNums (nam d))) ∧ Up W w') := hPost
  clear hPost
  obtain ⟨W1, hW1⟩ : ∃ X, W.alloc (.cells #[.string ⟨#[]⟩, .string ⟨#[112, 117, 115, 104]⟩, .string ⟨#[116, 114, 117, 101]⟩, .string ⟨#[102, 97, 108, 115, 101]⟩, .string ⟨#[108, 111, 97, 100]⟩, .string ⟨#[115, 116, 111, 114, 101]⟩, .string ⟨#[]⟩, .string ⟨#[]⟩, .string ⟨#[]⟩, .string ⟨#[]⟩, .string ⟨#[97, 100, 100]⟩, .string ⟨#[115, 117, 98]⟩, .string ⟨#[109, 117, 108]⟩, .string ⟨#[100, 105, 118]⟩, .string ⟨#[114, 101, 109]⟩, .string ⟨#[110, 101, 103]⟩, .string ⟨#[97, 98, 115]⟩, .string ⟨#[109, 105, 110]⟩, .string ⟨#[109, 97, 120]⟩, .string ⟨#[108, 116]⟩, .string ⟨#[108, 101]⟩, .string ⟨#[103, 116]⟩, .string ⟨#[103, 101]⟩, .string ⟨#[110, 111, 116]⟩, .string ⟨#[101, 113]⟩, .string ⟨#[]⟩, .string ⟨#[]⟩, .string ⟨#[]⟩, .string ⟨#[]⟩, .string ⟨#[]⟩, .string ⟨#[106, 117, 109, 112]⟩, .string ⟨#[117, 110, 108, 101, 115, 115]⟩, .string ⟨#[101, 97, 99, 104]⟩, .string ⟨#[99, 104, 111, 111, 115, 101]⟩, .string ⟨#[115, 116, 111, 112]⟩, .string ⟨#[97, 98, 111, 114, 116]⟩, .string ⟨#[]⟩, .string ⟨#[]⟩, .string ⟨#[]⟩, .string ⟨#[]⟩, .string ⟨#[110, 101, 120, 116]⟩, .string ⟨#[122, 111, 110, 101]⟩, .string ⟨#[114, 97, 110, 100, 111, 109]⟩, .string ⟨#[116, 111, 112]⟩, .string ⟨#[104, 97, 115]⟩, .string ⟨#[105, 115]⟩, .string ⟨#[102, 105, 101, 108, 100]⟩] 9) = X := ⟨_, rfl⟩
  obtain ⟨g, hg⟩ : ∃ g, g = W.heap.size := ⟨_, rfl⟩
  have g1 : W1.heap[g]? = some (.cells NMS 9 (0, 0)) := by rw [← hW1, hg, ← nms_lit]; exact heap_alloc_new _ _
  have HU : Hid (Up W W1) := by unfold Hid; rw [← hW1]; exact (Up.refl _).alloc _
  go_enter Tryd.func11, Tryd.ntmps11
  go_upto_region 2 with fail
  try rw [hW1]
  try rw [← hg]
  try simp only [Act.put]
  clear hW1 hg
  by_cases hd : d < 47
  · have hd2 : (d : Int) < 47 := by omega
    have c0 : W1.cell? ⟨g, d, none⟩ = some (.string (strOfNums (nam d))) := by
      simp only [World.cell?, g1]
      rw [nms_at hd]
      rfl
    generalize strOfNums (nam d) = s at HPo c0
    clear g1
    go_wp2_with fail
    rw [HPo.out]
    exact ⟨rfl, HU.out⟩
  · have hd2 : ¬ (d : Int) < 47 := by omega
    clear g1
    by_cases h6 : d = 60
    · subst h6
      go_wp2_with fail
      rw [HPo.out]
      exact ⟨rfl, HU.out⟩
    · have h62 : ¬ (d : Int) = 60 := by omega
      have HNN : Hid (nam d = []) := nam_none (by omega) h6
      clear h6
      go_wp2_with fail
      rw [HPo.out]
      exact ⟨by rw [HNN.out]; rfl, HU.out⟩
end CD
end Go.Proofs.YtoaaehgnbapibaaDoor
