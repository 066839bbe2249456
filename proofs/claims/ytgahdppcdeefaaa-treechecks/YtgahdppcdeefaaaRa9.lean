/-
  What a node asks for: the document's.
-/
import Derived.Test.YtgahdppcdeefaaaRv9
import Derived.Test.YtgahdppcdeefaaaNe9
namespace Go.Proofs.Ytgahdppcdeefaaa
open Go.RowKit
attribute [local go_sem ↓] Go.wp_at_zero Go.wp_at_succ
namespace TR
def rask (op ks : Int) : List Int × Int × Bool :=
  if op = 1 then ([], 1, decide (0 ≤ ks))
  else if op = 2 then ([], 2, decide (0 ≤ ks))
  else if op = 7 then (if ks = 1 then ([4], 0, true) else ([3, 4], 0, decide (ks = 2)))
  else if op = 10 then ([], 5, decide (0 ≤ ks))
  else if op = 11 ∨ op = 12 ∨ op = 34 ∨ op = 35 ∨ op = 49 then ([3], 0, decide (ks = 1))
  else if op = 13 then ([3, 4, 6], 0, decide (ks = 2) || decide (ks = 3))
  else if op = 14 then ([4], 0, decide (ks = 1))
  else if op = 15 then ([3, 4], 0, decide (ks = 2))
  else if op = 16 then ([3, 4, 4], 0, decide (ks = 2) || decide (ks = 3))
  else if op = 19 then ([], 3, decide (0 ≤ ks))
  else if op = 50 then ([], 7, decide (0 ≤ ks))
  else if 36 ≤ op ∧ op ≤ 48 then ([3, 3], 0, decide (ks = 2))
  else ([], 0, decide (ks = 0))
def AskR (op ks : Int) (w : World) (e : Ending) (w' : World) : Prop := ∃ v, e = .returned (.tuple #[v, .int .i64 (rask op ks).2.1, .bool (rask op ks).2.2]) ∧ w'.ownsRow w.heap.size 3 1 v (rask op ks).1.length (ivn (rask op ks).1) ∧ Up w w'
theorem lit2 {w : World} {a : Obj} {cs : Array Value} {t : TypeId} {n base : Nat} (hb : base ≤ w.heap.size) (hm : n ≤ maxLen) (hs : cs.size = n * 1) : ((w.alloc a).alloc (.cells cs t)).ownsRow base t 1 (.slice (some ⟨w.heap.size + 1, 0, none⟩) n n) n cs.toList := by
  have h := World.ownsRow_lit (base := base) (size := 1) (e := t) (w.alloc a) cs n (by simp; omega) hm hs
  rw [show (w.alloc a).heap.size = w.heap.size + 1 by simp] at h
  exact h
theorem lit3 {w : World} {a b : Obj} {cs : Array Value} {t : TypeId} {n base : Nat} (hb : base ≤ w.heap.size) (hm : n ≤ maxLen) (hs : cs.size = n * 1) : (((w.alloc a).alloc b).alloc (.cells cs t)).ownsRow base t 1 (.slice (some ⟨w.heap.size + 2, 0, none⟩) n n) n cs.toList := by
  have h := World.ownsRow_lit (base := base) (size := 1) (e := t) ((w.alloc a).alloc b) cs n (by simp; omega) hm hs
  rw [show ((w.alloc a).alloc b).heap.size = w.heap.size + 2 by simp] at h
  exact h
set_option maxRecDepth 100000 in
set_option maxHeartbeats 40000000 in
theorem asks_ (x : Nd) (w : World) : Calls Try.prog 35 #[.agg (ndA x)] w (AskR x.op x.kids w) := by
  obtain ⟨op, kd, n, m, l, ps, ks⟩ := x
  show Calls Try.prog 35 #[.agg #[.int .i8 op, .int .i8 kd, .int .i64 n, .int .i64 m, .string (strOfNums l), .int .i64 ps, .int .i64 ks]] w (AskR op ks w)
  obtain ⟨Post, hPost⟩ : ∃ P : Ending → World → Prop, P = AskR op ks w := ⟨_, rfl⟩
  rw [← hPost]
  have HPo : Hid (Post = AskR op ks w) := hPost
  clear hPost
  generalize strOfNums l = s
  by_cases hop : op = 1 ∨ op = 2 ∨ op = 10 ∨ op = 19 ∨ op = 50 ∨ op = 7 ∨ op = 11 ∨ op = 12 ∨ op = 34 ∨ op = 35 ∨ op = 49 ∨ op = 14 ∨ op = 13 ∨ op = 16 ∨ op = 15 ∨ op = 36 ∨ op = 37 ∨ op = 38 ∨ op = 39 ∨ op = 40 ∨ op = 41 ∨ op = 42 ∨ op = 43 ∨ op = 44 ∨ op = 45 ∨ op = 46 ∨ op = 47 ∨ op = 48
  · rcases hop with rfl | rfl | rfl | rfl | rfl | rfl | rfl | rfl | rfl | rfl | rfl | rfl | rfl | rfl | rfl | rfl | rfl | rfl | rfl | rfl | rfl | rfl | rfl | rfl | rfl | rfl | rfl | rfl
    · -- 1
      by_cases c : 0 ≤ ks
      · have HE : Hid (rask 1 ks = ([], 1, true)) := by unfold Hid rask; simp [c]
        unfold AskR at HPo
        rw [HE.out] at HPo
        go_enter Try.func35, Try.ntmps35
        go_wp2_with fail
        all_goals rw [HPo.out]
        all_goals refine ⟨_, rfl, ?_, ?_⟩
        all_goals first
          | exact lit2 (Nat.le_refl _) (by unfold maxLen; omega) rfl
          | exact lit3 (Nat.le_refl _) (by unfold maxLen; omega) rfl
          | exact (((Up.refl _).alloc _).alloc _)
          | exact ((((Up.refl _).alloc _).alloc _).alloc _)
      · have HE : Hid (rask 1 ks = ([], 1, false)) := by unfold Hid rask; simp [c]
        unfold AskR at HPo
        rw [HE.out] at HPo
        go_enter Try.func35, Try.ntmps35
        go_wp2_with fail
        all_goals rw [HPo.out]
        all_goals refine ⟨_, rfl, ?_, ?_⟩
        all_goals first
          | exact lit2 (Nat.le_refl _) (by unfold maxLen; omega) rfl
          | exact lit3 (Nat.le_refl _) (by unfold maxLen; omega) rfl
          | exact (((Up.refl _).alloc _).alloc _)
          | exact ((((Up.refl _).alloc _).alloc _).alloc _)
    · -- 2
      by_cases c : 0 ≤ ks
      · have HE : Hid (rask 2 ks = ([], 2, true)) := by unfold Hid rask; simp [c]
        unfold AskR at HPo
        rw [HE.out] at HPo
        go_enter Try.func35, Try.ntmps35
        go_wp2_with fail
        all_goals rw [HPo.out]
        all_goals refine ⟨_, rfl, ?_, ?_⟩
        all_goals first
          | exact lit2 (Nat.le_refl _) (by unfold maxLen; omega) rfl
          | exact lit3 (Nat.le_refl _) (by unfold maxLen; omega) rfl
          | exact (((Up.refl _).alloc _).alloc _)
          | exact ((((Up.refl _).alloc _).alloc _).alloc _)
      · have HE : Hid (rask 2 ks = ([], 2, false)) := by unfold Hid rask; simp [c]
        unfold AskR at HPo
        rw [HE.out] at HPo
        go_enter Try.func35, Try.ntmps35
        go_wp2_with fail
        all_goals rw [HPo.out]
        all_goals refine ⟨_, rfl, ?_, ?_⟩
        all_goals first
          | exact lit2 (Nat.le_refl _) (by unfold maxLen; omega) rfl
          | exact lit3 (Nat.le_refl _) (by unfold maxLen; omega) rfl
          | exact (((Up.refl _).alloc _).alloc _)
          | exact ((((Up.refl _).alloc _).alloc _).alloc _)
    · -- 10
      by_cases c : 0 ≤ ks
      · have HE : Hid (rask 10 ks = ([], 5, true)) := by unfold Hid rask; simp [c]
        unfold AskR at HPo
        rw [HE.out] at HPo
        go_enter Try.func35, Try.ntmps35
        go_wp2_with fail
        all_goals rw [HPo.out]
        all_goals refine ⟨_, rfl, ?_, ?_⟩
        all_goals first
          | exact lit2 (Nat.le_refl _) (by unfold maxLen; omega) rfl
          | exact lit3 (Nat.le_refl _) (by unfold maxLen; omega) rfl
          | exact (((Up.refl _).alloc _).alloc _)
          | exact ((((Up.refl _).alloc _).alloc _).alloc _)
      · have HE : Hid (rask 10 ks = ([], 5, false)) := by unfold Hid rask; simp [c]
        unfold AskR at HPo
        rw [HE.out] at HPo
        go_enter Try.func35, Try.ntmps35
        go_wp2_with fail
        all_goals rw [HPo.out]
        all_goals refine ⟨_, rfl, ?_, ?_⟩
        all_goals first
          | exact lit2 (Nat.le_refl _) (by unfold maxLen; omega) rfl
          | exact lit3 (Nat.le_refl _) (by unfold maxLen; omega) rfl
          | exact (((Up.refl _).alloc _).alloc _)
          | exact ((((Up.refl _).alloc _).alloc _).alloc _)
    · -- 19
      by_cases c : 0 ≤ ks
      · have HE : Hid (rask 19 ks = ([], 3, true)) := by unfold Hid rask; simp [c]
        unfold AskR at HPo
        rw [HE.out] at HPo
        go_enter Try.func35, Try.ntmps35
        go_wp2_with fail
        all_goals rw [HPo.out]
        all_goals refine ⟨_, rfl, ?_, ?_⟩
        all_goals first
          | exact lit2 (Nat.le_refl _) (by unfold maxLen; omega) rfl
          | exact lit3 (Nat.le_refl _) (by unfold maxLen; omega) rfl
          | exact (((Up.refl _).alloc _).alloc _)
          | exact ((((Up.refl _).alloc _).alloc _).alloc _)
      · have HE : Hid (rask 19 ks = ([], 3, false)) := by unfold Hid rask; simp [c]
        unfold AskR at HPo
        rw [HE.out] at HPo
        go_enter Try.func35, Try.ntmps35
        go_wp2_with fail
        all_goals rw [HPo.out]
        all_goals refine ⟨_, rfl, ?_, ?_⟩
        all_goals first
          | exact lit2 (Nat.le_refl _) (by unfold maxLen; omega) rfl
          | exact lit3 (Nat.le_refl _) (by unfold maxLen; omega) rfl
          | exact (((Up.refl _).alloc _).alloc _)
          | exact ((((Up.refl _).alloc _).alloc _).alloc _)
    · -- 50
      by_cases c : 0 ≤ ks
      · have HE : Hid (rask 50 ks = ([], 7, true)) := by unfold Hid rask; simp [c]
        unfold AskR at HPo
        rw [HE.out] at HPo
        go_enter Try.func35, Try.ntmps35
        go_wp2_with fail
        all_goals rw [HPo.out]
        all_goals refine ⟨_, rfl, ?_, ?_⟩
        all_goals first
          | exact lit2 (Nat.le_refl _) (by unfold maxLen; omega) rfl
          | exact lit3 (Nat.le_refl _) (by unfold maxLen; omega) rfl
          | exact (((Up.refl _).alloc _).alloc _)
          | exact ((((Up.refl _).alloc _).alloc _).alloc _)
      · have HE : Hid (rask 50 ks = ([], 7, false)) := by unfold Hid rask; simp [c]
        unfold AskR at HPo
        rw [HE.out] at HPo
        go_enter Try.func35, Try.ntmps35
        go_wp2_with fail
        all_goals rw [HPo.out]
        all_goals refine ⟨_, rfl, ?_, ?_⟩
        all_goals first
          | exact lit2 (Nat.le_refl _) (by unfold maxLen; omega) rfl
          | exact lit3 (Nat.le_refl _) (by unfold maxLen; omega) rfl
          | exact (((Up.refl _).alloc _).alloc _)
          | exact ((((Up.refl _).alloc _).alloc _).alloc _)
    · -- 7
      by_cases c : ks = 1
      · have HE : Hid (rask 7 ks = ([4], 0, true)) := by unfold Hid rask; simp [c]
        unfold AskR at HPo
        rw [HE.out] at HPo
        subst c
        go_enter Try.func35, Try.ntmps35
        go_wp2_with fail
        all_goals rw [HPo.out]
        all_goals refine ⟨_, rfl, ?_, ?_⟩
        all_goals first
          | exact lit2 (Nat.le_refl _) (by unfold maxLen; omega) rfl
          | exact lit3 (Nat.le_refl _) (by unfold maxLen; omega) rfl
          | exact (((Up.refl _).alloc _).alloc _)
          | exact ((((Up.refl _).alloc _).alloc _).alloc _)
      · have c1 : (ks == 1) = false := by simpa using c
        by_cases c2 : ks = 2
        · have HE : Hid (rask 7 ks = ([3, 4], 0, true)) := by unfold Hid rask; simp [c2]
          unfold AskR at HPo
          rw [HE.out] at HPo
          subst c2
          go_enter Try.func35, Try.ntmps35
          go_wp2_with fail
          all_goals rw [HPo.out]
          all_goals refine ⟨_, rfl, ?_, ?_⟩
          all_goals first
            | exact lit2 (Nat.le_refl _) (by unfold maxLen; omega) rfl
            | exact lit3 (Nat.le_refl _) (by unfold maxLen; omega) rfl
            | exact (((Up.refl _).alloc _).alloc _)
            | exact ((((Up.refl _).alloc _).alloc _).alloc _)
        · have HE : Hid (rask 7 ks = ([3, 4], 0, false)) := by unfold Hid rask; simp [c, c2]
          unfold AskR at HPo
          rw [HE.out] at HPo
          have c3 : (ks == 2) = false := by simpa using c2
          go_enter Try.func35, Try.ntmps35
          go_wp2_with fail
          all_goals rw [HPo.out]
          all_goals refine ⟨_, rfl, ?_, ?_⟩
          all_goals first
            | exact lit2 (Nat.le_refl _) (by unfold maxLen; omega) rfl
            | exact lit3 (Nat.le_refl _) (by unfold maxLen; omega) rfl
            | exact (((Up.refl _).alloc _).alloc _)
            | exact ((((Up.refl _).alloc _).alloc _).alloc _)
    · -- 11
      by_cases c : ks = 1
      · have HE : Hid (rask 11 ks = ([3], 0, true)) := by unfold Hid rask; simp [c]
        unfold AskR at HPo
        rw [HE.out] at HPo
        subst c
        go_enter Try.func35, Try.ntmps35
        go_wp2_with fail
        all_goals rw [HPo.out]
        all_goals refine ⟨_, rfl, ?_, ?_⟩
        all_goals first
          | exact lit2 (Nat.le_refl _) (by unfold maxLen; omega) rfl
          | exact lit3 (Nat.le_refl _) (by unfold maxLen; omega) rfl
          | exact (((Up.refl _).alloc _).alloc _)
          | exact ((((Up.refl _).alloc _).alloc _).alloc _)
      · have HE : Hid (rask 11 ks = ([3], 0, false)) := by unfold Hid rask; simp [c]
        unfold AskR at HPo
        rw [HE.out] at HPo
        have c3 : (ks == 1) = false := by simpa using c
        go_enter Try.func35, Try.ntmps35
        go_wp2_with fail
        all_goals rw [HPo.out]
        all_goals refine ⟨_, rfl, ?_, ?_⟩
        all_goals first
          | exact lit2 (Nat.le_refl _) (by unfold maxLen; omega) rfl
          | exact lit3 (Nat.le_refl _) (by unfold maxLen; omega) rfl
          | exact (((Up.refl _).alloc _).alloc _)
          | exact ((((Up.refl _).alloc _).alloc _).alloc _)
    · -- 12
      by_cases c : ks = 1
      · have HE : Hid (rask 12 ks = ([3], 0, true)) := by unfold Hid rask; simp [c]
        unfold AskR at HPo
        rw [HE.out] at HPo
        subst c
        go_enter Try.func35, Try.ntmps35
        go_wp2_with fail
        all_goals rw [HPo.out]
        all_goals refine ⟨_, rfl, ?_, ?_⟩
        all_goals first
          | exact lit2 (Nat.le_refl _) (by unfold maxLen; omega) rfl
          | exact lit3 (Nat.le_refl _) (by unfold maxLen; omega) rfl
          | exact (((Up.refl _).alloc _).alloc _)
          | exact ((((Up.refl _).alloc _).alloc _).alloc _)
      · have HE : Hid (rask 12 ks = ([3], 0, false)) := by unfold Hid rask; simp [c]
        unfold AskR at HPo
        rw [HE.out] at HPo
        have c3 : (ks == 1) = false := by simpa using c
        go_enter Try.func35, Try.ntmps35
        go_wp2_with fail
        all_goals rw [HPo.out]
        all_goals refine ⟨_, rfl, ?_, ?_⟩
        all_goals first
          | exact lit2 (Nat.le_refl _) (by unfold maxLen; omega) rfl
          | exact lit3 (Nat.le_refl _) (by unfold maxLen; omega) rfl
          | exact (((Up.refl _).alloc _).alloc _)
          | exact ((((Up.refl _).alloc _).alloc _).alloc _)
    · -- 34
      by_cases c : ks = 1
      · have HE : Hid (rask 34 ks = ([3], 0, true)) := by unfold Hid rask; simp [c]
        unfold AskR at HPo
        rw [HE.out] at HPo
        subst c
        go_enter Try.func35, Try.ntmps35
        go_wp2_with fail
        all_goals rw [HPo.out]
        all_goals refine ⟨_, rfl, ?_, ?_⟩
        all_goals first
          | exact lit2 (Nat.le_refl _) (by unfold maxLen; omega) rfl
          | exact lit3 (Nat.le_refl _) (by unfold maxLen; omega) rfl
          | exact (((Up.refl _).alloc _).alloc _)
          | exact ((((Up.refl _).alloc _).alloc _).alloc _)
      · have HE : Hid (rask 34 ks = ([3], 0, false)) := by unfold Hid rask; simp [c]
        unfold AskR at HPo
        rw [HE.out] at HPo
        have c3 : (ks == 1) = false := by simpa using c
        go_enter Try.func35, Try.ntmps35
        go_wp2_with fail
        all_goals rw [HPo.out]
        all_goals refine ⟨_, rfl, ?_, ?_⟩
        all_goals first
          | exact lit2 (Nat.le_refl _) (by unfold maxLen; omega) rfl
          | exact lit3 (Nat.le_refl _) (by unfold maxLen; omega) rfl
          | exact (((Up.refl _).alloc _).alloc _)
          | exact ((((Up.refl _).alloc _).alloc _).alloc _)
    · -- 35
      by_cases c : ks = 1
      · have HE : Hid (rask 35 ks = ([3], 0, true)) := by unfold Hid rask; simp [c]
        unfold AskR at HPo
        rw [HE.out] at HPo
        subst c
        go_enter Try.func35, Try.ntmps35
        go_wp2_with fail
        all_goals rw [HPo.out]
        all_goals refine ⟨_, rfl, ?_, ?_⟩
        all_goals first
          | exact lit2 (Nat.le_refl _) (by unfold maxLen; omega) rfl
          | exact lit3 (Nat.le_refl _) (by unfold maxLen; omega) rfl
          | exact (((Up.refl _).alloc _).alloc _)
          | exact ((((Up.refl _).alloc _).alloc _).alloc _)
      · have HE : Hid (rask 35 ks = ([3], 0, false)) := by unfold Hid rask; simp [c]
        unfold AskR at HPo
        rw [HE.out] at HPo
        have c3 : (ks == 1) = false := by simpa using c
        go_enter Try.func35, Try.ntmps35
        go_wp2_with fail
        all_goals rw [HPo.out]
        all_goals refine ⟨_, rfl, ?_, ?_⟩
        all_goals first
          | exact lit2 (Nat.le_refl _) (by unfold maxLen; omega) rfl
          | exact lit3 (Nat.le_refl _) (by unfold maxLen; omega) rfl
          | exact (((Up.refl _).alloc _).alloc _)
          | exact ((((Up.refl _).alloc _).alloc _).alloc _)
    · -- 49
      by_cases c : ks = 1
      · have HE : Hid (rask 49 ks = ([3], 0, true)) := by unfold Hid rask; simp [c]
        unfold AskR at HPo
        rw [HE.out] at HPo
        subst c
        go_enter Try.func35, Try.ntmps35
        go_wp2_with fail
        all_goals rw [HPo.out]
        all_goals refine ⟨_, rfl, ?_, ?_⟩
        all_goals first
          | exact lit2 (Nat.le_refl _) (by unfold maxLen; omega) rfl
          | exact lit3 (Nat.le_refl _) (by unfold maxLen; omega) rfl
          | exact (((Up.refl _).alloc _).alloc _)
          | exact ((((Up.refl _).alloc _).alloc _).alloc _)
      · have HE : Hid (rask 49 ks = ([3], 0, false)) := by unfold Hid rask; simp [c]
        unfold AskR at HPo
        rw [HE.out] at HPo
        have c3 : (ks == 1) = false := by simpa using c
        go_enter Try.func35, Try.ntmps35
        go_wp2_with fail
        all_goals rw [HPo.out]
        all_goals refine ⟨_, rfl, ?_, ?_⟩
        all_goals first
          | exact lit2 (Nat.le_refl _) (by unfold maxLen; omega) rfl
          | exact lit3 (Nat.le_refl _) (by unfold maxLen; omega) rfl
          | exact (((Up.refl _).alloc _).alloc _)
          | exact ((((Up.refl _).alloc _).alloc _).alloc _)
    · -- 14
      by_cases c : ks = 1
      · have HE : Hid (rask 14 ks = ([4], 0, true)) := by unfold Hid rask; simp [c]
        unfold AskR at HPo
        rw [HE.out] at HPo
        subst c
        go_enter Try.func35, Try.ntmps35
        go_wp2_with fail
        all_goals rw [HPo.out]
        all_goals refine ⟨_, rfl, ?_, ?_⟩
        all_goals first
          | exact lit2 (Nat.le_refl _) (by unfold maxLen; omega) rfl
          | exact lit3 (Nat.le_refl _) (by unfold maxLen; omega) rfl
          | exact (((Up.refl _).alloc _).alloc _)
          | exact ((((Up.refl _).alloc _).alloc _).alloc _)
      · have HE : Hid (rask 14 ks = ([4], 0, false)) := by unfold Hid rask; simp [c]
        unfold AskR at HPo
        rw [HE.out] at HPo
        have c3 : (ks == 1) = false := by simpa using c
        go_enter Try.func35, Try.ntmps35
        go_wp2_with fail
        all_goals rw [HPo.out]
        all_goals refine ⟨_, rfl, ?_, ?_⟩
        all_goals first
          | exact lit2 (Nat.le_refl _) (by unfold maxLen; omega) rfl
          | exact lit3 (Nat.le_refl _) (by unfold maxLen; omega) rfl
          | exact (((Up.refl _).alloc _).alloc _)
          | exact ((((Up.refl _).alloc _).alloc _).alloc _)
    · -- 13
      by_cases c : ks = 2
      · have HE : Hid (rask 13 ks = ([3, 4, 6], 0, true)) := by unfold Hid rask; simp [c]
        unfold AskR at HPo
        rw [HE.out] at HPo
        subst c
        go_enter Try.func35, Try.ntmps35
        go_wp2_with fail
        all_goals rw [HPo.out]
        all_goals refine ⟨_, rfl, ?_, ?_⟩
        all_goals first
          | exact lit2 (Nat.le_refl _) (by unfold maxLen; omega) rfl
          | exact lit3 (Nat.le_refl _) (by unfold maxLen; omega) rfl
          | exact (((Up.refl _).alloc _).alloc _)
          | exact ((((Up.refl _).alloc _).alloc _).alloc _)
      · have c1 : (ks == 2) = false := by simpa using c
        by_cases c2 : ks = 3
        · have HE : Hid (rask 13 ks = ([3, 4, 6], 0, true)) := by unfold Hid rask; simp [c2]
          unfold AskR at HPo
          rw [HE.out] at HPo
          subst c2
          go_enter Try.func35, Try.ntmps35
          go_wp2_with fail
          all_goals rw [HPo.out]
          all_goals refine ⟨_, rfl, ?_, ?_⟩
          all_goals first
            | exact lit2 (Nat.le_refl _) (by unfold maxLen; omega) rfl
            | exact lit3 (Nat.le_refl _) (by unfold maxLen; omega) rfl
            | exact (((Up.refl _).alloc _).alloc _)
            | exact ((((Up.refl _).alloc _).alloc _).alloc _)
        · have HE : Hid (rask 13 ks = ([3, 4, 6], 0, false)) := by unfold Hid rask; simp [c, c2]
          unfold AskR at HPo
          rw [HE.out] at HPo
          have c3 : (ks == 3) = false := by simpa using c2
          go_enter Try.func35, Try.ntmps35
          go_wp2_with fail
          all_goals rw [HPo.out]
          all_goals refine ⟨_, rfl, ?_, ?_⟩
          all_goals first
            | exact lit2 (Nat.le_refl _) (by unfold maxLen; omega) rfl
            | exact lit3 (Nat.le_refl _) (by unfold maxLen; omega) rfl
            | exact (((Up.refl _).alloc _).alloc _)
            | exact ((((Up.refl _).alloc _).alloc _).alloc _)
    · -- 16
      by_cases c : ks = 2
      · have HE : Hid (rask 16 ks = ([3, 4, 4], 0, true)) := by unfold Hid rask; simp [c]
        unfold AskR at HPo
        rw [HE.out] at HPo
        subst c
        go_enter Try.func35, Try.ntmps35
        go_wp2_with fail
        all_goals rw [HPo.out]
        all_goals refine ⟨_, rfl, ?_, ?_⟩
        all_goals first
          | exact lit2 (Nat.le_refl _) (by unfold maxLen; omega) rfl
          | exact lit3 (Nat.le_refl _) (by unfold maxLen; omega) rfl
          | exact (((Up.refl _).alloc _).alloc _)
          | exact ((((Up.refl _).alloc _).alloc _).alloc _)
      · have c1 : (ks == 2) = false := by simpa using c
        by_cases c2 : ks = 3
        · have HE : Hid (rask 16 ks = ([3, 4, 4], 0, true)) := by unfold Hid rask; simp [c2]
          unfold AskR at HPo
          rw [HE.out] at HPo
          subst c2
          go_enter Try.func35, Try.ntmps35
          go_wp2_with fail
          all_goals rw [HPo.out]
          all_goals refine ⟨_, rfl, ?_, ?_⟩
          all_goals first
            | exact lit2 (Nat.le_refl _) (by unfold maxLen; omega) rfl
            | exact lit3 (Nat.le_refl _) (by unfold maxLen; omega) rfl
            | exact (((Up.refl _).alloc _).alloc _)
            | exact ((((Up.refl _).alloc _).alloc _).alloc _)
        · have HE : Hid (rask 16 ks = ([3, 4, 4], 0, false)) := by unfold Hid rask; simp [c, c2]
          unfold AskR at HPo
          rw [HE.out] at HPo
          have c3 : (ks == 3) = false := by simpa using c2
          go_enter Try.func35, Try.ntmps35
          go_wp2_with fail
          all_goals rw [HPo.out]
          all_goals refine ⟨_, rfl, ?_, ?_⟩
          all_goals first
            | exact lit2 (Nat.le_refl _) (by unfold maxLen; omega) rfl
            | exact lit3 (Nat.le_refl _) (by unfold maxLen; omega) rfl
            | exact (((Up.refl _).alloc _).alloc _)
            | exact ((((Up.refl _).alloc _).alloc _).alloc _)
    · -- 15
      by_cases c : ks = 2
      · have HE : Hid (rask 15 ks = ([3, 4], 0, true)) := by unfold Hid rask; simp [c]
        unfold AskR at HPo
        rw [HE.out] at HPo
        subst c
        go_enter Try.func35, Try.ntmps35
        go_wp2_with fail
        all_goals rw [HPo.out]
        all_goals refine ⟨_, rfl, ?_, ?_⟩
        all_goals first
          | exact lit2 (Nat.le_refl _) (by unfold maxLen; omega) rfl
          | exact lit3 (Nat.le_refl _) (by unfold maxLen; omega) rfl
          | exact (((Up.refl _).alloc _).alloc _)
          | exact ((((Up.refl _).alloc _).alloc _).alloc _)
      · have HE : Hid (rask 15 ks = ([3, 4], 0, false)) := by unfold Hid rask; simp [c]
        unfold AskR at HPo
        rw [HE.out] at HPo
        have c3 : (ks == 2) = false := by simpa using c
        go_enter Try.func35, Try.ntmps35
        go_wp2_with fail
        all_goals rw [HPo.out]
        all_goals refine ⟨_, rfl, ?_, ?_⟩
        all_goals first
          | exact lit2 (Nat.le_refl _) (by unfold maxLen; omega) rfl
          | exact lit3 (Nat.le_refl _) (by unfold maxLen; omega) rfl
          | exact (((Up.refl _).alloc _).alloc _)
          | exact ((((Up.refl _).alloc _).alloc _).alloc _)
    · -- 36
      by_cases c : ks = 2
      · have HE : Hid (rask 36 ks = ([3, 3], 0, true)) := by unfold Hid rask; simp [c]
        unfold AskR at HPo
        rw [HE.out] at HPo
        subst c
        go_enter Try.func35, Try.ntmps35
        go_wp2_with fail
        all_goals rw [HPo.out]
        all_goals refine ⟨_, rfl, ?_, ?_⟩
        all_goals first
          | exact lit2 (Nat.le_refl _) (by unfold maxLen; omega) rfl
          | exact lit3 (Nat.le_refl _) (by unfold maxLen; omega) rfl
          | exact (((Up.refl _).alloc _).alloc _)
          | exact ((((Up.refl _).alloc _).alloc _).alloc _)
      · have HE : Hid (rask 36 ks = ([3, 3], 0, false)) := by unfold Hid rask; simp [c]
        unfold AskR at HPo
        rw [HE.out] at HPo
        have c3 : (ks == 2) = false := by simpa using c
        go_enter Try.func35, Try.ntmps35
        go_wp2_with fail
        all_goals rw [HPo.out]
        all_goals refine ⟨_, rfl, ?_, ?_⟩
        all_goals first
          | exact lit2 (Nat.le_refl _) (by unfold maxLen; omega) rfl
          | exact lit3 (Nat.le_refl _) (by unfold maxLen; omega) rfl
          | exact (((Up.refl _).alloc _).alloc _)
          | exact ((((Up.refl _).alloc _).alloc _).alloc _)
    · -- 37
      by_cases c : ks = 2
      · have HE : Hid (rask 37 ks = ([3, 3], 0, true)) := by unfold Hid rask; simp [c]
        unfold AskR at HPo
        rw [HE.out] at HPo
        subst c
        go_enter Try.func35, Try.ntmps35
        go_wp2_with fail
        all_goals rw [HPo.out]
        all_goals refine ⟨_, rfl, ?_, ?_⟩
        all_goals first
          | exact lit2 (Nat.le_refl _) (by unfold maxLen; omega) rfl
          | exact lit3 (Nat.le_refl _) (by unfold maxLen; omega) rfl
          | exact (((Up.refl _).alloc _).alloc _)
          | exact ((((Up.refl _).alloc _).alloc _).alloc _)
      · have HE : Hid (rask 37 ks = ([3, 3], 0, false)) := by unfold Hid rask; simp [c]
        unfold AskR at HPo
        rw [HE.out] at HPo
        have c3 : (ks == 2) = false := by simpa using c
        go_enter Try.func35, Try.ntmps35
        go_wp2_with fail
        all_goals rw [HPo.out]
        all_goals refine ⟨_, rfl, ?_, ?_⟩
        all_goals first
          | exact lit2 (Nat.le_refl _) (by unfold maxLen; omega) rfl
          | exact lit3 (Nat.le_refl _) (by unfold maxLen; omega) rfl
          | exact (((Up.refl _).alloc _).alloc _)
          | exact ((((Up.refl _).alloc _).alloc _).alloc _)
    · -- 38
      by_cases c : ks = 2
      · have HE : Hid (rask 38 ks = ([3, 3], 0, true)) := by unfold Hid rask; simp [c]
        unfold AskR at HPo
        rw [HE.out] at HPo
        subst c
        go_enter Try.func35, Try.ntmps35
        go_wp2_with fail
        all_goals rw [HPo.out]
        all_goals refine ⟨_, rfl, ?_, ?_⟩
        all_goals first
          | exact lit2 (Nat.le_refl _) (by unfold maxLen; omega) rfl
          | exact lit3 (Nat.le_refl _) (by unfold maxLen; omega) rfl
          | exact (((Up.refl _).alloc _).alloc _)
          | exact ((((Up.refl _).alloc _).alloc _).alloc _)
      · have HE : Hid (rask 38 ks = ([3, 3], 0, false)) := by unfold Hid rask; simp [c]
        unfold AskR at HPo
        rw [HE.out] at HPo
        have c3 : (ks == 2) = false := by simpa using c
        go_enter Try.func35, Try.ntmps35
        go_wp2_with fail
        all_goals rw [HPo.out]
        all_goals refine ⟨_, rfl, ?_, ?_⟩
        all_goals first
          | exact lit2 (Nat.le_refl _) (by unfold maxLen; omega) rfl
          | exact lit3 (Nat.le_refl _) (by unfold maxLen; omega) rfl
          | exact (((Up.refl _).alloc _).alloc _)
          | exact ((((Up.refl _).alloc _).alloc _).alloc _)
    · -- 39
      by_cases c : ks = 2
      · have HE : Hid (rask 39 ks = ([3, 3], 0, true)) := by unfold Hid rask; simp [c]
        unfold AskR at HPo
        rw [HE.out] at HPo
        subst c
        go_enter Try.func35, Try.ntmps35
        go_wp2_with fail
        all_goals rw [HPo.out]
        all_goals refine ⟨_, rfl, ?_, ?_⟩
        all_goals first
          | exact lit2 (Nat.le_refl _) (by unfold maxLen; omega) rfl
          | exact lit3 (Nat.le_refl _) (by unfold maxLen; omega) rfl
          | exact (((Up.refl _).alloc _).alloc _)
          | exact ((((Up.refl _).alloc _).alloc _).alloc _)
      · have HE : Hid (rask 39 ks = ([3, 3], 0, false)) := by unfold Hid rask; simp [c]
        unfold AskR at HPo
        rw [HE.out] at HPo
        have c3 : (ks == 2) = false := by simpa using c
        go_enter Try.func35, Try.ntmps35
        go_wp2_with fail
        all_goals rw [HPo.out]
        all_goals refine ⟨_, rfl, ?_, ?_⟩
        all_goals first
          | exact lit2 (Nat.le_refl _) (by unfold maxLen; omega) rfl
          | exact lit3 (Nat.le_refl _) (by unfold maxLen; omega) rfl
          | exact (((Up.refl _).alloc _).alloc _)
          | exact ((((Up.refl _).alloc _).alloc _).alloc _)
    · -- 40
      by_cases c : ks = 2
      · have HE : Hid (rask 40 ks = ([3, 3], 0, true)) := by unfold Hid rask; simp [c]
        unfold AskR at HPo
        rw [HE.out] at HPo
        subst c
        go_enter Try.func35, Try.ntmps35
        go_wp2_with fail
        all_goals rw [HPo.out]
        all_goals refine ⟨_, rfl, ?_, ?_⟩
        all_goals first
          | exact lit2 (Nat.le_refl _) (by unfold maxLen; omega) rfl
          | exact lit3 (Nat.le_refl _) (by unfold maxLen; omega) rfl
          | exact (((Up.refl _).alloc _).alloc _)
          | exact ((((Up.refl _).alloc _).alloc _).alloc _)
      · have HE : Hid (rask 40 ks = ([3, 3], 0, false)) := by unfold Hid rask; simp [c]
        unfold AskR at HPo
        rw [HE.out] at HPo
        have c3 : (ks == 2) = false := by simpa using c
        go_enter Try.func35, Try.ntmps35
        go_wp2_with fail
        all_goals rw [HPo.out]
        all_goals refine ⟨_, rfl, ?_, ?_⟩
        all_goals first
          | exact lit2 (Nat.le_refl _) (by unfold maxLen; omega) rfl
          | exact lit3 (Nat.le_refl _) (by unfold maxLen; omega) rfl
          | exact (((Up.refl _).alloc _).alloc _)
          | exact ((((Up.refl _).alloc _).alloc _).alloc _)
    · -- 41
      by_cases c : ks = 2
      · have HE : Hid (rask 41 ks = ([3, 3], 0, true)) := by unfold Hid rask; simp [c]
        unfold AskR at HPo
        rw [HE.out] at HPo
        subst c
        go_enter Try.func35, Try.ntmps35
        go_wp2_with fail
        all_goals rw [HPo.out]
        all_goals refine ⟨_, rfl, ?_, ?_⟩
        all_goals first
          | exact lit2 (Nat.le_refl _) (by unfold maxLen; omega) rfl
          | exact lit3 (Nat.le_refl _) (by unfold maxLen; omega) rfl
          | exact (((Up.refl _).alloc _).alloc _)
          | exact ((((Up.refl _).alloc _).alloc _).alloc _)
      · have HE : Hid (rask 41 ks = ([3, 3], 0, false)) := by unfold Hid rask; simp [c]
        unfold AskR at HPo
        rw [HE.out] at HPo
        have c3 : (ks == 2) = false := by simpa using c
        go_enter Try.func35, Try.ntmps35
        go_wp2_with fail
        all_goals rw [HPo.out]
        all_goals refine ⟨_, rfl, ?_, ?_⟩
        all_goals first
          | exact lit2 (Nat.le_refl _) (by unfold maxLen; omega) rfl
          | exact lit3 (Nat.le_refl _) (by unfold maxLen; omega) rfl
          | exact (((Up.refl _).alloc _).alloc _)
          | exact ((((Up.refl _).alloc _).alloc _).alloc _)
    · -- 42
      by_cases c : ks = 2
      · have HE : Hid (rask 42 ks = ([3, 3], 0, true)) := by unfold Hid rask; simp [c]
        unfold AskR at HPo
        rw [HE.out] at HPo
        subst c
        go_enter Try.func35, Try.ntmps35
        go_wp2_with fail
        all_goals rw [HPo.out]
        all_goals refine ⟨_, rfl, ?_, ?_⟩
        all_goals first
          | exact lit2 (Nat.le_refl _) (by unfold maxLen; omega) rfl
          | exact lit3 (Nat.le_refl _) (by unfold maxLen; omega) rfl
          | exact (((Up.refl _).alloc _).alloc _)
          | exact ((((Up.refl _).alloc _).alloc _).alloc _)
      · have HE : Hid (rask 42 ks = ([3, 3], 0, false)) := by unfold Hid rask; simp [c]
        unfold AskR at HPo
        rw [HE.out] at HPo
        have c3 : (ks == 2) = false := by simpa using c
        go_enter Try.func35, Try.ntmps35
        go_wp2_with fail
        all_goals rw [HPo.out]
        all_goals refine ⟨_, rfl, ?_, ?_⟩
        all_goals first
          | exact lit2 (Nat.le_refl _) (by unfold maxLen; omega) rfl
          | exact lit3 (Nat.le_refl _) (by unfold maxLen; omega) rfl
          | exact (((Up.refl _).alloc _).alloc _)
          | exact ((((Up.refl _).alloc _).alloc _).alloc _)
    · -- 43
      by_cases c : ks = 2
      · have HE : Hid (rask 43 ks = ([3, 3], 0, true)) := by unfold Hid rask; simp [c]
        unfold AskR at HPo
        rw [HE.out] at HPo
        subst c
        go_enter Try.func35, Try.ntmps35
        go_wp2_with fail
        all_goals rw [HPo.out]
        all_goals refine ⟨_, rfl, ?_, ?_⟩
        all_goals first
          | exact lit2 (Nat.le_refl _) (by unfold maxLen; omega) rfl
          | exact lit3 (Nat.le_refl _) (by unfold maxLen; omega) rfl
          | exact (((Up.refl _).alloc _).alloc _)
          | exact ((((Up.refl _).alloc _).alloc _).alloc _)
      · have HE : Hid (rask 43 ks = ([3, 3], 0, false)) := by unfold Hid rask; simp [c]
        unfold AskR at HPo
        rw [HE.out] at HPo
        have c3 : (ks == 2) = false := by simpa using c
        go_enter Try.func35, Try.ntmps35
        go_wp2_with fail
        all_goals rw [HPo.out]
        all_goals refine ⟨_, rfl, ?_, ?_⟩
        all_goals first
          | exact lit2 (Nat.le_refl _) (by unfold maxLen; omega) rfl
          | exact lit3 (Nat.le_refl _) (by unfold maxLen; omega) rfl
          | exact (((Up.refl _).alloc _).alloc _)
          | exact ((((Up.refl _).alloc _).alloc _).alloc _)
    · -- 44
      by_cases c : ks = 2
      · have HE : Hid (rask 44 ks = ([3, 3], 0, true)) := by unfold Hid rask; simp [c]
        unfold AskR at HPo
        rw [HE.out] at HPo
        subst c
        go_enter Try.func35, Try.ntmps35
        go_wp2_with fail
        all_goals rw [HPo.out]
        all_goals refine ⟨_, rfl, ?_, ?_⟩
        all_goals first
          | exact lit2 (Nat.le_refl _) (by unfold maxLen; omega) rfl
          | exact lit3 (Nat.le_refl _) (by unfold maxLen; omega) rfl
          | exact (((Up.refl _).alloc _).alloc _)
          | exact ((((Up.refl _).alloc _).alloc _).alloc _)
      · have HE : Hid (rask 44 ks = ([3, 3], 0, false)) := by unfold Hid rask; simp [c]
        unfold AskR at HPo
        rw [HE.out] at HPo
        have c3 : (ks == 2) = false := by simpa using c
        go_enter Try.func35, Try.ntmps35
        go_wp2_with fail
        all_goals rw [HPo.out]
        all_goals refine ⟨_, rfl, ?_, ?_⟩
        all_goals first
          | exact lit2 (Nat.le_refl _) (by unfold maxLen; omega) rfl
          | exact lit3 (Nat.le_refl _) (by unfold maxLen; omega) rfl
          | exact (((Up.refl _).alloc _).alloc _)
          | exact ((((Up.refl _).alloc _).alloc _).alloc _)
    · -- 45
      by_cases c : ks = 2
      · have HE : Hid (rask 45 ks = ([3, 3], 0, true)) := by unfold Hid rask; simp [c]
        unfold AskR at HPo
        rw [HE.out] at HPo
        subst c
        go_enter Try.func35, Try.ntmps35
        go_wp2_with fail
        all_goals rw [HPo.out]
        all_goals refine ⟨_, rfl, ?_, ?_⟩
        all_goals first
          | exact lit2 (Nat.le_refl _) (by unfold maxLen; omega) rfl
          | exact lit3 (Nat.le_refl _) (by unfold maxLen; omega) rfl
          | exact (((Up.refl _).alloc _).alloc _)
          | exact ((((Up.refl _).alloc _).alloc _).alloc _)
      · have HE : Hid (rask 45 ks = ([3, 3], 0, false)) := by unfold Hid rask; simp [c]
        unfold AskR at HPo
        rw [HE.out] at HPo
        have c3 : (ks == 2) = false := by simpa using c
        go_enter Try.func35, Try.ntmps35
        go_wp2_with fail
        all_goals rw [HPo.out]
        all_goals refine ⟨_, rfl, ?_, ?_⟩
        all_goals first
          | exact lit2 (Nat.le_refl _) (by unfold maxLen; omega) rfl
          | exact lit3 (Nat.le_refl _) (by unfold maxLen; omega) rfl
          | exact (((Up.refl _).alloc _).alloc _)
          | exact ((((Up.refl _).alloc _).alloc _).alloc _)
    · -- 46
      by_cases c : ks = 2
      · have HE : Hid (rask 46 ks = ([3, 3], 0, true)) := by unfold Hid rask; simp [c]
        unfold AskR at HPo
        rw [HE.out] at HPo
        subst c
        go_enter Try.func35, Try.ntmps35
        go_wp2_with fail
        all_goals rw [HPo.out]
        all_goals refine ⟨_, rfl, ?_, ?_⟩
        all_goals first
          | exact lit2 (Nat.le_refl _) (by unfold maxLen; omega) rfl
          | exact lit3 (Nat.le_refl _) (by unfold maxLen; omega) rfl
          | exact (((Up.refl _).alloc _).alloc _)
          | exact ((((Up.refl _).alloc _).alloc _).alloc _)
      · have HE : Hid (rask 46 ks = ([3, 3], 0, false)) := by unfold Hid rask; simp [c]
        unfold AskR at HPo
        rw [HE.out] at HPo
        have c3 : (ks == 2) = false := by simpa using c
        go_enter Try.func35, Try.ntmps35
        go_wp2_with fail
        all_goals rw [HPo.out]
        all_goals refine ⟨_, rfl, ?_, ?_⟩
        all_goals first
          | exact lit2 (Nat.le_refl _) (by unfold maxLen; omega) rfl
          | exact lit3 (Nat.le_refl _) (by unfold maxLen; omega) rfl
          | exact (((Up.refl _).alloc _).alloc _)
          | exact ((((Up.refl _).alloc _).alloc _).alloc _)
    · -- 47
      by_cases c : ks = 2
      · have HE : Hid (rask 47 ks = ([3, 3], 0, true)) := by unfold Hid rask; simp [c]
        unfold AskR at HPo
        rw [HE.out] at HPo
        subst c
        go_enter Try.func35, Try.ntmps35
        go_wp2_with fail
        all_goals rw [HPo.out]
        all_goals refine ⟨_, rfl, ?_, ?_⟩
        all_goals first
          | exact lit2 (Nat.le_refl _) (by unfold maxLen; omega) rfl
          | exact lit3 (Nat.le_refl _) (by unfold maxLen; omega) rfl
          | exact (((Up.refl _).alloc _).alloc _)
          | exact ((((Up.refl _).alloc _).alloc _).alloc _)
      · have HE : Hid (rask 47 ks = ([3, 3], 0, false)) := by unfold Hid rask; simp [c]
        unfold AskR at HPo
        rw [HE.out] at HPo
        have c3 : (ks == 2) = false := by simpa using c
        go_enter Try.func35, Try.ntmps35
        go_wp2_with fail
        all_goals rw [HPo.out]
        all_goals refine ⟨_, rfl, ?_, ?_⟩
        all_goals first
          | exact lit2 (Nat.le_refl _) (by unfold maxLen; omega) rfl
          | exact lit3 (Nat.le_refl _) (by unfold maxLen; omega) rfl
          | exact (((Up.refl _).alloc _).alloc _)
          | exact ((((Up.refl _).alloc _).alloc _).alloc _)
    · -- 48
      by_cases c : ks = 2
      · have HE : Hid (rask 48 ks = ([3, 3], 0, true)) := by unfold Hid rask; simp [c]
        unfold AskR at HPo
        rw [HE.out] at HPo
        subst c
        go_enter Try.func35, Try.ntmps35
        go_wp2_with fail
        all_goals rw [HPo.out]
        all_goals refine ⟨_, rfl, ?_, ?_⟩
        all_goals first
          | exact lit2 (Nat.le_refl _) (by unfold maxLen; omega) rfl
          | exact lit3 (Nat.le_refl _) (by unfold maxLen; omega) rfl
          | exact (((Up.refl _).alloc _).alloc _)
          | exact ((((Up.refl _).alloc _).alloc _).alloc _)
      · have HE : Hid (rask 48 ks = ([3, 3], 0, false)) := by unfold Hid rask; simp [c]
        unfold AskR at HPo
        rw [HE.out] at HPo
        have c3 : (ks == 2) = false := by simpa using c
        go_enter Try.func35, Try.ntmps35
        go_wp2_with fail
        all_goals rw [HPo.out]
        all_goals refine ⟨_, rfl, ?_, ?_⟩
        all_goals first
          | exact lit2 (Nat.le_refl _) (by unfold maxLen; omega) rfl
          | exact lit3 (Nat.le_refl _) (by unfold maxLen; omega) rfl
          | exact (((Up.refl _).alloc _).alloc _)
          | exact ((((Up.refl _).alloc _).alloc _).alloc _)
  · have hall : (op == 1) = false ∧ (op == 2) = false ∧ (op == 10) = false ∧ (op == 19) = false ∧ (op == 50) = false ∧ (op == 7) = false ∧ (op == 11) = false ∧ (op == 12) = false ∧ (op == 34) = false ∧ (op == 35) = false ∧ (op == 49) = false ∧ (op == 14) = false ∧ (op == 13) = false ∧ (op == 16) = false ∧ (op == 15) = false := by
      simp only [beq_eq_false_iff_ne]
      refine ⟨?_, ?_, ?_, ?_, ?_, ?_, ?_, ?_, ?_, ?_, ?_, ?_, ?_, ?_, ?_⟩ <;> (intro h; exact hop (by simp [h]))
    obtain ⟨k1, k2, k10, k19, k50, k7, k11, k12, k34, k35, k49, k14, k13, k16, k15⟩ := hall
    have hr : ¬ (36 ≤ op ∧ op ≤ 48) := fun h => hop (by omega)
    by_cases c : ks = 0
    · have HE : Hid (rask op ks = ([], 0, true)) := by
        unfold Hid rask
        rw [if_neg (fun h => hop (by omega)), if_neg (fun h => hop (by omega)), if_neg (fun h => hop (by omega)), if_neg (fun h => hop (by omega)), if_neg (fun h => hop (by omega)), if_neg (fun h => hop (by omega)), if_neg (fun h => hop (by omega)), if_neg (fun h => hop (by omega)), if_neg (fun h => hop (by omega)), if_neg (fun h => hop (by omega)), if_neg (fun h => hop (by omega)), if_neg hr, decide_eq_true c]
      unfold AskR at HPo
      rw [HE.out] at HPo
      clear hop
      subst c
      by_cases d1 : 36 ≤ op
      · have d2 : ¬ op ≤ 48 := fun h => hr ⟨d1, h⟩
        clear hr
        go_enter Try.func35, Try.ntmps35
        go_wp2_with fail
        all_goals rw [HPo.out]
        all_goals refine ⟨_, rfl, ?_, ?_⟩
        all_goals first
          | exact lit2 (Nat.le_refl _) (by unfold maxLen; omega) rfl
          | exact lit3 (Nat.le_refl _) (by unfold maxLen; omega) rfl
          | exact (((Up.refl _).alloc _).alloc _)
          | exact ((((Up.refl _).alloc _).alloc _).alloc _)
      · clear hr
        go_enter Try.func35, Try.ntmps35
        go_wp2_with fail
        all_goals rw [HPo.out]
        all_goals refine ⟨_, rfl, ?_, ?_⟩
        all_goals first
          | exact lit2 (Nat.le_refl _) (by unfold maxLen; omega) rfl
          | exact lit3 (Nat.le_refl _) (by unfold maxLen; omega) rfl
          | exact (((Up.refl _).alloc _).alloc _)
          | exact ((((Up.refl _).alloc _).alloc _).alloc _)
    · have HE : Hid (rask op ks = ([], 0, false)) := by
        unfold Hid rask
        rw [if_neg (fun h => hop (by omega)), if_neg (fun h => hop (by omega)), if_neg (fun h => hop (by omega)), if_neg (fun h => hop (by omega)), if_neg (fun h => hop (by omega)), if_neg (fun h => hop (by omega)), if_neg (fun h => hop (by omega)), if_neg (fun h => hop (by omega)), if_neg (fun h => hop (by omega)), if_neg (fun h => hop (by omega)), if_neg (fun h => hop (by omega)), if_neg hr, decide_eq_false c]
      unfold AskR at HPo
      rw [HE.out] at HPo
      clear hop
      have c3 : (ks == 0) = false := by simpa using c
      by_cases d1 : 36 ≤ op
      · have d2 : ¬ op ≤ 48 := fun h => hr ⟨d1, h⟩
        clear hr
        go_enter Try.func35, Try.ntmps35
        go_wp2_with fail
        all_goals rw [HPo.out]
        all_goals refine ⟨_, rfl, ?_, ?_⟩
        all_goals first
          | exact lit2 (Nat.le_refl _) (by unfold maxLen; omega) rfl
          | exact lit3 (Nat.le_refl _) (by unfold maxLen; omega) rfl
          | exact (((Up.refl _).alloc _).alloc _)
          | exact ((((Up.refl _).alloc _).alloc _).alloc _)
      · clear hr
        go_enter Try.func35, Try.ntmps35
        go_wp2_with fail
        all_goals rw [HPo.out]
        all_goals refine ⟨_, rfl, ?_, ?_⟩
        all_goals first
          | exact lit2 (Nat.le_refl _) (by unfold maxLen; omega) rfl
          | exact lit3 (Nat.le_refl _) (by unfold maxLen; omega) rfl
          | exact (((Up.refl _).alloc _).alloc _)
          | exact ((((Up.refl _).alloc _).alloc _).alloc _)
end TR
end Go.Proofs.Ytgahdppcdeefaaa
