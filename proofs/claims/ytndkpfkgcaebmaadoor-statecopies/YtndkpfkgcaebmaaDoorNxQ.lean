/-
  New.
-/
import Derived.Test.YtndkpfkgcaebmaaDoorNwToBkg
namespace Go.Proofs.YtndkpfkgcaebmaaDoor
open Go.RowKit
attribute [local go_sem ↓] Go.wp_at_zero Go.wp_at_succ

namespace ST
set_option maxRecDepth 100000 in
theorem new_make (n : Nat) (hn : n ≤ 4) : ∃ MP MZ : List Value, MP.length = n * 3 ∧ MZ = List.replicate (4 * n) (.slice none 0 0) ∧
    (∀ w : World, (Instr.makeSlice 22 (.int .i64 n) (.int .i64 n)).run Tryd.prog w = .ok (.slice (some ⟨w.heap.size, 0, none⟩) n n) (w.alloc (.cells MP.toArray 71))) ∧
    (∀ w : World, (Instr.makeSlice 24 (.int .i64 (4 * (n : Int))) (.int .i64 (4 * (n : Int)))).run Tryd.prog w = .ok (.slice (some ⟨w.heap.size, 0, none⟩) (4 * n) (4 * n)) (w.alloc (.cells MZ.toArray 74))) := by
  obtain ⟨iP, hiP, p0, p1, p2⟩ := info_parts infoP
  obtain ⟨iR, hiR, r0, r1, r2⟩ := info_parts infoR
  refine ⟨(madeCells (Value.agg #[.int .i32 0, .int .i32 0, .bool false]).cells (n * 3)).toList, List.replicate (4 * n) (.slice none 0 0), by simp [size_madeCells], rfl, fun w => ?_, fun w => ?_⟩
  · have := run_make (P := Tryd.prog) w 22 71 iP _ Tryd.underlying22 hiP p0 .i64 .i64 n n (by omega) (by omega) (by rw [p2]; omega) (by omega)
    rw [this, p1]
    simp
  · have := run_make (P := Tryd.prog) w 24 74 iR _ Tryd.underlying24 hiR r0 .i64 .i64 (4 * (n : Int)) (4 * (n : Int)) (by omega) (by omega) (by rw [r2]; omega) (by omega)
    rw [this, r1]
    have e : (4 * (n : Int)).toNat = 4 * n := by omega
    rw [e, Nat.mul_one]
    congr 3
    have := toList_madeCells_one (.slice none 0 0) (4 * n)
    rw [← this]
    simp [Value.cells]
set_option maxRecDepth 100000 in
set_option maxHeartbeats 8000000 in
theorem new_ (v : Value) (ds : List (List Crd)) (li en : Int) (w : World) (hv : DL w v ds) (hn : ds.length ≤ 140737488355328) (hl : ∀ r, r < ds.length → (ds.getD r []).length ≤ 140737488355328) :
    Calls Tryd.prog 17 #[v, .int .i32 li, .int .i32 en] w (NPost w (newR ds li en) (newE ds li en)) := by
  obtain ⟨Post, hPost⟩ : ∃ P : Ending → World → Prop, P = NPost w (newR ds li en) (newE ds li en) := ⟨_, rfl⟩
  rw [← hPost]
  have HP : Hid (Post = NPost w (newR ds li en) (newE ds li en)) := hPost
  obtain ⟨a3, k3, rfl, -, c3⟩ := dl_at hv
  have HD : Hid (∀ W, Up w W → Calls Tryd.prog 66 #[.slice a3 ds.length k3] W fun e w' => e = .returned (.bool (decksB ds)) ∧ Up W w') := fun W u => decksFit_ _ ds W (hv.up u) hn hl
  obtain ⟨n, hn0⟩ : ∃ n, n = ds.length := ⟨_, rfl⟩
  rw [← hn0] at hn hl c3 HD ⊢
  have HC : Hid _ := c3
  have HL : Hid _ := hl
  have HN : Hid (n = ds.length) := hn0
  clear hPost hv c3 hl hn0
  cases hd : decksB ds
  · have HR : Hid (newR ds li en = noS ∧ newE ds li en = 1) := by constructor <;> simp [newR, newE, newB, hd]
    rw [hd] at HD
    clear hd
    go_enter Tryd.func17, Tryd.ntmps17
    go_wp2_with fail
    refine Calls.mono (HD.out _ ((Up.refl _).alloc _)) ?_
    rintro e w1 ⟨rfl, u1⟩
    have g6 : w1.heap[w.heap.size]? = some (.cells stZ 27 (0, 0)) := u1.heap (heap_alloc_new w _)
    have HU : Hid (Up w w1) := ((Up.refl _).alloc _).trans u1
    clear u1
    have yf := seven_f g6
    have HG : Hid _ := g6
    obtain ⟨y0, y1, y2, y3, y4, y5, y6⟩ := seven_cells g6
    clear g6
    go_wp2_with fail
    obtain ⟨p0, p1, p2, p3, p4, p5, p6⟩ := seven_cells (seven_set (x0 := .slice none 0 0) (x1 := .slice none 0 0) (x2 := .slice none 0 0) (x3 := .int .i32 0) (x4 := .int .i64 0) (x5 := .int .i8 0) (x6 := .int .i64 0) HG.out)
    refine bodyPost_ret (v := .tuple #[.agg stZ, .int .i64 1]) (by simp [results, Tryd.results17, go_sem, p0, p1, p2, p3, p4, p5, p6]; rfl) rfl ?_
    rw [HP.out, HR.out.1, HR.out.2]
    have hb : w.heap.size ≤ w.heap.size := Nat.le_refl _
    exact ⟨_, rfl, noS_own _ _, Up.set (Up.set (Up.set (Up.set (Up.set (Up.set (Up.set HU.out _ _ hb) _ _ hb) _ _ hb) _ _ hb) _ _ hb) _ _ hb) _ _ hb⟩
  · rw [hd] at HD
    cases h1 : statB li
    · have HR : Hid (newR ds li en = noS ∧ newE ds li en = 1) := by constructor <;> simp [newR, newE, newB, h1]
      clear hd
      go_enter Tryd.func17, Tryd.ntmps17
      go_wp2_with fail
      refine Calls.mono (HD.out _ ((Up.refl _).alloc _)) ?_
      rintro e w1 ⟨rfl, u1⟩
      have g6 : w1.heap[w.heap.size]? = some (.cells stZ 27 (0, 0)) := u1.heap (heap_alloc_new w _)
      have HU : Hid (Up w w1) := ((Up.refl _).alloc _).trans u1
      clear u1
      have yf := seven_f g6
      have HG : Hid _ := g6
      obtain ⟨y0, y1, y2, y3, y4, y5, y6⟩ := seven_cells g6
      clear g6
      go_wp2_with fail
      refine Calls.mono (isStatB _ false h1 _) ?_
      rintro e9 w9 ⟨rfl, rfl⟩
      go_wp2_with fail
      obtain ⟨p0, p1, p2, p3, p4, p5, p6⟩ := seven_cells (seven_set (x0 := .slice none 0 0) (x1 := .slice none 0 0) (x2 := .slice none 0 0) (x3 := .int .i32 0) (x4 := .int .i64 0) (x5 := .int .i8 0) (x6 := .int .i64 0) HG.out)
      refine bodyPost_ret (v := .tuple #[.agg stZ, .int .i64 1]) (by simp [results, Tryd.results17, go_sem, p0, p1, p2, p3, p4, p5, p6]; rfl) rfl ?_
      rw [HP.out, HR.out.1, HR.out.2]
      have hb : w.heap.size ≤ w.heap.size := Nat.le_refl _
      exact ⟨_, rfl, noS_own _ _, Up.set (Up.set (Up.set (Up.set (Up.set (Up.set (Up.set HU.out _ _ hb) _ _ hb) _ _ hb) _ _ hb) _ _ hb) _ _ hb) _ _ hb⟩
    · cases h2 : statB en
      · have HR : Hid (newR ds li en = noS ∧ newE ds li en = 1) := by constructor <;> simp [newR, newE, newB, h2]
        clear hd
        go_enter Tryd.func17, Tryd.ntmps17
        go_wp2_with fail
        refine Calls.mono (HD.out _ ((Up.refl _).alloc _)) ?_
        rintro e w1 ⟨rfl, u1⟩
        have g6 : w1.heap[w.heap.size]? = some (.cells stZ 27 (0, 0)) := u1.heap (heap_alloc_new w _)
        have HU : Hid (Up w w1) := ((Up.refl _).alloc _).trans u1
        clear u1
        have yf := seven_f g6
        have HG : Hid _ := g6
        obtain ⟨y0, y1, y2, y3, y4, y5, y6⟩ := seven_cells g6
        clear g6
        go_wp2_with fail
        refine Calls.mono (isStatB _ true h1 _) ?_
        rintro e9 w9 ⟨rfl, rfl⟩
        go_wp2_with fail
        refine Calls.mono (isStatB _ false h2 _) ?_
        rintro e9 w9 ⟨rfl, rfl⟩
        go_wp2_with fail
        obtain ⟨p0, p1, p2, p3, p4, p5, p6⟩ := seven_cells (seven_set (x0 := .slice none 0 0) (x1 := .slice none 0 0) (x2 := .slice none 0 0) (x3 := .int .i32 0) (x4 := .int .i64 0) (x5 := .int .i8 0) (x6 := .int .i64 0) HG.out)
        refine bodyPost_ret (v := .tuple #[.agg stZ, .int .i64 1]) (by simp [results, Tryd.results17, go_sem, p0, p1, p2, p3, p4, p5, p6]; rfl) rfl ?_
        rw [HP.out, HR.out.1, HR.out.2]
        have hb : w.heap.size ≤ w.heap.size := Nat.le_refl _
        exact ⟨_, rfl, noS_own _ _, Up.set (Up.set (Up.set (Up.set (Up.set (Up.set (Up.set HU.out _ _ hb) _ _ hb) _ _ hb) _ _ hb) _ _ hb) _ _ hb) _ _ hb⟩
      · have HR : Hid (newR ds li en = newS ds li en ∧ newE ds li en = 0) := by constructor <;> simp [newR, newE, newB, h1, h2, hd]
        have HDs : Hid (decksB ds = true) := hd
        have hn4 : n ≤ 4 := by
          simp only [decksB, npB, Bool.and_eq_true, decide_eq_true_eq] at hd
          rw [HN.out]; omega
        obtain ⟨MP, MZ, m1, m2, hm1, hm2⟩ := new_make n hn4
        have HM : Hid (MP.length = n * 3 ∧ MZ = List.replicate (4 * n) (.slice none 0 0)) := ⟨m1, m2⟩
        clear hd m1 m2
        go_enter Tryd.func17, Tryd.ntmps17
        go_wp2_with fail
        refine Calls.mono (HD.out _ ((Up.refl _).alloc _)) ?_
        rintro e w1 ⟨rfl, u1⟩
        have g6 : w1.heap[w.heap.size]? = some (.cells stZ 27 (0, 0)) := u1.heap (heap_alloc_new w _)
        have HU : Hid (Up w w1 ∧ w.heap.size + 1 ≤ w1.heap.size) := ⟨((Up.refl _).alloc _).trans u1, by have := u1.size; simp at this; omega⟩
        have HG : Hid _ := g6
        clear u1 g6
        go_wp2_with fail
        refine Calls.mono (isStatB _ true h1 _) ?_
        rintro e9 w9 ⟨rfl, rfl⟩
        go_wp2_with fail
        refine Calls.mono (isStatB _ true h2 _) ?_
        rintro e9 w9 ⟨rfl, rfl⟩
        go_wp2_with fail
        refine (fun key : ∀ gs gp gz W, Start w n li en gs gp gz W → (?G : Nat → Nat → Nat → World → Prop) gs gp gz W => ?main) ?kp
        case main =>
          go_region
          · obtain ⟨tp, tz, ts⟩ := three_blocks w9 (MP.toArray) (MZ.toArray) (#[.slice (some ⟨w9.heap.size, 0, none⟩) n n, .slice none 0 0, .slice (some ⟨(w9.heap.size + 1), 0, none⟩) (4 * n) (4 * n), .int .i32 1, .int .i64 0, .int .i8 0, .int .i64 0]) 71 74 27
            have st : Start w n li en (w9.heap.size + 1 + 1) w9.heap.size (w9.heap.size + 1) ((((w9.alloc (.cells MP.toArray 71)).alloc (.cells MZ.toArray 74)).alloc (.cells #[.slice (some ⟨w9.heap.size, 0, none⟩) n n, .slice none 0 0, .slice (some ⟨(w9.heap.size + 1), 0, none⟩) (4 * n) (4 * n), .int .i32 1, .int .i64 0, .int .i8 0, .int .i64 0] 27)).drew) := start_of HM.out ⟨rfl, by have := HU.out.2; omega, by have := HU.out.2; omega, by have := HU.out.2; omega, by omega, by omega, by omega⟩ (B := w9.heap.size + 3) (by simp) (((HU.out.1.alloc _).alloc _).alloc _).drew (((((Up.refl _).alloc _).alloc _).alloc _).drew.heap HG.out) ts tp tz
            clear tp tz ts
            revert st
            generalize (((w9.alloc (.cells MP.toArray 71)).alloc (.cells MZ.toArray 74)).alloc (.cells #[.slice (some ⟨w9.heap.size, 0, none⟩) n n, .slice none 0 0, .slice (some ⟨(w9.heap.size + 1), 0, none⟩) (4 * n) (4 * n), .int .i32 1, .int .i64 0, .int .i8 0, .int .i64 0] 27)).drew = W
            generalize (w9.heap.size + 1 + 1) = gs
            generalize (w9.heap.size + 1) = gz
            generalize w9.heap.size = gp
            intro st
            exact key gs gp gz W st
          · obtain ⟨tp, ts, tz⟩ := three_blocks w9 (MP.toArray) (#[.slice (some ⟨w9.heap.size, 0, none⟩) n n, .slice none 0 0, .slice (some ⟨(w9.heap.size + 1 + 1), 0, none⟩) (4 * n) (4 * n), .int .i32 1, .int .i64 0, .int .i8 0, .int .i64 0]) (MZ.toArray) 71 27 74
            have st : Start w n li en (w9.heap.size + 1) w9.heap.size (w9.heap.size + 1 + 1) ((((w9.alloc (.cells MP.toArray 71)).alloc (.cells #[.slice (some ⟨w9.heap.size, 0, none⟩) n n, .slice none 0 0, .slice (some ⟨(w9.heap.size + 1 + 1), 0, none⟩) (4 * n) (4 * n), .int .i32 1, .int .i64 0, .int .i8 0, .int .i64 0] 27)).alloc (.cells MZ.toArray 74)).drew) := start_of HM.out ⟨rfl, by have := HU.out.2; omega, by have := HU.out.2; omega, by have := HU.out.2; omega, by omega, by omega, by omega⟩ (B := w9.heap.size + 3) (by simp) (((HU.out.1.alloc _).alloc _).alloc _).drew (((((Up.refl _).alloc _).alloc _).alloc _).drew.heap HG.out) ts tp tz
            clear tp tz ts
            revert st
            generalize (((w9.alloc (.cells MP.toArray 71)).alloc (.cells #[.slice (some ⟨w9.heap.size, 0, none⟩) n n, .slice none 0 0, .slice (some ⟨(w9.heap.size + 1 + 1), 0, none⟩) (4 * n) (4 * n), .int .i32 1, .int .i64 0, .int .i8 0, .int .i64 0] 27)).alloc (.cells MZ.toArray 74)).drew = W
            generalize (w9.heap.size + 1 + 1) = gz
            generalize (w9.heap.size + 1) = gs
            generalize w9.heap.size = gp
            intro st
            exact key gs gp gz W st
          · obtain ⟨tz, tp, ts⟩ := three_blocks w9 (MZ.toArray) (MP.toArray) (#[.slice (some ⟨(w9.heap.size + 1), 0, none⟩) n n, .slice none 0 0, .slice (some ⟨w9.heap.size, 0, none⟩) (4 * n) (4 * n), .int .i32 1, .int .i64 0, .int .i8 0, .int .i64 0]) 74 71 27
            have st : Start w n li en (w9.heap.size + 1 + 1) (w9.heap.size + 1) w9.heap.size ((((w9.alloc (.cells MZ.toArray 74)).alloc (.cells MP.toArray 71)).alloc (.cells #[.slice (some ⟨(w9.heap.size + 1), 0, none⟩) n n, .slice none 0 0, .slice (some ⟨w9.heap.size, 0, none⟩) (4 * n) (4 * n), .int .i32 1, .int .i64 0, .int .i8 0, .int .i64 0] 27)).drew) := start_of HM.out ⟨rfl, by have := HU.out.2; omega, by have := HU.out.2; omega, by have := HU.out.2; omega, by omega, by omega, by omega⟩ (B := w9.heap.size + 3) (by simp) (((HU.out.1.alloc _).alloc _).alloc _).drew (((((Up.refl _).alloc _).alloc _).alloc _).drew.heap HG.out) ts tp tz
            clear tp tz ts
            revert st
            generalize (((w9.alloc (.cells MZ.toArray 74)).alloc (.cells MP.toArray 71)).alloc (.cells #[.slice (some ⟨(w9.heap.size + 1), 0, none⟩) n n, .slice none 0 0, .slice (some ⟨w9.heap.size, 0, none⟩) (4 * n) (4 * n), .int .i32 1, .int .i64 0, .int .i8 0, .int .i64 0] 27)).drew = W
            generalize (w9.heap.size + 1 + 1) = gs
            generalize (w9.heap.size + 1) = gp
            generalize w9.heap.size = gz
            intro st
            exact key gs gp gz W st
          · obtain ⟨tz, ts, tp⟩ := three_blocks w9 (MZ.toArray) (#[.slice (some ⟨(w9.heap.size + 1 + 1), 0, none⟩) n n, .slice none 0 0, .slice (some ⟨w9.heap.size, 0, none⟩) (4 * n) (4 * n), .int .i32 1, .int .i64 0, .int .i8 0, .int .i64 0]) (MP.toArray) 74 27 71
            have st : Start w n li en (w9.heap.size + 1) (w9.heap.size + 1 + 1) w9.heap.size ((((w9.alloc (.cells MZ.toArray 74)).alloc (.cells #[.slice (some ⟨(w9.heap.size + 1 + 1), 0, none⟩) n n, .slice none 0 0, .slice (some ⟨w9.heap.size, 0, none⟩) (4 * n) (4 * n), .int .i32 1, .int .i64 0, .int .i8 0, .int .i64 0] 27)).alloc (.cells MP.toArray 71)).drew) := start_of HM.out ⟨rfl, by have := HU.out.2; omega, by have := HU.out.2; omega, by have := HU.out.2; omega, by omega, by omega, by omega⟩ (B := w9.heap.size + 3) (by simp) (((HU.out.1.alloc _).alloc _).alloc _).drew (((((Up.refl _).alloc _).alloc _).alloc _).drew.heap HG.out) ts tp tz
            clear tp tz ts
            revert st
            generalize (((w9.alloc (.cells MZ.toArray 74)).alloc (.cells #[.slice (some ⟨(w9.heap.size + 1 + 1), 0, none⟩) n n, .slice none 0 0, .slice (some ⟨w9.heap.size, 0, none⟩) (4 * n) (4 * n), .int .i32 1, .int .i64 0, .int .i8 0, .int .i64 0] 27)).alloc (.cells MP.toArray 71)).drew = W
            generalize (w9.heap.size + 1 + 1) = gp
            generalize (w9.heap.size + 1) = gs
            generalize w9.heap.size = gz
            intro st
            exact key gs gp gz W st
          · obtain ⟨ts, tp, tz⟩ := three_blocks w9 (#[.slice (some ⟨(w9.heap.size + 1), 0, none⟩) n n, .slice none 0 0, .slice (some ⟨(w9.heap.size + 1 + 1), 0, none⟩) (4 * n) (4 * n), .int .i32 1, .int .i64 0, .int .i8 0, .int .i64 0]) (MP.toArray) (MZ.toArray) 27 71 74
            have st : Start w n li en w9.heap.size (w9.heap.size + 1) (w9.heap.size + 1 + 1) ((((w9.alloc (.cells #[.slice (some ⟨(w9.heap.size + 1), 0, none⟩) n n, .slice none 0 0, .slice (some ⟨(w9.heap.size + 1 + 1), 0, none⟩) (4 * n) (4 * n), .int .i32 1, .int .i64 0, .int .i8 0, .int .i64 0] 27)).alloc (.cells MP.toArray 71)).alloc (.cells MZ.toArray 74)).drew) := start_of HM.out ⟨rfl, by have := HU.out.2; omega, by have := HU.out.2; omega, by have := HU.out.2; omega, by omega, by omega, by omega⟩ (B := w9.heap.size + 3) (by simp) (((HU.out.1.alloc _).alloc _).alloc _).drew (((((Up.refl _).alloc _).alloc _).alloc _).drew.heap HG.out) ts tp tz
            clear tp tz ts
            revert st
            generalize (((w9.alloc (.cells #[.slice (some ⟨(w9.heap.size + 1), 0, none⟩) n n, .slice none 0 0, .slice (some ⟨(w9.heap.size + 1 + 1), 0, none⟩) (4 * n) (4 * n), .int .i32 1, .int .i64 0, .int .i8 0, .int .i64 0] 27)).alloc (.cells MP.toArray 71)).alloc (.cells MZ.toArray 74)).drew = W
            generalize (w9.heap.size + 1 + 1) = gz
            generalize (w9.heap.size + 1) = gp
            generalize w9.heap.size = gs
            intro st
            exact key gs gp gz W st
          · obtain ⟨ts, tz, tp⟩ := three_blocks w9 (#[.slice (some ⟨(w9.heap.size + 1 + 1), 0, none⟩) n n, .slice none 0 0, .slice (some ⟨(w9.heap.size + 1), 0, none⟩) (4 * n) (4 * n), .int .i32 1, .int .i64 0, .int .i8 0, .int .i64 0]) (MZ.toArray) (MP.toArray) 27 74 71
            have st : Start w n li en w9.heap.size (w9.heap.size + 1 + 1) (w9.heap.size + 1) ((((w9.alloc (.cells #[.slice (some ⟨(w9.heap.size + 1 + 1), 0, none⟩) n n, .slice none 0 0, .slice (some ⟨(w9.heap.size + 1), 0, none⟩) (4 * n) (4 * n), .int .i32 1, .int .i64 0, .int .i8 0, .int .i64 0] 27)).alloc (.cells MZ.toArray 74)).alloc (.cells MP.toArray 71)).drew) := start_of HM.out ⟨rfl, by have := HU.out.2; omega, by have := HU.out.2; omega, by have := HU.out.2; omega, by omega, by omega, by omega⟩ (B := w9.heap.size + 3) (by simp) (((HU.out.1.alloc _).alloc _).alloc _).drew (((((Up.refl _).alloc _).alloc _).alloc _).drew.heap HG.out) ts tp tz
            clear tp tz ts
            revert st
            generalize (((w9.alloc (.cells #[.slice (some ⟨(w9.heap.size + 1 + 1), 0, none⟩) n n, .slice none 0 0, .slice (some ⟨(w9.heap.size + 1), 0, none⟩) (4 * n) (4 * n), .int .i32 1, .int .i64 0, .int .i8 0, .int .i64 0] 27)).alloc (.cells MZ.toArray 74)).alloc (.cells MP.toArray 71)).drew = W
            generalize (w9.heap.size + 1 + 1) = gp
            generalize (w9.heap.size + 1) = gz
            generalize w9.heap.size = gs
            intro st
            exact key gs gp gz W st
        case kp =>
          intro gs gp gz W0 st
          obtain ⟨B, hf, hnw⟩ := st
          have HF : Hid (Fix w B w.heap.size gs gp gz) := hf
          have HW : Hid (NW w W0 B w.heap.size gs gp gz n li en nl [] 0 []) := hnw
          clear hf hnw HU HG HM hm1 hm2
          obtain ⟨b6, hb6⟩ : ∃ b, b = w.heap.size := ⟨_, rfl⟩
          rw [← hb6] at HF HW ⊢
          have HB6 : Hid (b6 = w.heap.size) := hb6
          clear hb6
          go_wp2_with fail
          go_loopw [37] (fun s37 W => ∃ (p : Nat) (va : Option Addr) (vk : Nat), p ≤ n ∧ s37 = .int .i64 p ∧ NW w W B b6 gs gp gz n li en (.slice va (total (ds.take p)) vk) (cardsF 0 (ds.take p)) p (zonesF 0 (ds.take p))) (fun s37 _ => n - (intOf s37).toNat)
          case atStart => exact ⟨0, none, 0, Nat.zero_le _, rfl, HW.out⟩
          case round =>
            obtain ⟨p, va, vk, hp, rfl, hnw⟩ := hrel
            clear HW
            have HW : Hid _ := hnw
            clear hnw
            by_cases hlt : p < n
            · have hlt2 : (p : Int) < (n : Int) := by omega
              obtain ⟨b3, o3, rfl, hrow⟩ := HC.out (by omega)
              obtain ⟨ra, rc, hcell, hcl⟩ := hrow p hlt
              have x1 := hcell _ HW.out.2.2.2.2.2.1
              have hpd : p < ds.length := by rw [← HN.out]; exact hlt
              have htk : (ds.take p).length = p := by simp; omega
              have HDe : Hid (ds.take (p + 1) = ds.take p ++ [ds.getD p []]) := by
                unfold Hid
                rw [List.take_add_one, List.getElem?_eq_getElem hpd, List.getD_eq_getElem?_getD, List.getElem?_eq_getElem hpd]
                rfl
              have htot : total ds ≤ 256 := by
                have := HDs.out
                simp only [decksB, ncB, Bool.and_eq_true, decide_eq_true_eq] at this
                omega
              have hle : total (ds.take p) + (ds.getD p []).length ≤ 256 := by
                have e := tot_next ds p hpd
                have : total (ds.take (p + 1)) ≤ total ds := by
                  have h : ds = ds.take (p + 1) ++ ds.drop (p + 1) := (List.take_append_drop _ _).symm
                  have h2 : total ds = total (ds.take (p + 1)) + total (ds.drop (p + 1)) := by
                    unfold total
                    conv => lhs; rw [h, List.flatten_append, List.length_append]
                  omega
                omega
              have HCa : Hid (cardsF 0 (ds.take (p + 1)) = cardsF 0 (ds.take p) ++ owned p (ds.getD p [])) := by unfold Hid; rw [HDe.out, cardsF_more, htk, Nat.zero_add]
              have HZa : Hid (zonesF 0 (ds.take (p + 1)) = zonesF 0 (ds.take p) ++ [numsF (total (ds.take p)) (ds.getD p []).length, [], [], []]) := by unfold Hid; rw [HDe.out, zonesF_more, Nat.zero_add]
              have HTo : Hid (total (ds.take (p + 1)) = total (ds.take p) + (ds.getD p []).length) := tot_next ds p hpd
              have HZl : Hid ((zonesF 0 (ds.take p)).length = 4 * p) := by unfold Hid; rw [zonesF_len, htk]
              have HCLs : Hid _ := hcl
              clear hcell hrow hcl htk htot
              obtain ⟨r, hr⟩ : ∃ r, r = ds.getD p [] := ⟨_, rfl⟩
              rw [← hr] at x1 hle HCa HZa HTo HCLs
              obtain ⟨q, hq⟩ : ∃ q, q = r.length := ⟨_, rfl⟩
              have HQ : Hid (q = r.length) := hq
              rw [← hq] at x1 hle HZa HTo
              generalize hzs0 : zonesF 0 (ds.take p) = zs0 at HZa HZl HW
              generalize hcs0 : cardsF 0 (ds.take p) = cs0 at HCa HW
              generalize total (ds.take p) = m at hle HZa HTo HW
              obtain ⟨zs1, hzs1⟩ : ∃ z, z = zonesF 0 (ds.take (p + 1)) := ⟨_, rfl⟩
              rw [← hzs1] at HZa
              have HZ1 : Hid (zs1 = zonesF 0 (ds.take (p + 1))) := hzs1
              obtain ⟨y0, y1, y2, y3, y4, y5, y6⟩ := seven_cells HW.out.1
              obtain ⟨pl, g1, g2, -⟩ := HW.out.2.1
              have c0 : wr.cell? ⟨gp, p * 3, none⟩ = some (pl[p * 3]'(by omega)) := by simp [World.cell?, g1]
              have c1 : wr.cell? ⟨gp, p * 3 + 1, none⟩ = some (pl[p * 3 + 1]'(by omega)) := by simp [World.cell?, g1]
              have c2 : wr.cell? ⟨gp, p * 3 + 2, none⟩ = some (pl[p * 3 + 2]'(by omega)) := by simp [World.cell?, g1]
              have cf : ∀ j, wr.frozen? ⟨gp, j, none⟩ = false := seven_f g1
              generalize pl[p * 3]'(by omega) = q0 at c0
              generalize pl[p * 3 + 1]'(by omega) = q1 at c1
              generalize pl[p * 3 + 2]'(by omega) = q2 at c2
              have HW1 : Hid _ := NW.ply HF.out HW.out hlt
              clear g1 g2 hr hq hzs0 hcs0 hzs1 HW
              go_wp2_with fail
              obtain ⟨W1, hW1⟩ : ∃ W, W = ((wr.setCell ⟨gp, p * 3, none⟩ (.int .i32 li)).setCell ⟨gp, p * 3 + 1, none⟩ (.int .i32 en)).setCell ⟨gp, p * 3 + 2, none⟩ (.bool false) := ⟨_, rfl⟩
              rw [← hW1] at HW1 ⊢
              clear hW1 y0 y1 y2 y3 y4 y5 y6 c0 c1 c2 cf
              have HCZ : Hid (∀ W, NW w W B b6 gs gp gz n li en (.slice va m vk) cs0 (p + 1) zs0 → (∃ z, W.cell? ⟨gz, 4 * p, none⟩ = some z) ∧ W.frozen? ⟨gz, 4 * p, none⟩ = false) := fun W h => by
                obtain ⟨zl, g1, g2, -⟩ := h.2.2.1
                exact ⟨⟨zl[4 * p]'(by omega), by simp [World.cell?, g1]⟩, by simp [World.frozen?, g1]⟩
              have HZn : Hid (∀ W x, NW w W B b6 gs gp gz n li en (.slice va m vk) cs0 (p + 1) zs0 → IRow B W x (numsF m q) → NW w (W.setCell ⟨gz, 4 * p, none⟩ x) B b6 gs gp gz n li en (.slice va m vk) cs0 (p + 1) zs1) := fun W x h hx => by
                refine NW.zone HF.out h (4 * p) (by omega) ?_ (fun k hk => ?_)
                · have : zs1.getD (4 * p) [] = numsF m q := by rw [HZa.out, List.getD_eq_getElem?_getD, List.getElem?_append_right (by rw [HZl.out]; exact Nat.le_refl _), HZl.out, Nat.sub_self]; rfl
                  rw [this]; exact hx
                · rw [HZa.out, List.getD_eq_getElem?_getD, List.getD_eq_getElem?_getD]
                  by_cases hk2 : k < 4 * p
                  · rw [List.getElem?_append_left (by rw [HZl.out]; exact hk2)]
                  · rw [List.getElem?_append_right (by rw [HZl.out]; omega), HZl.out, List.getElem?_eq_none (l := zs0) (by rw [HZl.out]; omega)]
                    obtain ⟨d, hd⟩ : ∃ d, k - 4 * p = d + 1 := ⟨k - 4 * p - 1, by omega⟩
                    rw [hd]
                    match d with
                    | 0 => rfl
                    | 1 => rfl
                    | 2 => rfl
                    | d + 3 => rfl
              obtain ⟨y0, y1, y2, y3, y4, y5, y6⟩ := seven_cells HW1.out.1
              obtain ⟨⟨zc, z1⟩, zf⟩ := HCZ.out W1 HW1.out
              have e1 : 4 * p < 4 * n := by omega
              have e2 : 4 * (p : Int) < 4 * (n : Int) := by omega
              have e3 : (4 * (p : Int)).toNat = 4 * p := by omega
              have e4 : IntKind.i64.wrap (4 * (p : Int)) = 4 * (p : Int) := by rw [IntKind.wrap_i64]; omega
              have e5 : (0 : Int) ≤ 4 * (p : Int) := by omega
              refine (fun key : ∀ (xa : Option Addr) (xk : Nat) W3, NW w W3 B b6 gs gp gz n li en (.slice va m vk) cs0 (p + 1) zs1 → (?G2 : Option Addr → Nat → World → Prop) xa xk W3 => ?main2) ?kp2
              case main2 =>
                go_region_with (go_at_call 68; go_loud (refine Calls.mono (numbersFrom_ m q _ (by omega) (by omega)) ?_; rintro e W2 ⟨x, rfl, hx, u2⟩; obtain ⟨xa, xk, hxa⟩ := row_val hx; rw [numsF_len] at hxa; have u3 : Up W1 W2 := Up.trans (by first | exact (Up.refl _).drew | exact Up.refl _) u2; have hn2 := NW.up HW1.out u3; have hx2 : IRow B W2 x (numsF m q) := own_less hx (by have h1 := HW1.out.2.2.2.2.2.2; simpa using h1); have hn3 : Hid _ := HZn.out W2 x hn2 hx2; obtain ⟨y0, y1, y2, y3, y4, y5, y6⟩ := seven_cells hn2.1; obtain ⟨⟨zc2, z1⟩, zf⟩ := HCZ.out W2 hn2; clear hx hx2 hn2 u2 u3; subst hxa))
                all_goals (have hk := hn3.out; clear hn3; revert hk; generalize W2.setCell _ _ = W3; intro hk; exact key xa xk W3 hk)
              case kp2 =>
                intro xa xk W3 hnw
                have HW3 : Hid (NW w W3 B b6 gs gp gz n li en (.slice va m vk) cs0 (p + 1) zs1) := hnw
                clear hnw HW1 HCZ HZn y0 y1 y2 y3 y4 y5 y6
                obtain ⟨ra', rc', hra, -, hin⟩ := cl_at HCLs.out
                cases hra
                rw [← HQ.out] at hin
                have HIn : Hid _ := hin
                clear hin
                go_wp2_with fail
                go_loopw [63] (fun s63 W => ∃ (i : Nat) (va : Option Addr) (vk : Nat), i ≤ q ∧ s63 = .int .i64 i ∧ NW w W B b6 gs gp gz n li en (.slice va (m + i) vk) (cs0 ++ owned p (r.take i)) (p + 1) zs1) (fun s63 _ => q - (intOf s63).toNat)
                case atStart => exact ⟨0, va, vk, Nat.zero_le _, rfl, by rw [List.take_zero]; simpa [owned] using HW3.out⟩
                case round =>
                  obtain ⟨i, va, vk, hi, rfl, hnw⟩ := hrel
                  clear HW3
                  have HW3 : Hid (NW w wr B b6 gs gp gz n li en (.slice va (m + i) vk) (cs0 ++ owned p (r.take i)) (p + 1) zs1) := hnw
                  clear hnw
                  by_cases hlt3 : i < q
                  · have hlt4 : (i : Int) < (q : Int) := by omega
                    obtain ⟨b4, o4, rfl, hc4⟩ := HIn.out (by omega)
                    obtain ⟨x1, x2, x3, x4, x5, x6⟩ := hc4 wr HW3.out.2.2.2.2.2.1 i hlt3
                    clear hc4
                    have HTk : Hid (cs0 ++ owned p (r.take (i + 1)) = cs0 ++ owned p (r.take i) ++ [{ r.getD i dc with owner := (p : Int) }]) := by
                      unfold Hid
                      have hir : i < r.length := by rw [← HQ.out]; exact hlt3
                      have e9 : r.take (i + 1) = r.take i ++ [r.getD i dc] := by rw [List.take_add_one, List.getElem?_eq_getElem hir, List.getD_eq_getElem?_getD, List.getElem?_eq_getElem hir]; rfl
                      rw [e9, owned, List.map_append, ← List.append_assoc]
                      rfl
                    generalize r.getD i dc = c at x1 x2 x3 x4 x5 x6 HTk
                    obtain ⟨ki, ow, po, he, da, ma⟩ := c
                    simp only at x1 x2 x3 x4 x5 x6 HTk
                    generalize cs0 ++ owned p (r.take i) = cards at HW3 HTk
                    have hco := HW3.out.2.2.2.1
                    obtain ⟨iC, hiC, z0, z1', z2⟩ := info_parts infoC
                    have hcl : cards.length = m + i := by
                      obtain ⟨_, _, e9⟩ := row_val hco
                      simp at e9
                      omega
                    have y1 : ∀ o, (wr.alloc o).cell? ⟨gs, 1, none⟩ = some (.slice va (m + i) vk) := fun o => ((Up.refl wr).alloc o).cell (seven_cells HW3.out.1).2.1
                    obtain ⟨Wb, hWb⟩ : ∃ W, W = (wr.alloc (.cells #[.int .i64 ki, .int .i64 p, .int .i32 po, .int .i32 he, .int .i32 da, .int .i32 ma] 73)).alloc (.cells #[.int .i64 ki, .int .i64 p, .int .i32 po, .int .i32 he, .int .i32 da, .int .i32 ma] 73) := ⟨_, rfl⟩
                    have HWb : Hid (Wb = _) := hWb
                    have HUb : Hid (Up wr Wb) := by unfold Hid; rw [hWb]; exact ((Up.refl _).alloc _).alloc _
                    have HV : Hid (Wb.ownsRow B 73 6 (.slice va (m + i) vk) (m + i) (cvs cards)) := by have := row_up hco HUb.out; rw [hcl] at this; exact this
                    have hbl : Wb.heap[wr.heap.size + 1]? = some (.cells #[.int .i64 ki, .int .i64 p, .int .i32 po, .int .i32 he, .int .i32 da, .int .i32 ma] 73 (0, 0)) := by
                      rw [hWb]
                      have := heap_alloc_new (wr.alloc (.cells #[.int .i64 ki, .int .i64 p, .int .i32 po, .int .i32 he, .int .i32 da, .int .i32 ma] 73)) (.cells #[.int .i64 ki, .int .i64 p, .int .i32 po, .int .i32 he, .int .i32 da, .int .i32 ma] 73)
                      simpa using this
                    have HMc : Hid (∀ j u, (cv ⟨ki, p, po, he, da, ma⟩)[j]? = some u → Wb.cell? ((⟨wr.heap.size + 1, 0, none⟩ : Addr).add j) = some u) := by
                      intro j u hj
                      rw [Addr.add_mid, Nat.zero_add]
                      simp only [World.cell?, hbl]
                      simpa [cv] using hj
                    have HO : Hid (∀ u ∈ cv ⟨ki, p, po, he, da, ma⟩, u.oneCell' = true) := by
                      intro u hu
                      simp only [cv, List.mem_cons, List.not_mem_nil, or_false] at hu
                      rcases hu with rfl | rfl | rfl | rfl | rfl | rfl <;> rfl
                    have HS : Hid (B ≤ Wb.heap.size) := Nat.le_trans HW3.out.2.2.2.2.2.2 HUb.out.size
                    have HNx : Hid (∀ v' w2, w2.ownsRow B 73 6 v' (m + i + 1) (cvs cards ++ cv ⟨ki, p, po, he, da, ma⟩) → Wb.grownBy w2 (Value.slice va (m + i) vk).ownBlock → w2.heap[gs]? = some (.cells #[.slice (some ⟨gp, 0, none⟩) n n, .slice va (m + i) vk, .slice (some ⟨gz, 0, none⟩) (4 * n) (4 * n), .int .i32 1, .int .i64 0, .int .i8 0, .int .i64 0] 27 (0, 0)) ∧ NW w (w2.setCell ⟨gs, 1, none⟩ v') B b6 gs gp gz n li en v' (cs0 ++ owned p (r.take (i + 1))) (p + 1) zs1) := by
                      intro v' w2 h1 h2
                      have hb := NW.up HW3.out HUb.out
                      refine ⟨?_, ?_⟩
                      · rw [h2.block gs (Array.getElem?_eq_some_iff.1 hb.1).1 (fun e => by have h5 := hb.2.2.2.1.lt gs e.symm; have h6 := HF.out.2.2.2.2.1; omega)]
                        exact hb.1
                      · refine NW.card HF.out hb h2 ?_
                        have e9 : cvs (cards ++ [⟨ki, p, po, he, da, ma⟩]) = cvs cards ++ cv ⟨ki, p, po, he, da, ma⟩ := by simp [cvs]
                        rw [HTk.out, CO, e9, List.length_append, hcl]
                        exact h1
                    clear hco hbl hWb HW3
                    go_wp2_with (at_builtin; rw [← HWb.out]; go_loud (refine wpList_append_own _ (by rfl) (.tmp 70) (.tmp 72) 23 (by rfl) B 73 iC _ 6 32 Tryd.underlying23 hiC z0 z1' z2 (by rfl) (by decide) (.slice va (m + i) vk) (m + i) (cvs cards) (by rfl) HV.out ⟨wr.heap.size + 1, 0, none⟩ 1 1 (cv ⟨ki, p, po, he, da, ma⟩) (by rfl) (by rfl) HMc.out HO.out (by unfold maxLen; omega) (by omega) HS.out ?_; intro v' w2 hin hg1 _; obtain ⟨va', vk', hva⟩ := row_val hin; have HFn : Hid _ := HNx.out v' w2 hin hg1; subst hva; obtain ⟨-, yy, -⟩ := seven_cells HFn.out.1; have yf := seven_f HFn.out.1; clear hin hg1))
                    go_wp2
                    go_roundw
                    case rel => exact ⟨i + 1, va', vk', by omega, by go_num, HFn.out.2⟩
                    case measure => simp [intOf]; omega
                  · have hlt4 : ¬ (i : Int) < (q : Int) := by omega
                    have hiq : i = q := by omega
                    subst hiq
                    have HF2 : Hid (NW w wr B b6 gs gp gz n li en (.slice va (total (ds.take (p + 1))) vk) (cardsF 0 (ds.take (p + 1))) (p + 1) (zonesF 0 (ds.take (p + 1)))) := by
                      unfold Hid
                      rw [HTo.out, HCa.out, ← HZ1.out]
                      have := HW3.out
                      rw [List.take_of_length_le (by rw [← HQ.out]; exact Nat.le_refl _)] at this
                      exact this
                    clear HW3
                    go_wp2_with fail
                    go_roundw
                    case rel => exact ⟨p + 1, va, vk, by omega, by go_num, HF2.out⟩
                    case measure => simp [intOf]; omega
            · have hlt2 : ¬ (p : Int) < (n : Int) := by omega
              have hpn : p = n := by omega
              subst hpn
              have hds : ds.take p = ds := List.take_of_length_le (by rw [← HN.out]; omega)
              rw [hds] at HW
              have HSO : Hid _ := NW.done HF.out HW.out (by rw [zonesF_len, HN.out]) hn4
              obtain ⟨y0, y1, y2, y3, y4, y5, y6⟩ := seven_cells HW.out.1
              obtain ⟨z0, z1, z2, z3, z4, z5, z6⟩ := seven_cells HW.out.2.2.2.2.1
              have zf := seven_f HW.out.2.2.2.2.1
              go_wp2_with fail
              obtain ⟨p0, p1, p2, p3, p4, p5, p6⟩ := seven_cells (seven_set (x0 := .slice (some ⟨gp, 0, none⟩) p p) (x1 := .slice va (total ds) vk) (x2 := .slice (some ⟨gz, 0, none⟩) (4 * p) (4 * p)) (x3 := .int .i32 1) (x4 := .int .i64 0) (x5 := .int .i8 0) (x6 := .int .i64 0) HW.out.2.2.2.2.1)
              refine bodyPost_ret (v := .tuple #[.agg #[.slice (some ⟨gp, 0, none⟩) p p, .slice va (total ds) vk, .slice (some ⟨gz, 0, none⟩) (4 * p) (4 * p), .int .i32 1, .int .i64 0, .int .i8 0, .int .i64 0], .int .i64 0]) (by simp [results, Tryd.results17, go_sem, p0, p1, p2, p3, p4, p5, p6]) rfl ?_
              rw [HP.out, HR.out.1, HR.out.2]
              have hb : w.heap.size ≤ b6 := by rw [HB6.out]; exact Nat.le_refl _
              have hs1 : b6 < b6 + 1 := Nat.lt_succ_self _
              refine ⟨_, rfl, ?_, Up.set (Up.set (Up.set (Up.set (Up.set (Up.set (Up.set HW.out.2.2.2.2.2.1 _ _ hb) _ _ hb) _ _ hb) _ _ hb) _ _ hb) _ _ hb) _ _ hb⟩
              have e : newS ds li en = ⟨List.replicate p ⟨li, en, false⟩, cardsF 0 ds, zonesF 0 ds, 1, 0, 0, 0⟩ := by rw [newS, ← HN.out]
              rw [e]
              exact ((((((((SO.set HSO.out hs1).set hs1).set hs1).set hs1).set hs1).set hs1).set hs1)).less (by rw [HB6.out]; omega)
end ST
end Go.Proofs.YtndkpfkgcaebmaaDoor
