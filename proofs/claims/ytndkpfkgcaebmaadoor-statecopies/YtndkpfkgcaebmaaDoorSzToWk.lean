/-
  How much is handed in.
-/
import Derived.Test.YtndkpfkgcaebmaaDoorSmToCp
import Derived.Test.YtndkpfkgcaebmaaDoorNxQ
namespace Go.Proofs.YtndkpfkgcaebmaaDoor
open Go.RowKit
attribute [local go_sem ↓] Go.wp_at_zero Go.wp_at_succ

namespace ST
def szF : List (List Int) → Nat → Nat
  | [], n => n
  | l :: zs, n => if n ≤ 2147483647 then szF zs (n + l.length) else n
theorem szF_is : ∀ (zs : List (List Int)) (n : Nat), szF zs n = n + zs.flatten.length ∨ 2147483647 < szF zs n ∧ szF zs n ≤ n + zs.flatten.length := by
  intro zs
  induction zs with
  | nil => intro n; left; simp [szF]
  | cons l zs ih =>
    intro n
    simp only [szF, List.flatten_cons, List.length_append]
    split
    · rcases ih (n + l.length) with h | h
      · left; omega
      · right; omega
    · right; omega
def Near (zs : List (List Int)) : Prop := zs.length ≤ 140737488355328 ∧ ∀ r, r < zs.length → (zs.getD r []).length ≤ 140737488355328
theorem szF_le : ∀ (zs : List (List Int)) (n : Nat), (∀ r, r < zs.length → (zs.getD r []).length ≤ 140737488355328) → n ≤ 281474976710656 → szF zs n ≤ 281474976710656 := by
  intro zs
  induction zs with
  | nil => intro n _ h; exact h
  | cons l zs ih =>
    intro n h hn
    simp only [szF]
    split
    · have := h 0 (by simp)
      simp at this
      exact ih _ (fun r hr => by have := h (r + 1) (by simpa using hr); simpa using this) (by omega)
    · exact hn
set_option maxRecDepth 100000 in
set_option maxHeartbeats 2000000 in
theorem sizeRows_ (v : Value) (zs : List (List Int)) (w : World) (hv : ZL w v zs) (hn : Near zs) :
    Calls Tryd.prog 72 #[v] w fun e w' => e = .returned (.int .i64 (szF zs zs.length : Nat)) ∧ w' = w := by
  obtain ⟨a3, k3, rfl, -, c3⟩ := zl_at hv
  obtain ⟨hn1, hl⟩ := hn
  obtain ⟨n, hn0⟩ : ∃ n, n = zs.length := ⟨_, rfl⟩
  obtain ⟨R, hR⟩ : ∃ R, R = szF zs zs.length := ⟨_, rfl⟩
  have HR : Hid (R = szF (zs.drop 0) n) := by unfold Hid; rw [hR, hn0]; rfl
  rw [← hR]
  rw [← hn0] at hn1 hl c3 ⊢
  have HC : Hid _ := c3
  have HL : Hid _ := hl
  have HN : Hid (n = zs.length) := hn0
  clear hv c3 hl hn0 hR
  go_enter Tryd.func72, Tryd.ntmps72
  go_wp2_with fail
  go_loopw [3, 4] (fun s3 s4 W => ∃ i m : Nat, i ≤ n ∧ s4 = .int .i64 i ∧ s3 = .int .i64 m ∧ W = w ∧ R = szF (zs.drop i) m) (fun _ s4 _ => n - (intOf s4).toNat)
  case atStart => exact ⟨0, n, Nat.zero_le _, rfl, rfl, rfl, HR.out⟩
  case round =>
    obtain ⟨i, m, hi, rfl, rfl, rfl, hr⟩ := hrel
    clear HR
    have HR : Hid (R = szF (zs.drop i) m) := hr
    clear hr
    by_cases hlt : i < n
    · have hlt2 : (i : Int) < (n : Int) := by omega
      by_cases hb : m ≤ 2147483647
      · have hb2 : (m : Int) ≤ 2147483647 := by omega
        obtain ⟨b3, o3, rfl, hrow⟩ := HC.out (by omega)
        obtain ⟨ra, rc, hcell, -⟩ := hrow i hlt
        have x1 := hcell _ (Up.refl _)
        have hlen := HL.out i hlt
        have HF : Hid (R = szF (zs.drop (i + 1)) (m + (zs.getD i []).length)) := by
          unfold Hid
          have hz : i < zs.length := by rw [← HN.out]; exact hlt
          rw [HR.out, List.drop_eq_getElem_cons hz, szF, if_pos hb, List.getD_eq_getElem?_getD, List.getElem?_eq_getElem hz]
          rfl
        clear hcell hrow HR
        generalize (zs.getD i []).length = q at x1 hlen HF
        go_wp2_with fail
        go_roundw
        case rel => exact ⟨i + 1, m + q, by omega, by go_num, by go_num, by first | rfl | trivial, HF.out⟩
        case measure => simp [intOf]; omega
      · have hb2 : ¬ (m : Int) ≤ 2147483647 := by omega
        have HF : Hid (R = m) := by
          unfold Hid
          have hz : i < zs.length := by rw [← HN.out]; exact hlt
          rw [HR.out, List.drop_eq_getElem_cons hz, szF, if_neg hb]
        clear HR
        go_wp2
        go_ret
        exact ⟨by rw [HF.out]; rfl, rfl⟩
    · have hlt2 : ¬ (i : Int) < (n : Int) := by omega
      have HF : Hid (R = m) := by
        unfold Hid
        rw [HR.out, List.drop_of_length_le (by rw [← HN.out]; omega)]
        rfl
      clear HR
      go_wp2
      go_ret
      exact ⟨by rw [HF.out]; rfl, rfl⟩
def Far (s : Stt) : Prop := s.ps.length ≤ 140737488355328 ∧ s.cs.length ≤ 140737488355328 ∧ Near s.zs
def lenS (s : Stt) : Nat := s.ps.length + s.cs.length + (s.zs.length + (flat s).length)
theorem row_flat : ∀ (zs : List (List Int)) (r : Nat), r < zs.length → (zs.getD r []).length ≤ zs.flatten.length := by
  intro zs
  induction zs with
  | nil => intro r h; simp at h
  | cons l zs ih =>
    intro r h
    rw [List.flatten_cons, List.length_append]
    cases r with
    | zero => simp
    | succ r =>
      rw [List.getD_cons_succ]
      have := ih r (by simpa using h)
      omega
theorem small_of {s : Stt} (h : lenS s ≤ 2147483647) : Small s := by
  unfold lenS flat at h
  exact ⟨by omega, by omega, by omega, fun r hr => by have := row_flat s.zs r hr; omega⟩
set_option maxRecDepth 100000 in
set_option maxHeartbeats 2000000 in
theorem sizeState_ (v : Value) (s : Stt) (w : World) (hv : StL w v s) (hn : Far s) :
    Calls Tryd.prog 22 #[v] w fun e w' => e = .returned (.int .i64 ((s.ps.length : Int) + s.cs.length + (szF s.zs s.zs.length : Nat))) ∧ Up w w' := by
  obtain ⟨vp, vc, vz, rfl, h1, h2, h3⟩ := hv
  have hle := szF_le s.zs s.zs.length hn.2.2.2 (by have := hn.2.2.1; omega)
  have HC : Hid (∀ W, Up w W → Calls Tryd.prog 72 #[vz] W fun e w' => e = .returned (.int .i64 (szF s.zs s.zs.length : Nat)) ∧ w' = W) := fun W u => sizeRows_ vz s.zs W (h3.up u) hn.2.2
  have hn1 := hn.1
  have hn2 := hn.2.1
  obtain ⟨a1, k1, rfl, -, -⟩ := lc_at h1
  obtain ⟨a2, k2, rfl, -, -⟩ := lc_at h2
  obtain ⟨a3, k3, rfl, -, -⟩ := zl_at h3
  clear h1 h2 h3 hn
  unfold sv
  generalize szF s.zs s.zs.length = m at *
  generalize s.ps.length = np at *
  generalize s.cs.length = nc at *
  generalize s.zs.length = nz at *
  go_enter Tryd.func22, Tryd.ntmps22
  go_wp2_with fail
  go_quiet (exact Calls.quiet_of_same (HC.out _ (((Up.refl _).alloc _).drewN _)))
  go_wp2
  go_ret
  exact ⟨by go_num, ((Up.refl _).alloc _).drewN _⟩
set_option maxHeartbeats 1000000 in
theorem long1_ (n : Int) (w : World) : Calls Tryd.prog 15 #[.int .i64 n] w fun e w' => e = .returned (.bool (decide (2147483647 < n))) ∧ w' = w := by
  by_cases h : 2147483647 < n
  · go_enter Tryd.func15, Tryd.ntmps15
    go_wp2
    go_ret
    exact ⟨by simp [h], rfl⟩
  · go_enter Tryd.func15, Tryd.ntmps15
    go_wp2
    go_ret
    exact ⟨by simp [h], rfl⟩
set_option maxHeartbeats 2000000 in
theorem long_ (v : Value) (s : Stt) (w : World) (hv : StL w v s) (hn : Far s) :
    Calls Tryd.prog 5 #[v] w fun e w' => e = .returned (.bool (decide (2147483647 < lenS s))) ∧ Up w w' := by
  have hc := sizeState_ v s _ (hv.up ((Up.refl w).alloc (.cells v.cells 27))) hn
  have hle := szF_le s.zs s.zs.length hn.2.2.2 (by have := hn.2.2.1; omega)
  have hsz := szF_is s.zs s.zs.length
  have hR : decide (2147483647 < lenS s) = decide (2147483647 < (s.ps.length : Int) + s.cs.length + (szF s.zs s.zs.length : Nat)) := by
    apply decide_eq_decide.2
    unfold lenS flat
    omega
  obtain ⟨vp, vc, vz, rfl, -, -, -⟩ := hv
  rw [hR]
  have hb : (s.ps.length : Int) + s.cs.length + (szF s.zs s.zs.length : Nat) ≤ 1000000000000000 := by have := hn.1; have := hn.2.1; omega
  unfold sv at hc
  generalize (s.ps.length : Int) + s.cs.length + (szF s.zs s.zs.length : Nat) = m at *
  have HC : Hid _ := hc
  clear hc hsz hR hn hle
  unfold sv
  go_enter Tryd.func5, Tryd.ntmps5
  go_wp2_with fail
  refine Calls.mono HC.out ?_
  rintro e w1 ⟨rfl, u1⟩
  have HU : Hid (Up w w1) := ((Up.refl w).alloc _).trans u1
  clear HC u1
  go_wp2_with fail
  refine Calls.mono (long1_ _ _) ?_
  rintro e w2 ⟨rfl, rfl⟩
  go_wp2
  go_ret
  exact ⟨rfl, HU.out⟩
end ST
end Go.Proofs.YtndkpfkgcaebmaaDoor
/-
  A game begins: works.
-/
namespace Go.Proofs.YtndkpfkgcaebmaaDoor
open Go.RowKit
attribute [local go_sem ↓] Go.wp_at_zero Go.wp_at_succ

namespace ST
def wD : List (List Crd) := [[⟨1, 7, 0, 0, 0, 0⟩], [⟨2, 0, 0, 0, 0, 0⟩, ⟨2, 0, 0, 0, 0, 0⟩]]
def wS : Stt := newS wD 20 0
theorem w_new : newR wD 20 0 = wS ∧ newE wD 20 0 = 0 := by
  have : newB wD 20 0 = true := by decide
  exact ⟨by rw [newR, this]; rfl, by rw [newE, this]; rfl⟩
theorem w_ff : ff wS = none := by decide
theorem w_wh : whereOf wS 2 = some (4, 1) := by rw [whereOf, w_ff]; rfl
theorem w_small : Small wS := ⟨by decide, by decide, by decide, by decide⟩
theorem small_new_len : wS.cs.length = 3 ∧ wS.ps.length = 2 ∧ wS.zs.length = 8 ∧ (wS.cs.getD 0 dc).owner = 0 := by decide
theorem dl_two (w : World) (c1 c2 c3 : Crd) : DL (((w.alloc (.cells (cv c1).toArray 73)).alloc (.cells (cv c2 ++ cv c3).toArray 73)).alloc (.cells #[.slice (some ⟨w.heap.size, 0, none⟩) 1 1, .slice (some ⟨w.heap.size + 1, 0, none⟩) 2 2] 23)) (.slice (some ⟨w.heap.size + 1 + 1, 0, none⟩) 2 2) [[c1], [c2, c3]] := by
  obtain ⟨h0, h1, h2⟩ := three_blocks w (cv c1).toArray (cv c2 ++ cv c3).toArray #[.slice (some ⟨w.heap.size, 0, none⟩) 1 1, .slice (some ⟨w.heap.size + 1, 0, none⟩) 2 2] 73 73 23
  refine ⟨[.slice (some ⟨w.heap.size, 0, none⟩) 1 1, .slice (some ⟨w.heap.size + 1, 0, none⟩) 2 2], lc_row h2 rfl 2 (Nat.le_refl _), fun i hi => ?_⟩
  match i, hi with
  | 0, _ => exact lc_row h0 rfl 1 (Nat.le_refl _)
  | 1, _ => exact lc_row h1 rfl 2 (Nat.le_refl _)
set_option maxRecDepth 100000 in
set_option maxHeartbeats 4000000 in
theorem works_ (w : World) : Calls Tryd.prog 14 #[] w fun e w' => e = .returned (.bool true) ∧ Up w w' := by
  have HD : Hid _ := dl_two w ⟨1, 7, 0, 0, 0, 0⟩ ⟨2, 0, 0, 0, 0, 0⟩ ⟨2, 0, 0, 0, 0, 0⟩
  go_enter Tryd.func14, Tryd.ntmps14
  go_wp2_with fail
  refine Calls.mono (new_ _ wD 20 0 _ HD.out (by decide) (by decide)) ?_
  rw [w_new.1, w_new.2]
  rintro e w1 ⟨v', rfl, so, u1⟩
  have HU : Hid (Up w w1) := ((((Up.refl _).alloc _).alloc _).alloc _).trans u1
  obtain ⟨vp, vc, vz, rfl, po, co, zo⟩ := so
  have HS : Hid (StL w1 (sv vp vc vz wS) wS) := ⟨vp, vc, vz, rfl, own_lc po, own_lc co, zo.zl⟩
  obtain ⟨pa, pc, hp⟩ := row_val po
  obtain ⟨cg, cc, -, -, hc⟩ := row_some co (by decide)
  obtain ⟨za, zc, hz⟩ : ∃ a c, vz = .slice a wS.zs.length c := by
    obtain ⟨vs, h, -⟩ := zo
    exact row_val h
  subst hp hc hz
  have hcell : ∀ W, Up w1 W → W.cell? ⟨cg, 1, none⟩ = some (.int .i64 0) := fun W u => u.cell (by rw [World.ownsRow.cellAt co 1 (by decide)]; rfl)
  have HCl : Hid _ := hcell
  clear po co zo u1 HD hcell
  have e1 : wS.cs.length = 3 := small_new_len.1
  have e2 : wS.ps.length = 2 := small_new_len.2.1
  have e3 : wS.zs.length = 8 := small_new_len.2.2.1
  rw [e1, e2, e3] at HS ⊢
  clear e1 e2 e3
  have HT : Hid (sv (.slice pa 2 pc) (.slice (some ⟨cg, 0, none⟩) 3 cc) (.slice za 8 zc) wS = .agg #[.slice pa 2 pc, .slice (some ⟨cg, 0, none⟩) 3 cc, .slice za 8 zc, .int .i32 1, .int .i64 0, .int .i8 0, .int .i64 0]) := rfl
  rw [HT.out] at HS ⊢
  clear HT
  go_wp2_with fail
  refine Calls.mono (check_ _ wS _ (HS.out.up ((Up.refl _).alloc _)) w_small) ?_
  rw [w_ff]
  rintro e w2 ⟨rfl, u2⟩
  have g1 := u2.heap (heap_alloc_new w1 _)
  have hu2 : Up w1 w2 := ((Up.refl _).alloc _).trans u2
  have HK : Hid (ckV none = .tuple #[.int .i64 0, .int .i64 0]) := rfl
  rw [HK.out]
  obtain ⟨y0, y1, y2, y3, y4, y5, y6⟩ := seven_cells g1
  have HG : Hid _ := g1
  have HU2 : Hid (Up w1 w2) := hu2
  clear u2 g1 hu2 HK
  go_wp2_with fail
  refine Calls.mono (where_ _ wS 2 _ (HS.out.up HU2.out) w_small) ?_
  rw [w_wh]
  rintro e w3 ⟨rfl, u3⟩
  have HK : Hid (whV (some (4, 1)) = .tuple #[.int .i64 4, .int .i64 1, .bool true]) := rfl
  rw [HK.out]
  have g1 := u3.heap HG.out
  clear y0 y1 y2 y3 y4 y5 y6
  obtain ⟨y0, y1, y2, y3, y4, y5, y6⟩ := seven_cells g1
  have yc := HCl.out w3 (HU2.out.trans u3)
  have HU3 : Hid (Up w w3) := (HU.out.trans HU2.out).trans u3
  clear u3 g1 HK
  go_wp2
  go_ret
  exact ⟨rfl, HU3.out⟩
end ST
end Go.Proofs.YtndkpfkgcaebmaaDoor
