/-
  A game begins: works.
-/
import Derived.Test.YtndkpfkgcaebmaaDoorNx
import Derived.Test.YtndkpfkgcaebmaaDoorSz
namespace Go.Proofs.YtndkpfkgcaebmaaDoor
open Go.RowKit
attribute [local go_sem ↓] Go.wp_at_zero Go.wp_at_succ

namespace ST
def wD : List (List Crd) := [[⟨1, 7, 0, 0, 0, 0⟩], [⟨2, 0, 0, 0, 0, 0⟩, ⟨2, 0, 0, 0, 0, 0⟩]]
def wS : Stt := newS wD 20 0
theorem w_new : newR wD 20 0 = wS ∧ newE wD 20 0 = 0 := by
  have : newB wD 20 0 = true := by decide
  exact ⟨by rw [newR, this]; rfl, by rw [newE, this]; rfl⟩
theorem w_ff : ff wS = none := by decide
theorem w_wh : whereOf wS 2 = some (4, 1) := by rw [whereOf, w_ff]; rfl
theorem w_small : Small wS := ⟨by decide, by decide, by decide, by decide⟩
theorem small_new_len : wS.cs.length = 3 ∧ wS.ps.length = 2 ∧ wS.zs.length = 8 ∧ (wS.cs.getD 0 dc).owner = 0 := by decide
theorem dl_two (w : World) (c1 c2 c3 : Crd) : DL (((w.alloc (.cells (cv c1).toArray 73)).alloc (.cells (cv c2 ++ cv c3).toArray 73)).alloc (.cells #[.slice (some ⟨w.heap.size, 0, none⟩) 1 1, .slice (some ⟨w.heap.size + 1, 0, none⟩) 2 2] 23)) (.slice (some ⟨w.heap.size + 1 + 1, 0, none⟩) 2 2) [[c1], [c2, c3]] := by
  obtain ⟨h0, h1, h2⟩ := three_blocks w (cv c1).toArray (cv c2 ++ cv c3).toArray #[.slice (some ⟨w.heap.size, 0, none⟩) 1 1, .slice (some ⟨w.heap.size + 1, 0, none⟩) 2 2] 73 73 23
  refine ⟨[.slice (some ⟨w.heap.size, 0, none⟩) 1 1, .slice (some ⟨w.heap.size + 1, 0, none⟩) 2 2], lc_row h2 rfl 2 (Nat.le_refl _), fun i hi => ?_⟩
  match i, hi with
  | 0, _ => exact lc_row h0 rfl 1 (Nat.le_refl _)
  | 1, _ => exact lc_row h1 rfl 2 (Nat.le_refl _)
set_option maxRecDepth 100000 in
set_option maxHeartbeats 4000000 in
theorem works_ (w : World) : Calls Tryd.prog 14 #[] w fun e w' => e = .returned (.bool true) ∧ Up w w' := by
  have HD : Hid _ := dl_two w ⟨1, 7, 0, 0, 0, 0⟩ ⟨2, 0, 0, 0, 0, 0⟩ ⟨2, 0, 0, 0, 0, 0⟩
  go_enter Tryd.func14, Tryd.ntmps14
  go_wp2_with fail
  refine Calls.mono (new_ _ wD 20 0 _ HD.out (by decide) (by decide)) ?_
  rw [w_new.1, w_new.2]
  rintro e w1 ⟨v', rfl, so, u1⟩
  have HU : Hid (Up w w1) := ((((Up.refl _).alloc _).alloc _).alloc _).trans u1
  obtain ⟨vp, vc, vz, rfl, po, co, zo⟩ := so
  have HS : Hid (StL w1 (sv vp vc vz wS) wS) := ⟨vp, vc, vz, rfl, own_lc po, own_lc co, zo.zl⟩
  obtain ⟨pa, pc, hp⟩ := row_val po
  obtain ⟨cg, cc, -, -, hc⟩ := row_some co (by decide)
  obtain ⟨za, zc, hz⟩ : ∃ a c, vz = .slice a wS.zs.length c := by
    obtain ⟨vs, h, -⟩ := zo
    exact row_val h
  subst hp hc hz
  have hcell : ∀ W, Up w1 W → W.cell? ⟨cg, 1, none⟩ = some (.int .i64 0) := fun W u => u.cell (by rw [World.ownsRow.cellAt co 1 (by decide)]; rfl)
  have HCl : Hid _ := hcell
  clear po co zo u1 HD hcell
  have e1 : wS.cs.length = 3 := small_new_len.1
  have e2 : wS.ps.length = 2 := small_new_len.2.1
  have e3 : wS.zs.length = 8 := small_new_len.2.2.1
  rw [e1, e2, e3] at HS ⊢
  clear e1 e2 e3
  have HT : Hid (sv (.slice pa 2 pc) (.slice (some ⟨cg, 0, none⟩) 3 cc) (.slice za 8 zc) wS = .agg #[.slice pa 2 pc, .slice (some ⟨cg, 0, none⟩) 3 cc, .slice za 8 zc, .int .i32 1, .int .i64 0, .int .i8 0, .int .i64 0]) := rfl
  rw [HT.out] at HS ⊢
  clear HT
  go_wp2_with fail
  refine Calls.mono (check_ _ wS _ (HS.out.up ((Up.refl _).alloc _)) w_small) ?_
  rw [w_ff]
  rintro e w2 ⟨rfl, u2⟩
  have g1 := u2.heap (heap_alloc_new w1 _)
  have hu2 : Up w1 w2 := ((Up.refl _).alloc _).trans u2
  have HK : Hid (ckV none = .tuple #[.int .i64 0, .int .i64 0]) := rfl
  rw [HK.out]
  obtain ⟨y0, y1, y2, y3, y4, y5, y6⟩ := seven_cells g1
  have HG : Hid _ := g1
  have HU2 : Hid (Up w1 w2) := hu2
  clear u2 g1 hu2 HK
  go_wp2_with fail
  refine Calls.mono (where_ _ wS 2 _ (HS.out.up HU2.out) w_small) ?_
  rw [w_wh]
  rintro e w3 ⟨rfl, u3⟩
  have HK : Hid (whV (some (4, 1)) = .tuple #[.int .i64 4, .int .i64 1, .bool true]) := rfl
  rw [HK.out]
  have g1 := u3.heap HG.out
  clear y0 y1 y2 y3 y4 y5 y6
  obtain ⟨y0, y1, y2, y3, y4, y5, y6⟩ := seven_cells g1
  have yc := HCl.out w3 (HU2.out.trans u3)
  have HU3 : Hid (Up w w3) := (HU.out.trans HU2.out).trans u3
  clear u3 g1 HK
  go_wp2
  go_ret
  exact ⟨rfl, HU3.out⟩
end ST
end Go.Proofs.YtndkpfkgcaebmaaDoor
