/-
  changeOf, oneOrNone, Change, Out.
-/
import Derived.Test.YtjabjiahienohaaGreatDoorDw6Q
import Derived.Test.YtjabjiahienohaaGreatDoorSatQ
import Derived.Test.YtjabjiahienohaaGreatDoorFaToFc
namespace Go.Proofs.YtjabjiahienohaaGreatDoor
open Go.RowKit
attribute [local go_sem ↓] Go.wp_at_zero Go.wp_at_succ

namespace DE
open Go.Proofs.YtjabjiahienohaaGreatDoor.ST
def cPart (s : Stt) (f n : Int) : Option (Ev × Int) := if numB n s.cs.length = true then (cGet (s.cs.getD n.toNat dc) f).map fun y => (⟨2, f, n, 0, 0, 0, 0, 0, 0, 0, 0, []⟩, y) else none
def pPart (s : Stt) (f n : Int) : Option (Ev × Int) := if numB n s.ps.length = true then (pGet (s.ps.getD n.toNat dp) f).map fun y => (⟨3, f, 0, n, 0, 0, 0, 0, 0, 0, 0, []⟩, y) else none
def chP (s : Stt) (f n : Int) : Option (Ev × Int) := match cPart s f n with
  | some r => some r
  | none => pPart s f n
def chV (o : Option (Ev × Int)) : Value := match o with
  | some r => .tuple #[.agg (evc r.1 (.slice none 0 0)), .int .i32 r.2, .bool true]
  | none => .tuple #[.agg (evc dE (.slice none 0 0)), .int .i32 0, .bool false]
set_option maxRecDepth 100000 in
set_option maxHeartbeats 2000000 in
theorem changeOf_ (v : Value) (s : Stt) (f n : Int) (w : World) (hs : StL w v s) : Calls Tryz.prog 170 #[v, .int .i8 f, .int .i64 n] w fun r w' => r = .returned (chV (chP s f n)) ∧ Up w w' := by
  have HIC : Hid (∀ W, Up w W → _) := fun W u => isCard_ v s n W (hs.up u)
  have HIP : Hid (∀ W, Up w W → _) := fun W u => isPlayer_ v s n W (hs.up u)
  have HSC : Hid _ := fun b o => cardStat_ b o f
  have HSP : Hid _ := fun b o => playerStat_ b o f
  obtain ⟨vp, vc, vz, rfl, h1, h2, h3⟩ := hs
  obtain ⟨a1, k1, rfl, -, hpl⟩ := pl_at h1
  obtain ⟨a2, k2, rfl, -, hcl⟩ := cl_at h2
  obtain ⟨a3, k3, rfl, -, -⟩ := zl_at h3
  unfold sv at *
  obtain ⟨W0, hW0⟩ : ∃ W0, (w.alloc (.cells #[.slice a1 s.ps.length k1, .slice a2 s.cs.length k2, .slice a3 s.zs.length k3, .int .i32 s.turn, .int .i64 s.whose, .int .i8 s.fin, .int .i64 s.winner] 27)).alloc (.cells zEv 30) = W0 := ⟨_, rfl⟩
  have g0 : W0.heap[w.heap.size]? = some (.cells #[.slice a1 s.ps.length k1, .slice a2 s.cs.length k2, .slice a3 s.zs.length k3, .int .i32 s.turn, .int .i64 s.whose, .int .i8 s.fin, .int .i64 s.winner] 27 (0, 0)) := by rw [← hW0]; exact heap_alloc2_old _ _ _
  have g1 : W0.heap[w.heap.size + 1]? = some (.cells zEv 30 (0, 0)) := by rw [← hW0]; exact heap_alloc2_new _ _ _
  have HU0 : Up w W0 := by rw [← hW0]; exact ((Up.refl _).alloc _).alloc _
  unfold zEv at hW0
  clear h1 h2 h3
  cases hc : numB n s.cs.length
  · have HCN : Hid (cPart s f n = none) := by unfold Hid cPart; rw [hc]; rfl
    rw [hc] at HIC
    clear hc hcl
    obtain ⟨y0, y1, y2, y3, y4, y5, y6⟩ := seven_cells g0
    go_enter Tryz.func170, Tryz.ntmps170
    go_wp2_with fail
    refine Calls.mono (HIC.out _ HU0) ?_
    rintro r W1 ⟨rfl, u1⟩
    have g0 := u1.heap g0
    have g1 := u1.heap g1
    have HU := HU0.trans u1
    clear u1 HIC hW0 HU0 y0 y1 y2 y3 y4 y5 y6
    obtain ⟨y0, y1, y2, y3, y4, y5, y6⟩ := seven_cells g0
    cases hp : numB n s.ps.length
    · have HF : Hid (chP s f n = none) := by unfold Hid chP; rw [HCN.out]; unfold pPart; rw [hp]; rfl
      rw [hp] at HIP
      clear hp hpl HSC HSP
      go_wp2_with fail
      refine Calls.mono (HIP.out _ HU) ?_
      rintro r W5 ⟨rfl, u9⟩
      have g0 := u9.heap g0
      have g1 := u9.heap g1
      have HU := HU.trans u9
      clear u9 HIP y0 y1 y2 y3 y4 y5 y6
      obtain ⟨y0, y1, y2, y3, y4, y5, y6⟩ := seven_cells g0
      go_wp2_with (refine wpList_store_row rfl 30 (.tmp 6) (.tmp 45) rfl (w.heap.size + 1) (evc dE (.slice none 0 0)) rfl rfl 30 zEv g1 infoEv rfl (evc_one _ _ _ _) ?_)
      refine bodyPost_ret (v := .tuple #[.agg (evc dE (.slice none 0 0)), .int .i32 0, .bool false]) (results_c2 (p := 6) (q := 7) (r := 8) (ty := 30) rfl _ _ (w.heap.size + 1) 30 (evc dE (.slice none 0 0)) (0, 0) _ _ _ rfl rfl rfl (setRow_heap _ _ _ _ _ _ g1) Tryz.underlying30 rfl infoEv) rfl ?_
      rw [HF.out]
      exact ⟨rfl, up_setRow HU (by omega) _⟩
    · rw [hp] at HIP
      obtain ⟨i, rfl, hi⟩ := num_nat hp
      obtain ⟨b, off, rfl, hcc⟩ := hpl (by omega)
      have hi2 : (i : Int) < (s.ps.length : Int) := by omega
      rcases p_field f (s.ps.getD i dp) with ⟨q1, q2⟩ | ⟨k, x, q1, q2, q3⟩
      · have HF : Hid (chP s f (i : Int) = none) := by unfold Hid chP; rw [HCN.out]; unfold pPart; rw [if_pos hp, Int.toNat_natCast, q2]; rfl
        simp only [q1, pAt, Option.map_none] at HSP
        clear hp q1 q2 hcc HSC
        go_wp2_with fail
        refine Calls.mono (HIP.out _ HU) ?_
        rintro r W5 ⟨rfl, u9⟩
        have g0 := u9.heap g0
        have g1 := u9.heap g1
        have HU := HU.trans u9
        clear u9 HIP y0 y1 y2 y3 y4 y5 y6
        obtain ⟨y0, y1, y2, y3, y4, y5, y6⟩ := seven_cells g0
        go_wp2_with fail
        refine Calls.mono (HSP.out _ _ _) ?_
        rintro r W6 ⟨rfl, rfl⟩
        clear HSP
        go_wp2_with (refine wpList_store_row rfl 30 (.tmp 6) (.tmp 45) rfl (w.heap.size + 1) (evc dE (.slice none 0 0)) rfl rfl 30 zEv g1 infoEv rfl (evc_one _ _ _ _) ?_)
        refine bodyPost_ret (v := .tuple #[.agg (evc dE (.slice none 0 0)), .int .i32 0, .bool false]) (results_c2 (p := 6) (q := 7) (r := 8) (ty := 30) rfl _ _ (w.heap.size + 1) 30 (evc dE (.slice none 0 0)) (0, 0) _ _ _ rfl rfl rfl (setRow_heap _ _ _ _ _ _ g1) Tryz.underlying30 rfl infoEv) rfl ?_
        rw [HF.out]
        exact ⟨rfl, up_setRow HU (by omega) _⟩
      · have HF : Hid (chP s f (i : Int) = some (⟨3, f, 0, (i : Int), 0, 0, 0, 0, 0, 0, 0, []⟩, x)) := by unfold Hid chP; rw [HCN.out]; unfold pPart; rw [if_pos hp, Int.toNat_natCast, q2]; rfl
        simp only [q1, pAt, Option.map_some] at HSP
        have HQ : Hid _ := q3
        have HCC : Hid _ := fun W u => hcc W u i hi
        clear hp q1 q2 q3 hcc HSC
        go_wp2_with fail
        refine Calls.mono (HIP.out _ HU) ?_
        rintro r W5 ⟨rfl, u9⟩
        have g0 := u9.heap g0
        have g1 := u9.heap g1
        have HU := HU.trans u9
        clear u9 HIP y0 y1 y2 y3 y4 y5 y6
        obtain ⟨y0, y1, y2, y3, y4, y5, y6⟩ := seven_cells g0
        go_wp2_with fail
        refine Calls.mono (HSP.out _ _ _) ?_
        rintro r W6 ⟨rfl, rfl⟩
        clear HSP
        have HX : Hid (∀ W, Up w W → _) := fun W u => HQ.out W b (off + i * 3) ⟨(HCC.out W u).1, (HCC.out W u).2.1⟩
        have ge : W6.drew.heap[w.heap.size + 1]? = some (.cells zEv 30 (0, 0)) := g1
        have gl : w.heap.size ≤ w.heap.size + 1 := by omega
        go_wp2_with fail
        refine (fun key : ∀ (W : World), Up w W → W.heap[w.heap.size + 1]? = some (.cells (evc ⟨3, f, 0, (i : Int), 0, 0, 0, 0, 0, 0, 0, []⟩ (.slice none 0 0)) 30 (0, 0)) → (?Gp1 : World → Prop) W => ?mainp1) ?kpp1
        case mainp1 =>
          refine wp_region_held_drew (S := fun W9 => Up w W9) (by kernel_rfl) (Up.drew HU) (fun hHeld => ?_)
          have Ur0 : Up w W6.drew := Up.drew HU
          refine wpAnyH_take (i := 0) (v := ?_) rfl (by kernel_rfl) (by kernel_rfl) (by kernel_rfl) (fun _ _ _ h => h) (Or.inl ⟨by rfl, ?_⟩) (by assumption) ?_
          rotate_left
          · intro w9 hSw
            go_simp
            try with_reducible rfl
          simp only [Act.put, List.setIfInBounds_toArray, List.set_cons_zero, List.set_cons_succ, List.getElem_toArray, List.getElem_cons_zero]
          refine wpAnyH_take (i := 1) (v := ?_) rfl (by kernel_rfl) (by kernel_rfl) (by kernel_rfl) (fun _ _ _ h => h) (Or.inl ⟨by rfl, ?_⟩) (by assumption) ?_
          rotate_left
          · intro w9 hSw
            go_simp
            try with_reducible rfl
          simp only [Act.put, List.setIfInBounds_toArray, List.set_cons_zero, List.set_cons_succ, List.getElem_toArray, List.getElem_cons_zero, List.getElem_cons_succ]
          refine wpAnyH_take (i := 2) (v := ?_) rfl (by kernel_rfl) (by kernel_rfl) (by kernel_rfl) (fun _ _ _ h => h) (Or.inl ⟨by rfl, ?_⟩) (by assumption) ?_
          rotate_left
          · intro w9 hSw
            go_simp
            try with_reducible rfl
          simp only [Act.put, List.setIfInBounds_toArray, List.set_cons_zero, List.set_cons_succ, List.getElem_toArray, List.getElem_cons_zero, List.getElem_cons_succ]
          refine wpAnyH_take (i := 3) (v := ?_) rfl (by kernel_rfl) (by kernel_rfl) (by kernel_rfl) (fun _ _ _ h => h) (Or.inl ⟨by rfl, ?_⟩) (by assumption) ?_
          rotate_left
          · intro w9 hSw
            go_simp
            try with_reducible rfl
          simp only [Act.put, List.setIfInBounds_toArray, List.set_cons_zero, List.set_cons_succ, List.getElem_toArray, List.getElem_cons_zero, List.getElem_cons_succ]
          refine wpAnyH_take (i := 4) (v := ?_) rfl (by kernel_rfl) (by kernel_rfl) (by kernel_rfl) (fun _ _ _ h => h) (Or.inl ⟨by rfl, ?_⟩) (by assumption) ?_
          rotate_left
          · intro w9 hSw
            go_simp
            try with_reducible rfl
          simp only [Act.put, List.setIfInBounds_toArray, List.set_cons_zero, List.set_cons_succ, List.getElem_toArray, List.getElem_cons_zero, List.getElem_cons_succ]
          refine wpAnyH_take (i := 5) (v := ?_) rfl (by kernel_rfl) (by kernel_rfl) (by kernel_rfl) (fun _ _ _ h => h) (Or.inl ⟨by rfl, ?_⟩) (by assumption) ?_
          rotate_left
          · intro w9 hSw
            have hx := HX.out w9 hSw
            go_simp
            try with_reducible rfl
          simp only [Act.put, List.setIfInBounds_toArray, List.set_cons_zero, List.set_cons_succ, List.getElem_toArray, List.getElem_cons_zero, List.getElem_cons_succ]
          refine wpAnyH_ready (rs := [6]) (by kernel_rfl) (by simp) ?_
          refine AllReadyH.cons rfl (fun K hK => ?_) AllReadyH.nil
          simp only [List.getElem_toArray, List.getElem_cons_zero, List.getElem_cons_succ]
          refine stepH_store (by rfl) 30 (.tmp 6) (.tmp 41) (by rfl) (w.heap.size + 1) (evc ⟨3, f, 0, (i : Int), 0, 0, 0, 0, 0, 0, 0, []⟩ (.slice none 0 0)) (by rfl) (by rfl) 30 zEv ge (infoEv) (rfl) (evc_one _ _ _ _) ?_
          refine hK.out _ _ ?_ (fun hHeld => ?_)
          · exact up_setRow Ur0 gl _
          clear hK K
          simp only [Act.put]
          obtain ⟨Wr1, hW1⟩ : ∃ W1, (W6.drew).setRow (w.heap.size + 1) (evc ⟨3, f, 0, (i : Int), 0, 0, 0, 0, 0, 0, 0, []⟩ (.slice none 0 0)) = W1 := ⟨_, rfl⟩
          refine wpAnyH_world hW1 ?_
          have Ur1 : Up w Wr1 := by rw [← hW1]; exact up_setRow Ur0 gl _
          have ge : Wr1.heap[(w.heap.size + 1)]? = some (.cells (evc ⟨3, f, 0, (i : Int), 0, 0, 0, 0, 0, 0, 0, []⟩ (.slice none 0 0)) 30 (0, 0)) := by rw [← hW1]; exact setRow_heap _ _ _ _ _ _ ge
          clear hHeld hW1
          have hSS := Ur1
          refine wpAnyH_take (i := 7) (v := ?_) rfl (by kernel_rfl) (by kernel_rfl) (by kernel_rfl) (fun _ _ _ h => h) (Or.inl ⟨by rfl, ?_⟩) (by assumption) ?_
          rotate_left
          · intro w9 hSw
            go_simp
            try with_reducible rfl
          simp only [Act.put, List.setIfInBounds_toArray, List.set_cons_zero, List.set_cons_succ, List.getElem_toArray, List.getElem_cons_zero, List.getElem_cons_succ]
          refine wpAnyH_take (i := 8) (v := ?_) rfl (by kernel_rfl) (by kernel_rfl) (by kernel_rfl) (fun _ _ _ h => h) (Or.inl ⟨by rfl, ?_⟩) (by assumption) ?_
          rotate_left
          · intro w9 hSw
            go_simp
            try with_reducible rfl
          simp only [Act.put, List.setIfInBounds_toArray, List.set_cons_zero, List.set_cons_succ, List.getElem_toArray, List.getElem_cons_zero, List.getElem_cons_succ]
          refine wpAnyH_done (by kernel_rfl) ?_ _
          exact key Wr1 Ur1 ge
        case kpp1 =>
          intro W9 U9 g9
          go_wp2_with fail
          refine bodyPost_ret (v := .tuple #[.agg (evc ⟨3, f, 0, (i : Int), 0, 0, 0, 0, 0, 0, 0, []⟩ (.slice none 0 0)), .int .i32 x, .bool true]) (results_c2 (p := 6) (q := 7) (r := 8) (ty := 30) rfl _ _ (w.heap.size + 1) 30 (evc ⟨3, f, 0, (i : Int), 0, 0, 0, 0, 0, 0, 0, []⟩ (.slice none 0 0)) (0, 0) _ _ _ rfl rfl rfl g9 Tryz.underlying30 rfl infoEv) rfl ?_
          rw [HF.out]
          exact ⟨rfl, U9⟩
  · rw [hc] at HIC
    obtain ⟨j, hj, hjm⟩ := num_nat hc
    obtain ⟨cb, coff, rfl, hcl2⟩ := hcl (by omega)
    have hj2 : (j : Int) < (s.cs.length : Int) := by omega
    rcases c_field f (s.cs.getD j dc) with ⟨q1, q2⟩ | ⟨k, x, q1, q2, q3⟩
    · have HCN : Hid (cPart s f n = none) := by unfold Hid cPart; rw [if_pos hc, hj, Int.toNat_natCast, q2]; rfl
      simp only [q1, pAt, Option.map_none] at HSC
      subst hj
      clear hc q1 q2 hcl2 hcl
      obtain ⟨y0, y1, y2, y3, y4, y5, y6⟩ := seven_cells g0
      go_enter Tryz.func170, Tryz.ntmps170
      go_wp2_with fail
      refine Calls.mono (HIC.out _ HU0) ?_
      rintro r W1 ⟨rfl, u1⟩
      have g0 := u1.heap g0
      have g1 := u1.heap g1
      have HU := HU0.trans u1
      clear u1 HIC hW0 HU0 y0 y1 y2 y3 y4 y5 y6
      obtain ⟨y0, y1, y2, y3, y4, y5, y6⟩ := seven_cells g0
      go_wp2_with fail
      refine Calls.mono (HSC.out _ _ _) ?_
      rintro r W2 ⟨rfl, rfl⟩
      cases hp : numB (j : Int) s.ps.length
      · have HF : Hid (chP s f (j : Int) = none) := by unfold Hid chP; rw [HCN.out]; unfold pPart; rw [hp]; rfl
        rw [hp] at HIP
        clear hp hpl HSC HSP
        go_wp2_with fail
        refine Calls.mono (HIP.out _ HU) ?_
        rintro r W5 ⟨rfl, u9⟩
        have g0 := u9.heap g0
        have g1 := u9.heap g1
        have HU := HU.trans u9
        clear u9 HIP y0 y1 y2 y3 y4 y5 y6
        obtain ⟨y0, y1, y2, y3, y4, y5, y6⟩ := seven_cells g0
        go_wp2_with (refine wpList_store_row rfl 30 (.tmp 6) (.tmp 45) rfl (w.heap.size + 1) (evc dE (.slice none 0 0)) rfl rfl 30 zEv g1 infoEv rfl (evc_one _ _ _ _) ?_)
        refine bodyPost_ret (v := .tuple #[.agg (evc dE (.slice none 0 0)), .int .i32 0, .bool false]) (results_c2 (p := 6) (q := 7) (r := 8) (ty := 30) rfl _ _ (w.heap.size + 1) 30 (evc dE (.slice none 0 0)) (0, 0) _ _ _ rfl rfl rfl (setRow_heap _ _ _ _ _ _ g1) Tryz.underlying30 rfl infoEv) rfl ?_
        rw [HF.out]
        exact ⟨rfl, up_setRow HU (by omega) _⟩
      · rw [hp] at HIP
        obtain ⟨i, hij, hi⟩ := num_nat hp
        obtain rfl : i = j := by omega
        clear hij
        obtain ⟨b, off, rfl, hcc⟩ := hpl (by omega)
        have hi2 : (i : Int) < (s.ps.length : Int) := by omega
        rcases p_field f (s.ps.getD i dp) with ⟨q1, q2⟩ | ⟨k, x, q1, q2, q3⟩
        · have HF : Hid (chP s f (i : Int) = none) := by unfold Hid chP; rw [HCN.out]; unfold pPart; rw [if_pos hp, Int.toNat_natCast, q2]; rfl
          simp only [q1, pAt, Option.map_none] at HSP
          clear hp q1 q2 hcc HSC
          go_wp2_with fail
          refine Calls.mono (HIP.out _ HU) ?_
          rintro r W5 ⟨rfl, u9⟩
          have g0 := u9.heap g0
          have g1 := u9.heap g1
          have HU := HU.trans u9
          clear u9 HIP y0 y1 y2 y3 y4 y5 y6
          obtain ⟨y0, y1, y2, y3, y4, y5, y6⟩ := seven_cells g0
          go_wp2_with fail
          refine Calls.mono (HSP.out _ _ _) ?_
          rintro r W6 ⟨rfl, rfl⟩
          clear HSP
          go_wp2_with (refine wpList_store_row rfl 30 (.tmp 6) (.tmp 45) rfl (w.heap.size + 1) (evc dE (.slice none 0 0)) rfl rfl 30 zEv g1 infoEv rfl (evc_one _ _ _ _) ?_)
          refine bodyPost_ret (v := .tuple #[.agg (evc dE (.slice none 0 0)), .int .i32 0, .bool false]) (results_c2 (p := 6) (q := 7) (r := 8) (ty := 30) rfl _ _ (w.heap.size + 1) 30 (evc dE (.slice none 0 0)) (0, 0) _ _ _ rfl rfl rfl (setRow_heap _ _ _ _ _ _ g1) Tryz.underlying30 rfl infoEv) rfl ?_
          rw [HF.out]
          exact ⟨rfl, up_setRow HU (by omega) _⟩
        · have HF : Hid (chP s f (i : Int) = some (⟨3, f, 0, (i : Int), 0, 0, 0, 0, 0, 0, 0, []⟩, x)) := by unfold Hid chP; rw [HCN.out]; unfold pPart; rw [if_pos hp, Int.toNat_natCast, q2]; rfl
          simp only [q1, pAt, Option.map_some] at HSP
          have HQ : Hid _ := q3
          have HCC : Hid _ := fun W u => hcc W u i hi
          clear hp q1 q2 q3 hcc HSC
          go_wp2_with fail
          refine Calls.mono (HIP.out _ HU) ?_
          rintro r W5 ⟨rfl, u9⟩
          have g0 := u9.heap g0
          have g1 := u9.heap g1
          have HU := HU.trans u9
          clear u9 HIP y0 y1 y2 y3 y4 y5 y6
          obtain ⟨y0, y1, y2, y3, y4, y5, y6⟩ := seven_cells g0
          go_wp2_with fail
          refine Calls.mono (HSP.out _ _ _) ?_
          rintro r W6 ⟨rfl, rfl⟩
          clear HSP
          have HX : Hid (∀ W, Up w W → _) := fun W u => HQ.out W b (off + i * 3) ⟨(HCC.out W u).1, (HCC.out W u).2.1⟩
          have ge : W6.drew.heap[w.heap.size + 1]? = some (.cells zEv 30 (0, 0)) := g1
          have gl : w.heap.size ≤ w.heap.size + 1 := by omega
          go_wp2_with fail
          refine (fun key : ∀ (W : World), Up w W → W.heap[w.heap.size + 1]? = some (.cells (evc ⟨3, f, 0, (i : Int), 0, 0, 0, 0, 0, 0, 0, []⟩ (.slice none 0 0)) 30 (0, 0)) → (?Gp2 : World → Prop) W => ?mainp2) ?kpp2
          case mainp2 =>
            refine wp_region_held_drew (S := fun W9 => Up w W9) (by kernel_rfl) (Up.drew HU) (fun hHeld => ?_)
            have Ur0 : Up w W6.drew := Up.drew HU
            refine wpAnyH_take (i := 0) (v := ?_) rfl (by kernel_rfl) (by kernel_rfl) (by kernel_rfl) (fun _ _ _ h => h) (Or.inl ⟨by rfl, ?_⟩) (by assumption) ?_
            rotate_left
            · intro w9 hSw
              go_simp
              try with_reducible rfl
            simp only [Act.put, List.setIfInBounds_toArray, List.set_cons_zero, List.set_cons_succ, List.getElem_toArray, List.getElem_cons_zero]
            refine wpAnyH_take (i := 1) (v := ?_) rfl (by kernel_rfl) (by kernel_rfl) (by kernel_rfl) (fun _ _ _ h => h) (Or.inl ⟨by rfl, ?_⟩) (by assumption) ?_
            rotate_left
            · intro w9 hSw
              go_simp
              try with_reducible rfl
            simp only [Act.put, List.setIfInBounds_toArray, List.set_cons_zero, List.set_cons_succ, List.getElem_toArray, List.getElem_cons_zero, List.getElem_cons_succ]
            refine wpAnyH_take (i := 2) (v := ?_) rfl (by kernel_rfl) (by kernel_rfl) (by kernel_rfl) (fun _ _ _ h => h) (Or.inl ⟨by rfl, ?_⟩) (by assumption) ?_
            rotate_left
            · intro w9 hSw
              go_simp
              try with_reducible rfl
            simp only [Act.put, List.setIfInBounds_toArray, List.set_cons_zero, List.set_cons_succ, List.getElem_toArray, List.getElem_cons_zero, List.getElem_cons_succ]
            refine wpAnyH_take (i := 3) (v := ?_) rfl (by kernel_rfl) (by kernel_rfl) (by kernel_rfl) (fun _ _ _ h => h) (Or.inl ⟨by rfl, ?_⟩) (by assumption) ?_
            rotate_left
            · intro w9 hSw
              go_simp
              try with_reducible rfl
            simp only [Act.put, List.setIfInBounds_toArray, List.set_cons_zero, List.set_cons_succ, List.getElem_toArray, List.getElem_cons_zero, List.getElem_cons_succ]
            refine wpAnyH_take (i := 4) (v := ?_) rfl (by kernel_rfl) (by kernel_rfl) (by kernel_rfl) (fun _ _ _ h => h) (Or.inl ⟨by rfl, ?_⟩) (by assumption) ?_
            rotate_left
            · intro w9 hSw
              go_simp
              try with_reducible rfl
            simp only [Act.put, List.setIfInBounds_toArray, List.set_cons_zero, List.set_cons_succ, List.getElem_toArray, List.getElem_cons_zero, List.getElem_cons_succ]
            refine wpAnyH_take (i := 5) (v := ?_) rfl (by kernel_rfl) (by kernel_rfl) (by kernel_rfl) (fun _ _ _ h => h) (Or.inl ⟨by rfl, ?_⟩) (by assumption) ?_
            rotate_left
            · intro w9 hSw
              have hx := HX.out w9 hSw
              go_simp
              try with_reducible rfl
            simp only [Act.put, List.setIfInBounds_toArray, List.set_cons_zero, List.set_cons_succ, List.getElem_toArray, List.getElem_cons_zero, List.getElem_cons_succ]
            refine wpAnyH_ready (rs := [6]) (by kernel_rfl) (by simp) ?_
            refine AllReadyH.cons rfl (fun K hK => ?_) AllReadyH.nil
            simp only [List.getElem_toArray, List.getElem_cons_zero, List.getElem_cons_succ]
            refine stepH_store (by rfl) 30 (.tmp 6) (.tmp 41) (by rfl) (w.heap.size + 1) (evc ⟨3, f, 0, (i : Int), 0, 0, 0, 0, 0, 0, 0, []⟩ (.slice none 0 0)) (by rfl) (by rfl) 30 zEv ge (infoEv) (rfl) (evc_one _ _ _ _) ?_
            refine hK.out _ _ ?_ (fun hHeld => ?_)
            · exact up_setRow Ur0 gl _
            clear hK K
            simp only [Act.put]
            obtain ⟨Wr1, hW1⟩ : ∃ W1, (W6.drew).setRow (w.heap.size + 1) (evc ⟨3, f, 0, (i : Int), 0, 0, 0, 0, 0, 0, 0, []⟩ (.slice none 0 0)) = W1 := ⟨_, rfl⟩
            refine wpAnyH_world hW1 ?_
            have Ur1 : Up w Wr1 := by rw [← hW1]; exact up_setRow Ur0 gl _
            have ge : Wr1.heap[(w.heap.size + 1)]? = some (.cells (evc ⟨3, f, 0, (i : Int), 0, 0, 0, 0, 0, 0, 0, []⟩ (.slice none 0 0)) 30 (0, 0)) := by rw [← hW1]; exact setRow_heap _ _ _ _ _ _ ge
            clear hHeld hW1
            have hSS := Ur1
            refine wpAnyH_take (i := 7) (v := ?_) rfl (by kernel_rfl) (by kernel_rfl) (by kernel_rfl) (fun _ _ _ h => h) (Or.inl ⟨by rfl, ?_⟩) (by assumption) ?_
            rotate_left
            · intro w9 hSw
              go_simp
              try with_reducible rfl
            simp only [Act.put, List.setIfInBounds_toArray, List.set_cons_zero, List.set_cons_succ, List.getElem_toArray, List.getElem_cons_zero, List.getElem_cons_succ]
            refine wpAnyH_take (i := 8) (v := ?_) rfl (by kernel_rfl) (by kernel_rfl) (by kernel_rfl) (fun _ _ _ h => h) (Or.inl ⟨by rfl, ?_⟩) (by assumption) ?_
            rotate_left
            · intro w9 hSw
              go_simp
              try with_reducible rfl
            simp only [Act.put, List.setIfInBounds_toArray, List.set_cons_zero, List.set_cons_succ, List.getElem_toArray, List.getElem_cons_zero, List.getElem_cons_succ]
            refine wpAnyH_done (by kernel_rfl) ?_ _
            exact key Wr1 Ur1 ge
          case kpp2 =>
            intro W9 U9 g9
            go_wp2_with fail
            refine bodyPost_ret (v := .tuple #[.agg (evc ⟨3, f, 0, (i : Int), 0, 0, 0, 0, 0, 0, 0, []⟩ (.slice none 0 0)), .int .i32 x, .bool true]) (results_c2 (p := 6) (q := 7) (r := 8) (ty := 30) rfl _ _ (w.heap.size + 1) 30 (evc ⟨3, f, 0, (i : Int), 0, 0, 0, 0, 0, 0, 0, []⟩ (.slice none 0 0)) (0, 0) _ _ _ rfl rfl rfl g9 Tryz.underlying30 rfl infoEv) rfl ?_
            rw [HF.out]
            exact ⟨rfl, U9⟩
    · have HF : Hid (chP s f n = some (⟨2, f, n, 0, 0, 0, 0, 0, 0, 0, 0, []⟩, x)) := by unfold Hid chP cPart; rw [if_pos hc, hj, Int.toNat_natCast, q2]; rfl
      simp only [q1, pAt, Option.map_some] at HSC
      have HQ : Hid _ := q3
      have HCC : Hid _ := fun W u => hcl2 W u j hjm
      subst hj
      clear hc q1 q2 q3 hcl2 HSP HIP hcl
      obtain ⟨y0, y1, y2, y3, y4, y5, y6⟩ := seven_cells g0
      go_enter Tryz.func170, Tryz.ntmps170
      go_wp2_with fail
      refine Calls.mono (HIC.out _ HU0) ?_
      rintro r W1 ⟨rfl, u1⟩
      have g0 := u1.heap g0
      have g1 := u1.heap g1
      have HU := HU0.trans u1
      clear u1 HIC hW0 HU0 y0 y1 y2 y3 y4 y5 y6
      obtain ⟨y0, y1, y2, y3, y4, y5, y6⟩ := seven_cells g0
      go_wp2_with fail
      refine Calls.mono (HSC.out _ _ _) ?_
      rintro r W2 ⟨rfl, rfl⟩
      clear HSC
      have HX : Hid (∀ W, Up w W → _) := fun W u => HQ.out W cb (coff + j * 6) ⟨(HCC.out W u).2.2.1, (HCC.out W u).2.2.2.1, (HCC.out W u).2.2.2.2.1, (HCC.out W u).2.2.2.2.2⟩
      have ge : W2.drew.heap[w.heap.size + 1]? = some (.cells zEv 30 (0, 0)) := g1
      have gl : w.heap.size ≤ w.heap.size + 1 := by omega
      go_wp2_with fail
      refine (fun key : ∀ (W : World), Up w W → W.heap[w.heap.size + 1]? = some (.cells (evc ⟨2, f, (j : Int), 0, 0, 0, 0, 0, 0, 0, 0, []⟩ (.slice none 0 0)) 30 (0, 0)) → (?Gc3 : World → Prop) W => ?mainc3) ?kpc3
      case mainc3 =>
        refine wp_region_held_drew (S := fun W9 => Up w W9) (by kernel_rfl) (Up.drew HU) (fun hHeld => ?_)
        have Ur0 : Up w W2.drew := Up.drew HU
        refine wpAnyH_take (i := 0) (v := ?_) rfl (by kernel_rfl) (by kernel_rfl) (by kernel_rfl) (fun _ _ _ h => h) (Or.inl ⟨by rfl, ?_⟩) (by assumption) ?_
        rotate_left
        · intro w9 hSw
          go_simp
          try with_reducible rfl
        simp only [Act.put, List.setIfInBounds_toArray, List.set_cons_zero, List.set_cons_succ, List.getElem_toArray, List.getElem_cons_zero]
        refine wpAnyH_take (i := 1) (v := ?_) rfl (by kernel_rfl) (by kernel_rfl) (by kernel_rfl) (fun _ _ _ h => h) (Or.inl ⟨by rfl, ?_⟩) (by assumption) ?_
        rotate_left
        · intro w9 hSw
          go_simp
          try with_reducible rfl
        simp only [Act.put, List.setIfInBounds_toArray, List.set_cons_zero, List.set_cons_succ, List.getElem_toArray, List.getElem_cons_zero, List.getElem_cons_succ]
        refine wpAnyH_take (i := 2) (v := ?_) rfl (by kernel_rfl) (by kernel_rfl) (by kernel_rfl) (fun _ _ _ h => h) (Or.inl ⟨by rfl, ?_⟩) (by assumption) ?_
        rotate_left
        · intro w9 hSw
          go_simp
          try with_reducible rfl
        simp only [Act.put, List.setIfInBounds_toArray, List.set_cons_zero, List.set_cons_succ, List.getElem_toArray, List.getElem_cons_zero, List.getElem_cons_succ]
        refine wpAnyH_take (i := 3) (v := ?_) rfl (by kernel_rfl) (by kernel_rfl) (by kernel_rfl) (fun _ _ _ h => h) (Or.inl ⟨by rfl, ?_⟩) (by assumption) ?_
        rotate_left
        · intro w9 hSw
          go_simp
          try with_reducible rfl
        simp only [Act.put, List.setIfInBounds_toArray, List.set_cons_zero, List.set_cons_succ, List.getElem_toArray, List.getElem_cons_zero, List.getElem_cons_succ]
        refine wpAnyH_take (i := 4) (v := ?_) rfl (by kernel_rfl) (by kernel_rfl) (by kernel_rfl) (fun _ _ _ h => h) (Or.inl ⟨by rfl, ?_⟩) (by assumption) ?_
        rotate_left
        · intro w9 hSw
          go_simp
          try with_reducible rfl
        simp only [Act.put, List.setIfInBounds_toArray, List.set_cons_zero, List.set_cons_succ, List.getElem_toArray, List.getElem_cons_zero, List.getElem_cons_succ]
        refine wpAnyH_take (i := 5) (v := ?_) rfl (by kernel_rfl) (by kernel_rfl) (by kernel_rfl) (fun _ _ _ h => h) (Or.inl ⟨by rfl, ?_⟩) (by assumption) ?_
        rotate_left
        · intro w9 hSw
          have hx := HX.out w9 hSw
          go_simp
          try with_reducible rfl
        simp only [Act.put, List.setIfInBounds_toArray, List.set_cons_zero, List.set_cons_succ, List.getElem_toArray, List.getElem_cons_zero, List.getElem_cons_succ]
        refine wpAnyH_ready (rs := [6]) (by kernel_rfl) (by simp) ?_
        refine AllReadyH.cons rfl (fun K hK => ?_) AllReadyH.nil
        simp only [List.getElem_toArray, List.getElem_cons_zero, List.getElem_cons_succ]
        refine stepH_store (by rfl) 30 (.tmp 6) (.tmp 24) (by rfl) (w.heap.size + 1) (evc ⟨2, f, (j : Int), 0, 0, 0, 0, 0, 0, 0, 0, []⟩ (.slice none 0 0)) (by rfl) (by rfl) 30 zEv ge (infoEv) (rfl) (evc_one _ _ _ _) ?_
        refine hK.out _ _ ?_ (fun hHeld => ?_)
        · exact up_setRow Ur0 gl _
        clear hK K
        simp only [Act.put]
        obtain ⟨Wr1, hW1⟩ : ∃ W1, (W2.drew).setRow (w.heap.size + 1) (evc ⟨2, f, (j : Int), 0, 0, 0, 0, 0, 0, 0, 0, []⟩ (.slice none 0 0)) = W1 := ⟨_, rfl⟩
        refine wpAnyH_world hW1 ?_
        have Ur1 : Up w Wr1 := by rw [← hW1]; exact up_setRow Ur0 gl _
        have ge : Wr1.heap[(w.heap.size + 1)]? = some (.cells (evc ⟨2, f, (j : Int), 0, 0, 0, 0, 0, 0, 0, 0, []⟩ (.slice none 0 0)) 30 (0, 0)) := by rw [← hW1]; exact setRow_heap _ _ _ _ _ _ ge
        clear hHeld hW1
        have hSS := Ur1
        refine wpAnyH_take (i := 7) (v := ?_) rfl (by kernel_rfl) (by kernel_rfl) (by kernel_rfl) (fun _ _ _ h => h) (Or.inl ⟨by rfl, ?_⟩) (by assumption) ?_
        rotate_left
        · intro w9 hSw
          go_simp
          try with_reducible rfl
        simp only [Act.put, List.setIfInBounds_toArray, List.set_cons_zero, List.set_cons_succ, List.getElem_toArray, List.getElem_cons_zero, List.getElem_cons_succ]
        refine wpAnyH_take (i := 8) (v := ?_) rfl (by kernel_rfl) (by kernel_rfl) (by kernel_rfl) (fun _ _ _ h => h) (Or.inl ⟨by rfl, ?_⟩) (by assumption) ?_
        rotate_left
        · intro w9 hSw
          go_simp
          try with_reducible rfl
        simp only [Act.put, List.setIfInBounds_toArray, List.set_cons_zero, List.set_cons_succ, List.getElem_toArray, List.getElem_cons_zero, List.getElem_cons_succ]
        refine wpAnyH_done (by kernel_rfl) ?_ _
        exact key Wr1 Ur1 ge
      case kpc3 =>
        intro W9 U9 g9
        go_wp2_with fail
        refine bodyPost_ret (v := .tuple #[.agg (evc ⟨2, f, (j : Int), 0, 0, 0, 0, 0, 0, 0, 0, []⟩ (.slice none 0 0)), .int .i32 x, .bool true]) (results_c2 (p := 6) (q := 7) (r := 8) (ty := 30) rfl _ _ (w.heap.size + 1) 30 (evc ⟨2, f, (j : Int), 0, 0, 0, 0, 0, 0, 0, 0, []⟩ (.slice none 0 0)) (0, 0) _ _ _ rfl rfl rfl g9 Tryz.underlying30 rfl infoEv) rfl ?_
        rw [HF.out]
        exact ⟨rfl, U9⟩
end DE
end Go.Proofs.YtjabjiahienohaaGreatDoor
