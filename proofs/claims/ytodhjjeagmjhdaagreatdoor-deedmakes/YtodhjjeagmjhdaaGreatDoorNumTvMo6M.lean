/- Num, Sat, Ch6, Oo6, Mo6 -/
import Derived.WalkKit
import Derived.OpenShut
import Derived.Test.YtodhjjeagmjhdaaGreatDoorProg
import Derived.Test.YtodhjjeagmjhdaaGreatDoorBaseTvStM
import Derived.WalkSpells
import Derived.WalkLawsBesides
import Derived.Handy
import Derived.Test.YtodhjjeagmjhdaaGreatDoorEl6TvDw6M
import Derived.Test.YtodhjjeagmjhdaaGreatDoorFaTvTcM
import Derived.Test.YtodhjjeagmjhdaaGreatDoorWhTvDeM
namespace Go.Proofs.YtodhjjeagmjhdaaGreatDoor
open Go.RowKit
def cutI (lo hi x : Int) : Int := if x < lo then lo else if hi < x then hi else x
def nz (b : Int) : Bool := !(b == 0)
theorem wrap_i32 (n : Int) : wrap32 n = (n + 2147483648) % 4294967296 - 2147483648 := by unfold wrap32; rfl
theorem wrap_i64 (n : Int) : wrap64 n = (n + 9223372036854775808) % 18446744073709551616 - 9223372036854775808 := by unfold wrap64; rfl
def cut64 (x : Int) : Int := cutI (-9223372036854775808) 9223372036854775807 x
def end64V (q : Bool) : Int := bif q then -9223372036854775808 else 9223372036854775807
theorem end64_t : end64V true = -9223372036854775808 := rfl
theorem end64_f : end64V false = 9223372036854775807 := rfl
end Go.Proofs.YtodhjjeagmjhdaaGreatDoor
namespace Go.Proofs.YtodhjjeagmjhdaaGreatDoor
open Go.RowKit
set_option maxHeartbeats 400000 in
theorem endI64 (q : Bool) (w : World) :
  Calls Tryz.prog 197 #[.bool q] w fun e w' => e = .returned (.int .i64 (end64V q)) /\ w' = w := by
 have i0 : ∀ w : World, (Instr.index 219 (.agg #[.int .i64 127, .int .i64 32767, .int .i64 2147483647, .int .i64 9223372036854775807]) (.int .i64 0)).run Tryz.prog w = .ok (.int .i64 127) w := fun _ => by kernel_rfl
 have i1 : ∀ w : World, (Instr.index 219 (.agg #[.int .i64 127, .int .i64 32767, .int .i64 2147483647, .int .i64 9223372036854775807]) (.int .i64 1)).run Tryz.prog w = .ok (.int .i64 32767) w := fun _ => by kernel_rfl
 have i2 : ∀ w : World, (Instr.index 219 (.agg #[.int .i64 127, .int .i64 32767, .int .i64 2147483647, .int .i64 9223372036854775807]) (.int .i64 2)).run Tryz.prog w = .ok (.int .i64 2147483647) w := fun _ => by kernel_rfl
 have i3 : ∀ w : World, (Instr.index 219 (.agg #[.int .i64 127, .int .i64 32767, .int .i64 2147483647, .int .i64 9223372036854775807]) (.int .i64 3)).run Tryz.prog w = .ok (.int .i64 9223372036854775807) w := fun _ => by kernel_rfl
 cases q
 ·rw [end64_f]
  go_enter Tryz.func197, Tryz.ntmps197
  go_wp2
  go_rounds 5
  go_ret
  exact ⟨rfl, rfl⟩
 ·rw [end64_t]
  go_enter Tryz.func197, Tryz.ntmps197
  go_wp2
  go_rounds 5
  go_ret
  exact ⟨rfl, rfl⟩
set_option maxHeartbeats 400000 in
theorem addI64 (a b : Int) (w : World) (a1 : -9223372036854775808 <= a) (a2 : a <= 9223372036854775807) (b1 : -9223372036854775808 <= b) (b2 : b <= 9223372036854775807) :
  Calls Tryz.prog 166 #[.int .i64 a, .int .i64 b] w fun e w' => e = .returned (.int .i64 (cut64 (a + b))) /\ w' = w := by
 go_enter Tryz.func166, Tryz.ntmps166
 go_wp2_with (go_at_call 197; refine (endI64 _ _).mono ?_; rintro e w' ⟨rfl, rfl⟩)
 all_goals (go_ret; refine ⟨ret_int ?_, rfl⟩)
 all_goals (simp only [wrap_i64] at *; unfold cut64 cutI; first | omega | (unfold end64V; simp [*]; omega))
set_option maxHeartbeats 400000 in
theorem clampI64 (a b c : Int) (w : World) :
  Calls Tryz.prog 165 #[.int .i64 a, .int .i64 b, .int .i64 c] w fun e w' => e = .returned (.int .i64 (max b (min a c))) /\ w' = w := by
 go_enter Tryz.func165, Tryz.ntmps165
 go_wp2
 all_goals (go_ret; exact ⟨ret_int (by omega), rfl⟩)
end Go.Proofs.YtodhjjeagmjhdaaGreatDoor
namespace Go.Proofs.YtodhjjeagmjhdaaGreatDoor
open Go.RowKit
attribute [local go_sem ↓] Go.wp_at_zero Go.wp_at_succ
namespace DE
open Go.Proofs.YtodhjjeagmjhdaaGreatDoor.ST
def cPart (s : Stt) (f n : Int) : Option (Ev × Int) := if numB n s.cs.length = true then (cGet (s.cs.getD n.toNat dc) f).map fun y => (⟨2, f, n, 0, 0, 0, 0, 0, 0, 0, 0, []⟩, y) else none
def pPart (s : Stt) (f n : Int) : Option (Ev × Int) := if numB n s.ps.length = true then (pGet (s.ps.getD n.toNat dp) f).map fun y => (⟨3, f, 0, n, 0, 0, 0, 0, 0, 0, 0, []⟩, y) else none
def chP (s : Stt) (f n : Int) : Option (Ev × Int) := match cPart s f n with
 | some r => some r
 | none => pPart s f n
def chV (o : Option (Ev × Int)) : Value := match o with
 | some r => .tuple #[.agg (evc r.1 (.slice none 0 0)), .int .i32 r.2, .bool true]
 | none => .tuple #[.agg (evc dE (.slice none 0 0)), .int .i32 0, .bool false]
set_option maxRecDepth 100000 in
set_option maxHeartbeats 2000000 in
theorem changeOf_ (v : Value) (s : Stt) (f n : Int) (w : World) (hs : StL w v s) : Calls Tryz.prog 164 #[v, .int .i8 f, .int .i64 n] w fun r w' => r = .returned (chV (chP s f n)) /\ Up w w' := by
 have HIC : Hid (∀ W, Up w W -> _) := fun W u => isCard_ v s n W (hs.up u)
 have HIP : Hid (∀ W, Up w W -> _) := fun W u => isPlayer_ v s n W (hs.up u)
 have HSC : Hid _ := fun b o => cardStat_ b o f
 have HSP : Hid _ := fun b o => playerStat_ b o f
 obtain ⟨vp, vc, vz, rfl, h1, h2, h3⟩ := hs
 obtain ⟨a1, k1, rfl, -, hpl⟩ := pl_at h1
 obtain ⟨a2, k2, rfl, -, hcl⟩ := cl_at h2
 obtain ⟨a3, k3, rfl, -, -⟩ := zl_at h3
 unfold sv at *
 obtain ⟨W0, hW0⟩ : ∃ W0, (w.alloc (.cells #[.slice a1 s.ps.length k1, .slice a2 s.cs.length k2, .slice a3 s.zs.length k3, .int .i32 s.turn, .int .i64 s.whose, .int .i8 s.fin, .int .i64 s.winner] 27)).alloc (.cells zEv 30) = W0 := ⟨_, rfl⟩
 have g0 : W0.heap[w.heap.size]? = some (.cells #[.slice a1 s.ps.length k1, .slice a2 s.cs.length k2, .slice a3 s.zs.length k3, .int .i32 s.turn, .int .i64 s.whose, .int .i8 s.fin, .int .i64 s.winner] 27 (0, 0)) := by rw [<- hW0]; exact heap_alloc2_old _ _ _
 have g1 : W0.heap[w.heap.size + 1]? = some (.cells zEv 30 (0, 0)) := by rw [<- hW0]; exact heap_alloc2_new _ _ _
 have HU0 : Up w W0 := by rw [<- hW0]; exact ((Up.refl _).alloc _).alloc _
 unfold zEv at hW0
 clear h1 h2 h3
 cases hc : numB n s.cs.length
 ·have HCN : Hid (cPart s f n = none) := by unfold Hid cPart; rw [hc]; rfl
  rw [hc] at HIC
  clear hc hcl
  obtain ⟨y0, y1, y2, y3, y4, y5, y6⟩ := seven_cells g0
  go_enter Tryz.func164, Tryz.ntmps164
  go_wp2_with fail
  refine Calls.mono (HIC.out _ HU0) ?_
  rintro r W1 ⟨rfl, u1⟩
  have g0 := u1.heap g0
  have g1 := u1.heap g1
  have HU := HU0.trans u1
  clear u1 HIC hW0 HU0 y0 y1 y2 y3 y4 y5 y6
  obtain ⟨y0, y1, y2, y3, y4, y5, y6⟩ := seven_cells g0
  cases hp : numB n s.ps.length
  ·have HF : Hid (chP s f n = none) := by unfold Hid chP; rw [HCN.out]; unfold pPart; rw [hp]; rfl
   rw [hp] at HIP
   clear hp hpl HSC HSP
   go_wp2_with fail
   refine Calls.mono (HIP.out _ HU) ?_
   rintro r W5 ⟨rfl, u9⟩
   have g0 := u9.heap g0
   have g1 := u9.heap g1
   have HU := HU.trans u9
   clear u9 HIP y0 y1 y2 y3 y4 y5 y6
   obtain ⟨y0, y1, y2, y3, y4, y5, y6⟩ := seven_cells g0
   go_wp2_with (refine wpList_store_row rfl 30 (.tmp 6) (.tmp 45) rfl (w.heap.size + 1) (evc dE (.slice none 0 0)) rfl rfl 30 zEv g1 infoEv rfl (evc_one _ _ _ _) ?_)
   refine bodyPost_ret (v := .tuple #[.agg (evc dE (.slice none 0 0)), .int .i32 0, .bool false]) (results_c2 (p := 6) (q := 7) (r := 8) (ty := 30) rfl _ _ (w.heap.size + 1) 30 (evc dE (.slice none 0 0)) (0, 0) _ _ _ rfl rfl rfl (setRow_heap _ _ _ _ _ _ g1) Tryz.underlying30 rfl infoEv) rfl ?_
   rw [HF.out]
   exact ⟨rfl, up_setRow HU (by omega) _⟩
  ·rw [hp] at HIP
   obtain ⟨i, rfl, hi⟩ := num_nat hp
   obtain ⟨b, off, rfl, hcc⟩ := hpl (by omega)
   have hi2 : (i : Int) < (s.ps.length : Int) := by omega
   rcases p_field f (s.ps.getD i dp) with ⟨q1, q2⟩ | ⟨k, x, q1, q2, q3⟩
   ·have HF : Hid (chP s f (i : Int) = none) := by unfold Hid chP; rw [HCN.out]; unfold pPart; rw [if_pos hp, Int.toNat_natCast, q2]; rfl
    simp only [q1, pAt, Option.map_none] at HSP
    clear hp q1 q2 hcc HSC
    go_wp2_with fail
    refine Calls.mono (HIP.out _ HU) ?_
    rintro r W5 ⟨rfl, u9⟩
    have g0 := u9.heap g0
    have g1 := u9.heap g1
    have HU := HU.trans u9
    clear u9 HIP y0 y1 y2 y3 y4 y5 y6
    obtain ⟨y0, y1, y2, y3, y4, y5, y6⟩ := seven_cells g0
    go_wp2_with fail
    refine Calls.mono (HSP.out _ _ _) ?_
    rintro r W6 ⟨rfl, rfl⟩
    clear HSP
    go_wp2_with (refine wpList_store_row rfl 30 (.tmp 6) (.tmp 45) rfl (w.heap.size + 1) (evc dE (.slice none 0 0)) rfl rfl 30 zEv g1 infoEv rfl (evc_one _ _ _ _) ?_)
    refine bodyPost_ret (v := .tuple #[.agg (evc dE (.slice none 0 0)), .int .i32 0, .bool false]) (results_c2 (p := 6) (q := 7) (r := 8) (ty := 30) rfl _ _ (w.heap.size + 1) 30 (evc dE (.slice none 0 0)) (0, 0) _ _ _ rfl rfl rfl (setRow_heap _ _ _ _ _ _ g1) Tryz.underlying30 rfl infoEv) rfl ?_
    rw [HF.out]
    exact ⟨rfl, up_setRow HU (by omega) _⟩
   ·have HF : Hid (chP s f (i : Int) = some (⟨3, f, 0, (i : Int), 0, 0, 0, 0, 0, 0, 0, []⟩, x)) := by unfold Hid chP; rw [HCN.out]; unfold pPart; rw [if_pos hp, Int.toNat_natCast, q2]; rfl
    simp only [q1, pAt, Option.map_some] at HSP
    have HQ : Hid _ := q3
    have HCC : Hid _ := fun W u => hcc W u i hi
    clear hp q1 q2 q3 hcc HSC
    go_wp2_with fail
    refine Calls.mono (HIP.out _ HU) ?_
    rintro r W5 ⟨rfl, u9⟩
    have g0 := u9.heap g0
    have g1 := u9.heap g1
    have HU := HU.trans u9
    clear u9 HIP y0 y1 y2 y3 y4 y5 y6
    obtain ⟨y0, y1, y2, y3, y4, y5, y6⟩ := seven_cells g0
    go_wp2_with fail
    refine Calls.mono (HSP.out _ _ _) ?_
    rintro r W6 ⟨rfl, rfl⟩
    clear HSP
    have HX : Hid (∀ W, Up w W -> _) := fun W u => HQ.out W b (off + i * 3) ⟨(HCC.out W u).1, (HCC.out W u).2.1⟩
    have ge : W6.drew.heap[w.heap.size + 1]? = some (.cells zEv 30 (0, 0)) := g1
    have gl : w.heap.size <= w.heap.size + 1 := by omega
    go_wp2_with fail
    refine (fun key : ∀ (W : World), Up w W -> W.heap[w.heap.size + 1]? = some (.cells (evc ⟨3, f, 0, (i : Int), 0, 0, 0, 0, 0, 0, 0, []⟩ (.slice none 0 0)) 30 (0, 0)) -> (?Gp1 : World -> Prop) W => ?mainp1) ?kpp1
    case mainp1 =>
     refine wp_region_held_drew (S := fun W9 => Up w W9) (by kernel_rfl) (Up.drew HU) (fun hHeld => ?_)
     have Ur0 : Up w W6.drew := Up.drew HU
     refine wpAnyH_take (i := 0) (v := ?_) rfl (by kernel_rfl) (by kernel_rfl) (by kernel_rfl) (fun _ _ _ h => h) (Or.inl ⟨by rfl, ?_⟩) (by assumption) ?_
     rotate_left
     ·intro w9 hSw
      go_simp
      try with_reducible rfl
     simp only [Act.put, List.setIfInBounds_toArray, List.set_cons_zero, List.set_cons_succ, List.getElem_toArray, List.getElem_cons_zero]
     refine wpAnyH_take (i := 1) (v := ?_) rfl (by kernel_rfl) (by kernel_rfl) (by kernel_rfl) (fun _ _ _ h => h) (Or.inl ⟨by rfl, ?_⟩) (by assumption) ?_
     rotate_left
     ·intro w9 hSw
      go_simp
      try with_reducible rfl
     simp only [Act.put, List.setIfInBounds_toArray, List.set_cons_zero, List.set_cons_succ, List.getElem_toArray, List.getElem_cons_zero, List.getElem_cons_succ]
     refine wpAnyH_take (i := 2) (v := ?_) rfl (by kernel_rfl) (by kernel_rfl) (by kernel_rfl) (fun _ _ _ h => h) (Or.inl ⟨by rfl, ?_⟩) (by assumption) ?_
     rotate_left
     ·intro w9 hSw
      go_simp
      try with_reducible rfl
     simp only [Act.put, List.setIfInBounds_toArray, List.set_cons_zero, List.set_cons_succ, List.getElem_toArray, List.getElem_cons_zero, List.getElem_cons_succ]
     refine wpAnyH_take (i := 3) (v := ?_) rfl (by kernel_rfl) (by kernel_rfl) (by kernel_rfl) (fun _ _ _ h => h) (Or.inl ⟨by rfl, ?_⟩) (by assumption) ?_
     rotate_left
     ·intro w9 hSw
      go_simp
      try with_reducible rfl
     simp only [Act.put, List.setIfInBounds_toArray, List.set_cons_zero, List.set_cons_succ, List.getElem_toArray, List.getElem_cons_zero, List.getElem_cons_succ]
     refine wpAnyH_take (i := 4) (v := ?_) rfl (by kernel_rfl) (by kernel_rfl) (by kernel_rfl) (fun _ _ _ h => h) (Or.inl ⟨by rfl, ?_⟩) (by assumption) ?_
     rotate_left
     ·intro w9 hSw
      go_simp
      try with_reducible rfl
     simp only [Act.put, List.setIfInBounds_toArray, List.set_cons_zero, List.set_cons_succ, List.getElem_toArray, List.getElem_cons_zero, List.getElem_cons_succ]
     refine wpAnyH_take (i := 5) (v := ?_) rfl (by kernel_rfl) (by kernel_rfl) (by kernel_rfl) (fun _ _ _ h => h) (Or.inl ⟨by rfl, ?_⟩) (by assumption) ?_
     rotate_left
     ·intro w9 hSw
      have hx := HX.out w9 hSw
      go_simp
      try with_reducible rfl
     simp only [Act.put, List.setIfInBounds_toArray, List.set_cons_zero, List.set_cons_succ, List.getElem_toArray, List.getElem_cons_zero, List.getElem_cons_succ]
     refine wpAnyH_ready (rs := [6]) (by kernel_rfl) (by simp) ?_
     refine AllReadyH.cons rfl (fun K hK => ?_) AllReadyH.nil
     simp only [List.getElem_toArray, List.getElem_cons_zero, List.getElem_cons_succ]
     refine stepH_store (by rfl) 30 (.tmp 6) (.tmp 41) (by rfl) (w.heap.size + 1) (evc ⟨3, f, 0, (i : Int), 0, 0, 0, 0, 0, 0, 0, []⟩ (.slice none 0 0)) (by rfl) (by rfl) 30 zEv ge (infoEv) (rfl) (evc_one _ _ _ _) ?_
     refine hK.out _ _ ?_ (fun hHeld => ?_)
     ·exact up_setRow Ur0 gl _
     clear hK K
     simp only [Act.put]
     obtain ⟨Wr1, hW1⟩ : ∃ W1, (W6.drew).setRow (w.heap.size + 1) (evc ⟨3, f, 0, (i : Int), 0, 0, 0, 0, 0, 0, 0, []⟩ (.slice none 0 0)) = W1 := ⟨_, rfl⟩
     refine wpAnyH_world hW1 ?_
     have Ur1 : Up w Wr1 := by rw [<- hW1]; exact up_setRow Ur0 gl _
     have ge : Wr1.heap[(w.heap.size + 1)]? = some (.cells (evc ⟨3, f, 0, (i : Int), 0, 0, 0, 0, 0, 0, 0, []⟩ (.slice none 0 0)) 30 (0, 0)) := by rw [<- hW1]; exact setRow_heap _ _ _ _ _ _ ge
     clear hHeld hW1
     have hSS := Ur1
     refine wpAnyH_take (i := 7) (v := ?_) rfl (by kernel_rfl) (by kernel_rfl) (by kernel_rfl) (fun _ _ _ h => h) (Or.inl ⟨by rfl, ?_⟩) (by assumption) ?_
     rotate_left
     ·intro w9 hSw
      go_simp
      try with_reducible rfl
     simp only [Act.put, List.setIfInBounds_toArray, List.set_cons_zero, List.set_cons_succ, List.getElem_toArray, List.getElem_cons_zero, List.getElem_cons_succ]
     refine wpAnyH_take (i := 8) (v := ?_) rfl (by kernel_rfl) (by kernel_rfl) (by kernel_rfl) (fun _ _ _ h => h) (Or.inl ⟨by rfl, ?_⟩) (by assumption) ?_
     rotate_left
     ·intro w9 hSw
      go_simp
      try with_reducible rfl
     simp only [Act.put, List.setIfInBounds_toArray, List.set_cons_zero, List.set_cons_succ, List.getElem_toArray, List.getElem_cons_zero, List.getElem_cons_succ]
     refine wpAnyH_done (by kernel_rfl) ?_ _
     exact key Wr1 Ur1 ge
    case kpp1 =>
     intro W9 U9 g9
     go_wp2_with fail
     refine bodyPost_ret (v := .tuple #[.agg (evc ⟨3, f, 0, (i : Int), 0, 0, 0, 0, 0, 0, 0, []⟩ (.slice none 0 0)), .int .i32 x, .bool true]) (results_c2 (p := 6) (q := 7) (r := 8) (ty := 30) rfl _ _ (w.heap.size + 1) 30 (evc ⟨3, f, 0, (i : Int), 0, 0, 0, 0, 0, 0, 0, []⟩ (.slice none 0 0)) (0, 0) _ _ _ rfl rfl rfl g9 Tryz.underlying30 rfl infoEv) rfl ?_
     rw [HF.out]
     exact ⟨rfl, U9⟩
 ·rw [hc] at HIC
  obtain ⟨j, hj, hjm⟩ := num_nat hc
  obtain ⟨cb, coff, rfl, hcl2⟩ := hcl (by omega)
  have hj2 : (j : Int) < (s.cs.length : Int) := by omega
  rcases c_field f (s.cs.getD j dc) with ⟨q1, q2⟩ | ⟨k, x, q1, q2, q3⟩
  ·have HCN : Hid (cPart s f n = none) := by unfold Hid cPart; rw [if_pos hc, hj, Int.toNat_natCast, q2]; rfl
   simp only [q1, pAt, Option.map_none] at HSC
   subst hj
   clear hc q1 q2 hcl2 hcl
   obtain ⟨y0, y1, y2, y3, y4, y5, y6⟩ := seven_cells g0
   go_enter Tryz.func164, Tryz.ntmps164
   go_wp2_with fail
   refine Calls.mono (HIC.out _ HU0) ?_
   rintro r W1 ⟨rfl, u1⟩
   have g0 := u1.heap g0
   have g1 := u1.heap g1
   have HU := HU0.trans u1
   clear u1 HIC hW0 HU0 y0 y1 y2 y3 y4 y5 y6
   obtain ⟨y0, y1, y2, y3, y4, y5, y6⟩ := seven_cells g0
   go_wp2_with fail
   refine Calls.mono (HSC.out _ _ _) ?_
   rintro r W2 ⟨rfl, rfl⟩
   cases hp : numB (j : Int) s.ps.length
   ·have HF : Hid (chP s f (j : Int) = none) := by unfold Hid chP; rw [HCN.out]; unfold pPart; rw [hp]; rfl
    rw [hp] at HIP
    clear hp hpl HSC HSP
    go_wp2_with fail
    refine Calls.mono (HIP.out _ HU) ?_
    rintro r W5 ⟨rfl, u9⟩
    have g0 := u9.heap g0
    have g1 := u9.heap g1
    have HU := HU.trans u9
    clear u9 HIP y0 y1 y2 y3 y4 y5 y6
    obtain ⟨y0, y1, y2, y3, y4, y5, y6⟩ := seven_cells g0
    go_wp2_with (refine wpList_store_row rfl 30 (.tmp 6) (.tmp 45) rfl (w.heap.size + 1) (evc dE (.slice none 0 0)) rfl rfl 30 zEv g1 infoEv rfl (evc_one _ _ _ _) ?_)
    refine bodyPost_ret (v := .tuple #[.agg (evc dE (.slice none 0 0)), .int .i32 0, .bool false]) (results_c2 (p := 6) (q := 7) (r := 8) (ty := 30) rfl _ _ (w.heap.size + 1) 30 (evc dE (.slice none 0 0)) (0, 0) _ _ _ rfl rfl rfl (setRow_heap _ _ _ _ _ _ g1) Tryz.underlying30 rfl infoEv) rfl ?_
    rw [HF.out]
    exact ⟨rfl, up_setRow HU (by omega) _⟩
   ·rw [hp] at HIP
    obtain ⟨i, hij, hi⟩ := num_nat hp
    obtain rfl : i = j := by omega
    clear hij
    obtain ⟨b, off, rfl, hcc⟩ := hpl (by omega)
    have hi2 : (i : Int) < (s.ps.length : Int) := by omega
    rcases p_field f (s.ps.getD i dp) with ⟨q1, q2⟩ | ⟨k, x, q1, q2, q3⟩
    ·have HF : Hid (chP s f (i : Int) = none) := by unfold Hid chP; rw [HCN.out]; unfold pPart; rw [if_pos hp, Int.toNat_natCast, q2]; rfl
     simp only [q1, pAt, Option.map_none] at HSP
     clear hp q1 q2 hcc HSC
     go_wp2_with fail
     refine Calls.mono (HIP.out _ HU) ?_
     rintro r W5 ⟨rfl, u9⟩
     have g0 := u9.heap g0
     have g1 := u9.heap g1
     have HU := HU.trans u9
     clear u9 HIP y0 y1 y2 y3 y4 y5 y6
     obtain ⟨y0, y1, y2, y3, y4, y5, y6⟩ := seven_cells g0
     go_wp2_with fail
     refine Calls.mono (HSP.out _ _ _) ?_
     rintro r W6 ⟨rfl, rfl⟩
     clear HSP
     go_wp2_with (refine wpList_store_row rfl 30 (.tmp 6) (.tmp 45) rfl (w.heap.size + 1) (evc dE (.slice none 0 0)) rfl rfl 30 zEv g1 infoEv rfl (evc_one _ _ _ _) ?_)
     refine bodyPost_ret (v := .tuple #[.agg (evc dE (.slice none 0 0)), .int .i32 0, .bool false]) (results_c2 (p := 6) (q := 7) (r := 8) (ty := 30) rfl _ _ (w.heap.size + 1) 30 (evc dE (.slice none 0 0)) (0, 0) _ _ _ rfl rfl rfl (setRow_heap _ _ _ _ _ _ g1) Tryz.underlying30 rfl infoEv) rfl ?_
     rw [HF.out]
     exact ⟨rfl, up_setRow HU (by omega) _⟩
    ·have HF : Hid (chP s f (i : Int) = some (⟨3, f, 0, (i : Int), 0, 0, 0, 0, 0, 0, 0, []⟩, x)) := by unfold Hid chP; rw [HCN.out]; unfold pPart; rw [if_pos hp, Int.toNat_natCast, q2]; rfl
     simp only [q1, pAt, Option.map_some] at HSP
     have HQ : Hid _ := q3
     have HCC : Hid _ := fun W u => hcc W u i hi
     clear hp q1 q2 q3 hcc HSC
     go_wp2_with fail
     refine Calls.mono (HIP.out _ HU) ?_
     rintro r W5 ⟨rfl, u9⟩
     have g0 := u9.heap g0
     have g1 := u9.heap g1
     have HU := HU.trans u9
     clear u9 HIP y0 y1 y2 y3 y4 y5 y6
     obtain ⟨y0, y1, y2, y3, y4, y5, y6⟩ := seven_cells g0
     go_wp2_with fail
     refine Calls.mono (HSP.out _ _ _) ?_
     rintro r W6 ⟨rfl, rfl⟩
     clear HSP
     have HX : Hid (∀ W, Up w W -> _) := fun W u => HQ.out W b (off + i * 3) ⟨(HCC.out W u).1, (HCC.out W u).2.1⟩
     have ge : W6.drew.heap[w.heap.size + 1]? = some (.cells zEv 30 (0, 0)) := g1
     have gl : w.heap.size <= w.heap.size + 1 := by omega
     go_wp2_with fail
     refine (fun key : ∀ (W : World), Up w W -> W.heap[w.heap.size + 1]? = some (.cells (evc ⟨3, f, 0, (i : Int), 0, 0, 0, 0, 0, 0, 0, []⟩ (.slice none 0 0)) 30 (0, 0)) -> (?Gp2 : World -> Prop) W => ?mainp2) ?kpp2
     case mainp2 =>
      refine wp_region_held_drew (S := fun W9 => Up w W9) (by kernel_rfl) (Up.drew HU) (fun hHeld => ?_)
      have Ur0 : Up w W6.drew := Up.drew HU
      refine wpAnyH_take (i := 0) (v := ?_) rfl (by kernel_rfl) (by kernel_rfl) (by kernel_rfl) (fun _ _ _ h => h) (Or.inl ⟨by rfl, ?_⟩) (by assumption) ?_
      rotate_left
      ·intro w9 hSw
       go_simp
       try with_reducible rfl
      simp only [Act.put, List.setIfInBounds_toArray, List.set_cons_zero, List.set_cons_succ, List.getElem_toArray, List.getElem_cons_zero]
      refine wpAnyH_take (i := 1) (v := ?_) rfl (by kernel_rfl) (by kernel_rfl) (by kernel_rfl) (fun _ _ _ h => h) (Or.inl ⟨by rfl, ?_⟩) (by assumption) ?_
      rotate_left
      ·intro w9 hSw
       go_simp
       try with_reducible rfl
      simp only [Act.put, List.setIfInBounds_toArray, List.set_cons_zero, List.set_cons_succ, List.getElem_toArray, List.getElem_cons_zero, List.getElem_cons_succ]
      refine wpAnyH_take (i := 2) (v := ?_) rfl (by kernel_rfl) (by kernel_rfl) (by kernel_rfl) (fun _ _ _ h => h) (Or.inl ⟨by rfl, ?_⟩) (by assumption) ?_
      rotate_left
      ·intro w9 hSw
       go_simp
       try with_reducible rfl
      simp only [Act.put, List.setIfInBounds_toArray, List.set_cons_zero, List.set_cons_succ, List.getElem_toArray, List.getElem_cons_zero, List.getElem_cons_succ]
      refine wpAnyH_take (i := 3) (v := ?_) rfl (by kernel_rfl) (by kernel_rfl) (by kernel_rfl) (fun _ _ _ h => h) (Or.inl ⟨by rfl, ?_⟩) (by assumption) ?_
      rotate_left
      ·intro w9 hSw
       go_simp
       try with_reducible rfl
      simp only [Act.put, List.setIfInBounds_toArray, List.set_cons_zero, List.set_cons_succ, List.getElem_toArray, List.getElem_cons_zero, List.getElem_cons_succ]
      refine wpAnyH_take (i := 4) (v := ?_) rfl (by kernel_rfl) (by kernel_rfl) (by kernel_rfl) (fun _ _ _ h => h) (Or.inl ⟨by rfl, ?_⟩) (by assumption) ?_
      rotate_left
      ·intro w9 hSw
       go_simp
       try with_reducible rfl
      simp only [Act.put, List.setIfInBounds_toArray, List.set_cons_zero, List.set_cons_succ, List.getElem_toArray, List.getElem_cons_zero, List.getElem_cons_succ]
      refine wpAnyH_take (i := 5) (v := ?_) rfl (by kernel_rfl) (by kernel_rfl) (by kernel_rfl) (fun _ _ _ h => h) (Or.inl ⟨by rfl, ?_⟩) (by assumption) ?_
      rotate_left
      ·intro w9 hSw
       have hx := HX.out w9 hSw
       go_simp
       try with_reducible rfl
      simp only [Act.put, List.setIfInBounds_toArray, List.set_cons_zero, List.set_cons_succ, List.getElem_toArray, List.getElem_cons_zero, List.getElem_cons_succ]
      refine wpAnyH_ready (rs := [6]) (by kernel_rfl) (by simp) ?_
      refine AllReadyH.cons rfl (fun K hK => ?_) AllReadyH.nil
      simp only [List.getElem_toArray, List.getElem_cons_zero, List.getElem_cons_succ]
      refine stepH_store (by rfl) 30 (.tmp 6) (.tmp 41) (by rfl) (w.heap.size + 1) (evc ⟨3, f, 0, (i : Int), 0, 0, 0, 0, 0, 0, 0, []⟩ (.slice none 0 0)) (by rfl) (by rfl) 30 zEv ge (infoEv) (rfl) (evc_one _ _ _ _) ?_
      refine hK.out _ _ ?_ (fun hHeld => ?_)
      ·exact up_setRow Ur0 gl _
      clear hK K
      simp only [Act.put]
      obtain ⟨Wr1, hW1⟩ : ∃ W1, (W6.drew).setRow (w.heap.size + 1) (evc ⟨3, f, 0, (i : Int), 0, 0, 0, 0, 0, 0, 0, []⟩ (.slice none 0 0)) = W1 := ⟨_, rfl⟩
      refine wpAnyH_world hW1 ?_
      have Ur1 : Up w Wr1 := by rw [<- hW1]; exact up_setRow Ur0 gl _
      have ge : Wr1.heap[(w.heap.size + 1)]? = some (.cells (evc ⟨3, f, 0, (i : Int), 0, 0, 0, 0, 0, 0, 0, []⟩ (.slice none 0 0)) 30 (0, 0)) := by rw [<- hW1]; exact setRow_heap _ _ _ _ _ _ ge
      clear hHeld hW1
      have hSS := Ur1
      refine wpAnyH_take (i := 7) (v := ?_) rfl (by kernel_rfl) (by kernel_rfl) (by kernel_rfl) (fun _ _ _ h => h) (Or.inl ⟨by rfl, ?_⟩) (by assumption) ?_
      rotate_left
      ·intro w9 hSw
       go_simp
       try with_reducible rfl
      simp only [Act.put, List.setIfInBounds_toArray, List.set_cons_zero, List.set_cons_succ, List.getElem_toArray, List.getElem_cons_zero, List.getElem_cons_succ]
      refine wpAnyH_take (i := 8) (v := ?_) rfl (by kernel_rfl) (by kernel_rfl) (by kernel_rfl) (fun _ _ _ h => h) (Or.inl ⟨by rfl, ?_⟩) (by assumption) ?_
      rotate_left
      ·intro w9 hSw
       go_simp
       try with_reducible rfl
      simp only [Act.put, List.setIfInBounds_toArray, List.set_cons_zero, List.set_cons_succ, List.getElem_toArray, List.getElem_cons_zero, List.getElem_cons_succ]
      refine wpAnyH_done (by kernel_rfl) ?_ _
      exact key Wr1 Ur1 ge
     case kpp2 =>
      intro W9 U9 g9
      go_wp2_with fail
      refine bodyPost_ret (v := .tuple #[.agg (evc ⟨3, f, 0, (i : Int), 0, 0, 0, 0, 0, 0, 0, []⟩ (.slice none 0 0)), .int .i32 x, .bool true]) (results_c2 (p := 6) (q := 7) (r := 8) (ty := 30) rfl _ _ (w.heap.size + 1) 30 (evc ⟨3, f, 0, (i : Int), 0, 0, 0, 0, 0, 0, 0, []⟩ (.slice none 0 0)) (0, 0) _ _ _ rfl rfl rfl g9 Tryz.underlying30 rfl infoEv) rfl ?_
      rw [HF.out]
      exact ⟨rfl, U9⟩
  ·have HF : Hid (chP s f n = some (⟨2, f, n, 0, 0, 0, 0, 0, 0, 0, 0, []⟩, x)) := by unfold Hid chP cPart; rw [if_pos hc, hj, Int.toNat_natCast, q2]; rfl
   simp only [q1, pAt, Option.map_some] at HSC
   have HQ : Hid _ := q3
   have HCC : Hid _ := fun W u => hcl2 W u j hjm
   subst hj
   clear hc q1 q2 q3 hcl2 HSP HIP hcl
   obtain ⟨y0, y1, y2, y3, y4, y5, y6⟩ := seven_cells g0
   go_enter Tryz.func164, Tryz.ntmps164
   go_wp2_with fail
   refine Calls.mono (HIC.out _ HU0) ?_
   rintro r W1 ⟨rfl, u1⟩
   have g0 := u1.heap g0
   have g1 := u1.heap g1
   have HU := HU0.trans u1
   clear u1 HIC hW0 HU0 y0 y1 y2 y3 y4 y5 y6
   obtain ⟨y0, y1, y2, y3, y4, y5, y6⟩ := seven_cells g0
   go_wp2_with fail
   refine Calls.mono (HSC.out _ _ _) ?_
   rintro r W2 ⟨rfl, rfl⟩
   clear HSC
   have HX : Hid (∀ W, Up w W -> _) := fun W u => HQ.out W cb (coff + j * 6) ⟨(HCC.out W u).2.2.1, (HCC.out W u).2.2.2.1, (HCC.out W u).2.2.2.2.1, (HCC.out W u).2.2.2.2.2⟩
   have ge : W2.drew.heap[w.heap.size + 1]? = some (.cells zEv 30 (0, 0)) := g1
   have gl : w.heap.size <= w.heap.size + 1 := by omega
   go_wp2_with fail
   refine (fun key : ∀ (W : World), Up w W -> W.heap[w.heap.size + 1]? = some (.cells (evc ⟨2, f, (j : Int), 0, 0, 0, 0, 0, 0, 0, 0, []⟩ (.slice none 0 0)) 30 (0, 0)) -> (?Gc3 : World -> Prop) W => ?mainc3) ?kpc3
   case mainc3 =>
    refine wp_region_held_drew (S := fun W9 => Up w W9) (by kernel_rfl) (Up.drew HU) (fun hHeld => ?_)
    have Ur0 : Up w W2.drew := Up.drew HU
    refine wpAnyH_take (i := 0) (v := ?_) rfl (by kernel_rfl) (by kernel_rfl) (by kernel_rfl) (fun _ _ _ h => h) (Or.inl ⟨by rfl, ?_⟩) (by assumption) ?_
    rotate_left
    ·intro w9 hSw
     go_simp
     try with_reducible rfl
    simp only [Act.put, List.setIfInBounds_toArray, List.set_cons_zero, List.set_cons_succ, List.getElem_toArray, List.getElem_cons_zero]
    refine wpAnyH_take (i := 1) (v := ?_) rfl (by kernel_rfl) (by kernel_rfl) (by kernel_rfl) (fun _ _ _ h => h) (Or.inl ⟨by rfl, ?_⟩) (by assumption) ?_
    rotate_left
    ·intro w9 hSw
     go_simp
     try with_reducible rfl
    simp only [Act.put, List.setIfInBounds_toArray, List.set_cons_zero, List.set_cons_succ, List.getElem_toArray, List.getElem_cons_zero, List.getElem_cons_succ]
    refine wpAnyH_take (i := 2) (v := ?_) rfl (by kernel_rfl) (by kernel_rfl) (by kernel_rfl) (fun _ _ _ h => h) (Or.inl ⟨by rfl, ?_⟩) (by assumption) ?_
    rotate_left
    ·intro w9 hSw
     go_simp
     try with_reducible rfl
    simp only [Act.put, List.setIfInBounds_toArray, List.set_cons_zero, List.set_cons_succ, List.getElem_toArray, List.getElem_cons_zero, List.getElem_cons_succ]
    refine wpAnyH_take (i := 3) (v := ?_) rfl (by kernel_rfl) (by kernel_rfl) (by kernel_rfl) (fun _ _ _ h => h) (Or.inl ⟨by rfl, ?_⟩) (by assumption) ?_
    rotate_left
    ·intro w9 hSw
     go_simp
     try with_reducible rfl
    simp only [Act.put, List.setIfInBounds_toArray, List.set_cons_zero, List.set_cons_succ, List.getElem_toArray, List.getElem_cons_zero, List.getElem_cons_succ]
    refine wpAnyH_take (i := 4) (v := ?_) rfl (by kernel_rfl) (by kernel_rfl) (by kernel_rfl) (fun _ _ _ h => h) (Or.inl ⟨by rfl, ?_⟩) (by assumption) ?_
    rotate_left
    ·intro w9 hSw
     go_simp
     try with_reducible rfl
    simp only [Act.put, List.setIfInBounds_toArray, List.set_cons_zero, List.set_cons_succ, List.getElem_toArray, List.getElem_cons_zero, List.getElem_cons_succ]
    refine wpAnyH_take (i := 5) (v := ?_) rfl (by kernel_rfl) (by kernel_rfl) (by kernel_rfl) (fun _ _ _ h => h) (Or.inl ⟨by rfl, ?_⟩) (by assumption) ?_
    rotate_left
    ·intro w9 hSw
     have hx := HX.out w9 hSw
     go_simp
     try with_reducible rfl
    simp only [Act.put, List.setIfInBounds_toArray, List.set_cons_zero, List.set_cons_succ, List.getElem_toArray, List.getElem_cons_zero, List.getElem_cons_succ]
    refine wpAnyH_ready (rs := [6]) (by kernel_rfl) (by simp) ?_
    refine AllReadyH.cons rfl (fun K hK => ?_) AllReadyH.nil
    simp only [List.getElem_toArray, List.getElem_cons_zero, List.getElem_cons_succ]
    refine stepH_store (by rfl) 30 (.tmp 6) (.tmp 24) (by rfl) (w.heap.size + 1) (evc ⟨2, f, (j : Int), 0, 0, 0, 0, 0, 0, 0, 0, []⟩ (.slice none 0 0)) (by rfl) (by rfl) 30 zEv ge (infoEv) (rfl) (evc_one _ _ _ _) ?_
    refine hK.out _ _ ?_ (fun hHeld => ?_)
    ·exact up_setRow Ur0 gl _
    clear hK K
    simp only [Act.put]
    obtain ⟨Wr1, hW1⟩ : ∃ W1, (W2.drew).setRow (w.heap.size + 1) (evc ⟨2, f, (j : Int), 0, 0, 0, 0, 0, 0, 0, 0, []⟩ (.slice none 0 0)) = W1 := ⟨_, rfl⟩
    refine wpAnyH_world hW1 ?_
    have Ur1 : Up w Wr1 := by rw [<- hW1]; exact up_setRow Ur0 gl _
    have ge : Wr1.heap[(w.heap.size + 1)]? = some (.cells (evc ⟨2, f, (j : Int), 0, 0, 0, 0, 0, 0, 0, 0, []⟩ (.slice none 0 0)) 30 (0, 0)) := by rw [<- hW1]; exact setRow_heap _ _ _ _ _ _ ge
    clear hHeld hW1
    have hSS := Ur1
    refine wpAnyH_take (i := 7) (v := ?_) rfl (by kernel_rfl) (by kernel_rfl) (by kernel_rfl) (fun _ _ _ h => h) (Or.inl ⟨by rfl, ?_⟩) (by assumption) ?_
    rotate_left
    ·intro w9 hSw
     go_simp
     try with_reducible rfl
    simp only [Act.put, List.setIfInBounds_toArray, List.set_cons_zero, List.set_cons_succ, List.getElem_toArray, List.getElem_cons_zero, List.getElem_cons_succ]
    refine wpAnyH_take (i := 8) (v := ?_) rfl (by kernel_rfl) (by kernel_rfl) (by kernel_rfl) (fun _ _ _ h => h) (Or.inl ⟨by rfl, ?_⟩) (by assumption) ?_
    rotate_left
    ·intro w9 hSw
     go_simp
     try with_reducible rfl
    simp only [Act.put, List.setIfInBounds_toArray, List.set_cons_zero, List.set_cons_succ, List.getElem_toArray, List.getElem_cons_zero, List.getElem_cons_succ]
    refine wpAnyH_done (by kernel_rfl) ?_ _
    exact key Wr1 Ur1 ge
   case kpc3 =>
    intro W9 U9 g9
    go_wp2_with fail
    refine bodyPost_ret (v := .tuple #[.agg (evc ⟨2, f, (j : Int), 0, 0, 0, 0, 0, 0, 0, 0, []⟩ (.slice none 0 0)), .int .i32 x, .bool true]) (results_c2 (p := 6) (q := 7) (r := 8) (ty := 30) rfl _ _ (w.heap.size + 1) 30 (evc ⟨2, f, (j : Int), 0, 0, 0, 0, 0, 0, 0, 0, []⟩ (.slice none 0 0)) (0, 0) _ _ _ rfl rfl rfl g9 Tryz.underlying30 rfl infoEv) rfl ?_
    rw [HF.out]
    exact ⟨rfl, U9⟩
end DE
end Go.Proofs.YtodhjjeagmjhdaaGreatDoor
namespace Go.Proofs.YtodhjjeagmjhdaaGreatDoor
open Go.RowKit
attribute [local go_sem ↓] Go.wp_at_zero Go.wp_at_succ
namespace DE
open Go.Proofs.YtodhjjeagmjhdaaGreatDoor.ST
theorem evc_cells0 {W : World} {a : Nat} {e : Ev} {vo : Value} {t : TypeId} (h : W.heap[a]? = some (.cells (evc e vo) t (0, 0))) : ∀ j, W.cell? ⟨a, j, none⟩ = (evc e vo)[j]? := fun j => by simp [World.cell?, h]
theorem dl_less {b b' : Nat} {W : World} {v : Value} {o : Option Ev} (h : DL b W v o) (hb : b' <= b) : DL b' W v o := by
 cases o with
 | none => exact h
 | some e =>
  obtain ⟨g, vo, h1, h2, h3, h4⟩ := h
  exact ⟨g, vo, h1, by omega, h3, own_less h4 hb⟩
def one (e : Ev) : Option Ev := if noneB e = true then none else some e
set_option maxRecDepth 100000 in
set_option maxHeartbeats 2000000 in
theorem oneOrNone_ (e : Ev) (he : e.ord = []) (w : World) : Calls Tryz.prog 163 #[.agg (evc e (.slice none 0 0))] w fun x w' => ∃ v, x = .returned v /\ DL w.heap.size w' v (one e) /\ Up w w' := by
 have HN : Hid (∀ W, Calls Tryz.prog 184 #[.agg (evc e (.slice none 0 0))] W fun x w' => x = .returned (.bool (noneB e)) /\ Up W w') := fun W => changesNothing_ e (.slice none 0 0) W
 have HE : Hid (∀ W g, W.heap[g]? = some (.cells (evc e (.slice none 0 0)) 30 (0, 0)) -> w.heap.size <= g -> DL w.heap.size W (.slice (some ⟨g, 0, none⟩) 1 1) (some e)) := fun W g h hl => ⟨g, .slice none 0 0, rfl, hl, h, by rw [he]; exact World.ownsRow_nil _ _ _ _⟩
 clear he
 unfold one
 unfold evc at HN HE ⊢
 cases hb : noneB e with
 | true =>
  rw [hb] at HN
  rw [if_pos rfl]
  clear HE hb
  go_enter Tryz.func163, Tryz.ntmps163
  go_wp2_with fail
  refine Calls.mono (HN.out _) ?_
  rintro r W1 ⟨rfl, u1⟩
  have HU : Hid (Up w W1) := ((Up.refl _).alloc _).trans u1
  clear u1
  go_wp2
  go_ret
  exact ⟨_, rfl, rfl, HU.out⟩
 | false =>
  rw [hb] at HN
  rw [if_neg (by decide)]
  clear hb
  go_enter Tryz.func163, Tryz.ntmps163
  go_wp2_with fail
  refine Calls.mono (HN.out _) ?_
  rintro r W1 ⟨rfl, u1⟩
  have HU : Hid (Up w W1) := ((Up.refl _).alloc _).trans u1
  have g0 : W1.heap[w.heap.size]? = some (.cells #[.int .i8 e.kind, .int .i8 e.field, .int .i64 e.card, .int .i64 e.player, .int .i64 e.other, .int .i64 e.fr, .int .i64 e.frAt, .int .i64 e.to_, .int .i64 e.toAt, .int .i32 e.was, .int .i32 e.now, .slice none 0 0] 30 (0, 0)) := u1.heap (heap_alloc_new _ _)
  clear u1
  go_wp2_with (refine wpList_load_row rfl 30 (.tmp 1) rfl w.heap.size rfl 30 #[.int .i8 e.kind, .int .i8 e.field, .int .i64 e.card, .int .i64 e.player, .int .i64 e.other, .int .i64 e.fr, .int .i64 e.frAt, .int .i64 e.to_, .int .i64 e.toAt, .int .i32 e.was, .int .i32 e.now, .slice none 0 0] (0, 0) _ g0 Tryz.underlying30 rfl infoEv ?_)
  go_ret
  exact ⟨_, rfl, HE.out _ _ (heap_alloc_new _ _) HU.out.size, HU.out.alloc _⟩
def chNow (y by_ : Int) : Int := max (-1000000000) (min (cut64 (y + by_)) 1000000000)
def changeO (s : Stt) (f n by_ : Int) : Int × Option Ev := if ff s = none then (match chP s f n with | some r => (0, one { r.1 with was := r.2, now := chNow r.2 by_ }) | none => (1, none)) else (10, none)
theorem chP_at {s : Stt} {f n : Int} {r : Ev × Int} (h : chP s f n = some r) (hok : ff s = none) : r.1.ord = [] /\ statB r.2 = true := by
 have hc : ∀ r, cPart s f n = some r -> r.1.ord = [] /\ statB r.2 = true := fun r h => by
  unfold cPart at h
  split at h
  ·rename_i hn
   obtain ⟨i, rfl, hi⟩ := num_nat hn
   rw [Int.toNat_natCast] at h
   cases hy : cGet (s.cs.getD i dc) f with
   | none => rw [hy] at h; cases h
   | some y =>
    rw [hy] at h
    simp only [Option.map_some, Option.some.injEq] at h
    subst h
    exact ⟨rfl, crd_stat (crd_get hok i hi) hy⟩
  ·cases h
 have hp : ∀ r, pPart s f n = some r -> r.1.ord = [] /\ statB r.2 = true := fun r h => by
  unfold pPart at h
  split at h
  ·rename_i hn
   obtain ⟨i, rfl, hi⟩ := num_nat hn
   rw [Int.toNat_natCast] at h
   cases hy : pGet (s.ps.getD i dp) f with
   | none => rw [hy] at h; cases h
   | some y =>
    rw [hy] at h
    simp only [Option.map_some, Option.some.injEq] at h
    subst h
    exact ⟨rfl, ply_stat (ply_get hok i hi) hy⟩
  ·cases h
 unfold chP at h
 cases hq : cPart s f n with
 | none => rw [hq] at h; exact hp r h
 | some q => rw [hq] at h; cases h; exact hc _ hq
theorem evc_two {W : World} {g : Nat} {e : Ev} {vo : Value} {a b : Int} (h : W.heap[g]? = some (.cells (evc e vo) 30 (0, 0))) : ((W.setCell ⟨g, 9, none⟩ (.int .i32 a)).setCell ⟨g, 10, none⟩ (.int .i32 b)).heap[g]? = some (.cells (evc { e with was := a, now := b } vo) 30 (0, 0)) := by
 rw [set_cells (set_cells h)]
 rfl
set_option maxRecDepth 100000 in
set_option maxHeartbeats 2000000 in
theorem change_ (v : Value) (s : Stt) (f n by_ : Int) (w : World) (hs : StL w v s) (hsm : Small s) (hb1 : -9223372036854775808 <= by_) (hb2 : by_ <= 9223372036854775807) : Calls Tryz.prog 84 #[v, .int .i8 f, .int .i64 n, .int .i64 by_] w (DeV w (changeO s f n by_)) := by
 obtain ⟨Post, hPost⟩ : ∃ P : Ending -> World -> Prop, P = DeV w (changeO s f n by_) := ⟨_, rfl⟩
 rw [<- hPost]
 have HP : Hid (Post = DeV w (changeO s f n by_)) := hPost
 have HM : Hid (∀ W, Up w W -> Calls Tryz.prog 79 #[v] W fun r w' => r = .returned (.bool (decide (ff s = none))) /\ Up W w') := fun W u => mayBe_ v s W (hs.up u) hsm
 have HC : Hid (∀ W, Up w W -> Calls Tryz.prog 164 #[v, .int .i8 f, .int .i64 n] W fun r w' => r = .returned (chV (chP s f n)) /\ Up W w') := fun W u => changeOf_ v s f n W (hs.up u)
 obtain ⟨vp, vc, vz, hv, h1, h2, h3⟩ := hs
 obtain ⟨a1, k1, rfl, -, -⟩ := lc_at h1
 obtain ⟨a2, k2, rfl, -, -⟩ := lc_at h2
 obtain ⟨a3, k3, rfl, -, -⟩ := zl_at h3
 unfold sv at hv
 clear h1 h2 h3 hPost
 subst hv
 by_cases hf : ff s = none
 ·have hat : ∀ r, chP s f n = some r -> r.1.ord = [] /\ statB r.2 = true := fun r h => chP_at h hf
  simp only [hf, decide_true] at HM
  cases hq : chP s f n with
  | none =>
   have HF : Hid (changeO s f n by_ = (1, none)) := by unfold Hid changeO; rw [if_pos hf, hq]
   rw [hq] at HC
   unfold chV at HC
   clear hf hat hq
   go_enter Tryz.func84, Tryz.ntmps84
   go_wp2_with fail
   refine Calls.mono (HM.out _ ((Up.refl _).alloc _)) ?_
   rintro r W1 ⟨rfl, u1⟩
   have HU : Hid (Up w W1) := ((Up.refl _).alloc _).trans u1
   have g0 : W1.heap[w.heap.size]? = some (.cells _ 27 (0, 0)) := u1.heap (heap_alloc_new _ _)
   obtain ⟨q0, q1, q2, q3, q4, q5, q6⟩ := seven_cells g0
   clear u1 g0 HM
   go_wp2_with fail
   refine Calls.mono (HC.out _ HU.out) ?_
   rintro r W2 ⟨rfl, u2⟩
   have HU2 : Hid (Up w W2) := HU.out.trans u2
   clear u2 q0 q1 q2 q3 q4 q5 q6 HC
   go_wp2_with (refine wpList_store_row rfl 30 (.tmp 10) (.tmp 22) rfl W2.heap.size (evc dE (.slice none 0 0)) rfl rfl 30 zEv (heap_alloc_new W2 _) infoEv rfl (evc_one _ _ _ _) ?_)
   rw [HP.out, HF.out]
   exact ⟨_, rfl, rfl, up_setRow (HU2.out.alloc _) HU2.out.size _⟩
  | some r =>
   obtain ⟨ev, y⟩ := r
   obtain ⟨ho, hst⟩ := hat _ hq
   dsimp only at ho hst
   unfold statB at hst
   simp only [Bool.and_eq_true, decide_eq_true_eq] at hst
   obtain ⟨hy1, hy2⟩ := hst
   have HF : Hid (changeO s f n by_ = (0, one { ev with was := y, now := chNow y by_ })) := by unfold Hid changeO; rw [if_pos hf, hq]
   rw [hq] at HC
   unfold chV at HC
   dsimp only at HC
   have HA : Hid (∀ W, Calls Tryz.prog 166 #[.int .i64 y, .int .i64 by_] W fun e w' => e = .returned (.int .i64 (cut64 (y + by_))) /\ w' = W) := fun W => addI64 y by_ W (by omega) (by omega) hb1 hb2
   have HK : Hid (∀ W, Calls Tryz.prog 165 #[.int .i64 (cut64 (y + by_)), .int .i64 (-1000000000), .int .i64 1000000000] W fun e w' => e = .returned (.int .i64 (chNow y by_)) /\ w' = W) := fun W => by unfold chNow; exact clampI64 (cut64 (y + by_)) (-1000000000) 1000000000 W
   have HO : Hid (∀ W, Calls Tryz.prog 163 #[.agg (evc { ev with was := y, now := chNow y by_ } (.slice none 0 0))] W fun x w' => ∃ v, x = .returned v /\ DL W.heap.size w' v (one { ev with was := y, now := chNow y by_ }) /\ Up W w') := fun W => oneOrNone_ { ev with was := y, now := chNow y by_ } ho W
   have hn1 : -1000000000 <= chNow y by_ := by unfold chNow; omega
   have hn2 : chNow y by_ <= 1000000000 := by unfold chNow; omega
   generalize cut64 (y + by_) = cy at *
   generalize chNow y by_ = nw at *
   clear hf hat hq ho
   go_enter Tryz.func84, Tryz.ntmps84
   go_wp2_with fail
   refine Calls.mono (HM.out _ ((Up.refl _).alloc _)) ?_
   rintro r W1 ⟨rfl, u1⟩
   have HU : Hid (Up w W1) := ((Up.refl _).alloc _).trans u1
   have g0 : W1.heap[w.heap.size]? = some (.cells _ 27 (0, 0)) := u1.heap (heap_alloc_new _ _)
   obtain ⟨q0, q1, q2, q3, q4, q5, q6⟩ := seven_cells g0
   clear u1 g0 HM
   go_wp2_with fail
   refine Calls.mono (HC.out _ HU.out) ?_
   rintro r W2 ⟨rfl, u2⟩
   have HU2 : Hid (Up w W2) := HU.out.trans u2
   clear u2 q0 q1 q2 q3 q4 q5 q6 HC
   obtain ⟨W3, hW3⟩ : ∃ W3, (W2.alloc (.cells zEv 30)).setRow W2.heap.size (evc ev (.slice none 0 0)) = W3 := ⟨_, rfl⟩
   obtain ⟨f1, f2, -⟩ := filled W2 zEv (evc ev (.slice none 0 0)) 30
   rw [hW3] at f1 f2
   have c9 : W3.cell? ⟨W2.heap.size, 9, none⟩ = some (.int .i32 ev.was) := evc_cells0 f1 9
   have c10 : W3.cell? ⟨W2.heap.size, 10, none⟩ = some (.int .i32 ev.now) := evc_cells0 f1 10
   have cf := seven_f f1
   have g5 := evc_two (a := y) (b := nw) f1
   have HU5 : Hid (Up w ((W3.setCell ⟨W2.heap.size, 9, none⟩ (.int .i32 y)).setCell ⟨W2.heap.size, 10, none⟩ (.int .i32 nw))) := Up.set (Up.set (HU2.out.trans f2) _ _ HU2.out.size) _ _ HU2.out.size
   clear f2
   go_wp2_with (refine wpList_store_row rfl 30 (.tmp 10) (.tmp 22) rfl W2.heap.size (evc ev (.slice none 0 0)) rfl rfl 30 zEv (heap_alloc_new W2 _) infoEv rfl (evc_one _ _ _ _) ?_; refine wpList_world hW3 ?_)
   refine Calls.mono (HA.out _) ?_
   rintro r W9 ⟨rfl, rfl⟩
   go_wp2_with fail
   refine Calls.mono (HK.out _) ?_
   rintro r W9 ⟨rfl, rfl⟩
   have hwr : wrap32 nw = nw := by unfold wrap32; omega
   go_wp2_with (refine wpList_load_row rfl 30 (.tmp 10) rfl W2.heap.size rfl 30 (evc { ev with was := y, now := nw } (.slice none 0 0)) (0, 0) _ g5 Tryz.underlying30 rfl infoEv ?_)
   refine Calls.mono (HO.out _) ?_
   rintro r W6 ⟨v6, rfl, dl, u6⟩
   have HU6 : Hid (Up w W6) := HU5.out.trans u6
   have HDL : Hid (DL w.heap.size W6 v6 (one { ev with was := y, now := nw })) := dl_less dl (by have := HU5.out.size; exact this)
   clear u6 dl
   go_wp2
   rw [HP.out, HF.out]
   exact ⟨_, rfl, HDL.out, HU6.out⟩
 ·have HF : Hid (changeO s f n by_ = (10, none)) := by unfold Hid changeO; rw [if_neg hf]
  simp only [hf, decide_false] at HM
  clear HC hf
  go_enter Tryz.func84, Tryz.ntmps84
  go_wp2_with fail
  refine Calls.mono (HM.out _ ((Up.refl _).alloc _)) ?_
  rintro r W1 ⟨rfl, u1⟩
  have HU : Hid (Up w W1) := ((Up.refl _).alloc _).trans u1
  clear u1
  go_wp2
  rw [HP.out, HF.out]
  exact ⟨_, rfl, rfl, HU.out⟩
end DE
end Go.Proofs.YtodhjjeagmjhdaaGreatDoor
namespace Go.Proofs.YtodhjjeagmjhdaaGreatDoor
open Go.RowKit
attribute [local go_sem ↓] Go.wp_at_zero Go.wp_at_succ
namespace DE
open Go.Proofs.YtodhjjeagmjhdaaGreatDoor.ST
def outE (p : Int) : Ev := ⟨5, 0, 0, p, 0, 0, 0, 0, 0, 0, 0, []⟩
def outO (s : Stt) (p : Int) : Int × Option Ev := if ff s = none then (if numB p s.ps.length = true then (if (s.ps.getD p.toNat dp).out = true then (0, none) else (0, some (outE p))) else (1, none)) else (10, none)
set_option maxRecDepth 100000 in
set_option maxHeartbeats 4000000 in
theorem out_ (v : Value) (s : Stt) (p : Int) (w : World) (hs : StL w v s) (hsm : Small s) : Calls Tryz.prog 86 #[v, .int .i64 p] w (DeV w (outO s p)) := by
 obtain ⟨Post, hPost⟩ : ∃ P : Ending -> World -> Prop, P = DeV w (outO s p) := ⟨_, rfl⟩
 rw [<- hPost]
 have HP : Hid (Post = DeV w (outO s p)) := hPost
 have HM : Hid (∀ W, Up w W -> Calls Tryz.prog 79 #[v] W fun r w' => r = .returned (.bool (decide (ff s = none))) /\ Up W w') := fun W u => mayBe_ v s W (hs.up u) hsm
 have HI : Hid (∀ W, Up w W -> Calls Tryz.prog 109 #[v, .int .i64 p] W fun r w' => r = .returned (.bool (numB p s.ps.length)) /\ Up W w') := fun W u => isPlayer_ v s p W (hs.up u)
 obtain ⟨vp, vc, vz, hv, h1, h2, h3⟩ := hs
 obtain ⟨a1, k1, rfl, -, hpl⟩ := pl_at h1
 obtain ⟨a2, k2, rfl, -, -⟩ := lc_at h2
 obtain ⟨a3, k3, rfl, -, -⟩ := zl_at h3
 unfold sv at hv
 clear h1 h2 h3 hPost
 subst hv
 by_cases hf : ff s = none
 ·simp only [hf, decide_true] at HM
  cases hp : numB p s.ps.length with
  | true =>
   obtain ⟨q, rfl, hq⟩ := num_nat hp
   obtain ⟨cb, co, rfl, hcc⟩ := hpl (by omega)
   have HC : Hid (∀ W, Up w W -> W.cell? ⟨cb, co + q * 3 + 2, none⟩ = some (.bool (s.ps.getD q dp).out)) := fun W u => (hcc W u q hq).2.2
   have hq2 : (q : Int) < (s.ps.length : Int) := by omega
   have HF : Hid (outO s (q : Int) = if (s.ps.getD q dp).out = true then (0, none) else (0, some (outE (q : Int)))) := by unfold Hid outO; rw [if_pos hf, if_pos hp, Int.toNat_natCast]
   rw [hp] at HI
   clear hf hp hcc hpl
   go_enter Tryz.func86, Tryz.ntmps86
   go_wp2_with fail
   refine Calls.mono (HM.out _ ((Up.refl _).alloc _)) ?_
   rintro r W1 ⟨rfl, u1⟩
   have HU : Hid (Up w W1) := ((Up.refl _).alloc _).trans u1
   have g0 : W1.heap[w.heap.size]? = some (.cells _ 27 (0, 0)) := u1.heap (heap_alloc_new _ _)
   obtain ⟨q0, q1, q2, q3, q4, q5, q6⟩ := seven_cells g0
   have HG0 : Hid _ := g0
   clear u1 g0 HM
   go_wp2_with fail
   clear q0 q1 q2 q3 q4 q5 q6
   refine Calls.mono (HI.out _ HU.out) ?_
   rintro r W2 ⟨rfl, u2⟩
   have HU2 : Hid (Up w W2) := HU.out.trans u2
   have g0 := u2.heap HG0.out
   obtain ⟨q0, q1, q2, q3, q4, q5, q6⟩ := seven_cells g0
   have c1 := HC.out W2 HU2.out
   clear u2 g0 HI HG0 HU q1 q2 q3 q4 q5 q6 HC
   cases ho : (s.ps.getD q dp).out with
   | true =>
    rw [ho] at c1
    rw [ho, if_pos rfl] at HF
    clear ho
    go_wp2
    rw [HP.out, HF.out]
    exact ⟨_, rfl, rfl, HU2.out⟩
   | false =>
    rw [ho] at c1
    rw [ho, if_neg (by decide)] at HF
    clear ho
    go_wp2
    rw [HP.out, HF.out]
    exact ⟨_, rfl, ⟨W2.heap.size, .slice none 0 0, rfl, HU2.out.size, heap_alloc_new W2 _, World.ownsRow_nil _ _ _ _⟩, HU2.out.alloc _⟩
  | false =>
   have HF : Hid (outO s p = (1, none)) := by unfold Hid outO; rw [if_pos hf, if_neg (by rw [hp]; decide)]
   rw [hp] at HI
   clear hf hp hpl
   go_enter Tryz.func86, Tryz.ntmps86
   go_wp2_with fail
   refine Calls.mono (HM.out _ ((Up.refl _).alloc _)) ?_
   rintro r W1 ⟨rfl, u1⟩
   have HU : Hid (Up w W1) := ((Up.refl _).alloc _).trans u1
   have g0 : W1.heap[w.heap.size]? = some (.cells _ 27 (0, 0)) := u1.heap (heap_alloc_new _ _)
   obtain ⟨q0, q1, q2, q3, q4, q5, q6⟩ := seven_cells g0
   clear u1 g0
   go_wp2_with fail
   clear q0 q1 q2 q3 q4 q5 q6
   refine Calls.mono (HI.out _ HU.out) ?_
   rintro r W2 ⟨rfl, u2⟩
   have HU2 : Hid (Up w W2) := HU.out.trans u2
   clear u2
   go_wp2
   rw [HP.out, HF.out]
   exact ⟨_, rfl, rfl, HU2.out⟩
 ·have HF : Hid (outO s p = (10, none)) := by unfold Hid outO; rw [if_neg hf]
  simp only [hf, decide_false] at HM
  clear HI hf hpl
  go_enter Tryz.func86, Tryz.ntmps86
  go_wp2_with fail
  refine Calls.mono (HM.out _ ((Up.refl _).alloc _)) ?_
  rintro r W1 ⟨rfl, u1⟩
  have HU : Hid (Up w W1) := ((Up.refl _).alloc _).trans u1
  clear u1
  go_wp2
  rw [HP.out, HF.out]
  exact ⟨_, rfl, rfl, HU.out⟩
def mvE (s : Stt) (c z : Int) (fz fa : Nat) (first : Bool) : Ev := ⟨1, 0, c, 0, 0, fz, fa, z, if first = true then 0 else others s z fz, 0, 0, []⟩
def moveO (s : Stt) (c z : Int) (first : Bool) : Int × Option Ev := if ff s = none then (if (numB c s.cs.length && numB z s.zs.length) = true then (match wh c s.zs 0 with | some p => (0, one (mvE s c z p.1 p.2 first)) | none => (0, none)) else (1, none)) else (10, none)
theorem wh_all {s : Stt} {c : Int} (hok : ff s = none) (hc : numB c s.cs.length = true) : ∃ z i, wh c s.zs 0 = some (z, i) := by
 obtain ⟨-, h2, h3⟩ := (ff_none s).1 hok
 exact wh_mem c s.zs (ent_all h2 h3 c hc)
theorem evc_eight {W : World} {g : Nat} {e : Ev} {vo : Value} {a : Int} (h : W.heap[g]? = some (.cells (evc e vo) 30 (0, 0))) : (W.setCell ⟨g, 8, none⟩ (.int .i64 a)).heap[g]? = some (.cells (evc { e with toAt := a } vo) 30 (0, 0)) := by
 rw [set_cells h]
 rfl
set_option maxRecDepth 100000 in
set_option maxHeartbeats 4000000 in
theorem move_ (v : Value) (s : Stt) (c z : Int) (first : Bool) (w : World) (hs : StL w v s) (hsm : Small s) : Calls Tryz.prog 83 #[v, .int .i64 c, .int .i64 z, .bool first] w (DeV w (moveO s c z first)) := by
 obtain ⟨Post, hPost⟩ : ∃ P : Ending -> World -> Prop, P = DeV w (moveO s c z first) := ⟨_, rfl⟩
 rw [<- hPost]
 have HP : Hid (Post = DeV w (moveO s c z first)) := hPost
 have HM : Hid (∀ W, Up w W -> Calls Tryz.prog 79 #[v] W fun r w' => r = .returned (.bool (decide (ff s = none))) /\ Up W w') := fun W u => mayBe_ v s W (hs.up u) hsm
 have HIC : Hid (∀ W, Up w W -> Calls Tryz.prog 159 #[v, .int .i64 c] W fun r w' => r = .returned (.bool (numB c s.cs.length)) /\ Up W w') := fun W u => isCard_ v s c W (hs.up u)
 have HIZ : Hid (∀ W, Up w W -> Calls Tryz.prog 160 #[v, .int .i64 z] W fun r w' => r = .returned (.bool (numB z s.zs.length)) /\ Up W w') := fun W u => isZone_ v s z W (hs.up u)
 have HWH : Hid (∀ W, Up w W -> Calls Tryz.prog 161 #[v, .int .i64 c] W (WPost W (whereOf s c))) := fun W u => where_ v s c W (hs.up u) hsm
 have HOT : Hid (∀ W (f : Int), Up w W -> numB z s.zs.length = true -> (∀ r ∈ s.zs, r.length <= 140737488355328) -> Calls Tryz.prog 162 #[v, .int .i64 z, .int .i64 f] W fun r w' => r = .returned (.int .i64 (others s z f)) /\ Up W w') := fun W f u h1 h2 => othersIn_ v s z f W (hs.up u) h1 h2
 obtain ⟨vp, vc, vz, hv, h1, h2, h3⟩ := hs
 obtain ⟨a1, k1, rfl, -, -⟩ := lc_at h1
 obtain ⟨a2, k2, rfl, -, -⟩ := lc_at h2
 obtain ⟨a3, k3, rfl, -, -⟩ := zl_at h3
 unfold sv at hv
 clear h1 h2 h3 hPost
 obtain ⟨A, hA0⟩ : ∃ A : Array Value, A = #[.slice a1 s.ps.length k1, .slice a2 s.cs.length k2, .slice a3 s.zs.length k3, .int .i32 s.turn, .int .i64 s.whose, .int .i8 s.fin, .int .i64 s.winner] := ⟨_, rfl⟩
 have hA1 : A.size = 7 := by rw [hA0]; rfl
 rw [<- hA0] at hv
 subst hv
 clear hA0
 have hA : (w.alloc (.cells A 27)).heap[w.heap.size]? = some (.cells A 27 (0, 0)) := heap_alloc_new _ _
 have HU : Up w (w.alloc (.cells A 27)) := (Up.refl _).alloc _
 by_cases hf : ff s = none
 ·simp only [hf, decide_true] at HM
  cases hc : numB c s.cs.length with
  | false =>
   have HF : Hid (moveO s c z first = (1, none)) := by unfold Hid moveO; rw [if_pos hf, hc]; rfl
   rw [hc] at HIC
   clear hf hc HIZ HWH HOT
   go_enter Tryz.func83, Tryz.ntmps83
   go_wp2_with (refine wpList_load_row (by rfl) 27 (.tmp 4) (by rfl) w.heap.size (by rfl) 27 A (0, 0) _ hA Tryz.underlying27 (by rfl) (by rw [hA1]; exact infoSt) ?_)
   refine Calls.mono (HM.out _ HU) ?_
   rintro r W1 ⟨rfl, u1⟩
   have hA := u1.heap hA
   have HU := HU.trans u1
   clear u1 HM
   go_wp2_with (refine wpList_load_row (by rfl) 27 (.tmp 4) (by rfl) w.heap.size (by rfl) 27 A (0, 0) _ hA Tryz.underlying27 (by rfl) (by rw [hA1]; exact infoSt) ?_)
   refine Calls.mono (HIC.out _ HU) ?_
   rintro r W2 ⟨rfl, u2⟩
   have HZ : Hid (Up w W2) := HU.trans u2
   clear u2 HU hA
   go_wp2
   rw [HP.out, HF.out]
   exact ⟨_, rfl, rfl, HZ.out⟩
  | true =>
   cases hz : numB z s.zs.length with
   | false =>
    have HF : Hid (moveO s c z first = (1, none)) := by unfold Hid moveO; rw [if_pos hf, hc, hz]; rfl
    rw [hc] at HIC
    rw [hz] at HIZ
    clear hf hc hz HWH HOT
    go_enter Tryz.func83, Tryz.ntmps83
    go_wp2_with (refine wpList_load_row (by rfl) 27 (.tmp 4) (by rfl) w.heap.size (by rfl) 27 A (0, 0) _ hA Tryz.underlying27 (by rfl) (by rw [hA1]; exact infoSt) ?_)
    refine Calls.mono (HM.out _ HU) ?_
    rintro r W1 ⟨rfl, u1⟩
    have hA := u1.heap hA
    have HU := HU.trans u1
    clear u1 HM
    go_wp2_with (refine wpList_load_row (by rfl) 27 (.tmp 4) (by rfl) w.heap.size (by rfl) 27 A (0, 0) _ hA Tryz.underlying27 (by rfl) (by rw [hA1]; exact infoSt) ?_)
    refine Calls.mono (HIC.out _ HU) ?_
    rintro r W2 ⟨rfl, u2⟩
    have hA := u2.heap hA
    have HU := HU.trans u2
    clear u2 HIC
    go_wp2_with (refine wpList_load_rowG (by rfl) 27 (.tmp 4) (by rfl) w.heap.size (by rfl) 27 A (0, 0) _ hA Tryz.underlying27 (by rfl) (by rw [hA1]; exact infoSt) ?_)
    refine Calls.mono (HIZ.out _ HU) ?_
    rintro r W3 ⟨rfl, u3⟩
    have HZ : Hid (Up w W3) := HU.trans u3
    clear u3 HU hA
    go_wp2
    rw [HP.out, HF.out]
    exact ⟨_, rfl, rfl, HZ.out⟩
   | true =>
    obtain ⟨fz, fa, hw⟩ := wh_all hf hc
    have HF : Hid (moveO s c z first = (0, one (mvE s c z fz fa first))) := by unfold Hid moveO; rw [if_pos hf, hc, hz, if_pos (show (true && true) = true from rfl), hw]
    have HWW : Hid (∀ W, Up w W -> Calls Tryz.prog 161 #[.agg A, .int .i64 c] W fun e w' => e = .returned (.tuple #[.int .i64 (fz : Nat), .int .i64 (fa : Nat), .bool true]) /\ Up W w') := fun W u => by
     have h9 := HWH.out W u
     have hwo : whereOf s c = some (fz, fa) := by unfold whereOf; rw [if_pos hf, hw]
     rw [hwo] at h9
     exact h9
    have HO2 : Hid (∀ W, Up w W -> Calls Tryz.prog 162 #[.agg A, .int .i64 z, .int .i64 (fz : Nat)] W fun r w' => r = .returned (.int .i64 (others s z (fz : Nat))) /\ Up W w') := fun W u => HOT.out W _ u hz (fun r hr => Nat.le_trans (zone_le hf r hr) (by omega))
    have HON : Hid (∀ W, Calls Tryz.prog 163 #[.agg (evc (mvE s c z fz fa first) (.slice none 0 0))] W fun x w' => ∃ v, x = .returned v /\ DL W.heap.size w' v (one (mvE s c z fz fa first)) /\ Up W w') := fun W => oneOrNone_ (mvE s c z fz fa first) rfl W
    rw [hc] at HIC
    rw [hz] at HIZ
    clear hf hc hz HWH HOT hw
    unfold mvE at HON HF
    cases first with
    | true =>
     rw [if_pos rfl] at HON HF
     go_enter Tryz.func83, Tryz.ntmps83
     go_wp2_with (refine wpList_load_row (by rfl) 27 (.tmp 4) (by rfl) w.heap.size (by rfl) 27 A (0, 0) _ hA Tryz.underlying27 (by rfl) (by rw [hA1]; exact infoSt) ?_)
     refine Calls.mono (HM.out _ HU) ?_
     rintro r W1 ⟨rfl, u1⟩
     have hA := u1.heap hA
     have HU := HU.trans u1
     clear u1 HM
     go_wp2_with (refine wpList_load_row (by rfl) 27 (.tmp 4) (by rfl) w.heap.size (by rfl) 27 A (0, 0) _ hA Tryz.underlying27 (by rfl) (by rw [hA1]; exact infoSt) ?_)
     refine Calls.mono (HIC.out _ HU) ?_
     rintro r W2 ⟨rfl, u2⟩
     have hA := u2.heap hA
     have HU := HU.trans u2
     clear u2 HIC
     go_wp2_with (refine wpList_load_rowG (by rfl) 27 (.tmp 4) (by rfl) w.heap.size (by rfl) 27 A (0, 0) _ hA Tryz.underlying27 (by rfl) (by rw [hA1]; exact infoSt) ?_)
     refine Calls.mono (HIZ.out _ HU) ?_
     rintro r W3 ⟨rfl, u3⟩
     have hA := u3.heap hA
     have HU := HU.trans u3
     clear u3 HIZ
     go_wp2_with (refine wpList_load_row (by rfl) 27 (.tmp 4) (by rfl) w.heap.size (by rfl) 27 A (0, 0) _ hA Tryz.underlying27 (by rfl) (by rw [hA1]; exact infoSt) ?_)
     refine Calls.mono (HWW.out _ HU) ?_
     rintro r W4 ⟨rfl, u4⟩
     have hA := u4.heap hA
     have HU := HU.trans u4
     clear u4 HWW
     obtain ⟨W5, hW5⟩ : ∃ W5, (W4.alloc (.cells zEv 30)).setRow W4.heap.size (evc ⟨1, 0, c, 0, 0, fz, fa, z, 0, 0, 0, []⟩ (.slice none 0 0)) = W5 := ⟨_, rfl⟩
     obtain ⟨f1, f2, -⟩ := filled W4 zEv (evc ⟨1, 0, c, 0, 0, fz, fa, z, 0, 0, 0, []⟩ (.slice none 0 0)) 30
     rw [hW5] at f1 f2
     have hA := f2.heap hA
     have lz := HU.size
     have HU := HU.trans f2
     clear f2
     go_wp2_with (first | (refine wpList_store_row rfl 30 (.tmp 13) (.tmp 38) rfl W4.heap.size (evc ⟨1, 0, c, 0, 0, fz, fa, z, 0, 0, 0, []⟩ (.slice none 0 0)) rfl rfl 30 zEv (heap_alloc_new W4 _) infoEv rfl (evc_one _ _ _ _) ?_; refine wpList_world hW5 ?_) | (refine wpList_load_row (by rfl) 30 (.tmp 13) (by rfl) W4.heap.size (by rfl) 30 (evc ⟨1, 0, c, 0, 0, fz, fa, z, 0, 0, 0, []⟩ (.slice none 0 0)) (0, 0) _ f1 Tryz.underlying30 (by rfl) infoEv ?_))
     refine Calls.mono (HON.out _) ?_
     rintro r W7 ⟨v7, rfl, dl, u7⟩
     have HZ : Hid (Up w W7) := HU.trans u7
     have HDL : Hid _ := dl_less dl HU.size
     clear u7 dl HU
     go_wp2
     rw [HP.out, HF.out]
     exact ⟨_, rfl, HDL.out, HZ.out⟩
    | false =>
     rw [if_neg (by decide)] at HON HF
     go_enter Tryz.func83, Tryz.ntmps83
     go_wp2_with (refine wpList_load_row (by rfl) 27 (.tmp 4) (by rfl) w.heap.size (by rfl) 27 A (0, 0) _ hA Tryz.underlying27 (by rfl) (by rw [hA1]; exact infoSt) ?_)
     refine Calls.mono (HM.out _ HU) ?_
     rintro r W1 ⟨rfl, u1⟩
     have hA := u1.heap hA
     have HU := HU.trans u1
     clear u1 HM
     go_wp2_with (refine wpList_load_row (by rfl) 27 (.tmp 4) (by rfl) w.heap.size (by rfl) 27 A (0, 0) _ hA Tryz.underlying27 (by rfl) (by rw [hA1]; exact infoSt) ?_)
     refine Calls.mono (HIC.out _ HU) ?_
     rintro r W2 ⟨rfl, u2⟩
     have hA := u2.heap hA
     have HU := HU.trans u2
     clear u2 HIC
     go_wp2_with (refine wpList_load_rowG (by rfl) 27 (.tmp 4) (by rfl) w.heap.size (by rfl) 27 A (0, 0) _ hA Tryz.underlying27 (by rfl) (by rw [hA1]; exact infoSt) ?_)
     refine Calls.mono (HIZ.out _ HU) ?_
     rintro r W3 ⟨rfl, u3⟩
     have hA := u3.heap hA
     have HU := HU.trans u3
     clear u3 HIZ
     go_wp2_with (refine wpList_load_row (by rfl) 27 (.tmp 4) (by rfl) w.heap.size (by rfl) 27 A (0, 0) _ hA Tryz.underlying27 (by rfl) (by rw [hA1]; exact infoSt) ?_)
     refine Calls.mono (HWW.out _ HU) ?_
     rintro r W4 ⟨rfl, u4⟩
     have hA := u4.heap hA
     have HU := HU.trans u4
     clear u4 HWW
     obtain ⟨W5, hW5⟩ : ∃ W5, (W4.alloc (.cells zEv 30)).setRow W4.heap.size (evc ⟨1, 0, c, 0, 0, fz, fa, z, 0, 0, 0, []⟩ (.slice none 0 0)) = W5 := ⟨_, rfl⟩
     obtain ⟨f1, f2, -⟩ := filled W4 zEv (evc ⟨1, 0, c, 0, 0, fz, fa, z, 0, 0, 0, []⟩ (.slice none 0 0)) 30
     rw [hW5] at f1 f2
     have hA := f2.heap hA
     have lz := HU.size
     have HU := HU.trans f2
     clear f2
     go_wp2_with (first | (refine wpList_store_row rfl 30 (.tmp 13) (.tmp 38) rfl W4.heap.size (evc ⟨1, 0, c, 0, 0, fz, fa, z, 0, 0, 0, []⟩ (.slice none 0 0)) rfl rfl 30 zEv (heap_alloc_new W4 _) infoEv rfl (evc_one _ _ _ _) ?_; refine wpList_world hW5 ?_) | (refine wpList_load_row (by rfl) 27 (.tmp 4) (by rfl) w.heap.size (by rfl) 27 A (0, 0) _ hA Tryz.underlying27 (by rfl) (by rw [hA1]; exact infoSt) ?_))
     refine Calls.mono (HO2.out _ HU) ?_
     rintro r W6 ⟨rfl, u6⟩
     have f1 := u6.heap f1
     have HU := HU.trans u6
     clear u6 HO2
     have c8 : W6.cell? ⟨W4.heap.size, 8, none⟩ = some (.int .i64 0) := evc_cells0 f1 8
     have cf := seven_f f1 8
     have f8 := evc_eight (a := others s z (fz : Nat)) f1
     have HU := Up.set HU ⟨W4.heap.size, 8, none⟩ (.int .i64 (others s z (fz : Nat))) lz
     go_wp2_with (refine wpList_load_row (by rfl) 30 (.tmp 13) (by rfl) W4.heap.size (by rfl) 30 (evc ⟨1, 0, c, 0, 0, fz, fa, z, others s z (fz : Nat), 0, 0, []⟩ (.slice none 0 0)) (0, 0) _ f8 Tryz.underlying30 (by rfl) infoEv ?_)
     refine Calls.mono (HON.out _) ?_
     rintro r W7 ⟨v7, rfl, dl, u7⟩
     have HZ : Hid (Up w W7) := HU.trans u7
     have HDL : Hid _ := dl_less dl HU.size
     clear u7 dl HU
     go_wp2
     rw [HP.out, HF.out]
     exact ⟨_, rfl, HDL.out, HZ.out⟩
 ·have HF : Hid (moveO s c z first = (10, none)) := by unfold Hid moveO; rw [if_neg hf]
  simp only [hf, decide_false] at HM
  clear HIC HIZ HWH HOT hf
  go_enter Tryz.func83, Tryz.ntmps83
  go_wp2_with (refine wpList_load_row (by rfl) 27 (.tmp 4) (by rfl) w.heap.size (by rfl) 27 A (0, 0) _ hA Tryz.underlying27 (by rfl) (by rw [hA1]; exact infoSt) ?_)
  refine Calls.mono (HM.out _ HU) ?_
  rintro r W1 ⟨rfl, u1⟩
  have HZ : Hid (Up w W1) := HU.trans u1
  clear u1 HU hA
  go_wp2
  rw [HP.out, HF.out]
  exact ⟨_, rfl, rfl, HZ.out⟩
end DE
end Go.Proofs.YtodhjjeagmjhdaaGreatDoor
