/- Rw, Ti, Rap6, Rde6, Rdf6, Rdg6 -/
import Derived.Test.YtodhjjeagmjhdaaGreatDoorRbo6TvTmM
import Derived.Test.YtodhjjeagmjhdaaGreatDoorThVM
import Derived.Test.YtodhjjeagmjhdaaGreatDoorSzTvCsa6M
import Derived.Deep.Cut
import Derived.Test.YtodhjjeagmjhdaaGreatDoorNumTvMo6M
import Derived.Test.YtodhjjeagmjhdaaGreatDoorSu6TvAt6M
import Derived.Test.YtodhjjeagmjhdaaGreatDoorRfTvRor6M
import Derived.Test.YtodhjjeagmjhdaaGreatDoorRfl6VM
namespace Go.Proofs.YtodhjjeagmjhdaaGreatDoor
open Go.RowKit
attribute [local go_sem ↓] Go.wp_at_zero Go.wp_at_succ
namespace ST
end ST
end Go.Proofs.YtodhjjeagmjhdaaGreatDoor
namespace Go.Proofs.YtodhjjeagmjhdaaGreatDoor
open Go.RowKit
namespace ST
theorem thingsOk (s : Stt) (hsm : Small s) (hfl : (flat s).length <= 4294967296) : ThingsOk s := by
 intro v w hs
 cases hb : sizesB s
 ·exact things_bad s hsm hb v w hs
 ·exact things_good s hsm hfl hb v w hs
end ST
end Go.Proofs.YtodhjjeagmjhdaaGreatDoor
namespace Go.Proofs.YtodhjjeagmjhdaaGreatDoor
open Go.RowKit
attribute [local go_sem ↓] Go.wp_at_zero Go.wp_at_succ
namespace DE
open Go.Proofs.YtodhjjeagmjhdaaGreatDoor.ST
set_option maxHeartbeats 2000000 in
theorem rmay6_ (v : Value) (s : Stt) (w : World) (hs : StL w v s) (ht : ThingsOk s) :
  Calls Tryz.prog 44 #[v] w fun e w' => e = .returned (.bool (decide (ff s = none))) /\ Up w w' := by
 have hc := rcheck_ v s _ (hs.up ((Up.refl w).alloc (.cells v.cells 27))) ht
 obtain ⟨vp, vc, vz, rfl, -, -, -⟩ := hs
 cases hff : ff s with
 | none =>
  rw [hff] at hc
  unfold ckV sv at hc
  have HC : Hid _ := hc
  clear hc hff ht
  unfold sv
  go_enter Tryz.func44, Tryz.ntmps44
  go_wp2_with fail
  refine Calls.mono HC.out ?_
  rintro e w1 ⟨rfl, u1⟩
  clear HC
  have HU : Hid (Up w w1) := ((Up.refl w).alloc _).trans u1
  clear u1
  go_wp2
  go_ret
  exact ⟨rfl, HU.out⟩
 | some k =>
  rw [hff] at hc
  unfold ckV sv at hc
  have HC : Hid _ := hc
  clear hc hff ht
  unfold sv
  go_enter Tryz.func44, Tryz.ntmps44
  go_wp2_with fail
  refine Calls.mono HC.out ?_
  rintro e w1 ⟨rfl, u1⟩
  clear HC
  have HU : Hid (Up w w1) := ((Up.refl w).alloc _).trans u1
  clear u1
  go_wp2
  go_ret
  exact ⟨rfl, HU.out⟩
end DE
end Go.Proofs.YtodhjjeagmjhdaaGreatDoor
namespace Go.Proofs.YtodhjjeagmjhdaaGreatDoor
open Go.RowKit
attribute [local go_sem ↓] Go.wp_at_zero Go.wp_at_succ
namespace DE
open Go.Proofs.YtodhjjeagmjhdaaGreatDoor.ST
set_option maxRecDepth 100000 in
set_option maxHeartbeats 4000000 in
theorem rout_ (v : Value) (s : Stt) (p : Int) (w : World) (hs : StL w v s) (hsm : Small s) (hfl : (flat s).length <= 4294967296) : Calls Tryz.prog 91 #[v, .int .i64 p] w (DeV w (outO s p)) := by
 obtain ⟨Post, hPost⟩ : ∃ P : Ending -> World -> Prop, P = DeV w (outO s p) := ⟨_, rfl⟩
 rw [<- hPost]
 have HP : Hid (Post = DeV w (outO s p)) := hPost
 have HM : Hid (∀ W, Up w W -> Calls Tryz.prog 44 #[v] W fun r w' => r = .returned (.bool (decide (ff s = none))) /\ Up W w') := fun W u => rmay6_ v s W (hs.up u) (thingsOk s hsm hfl)
 have HI : Hid (∀ W : World, Calls Tryz.prog 103 #[.int .i64 p, .int .i64 (s.ps.length : Nat)] W fun r w' => r = .returned (.bool (numB p s.ps.length)) /\ w' = W) := fun W => ris_ p s.ps.length W
 obtain ⟨vp, vc, vz, hv, h1, h2, h3⟩ := hs
 obtain ⟨a1, k1, rfl, -, hpl⟩ := pl_at h1
 obtain ⟨a2, k2, rfl, -, -⟩ := lc_at h2
 obtain ⟨a3, k3, rfl, -, -⟩ := zl_at h3
 unfold sv at hv
 clear h1 h2 h3 hPost
 subst hv
 by_cases hf : ff s = none
 ·simp only [hf, decide_true] at HM
  cases hp : numB p s.ps.length with
  | true =>
   obtain ⟨q, rfl, hq⟩ := num_nat hp
   obtain ⟨cb, co, rfl, hcc⟩ := hpl (by omega)
   have HC : Hid (∀ W, Up w W -> W.cell? ⟨cb, co + q * 3 + 2, none⟩ = some (.bool (s.ps.getD q dp).out)) := fun W u => (hcc W u q hq).2.2
   have hq2 : (q : Int) < (s.ps.length : Int) := by omega
   have HF : Hid (outO s (q : Int) = if (s.ps.getD q dp).out = true then (0, none) else (0, some (outE (q : Int)))) := by unfold Hid outO; rw [if_pos hf, if_pos hp, Int.toNat_natCast]
   rw [hp] at HI
   clear hf hp hcc hpl
   go_enter Tryz.func91, Tryz.ntmps91
   go_wp2_with fail
   refine Calls.mono (HM.out _ ((Up.refl _).alloc _)) ?_
   rintro r W1 ⟨rfl, u1⟩
   have HU : Hid (Up w W1) := ((Up.refl _).alloc _).trans u1
   have g0 : W1.heap[w.heap.size]? = some (.cells _ 27 (0, 0)) := u1.heap (heap_alloc_new _ _)
   obtain ⟨q0, q1, q2, q3, q4, q5, q6⟩ := seven_cells g0
   have HG0 : Hid _ := g0
   clear u1 g0 HM
   go_wp2_with fail
   clear q0 q1 q2 q3 q4 q5 q6
   refine Calls.mono (HI.out _) ?_
   rintro r W2 ⟨rfl, hw2⟩
   have u2 : Up W1 W2 := by rw [hw2]; exact Up.refl _
   clear hw2
   have HU2 : Hid (Up w W2) := HU.out.trans u2
   have g0 := u2.heap HG0.out
   obtain ⟨q0, q1, q2, q3, q4, q5, q6⟩ := seven_cells g0
   have c1 := HC.out W2 HU2.out
   clear u2 g0 HI HG0 HU q1 q2 q3 q4 q5 q6 HC
   cases ho : (s.ps.getD q dp).out with
   | true =>
    rw [ho] at c1
    rw [ho, if_pos rfl] at HF
    clear ho
    go_wp2
    rw [HP.out, HF.out]
    exact ⟨_, rfl, rfl, HU2.out⟩
   | false =>
    rw [ho] at c1
    rw [ho, if_neg (by decide)] at HF
    clear ho
    go_wp2
    rw [HP.out, HF.out]
    exact ⟨_, rfl, ⟨W2.heap.size, .slice none 0 0, rfl, HU2.out.size, heap_alloc_new W2 _, World.ownsRow_nil _ _ _ _⟩, HU2.out.alloc _⟩
  | false =>
   have HF : Hid (outO s p = (1, none)) := by unfold Hid outO; rw [if_pos hf, if_neg (by rw [hp]; decide)]
   rw [hp] at HI
   clear hf hp hpl
   go_enter Tryz.func91, Tryz.ntmps91
   go_wp2_with fail
   refine Calls.mono (HM.out _ ((Up.refl _).alloc _)) ?_
   rintro r W1 ⟨rfl, u1⟩
   have HU : Hid (Up w W1) := ((Up.refl _).alloc _).trans u1
   have g0 : W1.heap[w.heap.size]? = some (.cells _ 27 (0, 0)) := u1.heap (heap_alloc_new _ _)
   obtain ⟨q0, q1, q2, q3, q4, q5, q6⟩ := seven_cells g0
   clear u1 g0
   go_wp2_with fail
   clear q0 q1 q2 q3 q4 q5 q6
   refine Calls.mono (HI.out _) ?_
   rintro r W2 ⟨rfl, hw2⟩
   have u2 : Up W1 W2 := by rw [hw2]; exact Up.refl _
   clear hw2
   have HU2 : Hid (Up w W2) := HU.out.trans u2
   clear u2
   go_wp2
   rw [HP.out, HF.out]
   exact ⟨_, rfl, rfl, HU2.out⟩
 ·have HF : Hid (outO s p = (10, none)) := by unfold Hid outO; rw [if_neg hf]
  simp only [hf, decide_false] at HM
  clear HI hf hpl
  go_enter Tryz.func91, Tryz.ntmps91
  go_wp2_with fail
  refine Calls.mono (HM.out _ ((Up.refl _).alloc _)) ?_
  rintro r W1 ⟨rfl, u1⟩
  have HU : Hid (Up w W1) := ((Up.refl _).alloc _).trans u1
  clear u1
  go_wp2
  rw [HP.out, HF.out]
  exact ⟨_, rfl, rfl, HU.out⟩
set_option maxRecDepth 100000 in
set_option maxHeartbeats 4000000 in
theorem rdraw_ (v : Value) (s : Stt) (p : Int) (w : World) (hs : StL w v s) (hsm : Small s) (hfl : (flat s).length <= 4294967296) : Calls Tryz.prog 90 #[v, .int .i64 p] w (DeV w (drawO s p)) := by
 have HM : Hid (∀ W, Up w W -> Calls Tryz.prog 44 #[v] W fun r w' => r = .returned (.bool (decide (ff s = none))) /\ Up W w') := fun W u => rmay6_ v s W (hs.up u) (thingsOk s hsm hfl)
 have HI : Hid (∀ W : World, Calls Tryz.prog 103 #[.int .i64 p, .int .i64 (s.ps.length : Nat)] W fun r w' => r = .returned (.bool (numB p s.ps.length)) /\ w' = W) := fun W => ris_ p s.ps.length W
 have hs0 := hs
 obtain ⟨vp, vc, vz, hv, h1, h2, h3⟩ := hs
 obtain ⟨a1, k1, rfl, -, -⟩ := lc_at h1
 obtain ⟨a2, k2, rfl, -, -⟩ := lc_at h2
 obtain ⟨a3, k3, rfl, hk3, hz⟩ := zl_at h3
 unfold sv at hv
 clear h1 h2 h3 hs0
 subst hv
 by_cases hf : ff s = none
 ·by_cases hp : numB p s.ps.length = true
  ·obtain ⟨q, rfl, hq⟩ := num_nat hp
   have hzl : s.zs.length = 4 * s.ps.length := by
    have h0 := ((ff_none s).1 hf).1.1
    unfold sizesB at h0
    simp only [Bool.and_eq_true, decide_eq_true_eq] at h0
    exact h0.2
   have hnp : s.ps.length <= 4 := by
    have h0 := ((ff_none s).1 hf).1.1
    unfold sizesB npB at h0
    simp only [Bool.and_eq_true, decide_eq_true_eq] at h0
    exact h0.1.1.2
   have e1 : zn s (4 * (q : Int)) = s.zs.getD (4 * q) [] := by unfold zn; congr 1
   have e2 : zn s (4 * (q : Int) + 1) = s.zs.getD (4 * q + 1) [] := by unfold zn; congr 1
   obtain ⟨zb, zo, rfl, hr⟩ := hz (by omega)
   obtain ⟨ra, rc, d1, d2⟩ := hr (4 * q) (by omega)
   obtain ⟨ra2, rc2, d3, d4⟩ := hr (4 * q + 1) (by omega)
   obtain ⟨ra', rc', hx, -, hcell⟩ := il_at d2
   simp only [Value.slice.injEq, true_and] at hx
   obtain ⟨rfl, rfl⟩ := hx
   have HO : Hid (drawO s (q : Int) = if (s.zs.getD (4 * q) []).length = 0 then (0, none) else (0, some (drawE s (q : Int) ((s.zs.getD (4 * q) []).getD 0 0)))) := by
    unfold Hid drawO
    rw [if_pos hf, if_pos hp, e1]
   have HE : Hid (drawE s (q : Int) ((s.zs.getD (4 * q) []).getD 0 0) = ⟨1, 0, (s.zs.getD (4 * q) []).getD 0 0, 0, 0, 4 * (q : Int), 0, 4 * (q : Int) + 1, ((s.zs.getD (4 * q + 1) []).length : Int), 0, 0, []⟩) := by
    unfold Hid drawE
    rw [e2]
   rw [hp] at HI
   simp only [hf, decide_true] at HM
   generalize s.zs.getD (4 * q) [] = zd at *
   generalize (s.zs.getD (4 * q + 1) []).length = hl at *
   obtain ⟨dk, hdk⟩ : ∃ dk, dk = 4 * q := ⟨_, rfl⟩
   obtain ⟨hd, hhd⟩ : ∃ hd, hd = dk + 1 := ⟨_, rfl⟩
   have hq4 : (4 * (q : Int)) = (dk : Int) := by omega
   have hq5 : ((dk : Int) + 1) = (hd : Int) := by omega
   rw [<- hdk] at d1
   rw [<- hdk, <- hhd] at d3
   rw [hq4, hq5] at HE
   have b1 : (dk : Int) < (s.zs.length : Int) := by omega
   have b2 : (hd : Int) < (s.zs.length : Int) := by omega
   have b3 : dk <= 1000 := by omega
   have b4 : hd <= 1000 := by omega
   have b5 : q <= 4 := by omega
   have HQ : Hid _ := And.intro hdk hhd
   have HD1 : Hid _ := d1
   have HD3 : Hid _ := d3
   have HCE : Hid _ := hcell
   generalize s.zs.length = nz at *
   clear hf hp hr e1 e2 d4 hzl hq hsm d2 hnp hdk hhd d1 d3 hcell hz
   go_enter Tryz.func90, Tryz.ntmps90
   go_wp2_with fail
   refine Calls.mono (HM.out _ ((Up.refl _).alloc _)) ?_
   rintro r W1 ⟨rfl, u1⟩
   have HU : Hid (Up w W1) := ((Up.refl _).alloc _).trans u1
   have g0 : W1.heap[w.heap.size]? = some (.cells _ 27 (0, 0)) := u1.heap (heap_alloc_new _ _)
   obtain ⟨q0, q1, q2, q3, q4, q5, q6⟩ := seven_cells g0
   have HG0 : Hid _ := g0
   clear u1 g0 HM
   go_wp2_with fail
   clear q0 q1 q2 q3 q4 q5 q6
   refine Calls.mono (HI.out _) ?_
   rintro r W2 ⟨rfl, hw2⟩
   have u2 : Up W1 W2 := by rw [hw2]; exact Up.refl _
   clear hw2
   have HU2 : Hid (Up w W2) := HU.out.trans u2
   have g0 := u2.heap HG0.out
   obtain ⟨q0, q1, q2, q3, q4, q5, q6⟩ := seven_cells g0
   have c1 := HD1.out W2 HU2.out
   have c3 := HD3.out W2 HU2.out
   clear u2 g0 HI HG0 HU q0 q1 q3 q4 q5 q6
   by_cases h0 : zd.length = 0
   ·have HF : Hid (drawO s (q : Int) = (0, none)) := by unfold Hid; rw [HO.out, if_pos h0]
    rw [h0] at c1
    clear HO HE HCE HD1 HD3
    go_wp2
    go_ret2
    rw [HF.out]
    exact ⟨_, rfl, rfl, HU2.out⟩
   ·have HF : Hid (drawO s (q : Int) = (0, some ⟨1, 0, zd.getD 0 0, 0, 0, (dk : Int), 0, (hd : Int), (hl : Int), 0, 0, []⟩)) := by unfold Hid; rw [HO.out, if_neg h0, HE.out]
    obtain ⟨rb, ro, rfl, hce⟩ := HCE.out h0
    have c2 : W2.cell? ⟨rb, ro, none⟩ = some (.int .i64 (zd.getD 0 0)) := hce W2 HU2.out 0 (by omega)
    have h1 : ((zd.length : Int) == 0) = false := by rw [beq_eq_false_iff_ne]; omega
    have h2 : (0 : Int) < (zd.length : Int) := by omega
    clear HO HE HCE HD1 HD3 hce
    generalize zd.getD 0 0 = card at *
    generalize zd.length = zl at *
    go_wp2_with fail
    refine TailR.wp_region_seq 16 (by kernel_rfl) (by kernel_rfl) ?_
    simp only [List.take_succ_cons, List.take_zero, List.drop_succ_cons, List.drop_zero]
    repeat (go_big_quiet_step (fail))
    refine wpQuiet_nil ?_
    intro _ hw'
    obtain ⟨nq, hw''⟩ := hw'
    subst hw''
    go_wp2
    go_ret2
    rw [HF.out]
    refine ⟨_, rfl, ⟨W2.heap.size, .slice none 0 0, rfl, HU2.out.size, heap_alloc_new (W2.drewN nq) _, World.ownsRow_nil _ _ _ _⟩, (HU2.out.drewN nq).alloc _⟩
  ·have HF : Hid (drawO s p = (1, none)) := by unfold Hid drawO; rw [if_pos hf, if_neg hp]
   have hp' : numB p s.ps.length = false := by simpa using hp
   rw [hp'] at HI
   simp only [hf, decide_true] at HM
   clear hz hf hp hp'
   go_enter Tryz.func90, Tryz.ntmps90
   go_wp2_with fail
   refine Calls.mono (HM.out _ ((Up.refl _).alloc _)) ?_
   rintro r W1 ⟨rfl, u1⟩
   have HU : Hid (Up w W1) := ((Up.refl _).alloc _).trans u1
   have g0 : W1.heap[w.heap.size]? = some (.cells _ 27 (0, 0)) := u1.heap (heap_alloc_new _ _)
   obtain ⟨q0, q1, q2, q3, q4, q5, q6⟩ := seven_cells g0
   clear u1 g0
   go_wp2_with fail
   clear q0 q1 q2 q3 q4 q5 q6
   refine Calls.mono (HI.out _) ?_
   rintro r W2 ⟨rfl, hw2⟩
   have u2 : Up W1 W2 := by rw [hw2]; exact Up.refl _
   clear hw2
   have HU2 : Hid (Up w W2) := HU.out.trans u2
   clear u2
   go_wp2
   go_ret2
   rw [HF.out]
   exact ⟨_, rfl, rfl, HU2.out⟩
 ·have HF : Hid (drawO s p = (10, none)) := by unfold Hid drawO; rw [if_neg hf]
  simp only [hf, decide_false] at HM
  clear HI hz hf
  go_enter Tryz.func90, Tryz.ntmps90
  go_wp2_with fail
  refine Calls.mono (HM.out _ ((Up.refl _).alloc _)) ?_
  rintro r W1 ⟨rfl, u1⟩
  have HU : Hid (Up w W1) := ((Up.refl _).alloc _).trans u1
  clear u1
  go_wp2
  go_ret2
  rw [HF.out]
  exact ⟨_, rfl, rfl, HU.out⟩
end DE
end Go.Proofs.YtodhjjeagmjhdaaGreatDoor
namespace Go.Proofs.YtodhjjeagmjhdaaGreatDoor
open Go.RowKit
attribute [local go_sem ↓] Go.wp_at_zero Go.wp_at_succ
namespace DE
open Go.Proofs.YtodhjjeagmjhdaaGreatDoor.ST
set_option maxRecDepth 100000 in
set_option maxHeartbeats 4000000 in
theorem rplace_ (v : Value) (s : Stt) (c : Int) (fz fa : Nat) (w : World) (hs : StL w v s) (hsm : Small s) (hw : wh c s.zs 0 = some (fz, fa)) : Calls Tryz.prog 169 #[v, .int .i64 c] w fun e w' => e = .returned (.tuple #[.int .i64 (fz : Nat), .int .i64 (fa : Nat)]) /\ Up w w' := by
 have HR : Hid (some (fz, fa) = wh c (s.zs.drop 0) 0) := hw.symm
 obtain ⟨vp, vc, vz, hv, h1, h2, h3⟩ := hs
 obtain ⟨a1, k1, rfl, -, -⟩ := lc_at h1
 obtain ⟨a2, k2, rfl, -, -⟩ := lc_at h2
 obtain ⟨a3, k3, rfl, -, hzl⟩ := zl_at h3
 unfold sv at hv
 subst hv
 obtain ⟨zs, hzs⟩ : ∃ n, n = s.zs := ⟨_, rfl⟩
 obtain ⟨n, hn0⟩ : ∃ n, n = zs.length := ⟨_, rfl⟩
 have hz := hsm.2.2.1
 have hl := hsm.2.2.2
 rw [<- hzs] at hz hl hzl HR ⊢
 rw [<- hn0] at hz hl hzl ⊢
 have HCs : Hid _ := hzl
 have HL : Hid _ := hl
 have HN : Hid (n = zs.length) := hn0
 have g0 : (w.alloc (.cells #[.slice a1 s.ps.length k1, .slice a2 s.cs.length k2, .slice a3 n k3, .int .i32 s.turn, .int .i64 s.whose, .int .i8 s.fin, .int .i64 s.winner] 27)).heap[w.heap.size]? = _ := heap_alloc_new _ _
 obtain ⟨-, -, y2, -, -, -, -⟩ := seven_cells g0
 have HU : Hid (Up w (w.alloc (.cells #[.slice a1 s.ps.length k1, .slice a2 s.cs.length k2, .slice a3 n k3, .int .i32 s.turn, .int .i64 s.whose, .int .i8 s.fin, .int .i64 s.winner] 27))) := (Up.refl _).alloc _
 obtain ⟨w1, hw1⟩ : ∃ w1, w1 = w.alloc (.cells #[.slice a1 s.ps.length k1, .slice a2 s.cs.length k2, .slice a3 n k3, .int .i32 s.turn, .int .i64 s.whose, .int .i8 s.fin, .int .i64 s.winner] 27) := ⟨_, rfl⟩
 rw [<- hw1] at y2 HU
 clear h1 h2 h3 hzl hl hn0 hzs hsm hw g0
 go_enter Tryz.func169, Tryz.ntmps169
 go_wp2_with fail
 rw [<- hw1]
 clear hw1
 go_loopw [4, 5, 6] (fun s4 s5 s6 W => ∃ z : Nat, z <= n /\ s6 = .int .i64 z /\ s4 = .int .i64 0 /\ s5 = .int .i64 0 /\ W = w1 /\ some (fz, fa) = wh c (zs.drop z) z) (fun _ _ s6 _ => n - (intOf s6).toNat)
 case atStart => exact ⟨0, Nat.zero_le _, rfl, rfl, rfl, rfl, HR.out⟩
 case round =>
  obtain ⟨z, hzn, rfl, rfl, rfl, rfl, hR⟩ := hrel
  clear HR
  have HR : Hid (some (fz, fa) = wh c (zs.drop z) z) := hR
  by_cases hlt : z < n
  ·clear hR
   have hlt2 : (z : Int) < (n : Int) := by omega
   obtain ⟨b3, o3, rfl, hrow⟩ := HCs.out (by omega)
   obtain ⟨ra, rc, hcell, hil⟩ := hrow z hlt
   have hlen := HL.out z hlt
   obtain ⟨_, _, hra, -, hin⟩ := il_at hil
   cases hra
   have x1 := hcell _ HU.out
   have HHit : Hid (∀ i, i < (zs.getD z []).length -> (∀ j, j < i -> (zs.getD z []).getD j 0 ≠ c) -> (zs.getD z []).getD i 0 = c -> fz = z /\ fa = i) := fun i hi h1 h2 => by
    have h9 := HR.out
    rw [wh_hit (by rw [<- HN.out]; exact hlt) hi h1 h2] at h9
    simpa using h9
   have HMiss : Hid ((∀ j, j < (zs.getD z []).length -> (zs.getD z []).getD j 0 ≠ c) -> some (fz, fa) = wh c (zs.drop (z + 1)) (z + 1)) := fun h1 => by rw [HR.out]; exact wh_miss (by rw [<- HN.out]; exact hlt) h1
   clear hcell hrow hil HR
   obtain ⟨r, hr⟩ : ∃ r, r = zs.getD z [] := ⟨_, rfl⟩
   rw [<- hr] at x1 hlen hin HHit HMiss
   obtain ⟨q, hq⟩ : ∃ q, q = r.length := ⟨_, rfl⟩
   rw [<- hq] at x1 hlen hin HHit HMiss
   have HIn : Hid _ := hin
   clear hr hq hin
   go_wp2_with fail
   go_loopw [4, 5, 7] (fun s4 s5 s7 W => ∃ i : Nat, i <= q /\ s7 = .int .i64 i /\ s4 = .int .i64 0 /\ s5 = .int .i64 0 /\ W = wr /\ ∀ j, j < i -> r.getD j 0 ≠ c) (fun _ _ s7 _ => q - (intOf s7).toNat)
   case atStart => exact ⟨0, Nat.zero_le _, rfl, rfl, rfl, rfl, fun j hj => by omega⟩
   case round =>
    obtain ⟨i, hiq, rfl, rfl, rfl, rfl, hj⟩ := hrel
    have HJ : Hid (∀ j, j < i -> r.getD j 0 ≠ c) := hj
    clear hj
    by_cases hlt3 : i < q
    ·have hlt4 : (i : Int) < (q : Int) := by omega
     obtain ⟨b4, o4, rfl, hc4⟩ := HIn.out (by omega)
     have x2 := hc4 _ HU.out i hlt3
     clear hc4
     have HY3 : Hid ((r.getD i 0 = c -> fz = z /\ fa = i) /\ (r.getD i 0 ≠ c -> ∀ j, j < i + 1 -> r.getD j 0 ≠ c)) := ⟨fun e => HHit.out i hlt3 HJ.out e, fun e j hj => by
      by_cases ej : j = i
      ·subst ej; exact e
      ·exact HJ.out j (by omega)⟩
     clear HJ
     generalize r.getD i 0 = y at x2 HY3
     by_cases hyc : y = c
     ·subst hyc
      have hb : (y == y) = true := by simp
      have HF : Hid (fz = z /\ fa = i) := HY3.out.1 rfl
      clear HY3
      go_wp2
      go_ret2
      rw [HF.out.1, HF.out.2]
      exact ⟨rfl, HU.out⟩
     ·have hb : (y == c) = false := beq_eq_false_iff_ne.2 hyc
      have HF : Hid (∀ j, j < i + 1 -> r.getD j 0 ≠ c) := HY3.out.2 hyc
      clear HY3
      go_wp2
      go_roundw
      case rel => exact ⟨i + 1, by omega, by go_num, rfl, rfl, by first | rfl | trivial, HF.out⟩
      case measure => simp [intOf]; omega
    ·have hlt4 : ¬ (i : Int) < (q : Int) := by omega
     have HF : Hid (some (fz, fa) = wh c (zs.drop (z + 1)) (z + 1)) := HMiss.out (fun j hj => HJ.out j (by omega))
     clear HMiss HHit HJ
     go_wp2
     go_roundw
     case rel => exact ⟨z + 1, by omega, by go_num, rfl, rfl, by first | rfl | trivial, HF.out⟩
     case measure => simp [intOf]; omega
  ·rw [List.drop_of_length_le (by rw [<- HN.out]; omega)] at hR
   cases hR
theorem one_mv (s : Stt) (c z : Int) (fz fa : Nat) (first : Bool) (t : Int) (ht : t = if first = true then 0 else others s z fz) : one (mvE s c z fz fa first) = if (fz : Int) = z /\ (fa : Int) = t then none else some ⟨1, 0, c, 0, 0, (fz : Int), (fa : Int), z, t, 0, 0, []⟩ := by
 unfold one noneB mvE
 rw [<- ht]
 by_cases h1 : (fz : Int) = z
 ·by_cases h2 : (fa : Int) = t
  ·rw [if_pos (by simp [h1, h2]), if_pos ⟨h1, h2⟩]
  ·rw [if_neg (by simp [h2]), if_neg (fun h => h2 h.2)]
 ·rw [if_neg (by simp [h1]), if_neg (fun h => h1 h.1)]
set_option maxRecDepth 100000 in
set_option maxHeartbeats 4000000 in
theorem rmove_ (v : Value) (s : Stt) (c z : Int) (first : Bool) (w : World) (hs : StL w v s) (hsm : Small s) (hfl : (flat s).length <= 4294967296) : Calls Tryz.prog 87 #[v, .int .i64 c, .int .i64 z, .bool first] w (DeV w (moveO s c z first)) := by
 obtain ⟨Post, hPost⟩ : ∃ P : Ending -> World -> Prop, P = DeV w (moveO s c z first) := ⟨_, rfl⟩
 rw [<- hPost]
 have HP : Hid (Post = DeV w (moveO s c z first)) := hPost
 have HM : Hid (∀ W, Up w W -> Calls Tryz.prog 44 #[v] W fun r w' => r = .returned (.bool (decide (ff s = none))) /\ Up W w') := fun W u => rmay6_ v s W (hs.up u) (thingsOk s hsm hfl)
 have HIC : Hid (∀ W : World, Calls Tryz.prog 103 #[.int .i64 c, .int .i64 (s.cs.length : Nat)] W fun r w' => r = .returned (.bool (numB c s.cs.length)) /\ w' = W) := fun W => ris_ c s.cs.length W
 have HIZ : Hid (∀ W : World, Calls Tryz.prog 103 #[.int .i64 z, .int .i64 (s.zs.length : Nat)] W fun r w' => r = .returned (.bool (numB z s.zs.length)) /\ w' = W) := fun W => ris_ z s.zs.length W
 have HPL : Hid (∀ W fz fa, Up w W -> wh c s.zs 0 = some (fz, fa) -> Calls Tryz.prog 169 #[v, .int .i64 c] W fun e w' => e = .returned (.tuple #[.int .i64 (fz : Nat), .int .i64 (fa : Nat)]) /\ Up W w') := fun W fz fa u h => rplace_ v s c fz fa W (hs.up u) hsm h
 obtain ⟨vp, vc, vz, hv, h1, h2, h3⟩ := hs
 obtain ⟨a1, k1, rfl, -, -⟩ := lc_at h1
 obtain ⟨a2, k2, rfl, -, -⟩ := lc_at h2
 obtain ⟨a3, k3, rfl, -, hzl⟩ := zl_at h3
 unfold sv at hv
 subst hv
 clear h1 h2 h3 hPost hfl
 have hA : (w.alloc (.cells #[.slice a1 s.ps.length k1, .slice a2 s.cs.length k2, .slice a3 s.zs.length k3, .int .i32 s.turn, .int .i64 s.whose, .int .i8 s.fin, .int .i64 s.winner] 27)).heap[w.heap.size]? = some (.cells #[.slice a1 s.ps.length k1, .slice a2 s.cs.length k2, .slice a3 s.zs.length k3, .int .i32 s.turn, .int .i64 s.whose, .int .i8 s.fin, .int .i64 s.winner] 27 (0, 0)) := heap_alloc_new _ _
 have HU : Up w (w.alloc (.cells #[.slice a1 s.ps.length k1, .slice a2 s.cs.length k2, .slice a3 s.zs.length k3, .int .i32 s.turn, .int .i64 s.whose, .int .i8 s.fin, .int .i64 s.winner] 27)) := (Up.refl _).alloc _
 by_cases hf : ff s = none
 ·simp only [hf, decide_true] at HM
  cases hc : numB c s.cs.length with
  | false =>
   have HF : Hid (moveO s c z first = (1, none)) := by unfold Hid moveO; rw [if_pos hf, hc]; rfl
   rw [hc] at HIC
   clear hf hc HIZ HPL hzl hsm
   go_enter Tryz.func87, Tryz.ntmps87
   go_wp2_with fail
   refine Calls.mono (HM.out _ HU) ?_
   rintro r W1 ⟨rfl, u1⟩
   have hA := u1.heap hA
   have HU := HU.trans u1
   obtain ⟨q0, q1, q2, q3, q4, q5, q6⟩ := seven_cells hA
   clear u1 HM
   go_wp2_with fail
   refine Calls.mono (HIC.out _) ?_
   rintro r W2 ⟨rfl, hw2⟩
   rw [<- hw2] at hA HU q0 q1 q2 q3 q4 q5 q6
   clear hw2
   have HZ : Hid (Up w W2) := HU
   clear HU hA q0 q1 q2 q3 q4 q5 q6
   go_wp2
   rw [HP.out, HF.out]
   exact ⟨_, rfl, rfl, HZ.out⟩
  | true =>
   cases hz : numB z s.zs.length with
   | false =>
    have HF : Hid (moveO s c z first = (1, none)) := by unfold Hid moveO; rw [if_pos hf, hc, hz]; rfl
    rw [hc] at HIC
    rw [hz] at HIZ
    clear hf hc hz HPL hzl hsm
    go_enter Tryz.func87, Tryz.ntmps87
    go_wp2_with fail
    refine Calls.mono (HM.out _ HU) ?_
    rintro r W1 ⟨rfl, u1⟩
    have hA := u1.heap hA
    have HU := HU.trans u1
    obtain ⟨q0, q1, q2, q3, q4, q5, q6⟩ := seven_cells hA
    clear u1 HM
    go_wp2_with fail
    refine Calls.mono (HIC.out _) ?_
    rintro r W2 ⟨rfl, hw2⟩
    rw [<- hw2] at hA HU q0 q1 q2 q3 q4 q5 q6
    clear hw2
    go_wp2_with fail
    refine Calls.mono (HIZ.out _) ?_
    rintro r W3 ⟨rfl, hw3⟩
    rw [<- hw3] at hA HU q0 q1 q2 q3 q4 q5 q6
    clear hw3
    have HZ : Hid (Up w W3) := HU
    clear HU hA q0 q1 q2 q3 q4 q5 q6
    go_wp2
    rw [HP.out, HF.out]
    exact ⟨_, rfl, rfl, HZ.out⟩
   | true =>
    obtain ⟨fz, fa, hw⟩ := wh_all hf hc
    obtain ⟨i, rfl, hi⟩ := num_nat hz
    obtain ⟨zb, zo, rfl, hzr⟩ := hzl (by omega)
    obtain ⟨ra, rc, hcz, -⟩ := hzr i hi
    have hzn : zn s (i : Int) = s.zs.getD i [] := by unfold zn; rw [Int.toNat_natCast]
    have hq : (s.zs.getD i []).length <= 256 := zs_get (zone_le hf) i hi
    have hi2 : (i : Int) < (s.zs.length : Int) := by omega
    have HF : Hid (∀ t : Int, (t = if first = true then 0 else (if (i : Int) = (fz : Int) then ((s.zs.getD i []).length : Int) - 1 else ((s.zs.getD i []).length : Int))) -> moveO s c (i : Int) first = (0, if (fz : Int) = (i : Int) /\ (fa : Int) = t then none else some ⟨1, 0, c, 0, 0, (fz : Int), (fa : Int), (i : Int), t, 0, 0, []⟩)) := fun t ht => by
     unfold moveO
     rw [if_pos hf, hc, hz, if_pos (show (true && true) = true from rfl), hw]
     show ((0 : Int), one (mvE s c (i : Int) fz fa first)) = _
     rw [one_mv s c (i : Int) fz fa first t (by rw [ht]; unfold others; rw [hzn])]
    have HPP : Hid (∀ W, Up w W -> Calls Tryz.prog 169 #[.agg #[.slice a1 s.ps.length k1, .slice a2 s.cs.length k2, .slice (some ⟨zb, zo, none⟩) s.zs.length k3, .int .i32 s.turn, .int .i64 s.whose, .int .i8 s.fin, .int .i64 s.winner], .int .i64 c] W fun e w' => e = .returned (.tuple #[.int .i64 (fz : Nat), .int .i64 (fa : Nat)]) /\ Up W w') := fun W u => HPL.out W fz fa u hw
    have HCZ : Hid _ := hcz
    rw [hc] at HIC
    rw [hz] at HIZ
    generalize (s.zs.getD i []).length = m at *
    clear hf hc hz hzr hzl hcz hzn hsm HPL hw
    go_enter Tryz.func87, Tryz.ntmps87
    go_wp2_with fail
    refine Calls.mono (HM.out _ HU) ?_
    rintro r W1 ⟨rfl, u1⟩
    have hA := u1.heap hA
    have HU := HU.trans u1
    obtain ⟨q0, q1, q2, q3, q4, q5, q6⟩ := seven_cells hA
    clear u1 HM
    go_wp2_with fail
    refine Calls.mono (HIC.out _) ?_
    rintro r W2 ⟨rfl, hw2⟩
    rw [<- hw2] at hA HU q0 q1 q2 q3 q4 q5 q6
    clear hw2
    go_wp2_with fail
    refine Calls.mono (HIZ.out _) ?_
    rintro r W3 ⟨rfl, hw3⟩
    rw [<- hw3] at hA HU q0 q1 q2 q3 q4 q5 q6
    clear hw3
    go_wp2_with fail
    refine Calls.mono (HPP.out _ HU) ?_
    rintro r W4 ⟨rfl, u4⟩
    have hA := u4.heap hA
    have HU := HU.trans u4
    clear u4 q0 q1 q2 q3 q4 q5 q6 HPP HIC HIZ
    obtain ⟨q0, q1, q2, q3, q4, q5, q6⟩ := seven_cells hA
    have c0 := HCZ.out W4 HU
    have HZ : Hid (Up w W4) := HU
    clear HCZ HU hA
    cases first with
    | true =>
     have HF0 : Hid _ := HF.out 0 (by rw [if_pos rfl])
     clear HF
     by_cases e1 : (fz : Int) = (i : Int)
     ·have b1 : ((fz : Int) == (i : Int)) = true := by rw [beq_iff_eq]; exact e1
      by_cases e2 : (fa : Int) = 0
      ·have b2 : ((fa : Int) == 0) = true := by rw [beq_iff_eq]; exact e2
       rw [if_pos ⟨e1, e2⟩] at HF0
       clear e1 e2
       go_wp2
       rw [HP.out, HF0.out]
       exact ⟨_, rfl, rfl, HZ.out⟩
      ·have b2 : ((fa : Int) == 0) = false := by rw [beq_eq_false_iff_ne]; exact e2
       rw [if_neg (fun h => e2 h.2)] at HF0
       clear e1 e2
       go_wp2
       rw [HP.out, HF0.out]
       exact ⟨_, rfl, ⟨W4.heap.size, .slice none 0 0, rfl, HZ.out.size, heap_alloc_new W4 _, World.ownsRow_nil _ _ _ _⟩, HZ.out.alloc _⟩
     ·have b1 : ((fz : Int) == (i : Int)) = false := by rw [beq_eq_false_iff_ne]; exact e1
      rw [if_neg (fun h => e1 h.1)] at HF0
      clear e1
      go_wp2
      rw [HP.out, HF0.out]
      exact ⟨_, rfl, ⟨W4.heap.size, .slice none 0 0, rfl, HZ.out.size, heap_alloc_new W4 _, World.ownsRow_nil _ _ _ _⟩, HZ.out.alloc _⟩
    | false =>
     by_cases e1 : (fz : Int) = (i : Int)
     ·have b1 : ((fz : Int) == (i : Int)) = true := by rw [beq_iff_eq]; exact e1
      have HF0 : Hid _ := HF.out ((m : Int) - 1) (by rw [if_neg (by decide), if_pos e1.symm])
      clear HF
      by_cases e2 : (fa : Int) = (m : Int) - 1
      ·have b2 : ((fa : Int) == (m : Int) - 1) = true := by rw [beq_iff_eq]; exact e2
       rw [if_pos ⟨e1, e2⟩] at HF0
       clear e1 e2
       go_wp2
       rw [HP.out, HF0.out]
       exact ⟨_, rfl, rfl, HZ.out⟩
      ·have b2 : ((fa : Int) == (m : Int) - 1) = false := by rw [beq_eq_false_iff_ne]; exact e2
       rw [if_neg (fun h => e2 h.2)] at HF0
       clear e1 e2
       go_wp2
       rw [HP.out, HF0.out]
       exact ⟨_, rfl, ⟨W4.heap.size, .slice none 0 0, rfl, HZ.out.size, heap_alloc_new W4 _, World.ownsRow_nil _ _ _ _⟩, HZ.out.alloc _⟩
     ·have b1 : ((fz : Int) == (i : Int)) = false := by rw [beq_eq_false_iff_ne]; exact e1
      have HF0 : Hid _ := HF.out (m : Int) (by rw [if_neg (by decide), if_neg (fun h => e1 h.symm)])
      rw [if_neg (fun h => e1 h.1)] at HF0
      clear e1 HF
      go_wp2
      rw [HP.out, HF0.out]
      exact ⟨_, rfl, ⟨W4.heap.size, .slice none 0 0, rfl, HZ.out.size, heap_alloc_new W4 _, World.ownsRow_nil _ _ _ _⟩, HZ.out.alloc _⟩
 ·have HF : Hid (moveO s c z first = (10, none)) := by unfold Hid moveO; rw [if_neg hf]
  simp only [hf, decide_false] at HM
  clear hf
  go_enter Tryz.func87, Tryz.ntmps87
  go_wp2_with fail
  refine Calls.mono (HM.out _ HU) ?_
  rintro r W1 ⟨rfl, u1⟩
  have HZ : Hid (Up w W1) := HU.trans u1
  clear u1 HU hA
  go_wp2
  rw [HP.out, HF.out]
  exact ⟨_, rfl, rfl, HZ.out⟩
end DE
end Go.Proofs.YtodhjjeagmjhdaaGreatDoor
namespace Go.Proofs.YtodhjjeagmjhdaaGreatDoor
open Go.RowKit
attribute [local go_sem ↓] Go.wp_at_zero Go.wp_at_succ
namespace DE
open Go.Proofs.YtodhjjeagmjhdaaGreatDoor.ST
theorem now_eq {y b : Int} (h1 : -1000000000 <= y) (h2 : y <= 1000000000) : chNow y b = if 2000000000 < b then 1000000000 else if b < -2000000000 then -1000000000 else if 1000000000 < y + b then 1000000000 else if y + b < -1000000000 then -1000000000 else y + b := by
 unfold chNow cut64 cutI
 omega
set_option maxHeartbeats 2000000 in
theorem rcut_ (y b : Int) (w : World) (h1 : -1000000000 <= y) (h2 : y <= 1000000000) : Calls Tryz.prog 171 #[.int .i32 y, .int .i64 b] w fun e w' => e = .returned (.int .i32 (chNow y b)) /\ w' = w := by
 rw [now_eq h1 h2]
 by_cases c1 : 2000000000 < b
 ·rw [if_pos c1]
  go_enter Tryz.func171, Tryz.ntmps171
  go_wp2
  go_ret
  exact ⟨rfl, rfl⟩
 ·rw [if_neg c1]
  by_cases c2 : b < -2000000000
  ·rw [if_pos c2]
   go_enter Tryz.func171, Tryz.ntmps171
   go_wp2
   go_ret
   exact ⟨rfl, rfl⟩
  ·rw [if_neg c2]
   by_cases c3 : 1000000000 < y + b
   ·rw [if_pos c3]
    go_enter Tryz.func171, Tryz.ntmps171
    go_wp2
    go_ret
    exact ⟨rfl, rfl⟩
   ·rw [if_neg c3]
    by_cases c4 : y + b < -1000000000
    ·rw [if_pos c4]
     go_enter Tryz.func171, Tryz.ntmps171
     go_wp2
     go_ret
     exact ⟨rfl, rfl⟩
    ·rw [if_neg c4]
     go_enter Tryz.func171, Tryz.ntmps171
     go_wp2
     go_ret
     exact ⟨ret_int (by omega), rfl⟩
def fldE (f n y x : Int) : Ev := if f <= 4 then ⟨2, f, n, 0, 0, 0, 0, 0, 0, y, x, []⟩ else ⟨3, f, 0, n, 0, 0, 0, 0, 0, y, x, []⟩
theorem chP_fld (s : Stt) (f n : Int) : (fldO s f n = none -> chP s f n = none) /\ ∀ y, fldO s f n = some y -> ∃ e, chP s f n = some (e, y) /\ ∀ x, one { e with was := y, now := x } = if x = y then none else some (fldE f n y x) := by
 have hone : ∀ (a b g : Int) (k x y : Int) (F : Int), one (⟨k, F, a, b, 0, 0, 0, 0, 0, y, x, []⟩ : Ev) = if x = y then none else some ⟨k, F, a, b, 0, 0, 0, 0, 0, y, x, []⟩ := fun a b g k x y F => by
  unfold one noneB
  by_cases h : x = y
  ·rw [if_pos (by simp [h]), if_pos h]
  ·rw [if_neg (by simp; omega), if_neg h]
 unfold fldO chP cPart pPart
 by_cases h1 : 1 <= f /\ f <= 4
 ·rw [if_pos h1]
  have hp : ∀ p : Ply, pGet p f = none := fun p => by unfold pGet; rw [if_neg (by omega), if_neg (by omega)]
  by_cases h2 : numB n s.cs.length = true
  ·rw [if_pos h2, if_pos h2]
   cases hg : cGet (s.cs.getD n.toNat dc) f with
   | none =>
    refine ⟨fun _ => ?_, fun y h => by cases h⟩
    simp only [Option.map_none, hp]
    split <;> rfl
   | some y0 =>
    refine ⟨fun h => (by cases h), fun y h => ?_⟩
    cases h
    refine ⟨_, rfl, fun x => ?_⟩
    unfold fldE
    rw [if_pos h1.2]
    exact hone n 0 0 2 x _ f
  ·rw [if_neg h2, if_neg h2]
   refine ⟨fun _ => ?_, fun y h => by cases h⟩
   simp only [hp, Option.map_none]
   split <;> rfl
 ·rw [if_neg h1]
  have hc : ∀ p : Crd, cGet p f = none := fun p => by unfold cGet; rw [if_neg (by omega), if_neg (by omega), if_neg (by omega), if_neg (by omega)]
  simp only [hc, Option.map_none, ite_self]
  by_cases h3 : f = 5 ∨ f = 6
  ·rw [if_pos h3]
   by_cases h2 : numB n s.ps.length = true
   ·rw [if_pos h2, if_pos h2]
    cases hg : pGet (s.ps.getD n.toNat dp) f with
    | none => exact ⟨fun _ => rfl, fun y h => by cases h⟩
    | some y0 =>
     refine ⟨fun h => (by cases h), fun y h => ?_⟩
     cases h
     refine ⟨_, rfl, fun x => ?_⟩
     unfold fldE
     rw [if_neg (show ¬ f <= 4 by omega)]
     exact hone 0 n 0 3 x _ f
   ·rw [if_neg h2, if_neg h2]
    exact ⟨fun _ => rfl, fun y h => by cases h⟩
  ·rw [if_neg h3]
   have hp : ∀ p : Ply, pGet p f = none := fun p => by unfold pGet; rw [if_neg (by omega), if_neg (by omega)]
   refine ⟨fun _ => ?_, fun y h => by cases h⟩
   simp only [hp, Option.map_none, ite_self]
set_option maxRecDepth 100000 in
set_option maxHeartbeats 4000000 in
theorem rchange_ (v : Value) (s : Stt) (f n by_ : Int) (w : World) (hs : StL w v s) (hsm : Small s) (hfl : (flat s).length <= 4294967296) : Calls Tryz.prog 88 #[v, .int .i8 f, .int .i64 n, .int .i64 by_] w (DeV w (changeO s f n by_)) := by
 obtain ⟨Post, hPost⟩ : ∃ P : Ending -> World -> Prop, P = DeV w (changeO s f n by_) := ⟨_, rfl⟩
 rw [<- hPost]
 have HP : Hid (Post = DeV w (changeO s f n by_)) := hPost
 have HM : Hid (∀ W, Up w W -> Calls Tryz.prog 44 #[v] W fun r w' => r = .returned (.bool (decide (ff s = none))) /\ Up W w') := fun W u => rmay6_ v s W (hs.up u) (thingsOk s hsm hfl)
 have HFL : Hid (∀ W, Up w W -> Calls Tryz.prog 170 #[v, .int .i8 f, .int .i64 n] W fun r w' => r = .returned (.tuple #[.int .i32 ((fldO s f n).getD 0), .bool (fldO s f n).isSome]) /\ Up W w') := fun W u => rfield_ v s f n W (hs.up u)
 obtain ⟨vp, vc, vz, hv, h1, h2, h3⟩ := hs
 obtain ⟨a1, k1, rfl, -, -⟩ := lc_at h1
 obtain ⟨a2, k2, rfl, -, -⟩ := lc_at h2
 obtain ⟨a3, k3, rfl, -, hzl⟩ := zl_at h3
 unfold sv at hv
 subst hv
 clear h1 h2 h3 hPost hfl hzl
 have hA : (w.alloc (.cells #[.slice a1 s.ps.length k1, .slice a2 s.cs.length k2, .slice a3 s.zs.length k3, .int .i32 s.turn, .int .i64 s.whose, .int .i8 s.fin, .int .i64 s.winner] 27)).heap[w.heap.size]? = some (.cells #[.slice a1 s.ps.length k1, .slice a2 s.cs.length k2, .slice a3 s.zs.length k3, .int .i32 s.turn, .int .i64 s.whose, .int .i8 s.fin, .int .i64 s.winner] 27 (0, 0)) := heap_alloc_new _ _
 have HU : Up w (w.alloc (.cells #[.slice a1 s.ps.length k1, .slice a2 s.cs.length k2, .slice a3 s.zs.length k3, .int .i32 s.turn, .int .i64 s.whose, .int .i8 s.fin, .int .i64 s.winner] 27)) := (Up.refl _).alloc _
 by_cases hf : ff s = none
 ·simp only [hf, decide_true] at HM
  obtain ⟨hno, hso⟩ := chP_fld s f n
  cases hq : fldO s f n with
  | none =>
   have HF : Hid (changeO s f n by_ = (1, none)) := by unfold Hid changeO; rw [if_pos hf, hno hq]
   rw [hq] at HFL
   dsimp only [Option.getD, Option.isSome] at HFL
   clear hf hq hno hso hsm
   go_enter Tryz.func88, Tryz.ntmps88
   go_wp2_with fail
   refine Calls.mono (HM.out _ HU) ?_
   rintro r W1 ⟨rfl, u1⟩
   have hA := u1.heap hA
   have HU := HU.trans u1
   obtain ⟨q0, q1, q2, q3, q4, q5, q6⟩ := seven_cells hA
   clear u1 HM
   go_wp2_with fail
   refine Calls.mono (HFL.out _ HU) ?_
   rintro r W2 ⟨rfl, u2⟩
   have HZ : Hid (Up w W2) := HU.trans u2
   clear HU hA q0 q1 q2 q3 q4 q5 q6 u2
   go_wp2
   rw [HP.out, HF.out]
   exact ⟨_, rfl, rfl, HZ.out⟩
  | some y =>
   obtain ⟨e, he1, he2⟩ := hso y hq
   have hst := (chP_at he1 hf).2
   unfold statB at hst
   simp only [Bool.and_eq_true, decide_eq_true_eq] at hst
   have HF : Hid (changeO s f n by_ = (0, if chNow y by_ = y then none else some (fldE f n y (chNow y by_)))) := by
    unfold Hid changeO
    rw [if_pos hf, he1]
    show ((0 : Int), one { e with was := y, now := chNow y by_ }) = _
    rw [he2]
   have HCU : Hid (∀ W, Calls Tryz.prog 171 #[.int .i32 y, .int .i64 by_] W fun e w' => e = .returned (.int .i32 (chNow y by_)) /\ w' = W) := fun W => rcut_ y by_ W hst.1 hst.2
   rw [hq] at HFL
   dsimp only [Option.getD, Option.isSome] at HFL
   generalize chNow y by_ = x at *
   clear hf hq hno hso he1 he2 hst hsm
   go_enter Tryz.func88, Tryz.ntmps88
   go_wp2_with fail
   refine Calls.mono (HM.out _ HU) ?_
   rintro r W1 ⟨rfl, u1⟩
   have hA := u1.heap hA
   have HU := HU.trans u1
   obtain ⟨q0, q1, q2, q3, q4, q5, q6⟩ := seven_cells hA
   clear u1 HM
   go_wp2_with fail
   refine Calls.mono (HFL.out _ HU) ?_
   rintro r W2 ⟨rfl, u2⟩
   have HZ : Hid (Up w W2) := HU.trans u2
   clear HU hA q0 q1 q2 q3 q4 q5 q6 u2
   go_wp2_with fail
   refine Calls.mono (HCU.out _) ?_
   rintro r W3 ⟨rfl, hw3⟩
   rw [<- hw3] at HZ
   clear hw3 HCU HFL
   by_cases c1 : x = y
   ·rw [if_pos c1] at HF
    have b1 : (x == y) = true := by rw [beq_iff_eq]; exact c1
    clear c1
    go_wp2
    rw [HP.out, HF.out]
    exact ⟨_, rfl, rfl, HZ.out⟩
   ·rw [if_neg c1] at HF
    have b1 : (x == y) = false := by rw [beq_eq_false_iff_ne]; exact c1
    clear c1
    unfold fldE at HF
    by_cases c2 : f <= 4
    ·rw [if_pos c2] at HF
     go_wp2
     rw [HP.out, HF.out]
     exact ⟨_, rfl, ⟨W3.heap.size, .slice none 0 0, rfl, HZ.out.size, heap_alloc_new W3 _, World.ownsRow_nil _ _ _ _⟩, HZ.out.alloc _⟩
    ·rw [if_neg c2] at HF
     go_wp2
     rw [HP.out, HF.out]
     exact ⟨_, rfl, ⟨W3.heap.size, .slice none 0 0, rfl, HZ.out.size, heap_alloc_new W3 _, World.ownsRow_nil _ _ _ _⟩, HZ.out.alloc _⟩
 ·have HF : Hid (changeO s f n by_ = (10, none)) := by unfold Hid changeO; rw [if_neg hf]
  simp only [hf, decide_false] at HM
  clear hf
  go_enter Tryz.func88, Tryz.ntmps88
  go_wp2_with fail
  refine Calls.mono (HM.out _ HU) ?_
  rintro r W1 ⟨rfl, u1⟩
  have HZ : Hid (Up w W1) := HU.trans u1
  clear u1 HU hA
  go_wp2
  rw [HP.out, HF.out]
  exact ⟨_, rfl, rfl, HZ.out⟩
set_option maxRecDepth 100000 in
set_option maxHeartbeats 4000000 in
theorem rshuffle_ (v vo : Value) (s : Stt) (z : Int) (l : List Int) (w : World) (hs : StL w v s) (hsm : Small s) (hfl : (flat s).length <= 4294967296) (ho : IL w vo l) (hln : l.length <= 4294967296) : Calls Tryz.prog 89 #[v, .int .i64 z, vo] w (DeV w (shufO s z l)) := by
 obtain ⟨Post, hPost⟩ : ∃ P : Ending -> World -> Prop, P = DeV w (shufO s z l) := ⟨_, rfl⟩
 rw [<- hPost]
 have HP : Hid (Post = DeV w (shufO s z l)) := hPost
 have HM : Hid (∀ W, Up w W -> Calls Tryz.prog 44 #[v] W fun r w' => r = .returned (.bool (decide (ff s = none))) /\ Up W w') := fun W u => rmay6_ v s W (hs.up u) (thingsOk s hsm hfl)
 have HIZ : Hid (∀ W : World, Calls Tryz.prog 103 #[.int .i64 z, .int .i64 (s.zs.length : Nat)] W fun r w' => r = .returned (.bool (numB z s.zs.length)) /\ w' = W) := fun W => ris_ z s.zs.length W
 have HIO : Hid (∀ W (m : Nat), Up w W -> m <= 256 -> Calls Tryz.prog 172 #[vo, .int .i64 m] W fun r w' => r = .returned (.bool (ordB m l)) /\ Up W w') := fun W m u h => rorder_ vo l m W (ho.up u) h
 have HLA : Hid (∀ W, Up w W -> Calls Tryz.prog 173 #[vo] W fun r w' => r = .returned (.bool (risesB l)) /\ Up W w') := fun W u => rrises_ vo l W (ho.up u) (by omega)
 have HCI : Hid (∀ W, Up w W -> Calls Tryz.prog 174 #[vo] W (CpPost W fun W' v' => IRow W.heap.size W' v' l)) := fun W u => copyInts_ vo l W (ho.up u) hln
 obtain ⟨oa, ok, hvo, -, -⟩ := lc_at ho
 obtain ⟨vp, vc, vz, hv, h1, h2, h3⟩ := hs
 obtain ⟨a1, k1, rfl, -, -⟩ := lc_at h1
 obtain ⟨a2, k2, rfl, -, -⟩ := lc_at h2
 obtain ⟨a3, k3, rfl, -, hzl⟩ := zl_at h3
 unfold sv at hv
 subst hv
 clear h1 h2 h3 hPost ho hfl
 subst hvo
 have hA : (w.alloc (.cells #[.slice a1 s.ps.length k1, .slice a2 s.cs.length k2, .slice a3 s.zs.length k3, .int .i32 s.turn, .int .i64 s.whose, .int .i8 s.fin, .int .i64 s.winner] 27)).heap[w.heap.size]? = some (.cells #[.slice a1 s.ps.length k1, .slice a2 s.cs.length k2, .slice a3 s.zs.length k3, .int .i32 s.turn, .int .i64 s.whose, .int .i8 s.fin, .int .i64 s.winner] 27 (0, 0)) := heap_alloc_new _ _
 have HU : Up w (w.alloc (.cells #[.slice a1 s.ps.length k1, .slice a2 s.cs.length k2, .slice a3 s.zs.length k3, .int .i32 s.turn, .int .i64 s.whose, .int .i8 s.fin, .int .i64 s.winner] 27)) := (Up.refl _).alloc _
 by_cases hf : ff s = none
 ·simp only [hf, decide_true] at HM
  cases hz : numB z s.zs.length with
  | false =>
   have HF : Hid (shufO s z l = (1, none)) := by unfold Hid shufO; rw [if_pos hf, if_neg (by rw [hz]; decide)]
   rw [hz] at HIZ
   clear hf hz HIO HLA HCI hzl hsm
   go_enter Tryz.func89, Tryz.ntmps89
   go_wp2_with fail
   refine Calls.mono (HM.out _ HU) ?_
   rintro r W1 ⟨rfl, u1⟩
   have hA := u1.heap hA
   have HU := HU.trans u1
   obtain ⟨q0, q1, q2, q3, q4, q5, q6⟩ := seven_cells hA
   clear u1 HM
   go_wp2_with fail
   refine Calls.mono (HIZ.out _) ?_
   rintro r W2 ⟨rfl, hw2⟩
   rw [<- hw2] at hA HU q0 q1 q2 q3 q4 q5 q6
   clear hw2
   have HZ : Hid (Up w W2) := HU
   clear HU hA q0 q1 q2 q3 q4 q5 q6
   go_wp2
   rw [HP.out, HF.out]
   exact ⟨_, rfl, rfl, HZ.out⟩
  | true =>
   obtain ⟨i, rfl, hi⟩ := num_nat hz
   obtain ⟨zb, zo, rfl, hzr⟩ := hzl (by omega)
   obtain ⟨ra, rc, hcz, -⟩ := hzr i hi
   have hzn : zn s (i : Int) = s.zs.getD i [] := by unfold zn; rw [Int.toNat_natCast]
   have hq : (s.zs.getD i []).length <= 256 := zs_get (zone_le hf) i hi
   have HF : Hid (shufO s (i : Int) l = (if ordB (s.zs.getD i []).length l = true then (if risesB l = true then (0, none) else (0, some (shE (i : Int) l))) else (1, none))) := by unfold Hid shufO; rw [if_pos hf, if_pos hz, hzn]
   have HCZ : Hid _ := hcz
   have hi2 : (i : Int) < (s.zs.length : Int) := by omega
   rw [hz] at HIZ
   generalize (s.zs.getD i []).length = m at *
   clear hf hz hzr hzl hcz hzn hsm
   have HIM : Hid (∀ W, Up w W -> Calls Tryz.prog 172 #[.slice oa l.length ok, .int .i64 m] W fun r w' => r = .returned (.bool (ordB m l)) /\ Up W w') := fun W u => HIO.out W m u hq
   clear HIO
   go_enter Tryz.func89, Tryz.ntmps89
   go_wp2_with fail
   refine Calls.mono (HM.out _ HU) ?_
   rintro r W1 ⟨rfl, u1⟩
   have hA := u1.heap hA
   have HU := HU.trans u1
   obtain ⟨q0, q1, q2, q3, q4, q5, q6⟩ := seven_cells hA
   clear u1 HM
   go_wp2_with fail
   refine Calls.mono (HIZ.out _) ?_
   rintro r W2 ⟨rfl, hw2⟩
   rw [<- hw2] at hA HU q0 q1 q2 q3 q4 q5 q6
   clear hw2
   have c0 := HCZ.out W2 HU
   clear HIZ HCZ
   go_wp2_with fail
   refine Calls.mono (HIM.out _ HU) ?_
   rintro r W3 ⟨rfl, u3⟩
   have HU := HU.trans u3
   clear u3 HIM q0 q1 q2 q3 q4 q5 q6 c0 hA
   cases hor : ordB m l with
   | false =>
    rw [hor, if_neg (by decide)] at HF
    have HZ : Hid (Up w W3) := HU
    clear hor HLA HCI HU
    go_wp2
    rw [HP.out, HF.out]
    exact ⟨_, rfl, rfl, HZ.out⟩
   | true =>
    rw [hor, if_pos rfl] at HF
    clear hor
    go_wp2_with fail
    refine Calls.mono (HLA.out _ HU) ?_
    rintro r W4 ⟨rfl, u4⟩
    have HU := HU.trans u4
    clear u4 HLA
    cases hri : risesB l with
    | true =>
     rw [hri, if_pos rfl] at HF
     have HZ : Hid (Up w W4) := HU
     clear hri HCI HU
     go_wp2
     rw [HP.out, HF.out]
     exact ⟨_, rfl, rfl, HZ.out⟩
    | false =>
     rw [hri, if_neg (by decide)] at HF
     clear hri
     go_wp2_with fail
     refine Calls.mono (HCI.out _ HU) ?_
     rintro r W5 ⟨x, rfl, hx, u5⟩
     obtain ⟨xa, xc, hxv⟩ := row_val hx
     have HX : Hid (IRow w.heap.size W5 x l) := own_less hx HU.size
     have HZ : Hid (Up w W5) := HU.trans u5
     clear u5 HCI hx HU
     subst hxv
     go_wp2
     rw [HP.out, HF.out]
     exact ⟨_, rfl, ⟨W5.heap.size, _, rfl, HZ.out.size, heap_alloc_new W5 _, row_up HX.out ((Up.refl _).alloc _)⟩, HZ.out.alloc _⟩
 ·have HF : Hid (shufO s z l = (10, none)) := by unfold Hid shufO; rw [if_neg hf]
  simp only [hf, decide_false] at HM
  clear hf
  go_enter Tryz.func89, Tryz.ntmps89
  go_wp2_with fail
  refine Calls.mono (HM.out _ HU) ?_
  rintro r W1 ⟨rfl, u1⟩
  have HZ : Hid (Up w W1) := HU.trans u1
  clear u1 HU hA
  go_wp2
  rw [HP.out, HF.out]
  exact ⟨_, rfl, rfl, HZ.out⟩
end DE
end Go.Proofs.YtodhjjeagmjhdaaGreatDoor
