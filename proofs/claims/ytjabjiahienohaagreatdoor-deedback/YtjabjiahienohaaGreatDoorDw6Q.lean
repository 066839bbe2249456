/-
  Draw.
-/
import Derived.Test.YtjabjiahienohaaGreatDoorDr6Q
import Derived.Test.YtjabjiahienohaaGreatDoorFaToFc
namespace Go.Proofs.YtjabjiahienohaaGreatDoor
open Go.RowKit
attribute [local go_sem ↓] Go.wp_at_zero Go.wp_at_succ

namespace DE
open Go.Proofs.YtjabjiahienohaaGreatDoor.ST
/- what a deed answers: an error, and one event or none -/
def DL (base : Nat) (W : World) (v : Value) : Option Ev → Prop
  | none => v = .slice none 0 0
  | some e => ∃ g vo, v = .slice (some ⟨g, 0, none⟩) 1 1 ∧ base ≤ g ∧ W.heap[g]? = some (.cells (evc e vo) 30 (0, 0)) ∧ IRow base W vo e.ord
def DeV (w : World) (r : Int × Option Ev) (x : Ending) (w' : World) : Prop := ∃ v, x = .returned (.tuple #[v, .int .i64 r.1]) ∧ DL w.heap.size w' v r.2 ∧ Up w w'
theorem DL.up {base : Nat} {W W' : World} {v : Value} {o : Option Ev} (h : DL base W v o) (u : Up W W') : DL base W' v o := by
  cases o with
  | none => exact h
  | some e =>
    obtain ⟨g, vo, h1, h2, h3, h4⟩ := h
    exact ⟨g, vo, h1, h2, u.heap h3, row_up h4 u⟩
def drawE (s : Stt) (p c : Int) : Ev := ⟨1, 0, c, 0, 0, 4 * p, 0, 4 * p + 1, (zn s (4 * p + 1)).length, 0, 0, []⟩
def drawO (s : Stt) (p : Int) : Int × Option Ev := if ff s = none then (if numB p s.ps.length = true then (if (zn s (4 * p)).length = 0 then (0, none) else (0, some (drawE s p ((zn s (4 * p)).getD 0 0)))) else (1, none)) else (10, none)
set_option maxRecDepth 100000 in
set_option maxHeartbeats 4000000 in
theorem draw_ (v : Value) (s : Stt) (p : Int) (w : World) (hs : StL w v s) (hsm : Small s) : Calls Tryz.prog 81 #[v, .int .i64 p] w (DeV w (drawO s p)) := by
  have HM : Hid (∀ W, Up w W → Calls Tryz.prog 85 #[v] W fun r w' => r = .returned (.bool (decide (ff s = none))) ∧ Up W w') := fun W u => mayBe_ v s W (hs.up u) hsm
  have HI : Hid (∀ W, Up w W → Calls Tryz.prog 119 #[v, .int .i64 p] W fun r w' => r = .returned (.bool (numB p s.ps.length)) ∧ Up W w') := fun W u => isPlayer_ v s p W (hs.up u)
  have hs0 := hs
  obtain ⟨vp, vc, vz, hv, h1, h2, h3⟩ := hs
  obtain ⟨a1, k1, rfl, -, -⟩ := lc_at h1
  obtain ⟨a2, k2, rfl, -, -⟩ := lc_at h2
  obtain ⟨a3, k3, rfl, hk3, hz⟩ := zl_at h3
  unfold sv at hv
  clear h1 h2 h3 hs0
  subst hv
  by_cases hf : ff s = none
  · by_cases hp : numB p s.ps.length = true
    · obtain ⟨q, rfl, hq⟩ := num_nat hp
      have hzl : s.zs.length = 4 * s.ps.length := by
        have h0 := ((ff_none s).1 hf).1.1
        unfold sizesB at h0
        simp only [Bool.and_eq_true, decide_eq_true_eq] at h0
        exact h0.2
      have hnp : s.ps.length ≤ 4 := by
        have h0 := ((ff_none s).1 hf).1.1
        unfold sizesB npB at h0
        simp only [Bool.and_eq_true, decide_eq_true_eq] at h0
        exact h0.1.1.2
      have e1 : zn s (4 * (q : Int)) = s.zs.getD (4 * q) [] := by unfold zn; congr 1
      have e2 : zn s (4 * (q : Int) + 1) = s.zs.getD (4 * q + 1) [] := by unfold zn; congr 1
      obtain ⟨zb, zo, rfl, hr⟩ := hz (by omega)
      obtain ⟨ra, rc, d1, d2⟩ := hr (4 * q) (by omega)
      obtain ⟨ra2, rc2, d3, d4⟩ := hr (4 * q + 1) (by omega)
      obtain ⟨ra', rc', hx, -, hcell⟩ := il_at d2
      simp only [Value.slice.injEq, true_and] at hx
      obtain ⟨rfl, rfl⟩ := hx
      have HO : Hid (drawO s (q : Int) = if (s.zs.getD (4 * q) []).length = 0 then (0, none) else (0, some (drawE s (q : Int) ((s.zs.getD (4 * q) []).getD 0 0)))) := by
        unfold Hid drawO
        rw [if_pos hf, if_pos hp, e1]
      have HE : Hid (drawE s (q : Int) ((s.zs.getD (4 * q) []).getD 0 0) = ⟨1, 0, (s.zs.getD (4 * q) []).getD 0 0, 0, 0, 4 * (q : Int), 0, 4 * (q : Int) + 1, ((s.zs.getD (4 * q + 1) []).length : Int), 0, 0, []⟩) := by
        unfold Hid drawE
        rw [e2]
      rw [hp] at HI
      simp only [hf, decide_true] at HM
      generalize s.zs.getD (4 * q) [] = zd at *
      generalize (s.zs.getD (4 * q + 1) []).length = hl at *
      obtain ⟨dk, hdk⟩ : ∃ dk, dk = 4 * q := ⟨_, rfl⟩
      obtain ⟨hd, hhd⟩ : ∃ hd, hd = dk + 1 := ⟨_, rfl⟩
      have hq4 : (4 * (q : Int)) = (dk : Int) := by omega
      have hq5 : ((dk : Int) + 1) = (hd : Int) := by omega
      rw [← hdk] at d1
      rw [← hdk, ← hhd] at d3
      rw [hq4, hq5] at HE
      have b1 : (dk : Int) < (s.zs.length : Int) := by omega
      have b2 : (hd : Int) < (s.zs.length : Int) := by omega
      have b3 : dk ≤ 1000 := by omega
      have b4 : hd ≤ 1000 := by omega
      have b5 : q ≤ 4 := by omega
      have HQ : Hid _ := And.intro hdk hhd
      have HD1 : Hid _ := d1
      have HD3 : Hid _ := d3
      have HCE : Hid _ := hcell
      generalize s.zs.length = nz at *
      clear hf hp hr e1 e2 d4 hzl hq hsm d2 hnp hdk hhd d1 d3 hcell hz
      go_enter Tryz.func81, Tryz.ntmps81
      go_wp2_with fail
      refine Calls.mono (HM.out _ ((Up.refl _).alloc _)) ?_
      rintro r W1 ⟨rfl, u1⟩
      have HU : Hid (Up w W1) := ((Up.refl _).alloc _).trans u1
      have g0 : W1.heap[w.heap.size]? = some (.cells _ 27 (0, 0)) := u1.heap (heap_alloc_new _ _)
      obtain ⟨q0, q1, q2, q3, q4, q5, q6⟩ := seven_cells g0
      have HG0 : Hid _ := g0
      clear u1 g0 HM
      go_wp2_with fail
      clear q0 q1 q2 q3 q4 q5 q6
      refine Calls.mono (HI.out _ HU.out) ?_
      rintro r W2 ⟨rfl, u2⟩
      have HU2 : Hid (Up w W2) := HU.out.trans u2
      have g0 := u2.heap HG0.out
      obtain ⟨q0, q1, q2, q3, q4, q5, q6⟩ := seven_cells g0
      have c1 := HD1.out W2 HU2.out
      have c3 := HD3.out W2 HU2.out
      clear u2 g0 HI HG0 HU q0 q1 q3 q4 q5 q6
      by_cases h0 : zd.length = 0
      · have HF : Hid (drawO s (q : Int) = (0, none)) := by unfold Hid; rw [HO.out, if_pos h0]
        rw [h0] at c1
        clear HO HE HCE HD1 HD3
        go_wp2
        go_ret2
        rw [HF.out]
        exact ⟨_, rfl, rfl, HU2.out⟩
      · have HF : Hid (drawO s (q : Int) = (0, some ⟨1, 0, zd.getD 0 0, 0, 0, (dk : Int), 0, (hd : Int), (hl : Int), 0, 0, []⟩)) := by unfold Hid; rw [HO.out, if_neg h0, HE.out]
        obtain ⟨rb, ro, rfl, hce⟩ := HCE.out h0
        have c2 : W2.cell? ⟨rb, ro, none⟩ = some (.int .i64 (zd.getD 0 0)) := hce W2 HU2.out 0 (by omega)
        have h1 : ((zd.length : Int) == 0) = false := by rw [beq_eq_false_iff_ne]; omega
        have h2 : (0 : Int) < (zd.length : Int) := by omega
        clear HO HE HCE HD1 HD3 hce
        generalize zd.getD 0 0 = card at *
        generalize zd.length = zl at *
        go_wp2_with fail
        refine TailR.wp_region_seq 16 (by kernel_rfl) (by kernel_rfl) ?_
        simp only [List.take_succ_cons, List.take_zero, List.drop_succ_cons, List.drop_zero]
        repeat (go_big_quiet_step (fail))
        refine wpQuiet_nil ?_
        intro _ hw'
        obtain ⟨nq, hw''⟩ := hw'
        subst hw''
        go_wp2
        go_ret2
        rw [HF.out]
        refine ⟨_, rfl, ⟨W2.heap.size, .slice none 0 0, rfl, HU2.out.size, heap_alloc_new (W2.drewN nq) _, World.ownsRow_nil _ _ _ _⟩, (HU2.out.drewN nq).alloc _⟩
    · have HF : Hid (drawO s p = (1, none)) := by unfold Hid drawO; rw [if_pos hf, if_neg hp]
      have hp' : numB p s.ps.length = false := by simpa using hp
      rw [hp'] at HI
      simp only [hf, decide_true] at HM
      clear hz hf hp hp'
      go_enter Tryz.func81, Tryz.ntmps81
      go_wp2_with fail
      refine Calls.mono (HM.out _ ((Up.refl _).alloc _)) ?_
      rintro r W1 ⟨rfl, u1⟩
      have HU : Hid (Up w W1) := ((Up.refl _).alloc _).trans u1
      have g0 : W1.heap[w.heap.size]? = some (.cells _ 27 (0, 0)) := u1.heap (heap_alloc_new _ _)
      obtain ⟨q0, q1, q2, q3, q4, q5, q6⟩ := seven_cells g0
      clear u1 g0
      go_wp2_with fail
      clear q0 q1 q2 q3 q4 q5 q6
      refine Calls.mono (HI.out _ HU.out) ?_
      rintro r W2 ⟨rfl, u2⟩
      have HU2 : Hid (Up w W2) := HU.out.trans u2
      clear u2
      go_wp2
      go_ret2
      rw [HF.out]
      exact ⟨_, rfl, rfl, HU2.out⟩
  · have HF : Hid (drawO s p = (10, none)) := by unfold Hid drawO; rw [if_neg hf]
    simp only [hf, decide_false] at HM
    clear HI hz hf
    go_enter Tryz.func81, Tryz.ntmps81
    go_wp2_with fail
    refine Calls.mono (HM.out _ ((Up.refl _).alloc _)) ?_
    rintro r W1 ⟨rfl, u1⟩
    have HU : Hid (Up w W1) := ((Up.refl _).alloc _).trans u1
    clear u1
    go_wp2
    go_ret2
    rw [HF.out]
    exact ⟨_, rfl, rfl, HU.out⟩
end DE
end Go.Proofs.YtjabjiahienohaaGreatDoor
