/-
  Out, Move.
-/
import Derived.Test.YtabflfcdndioiabGreatDoorOo6Q
import Derived.Test.YtabflfcdndioiabGreatDoorWhToCt
import Derived.Test.YtabflfcdndioiabGreatDoorPx6ToAq6
namespace Go.Proofs.YtabflfcdndioiabGreatDoor
open Go.RowKit
attribute [local go_sem ↓] Go.wp_at_zero Go.wp_at_succ

namespace DE
open Go.Proofs.YtabflfcdndioiabGreatDoor.ST
def outE (p : Int) : Ev := ⟨5, 0, 0, p, 0, 0, 0, 0, 0, 0, 0, []⟩
def outO (s : Stt) (p : Int) : Int × Option Ev := if ff s = none then (if numB p s.ps.length = true then (if (s.ps.getD p.toNat dp).out = true then (0, none) else (0, some (outE p))) else (1, none)) else (10, none)
set_option maxRecDepth 100000 in
set_option maxHeartbeats 4000000 in
theorem out_ (v : Value) (s : Stt) (p : Int) (w : World) (hs : StL w v s) (hsm : Small s) : Calls Tryz.prog 27 #[v, .int .i64 p] w (DeV w (outO s p)) := by
  obtain ⟨Post, hPost⟩ : ∃ P : Ending → World → Prop, P = DeV w (outO s p) := ⟨_, rfl⟩
  rw [← hPost]
  have HP : Hid (Post = DeV w (outO s p)) := hPost
  have HM : Hid (∀ W, Up w W → Calls Tryz.prog 35 #[v] W fun r w' => r = .returned (.bool (decide (ff s = none))) ∧ Up W w') := fun W u => mayBe_ v s W (hs.up u) hsm
  have HI : Hid (∀ W, Up w W → Calls Tryz.prog 53 #[v, .int .i64 p] W fun r w' => r = .returned (.bool (numB p s.ps.length)) ∧ Up W w') := fun W u => isPlayer_ v s p W (hs.up u)
  obtain ⟨vp, vc, vz, hv, h1, h2, h3⟩ := hs
  obtain ⟨a1, k1, rfl, -, hpl⟩ := pl_at h1
  obtain ⟨a2, k2, rfl, -, -⟩ := lc_at h2
  obtain ⟨a3, k3, rfl, -, -⟩ := zl_at h3
  unfold sv at hv
  clear h1 h2 h3 hPost
  subst hv
  by_cases hf : ff s = none
  · simp only [hf, decide_true] at HM
    cases hp : numB p s.ps.length with
    | true =>
      obtain ⟨q, rfl, hq⟩ := num_nat hp
      obtain ⟨cb, co, rfl, hcc⟩ := hpl (by omega)
      have HC : Hid (∀ W, Up w W → W.cell? ⟨cb, co + q * 3 + 2, none⟩ = some (.bool (s.ps.getD q dp).out)) := fun W u => (hcc W u q hq).2.2
      have hq2 : (q : Int) < (s.ps.length : Int) := by omega
      have HF : Hid (outO s (q : Int) = if (s.ps.getD q dp).out = true then (0, none) else (0, some (outE (q : Int)))) := by unfold Hid outO; rw [if_pos hf, if_pos hp, Int.toNat_natCast]
      rw [hp] at HI
      clear hf hp hcc hpl
      go_enter Tryz.func27, Tryz.ntmps27
      go_wp2_with fail
      refine Calls.mono (HM.out _ ((Up.refl _).alloc _)) ?_
      rintro r W1 ⟨rfl, u1⟩
      have HU : Hid (Up w W1) := ((Up.refl _).alloc _).trans u1
      have g0 : W1.heap[w.heap.size]? = some (.cells _ 27 (0, 0)) := u1.heap (heap_alloc_new _ _)
      obtain ⟨q0, q1, q2, q3, q4, q5, q6⟩ := seven_cells g0
      have HG0 : Hid _ := g0
      clear u1 g0 HM
      go_wp2_with fail
      clear q0 q1 q2 q3 q4 q5 q6
      refine Calls.mono (HI.out _ HU.out) ?_
      rintro r W2 ⟨rfl, u2⟩
      have HU2 : Hid (Up w W2) := HU.out.trans u2
      have g0 := u2.heap HG0.out
      obtain ⟨q0, q1, q2, q3, q4, q5, q6⟩ := seven_cells g0
      have c1 := HC.out W2 HU2.out
      clear u2 g0 HI HG0 HU q1 q2 q3 q4 q5 q6 HC
      cases ho : (s.ps.getD q dp).out with
      | true =>
        rw [ho] at c1
        rw [ho, if_pos rfl] at HF
        clear ho
        go_wp2
        rw [HP.out, HF.out]
        exact ⟨_, rfl, rfl, HU2.out⟩
      | false =>
        rw [ho] at c1
        rw [ho, if_neg (by decide)] at HF
        clear ho
        go_wp2
        rw [HP.out, HF.out]
        exact ⟨_, rfl, ⟨W2.heap.size, .slice none 0 0, rfl, HU2.out.size, heap_alloc_new W2 _, World.ownsRow_nil _ _ _ _⟩, HU2.out.alloc _⟩
    | false =>
      have HF : Hid (outO s p = (1, none)) := by unfold Hid outO; rw [if_pos hf, if_neg (by rw [hp]; decide)]
      rw [hp] at HI
      clear hf hp hpl
      go_enter Tryz.func27, Tryz.ntmps27
      go_wp2_with fail
      refine Calls.mono (HM.out _ ((Up.refl _).alloc _)) ?_
      rintro r W1 ⟨rfl, u1⟩
      have HU : Hid (Up w W1) := ((Up.refl _).alloc _).trans u1
      have g0 : W1.heap[w.heap.size]? = some (.cells _ 27 (0, 0)) := u1.heap (heap_alloc_new _ _)
      obtain ⟨q0, q1, q2, q3, q4, q5, q6⟩ := seven_cells g0
      clear u1 g0
      go_wp2_with fail
      clear q0 q1 q2 q3 q4 q5 q6
      refine Calls.mono (HI.out _ HU.out) ?_
      rintro r W2 ⟨rfl, u2⟩
      have HU2 : Hid (Up w W2) := HU.out.trans u2
      clear u2
      go_wp2
      rw [HP.out, HF.out]
      exact ⟨_, rfl, rfl, HU2.out⟩
  · have HF : Hid (outO s p = (10, none)) := by unfold Hid outO; rw [if_neg hf]
    simp only [hf, decide_false] at HM
    clear HI hf hpl
    go_enter Tryz.func27, Tryz.ntmps27
    go_wp2_with fail
    refine Calls.mono (HM.out _ ((Up.refl _).alloc _)) ?_
    rintro r W1 ⟨rfl, u1⟩
    have HU : Hid (Up w W1) := ((Up.refl _).alloc _).trans u1
    clear u1
    go_wp2
    rw [HP.out, HF.out]
    exact ⟨_, rfl, rfl, HU.out⟩
/- Move -/
def mvE (s : Stt) (c z : Int) (fz fa : Nat) (first : Bool) : Ev := ⟨1, 0, c, 0, 0, fz, fa, z, if first = true then 0 else others s z fz, 0, 0, []⟩
def moveO (s : Stt) (c z : Int) (first : Bool) : Int × Option Ev := if ff s = none then (if (numB c s.cs.length && numB z s.zs.length) = true then (match wh c s.zs 0 with | some p => (0, one (mvE s c z p.1 p.2 first)) | none => (0, none)) else (1, none)) else (10, none)
theorem wh_all {s : Stt} {c : Int} (hok : ff s = none) (hc : numB c s.cs.length = true) : ∃ z i, wh c s.zs 0 = some (z, i) := by
  obtain ⟨-, h2, h3⟩ := (ff_none s).1 hok
  exact wh_mem c s.zs (ent_all h2 h3 c hc)
theorem evc_eight {W : World} {g : Nat} {e : Ev} {vo : Value} {a : Int} (h : W.heap[g]? = some (.cells (evc e vo) 33 (0, 0))) : (W.setCell ⟨g, 8, none⟩ (.int .i64 a)).heap[g]? = some (.cells (evc { e with toAt := a } vo) 33 (0, 0)) := by
  rw [set_cells h]
  rfl
set_option maxRecDepth 100000 in
set_option maxHeartbeats 4000000 in
theorem move_ (v : Value) (s : Stt) (c z : Int) (first : Bool) (w : World) (hs : StL w v s) (hsm : Small s) : Calls Tryz.prog 24 #[v, .int .i64 c, .int .i64 z, .bool first] w (DeV w (moveO s c z first)) := by
  obtain ⟨Post, hPost⟩ : ∃ P : Ending → World → Prop, P = DeV w (moveO s c z first) := ⟨_, rfl⟩
  rw [← hPost]
  have HP : Hid (Post = DeV w (moveO s c z first)) := hPost
  have HM : Hid (∀ W, Up w W → Calls Tryz.prog 35 #[v] W fun r w' => r = .returned (.bool (decide (ff s = none))) ∧ Up W w') := fun W u => mayBe_ v s W (hs.up u) hsm
  have HIC : Hid (∀ W, Up w W → Calls Tryz.prog 47 #[v, .int .i64 c] W fun r w' => r = .returned (.bool (numB c s.cs.length)) ∧ Up W w') := fun W u => isCard_ v s c W (hs.up u)
  have HIZ : Hid (∀ W, Up w W → Calls Tryz.prog 48 #[v, .int .i64 z] W fun r w' => r = .returned (.bool (numB z s.zs.length)) ∧ Up W w') := fun W u => isZone_ v s z W (hs.up u)
  have HWH : Hid (∀ W, Up w W → Calls Tryz.prog 49 #[v, .int .i64 c] W (WPost W (whereOf s c))) := fun W u => where_ v s c W (hs.up u) hsm
  have HOT : Hid (∀ W (f : Int), Up w W → numB z s.zs.length = true → (∀ r ∈ s.zs, r.length ≤ 140737488355328) → Calls Tryz.prog 50 #[v, .int .i64 z, .int .i64 f] W fun r w' => r = .returned (.int .i64 (others s z f)) ∧ Up W w') := fun W f u h1 h2 => othersIn_ v s z f W (hs.up u) h1 h2
  obtain ⟨vp, vc, vz, hv, h1, h2, h3⟩ := hs
  obtain ⟨a1, k1, rfl, -, -⟩ := lc_at h1
  obtain ⟨a2, k2, rfl, -, -⟩ := lc_at h2
  obtain ⟨a3, k3, rfl, -, -⟩ := zl_at h3
  unfold sv at hv
  clear h1 h2 h3 hPost
  obtain ⟨A, hA0⟩ : ∃ A : Array Value, A = #[.slice a1 s.ps.length k1, .slice a2 s.cs.length k2, .slice a3 s.zs.length k3, .int .i32 s.turn, .int .i64 s.whose, .int .i8 s.fin, .int .i64 s.winner] := ⟨_, rfl⟩
  have hA1 : A.size = 7 := by rw [hA0]; rfl
  rw [← hA0] at hv
  subst hv
  clear hA0
  have hA : (w.alloc (.cells A 27)).heap[w.heap.size]? = some (.cells A 27 (0, 0)) := heap_alloc_new _ _
  have HU : Up w (w.alloc (.cells A 27)) := (Up.refl _).alloc _
  by_cases hf : ff s = none
  · simp only [hf, decide_true] at HM
    cases hc : numB c s.cs.length with
    | false =>
      have HF : Hid (moveO s c z first = (1, none)) := by unfold Hid moveO; rw [if_pos hf, hc]; rfl
      rw [hc] at HIC
      clear hf hc HIZ HWH HOT
      go_enter Tryz.func24, Tryz.ntmps24
      go_wp2_with (refine wpList_load_row (by rfl) 27 (.tmp 4) (by rfl) w.heap.size (by rfl) 27 A (0, 0) _ hA Tryz.underlying27 (by rfl) (by rw [hA1]; exact infoSt) ?_)
      refine Calls.mono (HM.out _ HU) ?_
      rintro r W1 ⟨rfl, u1⟩
      have hA := u1.heap hA
      have HU := HU.trans u1
      clear u1 HM
      go_wp2_with (refine wpList_load_row (by rfl) 27 (.tmp 4) (by rfl) w.heap.size (by rfl) 27 A (0, 0) _ hA Tryz.underlying27 (by rfl) (by rw [hA1]; exact infoSt) ?_)
      refine Calls.mono (HIC.out _ HU) ?_
      rintro r W2 ⟨rfl, u2⟩
      have HZ : Hid (Up w W2) := HU.trans u2
      clear u2 HU hA
      go_wp2
      rw [HP.out, HF.out]
      exact ⟨_, rfl, rfl, HZ.out⟩
    | true =>
      cases hz : numB z s.zs.length with
      | false =>
        have HF : Hid (moveO s c z first = (1, none)) := by unfold Hid moveO; rw [if_pos hf, hc, hz]; rfl
        rw [hc] at HIC
        rw [hz] at HIZ
        clear hf hc hz HWH HOT
        go_enter Tryz.func24, Tryz.ntmps24
        go_wp2_with (refine wpList_load_row (by rfl) 27 (.tmp 4) (by rfl) w.heap.size (by rfl) 27 A (0, 0) _ hA Tryz.underlying27 (by rfl) (by rw [hA1]; exact infoSt) ?_)
        refine Calls.mono (HM.out _ HU) ?_
        rintro r W1 ⟨rfl, u1⟩
        have hA := u1.heap hA
        have HU := HU.trans u1
        clear u1 HM
        go_wp2_with (refine wpList_load_row (by rfl) 27 (.tmp 4) (by rfl) w.heap.size (by rfl) 27 A (0, 0) _ hA Tryz.underlying27 (by rfl) (by rw [hA1]; exact infoSt) ?_)
        refine Calls.mono (HIC.out _ HU) ?_
        rintro r W2 ⟨rfl, u2⟩
        have hA := u2.heap hA
        have HU := HU.trans u2
        clear u2 HIC
        go_wp2_with (refine wpList_load_rowG (by rfl) 27 (.tmp 4) (by rfl) w.heap.size (by rfl) 27 A (0, 0) _ hA Tryz.underlying27 (by rfl) (by rw [hA1]; exact infoSt) ?_)
        refine Calls.mono (HIZ.out _ HU) ?_
        rintro r W3 ⟨rfl, u3⟩
        have HZ : Hid (Up w W3) := HU.trans u3
        clear u3 HU hA
        go_wp2
        rw [HP.out, HF.out]
        exact ⟨_, rfl, rfl, HZ.out⟩
      | true =>
        obtain ⟨fz, fa, hw⟩ := wh_all hf hc
        have HF : Hid (moveO s c z first = (0, one (mvE s c z fz fa first))) := by unfold Hid moveO; rw [if_pos hf, hc, hz, if_pos (show (true && true) = true from rfl), hw]
        have HWW : Hid (∀ W, Up w W → Calls Tryz.prog 49 #[.agg A, .int .i64 c] W fun e w' => e = .returned (.tuple #[.int .i64 (fz : Nat), .int .i64 (fa : Nat), .bool true]) ∧ Up W w') := fun W u => by
          have h9 := HWH.out W u
          have hwo : whereOf s c = some (fz, fa) := by unfold whereOf; rw [if_pos hf, hw]
          rw [hwo] at h9
          exact h9
        have HO2 : Hid (∀ W, Up w W → Calls Tryz.prog 50 #[.agg A, .int .i64 z, .int .i64 (fz : Nat)] W fun r w' => r = .returned (.int .i64 (others s z (fz : Nat))) ∧ Up W w') := fun W u => HOT.out W _ u hz (fun r hr => Nat.le_trans (zone_le hf r hr) (by omega))
        have HON : Hid (∀ W, Calls Tryz.prog 45 #[.agg (evc (mvE s c z fz fa first) (.slice none 0 0))] W fun x w' => ∃ v, x = .returned v ∧ DL W.heap.size w' v (one (mvE s c z fz fa first)) ∧ Up W w') := fun W => oneOrNone_ (mvE s c z fz fa first) rfl W
        rw [hc] at HIC
        rw [hz] at HIZ
        clear hf hc hz HWH HOT hw
        unfold mvE at HON HF
        cases first with
        | true =>
          rw [if_pos rfl] at HON HF
          go_enter Tryz.func24, Tryz.ntmps24
          go_wp2_with (refine wpList_load_row (by rfl) 27 (.tmp 4) (by rfl) w.heap.size (by rfl) 27 A (0, 0) _ hA Tryz.underlying27 (by rfl) (by rw [hA1]; exact infoSt) ?_)
          refine Calls.mono (HM.out _ HU) ?_
          rintro r W1 ⟨rfl, u1⟩
          have hA := u1.heap hA
          have HU := HU.trans u1
          clear u1 HM
          go_wp2_with (refine wpList_load_row (by rfl) 27 (.tmp 4) (by rfl) w.heap.size (by rfl) 27 A (0, 0) _ hA Tryz.underlying27 (by rfl) (by rw [hA1]; exact infoSt) ?_)
          refine Calls.mono (HIC.out _ HU) ?_
          rintro r W2 ⟨rfl, u2⟩
          have hA := u2.heap hA
          have HU := HU.trans u2
          clear u2 HIC
          go_wp2_with (refine wpList_load_rowG (by rfl) 27 (.tmp 4) (by rfl) w.heap.size (by rfl) 27 A (0, 0) _ hA Tryz.underlying27 (by rfl) (by rw [hA1]; exact infoSt) ?_)
          refine Calls.mono (HIZ.out _ HU) ?_
          rintro r W3 ⟨rfl, u3⟩
          have hA := u3.heap hA
          have HU := HU.trans u3
          clear u3 HIZ
          go_wp2_with (refine wpList_load_row (by rfl) 27 (.tmp 4) (by rfl) w.heap.size (by rfl) 27 A (0, 0) _ hA Tryz.underlying27 (by rfl) (by rw [hA1]; exact infoSt) ?_)
          refine Calls.mono (HWW.out _ HU) ?_
          rintro r W4 ⟨rfl, u4⟩
          have hA := u4.heap hA
          have HU := HU.trans u4
          clear u4 HWW
          obtain ⟨W5, hW5⟩ : ∃ W5, (W4.alloc (.cells zEv 33)).setRow W4.heap.size (evc ⟨1, 0, c, 0, 0, fz, fa, z, 0, 0, 0, []⟩ (.slice none 0 0)) = W5 := ⟨_, rfl⟩
          obtain ⟨f1, f2, -⟩ := filled W4 zEv (evc ⟨1, 0, c, 0, 0, fz, fa, z, 0, 0, 0, []⟩ (.slice none 0 0)) 33
          rw [hW5] at f1 f2
          have hA := f2.heap hA
          have lz := HU.size
          have HU := HU.trans f2
          clear f2
          go_wp2_with (first | (refine wpList_store_row rfl 33 (.tmp 13) (.tmp 38) rfl W4.heap.size (evc ⟨1, 0, c, 0, 0, fz, fa, z, 0, 0, 0, []⟩ (.slice none 0 0)) rfl rfl 33 zEv (heap_alloc_new W4 _) infoEv rfl (evc_one _ _ _ _) ?_; refine wpList_world hW5 ?_) | (refine wpList_load_row (by rfl) 33 (.tmp 13) (by rfl) W4.heap.size (by rfl) 33 (evc ⟨1, 0, c, 0, 0, fz, fa, z, 0, 0, 0, []⟩ (.slice none 0 0)) (0, 0) _ f1 Tryz.underlying33 (by rfl) infoEv ?_))
          refine Calls.mono (HON.out _) ?_
          rintro r W7 ⟨v7, rfl, dl, u7⟩
          have HZ : Hid (Up w W7) := HU.trans u7
          have HDL : Hid _ := dl_less dl HU.size
          clear u7 dl HU
          go_wp2
          rw [HP.out, HF.out]
          exact ⟨_, rfl, HDL.out, HZ.out⟩
        | false =>
          rw [if_neg (by decide)] at HON HF
          go_enter Tryz.func24, Tryz.ntmps24
          go_wp2_with (refine wpList_load_row (by rfl) 27 (.tmp 4) (by rfl) w.heap.size (by rfl) 27 A (0, 0) _ hA Tryz.underlying27 (by rfl) (by rw [hA1]; exact infoSt) ?_)
          refine Calls.mono (HM.out _ HU) ?_
          rintro r W1 ⟨rfl, u1⟩
          have hA := u1.heap hA
          have HU := HU.trans u1
          clear u1 HM
          go_wp2_with (refine wpList_load_row (by rfl) 27 (.tmp 4) (by rfl) w.heap.size (by rfl) 27 A (0, 0) _ hA Tryz.underlying27 (by rfl) (by rw [hA1]; exact infoSt) ?_)
          refine Calls.mono (HIC.out _ HU) ?_
          rintro r W2 ⟨rfl, u2⟩
          have hA := u2.heap hA
          have HU := HU.trans u2
          clear u2 HIC
          go_wp2_with (refine wpList_load_rowG (by rfl) 27 (.tmp 4) (by rfl) w.heap.size (by rfl) 27 A (0, 0) _ hA Tryz.underlying27 (by rfl) (by rw [hA1]; exact infoSt) ?_)
          refine Calls.mono (HIZ.out _ HU) ?_
          rintro r W3 ⟨rfl, u3⟩
          have hA := u3.heap hA
          have HU := HU.trans u3
          clear u3 HIZ
          go_wp2_with (refine wpList_load_row (by rfl) 27 (.tmp 4) (by rfl) w.heap.size (by rfl) 27 A (0, 0) _ hA Tryz.underlying27 (by rfl) (by rw [hA1]; exact infoSt) ?_)
          refine Calls.mono (HWW.out _ HU) ?_
          rintro r W4 ⟨rfl, u4⟩
          have hA := u4.heap hA
          have HU := HU.trans u4
          clear u4 HWW
          obtain ⟨W5, hW5⟩ : ∃ W5, (W4.alloc (.cells zEv 33)).setRow W4.heap.size (evc ⟨1, 0, c, 0, 0, fz, fa, z, 0, 0, 0, []⟩ (.slice none 0 0)) = W5 := ⟨_, rfl⟩
          obtain ⟨f1, f2, -⟩ := filled W4 zEv (evc ⟨1, 0, c, 0, 0, fz, fa, z, 0, 0, 0, []⟩ (.slice none 0 0)) 33
          rw [hW5] at f1 f2
          have hA := f2.heap hA
          have lz := HU.size
          have HU := HU.trans f2
          clear f2
          go_wp2_with (first | (refine wpList_store_row rfl 33 (.tmp 13) (.tmp 38) rfl W4.heap.size (evc ⟨1, 0, c, 0, 0, fz, fa, z, 0, 0, 0, []⟩ (.slice none 0 0)) rfl rfl 33 zEv (heap_alloc_new W4 _) infoEv rfl (evc_one _ _ _ _) ?_; refine wpList_world hW5 ?_) | (refine wpList_load_row (by rfl) 27 (.tmp 4) (by rfl) w.heap.size (by rfl) 27 A (0, 0) _ hA Tryz.underlying27 (by rfl) (by rw [hA1]; exact infoSt) ?_))
          refine Calls.mono (HO2.out _ HU) ?_
          rintro r W6 ⟨rfl, u6⟩
          have f1 := u6.heap f1
          have HU := HU.trans u6
          clear u6 HO2
          have c8 : W6.cell? ⟨W4.heap.size, 8, none⟩ = some (.int .i64 0) := evc_cells0 f1 8
          have cf := seven_f f1 8
          have f8 := evc_eight (a := others s z (fz : Nat)) f1
          have HU := Up.set HU ⟨W4.heap.size, 8, none⟩ (.int .i64 (others s z (fz : Nat))) lz
          go_wp2_with (refine wpList_load_row (by rfl) 33 (.tmp 13) (by rfl) W4.heap.size (by rfl) 33 (evc ⟨1, 0, c, 0, 0, fz, fa, z, others s z (fz : Nat), 0, 0, []⟩ (.slice none 0 0)) (0, 0) _ f8 Tryz.underlying33 (by rfl) infoEv ?_)
          refine Calls.mono (HON.out _) ?_
          rintro r W7 ⟨v7, rfl, dl, u7⟩
          have HZ : Hid (Up w W7) := HU.trans u7
          have HDL : Hid _ := dl_less dl HU.size
          clear u7 dl HU
          go_wp2
          rw [HP.out, HF.out]
          exact ⟨_, rfl, HDL.out, HZ.out⟩
  · have HF : Hid (moveO s c z first = (10, none)) := by unfold Hid moveO; rw [if_neg hf]
    simp only [hf, decide_false] at HM
    clear HIC HIZ HWH HOT hf
    go_enter Tryz.func24, Tryz.ntmps24
    go_wp2_with (refine wpList_load_row (by rfl) 27 (.tmp 4) (by rfl) w.heap.size (by rfl) 27 A (0, 0) _ hA Tryz.underlying27 (by rfl) (by rw [hA1]; exact infoSt) ?_)
    refine Calls.mono (HM.out _ HU) ?_
    rintro r W1 ⟨rfl, u1⟩
    have HZ : Hid (Up w W1) := HU.trans u1
    clear u1 HU hA
    go_wp2
    rw [HP.out, HF.out]
    exact ⟨_, rfl, rfl, HZ.out⟩
end DE
end Go.Proofs.YtabflfcdndioiabGreatDoor
/-
  Shuffle.
-/
namespace Go.Proofs.YtabflfcdndioiabGreatDoor
open Go.RowKit
attribute [local go_sem ↓] Go.wp_at_zero Go.wp_at_succ

namespace DE
open Go.Proofs.YtabflfcdndioiabGreatDoor.ST
def shE (z : Int) (l : List Int) : Ev := ⟨4, 0, 0, 0, 0, z, 0, 0, 0, 0, 0, l⟩
def shufO (s : Stt) (z : Int) (l : List Int) : Int × Option Ev := if ff s = none then (if numB z s.zs.length = true then (if ordB (zn s z).length l = true then (if risesB l = true then (0, none) else (0, some (shE z l))) else (1, none)) else (1, none)) else (10, none)
set_option maxRecDepth 100000 in
set_option maxHeartbeats 4000000 in
theorem shuffle_ (v vo : Value) (s : Stt) (z : Int) (l : List Int) (w : World) (hs : StL w v s) (hsm : Small s) (ho : IL w vo l) (hln : l.length ≤ 4294967296) : Calls Tryz.prog 25 #[v, .int .i64 z, vo] w (DeV w (shufO s z l)) := by
  obtain ⟨iT, hiT, i0, i1, i2⟩ := info_parts infoI
  obtain ⟨Post, hPost⟩ : ∃ P : Ending → World → Prop, P = DeV w (shufO s z l) := ⟨_, rfl⟩
  rw [← hPost]
  have HP : Hid (Post = DeV w (shufO s z l)) := hPost
  have HM : Hid (∀ W, Up w W → Calls Tryz.prog 35 #[v] W fun r w' => r = .returned (.bool (decide (ff s = none))) ∧ Up W w') := fun W u => mayBe_ v s W (hs.up u) hsm
  have HIZ : Hid (∀ W, Up w W → Calls Tryz.prog 48 #[v, .int .i64 z] W fun r w' => r = .returned (.bool (numB z s.zs.length)) ∧ Up W w') := fun W u => isZone_ v s z W (hs.up u)
  have HIO : Hid (∀ W (m : Nat), Up w W → m ≤ 256 → Calls Tryz.prog 51 #[vo, .int .i64 m] W fun r w' => r = .returned (.bool (ordB m l)) ∧ Up W w') := fun W m u h => isOrder_ vo l m W (ho.up u) h
  have HLA : Hid (∀ W, Up w W → Calls Tryz.prog 52 #[vo] W fun r w' => r = .returned (.bool (risesB l)) ∧ Up W w') := fun W u => leavesAll_ vo l W (ho.up u) (by omega)
  have HV : Hid (LC w vo 1 l.length (ivs l)) := ho
  have HO : Hid (∀ (a : Option Addr) (k : Nat) (W w1 : World) (cur : List Value), Up w W → vo = .slice a l.length k → w1.heap[W.heap.size]? = some (.cells cur.toArray 3 (0, 0)) → cur.length = l.length * 1 → Up W w1 → ∃ w2, (Builtin.copy_ #[28, 28] 3 #[.slice (some ⟨W.heap.size, 0, none⟩) l.length l.length, .slice a l.length k]).run Tryz.prog w1 = .ok (goInt (Nat.min l.length l.length : Nat)) w2 ∧ IRow W.heap.size w2 (.slice (some ⟨W.heap.size, 0, none⟩) l.length l.length) l ∧ Up W w2) := fun a k W w1 cur uw hav hg hcl u => by
    have h := HV.out.up (uw.trans u)
    have hlen := h.1
    obtain ⟨w2, hr, h2, h3⟩ := run_copyS (P := Tryz.prog) w1 28 28 3 3 1 (by decide) (some ⟨W.heap.size, 0, none⟩) a l.length l.length l.length k W.heap.size 0 cur 3 Tryz.underlying28 sizeI hg (ivs l) (by rw [hlen]; simp) (fun hp => by
      refine ⟨rfl, ?_⟩
      obtain ⟨-, a', k', e, -, hc⟩ := h
      rw [hav] at e
      cases e
      obtain ⟨b, off, rfl, hcell⟩ := hc (by intro h0; rw [hlen, h0] at hp; simp at hp)
      refine ⟨_, rfl, fun j x hj => ?_⟩
      rw [Addr.add_mid]
      have : j < (ivs l).length := (List.getElem?_eq_some_iff.1 hj).1
      rw [hcell j (by omega)]; exact hj) (by rw [hlen, hcl]; omega) (ivs_one l)
    rw [splice_all cur (ivs l) (by rw [hcl, hlen])] at h2
    exact ⟨w2, hr, own_made h2 hlen (Nat.le_refl _) (by unfold maxLen; omega), Up.trans' u h3 (Nat.le_refl _)⟩
  obtain ⟨oa, ok, hvo, -, -⟩ := lc_at ho
  obtain ⟨vp, vc, vz, hv, h1, h2, h3⟩ := hs
  obtain ⟨a1, k1, rfl, -, -⟩ := lc_at h1
  obtain ⟨a2, k2, rfl, -, -⟩ := lc_at h2
  obtain ⟨a3, k3, rfl, -, hzl⟩ := zl_at h3
  unfold sv at hv
  clear h1 h2 h3 hPost ho HV
  subst hv
  have hA : (w.alloc (.cells #[.slice a1 s.ps.length k1, .slice a2 s.cs.length k2, .slice a3 s.zs.length k3, .int .i32 s.turn, .int .i64 s.whose, .int .i8 s.fin, .int .i64 s.winner] 27)).heap[w.heap.size]? = some (.cells #[.slice a1 s.ps.length k1, .slice a2 s.cs.length k2, .slice a3 s.zs.length k3, .int .i32 s.turn, .int .i64 s.whose, .int .i8 s.fin, .int .i64 s.winner] 27 (0, 0)) := heap_alloc_new _ _
  have HU : Up w (w.alloc (.cells #[.slice a1 s.ps.length k1, .slice a2 s.cs.length k2, .slice a3 s.zs.length k3, .int .i32 s.turn, .int .i64 s.whose, .int .i8 s.fin, .int .i64 s.winner] 27)) := (Up.refl _).alloc _
  by_cases hf : ff s = none
  · simp only [hf, decide_true] at HM
    cases hz : numB z s.zs.length with
    | false =>
      have HF : Hid (shufO s z l = (1, none)) := by unfold Hid shufO; rw [if_pos hf, if_neg (by rw [hz]; decide)]
      rw [hz] at HIZ
      subst hvo
      clear hf hz HIO HLA HO hzl
      go_enter Tryz.func25, Tryz.ntmps25
      go_wp2_with fail
      refine Calls.mono (HM.out _ HU) ?_
      rintro r W1 ⟨rfl, u1⟩
      have hA := u1.heap hA
      have HU := HU.trans u1
      obtain ⟨q0, q1, q2, q3, q4, q5, q6⟩ := seven_cells hA
      clear u1 HM
      go_wp2_with fail
      refine Calls.mono (HIZ.out _ HU) ?_
      rintro r W2 ⟨rfl, u2⟩
      have HZ : Hid (Up w W2) := HU.trans u2
      clear u2 HU hA q0 q1 q2 q3 q4 q5 q6
      go_wp2
      rw [HP.out, HF.out]
      exact ⟨_, rfl, rfl, HZ.out⟩
    | true =>
      obtain ⟨i, rfl, hi⟩ := num_nat hz
      obtain ⟨zb, zo, rfl, hzr⟩ := hzl (by omega)
      obtain ⟨ra, rc, hcz, -⟩ := hzr i hi
      have hzn : zn s (i : Int) = s.zs.getD i [] := by unfold zn; rw [Int.toNat_natCast]
      have hq : (s.zs.getD i []).length ≤ 256 := zs_get (zone_le hf) i hi
      have HF : Hid (shufO s (i : Int) l = (if ordB (s.zs.getD i []).length l = true then (if risesB l = true then (0, none) else (0, some (shE (i : Int) l))) else (1, none))) := by unfold Hid shufO; rw [if_pos hf, if_pos hz, hzn]
      have HCZ : Hid _ := hcz
      have hi2 : (i : Int) < (s.zs.length : Int) := by omega
      rw [hz] at HIZ
      generalize (s.zs.getD i []).length = m at *
      subst hvo
      clear hf hz hzr hzl hcz hzn
      have HIM : Hid (∀ W, Up w W → Calls Tryz.prog 51 #[.slice oa l.length ok, .int .i64 m] W fun r w' => r = .returned (.bool (ordB m l)) ∧ Up W w') := fun W u => HIO.out W m u hq
      clear HIO
      cases hor : ordB m l with
      | false =>
        rw [hor] at HIM
        rw [hor, if_neg (by decide)] at HF
        clear hor HLA HO
        go_enter Tryz.func25, Tryz.ntmps25
        go_wp2_with fail
        refine Calls.mono (HM.out _ HU) ?_
        rintro r W1 ⟨rfl, u1⟩
        have hA := u1.heap hA
        have HU := HU.trans u1
        obtain ⟨q0, q1, q2, q3, q4, q5, q6⟩ := seven_cells hA
        clear u1 HM
        go_wp2_with fail
        refine Calls.mono (HIZ.out _ HU) ?_
        rintro r W2 ⟨rfl, u2⟩
        have hA := u2.heap hA
        have HU := HU.trans u2
        clear u2 HIZ q0 q1 q2 q3 q4 q5 q6
        obtain ⟨q0, q1, q2, q3, q4, q5, q6⟩ := seven_cells hA
        have c0 := HCZ.out W2 HU
        go_wp2_with fail
        refine Calls.mono (HIM.out _ HU) ?_
        rintro r W3 ⟨rfl, u3⟩
        have HU := HU.trans u3
        clear u3 HIM HCZ
        clear q0 q1 q2 q3 q4 q5 q6 c0 hA
        have HZ : Hid (Up w W3) := HU
        clear HU
        go_wp2
        rw [HP.out, HF.out]
        exact ⟨_, rfl, rfl, HZ.out⟩
      | true =>
        rw [hor] at HIM
        rw [hor, if_pos rfl] at HF
        clear hor
        cases hri : risesB l with
        | true =>
          rw [hri] at HLA
          rw [hri, if_pos rfl] at HF
          clear hri HO
          go_enter Tryz.func25, Tryz.ntmps25
          go_wp2_with fail
          refine Calls.mono (HM.out _ HU) ?_
          rintro r W1 ⟨rfl, u1⟩
          have hA := u1.heap hA
          have HU := HU.trans u1
          obtain ⟨q0, q1, q2, q3, q4, q5, q6⟩ := seven_cells hA
          clear u1 HM
          go_wp2_with fail
          refine Calls.mono (HIZ.out _ HU) ?_
          rintro r W2 ⟨rfl, u2⟩
          have hA := u2.heap hA
          have HU := HU.trans u2
          clear u2 HIZ q0 q1 q2 q3 q4 q5 q6
          obtain ⟨q0, q1, q2, q3, q4, q5, q6⟩ := seven_cells hA
          have c0 := HCZ.out W2 HU
          go_wp2_with fail
          refine Calls.mono (HIM.out _ HU) ?_
          rintro r W3 ⟨rfl, u3⟩
          have HU := HU.trans u3
          clear u3 HIM HCZ
          clear q0 q1 q2 q3 q4 q5 q6 c0 hA
          go_wp2_with fail
          refine Calls.mono (HLA.out _ HU) ?_
          rintro r W4 ⟨rfl, u4⟩
          have HZ : Hid (Up w W4) := HU.trans u4
          clear u4 HU
          go_wp2
          rw [HP.out, HF.out]
          exact ⟨_, rfl, rfl, HZ.out⟩
        | false =>
          rw [hri] at HLA
          rw [hri, if_neg (by decide)] at HF
          clear hri
          go_enter Tryz.func25, Tryz.ntmps25
          go_wp2_with fail
          refine Calls.mono (HM.out _ HU) ?_
          rintro r W1 ⟨rfl, u1⟩
          have hA := u1.heap hA
          have HU := HU.trans u1
          obtain ⟨q0, q1, q2, q3, q4, q5, q6⟩ := seven_cells hA
          clear u1 HM
          go_wp2_with fail
          refine Calls.mono (HIZ.out _ HU) ?_
          rintro r W2 ⟨rfl, u2⟩
          have hA := u2.heap hA
          have HU := HU.trans u2
          clear u2 HIZ q0 q1 q2 q3 q4 q5 q6
          obtain ⟨q0, q1, q2, q3, q4, q5, q6⟩ := seven_cells hA
          have c0 := HCZ.out W2 HU
          go_wp2_with fail
          refine Calls.mono (HIM.out _ HU) ?_
          rintro r W3 ⟨rfl, u3⟩
          have HU := HU.trans u3
          clear u3 HIM HCZ
          clear q0 q1 q2 q3 q4 q5 q6 c0 hA
          go_wp2_with fail
          refine Calls.mono (HLA.out _ HU) ?_
          rintro r W4 ⟨rfl, u4⟩
          have HU := HU.trans u4
          clear u4 HLA
          have HO4 : Hid _ := fun w1 cur => HO.out oa ok W4 w1 cur HU rfl
          have HZ4 : Hid (Up w W4) := HU
          clear HU HO
          obtain ⟨n, hn⟩ : ∃ n, n = l.length := ⟨_, rfl⟩
          rw [← hn] at HO4 hln ⊢
          have HNn : Hid (n = l.length) := hn
          clear hn
          go_wp2_with (at_make; (refine wpList_make_full _ rfl _ _ 28 rfl W4.heap.size 3 iT _ 1 Tryz.underlying28 hiT i0 i1 .i64 .i64 _ _ n rfl rfl rfl rfl (by rw [i2]; omega) (by unfold maxLen; omega) (Nat.le_refl _) ?_; intro w1 hin hg1; obtain ⟨w2, hr, ho, hu⟩ := HO4.out w1 _ (row_made hin) hin.1 (made_up hg1); have HF2 : Hid (IRow W4.heap.size w2 (.slice (some ⟨W4.heap.size, 0, none⟩) n n) l ∧ Up W4 w2) := (by exact ⟨ho, hu⟩); clear hin hg1 ho hu HO4))
          rw [HP.out, HF.out]
          have hu2 : Up w w2 := HZ4.out.trans HF2.out.2
          refine ⟨_, rfl, ⟨w2.heap.size, .slice (some ⟨W4.heap.size, 0, none⟩) n n, rfl, hu2.size, heap_alloc_new w2 _, ?_⟩, hu2.alloc _⟩
          exact own_less (row_up HF2.out.1 ((Up.refl _).alloc _)) HZ4.out.size
  · have HF : Hid (shufO s z l = (10, none)) := by unfold Hid shufO; rw [if_neg hf]
    simp only [hf, decide_false] at HM
    subst hvo
    clear HIZ HIO HLA HO hf hzl
    go_enter Tryz.func25, Tryz.ntmps25
    go_wp2_with fail
    refine Calls.mono (HM.out _ HU) ?_
    rintro r W1 ⟨rfl, u1⟩
    have HZ : Hid (Up w W1) := HU.trans u1
    clear u1 HU hA
    go_wp2
    rw [HP.out, HF.out]
    exact ⟨_, rfl, rfl, HZ.out⟩
end DE
end Go.Proofs.YtabflfcdndioiabGreatDoor
/-
  A deed that is asked for: what it answers fits.
-/
namespace Go.Proofs.YtabflfcdndioiabGreatDoor
open Go.RowKit
attribute [local go_sem ↓] Go.wp_at_zero Go.wp_at_succ

structure DoT where
  kind : Int
  number : Int
  zone : Int
  first : Bool
  field : Int
  by_ : Int
  ord : List Int
namespace DE
open Go.Proofs.YtabflfcdndioiabGreatDoor.ST
def doc (d : DoT) (vo : Value) : Array Value := #[.int .i64 d.kind, .int .i64 d.number, .int .i64 d.zone, .bool d.first, .int .i8 d.field, .int .i64 d.by_, vo]
def askO (s : Stt) (d : DoT) : Int × Option Ev := if d.kind = 0 then moveO s d.number d.zone d.first else if d.kind = 1 then changeO s d.field d.number d.by_ else if d.kind = 2 then shufO s d.zone d.ord else if d.kind = 3 then drawO s d.number else outO s d.number
/- what an answer is like -/
def Good (s : Stt) (l : List Int) (r : Int × Option Ev) : Prop := (ff s ≠ none → r = (10, none)) ∧ (ff s = none → r = (1, none) ∨ r = (0, none) ∨ ∃ e, r = (0, some e) ∧ (okB e && fitB s e) = true ∧ (e.ord = [] ∨ e.ord = l))
theorem ok_of {e : Ev} {s : Stt} (h1 : kindB e.kind = true) (h2 : restB e = true) (h3 : fitB s e = true) : (okB e && fitB s e) = true := by
  unfold okB
  rw [h1, h2, h3]
  rfl
theorem zs_len {s : Stt} (h : ff s = none) : s.zs.length = 4 * s.ps.length := by
  have h0 := ((ff_none s).1 h).1.1
  unfold sizesB at h0
  simp only [Bool.and_eq_true, decide_eq_true_eq] at h0
  exact h0.2
theorem num_of {i m : Nat} (h : i < m) : numB (i : Int) m = true := by unfold numB; simp; omega
theorem draw_good (s : Stt) (p : Int) (l : List Int) : Good s l (drawO s p) := by
  unfold drawO
  refine ⟨fun h => by rw [if_neg h], fun h => ?_⟩
  rw [if_pos h]
  by_cases hp : numB p s.ps.length = true
  · rw [if_pos hp]
    by_cases h0 : (zn s (4 * p)).length = 0
    · rw [if_pos h0]; exact .inr (.inl rfl)
    · rw [if_neg h0]
      refine .inr (.inr ⟨_, rfl, ?_, .inl rfl⟩)
      obtain ⟨q, rfl, hq⟩ := num_nat hp
      have hz := zs_len h
      have e1 : zn s (4 * (q : Int)) = s.zs.getD (4 * q) [] := by unfold zn; congr 1
      have e2 : zn s (4 * (q : Int) + 1) = s.zs.getD (4 * q + 1) [] := by unfold zn; congr 1
      have f1 : numB (4 * (q : Int)) s.zs.length = true := num_of (i := 4 * q) (by omega)
      have f2 : numB (4 * (q : Int) + 1) s.zs.length = true := num_of (i := 4 * q + 1) (by omega)
      have hmem : (zn s (4 * (q : Int))).getD 0 0 ∈ s.zs.flatten := by
        rw [e1] at h0 ⊢
        have hm : s.zs.getD (4 * q) [] ∈ s.zs := by rw [List.getD_eq_getElem?_getD, List.getElem?_eq_getElem (by omega)]; exact List.getElem_mem _
        refine List.mem_flatten.2 ⟨_, hm, ?_⟩
        rw [List.getD_eq_getElem?_getD (l := s.zs.getD (4 * q) []), List.getElem?_eq_getElem (by omega)]
        exact List.getElem_mem _
      have f3 := ((ff_none s).1 h).2.1.2 _ hmem
      have f4 : numB 0 (zn s (4 * (q : Int))).length = true := num_of (i := 0) (by omega)
      refine ok_of (by rfl) (by simp [restB, drawE, nothingB, moveR]) ?_
      have hne : (4 * (q : Int)) ≠ 4 * (q : Int) + 1 := by omega
      have hne2 : ¬ (4 * (q : Int) + 1) = 4 * (q : Int) := by omega
      unfold fitB drawE moveFitsB
      dsimp only
      rw [if_pos rfl, f1, f2, f3, f4]
      simp [noneB, others, hne2]
      omega
  · rw [if_neg hp]; exact .inl rfl
theorem move_good (s : Stt) (c z : Int) (first : Bool) (l : List Int) : Good s l (moveO s c z first) := by
  unfold moveO
  refine ⟨fun h => by rw [if_neg h], fun h => ?_⟩
  rw [if_pos h]
  by_cases hp : (numB c s.cs.length && numB z s.zs.length) = true
  · rw [if_pos hp]
    rw [Bool.and_eq_true] at hp
    obtain ⟨fz, fa, hw⟩ := wh_all h hp.1
    rw [hw]
    dsimp only
    unfold one
    cases hn : noneB (mvE s c z fz fa first) with
    | true => rw [if_pos rfl]; exact .inr (.inl rfl)
    | false =>
      rw [if_neg (by decide)]
      refine .inr (.inr ⟨_, rfl, ?_, .inl rfl⟩)
      obtain ⟨-, w1, w2, w3⟩ := wh_some c s.zs 0 fz fa hw
      rw [Nat.sub_zero] at w1 w2 w3
      have e1 : zn s (fz : Int) = s.zs.getD fz [] := by unfold zn; rw [Int.toNat_natCast]
      have f1 : numB (fz : Int) s.zs.length = true := num_of w1
      have f2 : numB (fa : Int) (zn s (fz : Int)).length = true := by rw [e1]; exact num_of w2
      have f3 : (zn s (fz : Int)).getD (fa : Int).toNat 0 = c := by rw [e1, Int.toNat_natCast]; exact w3
      have f4 : 0 ≤ others s z (fz : Int) := by
        unfold others
        split
        · rename_i hz
          rw [hz, e1]
          omega
        · omega
      refine ok_of (by rfl) (by simp [restB, mvE, nothingB, moveR]) ?_
      unfold fitB moveFitsB
      rw [hn]
      unfold mvE
      dsimp only
      rw [if_pos rfl, hp.1, hp.2, f1, f2, f3]
      cases first <;> simp [f4]
  · rw [if_neg hp]; exact .inl rfl
theorem shuf_good (s : Stt) (z : Int) (l : List Int) : Good s l (shufO s z l) := by
  unfold shufO
  refine ⟨fun h => by rw [if_neg h], fun h => ?_⟩
  rw [if_pos h]
  by_cases h1 : numB z s.zs.length = true
  · rw [if_pos h1]
    by_cases h2 : ordB (zn s z).length l = true
    · rw [if_pos h2]
      by_cases h3 : risesB l = true
      · rw [if_pos h3]; exact .inr (.inl rfl)
      · rw [if_neg h3]
        refine .inr (.inr ⟨_, rfl, ?_, .inr rfl⟩)
        refine ok_of (by rfl) (by simp [restB, shE, nothingB, shuffleR]) ?_
        unfold fitB shE shuffleFitsB
        simp [h1, h2, h3]
    · rw [if_neg h2]; exact .inl rfl
  · rw [if_neg h1]; exact .inl rfl
theorem out_good (s : Stt) (p : Int) (l : List Int) : Good s l (outO s p) := by
  unfold outO
  refine ⟨fun h => by rw [if_neg h], fun h => ?_⟩
  rw [if_pos h]
  by_cases h1 : numB p s.ps.length = true
  · rw [if_pos h1]
    by_cases h2 : (s.ps.getD p.toNat dp).out = true
    · rw [if_pos h2]; exact .inr (.inl rfl)
    · rw [if_neg h2]
      refine .inr (.inr ⟨_, rfl, ?_, .inl rfl⟩)
      refine ok_of (by rfl) (by simp [restB, outE, nothingB, outR]) ?_
      have h2' : (s.ps.getD p.toNat dp).out = false := by simpa using h2
      unfold fitB outE outFitsB
      dsimp only
      rw [h1, h2']
      rfl
  · rw [if_neg h1]; exact .inl rfl
theorem change_good (s : Stt) (f n b : Int) (l : List Int) : Good s l (changeO s f n b) := by
  unfold changeO
  refine ⟨fun h => by rw [if_neg h], fun h => ?_⟩
  rw [if_pos h]
  cases hq : chP s f n with
  | none => exact .inl rfl
  | some r =>
    dsimp only
    rw [one_is hq]
    by_cases he : r.2 = chNow r.2 b
    · rw [if_pos he]; exact .inr (.inl rfl)
    · rw [if_neg he]
      exact .inr (.inr ⟨_, rfl, set_fits hq (now_stat _ _) he, .inl (chP_at hq h).1⟩)
theorem ask_good (s : Stt) (d : DoT) : Good s d.ord (askO s d) := by
  unfold askO
  split
  · exact move_good _ _ _ _ _
  split
  · exact change_good _ _ _ _ _
  split
  · exact shuf_good _ _ _
  split
  · exact draw_good _ _ _
  · exact out_good _ _ _
end DE
end Go.Proofs.YtabflfcdndioiabGreatDoor
/-
  A deed that is asked for.
-/
namespace Go.Proofs.YtabflfcdndioiabGreatDoor
open Go.RowKit
attribute [local go_sem ↓] Go.wp_at_zero Go.wp_at_succ

namespace DE
open Go.Proofs.YtabflfcdndioiabGreatDoor.ST
set_option maxRecDepth 100000 in
set_option maxHeartbeats 4000000 in
theorem asked_ (v vo : Value) (s : Stt) (d : DoT) (w : World) (hs : StL w v s) (hsm : Small s) (ho : IL w vo d.ord) (hln : d.ord.length ≤ 4294967296) (hb1 : -9223372036854775808 ≤ d.by_) (hb2 : d.by_ ≤ 9223372036854775807) : Calls Tryz.prog 8 #[.agg (doc d vo), v] w (DeV w (askO s d)) := by
  obtain ⟨Post, hPost⟩ : ∃ P : Ending → World → Prop, P = DeV w (askO s d) := ⟨_, rfl⟩
  rw [← hPost]
  have HP : Hid (Post = DeV w (askO s d)) := hPost
  have H0 : Hid (∀ W, Up w W → Calls Tryz.prog 24 #[v, .int .i64 d.number, .int .i64 d.zone, .bool d.first] W (DeV W (moveO s d.number d.zone d.first))) := fun W u => move_ v s _ _ _ W (hs.up u) hsm
  have H1 : Hid (∀ W, Up w W → Calls Tryz.prog 20 #[v, .int .i8 d.field, .int .i64 d.number, .int .i64 d.by_] W (DeV W (changeO s d.field d.number d.by_))) := fun W u => change_ v s _ _ _ W (hs.up u) hsm hb1 hb2
  have H2 : Hid (∀ W, Up w W → Calls Tryz.prog 25 #[v, .int .i64 d.zone, vo] W (DeV W (shufO s d.zone d.ord))) := fun W u => shuffle_ v vo s _ _ W (hs.up u) hsm (ho.up u) hln
  have H3 : Hid (∀ W, Up w W → Calls Tryz.prog 26 #[v, .int .i64 d.number] W (DeV W (drawO s d.number))) := fun W u => draw_ v s _ W (hs.up u) hsm
  have H4 : Hid (∀ W, Up w W → Calls Tryz.prog 27 #[v, .int .i64 d.number] W (DeV W (outO s d.number))) := fun W u => out_ v s _ W (hs.up u) hsm
  have HK : Hid (∀ (W W' : World) (r : Int × Option Ev) (x : Ending), Up w W → DeV W r x W' → ∃ v', x = .returned (.tuple #[v', .int .i64 r.1]) ∧ DL w.heap.size W' v' r.2 ∧ Up w W') := fun W W' r x u ⟨v', h1, h2, h3⟩ => ⟨v', h1, dl_less h2 u.size, u.trans h3⟩
  unfold askO at HP
  obtain ⟨oa, ok, rfl, -, -⟩ := il_at ho
  obtain ⟨vp, vc, vz, hv, h1, h2, h3⟩ := hs
  obtain ⟨a1, k1, rfl, -, -⟩ := lc_at h1
  obtain ⟨a2, k2, rfl, -, -⟩ := lc_at h2
  obtain ⟨a3, k3, rfl, -, -⟩ := zl_at h3
  unfold sv at hv
  clear h1 h2 h3 hPost ho hln hb1 hb2
  subst hv
  unfold doc
  generalize d.ord.length = n at *
  by_cases e0 : d.kind = 0
  · rw [if_pos e0] at HP
    have f0 : d.kind = 0 := e0
    rw [f0]
    clear e0
    clear H1 H2 H3 H4
    go_enter Tryz.func8, Tryz.ntmps8
    go_wp2_with fail
    refine Calls.mono (H0.out _ (((Up.refl _).alloc _).alloc _)) ?_
    rintro r W1 hd
    obtain ⟨v', rfl, dl, u⟩ := HK.out _ _ _ _ (((Up.refl _).alloc _).alloc _) hd
    have HD : Hid _ := And.intro dl u
    clear hd dl u HK
    go_wp2
    rw [HP.out]
    exact ⟨_, rfl, HD.out.1, HD.out.2⟩
  · rw [if_neg e0] at HP
    have f0 : (d.kind == 0) = false := beq_eq_false_iff_ne.2 e0
    by_cases e1 : d.kind = 1
    · rw [if_pos e1] at HP
      have f1 : d.kind = 1 := e1
      rw [f1]
      clear e1
      clear H0 H2 H3 H4
      go_enter Tryz.func8, Tryz.ntmps8
      go_wp2_with fail
      refine Calls.mono (H1.out _ (((Up.refl _).alloc _).alloc _)) ?_
      rintro r W1 hd
      obtain ⟨v', rfl, dl, u⟩ := HK.out _ _ _ _ (((Up.refl _).alloc _).alloc _) hd
      have HD : Hid _ := And.intro dl u
      clear hd dl u HK
      go_wp2
      rw [HP.out]
      exact ⟨_, rfl, HD.out.1, HD.out.2⟩
    · rw [if_neg e1] at HP
      have f1 : (d.kind == 1) = false := beq_eq_false_iff_ne.2 e1
      by_cases e2 : d.kind = 2
      · rw [if_pos e2] at HP
        have f2 : d.kind = 2 := e2
        rw [f2]
        clear e2
        clear H0 H1 H3 H4
        go_enter Tryz.func8, Tryz.ntmps8
        go_wp2_with fail
        refine Calls.mono (H2.out _ (((Up.refl _).alloc _).alloc _)) ?_
        rintro r W1 hd
        obtain ⟨v', rfl, dl, u⟩ := HK.out _ _ _ _ (((Up.refl _).alloc _).alloc _) hd
        have HD : Hid _ := And.intro dl u
        clear hd dl u HK
        go_wp2
        rw [HP.out]
        exact ⟨_, rfl, HD.out.1, HD.out.2⟩
      · rw [if_neg e2] at HP
        have f2 : (d.kind == 2) = false := beq_eq_false_iff_ne.2 e2
        by_cases e3 : d.kind = 3
        · rw [if_pos e3] at HP
          have f3 : d.kind = 3 := e3
          rw [f3]
          clear e3
          clear H0 H1 H2 H4
          go_enter Tryz.func8, Tryz.ntmps8
          go_wp2_with fail
          refine Calls.mono (H3.out _ (((Up.refl _).alloc _).alloc _)) ?_
          rintro r W1 hd
          obtain ⟨v', rfl, dl, u⟩ := HK.out _ _ _ _ (((Up.refl _).alloc _).alloc _) hd
          have HD : Hid _ := And.intro dl u
          clear hd dl u HK
          go_wp2
          rw [HP.out]
          exact ⟨_, rfl, HD.out.1, HD.out.2⟩
        · rw [if_neg e3] at HP
          have f3 : (d.kind == 3) = false := beq_eq_false_iff_ne.2 e3
          clear H0 H1 H2 H3
          go_enter Tryz.func8, Tryz.ntmps8
          go_wp2_with fail
          refine Calls.mono (H4.out _ (((Up.refl _).alloc _).alloc _)) ?_
          rintro r W1 hd
          obtain ⟨v', rfl, dl, u⟩ := HK.out _ _ _ _ (((Up.refl _).alloc _).alloc _) hd
          have HD : Hid _ := And.intro dl u
          clear hd dl u HK
          go_wp2
          rw [HP.out]
          exact ⟨_, rfl, HD.out.1, HD.out.2⟩
end DE
end Go.Proofs.YtabflfcdndioiabGreatDoor
