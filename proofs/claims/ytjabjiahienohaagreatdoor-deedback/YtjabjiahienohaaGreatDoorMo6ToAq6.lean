/-
  Out, Move.
-/
import Derived.Test.YtjabjiahienohaaGreatDoorOo6Q
import Derived.Test.YtjabjiahienohaaGreatDoorWhToCt
import Derived.Test.YtjabjiahienohaaGreatDoorPt6ToPw6
namespace Go.Proofs.YtjabjiahienohaaGreatDoor
open Go.RowKit
attribute [local go_sem ↓] Go.wp_at_zero Go.wp_at_succ

namespace DE
open Go.Proofs.YtjabjiahienohaaGreatDoor.ST
def outE (p : Int) : Ev := ⟨5, 0, 0, p, 0, 0, 0, 0, 0, 0, 0, []⟩
def outO (s : Stt) (p : Int) : Int × Option Ev := if ff s = none then (if numB p s.ps.length = true then (if (s.ps.getD p.toNat dp).out = true then (0, none) else (0, some (outE p))) else (1, none)) else (10, none)
set_option maxRecDepth 100000 in
set_option maxHeartbeats 4000000 in
theorem out_ (v : Value) (s : Stt) (p : Int) (w : World) (hs : StL w v s) (hsm : Small s) : Calls Tryz.prog 92 #[v, .int .i64 p] w (DeV w (outO s p)) := by
  obtain ⟨Post, hPost⟩ : ∃ P : Ending → World → Prop, P = DeV w (outO s p) := ⟨_, rfl⟩
  rw [← hPost]
  have HP : Hid (Post = DeV w (outO s p)) := hPost
  have HM : Hid (∀ W, Up w W → Calls Tryz.prog 85 #[v] W fun r w' => r = .returned (.bool (decide (ff s = none))) ∧ Up W w') := fun W u => mayBe_ v s W (hs.up u) hsm
  have HI : Hid (∀ W, Up w W → Calls Tryz.prog 119 #[v, .int .i64 p] W fun r w' => r = .returned (.bool (numB p s.ps.length)) ∧ Up W w') := fun W u => isPlayer_ v s p W (hs.up u)
  obtain ⟨vp, vc, vz, hv, h1, h2, h3⟩ := hs
  obtain ⟨a1, k1, rfl, -, hpl⟩ := pl_at h1
  obtain ⟨a2, k2, rfl, -, -⟩ := lc_at h2
  obtain ⟨a3, k3, rfl, -, -⟩ := zl_at h3
  unfold sv at hv
  clear h1 h2 h3 hPost
  subst hv
  by_cases hf : ff s = none
  · simp only [hf, decide_true] at HM
    cases hp : numB p s.ps.length with
    | true =>
      obtain ⟨q, rfl, hq⟩ := num_nat hp
      obtain ⟨cb, co, rfl, hcc⟩ := hpl (by omega)
      have HC : Hid (∀ W, Up w W → W.cell? ⟨cb, co + q * 3 + 2, none⟩ = some (.bool (s.ps.getD q dp).out)) := fun W u => (hcc W u q hq).2.2
      have hq2 : (q : Int) < (s.ps.length : Int) := by omega
      have HF : Hid (outO s (q : Int) = if (s.ps.getD q dp).out = true then (0, none) else (0, some (outE (q : Int)))) := by unfold Hid outO; rw [if_pos hf, if_pos hp, Int.toNat_natCast]
      rw [hp] at HI
      clear hf hp hcc hpl
      go_enter Tryz.func92, Tryz.ntmps92
      go_wp2_with fail
      refine Calls.mono (HM.out _ ((Up.refl _).alloc _)) ?_
      rintro r W1 ⟨rfl, u1⟩
      have HU : Hid (Up w W1) := ((Up.refl _).alloc _).trans u1
      have g0 : W1.heap[w.heap.size]? = some (.cells _ 27 (0, 0)) := u1.heap (heap_alloc_new _ _)
      obtain ⟨q0, q1, q2, q3, q4, q5, q6⟩ := seven_cells g0
      have HG0 : Hid _ := g0
      clear u1 g0 HM
      go_wp2_with fail
      clear q0 q1 q2 q3 q4 q5 q6
      refine Calls.mono (HI.out _ HU.out) ?_
      rintro r W2 ⟨rfl, u2⟩
      have HU2 : Hid (Up w W2) := HU.out.trans u2
      have g0 := u2.heap HG0.out
      obtain ⟨q0, q1, q2, q3, q4, q5, q6⟩ := seven_cells g0
      have c1 := HC.out W2 HU2.out
      clear u2 g0 HI HG0 HU q1 q2 q3 q4 q5 q6 HC
      cases ho : (s.ps.getD q dp).out with
      | true =>
        rw [ho] at c1
        rw [ho, if_pos rfl] at HF
        clear ho
        go_wp2
        rw [HP.out, HF.out]
        exact ⟨_, rfl, rfl, HU2.out⟩
      | false =>
        rw [ho] at c1
        rw [ho, if_neg (by decide)] at HF
        clear ho
        go_wp2
        rw [HP.out, HF.out]
        exact ⟨_, rfl, ⟨W2.heap.size, .slice none 0 0, rfl, HU2.out.size, heap_alloc_new W2 _, World.ownsRow_nil _ _ _ _⟩, HU2.out.alloc _⟩
    | false =>
      have HF : Hid (outO s p = (1, none)) := by unfold Hid outO; rw [if_pos hf, if_neg (by rw [hp]; decide)]
      rw [hp] at HI
      clear hf hp hpl
      go_enter Tryz.func92, Tryz.ntmps92
      go_wp2_with fail
      refine Calls.mono (HM.out _ ((Up.refl _).alloc _)) ?_
      rintro r W1 ⟨rfl, u1⟩
      have HU : Hid (Up w W1) := ((Up.refl _).alloc _).trans u1
      have g0 : W1.heap[w.heap.size]? = some (.cells _ 27 (0, 0)) := u1.heap (heap_alloc_new _ _)
      obtain ⟨q0, q1, q2, q3, q4, q5, q6⟩ := seven_cells g0
      clear u1 g0
      go_wp2_with fail
      clear q0 q1 q2 q3 q4 q5 q6
      refine Calls.mono (HI.out _ HU.out) ?_
      rintro r W2 ⟨rfl, u2⟩
      have HU2 : Hid (Up w W2) := HU.out.trans u2
      clear u2
      go_wp2
      rw [HP.out, HF.out]
      exact ⟨_, rfl, rfl, HU2.out⟩
  · have HF : Hid (outO s p = (10, none)) := by unfold Hid outO; rw [if_neg hf]
    simp only [hf, decide_false] at HM
    clear HI hf hpl
    go_enter Tryz.func92, Tryz.ntmps92
    go_wp2_with fail
    refine Calls.mono (HM.out _ ((Up.refl _).alloc _)) ?_
    rintro r W1 ⟨rfl, u1⟩
    have HU : Hid (Up w W1) := ((Up.refl _).alloc _).trans u1
    clear u1
    go_wp2
    rw [HP.out, HF.out]
    exact ⟨_, rfl, rfl, HU.out⟩
/- Move -/
def mvE (s : Stt) (c z : Int) (fz fa : Nat) (first : Bool) : Ev := ⟨1, 0, c, 0, 0, fz, fa, z, if first = true then 0 else others s z fz, 0, 0, []⟩
def moveO (s : Stt) (c z : Int) (first : Bool) : Int × Option Ev := if ff s = none then (if (numB c s.cs.length && numB z s.zs.length) = true then (match wh c s.zs 0 with | some p => (0, one (mvE s c z p.1 p.2 first)) | none => (0, none)) else (1, none)) else (10, none)
theorem wh_all {s : Stt} {c : Int} (hok : ff s = none) (hc : numB c s.cs.length = true) : ∃ z i, wh c s.zs 0 = some (z, i) := by
  obtain ⟨-, h2, h3⟩ := (ff_none s).1 hok
  exact wh_mem c s.zs (ent_all h2 h3 c hc)
theorem evc_eight {W : World} {g : Nat} {e : Ev} {vo : Value} {a : Int} (h : W.heap[g]? = some (.cells (evc e vo) 30 (0, 0))) : (W.setCell ⟨g, 8, none⟩ (.int .i64 a)).heap[g]? = some (.cells (evc { e with toAt := a } vo) 30 (0, 0)) := by
  rw [set_cells h]
  rfl
set_option maxRecDepth 100000 in
set_option maxHeartbeats 4000000 in
theorem move_ (v : Value) (s : Stt) (c z : Int) (first : Bool) (w : World) (hs : StL w v s) (hsm : Small s) : Calls Tryz.prog 89 #[v, .int .i64 c, .int .i64 z, .bool first] w (DeV w (moveO s c z first)) := by
  obtain ⟨Post, hPost⟩ : ∃ P : Ending → World → Prop, P = DeV w (moveO s c z first) := ⟨_, rfl⟩
  rw [← hPost]
  have HP : Hid (Post = DeV w (moveO s c z first)) := hPost
  have HM : Hid (∀ W, Up w W → Calls Tryz.prog 85 #[v] W fun r w' => r = .returned (.bool (decide (ff s = none))) ∧ Up W w') := fun W u => mayBe_ v s W (hs.up u) hsm
  have HIC : Hid (∀ W, Up w W → Calls Tryz.prog 165 #[v, .int .i64 c] W fun r w' => r = .returned (.bool (numB c s.cs.length)) ∧ Up W w') := fun W u => isCard_ v s c W (hs.up u)
  have HIZ : Hid (∀ W, Up w W → Calls Tryz.prog 166 #[v, .int .i64 z] W fun r w' => r = .returned (.bool (numB z s.zs.length)) ∧ Up W w') := fun W u => isZone_ v s z W (hs.up u)
  have HWH : Hid (∀ W, Up w W → Calls Tryz.prog 167 #[v, .int .i64 c] W (WPost W (whereOf s c))) := fun W u => where_ v s c W (hs.up u) hsm
  have HOT : Hid (∀ W (f : Int), Up w W → numB z s.zs.length = true → (∀ r ∈ s.zs, r.length ≤ 140737488355328) → Calls Tryz.prog 168 #[v, .int .i64 z, .int .i64 f] W fun r w' => r = .returned (.int .i64 (others s z f)) ∧ Up W w') := fun W f u h1 h2 => othersIn_ v s z f W (hs.up u) h1 h2
  obtain ⟨vp, vc, vz, hv, h1, h2, h3⟩ := hs
  obtain ⟨a1, k1, rfl, -, -⟩ := lc_at h1
  obtain ⟨a2, k2, rfl, -, -⟩ := lc_at h2
  obtain ⟨a3, k3, rfl, -, -⟩ := zl_at h3
  unfold sv at hv
  clear h1 h2 h3 hPost
  obtain ⟨A, hA0⟩ : ∃ A : Array Value, A = #[.slice a1 s.ps.length k1, .slice a2 s.cs.length k2, .slice a3 s.zs.length k3, .int .i32 s.turn, .int .i64 s.whose, .int .i8 s.fin, .int .i64 s.winner] := ⟨_, rfl⟩
  have hA1 : A.size = 7 := by rw [hA0]; rfl
  rw [← hA0] at hv
  subst hv
  clear hA0
  have hA : (w.alloc (.cells A 27)).heap[w.heap.size]? = some (.cells A 27 (0, 0)) := heap_alloc_new _ _
  have HU : Up w (w.alloc (.cells A 27)) := (Up.refl _).alloc _
  by_cases hf : ff s = none
  · simp only [hf, decide_true] at HM
    cases hc : numB c s.cs.length with
    | false =>
      have HF : Hid (moveO s c z first = (1, none)) := by unfold Hid moveO; rw [if_pos hf, hc]; rfl
      rw [hc] at HIC
      clear hf hc HIZ HWH HOT
      go_enter Tryz.func89, Tryz.ntmps89
      go_wp2_with (refine wpList_load_row (by rfl) 27 (.tmp 4) (by rfl) w.heap.size (by rfl) 27 A (0, 0) _ hA Tryz.underlying27 (by rfl) (by rw [hA1]; exact infoSt) ?_)
      refine Calls.mono (HM.out _ HU) ?_
      rintro r W1 ⟨rfl, u1⟩
      have hA := u1.heap hA
      have HU := HU.trans u1
      clear u1 HM
      go_wp2_with (refine wpList_load_row (by rfl) 27 (.tmp 4) (by rfl) w.heap.size (by rfl) 27 A (0, 0) _ hA Tryz.underlying27 (by rfl) (by rw [hA1]; exact infoSt) ?_)
      refine Calls.mono (HIC.out _ HU) ?_
      rintro r W2 ⟨rfl, u2⟩
      have HZ : Hid (Up w W2) := HU.trans u2
      clear u2 HU hA
      go_wp2
      rw [HP.out, HF.out]
      exact ⟨_, rfl, rfl, HZ.out⟩
    | true =>
      cases hz : numB z s.zs.length with
      | false =>
        have HF : Hid (moveO s c z first = (1, none)) := by unfold Hid moveO; rw [if_pos hf, hc, hz]; rfl
        rw [hc] at HIC
        rw [hz] at HIZ
        clear hf hc hz HWH HOT
        go_enter Tryz.func89, Tryz.ntmps89
        go_wp2_with (refine wpList_load_row (by rfl) 27 (.tmp 4) (by rfl) w.heap.size (by rfl) 27 A (0, 0) _ hA Tryz.underlying27 (by rfl) (by rw [hA1]; exact infoSt) ?_)
        refine Calls.mono (HM.out _ HU) ?_
        rintro r W1 ⟨rfl, u1⟩
        have hA := u1.heap hA
        have HU := HU.trans u1
        clear u1 HM
        go_wp2_with (refine wpList_load_row (by rfl) 27 (.tmp 4) (by rfl) w.heap.size (by rfl) 27 A (0, 0) _ hA Tryz.underlying27 (by rfl) (by rw [hA1]; exact infoSt) ?_)
        refine Calls.mono (HIC.out _ HU) ?_
        rintro r W2 ⟨rfl, u2⟩
        have hA := u2.heap hA
        have HU := HU.trans u2
        clear u2 HIC
        go_wp2_with (refine wpList_load_rowG (by rfl) 27 (.tmp 4) (by rfl) w.heap.size (by rfl) 27 A (0, 0) _ hA Tryz.underlying27 (by rfl) (by rw [hA1]; exact infoSt) ?_)
        refine Calls.mono (HIZ.out _ HU) ?_
        rintro r W3 ⟨rfl, u3⟩
        have HZ : Hid (Up w W3) := HU.trans u3
        clear u3 HU hA
        go_wp2
        rw [HP.out, HF.out]
        exact ⟨_, rfl, rfl, HZ.out⟩
      | true =>
        obtain ⟨fz, fa, hw⟩ := wh_all hf hc
        have HF : Hid (moveO s c z first = (0, one (mvE s c z fz fa first))) := by unfold Hid moveO; rw [if_pos hf, hc, hz, if_pos (show (true && true) = true from rfl), hw]
        have HWW : Hid (∀ W, Up w W → Calls Tryz.prog 167 #[.agg A, .int .i64 c] W fun e w' => e = .returned (.tuple #[.int .i64 (fz : Nat), .int .i64 (fa : Nat), .bool true]) ∧ Up W w') := fun W u => by
          have h9 := HWH.out W u
          have hwo : whereOf s c = some (fz, fa) := by unfold whereOf; rw [if_pos hf, hw]
          rw [hwo] at h9
          exact h9
        have HO2 : Hid (∀ W, Up w W → Calls Tryz.prog 168 #[.agg A, .int .i64 z, .int .i64 (fz : Nat)] W fun r w' => r = .returned (.int .i64 (others s z (fz : Nat))) ∧ Up W w') := fun W u => HOT.out W _ u hz (fun r hr => Nat.le_trans (zone_le hf r hr) (by omega))
        have HON : Hid (∀ W, Calls Tryz.prog 169 #[.agg (evc (mvE s c z fz fa first) (.slice none 0 0))] W fun x w' => ∃ v, x = .returned v ∧ DL W.heap.size w' v (one (mvE s c z fz fa first)) ∧ Up W w') := fun W => oneOrNone_ (mvE s c z fz fa first) rfl W
        rw [hc] at HIC
        rw [hz] at HIZ
        clear hf hc hz HWH HOT hw
        unfold mvE at HON HF
        cases first with
        | true =>
          rw [if_pos rfl] at HON HF
          go_enter Tryz.func89, Tryz.ntmps89
          go_wp2_with (refine wpList_load_row (by rfl) 27 (.tmp 4) (by rfl) w.heap.size (by rfl) 27 A (0, 0) _ hA Tryz.underlying27 (by rfl) (by rw [hA1]; exact infoSt) ?_)
          refine Calls.mono (HM.out _ HU) ?_
          rintro r W1 ⟨rfl, u1⟩
          have hA := u1.heap hA
          have HU := HU.trans u1
          clear u1 HM
          go_wp2_with (refine wpList_load_row (by rfl) 27 (.tmp 4) (by rfl) w.heap.size (by rfl) 27 A (0, 0) _ hA Tryz.underlying27 (by rfl) (by rw [hA1]; exact infoSt) ?_)
          refine Calls.mono (HIC.out _ HU) ?_
          rintro r W2 ⟨rfl, u2⟩
          have hA := u2.heap hA
          have HU := HU.trans u2
          clear u2 HIC
          go_wp2_with (refine wpList_load_rowG (by rfl) 27 (.tmp 4) (by rfl) w.heap.size (by rfl) 27 A (0, 0) _ hA Tryz.underlying27 (by rfl) (by rw [hA1]; exact infoSt) ?_)
          refine Calls.mono (HIZ.out _ HU) ?_
          rintro r W3 ⟨rfl, u3⟩
          have hA := u3.heap hA
          have HU := HU.trans u3
          clear u3 HIZ
          go_wp2_with (refine wpList_load_row (by rfl) 27 (.tmp 4) (by rfl) w.heap.size (by rfl) 27 A (0, 0) _ hA Tryz.underlying27 (by rfl) (by rw [hA1]; exact infoSt) ?_)
          refine Calls.mono (HWW.out _ HU) ?_
          rintro r W4 ⟨rfl, u4⟩
          have hA := u4.heap hA
          have HU := HU.trans u4
          clear u4 HWW
          obtain ⟨W5, hW5⟩ : ∃ W5, (W4.alloc (.cells zEv 30)).setRow W4.heap.size (evc ⟨1, 0, c, 0, 0, fz, fa, z, 0, 0, 0, []⟩ (.slice none 0 0)) = W5 := ⟨_, rfl⟩
          obtain ⟨f1, f2, -⟩ := filled W4 zEv (evc ⟨1, 0, c, 0, 0, fz, fa, z, 0, 0, 0, []⟩ (.slice none 0 0)) 30
          rw [hW5] at f1 f2
          have hA := f2.heap hA
          have lz := HU.size
          have HU := HU.trans f2
          clear f2
          go_wp2_with (first | (refine wpList_store_row rfl 30 (.tmp 13) (.tmp 38) rfl W4.heap.size (evc ⟨1, 0, c, 0, 0, fz, fa, z, 0, 0, 0, []⟩ (.slice none 0 0)) rfl rfl 30 zEv (heap_alloc_new W4 _) infoEv rfl (evc_one _ _ _ _) ?_; refine wpList_world hW5 ?_) | (refine wpList_load_row (by rfl) 30 (.tmp 13) (by rfl) W4.heap.size (by rfl) 30 (evc ⟨1, 0, c, 0, 0, fz, fa, z, 0, 0, 0, []⟩ (.slice none 0 0)) (0, 0) _ f1 Tryz.underlying30 (by rfl) infoEv ?_))
          refine Calls.mono (HON.out _) ?_
          rintro r W7 ⟨v7, rfl, dl, u7⟩
          have HZ : Hid (Up w W7) := HU.trans u7
          have HDL : Hid _ := dl_less dl HU.size
          clear u7 dl HU
          go_wp2
          rw [HP.out, HF.out]
          exact ⟨_, rfl, HDL.out, HZ.out⟩
        | false =>
          rw [if_neg (by decide)] at HON HF
          go_enter Tryz.func89, Tryz.ntmps89
          go_wp2_with (refine wpList_load_row (by rfl) 27 (.tmp 4) (by rfl) w.heap.size (by rfl) 27 A (0, 0) _ hA Tryz.underlying27 (by rfl) (by rw [hA1]; exact infoSt) ?_)
          refine Calls.mono (HM.out _ HU) ?_
          rintro r W1 ⟨rfl, u1⟩
          have hA := u1.heap hA
          have HU := HU.trans u1
          clear u1 HM
          go_wp2_with (refine wpList_load_row (by rfl) 27 (.tmp 4) (by rfl) w.heap.size (by rfl) 27 A (0, 0) _ hA Tryz.underlying27 (by rfl) (by rw [hA1]; exact infoSt) ?_)
          refine Calls.mono (HIC.out _ HU) ?_
          rintro r W2 ⟨rfl, u2⟩
          have hA := u2.heap hA
          have HU := HU.trans u2
          clear u2 HIC
          go_wp2_with (refine wpList_load_rowG (by rfl) 27 (.tmp 4) (by rfl) w.heap.size (by rfl) 27 A (0, 0) _ hA Tryz.underlying27 (by rfl) (by rw [hA1]; exact infoSt) ?_)
          refine Calls.mono (HIZ.out _ HU) ?_
          rintro r W3 ⟨rfl, u3⟩
          have hA := u3.heap hA
          have HU := HU.trans u3
          clear u3 HIZ
          go_wp2_with (refine wpList_load_row (by rfl) 27 (.tmp 4) (by rfl) w.heap.size (by rfl) 27 A (0, 0) _ hA Tryz.underlying27 (by rfl) (by rw [hA1]; exact infoSt) ?_)
          refine Calls.mono (HWW.out _ HU) ?_
          rintro r W4 ⟨rfl, u4⟩
          have hA := u4.heap hA
          have HU := HU.trans u4
          clear u4 HWW
          obtain ⟨W5, hW5⟩ : ∃ W5, (W4.alloc (.cells zEv 30)).setRow W4.heap.size (evc ⟨1, 0, c, 0, 0, fz, fa, z, 0, 0, 0, []⟩ (.slice none 0 0)) = W5 := ⟨_, rfl⟩
          obtain ⟨f1, f2, -⟩ := filled W4 zEv (evc ⟨1, 0, c, 0, 0, fz, fa, z, 0, 0, 0, []⟩ (.slice none 0 0)) 30
          rw [hW5] at f1 f2
          have hA := f2.heap hA
          have lz := HU.size
          have HU := HU.trans f2
          clear f2
          go_wp2_with (first | (refine wpList_store_row rfl 30 (.tmp 13) (.tmp 38) rfl W4.heap.size (evc ⟨1, 0, c, 0, 0, fz, fa, z, 0, 0, 0, []⟩ (.slice none 0 0)) rfl rfl 30 zEv (heap_alloc_new W4 _) infoEv rfl (evc_one _ _ _ _) ?_; refine wpList_world hW5 ?_) | (refine wpList_load_row (by rfl) 27 (.tmp 4) (by rfl) w.heap.size (by rfl) 27 A (0, 0) _ hA Tryz.underlying27 (by rfl) (by rw [hA1]; exact infoSt) ?_))
          refine Calls.mono (HO2.out _ HU) ?_
          rintro r W6 ⟨rfl, u6⟩
          have f1 := u6.heap f1
          have HU := HU.trans u6
          clear u6 HO2
          have c8 : W6.cell? ⟨W4.heap.size, 8, none⟩ = some (.int .i64 0) := evc_cells0 f1 8
          have cf := seven_f f1 8
          have f8 := evc_eight (a := others s z (fz : Nat)) f1
          have HU := Up.set HU ⟨W4.heap.size, 8, none⟩ (.int .i64 (others s z (fz : Nat))) lz
          go_wp2_with (refine wpList_load_row (by rfl) 30 (.tmp 13) (by rfl) W4.heap.size (by rfl) 30 (evc ⟨1, 0, c, 0, 0, fz, fa, z, others s z (fz : Nat), 0, 0, []⟩ (.slice none 0 0)) (0, 0) _ f8 Tryz.underlying30 (by rfl) infoEv ?_)
          refine Calls.mono (HON.out _) ?_
          rintro r W7 ⟨v7, rfl, dl, u7⟩
          have HZ : Hid (Up w W7) := HU.trans u7
          have HDL : Hid _ := dl_less dl HU.size
          clear u7 dl HU
          go_wp2
          rw [HP.out, HF.out]
          exact ⟨_, rfl, HDL.out, HZ.out⟩
  · have HF : Hid (moveO s c z first = (10, none)) := by unfold Hid moveO; rw [if_neg hf]
    simp only [hf, decide_false] at HM
    clear HIC HIZ HWH HOT hf
    go_enter Tryz.func89, Tryz.ntmps89
    go_wp2_with (refine wpList_load_row (by rfl) 27 (.tmp 4) (by rfl) w.heap.size (by rfl) 27 A (0, 0) _ hA Tryz.underlying27 (by rfl) (by rw [hA1]; exact infoSt) ?_)
    refine Calls.mono (HM.out _ HU) ?_
    rintro r W1 ⟨rfl, u1⟩
    have HZ : Hid (Up w W1) := HU.trans u1
    clear u1 HU hA
    go_wp2
    rw [HP.out, HF.out]
    exact ⟨_, rfl, rfl, HZ.out⟩
end DE
end Go.Proofs.YtjabjiahienohaaGreatDoor
/-
  Shuffle.
-/
namespace Go.Proofs.YtjabjiahienohaaGreatDoor
open Go.RowKit
attribute [local go_sem ↓] Go.wp_at_zero Go.wp_at_succ

namespace DE
open Go.Proofs.YtjabjiahienohaaGreatDoor.ST
def shE (z : Int) (l : List Int) : Ev := ⟨4, 0, 0, 0, 0, z, 0, 0, 0, 0, 0, l⟩
def shufO (s : Stt) (z : Int) (l : List Int) : Int × Option Ev := if ff s = none then (if numB z s.zs.length = true then (if ordB (zn s z).length l = true then (if risesB l = true then (0, none) else (0, some (shE z l))) else (1, none)) else (1, none)) else (10, none)
set_option maxRecDepth 100000 in
set_option maxHeartbeats 4000000 in
theorem shuffle_ (v vo : Value) (s : Stt) (z : Int) (l : List Int) (w : World) (hs : StL w v s) (hsm : Small s) (ho : IL w vo l) (hln : l.length ≤ 4294967296) : Calls Tryz.prog 91 #[v, .int .i64 z, vo] w (DeV w (shufO s z l)) := by
  obtain ⟨iT, hiT, i0, i1, i2⟩ := info_parts infoI
  obtain ⟨Post, hPost⟩ : ∃ P : Ending → World → Prop, P = DeV w (shufO s z l) := ⟨_, rfl⟩
  rw [← hPost]
  have HP : Hid (Post = DeV w (shufO s z l)) := hPost
  have HM : Hid (∀ W, Up w W → Calls Tryz.prog 85 #[v] W fun r w' => r = .returned (.bool (decide (ff s = none))) ∧ Up W w') := fun W u => mayBe_ v s W (hs.up u) hsm
  have HIZ : Hid (∀ W, Up w W → Calls Tryz.prog 166 #[v, .int .i64 z] W fun r w' => r = .returned (.bool (numB z s.zs.length)) ∧ Up W w') := fun W u => isZone_ v s z W (hs.up u)
  have HIO : Hid (∀ W (m : Nat), Up w W → m ≤ 256 → Calls Tryz.prog 173 #[vo, .int .i64 m] W fun r w' => r = .returned (.bool (ordB m l)) ∧ Up W w') := fun W m u h => isOrder_ vo l m W (ho.up u) h
  have HLA : Hid (∀ W, Up w W → Calls Tryz.prog 174 #[vo] W fun r w' => r = .returned (.bool (risesB l)) ∧ Up W w') := fun W u => leavesAll_ vo l W (ho.up u) (by omega)
  have HV : Hid (LC w vo 1 l.length (ivs l)) := ho
  have HO : Hid (∀ (a : Option Addr) (k : Nat) (W w1 : World) (cur : List Value), Up w W → vo = .slice a l.length k → w1.heap[W.heap.size]? = some (.cells cur.toArray 3 (0, 0)) → cur.length = l.length * 1 → Up W w1 → ∃ w2, (Builtin.copy_ #[28, 28] 3 #[.slice (some ⟨W.heap.size, 0, none⟩) l.length l.length, .slice a l.length k]).run Tryz.prog w1 = .ok (goInt (Nat.min l.length l.length : Nat)) w2 ∧ IRow W.heap.size w2 (.slice (some ⟨W.heap.size, 0, none⟩) l.length l.length) l ∧ Up W w2) := fun a k W w1 cur uw hav hg hcl u => by
    have h := HV.out.up (uw.trans u)
    have hlen := h.1
    obtain ⟨w2, hr, h2, h3⟩ := run_copyS (P := Tryz.prog) w1 28 28 3 3 1 (by decide) (some ⟨W.heap.size, 0, none⟩) a l.length l.length l.length k W.heap.size 0 cur 3 Tryz.underlying28 sizeI hg (ivs l) (by rw [hlen]; simp) (fun hp => by
      refine ⟨rfl, ?_⟩
      obtain ⟨-, a', k', e, -, hc⟩ := h
      rw [hav] at e
      cases e
      obtain ⟨b, off, rfl, hcell⟩ := hc (by intro h0; rw [hlen, h0] at hp; simp at hp)
      refine ⟨_, rfl, fun j x hj => ?_⟩
      rw [Addr.add_mid]
      have : j < (ivs l).length := (List.getElem?_eq_some_iff.1 hj).1
      rw [hcell j (by omega)]; exact hj) (by rw [hlen, hcl]; omega) (ivs_one l)
    rw [splice_all cur (ivs l) (by rw [hcl, hlen])] at h2
    exact ⟨w2, hr, own_made h2 hlen (Nat.le_refl _) (by unfold maxLen; omega), Up.trans' u h3 (Nat.le_refl _)⟩
  obtain ⟨oa, ok, hvo, -, -⟩ := lc_at ho
  obtain ⟨vp, vc, vz, hv, h1, h2, h3⟩ := hs
  obtain ⟨a1, k1, rfl, -, -⟩ := lc_at h1
  obtain ⟨a2, k2, rfl, -, -⟩ := lc_at h2
  obtain ⟨a3, k3, rfl, -, hzl⟩ := zl_at h3
  unfold sv at hv
  clear h1 h2 h3 hPost ho HV
  subst hv
  have hA : (w.alloc (.cells #[.slice a1 s.ps.length k1, .slice a2 s.cs.length k2, .slice a3 s.zs.length k3, .int .i32 s.turn, .int .i64 s.whose, .int .i8 s.fin, .int .i64 s.winner] 27)).heap[w.heap.size]? = some (.cells #[.slice a1 s.ps.length k1, .slice a2 s.cs.length k2, .slice a3 s.zs.length k3, .int .i32 s.turn, .int .i64 s.whose, .int .i8 s.fin, .int .i64 s.winner] 27 (0, 0)) := heap_alloc_new _ _
  have HU : Up w (w.alloc (.cells #[.slice a1 s.ps.length k1, .slice a2 s.cs.length k2, .slice a3 s.zs.length k3, .int .i32 s.turn, .int .i64 s.whose, .int .i8 s.fin, .int .i64 s.winner] 27)) := (Up.refl _).alloc _
  by_cases hf : ff s = none
  · simp only [hf, decide_true] at HM
    cases hz : numB z s.zs.length with
    | false =>
      have HF : Hid (shufO s z l = (1, none)) := by unfold Hid shufO; rw [if_pos hf, if_neg (by rw [hz]; decide)]
      rw [hz] at HIZ
      subst hvo
      clear hf hz HIO HLA HO hzl
      go_enter Tryz.func91, Tryz.ntmps91
      go_wp2_with fail
      refine Calls.mono (HM.out _ HU) ?_
      rintro r W1 ⟨rfl, u1⟩
      have hA := u1.heap hA
      have HU := HU.trans u1
      obtain ⟨q0, q1, q2, q3, q4, q5, q6⟩ := seven_cells hA
      clear u1 HM
      go_wp2_with fail
      refine Calls.mono (HIZ.out _ HU) ?_
      rintro r W2 ⟨rfl, u2⟩
      have HZ : Hid (Up w W2) := HU.trans u2
      clear u2 HU hA q0 q1 q2 q3 q4 q5 q6
      go_wp2
      rw [HP.out, HF.out]
      exact ⟨_, rfl, rfl, HZ.out⟩
    | true =>
      obtain ⟨i, rfl, hi⟩ := num_nat hz
      obtain ⟨zb, zo, rfl, hzr⟩ := hzl (by omega)
      obtain ⟨ra, rc, hcz, -⟩ := hzr i hi
      have hzn : zn s (i : Int) = s.zs.getD i [] := by unfold zn; rw [Int.toNat_natCast]
      have hq : (s.zs.getD i []).length ≤ 256 := zs_get (zone_le hf) i hi
      have HF : Hid (shufO s (i : Int) l = (if ordB (s.zs.getD i []).length l = true then (if risesB l = true then (0, none) else (0, some (shE (i : Int) l))) else (1, none))) := by unfold Hid shufO; rw [if_pos hf, if_pos hz, hzn]
      have HCZ : Hid _ := hcz
      have hi2 : (i : Int) < (s.zs.length : Int) := by omega
      rw [hz] at HIZ
      generalize (s.zs.getD i []).length = m at *
      subst hvo
      clear hf hz hzr hzl hcz hzn
      have HIM : Hid (∀ W, Up w W → Calls Tryz.prog 173 #[.slice oa l.length ok, .int .i64 m] W fun r w' => r = .returned (.bool (ordB m l)) ∧ Up W w') := fun W u => HIO.out W m u hq
      clear HIO
      cases hor : ordB m l with
      | false =>
        rw [hor] at HIM
        rw [hor, if_neg (by decide)] at HF
        clear hor HLA HO
        go_enter Tryz.func91, Tryz.ntmps91
        go_wp2_with fail
        refine Calls.mono (HM.out _ HU) ?_
        rintro r W1 ⟨rfl, u1⟩
        have hA := u1.heap hA
        have HU := HU.trans u1
        obtain ⟨q0, q1, q2, q3, q4, q5, q6⟩ := seven_cells hA
        clear u1 HM
        go_wp2_with fail
        refine Calls.mono (HIZ.out _ HU) ?_
        rintro r W2 ⟨rfl, u2⟩
        have hA := u2.heap hA
        have HU := HU.trans u2
        clear u2 HIZ q0 q1 q2 q3 q4 q5 q6
        obtain ⟨q0, q1, q2, q3, q4, q5, q6⟩ := seven_cells hA
        have c0 := HCZ.out W2 HU
        go_wp2_with fail
        refine Calls.mono (HIM.out _ HU) ?_
        rintro r W3 ⟨rfl, u3⟩
        have HU := HU.trans u3
        clear u3 HIM HCZ
        clear q0 q1 q2 q3 q4 q5 q6 c0 hA
        have HZ : Hid (Up w W3) := HU
        clear HU
        go_wp2
        rw [HP.out, HF.out]
        exact ⟨_, rfl, rfl, HZ.out⟩
      | true =>
        rw [hor] at HIM
        rw [hor, if_pos rfl] at HF
        clear hor
        cases hri : risesB l with
        | true =>
          rw [hri] at HLA
          rw [hri, if_pos rfl] at HF
          clear hri HO
          go_enter Tryz.func91, Tryz.ntmps91
          go_wp2_with fail
          refine Calls.mono (HM.out _ HU) ?_
          rintro r W1 ⟨rfl, u1⟩
          have hA := u1.heap hA
          have HU := HU.trans u1
          obtain ⟨q0, q1, q2, q3, q4, q5, q6⟩ := seven_cells hA
          clear u1 HM
          go_wp2_with fail
          refine Calls.mono (HIZ.out _ HU) ?_
          rintro r W2 ⟨rfl, u2⟩
          have hA := u2.heap hA
          have HU := HU.trans u2
          clear u2 HIZ q0 q1 q2 q3 q4 q5 q6
          obtain ⟨q0, q1, q2, q3, q4, q5, q6⟩ := seven_cells hA
          have c0 := HCZ.out W2 HU
          go_wp2_with fail
          refine Calls.mono (HIM.out _ HU) ?_
          rintro r W3 ⟨rfl, u3⟩
          have HU := HU.trans u3
          clear u3 HIM HCZ
          clear q0 q1 q2 q3 q4 q5 q6 c0 hA
          go_wp2_with fail
          refine Calls.mono (HLA.out _ HU) ?_
          rintro r W4 ⟨rfl, u4⟩
          have HZ : Hid (Up w W4) := HU.trans u4
          clear u4 HU
          go_wp2
          rw [HP.out, HF.out]
          exact ⟨_, rfl, rfl, HZ.out⟩
        | false =>
          rw [hri] at HLA
          rw [hri, if_neg (by decide)] at HF
          clear hri
          go_enter Tryz.func91, Tryz.ntmps91
          go_wp2_with fail
          refine Calls.mono (HM.out _ HU) ?_
          rintro r W1 ⟨rfl, u1⟩
          have hA := u1.heap hA
          have HU := HU.trans u1
          obtain ⟨q0, q1, q2, q3, q4, q5, q6⟩ := seven_cells hA
          clear u1 HM
          go_wp2_with fail
          refine Calls.mono (HIZ.out _ HU) ?_
          rintro r W2 ⟨rfl, u2⟩
          have hA := u2.heap hA
          have HU := HU.trans u2
          clear u2 HIZ q0 q1 q2 q3 q4 q5 q6
          obtain ⟨q0, q1, q2, q3, q4, q5, q6⟩ := seven_cells hA
          have c0 := HCZ.out W2 HU
          go_wp2_with fail
          refine Calls.mono (HIM.out _ HU) ?_
          rintro r W3 ⟨rfl, u3⟩
          have HU := HU.trans u3
          clear u3 HIM HCZ
          clear q0 q1 q2 q3 q4 q5 q6 c0 hA
          go_wp2_with fail
          refine Calls.mono (HLA.out _ HU) ?_
          rintro r W4 ⟨rfl, u4⟩
          have HU := HU.trans u4
          clear u4 HLA
          have HO4 : Hid _ := fun w1 cur => HO.out oa ok W4 w1 cur HU rfl
          have HZ4 : Hid (Up w W4) := HU
          clear HU HO
          obtain ⟨n, hn⟩ : ∃ n, n = l.length := ⟨_, rfl⟩
          rw [← hn] at HO4 hln ⊢
          have HNn : Hid (n = l.length) := hn
          clear hn
          go_wp2_with (at_make; (refine wpList_make_full _ rfl _ _ 28 rfl W4.heap.size 3 iT _ 1 Tryz.underlying28 hiT i0 i1 .i64 .i64 _ _ n rfl rfl rfl rfl (by rw [i2]; omega) (by unfold maxLen; omega) (Nat.le_refl _) ?_; intro w1 hin hg1; obtain ⟨w2, hr, ho, hu⟩ := HO4.out w1 _ (row_made hin) hin.1 (made_up hg1); have HF2 : Hid (IRow W4.heap.size w2 (.slice (some ⟨W4.heap.size, 0, none⟩) n n) l ∧ Up W4 w2) := (by exact ⟨ho, hu⟩); clear hin hg1 ho hu HO4))
          rw [HP.out, HF.out]
          have hu2 : Up w w2 := HZ4.out.trans HF2.out.2
          refine ⟨_, rfl, ⟨w2.heap.size, .slice (some ⟨W4.heap.size, 0, none⟩) n n, rfl, hu2.size, heap_alloc_new w2 _, ?_⟩, hu2.alloc _⟩
          exact own_less (row_up HF2.out.1 ((Up.refl _).alloc _)) HZ4.out.size
  · have HF : Hid (shufO s z l = (10, none)) := by unfold Hid shufO; rw [if_neg hf]
    simp only [hf, decide_false] at HM
    subst hvo
    clear HIZ HIO HLA HO hf hzl
    go_enter Tryz.func91, Tryz.ntmps91
    go_wp2_with fail
    refine Calls.mono (HM.out _ HU) ?_
    rintro r W1 ⟨rfl, u1⟩
    have HZ : Hid (Up w W1) := HU.trans u1
    clear u1 HU hA
    go_wp2
    rw [HP.out, HF.out]
    exact ⟨_, rfl, rfl, HZ.out⟩
end DE
end Go.Proofs.YtjabjiahienohaaGreatDoor
/-
  What fits changes something: no program.
-/
namespace Go.Proofs.YtjabjiahienohaaGreatDoor
open Go.RowKit

namespace DE
open Go.Proofs.YtjabjiahienohaaGreatDoor.ST
theorem eqS_zs {a b : Stt} (h : a.zs ≠ b.zs) : eqS a b = false := by unfold eqS; simp [h]
theorem eqS_cs {a b : Stt} (h : a.cs ≠ b.cs) : eqS a b = false := by unfold eqS; simp [h]
theorem eqS_ps {a b : Stt} (h : a.ps ≠ b.ps) : eqS a b = false := by unfold eqS; simp [h]
theorem none_was {e : Ev} (h : noneB e = false) (h1 : e.fr = 0) (h2 : e.frAt = 0) (h3 : e.to_ = 0) (h4 : e.toAt = 0) : e.was ≠ e.now := by
  unfold noneB at h
  rw [h1, h2, h3, h4] at h
  simpa using h
theorem move_new {s : Stt} {e : Ev} (h : ff s = none) (hr : (nothingB (moveR e)) = true) (hf : moveFitsB s e = true) : moveZ s.zs e.fr.toNat e.frAt.toNat e.to_.toNat e.toAt.toNat e.card ≠ s.zs := by
  intro heq
  have hok := move_ok h hf
  obtain ⟨i, p, j, q, a1, a2, a3, a4, a5, a6, a7, a8, -, -⟩ := move_at (zone_le h) hf
  have hn1 := ((ff_none s).1 h).2.1.1
  unfold moveFitsB at hf
  simp only [Bool.and_eq_true, decide_eq_true_eq, Bool.not_eq_true'] at hf
  obtain ⟨-, -, -, hno, -, hc, -⟩ := hf
  unfold zn at hc
  rw [a1, a2] at hc
  simp only [Int.toNat_natCast] at hc
  have w1 := flat_one s.zs hn1 e.card i p 0 a5 a7 hc
  rw [a1, a2, a3, a4] at heq
  simp only [Int.toNat_natCast] at heq
  have hl := ins_get (c := e.card) a8
  have hj : j < (s.zs.set i (cutL (s.zs.getD i []) p)).length := by simpa using a6
  have e1 : (moveZ s.zs i p j q e.card).getD j [] = insL ((s.zs.set i (cutL (s.zs.getD i []) p)).getD j []) q e.card := by
    unfold moveZ
    rw [set_get hj]
  rw [heq] at e1
  have w2 := flat_one s.zs hn1 e.card j q 0 a6 (by rw [e1, hl.2]; omega) (by rw [e1]; exact hl.1)
  rw [w1] at w2
  simp only [Option.some.injEq, Prod.mk.injEq] at w2
  unfold nothingB moveR at hr
  simp only [Bool.and_eq_true, decide_eq_true_eq] at hr
  unfold noneB at hno
  rw [a1, a2, a3, a4, hr.1.2, hr.2] at hno
  simp at hno
  omega
theorem card_new {s : Stt} {e : Ev} (hr : (nothingB (cardR e)) = true) (hf : cardFitsB s e = true) : s.cs.set e.card.toNat (cSet (s.cs.getD e.card.toNat dc) e.field e.now) ≠ s.cs := by
  intro heq
  obtain ⟨a1, y, a2⟩ := card_at hf
  obtain ⟨i, e1, hi⟩ := num_nat a1
  unfold cardFitsB at hf
  rw [a2] at hf
  simp only [Bool.and_eq_true] at hf
  have hf := hf.2
  unfold statFitsB at hf
  simp only [Bool.and_eq_true, decide_eq_true_eq, Bool.not_eq_true'] at hf
  have hb := card_back (x := e.now) a2
  have : (s.cs.set e.card.toNat (cSet (s.cs.getD e.card.toNat dc) e.field e.now)).getD e.card.toNat dc = s.cs.getD e.card.toNat dc := by rw [heq]
  rw [set_get (by rw [e1, Int.toNat_natCast]; exact hi)] at this
  rw [this, a2] at hb
  have hyn : y = e.now := by simpa using hb.2
  unfold nothingB cardR at hr
  simp only [Bool.and_eq_true, decide_eq_true_eq] at hr
  exact none_was hf.2 hr.1.1.1.1.1.2 hr.1.1.1.1.2 hr.1.1.1.2 hr.1.1.2 (by rw [← hyn, hf.1.1])
theorem player_new {s : Stt} {e : Ev} (hr : (nothingB (playerR e)) = true) (hf : playerFitsB s e = true) : s.ps.set e.player.toNat (pSet (s.ps.getD e.player.toNat dp) e.field e.now) ≠ s.ps := by
  intro heq
  obtain ⟨a1, y, a2⟩ := player_at hf
  obtain ⟨i, e1, hi⟩ := num_nat a1
  unfold playerFitsB at hf
  rw [a2] at hf
  simp only [Bool.and_eq_true] at hf
  have hf := hf.2
  unfold statFitsB at hf
  simp only [Bool.and_eq_true, decide_eq_true_eq, Bool.not_eq_true'] at hf
  have hb := player_back (x := e.now) a2
  have : (s.ps.set e.player.toNat (pSet (s.ps.getD e.player.toNat dp) e.field e.now)).getD e.player.toNat dp = s.ps.getD e.player.toNat dp := by rw [heq]
  rw [set_get (by rw [e1, Int.toNat_natCast]; exact hi)] at this
  rw [this, a2] at hb
  have hyn : y = e.now := by simpa using hb.2
  unfold nothingB playerR at hr
  simp only [Bool.and_eq_true, decide_eq_true_eq] at hr
  exact none_was hf.2 hr.1.1.1.1.1.2 hr.1.1.1.1.2 hr.1.1.1.2 hr.1.1.2 (by rw [← hyn, hf.1.1])
theorem shuf_new {zl ord : List Int} (hn : zl.Nodup) (ho : ordB zl.length ord = true) (hr : risesB ord = false) : shufL zl ord ≠ zl := by
  intro heq
  have hl := (ord_at ho).1
  have hon := ord_num ho
  have : ord = (List.range ord.length).map (fun i : Nat => (i : Int)) := by
    apply List.ext_getElem
    · simp
    · intro i h1 h2
      obtain ⟨k, e1, hk⟩ := num_nat (hon i h1)
      have hi : i < zl.length := by omega
      have hx : (shufL zl ord)[i]? = zl[i]? := by rw [heq]
      unfold shufL at hx
      rw [List.getElem?_map, List.getElem?_eq_getElem h1, List.getElem?_eq_getElem hi] at hx
      rw [List.getD_eq_getElem?_getD, List.getElem?_eq_getElem h1] at e1
      have e1 : ord[i] = (k : Int) := e1
      rw [e1] at hx
      simp only [Option.map_some, Int.toNat_natCast, Option.some.injEq] at hx
      rw [List.getD_eq_getElem?_getD, List.getElem?_eq_getElem hk] at hx
      have := nodup_at hn hk hi hx
      rw [e1, this]
      simp
  unfold risesB at hr
  rw [beq_eq_false_iff_ne] at hr
  exact hr this
theorem behind_new {s : Stt} {e : Ev} (h : ff s = none) (hf : (okB e && fitB s e) = true) : eqS (behindS s e) s = false := by
  unfold okB at hf
  simp only [Bool.and_eq_true] at hf
  obtain ⟨⟨hk, hr⟩, hf⟩ := hf
  unfold restB at hr
  unfold fitB at hf
  unfold behindS
  rcases kinds hk with hk | hk | hk | hk | hk | hk | hk
  · simp only [hk, if_pos] at hf hr ⊢
    simp only [Bool.and_eq_true] at hr
    exact eqS_zs (move_new h hr.1 hf)
  · simp [hk] at hf hr ⊢
    exact eqS_cs (card_new hr.1 hf)
  · simp [hk] at hf hr ⊢
    exact eqS_ps (player_new hr.1 hf)
  · simp [hk] at hf ⊢
    unfold shuffleFitsB at hf
    simp only [Bool.and_eq_true, Bool.not_eq_true'] at hf
    obtain ⟨i, e1, hi⟩ := num_nat hf.1
    refine eqS_zs fun heq => ?_
    have hn1 := ((ff_none s).1 h).2.1.1
    have hz : (s.zs.getD i []).Nodup := by
      have hm : s.zs.getD i [] ∈ s.zs := by rw [List.getD_eq_getElem?_getD, List.getElem?_eq_getElem hi]; exact List.getElem_mem _
      exact (List.sublist_flatten_of_mem hm).nodup hn1
    have e2 : zn s e.fr = s.zs.getD i [] := by unfold zn; rw [e1, Int.toNat_natCast]
    have h2 := hf.2
    rw [e2] at h2
    refine shuf_new hz h2.1 h2.2 ?_
    have this : (s.zs.set e.fr.toNat (shufL (zn s e.fr) e.ord)).getD i [] = s.zs.getD i [] := congrArg (fun l : List (List Int) => l.getD i []) heq
    rw [e2, e1, Int.toNat_natCast, set_get hi] at this
    exact this
  · simp [hk] at hf ⊢
    unfold outFitsB at hf
    simp only [Bool.and_eq_true, Bool.not_eq_true'] at hf
    obtain ⟨i, e1, hi⟩ := num_nat hf.1
    refine eqS_ps fun heq => ?_
    have h3 : ((s.ps.set e.player.toNat { s.ps.getD e.player.toNat dp with out := true }).getD i dp).out = (s.ps.getD i dp).out := congrArg (fun l : List Ply => (l.getD i dp).out) heq
    rw [e1, Int.toNat_natCast, set_get hi] at h3
    have h2 := hf.2
    rw [e1, Int.toNat_natCast, ← h3] at h2
    cases h2
  · simp [hk] at hf ⊢
    unfold turnFitsB behindB at hf
    simp only [Bool.and_eq_true, decide_eq_true_eq] at hf
    obtain ⟨h1, -, -, h3, h4⟩ := hf
    have ht : 1 ≤ s.turn := ((ff_none s).1 h).1.2.2.2.1
    have hw : wrap32 (e.was + 1) = e.was + 1 := by unfold wrap32; omega
    rw [hw] at h4
    unfold eqS
    have : e.now ≠ s.turn := by omega
    simp [this]
  · simp [hk] at hf ⊢
    unfold endFitsB at hf
    simp only [Bool.and_eq_true, decide_eq_true_eq] at hf
    obtain ⟨h1, h2⟩ := hf
    have : IntKind.i8.wrap e.now ≠ s.fin := by
      rw [h1]
      split at h2
      · rename_i h3
        rw [h3]
        decide
      · split at h2
        · rename_i h3
          rw [h3]
          decide
        · cases h2
    unfold eqS
    simp [this]
end DE
end Go.Proofs.YtjabjiahienohaaGreatDoor
/-
  A field changed, once and again: no program.
-/
namespace Go.Proofs.YtjabjiahienohaaGreatDoor
open Go.RowKit

namespace DE
open Go.Proofs.YtjabjiahienohaaGreatDoor.ST
def ev2 (f n y x : Int) : Ev := ⟨2, f, n, 0, 0, 0, 0, 0, 0, y, x, []⟩
def ev3 (f n y x : Int) : Ev := ⟨3, f, 0, n, 0, 0, 0, 0, 0, y, x, []⟩
/- what chP answers: a card's or a player's field -/
theorem chP_cases {s : Stt} {f n : Int} {r : Ev × Int} (h : chP s f n = some r) :
    (∃ i : Nat, n = i ∧ i < s.cs.length ∧ cGet (s.cs.getD i dc) f = some r.2 ∧ r.1 = ev2 f n 0 0) ∨ (cPart s f n = none ∧ ∃ i : Nat, n = i ∧ i < s.ps.length ∧ pGet (s.ps.getD i dp) f = some r.2 ∧ r.1 = ev3 f n 0 0) := by
  unfold chP at h
  cases hq : cPart s f n with
  | some q =>
    rw [hq] at h
    cases h
    left
    unfold cPart at hq
    split at hq
    · rename_i hn
      obtain ⟨i, rfl, hi⟩ := num_nat hn
      rw [Int.toNat_natCast] at hq
      cases hy : cGet (s.cs.getD i dc) f with
      | none => rw [hy] at hq; cases hq
      | some y =>
        rw [hy] at hq
        simp only [Option.map_some, Option.some.injEq] at hq
        subst hq
        exact ⟨i, rfl, hi, hy, rfl⟩
    · cases hq
  | none =>
    rw [hq] at h
    right
    refine ⟨rfl, ?_⟩
    have h : pPart s f n = some r := h
    unfold pPart at h
    split at h
    · rename_i hn
      obtain ⟨i, rfl, hi⟩ := num_nat hn
      rw [Int.toNat_natCast] at h
      cases hy : pGet (s.ps.getD i dp) f with
      | none => rw [hy] at h; cases h
      | some y =>
        rw [hy] at h
        simp only [Option.map_some, Option.some.injEq] at h
        subst h
        exact ⟨i, rfl, hi, hy, rfl⟩
    · cases h
def setF (s : Stt) (r : Ev × Int) (x : Int) : Stt := behindS s { r.1 with was := r.2, now := x }
theorem set2 (s : Stt) (f : Int) (i : Nat) (y x : Int) : setF s (ev2 f i 0 0, y) x = { s with cs := s.cs.set i (cSet (s.cs.getD i dc) f x) } := by
  unfold setF behindS ev2
  simp
theorem set3 (s : Stt) (f : Int) (i : Nat) (y x : Int) : setF s (ev3 f i 0 0, y) x = { s with ps := s.ps.set i (pSet (s.ps.getD i dp) f x) } := by
  unfold setF behindS ev3
  simp
theorem cset_same2 {c : Crd} {f y : Int} (h : cGet c f = some y) : cSet c f y = c := by
  unfold cGet at h
  unfold cSet
  split at h
  · rename_i hf; cases h; simp [hf]
  split at h
  · rename_i hf; cases h; simp [hf]
  split at h
  · rename_i hf; cases h; simp [hf]
  split at h
  · rename_i hf; cases h; simp [hf]
  · cases h
theorem pset_same2 {c : Ply} {f y : Int} (h : pGet c f = some y) : pSet c f y = c := by
  unfold pGet at h
  unfold pSet
  split at h
  · rename_i hf; cases h; simp [hf]
  split at h
  · rename_i hf; cases h; simp [hf]
  · cases h
theorem cset_twice (c : Crd) (f x z : Int) : cSet (cSet c f x) f z = cSet c f z := by
  unfold cSet
  split
  · rfl
  split
  · rfl
  split <;> rfl
theorem pset_twice (c : Ply) (f x z : Int) : pSet (pSet c f x) f z = pSet c f z := by
  unfold pSet
  split <;> rfl
theorem set_self2 {s : Stt} {f n : Int} {r : Ev × Int} (h : chP s f n = some r) : setF s r r.2 = s := by
  rcases chP_cases h with ⟨i, rfl, hi, hg, he⟩ | ⟨-, i, rfl, hi, hg, he⟩
  · obtain ⟨ev, y⟩ := r
    dsimp only at he hg ⊢
    rw [he, set2, cset_same2 hg, set_self hi]
  · obtain ⟨ev, y⟩ := r
    dsimp only at he hg ⊢
    rw [he, set3, pset_same2 hg, set_self hi]
theorem set_again {s : Stt} {f n x : Int} {r : Ev × Int} (h : chP s f n = some r) : chP (setF s r x) f n = some (r.1, x) ∧ ∀ z, setF (setF s r x) (r.1, x) z = setF s r z := by
  rcases chP_cases h with ⟨i, rfl, hi, hg, he⟩ | ⟨hc, i, rfl, hi, hg, he⟩
  · obtain ⟨ev, y⟩ := r
    dsimp only at he hg ⊢
    rw [he, set2]
    refine ⟨?_, fun z => ?_⟩
    · have hn : numB (i : Int) (s.cs.set i (cSet (s.cs.getD i dc) f x)).length = true := by unfold numB; simp; omega
      unfold chP cPart
      rw [if_pos hn, Int.toNat_natCast]
      dsimp only
      rw [set_get hi, (card_back hg).2]
      rfl
    · rw [set2, set2]
      dsimp only
      rw [set_get hi, cset_twice, List.set_set]
  · obtain ⟨ev, y⟩ := r
    dsimp only at he hg ⊢
    rw [he, set3]
    refine ⟨?_, fun z => ?_⟩
    · have hn : numB (i : Int) (s.ps.set i (pSet (s.ps.getD i dp) f x)).length = true := by unfold numB; simp; omega
      have hc2 : cPart { s with ps := s.ps.set i (pSet (s.ps.getD i dp) f x) } f (i : Int) = none := hc
      unfold chP
      rw [hc2]
      unfold pPart
      dsimp only
      rw [if_pos hn, Int.toNat_natCast, set_get hi, (player_back hg).2]
      rfl
    · rw [set3, set3]
      dsimp only
      rw [set_get hi, pset_twice, List.set_set]
theorem set_fits {s : Stt} {f n x : Int} {r : Ev × Int} (h : chP s f n = some r) (hx : statB x = true) (hne : r.2 ≠ x) : (okB { r.1 with was := r.2, now := x } && fitB s { r.1 with was := r.2, now := x }) = true := by
  rcases chP_cases h with ⟨i, rfl, hi, hg, he⟩ | ⟨hc, i, rfl, hi, hg, he⟩
  · obtain ⟨ev, y⟩ := r
    dsimp only at he hg hne ⊢
    rw [he]
    have hn : numB (i : Int) s.cs.length = true := by unfold numB; simp; omega
    unfold okB fitB ev2 cardFitsB
    dsimp only
    rw [hn, Int.toNat_natCast, hg]
    simp [kindB, restB, nothingB, cardR, statFitsB, noneB, hx, hne]
  · obtain ⟨ev, y⟩ := r
    dsimp only at he hg hne ⊢
    rw [he]
    have hn : numB (i : Int) s.ps.length = true := by unfold numB; simp; omega
    unfold okB fitB ev3 playerFitsB
    dsimp only
    rw [hn, Int.toNat_natCast, hg]
    simp [kindB, restB, nothingB, playerR, statFitsB, noneB, hx, hne]
theorem one_is {s : Stt} {f n x : Int} {r : Ev × Int} (h : chP s f n = some r) : one { r.1 with was := r.2, now := x } = if r.2 = x then none else some { r.1 with was := r.2, now := x } := by
  have hz : noneB { r.1 with was := r.2, now := x } = decide (r.2 = x) := by
    rcases chP_cases h with ⟨i, rfl, hi, hg, he⟩ | ⟨hc, i, rfl, hi, hg, he⟩ <;> (rw [he]; simp [noneB, ev2, ev3])
  unfold one
  rw [hz]
  simp
/- a change that is made is replayed -/
theorem rep_one {s : Stt} {f n x : Int} {r : Ev × Int} (hok : ff s = none) (h : chP s f n = some r) (hx : statB x = true) : repO s (one { r.1 with was := r.2, now := x }).toList = some (.inr (setF s r x)) ∧ ff (setF s r x) = none := by
  rw [one_is h]
  unfold repO
  rw [if_pos hok]
  by_cases he : r.2 = x
  · rw [if_pos he, ← he, set_self2 h]
    exact ⟨rfl, hok⟩
  · rw [if_neg he]
    have hf := set_fits h hx he
    refine ⟨?_, ok_behind hok hf⟩
    show some (if okB { r.1 with was := r.2, now := x } && fitB s { r.1 with was := r.2, now := x } then repl (behindS s { r.1 with was := r.2, now := x }) [] 1 else Sum.inl 0) = _
    rw [if_pos hf]
    rfl
theorem now_stat (y b : Int) : statB (chNow y b) = true := by
  unfold statB chNow
  simp only [Bool.and_eq_true, decide_eq_true_eq]
  omega
theorem now_in {y b : Int} (h1 : chNow y b ≠ 1000000000) (h2 : chNow y b ≠ -1000000000) : chNow y b = y + b := by
  unfold chNow cut64 cutI at *
  omega
end DE
end Go.Proofs.YtjabjiahienohaaGreatDoor
