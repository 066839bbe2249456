/-
  The program's Same of two states that are the same.
-/
import Derived.Test.YtpmdlpjedapbbaaSzToEs
import Derived.Test.YtpmdlpjedapbbaaTailToWr7
namespace Go.Proofs.Ytpmdlpjedapbbaa
open Go.RowKit
attribute [local go_sem ↓] Go.wp_at_zero Go.wp_at_succ

namespace ST
set_option maxRecDepth 100000 in
set_option maxHeartbeats 2000000 in
theorem slR_ (v u : Value) (a b : List (List Int)) (w : World) (hv : ZL w v a) (hu : ZL w u b) (hn : a.length ≤ 4294967296) (hl9 : ∀ r, r < a.length → (a.getD r []).length ≤ 4294967296) :
    Calls Try.prog 28 #[v, u, .func (.func 29) #[] #[]] w fun e w' => e = .returned (.bool (decide (a = b))) ∧ ∃ m, w' = w.drewN m := by
  obtain ⟨a1, k1, rfl, -, h1⟩ := zl_at hv
  obtain ⟨a2, k2, rfl, -, h2⟩ := zl_at hu
  obtain ⟨R, hR⟩ : ∃ R, R = decide (a = b) := ⟨_, rfl⟩
  rw [← hR]
  have HR : Hid (R = decide (a = b)) := hR
  obtain ⟨n, hn0⟩ : ∃ n, n = a.length := ⟨_, rfl⟩
  obtain ⟨m, hm0⟩ : ∃ n, n = b.length := ⟨_, rfl⟩
  have HN : Hid (n = a.length ∧ m = b.length) := ⟨hn0, hm0⟩
  rw [← hn0] at hn h1 ⊢
  rw [← hm0] at h2 ⊢
  have H1 : Hid _ := h1
  have H2 : Hid _ := h2
  rw [← hn0] at hl9
  have HL9 : Hid _ := hl9
  clear hv hu h1 h2 hn0 hm0 hR hl9
  by_cases hl : n = m
  · subst hl
    go_enter Try.func28, Try.ntmps28
    go_wp2_with fail
    go_loopw [6, 7, 8, 9, 17] (fun s6 s7 s8 s9 s17 wr => ∃ i : Nat, i ≤ n ∧ s6 = .bool false ∧ s17 = .int .i64 i ∧ (∃ k, wr = w.drewN k) ∧ ∀ j, j < i → a.getD j [] = b.getD j []) (fun _ _ _ _ s17 _ => n - (intOf s17).toNat)
    case atStart => exact ⟨0, Nat.zero_le _, rfl, rfl, ⟨0, rfl⟩, fun j hj => by omega⟩
    case round =>
      obtain ⟨i, hi, rfl, rfl, ⟨k, hk⟩, hj⟩ := hrel
      have HK : Hid (wr = w.drewN k) := hk
      have huw : Up w wr := by rw [hk]; exact (Up.refl w).drewN k
      have HJ : Hid (∀ j, j < i → a.getD j [] = b.getD j []) := hj
      clear hk hj
      by_cases hlt : i < n
      · have hlt2 : (i : Int) < (n : Int) := by omega
        obtain ⟨b1, o1, rfl, c1⟩ := H1.out (by omega)
        obtain ⟨b2, o2, rfl, c2⟩ := H2.out (by omega)
        obtain ⟨ra1, rc1, d1, il1⟩ := c1 i hlt
        obtain ⟨ra2, rc2, d2, il2⟩ := c2 i hlt
        have x1 := d1 _ huw
        have x2 := d2 _ huw
        have HE : Hid (∀ W, Up w W → Calls Try.prog 29 #[.slice ra1 (a.getD i []).length rc1, .slice ra2 (b.getD i []).length rc2] W fun e w' => e = .returned (.bool (decide (a.getD i [] = b.getD i []))) ∧ ∃ m, w' = W.drewN m) := fun W u => slI_ _ _ _ _ W (il1.up u) (il2.up u) (HL9.out i hlt)
        have HY : Hid ((a.getD i [] = b.getD i [] → ∀ j, j < i + 1 → a.getD j [] = b.getD j []) ∧ (a.getD i [] ≠ b.getD i [] → R = false)) := ⟨fun e j hj => by
          by_cases ej : j = i
          · subst ej; exact e
          · exact HJ.out j (by omega), fun e => by rw [HR.out, decide_eq_false]; rintro rfl; exact e rfl⟩
        clear c1 c2 HJ d1 d2 il1 il2
        generalize a.getD i [] = x at x1 HY HE
        generalize b.getD i [] = y at x2 HY HE
        by_cases hxy : x = y
        · have HF : Hid _ := HY.out.1 hxy
          rw [decide_eq_true hxy] at HE
          clear HY hxy
          go_wp2_with fail
          refine Calls.mono (HE.out _ huw) ?_
          rintro e w9 ⟨rfl, nq, hw9⟩
          have HW9 : Hid (w9 = wr.drewN nq) := hw9
          clear hw9
          go_wp2_with fail
          go_roundw
          case rel => exact ⟨i + 1, by omega, rfl, by go_num, ⟨k + nq, by rw [HW9.out, HK.out, drewN_two]⟩, HF.out⟩
          case measure => simp [intOf]; omega
        · have HF : Hid _ := HY.out.2 hxy
          rw [decide_eq_false hxy] at HE
          clear HY hxy
          go_wp2_with fail
          refine Calls.mono (HE.out _ huw) ?_
          rintro e w9 ⟨rfl, nq, hw9⟩
          have HW9 : Hid (w9 = wr.drewN nq) := hw9
          clear hw9
          go_wp2
          go_ret
          exact ⟨by rw [HF.out]; rfl, k + nq, by rw [HW9.out, HK.out, drewN_two]⟩
      · have hlt2 : ¬ (i : Int) < (n : Int) := by omega
        have HF : Hid (R = true) := by unfold Hid; rw [HR.out, decide_eq_true]; exact eq_at a b [] (by rw [← HN.out.1, ← HN.out.2]) (fun j hj => HJ.out j (by have := HN.out.1; omega))
        go_wp2
        go_ret
        exact ⟨by rw [HF.out]; rfl, k, HK.out⟩
  · have hl2 : ((n : Int) != (m : Int)) = true := by simp; omega
    have HF : Hid (R = false) := by unfold Hid; rw [HR.out, decide_eq_false]; rintro rfl; exact hl (HN.out.1.trans HN.out.2.symm)
    go_enter Try.func28, Try.ntmps28
    go_wp2
    go_ret
    exact ⟨by rw [HF.out]; rfl, 0, rfl⟩
def hv (s : Stt) : Value := .agg #[.int .i32 s.turn, .int .i64 s.whose, .int .i8 s.fin, .int .i64 s.winner]
set_option maxHeartbeats 2000000 in
theorem headOf_ (v : Value) (s : Stt) (w : World) (hs : StL w v s) : Calls Try.prog 30 #[v] w fun e w' => e = .returned (hv s) ∧ Up w w' := by
  obtain ⟨vp, vc, vz, rfl, h1, h2, h3⟩ := hs
  obtain ⟨a1, k1, rfl, -, -⟩ := lc_at h1
  obtain ⟨a2, k2, rfl, -, -⟩ := lc_at h2
  obtain ⟨a3, k3, rfl, -, -⟩ := zl_at h3
  clear h1 h2 h3
  unfold sv hv
  generalize s.turn = tu
  generalize s.whose = wo
  generalize s.fin = fi
  generalize s.winner = wi
  go_enter Try.func30, Try.ntmps30
  go_wp2
  refine bodyPost_ret (v := .agg #[.int .i32 tu, .int .i64 wo, .int .i8 fi, .int .i64 wi]) (by simp [results, Try.results30, go_sem]) rfl ?_
  refine ⟨rfl, ?_⟩
  repeat (first | with_reducible exact Up.refl _ | with_reducible apply Up.alloc | with_reducible apply Up.drewN | with_reducible apply Up.drew | with_reducible refine Up.set ?_ _ _ (by first | exact Nat.le_refl _ | exact Nat.le_succ _ | (simp; omega)))
theorem sHead : Try.prog.underlying 67 = some (.struct (Try.prog.fieldsOf 67)) := by kernel_rfl
theorem hHead : Try.prog.stoodInHeld 67 = false := by kernel_rfl
theorem eqInHead (a0 a1 a2 a3 b0 b1 b2 b3 : Int) (W : World) : (Op.equalIn 10000 67 (.agg #[.int .i32 a0, .int .i64 a1, .int .i8 a2, .int .i64 a3]) (.agg #[.int .i32 b0, .int .i64 b1, .int .i8 b2, .int .i64 b3])).run Try.prog W = .ok (decide (a0 = b0) && decide (a1 = b1) && decide (a2 = b2) && decide (a3 = b3)) W := by
  have u3 := Try.underlying3
  have v3 := Try.isAgg3
  have z3 := Try.sizeOf3
  have u4 := Try.underlying21
  have v4 := Try.isAgg21
  have z4 := Try.sizeOf21
  have u5 := Try.underlying25
  have v5 := Try.isAgg25
  have z5 := Try.sizeOf25
  rw [show (10000 : Nat) = 9999 + 1 from rfl, run_equalIn_agg W 9999 67 _ _ sHead hHead]
  simp only [Program.fieldsOf, Try.underlying67]
  go_simp
  by_cases h0 : a0 = b0 <;> by_cases h1 : a1 = b1 <;> by_cases h2 : a2 = b2 <;> by_cases h3 : a3 = b3 <;> simp [h0, h1, h2, h3]
def hdB (a b : Stt) : Bool := decide (a.turn = b.turn) && decide (a.whose = b.whose) && decide (a.fin = b.fin) && decide (a.winner = b.winner)
def samB (a b : Stt) : Bool := decide (a.ps = b.ps) && (decide (a.cs = b.cs) && (decide (a.zs = b.zs) && hdB a b))
theorem eqlHead (a b : Stt) : ∀ W, (binOp .eql 67 (.agg #[.int .i32 a.turn, .int .i64 a.whose, .int .i8 a.fin, .int .i64 a.winner]) (.agg #[.int .i32 b.turn, .int .i64 b.whose, .int .i8 b.fin, .int .i64 b.winner])).run Try.prog W = .ok (.bool (hdB a b)) W := fun W => by
  rw [run_eql_struct, eqInHead]
  rfl
set_option maxRecDepth 100000 in
set_option maxHeartbeats 1000000 in
theorem same_ (v u : Value) (a b : Stt) (w : World) (hv : StL w v a) (hu : StL w u b) (hsm : Small a) :
    Calls Try.prog 15 #[v, u] w fun e w' => e = .returned (.bool (samB a b)) ∧ Up w w' := by
  have HV : Hid _ := hv
  have HU : Hid _ := hu
  obtain ⟨vp, vc, vz, rfl, p1, p2, p3⟩ := hv
  obtain ⟨up, uc, uz, rfl, q1, q2, q3⟩ := hu
  have HP1 : Hid (PLs w vp a.ps ∧ PLs w up b.ps) := ⟨p1, q1⟩
  have HP2 : Hid (CLs w vc a.cs ∧ CLs w uc b.cs) := ⟨p2, q2⟩
  have HP3 : Hid (ZL w vz a.zs ∧ ZL w uz b.zs) := ⟨p3, q3⟩
  obtain ⟨a1, k1, rfl, -, -⟩ := lc_at p1
  obtain ⟨a2, k2, rfl, -, -⟩ := lc_at p2
  obtain ⟨a3, k3, rfl, -, -⟩ := zl_at p3
  obtain ⟨b1, l1, rfl, -, -⟩ := lc_at q1
  obtain ⟨b2, l2, rfl, -, -⟩ := lc_at q2
  obtain ⟨b3, l3, rfl, -, -⟩ := zl_at q3
  clear p1 p2 p3 q1 q2 q3
  unfold sv at HV HU ⊢
  obtain ⟨n1, hn1⟩ : ∃ n, n = a.ps.length := ⟨_, rfl⟩
  obtain ⟨n2, hn2⟩ : ∃ n, n = a.cs.length := ⟨_, rfl⟩
  obtain ⟨n3, hn3⟩ : ∃ n, n = a.zs.length := ⟨_, rfl⟩
  obtain ⟨m1, hm1⟩ : ∃ n, n = b.ps.length := ⟨_, rfl⟩
  obtain ⟨m2, hm2⟩ : ∃ n, n = b.cs.length := ⟨_, rfl⟩
  obtain ⟨m3, hm3⟩ : ∃ n, n = b.zs.length := ⟨_, rfl⟩
  rw [← hn1, ← hn2, ← hn3] at HV
  rw [← hm1, ← hm2, ← hm3] at HU
  rw [← hn1, ← hm1] at HP1
  rw [← hn2, ← hm2] at HP2
  rw [← hn3, ← hm3] at HP3
  rw [← hn1, ← hn2, ← hn3, ← hm1, ← hm2, ← hm3]
  clear hn1 hn2 hn3 hm1 hm2 hm3
  obtain ⟨W0, hW0⟩ : ∃ W, W = (w.alloc (.cells #[.slice a1 n1 k1, .slice a2 n2 k2, .slice a3 n3 k3, .int .i32 a.turn, .int .i64 a.whose, .int .i8 a.fin, .int .i64 a.winner] 27)).alloc (.cells #[.slice b1 m1 l1, .slice b2 m2 l2, .slice b3 m3 l3, .int .i32 b.turn, .int .i64 b.whose, .int .i8 b.fin, .int .i64 b.winner] 27) := ⟨_, rfl⟩
  obtain ⟨g1, g2, -, gu⟩ := two_blocks w #[.slice a1 n1 k1, .slice a2 n2 k2, .slice a3 n3 k3, .int .i32 a.turn, .int .i64 a.whose, .int .i8 a.fin, .int .i64 a.winner] #[.slice b1 m1 l1, .slice b2 m2 l2, .slice b3 m3 l3, .int .i32 b.turn, .int .i64 b.whose, .int .i8 b.fin, .int .i64 b.winner] 27
  rw [← hW0] at g1 g2 gu
  have ne : Nonempty (UW W0) := ⟨⟨W0, Up.refl _⟩⟩
  have c1 : ∀ U : UW W0, _ := fun U => seven_cells (U.up.heap g1)
  have c2 : ∀ U : UW W0, _ := fun U => seven_cells (U.up.heap g2)
  have x0 : ∀ U : UW W0, _ := fun U => (c1 U).1
  have x1 : ∀ U : UW W0, _ := fun U => (c1 U).2.1
  have x2 : ∀ U : UW W0, _ := fun U => (c1 U).2.2.1
  have x3 : ∀ U : UW W0, _ := fun U => (c1 U).2.2.2.1
  have x4 : ∀ U : UW W0, _ := fun U => (c1 U).2.2.2.2.1
  have x5 : ∀ U : UW W0, _ := fun U => (c1 U).2.2.2.2.2.1
  have x6 : ∀ U : UW W0, _ := fun U => (c1 U).2.2.2.2.2.2
  have y0 : ∀ U : UW W0, _ := fun U => (c2 U).1
  have y1 : ∀ U : UW W0, _ := fun U => (c2 U).2.1
  have y2 : ∀ U : UW W0, _ := fun U => (c2 U).2.2.1
  have y3 : ∀ U : UW W0, _ := fun U => (c2 U).2.2.2.1
  have y4 : ∀ U : UW W0, _ := fun U => (c2 U).2.2.2.2.1
  have y5 : ∀ U : UW W0, _ := fun U => (c2 U).2.2.2.2.2.1
  have y6 : ∀ U : UW W0, _ := fun U => (c2 U).2.2.2.2.2.2
  have mk : ∀ {f : Nat} {args : Array Value} {R : Value} (U : UW W0), Calls Try.prog f args U.W (fun e w' => e = .returned R ∧ Up U.W w') → Calls Try.prog f args U.W (fun e w' => e = .returned R ∧ ∃ V : UW W0, w' = V.W) := fun U h => h.mono fun e w' ⟨he, u⟩ => ⟨he, ⟨w', U.up.trans u⟩, rfl⟩
  have dr : ∀ {f : Nat} {args : Array Value} {R : Value} (U : UW W0), Calls Try.prog f args U.W (fun e w' => e = .returned R ∧ ∃ m, w' = U.W.drewN m) → Calls Try.prog f args U.W (fun e w' => e = .returned R ∧ Up U.W w') := fun U h => h.mono fun e w' ⟨he, m, hm⟩ => ⟨he, by rw [hm]; exact (Up.refl _).drewN m⟩
  obtain ⟨pb, hpb⟩ : ∃ p, p = decide (a.ps = b.ps) := ⟨_, rfl⟩
  obtain ⟨cb, hcb⟩ : ∃ p, p = decide (a.cs = b.cs) := ⟨_, rfl⟩
  obtain ⟨zb, hzb⟩ : ∃ p, p = decide (a.zs = b.zs) := ⟨_, rfl⟩
  obtain ⟨R, hR⟩ : ∃ p, p = samB a b := ⟨_, rfl⟩
  rw [← hR]
  have HR : Hid (R = (pb && (cb && (zb && hdB a b)))) := by unfold Hid; rw [hR, samB, hpb, hcb, hzb]
  have HQ1 : Hid (∀ U : UW W0, Calls Try.prog 26 #[.slice a1 n1 k1, .slice b1 m1 l1] U.W (fun e w' => e = .returned (.bool pb) ∧ ∃ V : UW W0, w' = V.W)) := fun U => mk U (dr U (by rw [hpb]; exact slP_ _ _ _ _ _ (HP1.out.1.up (gu.trans U.up)) (HP1.out.2.up (gu.trans U.up)) hsm.1))
  have HQ2 : Hid (∀ U : UW W0, Calls Try.prog 27 #[.slice a2 n2 k2, .slice b2 m2 l2] U.W (fun e w' => e = .returned (.bool cb) ∧ ∃ V : UW W0, w' = V.W)) := fun U => mk U (dr U (by rw [hcb]; exact slC_ _ _ _ _ _ (HP2.out.1.up (gu.trans U.up)) (HP2.out.2.up (gu.trans U.up)) hsm.2.1))
  have HQ3 : Hid (∀ U : UW W0, Calls Try.prog 28 #[.slice a3 n3 k3, .slice b3 m3 l3, .func (.func 29) #[] #[]] U.W (fun e w' => e = .returned (.bool zb) ∧ ∃ V : UW W0, w' = V.W)) := fun U => mk U (dr U (by rw [hzb]; exact slR_ _ _ _ _ _ (HP3.out.1.up (gu.trans U.up)) (HP3.out.2.up (gu.trans U.up)) hsm.2.2.1 hsm.2.2.2))
  have HQ4 : Hid (∀ U : UW W0, Calls Try.prog 30 #[.agg #[.slice a1 n1 k1, .slice a2 n2 k2, .slice a3 n3 k3, .int .i32 a.turn, .int .i64 a.whose, .int .i8 a.fin, .int .i64 a.winner]] U.W (fun e w' => e = .returned (.agg #[.int .i32 a.turn, .int .i64 a.whose, .int .i8 a.fin, .int .i64 a.winner]) ∧ ∃ V : UW W0, w' = V.W)) := fun U => mk U (headOf_ _ a _ (StL.up HV.out (gu.trans U.up)))
  have HQ5 : Hid (∀ U : UW W0, Calls Try.prog 30 #[.agg #[.slice b1 m1 l1, .slice b2 m2 l2, .slice b3 m3 l3, .int .i32 b.turn, .int .i64 b.whose, .int .i8 b.fin, .int .i64 b.winner]] U.W (fun e w' => e = .returned (.agg #[.int .i32 b.turn, .int .i64 b.whose, .int .i8 b.fin, .int .i64 b.winner]) ∧ ∃ V : UW W0, w' = V.W)) := fun U => mk U (headOf_ _ b _ (StL.up HU.out (gu.trans U.up)))
  have hq := eqlHead a b
  clear c1 c2 g1 g2 mk dr hpb hcb hzb hR HV HU HP1 HP2 HP3 hsm gu
  generalize hdB a b = hb at HR hq
  subst hW0
  cases pb
  · go_enter Try.func15, Try.ntmps15
    go_wp2_with fail
    refine TailR.wp_region_seqC 26 (fun w' => ∃ U : UW ((w.alloc (.cells #[.slice a1 n1 k1, .slice a2 n2 k2, .slice a3 n3 k3, .int .i32 a.turn, .int .i64 a.whose, .int .i8 a.fin, .int .i64 a.winner] 27)).alloc (.cells #[.slice b1 m1 l1, .slice b2 m2 l2, .slice b3 m3 l3, .int .i32 b.turn, .int .i64 b.whose, .int .i8 b.fin, .int .i64 b.winner] 27)), w' = U.W) ⟨⟨_, (Up.refl _).drewN 1⟩, rfl⟩ (by kernel_rfl) (by kernel_rfl) ?_
    simp only [List.take_succ_cons, List.take_zero, List.drop_succ_cons, List.drop_zero]
    repeat (go_big_quiet_step (first | with_reducible exact HQ1.out _ | with_reducible exact HQ2.out _ | with_reducible exact HQ3.out _ | with_reducible exact HQ4.out _ | with_reducible exact HQ5.out _))
    refine wpQuiet_nil ?_
    intro _ hw'
    obtain ⟨U, hw''⟩ := hw'
    subst hw''
    go_wp2
    go_ret
    exact ⟨by rw [HR.out]; rfl, ((Up.refl w).alloc _).alloc _ |>.trans U.up⟩
  · cases cb
    · go_enter Try.func15, Try.ntmps15
      go_wp2_with fail
      refine TailR.wp_region_seqC 26 (fun w' => ∃ U : UW ((w.alloc (.cells #[.slice a1 n1 k1, .slice a2 n2 k2, .slice a3 n3 k3, .int .i32 a.turn, .int .i64 a.whose, .int .i8 a.fin, .int .i64 a.winner] 27)).alloc (.cells #[.slice b1 m1 l1, .slice b2 m2 l2, .slice b3 m3 l3, .int .i32 b.turn, .int .i64 b.whose, .int .i8 b.fin, .int .i64 b.winner] 27)), w' = U.W) ⟨⟨_, (Up.refl _).drewN 1⟩, rfl⟩ (by kernel_rfl) (by kernel_rfl) ?_
      simp only [List.take_succ_cons, List.take_zero, List.drop_succ_cons, List.drop_zero]
      repeat (go_big_quiet_step (first | with_reducible exact HQ1.out _ | with_reducible exact HQ2.out _ | with_reducible exact HQ3.out _ | with_reducible exact HQ4.out _ | with_reducible exact HQ5.out _))
      refine wpQuiet_nil ?_
      intro _ hw'
      obtain ⟨U, hw''⟩ := hw'
      subst hw''
      go_wp2
      go_ret
      exact ⟨by rw [HR.out]; rfl, ((Up.refl w).alloc _).alloc _ |>.trans U.up⟩
    · cases zb
      · go_enter Try.func15, Try.ntmps15
        go_wp2_with fail
        refine TailR.wp_region_seqC 26 (fun w' => ∃ U : UW ((w.alloc (.cells #[.slice a1 n1 k1, .slice a2 n2 k2, .slice a3 n3 k3, .int .i32 a.turn, .int .i64 a.whose, .int .i8 a.fin, .int .i64 a.winner] 27)).alloc (.cells #[.slice b1 m1 l1, .slice b2 m2 l2, .slice b3 m3 l3, .int .i32 b.turn, .int .i64 b.whose, .int .i8 b.fin, .int .i64 b.winner] 27)), w' = U.W) ⟨⟨_, (Up.refl _).drewN 1⟩, rfl⟩ (by kernel_rfl) (by kernel_rfl) ?_
        simp only [List.take_succ_cons, List.take_zero, List.drop_succ_cons, List.drop_zero]
        repeat (go_big_quiet_step (first | with_reducible exact HQ1.out _ | with_reducible exact HQ2.out _ | with_reducible exact HQ3.out _ | with_reducible exact HQ4.out _ | with_reducible exact HQ5.out _))
        refine wpQuiet_nil ?_
        intro _ hw'
        obtain ⟨U, hw''⟩ := hw'
        subst hw''
        go_wp2
        go_ret
        exact ⟨by rw [HR.out]; rfl, ((Up.refl w).alloc _).alloc _ |>.trans U.up⟩
      · go_enter Try.func15, Try.ntmps15
        go_wp2_with fail
        refine TailR.wp_region_seqC 26 (fun w' => ∃ U : UW ((w.alloc (.cells #[.slice a1 n1 k1, .slice a2 n2 k2, .slice a3 n3 k3, .int .i32 a.turn, .int .i64 a.whose, .int .i8 a.fin, .int .i64 a.winner] 27)).alloc (.cells #[.slice b1 m1 l1, .slice b2 m2 l2, .slice b3 m3 l3, .int .i32 b.turn, .int .i64 b.whose, .int .i8 b.fin, .int .i64 b.winner] 27)), w' = U.W) ⟨⟨_, (Up.refl _).drewN 1⟩, rfl⟩ (by kernel_rfl) (by kernel_rfl) ?_
        simp only [List.take_succ_cons, List.take_zero, List.drop_succ_cons, List.drop_zero]
        repeat (go_big_quiet_step (first | with_reducible exact HQ1.out _ | with_reducible exact HQ2.out _ | with_reducible exact HQ3.out _ | with_reducible exact HQ4.out _ | with_reducible exact HQ5.out _))
        refine wpQuiet_nil ?_
        intro _ hw'
        obtain ⟨U, hw''⟩ := hw'
        subst hw''
        go_wp2
        go_ret
        exact ⟨by rw [HR.out]; rfl, ((Up.refl w).alloc _).alloc _ |>.trans U.up⟩
end ST
end Go.Proofs.Ytpmdlpjedapbbaa
