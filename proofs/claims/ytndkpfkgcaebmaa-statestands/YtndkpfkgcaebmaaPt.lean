/-
  put: a number put into a zone.
-/
import Derived.Test.YtndkpfkgcaebmaaRd
namespace Go.Proofs.Ytndkpfkgcaebmaa
open Go.RowKit
attribute [local go_sem ↓] Go.wp_at_zero Go.wp_at_succ

theorem lc_take {W : World} {a : Option Addr} {n c k : Nat} {cs : List Value} (h : LC W (.slice a n c) 1 n cs) (hk : k ≤ n) : LC W (.slice a k c) 1 k (cs.take k) := by
  obtain ⟨h0, a', c', hv, hc, h⟩ := h
  cases hv
  refine ⟨by rw [List.length_take]; omega, a, c, rfl, by omega, fun hn => ?_⟩
  obtain ⟨b, off, ha, hcell⟩ := h (by omega)
  refine ⟨b, off, ha, fun j hj => ?_⟩
  rw [hcell j (by omega), List.getElem?_take, if_pos (by omega)]
theorem lc_drop {W : World} {a ad : Option Addr} {n c k : Nat} {cs : List Value} (h : LC W (.slice a n c) 1 n cs) (hk : k ≤ n) (had : k < n → ad = a.map (·.add (k * 1))) : LC W (.slice ad (n - k) (c - k)) 1 (n - k) (cs.drop k) := by
  obtain ⟨h0, a', c', hv, hc, h⟩ := h
  cases hv
  refine ⟨by rw [List.length_drop]; omega, ad, c - k, rfl, by omega, fun hn => ?_⟩
  obtain ⟨b, off, ha, hcell⟩ := h (by omega)
  refine ⟨b, off + k, by rw [had (by omega), ha]; simp [Addr.add], fun j hj => ?_⟩
  rw [Nat.add_assoc, hcell (k + j) (by omega), List.getElem?_drop]
namespace ST
theorem ivs_app (a b : List Int) : ivs (a ++ b) = ivs a ++ ivs b := by simp [ivs]
theorem ivs_take (l : List Int) (k : Nat) : (ivs l).take k = ivs (l.take k) := by simp [ivs]
theorem ivs_drop (l : List Int) (k : Nat) : (ivs l).drop k = ivs (l.drop k) := by simp [ivs]
def putS (s : Stt) (c pz pa : Int) : Stt := withZ s (s.zs.set (rnd pz s.zs.length) ((s.zs.getD (rnd pz s.zs.length) []).take (rnd pa ((s.zs.getD (rnd pz s.zs.length) []).length + 1)) ++ c :: (s.zs.getD (rnd pz s.zs.length) []).drop (rnd pa ((s.zs.getD (rnd pz s.zs.length) []).length + 1))))
set_option maxRecDepth 100000 in
set_option maxHeartbeats 8000000 in
theorem put_ (v : Value) (s : Stt) (c pz pa : Int) (w : World) (hs : StL w v s) (hsm : Small s) (hz : 0 < s.zs.length) :
    Calls Try.prog 18 #[v, .int .i64 c, .agg #[.int .i64 pz, .int .i64 pa]] w (CpPost w fun W v' => StL W v' (putS s c pz pa)) := by
  obtain ⟨Post, hPost⟩ : ∃ P : Ending → World → Prop, P = CpPost w fun W v' => StL W v' (putS s c pz pa) := ⟨_, rfl⟩
  rw [← hPost]
  have HP : Hid (Post = CpPost w fun W v' => StL W v' (putS s c pz pa)) := hPost
  obtain ⟨iT, hiT, i0, i1, i2⟩ := info_parts infoI
  have HS : Hid (StL w v s) := hs
  have HM : Hid (Small s) := hsm
  obtain ⟨vp, vc, vz, rfl, h1, h2, h3⟩ := hs
  obtain ⟨a1, k1, rfl, -, -⟩ := lc_at h1
  obtain ⟨a2, k2, rfl, -, -⟩ := lc_at h2
  obtain ⟨a3, k3, rfl, -, -⟩ := zl_at h3
  clear hPost h1 h2 h3 hsm
  unfold sv at HS ⊢
  go_enter Try.func18, Try.ntmps18
  go_wp2_with fail
  refine Calls.mono (copyState_ _ s _ (HS.out.up ((((Up.refl _).alloc _).alloc _).alloc _)) HM.out) ?_
  rintro e w1 ⟨v', rfl, so, u1⟩
  obtain ⟨q3, q5, q6⟩ := three_blocks w #[.slice a1 s.ps.length k1, .slice a2 s.cs.length k2, .slice a3 s.zs.length k3, .int .i32 s.turn, .int .i64 s.whose, .int .i8 s.fin, .int .i64 s.winner] #[.int .i64 pz, .int .i64 pa] stZ 27 42 27
  have g5 : w1.heap[w.heap.size + 1]? = some (.cells #[.int .i64 pz, .int .i64 pa] 42 (0, 0)) := u1.heap q5
  have g6 : w1.heap[w.heap.size + 1 + 1]? = some (.cells stZ 27 (0, 0)) := u1.heap q6
  have hu1 : Up w w1 := ((((Up.refl _).alloc _).alloc _).alloc _).trans u1
  have so2 : SO (w.heap.size + 3) w1 v' s := so.less (by simp)
  have hsz : w.heap.size + 3 ≤ w1.heap.size := by have := u1.size; simp at this; omega
  clear q3 q5 q6 u1 so
  obtain ⟨vp, vc, vz, rfl, po, co, zo⟩ := id so2
  obtain ⟨xa1, xk1, rfl⟩ := row_val po
  obtain ⟨xa2, xk2, rfl⟩ := row_val co
  obtain ⟨vs, zo1, zo2⟩ := id zo
  obtain ⟨gz, zk, hgz, -, rfl⟩ := row_some zo1 hz
  obtain ⟨nz, hnz⟩ : ∃ n, n = s.zs.length := ⟨_, rfl⟩
  have hzl : rnd pz nz < nz := rnd_lt pz nz (by rw [hnz]; exact hz)
  obtain ⟨z, hzd⟩ : ∃ z, z = rnd pz nz := ⟨_, rfl⟩
  rw [← hzd] at hzl
  obtain ⟨l, hld⟩ : ∃ l, l = s.zs.getD z [] := ⟨_, rfl⟩
  have hrow := zo2 z (by rw [← hnz]; exact hzl)
  rw [← hld] at hrow
  have hlen : l.length ≤ 4294967296 := by rw [hld]; exact HM.out.2.2.2 z (by rw [← hnz]; exact hzl)
  have hnzb : nz ≤ 4294967296 := by rw [hnz]; exact HM.out.2.2.1
  obtain ⟨ra, rc, hrv⟩ := row_val hrow
  have hrc : l.length ≤ rc := by
    obtain ⟨-, _, _, e9, hc9, -⟩ := own_lc hrow
    rw [hrv] at e9
    cases e9
    exact hc9
  have hzc : w1.cell? ⟨gz, z, none⟩ = some (.slice ra l.length rc) := by
    have hl0 := zo1.1
    rw [World.ownsRow.cellAt zo1 z (by omega), ← hrv, List.getD_eq_getElem?_getD, List.getElem?_eq_getElem (by omega)]
    rfl
  rw [hrv] at hrow
  have HRow : Hid (IL w1 (.slice ra l.length rc) l) := IRow.il hrow
  have HPS : Hid (putS s c pz pa = withZ s (s.zs.set z (l.take (rnd pa (l.length + 1)) ++ c :: l.drop (rnd pa (l.length + 1))))) := by unfold Hid; rw [putS, ← hnz, ← hzd, ← hld]
  have hat : rnd pa (l.length + 1) < l.length + 1 := rnd_lt pa _ (by omega)
  have HR2 : Hid (∀ W, Calls Try.prog 17 #[.int .i64 pa, .int .i64 ((l.length : Int) + 1)] W fun e w' => e = .returned (.int .i64 (rnd pa (l.length + 1) : Nat)) ∧ w' = W) := fun W => by
    have := round_ pa (l.length + 1) (by omega) (by omega) W
    rwa [Int.natCast_add] at this
  have HR1 : Hid (∀ W, Calls Try.prog 17 #[.int .i64 pz, .int .i64 (nz : Int)] W fun e w' => e = .returned (.int .i64 (z : Nat)) ∧ w' = W) := fun W => by
    rw [hzd]; exact round_ pz nz (by omega) (by omega) W
  obtain ⟨at_, had⟩ : ∃ k, k = rnd pa (l.length + 1) := ⟨_, rfl⟩
  rw [← had] at hat HPS HR2
  have HSO : Hid _ := so2
  have HG : Hid (w1.heap[w.heap.size + 1]? = _ ∧ w1.heap[w.heap.size + 1 + 1]? = _ ∧ w.heap.size + 3 ≤ w1.heap.size ∧ Up w w1 ∧ w1.cell? ⟨gz, z, none⟩ = _ ∧ w.heap.size + 3 ≤ gz) := ⟨g5, g6, hsz, hu1, hzc, hgz⟩
  clear so2 g5 g6 hsz hu1 hzc hgz hrow zo zo1 zo2 po co hrv hzd hld had
  rw [← hnz] at HSO ⊢
  obtain ⟨n, hn⟩ : ∃ n, n = l.length := ⟨_, rfl⟩
  have HN : Hid (n = l.length) := hn
  have HNz : Hid (nz = s.zs.length) := hnz
  rw [← hn] at hlen hat HRow HR2 HG hrc
  clear hn hnz
  unfold sv
  have c50 : ∀ o, (w1.alloc o).cell? ⟨w.heap.size + 1, 0, none⟩ = some (.int .i64 pz) := fun o => ((Up.refl w1).alloc o).cell (by simp [World.cell?, HG.out.1])
  have c51 : ∀ o, (w1.alloc o).cell? ⟨w.heap.size + 1, 1, none⟩ = some (.int .i64 pa) := fun o => ((Up.refl w1).alloc o).cell (by simp [World.cell?, HG.out.1])
  have cz : ∀ o, (w1.alloc o).cell? ⟨gz, z, none⟩ = some (.slice ra n rc) := fun o => ((Up.refl w1).alloc o).cell HG.out.2.2.2.2.1
  have hzl2 : (z : Int) < (nz : Int) := by omega
  have e4 : IntKind.i64.wrap ((n : Int) + 1) = (n : Int) + 1 := by rw [IntKind.wrap_i64]; omega
  go_wp2_with fail
  refine Calls.mono (HR1.out _) ?_
  rintro e w2 ⟨rfl, rfl⟩
  clear HR1
  go_wp2_with fail
  go_quiet (exact Calls.quiet_of_same (HR2.out _))
  clear HR2 e4
  obtain ⟨W2, hW2⟩ : ∃ W, W = (w1.alloc (.cells #[.slice xa1 s.ps.length xk1, .slice xa2 s.cs.length xk2, .slice (some ⟨gz, 0, none⟩) nz zk, .int .i32 s.turn, .int .i64 s.whose, .int .i8 s.fin, .int .i64 s.winner] 27)).drewN nq := ⟨_, rfl⟩
  rw [← hW2]
  have HU2 : Hid (Up w1 W2 ∧ W2.heap[w1.heap.size]? = some (.cells #[.slice xa1 s.ps.length xk1, .slice xa2 s.cs.length xk2, .slice (some ⟨gz, 0, none⟩) nz zk, .int .i32 s.turn, .int .i64 s.whose, .int .i8 s.fin, .int .i64 s.winner] 27 (0, 0)) ∧ w1.heap.size < W2.heap.size) := by
    unfold Hid
    rw [hW2]
    exact ⟨((Up.refl _).alloc _).drewN _, heap_alloc_new w1 _, by simp [World.drewN]⟩
  have HF : Hid (∀ W, Up W2 W → W.cell? ⟨w1.heap.size, 2, none⟩ = some (.slice (some ⟨gz, 0, none⟩) nz zk) ∧ W.cell? ⟨gz, z, none⟩ = some (.slice ra n rc) ∧ LC W (.slice ra n rc) 1 n (ivs l)) := fun W u => by
    refine ⟨u.cell (seven_cells HU2.out.2.1).2.2.1, (HU2.out.1.trans u).cell HG.out.2.2.2.2.1, ?_⟩
    have := HRow.out.up (HU2.out.1.trans u)
    unfold IL at this
    rw [← HN.out] at this
    exact this
  clear hW2 c50 c51 cz
  obtain ⟨f1, f2, -⟩ := HF.out W2 (Up.refl _)
  have hatn : at_ ≤ rc := by omega
  have HO1 : Hid (∀ u ∈ ivs (l.take at_), u.oneCell' = true) := ivs_one _
  have HL1 : Hid (LC W2 (.slice ra at_ rc) 1 at_ (ivs (l.take at_))) := by
    have := lc_take (HF.out W2 (Up.refl _)).2.2 (k := at_) (by omega)
    rw [ivs_take] at this
    exact this
  have HFz : Hid (∀ W, Up w1 W → W.frozen? ⟨gz, z, none⟩ = false ∧ w1.heap.size ≠ gz ∧ w.heap.size + 1 + 1 ≠ gz) := fun W u => by
    obtain ⟨vp9, vc9, vz9, hv9, -, -, vs9, h9, -⟩ := HSO.out
    simp only [sv, Value.agg.injEq, Array.mk.injEq, List.cons.injEq, and_true] at hv9
    obtain ⟨rfl, rfl, rfl⟩ := hv9
    rcases h9.2 with ⟨h', _⟩ | ⟨g9, c9, cur9, h', hb9, hg9, -⟩
    · simp at h'
    · simp only [Value.slice.injEq, Option.some.injEq, Addr.mk.injEq, and_true] at h'
      obtain ⟨rfl, -⟩ := h'
      have hlt9 := (Array.getElem?_eq_some_iff.1 hg9).1
      exact ⟨seven_f (u.heap hg9) z, by omega, by omega⟩
  have HS2 : Hid (w.heap.size + 3 ≤ W2.heap.size) := by have h1 := HG.out.2.2.1; have h2 := HU2.out.1.size; unfold Hid; omega
  have HEnd : Hid (∀ xa5 xk5 w5, Up W2 w5 → w5.ownsRow W2.heap.size 3 1 (.slice xa5 (at_ + 1 + (n - at_)) xk5) (at_ + 1 + (n - at_)) (ivs (l.take at_ ++ [c]) ++ ivs (l.drop at_)) →
      (w5.setCell ⟨gz, z, none⟩ (.slice xa5 (at_ + 1 + (n - at_)) xk5)).heap[w1.heap.size]? = some (.cells #[.slice xa1 s.ps.length xk1, .slice xa2 s.cs.length xk2, .slice (some ⟨gz, 0, none⟩) nz zk, .int .i32 s.turn, .int .i64 s.whose, .int .i8 s.fin, .int .i64 s.winner] 27 (0, 0)) ∧
      (w5.setCell ⟨gz, z, none⟩ (.slice xa5 (at_ + 1 + (n - at_)) xk5)).heap[w.heap.size + 1 + 1]? = some (.cells stZ 27 (0, 0)) ∧
      SO (w.heap.size + 3) (w5.setCell ⟨gz, z, none⟩ (.slice xa5 (at_ + 1 + (n - at_)) xk5)) (.agg #[.slice xa1 s.ps.length xk1, .slice xa2 s.cs.length xk2, .slice (some ⟨gz, 0, none⟩) nz zk, .int .i32 s.turn, .int .i64 s.whose, .int .i8 s.fin, .int .i64 s.winner]) (putS s c pz pa) ∧ Up w (w5.setCell ⟨gz, z, none⟩ (.slice xa5 (at_ + 1 + (n - at_)) xk5))) := fun xa5 xk5 w5 u h5 => by
    have hf := HFz.out w1 (Up.refl _)
    refine ⟨set_other (u.heap HU2.out.2.1) hf.2.1, set_other ((HU2.out.1.trans u).heap HG.out.2.1) hf.2.2, ?_, Up.set (HG.out.2.2.2.1.trans (HU2.out.1.trans u)) _ _ (by have := HG.out.2.2.2.2.2; show w.heap.size ≤ gz; omega)⟩
    rw [HPS.out]
    have hnn := HN.out
    have hio : IRow (w.heap.size + 3) w5 (.slice xa5 (at_ + 1 + (n - at_)) xk5) (l.take at_ ++ c :: l.drop at_) := by
      have e1 : (l.take at_ ++ c :: l.drop at_).length = at_ + 1 + (n - at_) := by simp; omega
      have e2 : ivs (l.take at_ ++ c :: l.drop at_) = ivs (l.take at_ ++ [c]) ++ ivs (l.drop at_) := by simp [ivs]
      unfold IRow
      rw [e1, e2]
      exact own_less h5 HS2.out
    have hso := (SO.up HSO.out (HU2.out.1.trans u))
    rw [HNz.out] at hso
    have := SO.put hso (by rw [← HNz.out]; exact hzl) hio
    rw [← HNz.out] at this
    exact this
  go_wp2_with (first
    | (refine wpList_slice_h (by rfl) 36 (.tmp 34) (.tmp 35) (by rfl) 3 1 Try.underlying36 (by rw [hiT]; simp [i1]) ra n rc at_ (by rfl) (by rfl) (by omega) ?_)
    | (at_builtin; refine wpList_append_lc (by rfl) (.tmp 29) (.tmp 36) 36 (by rfl) W2.heap.size 3 iT (.int .i64 0) 1 8 Try.underlying36 hiT i0 i1 i2 (by rfl) (by decide) (.slice none 0 0) 0 [] (by rfl) (World.ownsRow_nil _ _ _ _) (.slice ra at_ rc) at_ (ivs (l.take at_)) (by rfl) HL1.out HO1.out (by unfold maxLen; omega) (by omega) (Nat.le_refl _) ?_; intro v3 w3 hin hg1; have u3 : Up W2 w3 := made_up hg1; obtain ⟨xa3, xk3, hx3⟩ := row_val hin; have HI3 : Hid (w3.ownsRow W2.heap.size 3 1 v3 at_ (ivs (l.take at_))) := (by unfold Hid; have := hin; simpa using this); rw [Nat.zero_add] at hx3; subst hx3; have HU3 : Hid (Up W2 w3) := u3; have HM3 : Hid (∀ j u, [Value.int .i64 c][j]? = some u → (w3.alloc (.cells #[.int .i64 c] 3)).cell? ((⟨w3.heap.size, 0, none⟩ : Addr).add j) = some u) := (fun j u hj => match j, hj with | 0, hj => by (simp at hj; subst hj; simp [Addr.add]) | j + 1, hj => by simp at hj); have HS3 : Hid (W2.heap.size ≤ (w3.alloc (.cells #[.int .i64 c] 3)).heap.size) := (by unfold Hid; have := HU3.out.size; simp; omega); clear hin hg1 u3)
    | (at_builtin; (refine wpList_append_own _ (by rfl) (.tmp 38) (.tmp 40) 36 (by rfl) W2.heap.size 3 iT (.int .i64 0) 1 8 Try.underlying36 hiT i0 i1 i2 (by rfl) (by decide) (.slice xa3 at_ xk3) at_ (ivs (l.take at_)) (by rfl) (row_up HI3.out ((Up.refl _).alloc _)) ⟨w3.heap.size, 0, none⟩ 1 1 [.int .i64 c] (by rfl) (by rfl) HM3.out (by simp [Value.oneCell']) (by unfold maxLen; omega) (by omega) HS3.out ?_; intro v4 w4 hin hg1 _; have u4 : Up W2 w4 := (by refine Below.grown (HU3.out.alloc _) hg1 HS3.out ?_; intro k hk; exact (HI3.out.lt k hk).1); obtain ⟨xa4, xk4, hx4⟩ := row_val hin; have HI4 : Hid (w4.ownsRow W2.heap.size 3 1 v4 (at_ + 1) (ivs (l.take at_ ++ [c]))) := (by unfold Hid; rw [ivs_app]; exact hin); subst hx4; have HU4 : Hid (Up W2 w4) := u4; obtain ⟨f1, f2, -⟩ := HF.out w4 u4; clear hin hg1 u4))
    | (refine wpList_slice_l (by rfl) 36 (.tmp 47) (.tmp 48) (by rfl) 3 1 Try.underlying36 (by rw [hiT]; simp [i1]) ra n rc at_ (by rfl) (by rfl) (by omega) hrc ?_; intro ad' had)
    | (at_builtin; (refine wpList_append_lc (by rfl) (.tmp 42) (.tmp 49) 36 (by rfl) W2.heap.size 3 iT (.int .i64 0) 1 8 Try.underlying36 hiT i0 i1 i2 (by rfl) (by decide) (.slice xa4 (at_ + 1) xk4) (at_ + 1) (ivs (l.take at_ ++ [c])) (by rfl) HI4.out (.slice ad' (n - at_) (rc - at_)) (n - at_) (ivs (l.drop at_)) (by rfl) (by rw [← ivs_drop]; exact lc_drop (HF.out w4 HU4.out).2.2 (by omega) had) (ivs_one _) (by unfold maxLen; omega) (by omega) HU4.out.size ?_; intro v5 w5 hin hg1; have u5 : Up W2 w5 := (by refine Below.grown HU4.out hg1 HU4.out.size ?_; intro k hk; exact (HI4.out.lt k hk).1); obtain ⟨xa5, xk5, hx5⟩ := row_val hin; subst hx5; have HE : Hid _ := HEnd.out xa5 xk5 w5 u5 hin; obtain ⟨f1, f2, -⟩ := HF.out w5 u5; have f3 := (HFz.out w5 (HU2.out.1.trans u5)).1; obtain ⟨q0, q1, q2, q3, q4, q5, q6⟩ := seven_cells HE.out.1; obtain ⟨r0, r1, r2, r3, r4, r5, r6⟩ := seven_cells HE.out.2.1; have rf := seven_f HE.out.2.1; clear hin hg1 u5)))
  obtain ⟨p0, p1, p2, p3, p4, p5, p6⟩ := seven_cells (seven_set (x0 := .slice xa1 s.ps.length xk1) (x1 := .slice xa2 s.cs.length xk2) (x2 := .slice (some ⟨gz, 0, none⟩) nz zk) (x3 := .int .i32 s.turn) (x4 := .int .i64 s.whose) (x5 := .int .i8 s.fin) (x6 := .int .i64 s.winner) HE.out.2.1)
  refine bodyPost_ret (v := .agg #[.slice xa1 s.ps.length xk1, .slice xa2 s.cs.length xk2, .slice (some ⟨gz, 0, none⟩) nz zk, .int .i32 s.turn, .int .i64 s.whose, .int .i8 s.fin, .int .i64 s.winner]) (by simp [results, Try.results18, go_sem, p0, p1, p2, p3, p4, p5, p6]) rfl ?_
  rw [HP.out]
  have hs1 : w.heap.size + 1 + 1 < w.heap.size + 3 := by omega
  have hb : w.heap.size ≤ w.heap.size + 1 + 1 := by omega
  refine ⟨_, rfl, ?_, Up.set (Up.set (Up.set (Up.set (Up.set (Up.set (Up.set HE.out.2.2.2 _ _ hb) _ _ hb) _ _ hb) _ _ hb) _ _ hb) _ _ hb) _ _ hb⟩
  exact SO.sl ((((((((SO.set HE.out.2.2.1 hs1).set hs1).set hs1).set hs1).set hs1).set hs1).set hs1))
end ST
end Go.Proofs.Ytndkpfkgcaebmaa
