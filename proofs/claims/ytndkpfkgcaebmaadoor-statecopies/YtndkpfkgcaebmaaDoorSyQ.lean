/-
  StateCopies: the law's walk.
-/
import Derived.Test.YtndkpfkgcaebmaaDoorBbToCya
import Derived.Test.YtndkpfkgcaebmaaDoorWsaToSa
import Derived.Test.YtndkpfkgcaebmaaDoorSpToSq
import Derived.Test.YtndkpfkgcaebmaaDoorSzToWk
import Derived.Test.YtndkpfkgcaebmaaDoorBxQ
namespace Go.Proofs.YtndkpfkgcaebmaaDoor
open Go.RowKit
attribute [local go_sem ↓] Go.wp_at_zero Go.wp_at_succ

namespace ST
theorem samB_eqS (a b : Stt) : samB a b = eqS a b := by
  simp only [samB, hdB, eqS]
  cases decide (a.ps = b.ps) <;> cases decide (a.cs = b.cs) <;> cases decide (a.zs = b.zs) <;> simp
theorem eqS_self (s : Stt) : eqS s s = true := by simp [eqS]
theorem stIn_up {W W' : World} {lo hi : Nat} {v : Value} (h : BG.StIn W lo hi v) (hh : hi ≤ W.heap.size) (u : Up W W') : BG.StIn W' lo hi v := h.below (gb := W.heap.size) u hh
/- the states in memory: the two that came, the wide one, its copies -/
structure CW (w W : World) (As At Ai Aa Ab : Array Value) (bi ba bb li hi la ha lb hb : Nat) (s t : Stt) : Prop where
  up : Up w W
  s1 : W.heap[w.heap.size]? = some (.cells As 27 (0, 0))
  t1 : W.heap[w.heap.size + 1]? = some (.cells At 27 (0, 0))
  i1 : W.heap[bi]? = some (.cells Ai 27 (0, 0))
  a1 : W.heap[ba]? = some (.cells Aa 27 (0, 0))
  b1 : W.heap[bb]? = some (.cells Ab 27 (0, 0))
  s2 : StL W (.agg As) s
  t2 : StL W (.agg At) t
  i2 : WSA li W (.agg Ai) s
  a2 : StL W (.agg Aa) s
  b2 : StL W (.agg Ab) s
  i3 : BG.StIn W li hi (.agg Ai)
  a3 : BG.StIn W la ha (.agg Aa)
  b3 : BG.StIn W lb hb (.agg Ab)
  ord : w.heap.size ≤ li ∧ hi < la ∧ ha < lb ∧ li ≤ hi ∧ la ≤ ha ∧ lb ≤ hb ∧ hb ≤ W.heap.size
theorem CW.mono {w W W' : World} {As At Ai Aa Ab : Array Value} {bi ba bb li hi la ha lb hb : Nat} {s t : Stt} (h : CW w W As At Ai Aa Ab bi ba bb li hi la ha lb hb s t) (u : Up W W') : CW w W' As At Ai Aa Ab bi ba bb li hi la ha lb hb s t :=
  ⟨h.up.trans u, u.heap h.s1, u.heap h.t1, u.heap h.i1, u.heap h.a1, u.heap h.b1, h.s2.up u, h.t2.up u, h.i2.up u, h.a2.up u, h.b2.up u, stIn_up h.i3 (by have := h.ord; omega) u, stIn_up h.a3 (by have := h.ord; omega) u, stIn_up h.b3 (by have := h.ord; omega) u, by have := h.ord; have := u.size; omega⟩
set_option maxRecDepth 100000 in
set_option maxHeartbeats 8000000 in
theorem copies (v u : Value) (s t : Stt) (w : World) (hs : StL w v s) (ht : StL w u t) (hf : Far s) (hft : Far t) :
    Calls Tryd.prog 3 #[v, u] w fun e w' => e = .returned (.bool true) ∧ Up w w' := by
  obtain ⟨Post, hPost⟩ : ∃ P : Ending → World → Prop, P = fun e w' => e = .returned (.bool true) ∧ Up w w' := ⟨_, rfl⟩
  rw [← hPost]
  have HP : Hid (Post = fun e w' => e = .returned (.bool true) ∧ Up w w') := hPost
  have HS : Hid (∀ W, Up w W → StL W v s) := fun W k => hs.up k
  have HT : Hid (∀ W, Up w W → StL W u t) := fun W k => ht.up k
  have HL : Hid (∀ W, Up w W → Calls Tryd.prog 5 #[v] W fun e w' => e = .returned (.bool (decide (2147483647 < lenS s))) ∧ Up W w') := fun W k => long_ v s W (hs.up k) hf
  have HL2 : Hid (∀ W, Up w W → Calls Tryd.prog 5 #[u] W fun e w' => e = .returned (.bool (decide (2147483647 < lenS t))) ∧ Up W w') := fun W k => long_ u t W (ht.up k) hft
  obtain ⟨vp, vc, vz, rfl, p1, p2, p3⟩ := hs
  obtain ⟨a1, ak1, rfl, -, -⟩ := lc_at p1
  obtain ⟨a2, ak2, rfl, -, -⟩ := lc_at p2
  obtain ⟨a3, ak3, rfl, -, -⟩ := zl_at p3
  obtain ⟨up, uc, uz, rfl, q1, q2, q3⟩ := ht
  obtain ⟨b1, bk1, rfl, -, -⟩ := lc_at q1
  obtain ⟨b2, bk2, rfl, -, -⟩ := lc_at q2
  obtain ⟨b3, bk3, rfl, -, -⟩ := zl_at q3
  clear hPost p1 p2 p3 q1 q2 q3 hf hft
  have HSV : Hid (∀ x y z, sv x y z s = .agg #[x, y, z, .int .i32 s.turn, .int .i64 s.whose, .int .i8 s.fin, .int .i64 s.winner]) := fun _ _ _ => rfl
  unfold sv at HL HL2 HS HT ⊢
  obtain ⟨nc, hm⟩ : ∃ m, m = s.cs.length := ⟨_, rfl⟩
  obtain ⟨nz, hnz⟩ : ∃ m, m = s.zs.length := ⟨_, rfl⟩
  obtain ⟨np, hnp⟩ : ∃ m, m = s.ps.length := ⟨_, rfl⟩
  have HN : Hid (np = s.ps.length ∧ nc = s.cs.length ∧ nz = s.zs.length) := ⟨hnp, hm, hnz⟩
  rw [← hm, ← hnz, ← hnp] at HL HS ⊢
  clear hm hnz hnp
  generalize s.turn = tu at HSV HL HS ⊢
  generalize s.whose = wo at HSV HL HS ⊢
  generalize s.fin = fi at HSV HL HS ⊢
  generalize s.winner = wi at HSV HL HS ⊢
  generalize t.ps.length = mp at HL2 HT ⊢
  generalize t.cs.length = mc at HL2 HT ⊢
  generalize t.zs.length = mz at HL2 HT ⊢
  generalize t.turn = tu2 at HL2 HT ⊢
  generalize t.whose = wo2 at HL2 HT ⊢
  generalize t.fin = fi2 at HL2 HT ⊢
  generalize t.winner = wi2 at HL2 HT ⊢
  by_cases hlong : 2147483647 < lenS s
  · rw [decide_eq_true hlong] at HL
    clear HS HT HL2 hlong
    go_enter Tryd.func3, Tryd.ntmps3
    go_wp2_with fail
    obtain ⟨g1, g2, gs, gu⟩ := two_blocks w #[.slice a1 np ak1, .slice a2 nc ak2, .slice a3 nz ak3, .int .i32 tu, .int .i64 wo, .int .i8 fi, .int .i64 wi] #[.slice b1 mp bk1, .slice b2 mc bk2, .slice b3 mz bk3, .int .i32 tu2, .int .i64 wo2, .int .i8 fi2, .int .i64 wi2] 27
    refine Calls.mono (HL.out _ gu) ?_
    rintro e w1 ⟨rfl, u1⟩
    have HU1 : Hid (Up w w1) := gu.trans u1
    have HS1 : Hid (w1.heap[w.heap.size]? = some (.cells #[.slice a1 np ak1, .slice a2 nc ak2, .slice a3 nz ak3, .int .i32 tu, .int .i64 wo, .int .i8 fi, .int .i64 wi] 27 (0, 0))) := u1.heap g1
    have HT1 : Hid (w1.heap[w.heap.size + 1]? = some (.cells #[.slice b1 mp bk1, .slice b2 mc bk2, .slice b3 mz bk3, .int .i32 tu2, .int .i64 wo2, .int .i8 fi2, .int .i64 wi2] 27 (0, 0))) := u1.heap g2
    clear HL u1 g1 g2 gs gu
    go_wp2
    rw [HP.out]
    exact ⟨rfl, HU1.out⟩
  · rw [decide_eq_false hlong] at HL
    by_cases hlong2 : 2147483647 < lenS t
    · rw [decide_eq_true hlong2] at HL2
      clear HS HT hlong hlong2
      go_enter Tryd.func3, Tryd.ntmps3
      go_wp2_with fail
      obtain ⟨g1, g2, gs, gu⟩ := two_blocks w #[.slice a1 np ak1, .slice a2 nc ak2, .slice a3 nz ak3, .int .i32 tu, .int .i64 wo, .int .i8 fi, .int .i64 wi] #[.slice b1 mp bk1, .slice b2 mc bk2, .slice b3 mz bk3, .int .i32 tu2, .int .i64 wo2, .int .i8 fi2, .int .i64 wi2] 27
      refine Calls.mono (HL.out _ gu) ?_
      rintro e w1 ⟨rfl, u1⟩
      have HU1 : Hid (Up w w1) := gu.trans u1
      have HS1 : Hid (w1.heap[w.heap.size]? = some (.cells #[.slice a1 np ak1, .slice a2 nc ak2, .slice a3 nz ak3, .int .i32 tu, .int .i64 wo, .int .i8 fi, .int .i64 wi] 27 (0, 0))) := u1.heap g1
      have HT1 : Hid (w1.heap[w.heap.size + 1]? = some (.cells #[.slice b1 mp bk1, .slice b2 mc bk2, .slice b3 mz bk3, .int .i32 tu2, .int .i64 wo2, .int .i8 fi2, .int .i64 wi2] 27 (0, 0))) := u1.heap g2
      clear HL u1 g1 g2 gs gu
      obtain ⟨t0, t1, t2, t3, t4, t5, t6⟩ := seven_cells HT1.out
      go_wp2_with fail
      clear t0 t1 t2 t3 t4 t5 t6
      refine Calls.mono (HL2.out _ HU1.out) ?_
      rintro e w2 ⟨rfl, u2⟩
      have HU2 : Hid (Up w w2) := HU1.out.trans u2
      clear HL2 u2 HS1 HT1 HU1
      go_wp2
      rw [HP.out]
      exact ⟨rfl, HU2.out⟩
    · rw [decide_eq_false hlong2] at HL2
      have HSm : Hid (Small s) := small_of (by omega)
      have HTm : Hid (Small t) := small_of (by omega)
      clear hlong hlong2
      go_enter Tryd.func3, Tryd.ntmps3
      go_wp2_with fail
      obtain ⟨g1, g2, gs, gu⟩ := two_blocks w #[.slice a1 np ak1, .slice a2 nc ak2, .slice a3 nz ak3, .int .i32 tu, .int .i64 wo, .int .i8 fi, .int .i64 wi] #[.slice b1 mp bk1, .slice b2 mc bk2, .slice b3 mz bk3, .int .i32 tu2, .int .i64 wo2, .int .i8 fi2, .int .i64 wi2] 27
      refine Calls.mono (HL.out _ gu) ?_
      rintro e w1 ⟨rfl, u1⟩
      have HU1 : Hid (Up w w1) := gu.trans u1
      have HS1 : Hid (w1.heap[w.heap.size]? = some (.cells #[.slice a1 np ak1, .slice a2 nc ak2, .slice a3 nz ak3, .int .i32 tu, .int .i64 wo, .int .i8 fi, .int .i64 wi] 27 (0, 0))) := u1.heap g1
      have HT1 : Hid (w1.heap[w.heap.size + 1]? = some (.cells #[.slice b1 mp bk1, .slice b2 mc bk2, .slice b3 mz bk3, .int .i32 tu2, .int .i64 wo2, .int .i8 fi2, .int .i64 wi2] 27 (0, 0))) := u1.heap g2
      clear HL u1 g1 g2 gs gu
      obtain ⟨t0, t1, t2, t3, t4, t5, t6⟩ := seven_cells HT1.out
      go_wp2_with fail
      clear t0 t1 t2 t3 t4 t5 t6
      refine Calls.mono (HL2.out _ HU1.out) ?_
      rintro e w2 ⟨rfl, u2⟩
      have HU2 : Hid (Up w w2) := HU1.out.trans u2
      have HS2 : Hid (w2.heap[w.heap.size]? = some (.cells #[.slice a1 np ak1, .slice a2 nc ak2, .slice a3 nz ak3, .int .i32 tu, .int .i64 wo, .int .i8 fi, .int .i64 wi] 27 (0, 0))) := u2.heap HS1.out
      have HT2 : Hid (w2.heap[w.heap.size + 1]? = some (.cells #[.slice b1 mp bk1, .slice b2 mc bk2, .slice b3 mz bk3, .int .i32 tu2, .int .i64 wo2, .int .i8 fi2, .int .i64 wi2] 27 (0, 0))) := u2.heap HT1.out
      clear HL2 u2 HS1 HT1 HU1
      obtain ⟨s0, s1, s2, s3, s4, s5, s6⟩ := seven_cells HS2.out
      go_wp2_with fail
      clear s0 s1 s2 s3 s4 s5 s6
      refine Calls.mono (wideStateA_ _ s w2 (HS.out _ HU2.out) HSm.out) ?_
      rintro e w3 ⟨x, rfl, hx, u3⟩
      have HI3 : Hid (WSA w2.heap.size w3 x s) := hx
      have HUi : Hid (Up w2 w3) := u3
      obtain ⟨x1, x2, x3, hxv, ⟨g1, -, rfl, -⟩, ⟨g2, -, rfl, -⟩, ⟨g3, vs3, -, rfl, -⟩⟩ := hx
      rw [HSV.out, ← HN.out.1, ← HN.out.2.1, ← HN.out.2.2] at hxv
      subst hxv
      clear u3
      obtain ⟨i1, hi1⟩ : ∃ a, a = some (⟨g1, 0, none⟩ : Addr) := ⟨_, rfl⟩
      obtain ⟨i2, hi2⟩ : ∃ a, a = some (⟨g2, 0, none⟩ : Addr) := ⟨_, rfl⟩
      obtain ⟨i3, hi3⟩ : ∃ a, a = some (⟨g3, 0, none⟩ : Addr) := ⟨_, rfl⟩
      rw [← hi1, ← hi2, ← hi3] at HI3 ⊢
      clear hi1 hi2 hi3
      obtain ⟨ik1, hk1⟩ : ∃ a, a = np + 64 := ⟨_, rfl⟩
      obtain ⟨ik2, hk2⟩ : ∃ a, a = nc + 64 := ⟨_, rfl⟩
      obtain ⟨ik3, hk3⟩ : ∃ a, a = nz + 64 := ⟨_, rfl⟩
      rw [← hk1, ← hk2, ← hk3] at HI3 ⊢
      clear hk1 hk2 hk3
      obtain ⟨W3, hW3⟩ : ∃ W, W = w3.alloc (.cells #[.slice i1 np ik1, .slice i2 nc ik2, .slice i3 nz ik3, .int .i32 tu, .int .i64 wo, .int .i8 fi, .int .i64 wi] 27) := ⟨_, rfl⟩
      have hb3 : W3.heap[w3.heap.size]? = some (.cells #[.slice i1 np ik1, .slice i2 nc ik2, .slice i3 nz ik3, .int .i32 tu, .int .i64 wo, .int .i8 fi, .int .i64 wi] 27 (0, 0)) := by rw [hW3]; exact heap_alloc_new w3 _
      have hu3 : Up w3 W3 := by rw [hW3]; exact (Up.refl _).alloc _
      have hz3 : W3.heap.size = w3.heap.size + 1 := by rw [hW3]; simp
      have HB3 : Hid _ := hb3
      have HV3 : Hid (Up w3 W3) := hu3
      have HZ3 : Hid (W3.heap.size = w3.heap.size + 1) := hz3
      obtain ⟨ii0, ii1, ii2, ii3, ii4, ii5, ii6⟩ := seven_cells hb3
      rw [hW3] at ii0 ii1 ii2 ii3 ii4 ii5 ii6
      clear hb3 hu3 hz3
      go_wp2_with fail
      rw [← hW3]
      clear ii0 ii1 ii2 ii3 ii4 ii5 ii6 hW3
      refine Calls.mono (copyA_ _ s W3 (HI3.out.up HV3.out).ws.sl HSm.out) ?_
      rintro e w4 ⟨x, rfl, hx, u4⟩
      have HA4 : Hid (SOA W3.heap.size w4 x s) := hx
      have HUa : Hid (Up W3 w4) := u4
      obtain ⟨v1, v2, v3, hxv, h1, h2, vs4, h3, -⟩ := hx
      obtain ⟨x1, xk1, rfl⟩ := row_val h1
      obtain ⟨x2, xk2, rfl⟩ := row_val h2
      obtain ⟨x3, xk3, rfl⟩ := row_val h3
      rw [HSV.out, ← HN.out.1, ← HN.out.2.1, ← HN.out.2.2] at hxv
      subst hxv
      clear u4 h1 h2 h3
      obtain ⟨W4, hW4⟩ : ∃ W, W = w4.alloc (.cells #[.slice x1 np xk1, .slice x2 nc xk2, .slice x3 nz xk3, .int .i32 tu, .int .i64 wo, .int .i8 fi, .int .i64 wi] 27) := ⟨_, rfl⟩
      have hb4 : W4.heap[w4.heap.size]? = some (.cells #[.slice x1 np xk1, .slice x2 nc xk2, .slice x3 nz xk3, .int .i32 tu, .int .i64 wo, .int .i8 fi, .int .i64 wi] 27 (0, 0)) := by rw [hW4]; exact heap_alloc_new w4 _
      have hu4 : Up w4 W4 := by rw [hW4]; exact (Up.refl _).alloc _
      have hz4 : W4.heap.size = w4.heap.size + 1 := by rw [hW4]; simp
      have HB4 : Hid _ := hb4
      have HV4 : Hid (Up w4 W4) := hu4
      have HZ4 : Hid (W4.heap.size = w4.heap.size + 1) := hz4
      have hc4 := (HUa.out.trans hu4).heap HB3.out
      obtain ⟨ii0, ii1, ii2, ii3, ii4, ii5, ii6⟩ := seven_cells hc4
      rw [hW4] at ii0 ii1 ii2 ii3 ii4 ii5 ii6
      clear hb4 hu4 hz4 hc4
      go_wp2_with fail
      rw [← hW4]
      clear ii0 ii1 ii2 ii3 ii4 ii5 ii6 hW4
      refine Calls.mono (copyA_ _ s W4 (HI3.out.up (HV3.out.trans (HUa.out.trans HV4.out))).ws.sl HSm.out) ?_
      rintro e w5 ⟨x, rfl, hx, u5⟩
      have HA5 : Hid (SOA W4.heap.size w5 x s) := hx
      have HUb : Hid (Up W4 w5) := u5
      obtain ⟨v1, v2, v3, hxv, h1, h2, vs5, h3, -⟩ := hx
      obtain ⟨y1, yk1, rfl⟩ := row_val h1
      obtain ⟨y2, yk2, rfl⟩ := row_val h2
      obtain ⟨y3, yk3, rfl⟩ := row_val h3
      rw [HSV.out, ← HN.out.1, ← HN.out.2.1, ← HN.out.2.2] at hxv
      subst hxv
      clear u5 h1 h2 h3
      obtain ⟨W5, hW5⟩ : ∃ W, W = w5.alloc (.cells #[.slice y1 np yk1, .slice y2 nc yk2, .slice y3 nz yk3, .int .i32 tu, .int .i64 wo, .int .i8 fi, .int .i64 wi] 27) := ⟨_, rfl⟩
      have HC0 : Hid (CW w W5 #[.slice a1 np ak1, .slice a2 nc ak2, .slice a3 nz ak3, .int .i32 tu, .int .i64 wo, .int .i8 fi, .int .i64 wi] #[.slice b1 mp bk1, .slice b2 mc bk2, .slice b3 mz bk3, .int .i32 tu2, .int .i64 wo2, .int .i8 fi2, .int .i64 wi2] #[.slice i1 np ik1, .slice i2 nc ik2, .slice i3 nz ik3, .int .i32 tu, .int .i64 wo, .int .i8 fi, .int .i64 wi] #[.slice x1 np xk1, .slice x2 nc xk2, .slice x3 nz xk3, .int .i32 tu, .int .i64 wo, .int .i8 fi, .int .i64 wi] #[.slice y1 np yk1, .slice y2 nc yk2, .slice y3 nz yk3, .int .i32 tu, .int .i64 wo, .int .i8 fi, .int .i64 wi] w3.heap.size w4.heap.size w5.heap.size w2.heap.size w3.heap.size W3.heap.size w4.heap.size W4.heap.size w5.heap.size s t) := by
        have u5 : Up w5 W5 := by rw [hW5]; exact (Up.refl _).alloc _
        have b5 : W5.heap[w5.heap.size]? = some (.cells #[.slice y1 np yk1, .slice y2 nc yk2, .slice y3 nz yk3, .int .i32 tu, .int .i64 wo, .int .i8 fi, .int .i64 wi] 27 (0, 0)) := by rw [hW5]; exact heap_alloc_new w5 _
        have u4 : Up w4 W5 := HV4.out.trans (HUb.out.trans u5)
        have u3 : Up w3 W5 := HV3.out.trans (HUa.out.trans u4)
        have u2 : Up w2 W5 := HUi.out.trans u3
        have uw : Up w W5 := HU2.out.trans u2
        exact ⟨uw, u2.heap HS2.out, u2.heap HT2.out, (HUa.out.trans u4).heap HB3.out, (HUb.out.trans u5).heap HB4.out, b5, HS.out _ uw, HT.out _ uw, HI3.out.up u3, (HA4.out.up u4).so.sl, (HA5.out.up u5).so.sl, stIn_up (HI3.out.stIn HSm.out) (Nat.le_refl _) u3, stIn_up (HA4.out.stIn HSm.out) (Nat.le_refl _) u4, stIn_up (HA5.out.stIn HSm.out) (Nat.le_refl _) u5, HU2.out.size, by have := HZ3.out; omega, by have := HZ4.out; omega, HUi.out.size, HUa.out.size, HUb.out.size, u5.size⟩
      obtain ⟨p0, p1, p2, p3, p4, p5, p6⟩ := seven_cells HC0.out.a1
      obtain ⟨q0, q1, q2, q3, q4, q5, q6⟩ := seven_cells HC0.out.s1
      rw [hW5] at p0 p1 p2 p3 p4 p5 p6 q0 q1 q2 q3 q4 q5 q6
      clear HS HT HS2 HT2 HI3 HA4 HA5 HUi HUa HUb HB3 HB4 HV3 HV4 HZ3 HZ4 HSV HU2
      go_wp2_with fail
      rw [← hW5]
      clear hW5 p0 q0 p1 q1 p2 q2 p3 q3 p4 q4 p5 q5 p6 q6
      generalize w3.heap.size = bi at HC0 ⊢
      generalize w4.heap.size = ba at HC0 ⊢
      generalize w5.heap.size = bb at HC0 ⊢
      generalize w2.heap.size = li at HC0
      generalize W3.heap.size = la at HC0
      generalize W4.heap.size = lb at HC0
      have HC5 : Hid (CW w W5 #[.slice a1 np ak1, .slice a2 nc ak2, .slice a3 nz ak3, .int .i32 tu, .int .i64 wo, .int .i8 fi, .int .i64 wi] #[.slice b1 mp bk1, .slice b2 mc bk2, .slice b3 mz bk3, .int .i32 tu2, .int .i64 wo2, .int .i8 fi2, .int .i64 wi2] #[.slice i1 np ik1, .slice i2 nc ik2, .slice i3 nz ik3, .int .i32 tu, .int .i64 wo, .int .i8 fi, .int .i64 wi] #[.slice x1 np xk1, .slice x2 nc xk2, .slice x3 nz xk3, .int .i32 tu, .int .i64 wo, .int .i8 fi, .int .i64 wi] #[.slice y1 np yk1, .slice y2 nc yk2, .slice y3 nz yk3, .int .i32 tu, .int .i64 wo, .int .i8 fi, .int .i64 wi] bi ba bb li bi la ba lb bb s t) := HC0.out
      clear HC0
      refine Calls.mono (eqState_ _ _ s s W5 HC5.out.a2 HC5.out.s2 HSm.out (eqS_self s)) ?_
      rintro e w6 ⟨rfl, u6⟩
      have HC6 : Hid (CW w w6 #[.slice a1 np ak1, .slice a2 nc ak2, .slice a3 nz ak3, .int .i32 tu, .int .i64 wo, .int .i8 fi, .int .i64 wi] #[.slice b1 mp bk1, .slice b2 mc bk2, .slice b3 mz bk3, .int .i32 tu2, .int .i64 wo2, .int .i8 fi2, .int .i64 wi2] #[.slice i1 np ik1, .slice i2 nc ik2, .slice i3 nz ik3, .int .i32 tu, .int .i64 wo, .int .i8 fi, .int .i64 wi] #[.slice x1 np xk1, .slice x2 nc xk2, .slice x3 nz xk3, .int .i32 tu, .int .i64 wo, .int .i8 fi, .int .i64 wi] #[.slice y1 np yk1, .slice y2 nc yk2, .slice y3 nz yk3, .int .i32 tu, .int .i64 wo, .int .i8 fi, .int .i64 wi] bi ba bb li bi la ba lb bb s t) := HC5.out.mono u6
      clear u6 HC5
      obtain ⟨pb0, pb1, pb2, pb3, pb4, pb5, pb6⟩ := seven_cells HC6.out.b1
      obtain ⟨ps0, ps1, ps2, ps3, ps4, ps5, ps6⟩ := seven_cells HC6.out.s1
      go_wp2_with fail
      clear pb0 pb1 pb2 pb3 pb4 pb5 pb6 ps0 ps1 ps2 ps3 ps4 ps5 ps6
      refine Calls.mono (eqState_ _ _ s s w6 HC6.out.b2 HC6.out.s2 HSm.out (eqS_self s)) ?_
      rintro e w7 ⟨rfl, u7⟩
      have HC7 : Hid (CW w w7 #[.slice a1 np ak1, .slice a2 nc ak2, .slice a3 nz ak3, .int .i32 tu, .int .i64 wo, .int .i8 fi, .int .i64 wi] #[.slice b1 mp bk1, .slice b2 mc bk2, .slice b3 mz bk3, .int .i32 tu2, .int .i64 wo2, .int .i8 fi2, .int .i64 wi2] #[.slice i1 np ik1, .slice i2 nc ik2, .slice i3 nz ik3, .int .i32 tu, .int .i64 wo, .int .i8 fi, .int .i64 wi] #[.slice x1 np xk1, .slice x2 nc xk2, .slice x3 nz xk3, .int .i32 tu, .int .i64 wo, .int .i8 fi, .int .i64 wi] #[.slice y1 np yk1, .slice y2 nc yk2, .slice y3 nz yk3, .int .i32 tu, .int .i64 wo, .int .i8 fi, .int .i64 wi] bi ba bb li bi la ba lb bb s t) := HC6.out.mono u7
      clear u7 HC6
      obtain ⟨pi0, pi1, pi2, pi3, pi4, pi5, pi6⟩ := seven_cells HC7.out.i1
      obtain ⟨ps0, ps1, ps2, ps3, ps4, ps5, ps6⟩ := seven_cells HC7.out.s1
      go_wp2_with fail
      clear pi0 pi1 pi2 pi3 pi4 pi5 pi6 ps0 ps1 ps2 ps3 ps4 ps5 ps6
      refine Calls.mono (eqState_ _ _ s s w7 HC7.out.i2.ws.sl HC7.out.s2 HSm.out (eqS_self s)) ?_
      rintro e w8 ⟨rfl, u8⟩
      have HC8 : Hid (CW w w8 #[.slice a1 np ak1, .slice a2 nc ak2, .slice a3 nz ak3, .int .i32 tu, .int .i64 wo, .int .i8 fi, .int .i64 wi] #[.slice b1 mp bk1, .slice b2 mc bk2, .slice b3 mz bk3, .int .i32 tu2, .int .i64 wo2, .int .i8 fi2, .int .i64 wi2] #[.slice i1 np ik1, .slice i2 nc ik2, .slice i3 nz ik3, .int .i32 tu, .int .i64 wo, .int .i8 fi, .int .i64 wi] #[.slice x1 np xk1, .slice x2 nc xk2, .slice x3 nz xk3, .int .i32 tu, .int .i64 wo, .int .i8 fi, .int .i64 wi] #[.slice y1 np yk1, .slice y2 nc yk2, .slice y3 nz yk3, .int .i32 tu, .int .i64 wo, .int .i8 fi, .int .i64 wi] bi ba bb li bi la ba lb bb s t) := HC7.out.mono u8
      clear u8 HC7
      obtain ⟨pi0, pi1, pi2, pi3, pi4, pi5, pi6⟩ := seven_cells HC8.out.i1
      go_wp2_with fail
      clear pi0 pi1 pi2 pi3 pi4 pi5 pi6
      refine Calls.mono (spareState_ li _ s w8 HC8.out.i2.ws HSm.out) ?_
      rintro e w9 ⟨rfl, u9⟩
      have HC9 : Hid (CW w w9 #[.slice a1 np ak1, .slice a2 nc ak2, .slice a3 nz ak3, .int .i32 tu, .int .i64 wo, .int .i8 fi, .int .i64 wi] #[.slice b1 mp bk1, .slice b2 mc bk2, .slice b3 mz bk3, .int .i32 tu2, .int .i64 wo2, .int .i8 fi2, .int .i64 wi2] #[.slice i1 np ik1, .slice i2 nc ik2, .slice i3 nz ik3, .int .i32 tu, .int .i64 wo, .int .i8 fi, .int .i64 wi] #[.slice x1 np xk1, .slice x2 nc xk2, .slice x3 nz xk3, .int .i32 tu, .int .i64 wo, .int .i8 fi, .int .i64 wi] #[.slice y1 np yk1, .slice y2 nc yk2, .slice y3 nz yk3, .int .i32 tu, .int .i64 wo, .int .i8 fi, .int .i64 wi] bi ba bb li bi la ba lb bb s t) := HC8.out.mono u9
      clear u9 HC8
      have HSS : Hid (∀ W, CW w W #[.slice a1 np ak1, .slice a2 nc ak2, .slice a3 nz ak3, .int .i32 tu, .int .i64 wo, .int .i8 fi, .int .i64 wi] #[.slice b1 mp bk1, .slice b2 mc bk2, .slice b3 mz bk3, .int .i32 tu2, .int .i64 wo2, .int .i8 fi2, .int .i64 wi2] #[.slice i1 np ik1, .slice i2 nc ik2, .slice i3 nz ik3, .int .i32 tu, .int .i64 wo, .int .i8 fi, .int .i64 wi] #[.slice x1 np xk1, .slice x2 nc xk2, .slice x3 nz xk3, .int .i32 tu, .int .i64 wo, .int .i8 fi, .int .i64 wi] #[.slice y1 np yk1, .slice y2 nc yk2, .slice y3 nz yk3, .int .i32 tu, .int .i64 wo, .int .i8 fi, .int .i64 wi] bi ba bb li bi la ba lb bb s t → (W.cell? ⟨w.heap.size, 0, none⟩ = some (.slice a1 np ak1) ∧ W.cell? ⟨w.heap.size, 1, none⟩ = some (.slice a2 nc ak2) ∧ W.cell? ⟨w.heap.size, 2, none⟩ = some (.slice a3 nz ak3) ∧ W.cell? ⟨w.heap.size, 3, none⟩ = some (.int .i32 tu) ∧ W.cell? ⟨w.heap.size, 4, none⟩ = some (.int .i64 wo) ∧ W.cell? ⟨w.heap.size, 5, none⟩ = some (.int .i8 fi) ∧ W.cell? ⟨w.heap.size, 6, none⟩ = some (.int .i64 wi) ∧ W.cell? ⟨w.heap.size + 1, 0, none⟩ = some (.slice b1 mp bk1) ∧ W.cell? ⟨w.heap.size + 1, 1, none⟩ = some (.slice b2 mc bk2) ∧ W.cell? ⟨w.heap.size + 1, 2, none⟩ = some (.slice b3 mz bk3) ∧ W.cell? ⟨w.heap.size + 1, 3, none⟩ = some (.int .i32 tu2) ∧ W.cell? ⟨w.heap.size + 1, 4, none⟩ = some (.int .i64 wo2) ∧ W.cell? ⟨w.heap.size + 1, 5, none⟩ = some (.int .i8 fi2) ∧ W.cell? ⟨w.heap.size + 1, 6, none⟩ = some (.int .i64 wi2) ∧ W.cell? ⟨bi, 0, none⟩ = some (.slice i1 np ik1) ∧ W.cell? ⟨bi, 1, none⟩ = some (.slice i2 nc ik2) ∧ W.cell? ⟨bi, 2, none⟩ = some (.slice i3 nz ik3) ∧ W.cell? ⟨bi, 3, none⟩ = some (.int .i32 tu) ∧ W.cell? ⟨bi, 4, none⟩ = some (.int .i64 wo) ∧ W.cell? ⟨bi, 5, none⟩ = some (.int .i8 fi) ∧ W.cell? ⟨bi, 6, none⟩ = some (.int .i64 wi) ∧ W.cell? ⟨ba, 0, none⟩ = some (.slice x1 np xk1) ∧ W.cell? ⟨ba, 1, none⟩ = some (.slice x2 nc xk2) ∧ W.cell? ⟨ba, 2, none⟩ = some (.slice x3 nz xk3) ∧ W.cell? ⟨ba, 3, none⟩ = some (.int .i32 tu) ∧ W.cell? ⟨ba, 4, none⟩ = some (.int .i64 wo) ∧ W.cell? ⟨ba, 5, none⟩ = some (.int .i8 fi) ∧ W.cell? ⟨ba, 6, none⟩ = some (.int .i64 wi) ∧ W.cell? ⟨bb, 0, none⟩ = some (.slice y1 np yk1) ∧ W.cell? ⟨bb, 1, none⟩ = some (.slice y2 nc yk2) ∧ W.cell? ⟨bb, 2, none⟩ = some (.slice y3 nz yk3) ∧ W.cell? ⟨bb, 3, none⟩ = some (.int .i32 tu) ∧ W.cell? ⟨bb, 4, none⟩ = some (.int .i64 wo) ∧ W.cell? ⟨bb, 5, none⟩ = some (.int .i8 fi) ∧ W.cell? ⟨bb, 6, none⟩ = some (.int .i64 wi) ∧ Hid (CW w W #[.slice a1 np ak1, .slice a2 nc ak2, .slice a3 nz ak3, .int .i32 tu, .int .i64 wo, .int .i8 fi, .int .i64 wi] #[.slice b1 mp bk1, .slice b2 mc bk2, .slice b3 mz bk3, .int .i32 tu2, .int .i64 wo2, .int .i8 fi2, .int .i64 wi2] #[.slice i1 np ik1, .slice i2 nc ik2, .slice i3 nz ik3, .int .i32 tu, .int .i64 wo, .int .i8 fi, .int .i64 wi] #[.slice x1 np xk1, .slice x2 nc xk2, .slice x3 nz xk3, .int .i32 tu, .int .i64 wo, .int .i8 fi, .int .i64 wi] #[.slice y1 np yk1, .slice y2 nc yk2, .slice y3 nz yk3, .int .i32 tu, .int .i64 wo, .int .i8 fi, .int .i64 wi] bi ba bb li bi la ba lb bb s t))) := fun W h => by
        obtain ⟨pa0, pa1, pa2, pa3, pa4, pa5, pa6⟩ := seven_cells h.a1
        obtain ⟨pb0, pb1, pb2, pb3, pb4, pb5, pb6⟩ := seven_cells h.b1
        obtain ⟨pi0, pi1, pi2, pi3, pi4, pi5, pi6⟩ := seven_cells h.i1
        obtain ⟨ps0, ps1, ps2, ps3, ps4, ps5, ps6⟩ := seven_cells h.s1
        obtain ⟨pt0, pt1, pt2, pt3, pt4, pt5, pt6⟩ := seven_cells h.t1
        exact ⟨ps0, ps1, ps2, ps3, ps4, ps5, ps6, pt0, pt1, pt2, pt3, pt4, pt5, pt6, pi0, pi1, pi2, pi3, pi4, pi5, pi6, pa0, pa1, pa2, pa3, pa4, pa5, pa6, pb0, pb1, pb2, pb3, pb4, pb5, pb6, h⟩
      have HKp : Hid (∀ W W', (W.cell? ⟨w.heap.size, 0, none⟩ = some (.slice a1 np ak1) ∧ W.cell? ⟨w.heap.size, 1, none⟩ = some (.slice a2 nc ak2) ∧ W.cell? ⟨w.heap.size, 2, none⟩ = some (.slice a3 nz ak3) ∧ W.cell? ⟨w.heap.size, 3, none⟩ = some (.int .i32 tu) ∧ W.cell? ⟨w.heap.size, 4, none⟩ = some (.int .i64 wo) ∧ W.cell? ⟨w.heap.size, 5, none⟩ = some (.int .i8 fi) ∧ W.cell? ⟨w.heap.size, 6, none⟩ = some (.int .i64 wi) ∧ W.cell? ⟨w.heap.size + 1, 0, none⟩ = some (.slice b1 mp bk1) ∧ W.cell? ⟨w.heap.size + 1, 1, none⟩ = some (.slice b2 mc bk2) ∧ W.cell? ⟨w.heap.size + 1, 2, none⟩ = some (.slice b3 mz bk3) ∧ W.cell? ⟨w.heap.size + 1, 3, none⟩ = some (.int .i32 tu2) ∧ W.cell? ⟨w.heap.size + 1, 4, none⟩ = some (.int .i64 wo2) ∧ W.cell? ⟨w.heap.size + 1, 5, none⟩ = some (.int .i8 fi2) ∧ W.cell? ⟨w.heap.size + 1, 6, none⟩ = some (.int .i64 wi2) ∧ W.cell? ⟨bi, 0, none⟩ = some (.slice i1 np ik1) ∧ W.cell? ⟨bi, 1, none⟩ = some (.slice i2 nc ik2) ∧ W.cell? ⟨bi, 2, none⟩ = some (.slice i3 nz ik3) ∧ W.cell? ⟨bi, 3, none⟩ = some (.int .i32 tu) ∧ W.cell? ⟨bi, 4, none⟩ = some (.int .i64 wo) ∧ W.cell? ⟨bi, 5, none⟩ = some (.int .i8 fi) ∧ W.cell? ⟨bi, 6, none⟩ = some (.int .i64 wi) ∧ W.cell? ⟨ba, 0, none⟩ = some (.slice x1 np xk1) ∧ W.cell? ⟨ba, 1, none⟩ = some (.slice x2 nc xk2) ∧ W.cell? ⟨ba, 2, none⟩ = some (.slice x3 nz xk3) ∧ W.cell? ⟨ba, 3, none⟩ = some (.int .i32 tu) ∧ W.cell? ⟨ba, 4, none⟩ = some (.int .i64 wo) ∧ W.cell? ⟨ba, 5, none⟩ = some (.int .i8 fi) ∧ W.cell? ⟨ba, 6, none⟩ = some (.int .i64 wi) ∧ W.cell? ⟨bb, 0, none⟩ = some (.slice y1 np yk1) ∧ W.cell? ⟨bb, 1, none⟩ = some (.slice y2 nc yk2) ∧ W.cell? ⟨bb, 2, none⟩ = some (.slice y3 nz yk3) ∧ W.cell? ⟨bb, 3, none⟩ = some (.int .i32 tu) ∧ W.cell? ⟨bb, 4, none⟩ = some (.int .i64 wo) ∧ W.cell? ⟨bb, 5, none⟩ = some (.int .i8 fi) ∧ W.cell? ⟨bb, 6, none⟩ = some (.int .i64 wi) ∧ Hid (CW w W #[.slice a1 np ak1, .slice a2 nc ak2, .slice a3 nz ak3, .int .i32 tu, .int .i64 wo, .int .i8 fi, .int .i64 wi] #[.slice b1 mp bk1, .slice b2 mc bk2, .slice b3 mz bk3, .int .i32 tu2, .int .i64 wo2, .int .i8 fi2, .int .i64 wi2] #[.slice i1 np ik1, .slice i2 nc ik2, .slice i3 nz ik3, .int .i32 tu, .int .i64 wo, .int .i8 fi, .int .i64 wi] #[.slice x1 np xk1, .slice x2 nc xk2, .slice x3 nz xk3, .int .i32 tu, .int .i64 wo, .int .i8 fi, .int .i64 wi] #[.slice y1 np yk1, .slice y2 nc yk2, .slice y3 nz yk3, .int .i32 tu, .int .i64 wo, .int .i8 fi, .int .i64 wi] bi ba bb li bi la ba lb bb s t)) → Up W W' → (W'.cell? ⟨w.heap.size, 0, none⟩ = some (.slice a1 np ak1) ∧ W'.cell? ⟨w.heap.size, 1, none⟩ = some (.slice a2 nc ak2) ∧ W'.cell? ⟨w.heap.size, 2, none⟩ = some (.slice a3 nz ak3) ∧ W'.cell? ⟨w.heap.size, 3, none⟩ = some (.int .i32 tu) ∧ W'.cell? ⟨w.heap.size, 4, none⟩ = some (.int .i64 wo) ∧ W'.cell? ⟨w.heap.size, 5, none⟩ = some (.int .i8 fi) ∧ W'.cell? ⟨w.heap.size, 6, none⟩ = some (.int .i64 wi) ∧ W'.cell? ⟨w.heap.size + 1, 0, none⟩ = some (.slice b1 mp bk1) ∧ W'.cell? ⟨w.heap.size + 1, 1, none⟩ = some (.slice b2 mc bk2) ∧ W'.cell? ⟨w.heap.size + 1, 2, none⟩ = some (.slice b3 mz bk3) ∧ W'.cell? ⟨w.heap.size + 1, 3, none⟩ = some (.int .i32 tu2) ∧ W'.cell? ⟨w.heap.size + 1, 4, none⟩ = some (.int .i64 wo2) ∧ W'.cell? ⟨w.heap.size + 1, 5, none⟩ = some (.int .i8 fi2) ∧ W'.cell? ⟨w.heap.size + 1, 6, none⟩ = some (.int .i64 wi2) ∧ W'.cell? ⟨bi, 0, none⟩ = some (.slice i1 np ik1) ∧ W'.cell? ⟨bi, 1, none⟩ = some (.slice i2 nc ik2) ∧ W'.cell? ⟨bi, 2, none⟩ = some (.slice i3 nz ik3) ∧ W'.cell? ⟨bi, 3, none⟩ = some (.int .i32 tu) ∧ W'.cell? ⟨bi, 4, none⟩ = some (.int .i64 wo) ∧ W'.cell? ⟨bi, 5, none⟩ = some (.int .i8 fi) ∧ W'.cell? ⟨bi, 6, none⟩ = some (.int .i64 wi) ∧ W'.cell? ⟨ba, 0, none⟩ = some (.slice x1 np xk1) ∧ W'.cell? ⟨ba, 1, none⟩ = some (.slice x2 nc xk2) ∧ W'.cell? ⟨ba, 2, none⟩ = some (.slice x3 nz xk3) ∧ W'.cell? ⟨ba, 3, none⟩ = some (.int .i32 tu) ∧ W'.cell? ⟨ba, 4, none⟩ = some (.int .i64 wo) ∧ W'.cell? ⟨ba, 5, none⟩ = some (.int .i8 fi) ∧ W'.cell? ⟨ba, 6, none⟩ = some (.int .i64 wi) ∧ W'.cell? ⟨bb, 0, none⟩ = some (.slice y1 np yk1) ∧ W'.cell? ⟨bb, 1, none⟩ = some (.slice y2 nc yk2) ∧ W'.cell? ⟨bb, 2, none⟩ = some (.slice y3 nz yk3) ∧ W'.cell? ⟨bb, 3, none⟩ = some (.int .i32 tu) ∧ W'.cell? ⟨bb, 4, none⟩ = some (.int .i64 wo) ∧ W'.cell? ⟨bb, 5, none⟩ = some (.int .i8 fi) ∧ W'.cell? ⟨bb, 6, none⟩ = some (.int .i64 wi) ∧ Hid (CW w W' #[.slice a1 np ak1, .slice a2 nc ak2, .slice a3 nz ak3, .int .i32 tu, .int .i64 wo, .int .i8 fi, .int .i64 wi] #[.slice b1 mp bk1, .slice b2 mc bk2, .slice b3 mz bk3, .int .i32 tu2, .int .i64 wo2, .int .i8 fi2, .int .i64 wi2] #[.slice i1 np ik1, .slice i2 nc ik2, .slice i3 nz ik3, .int .i32 tu, .int .i64 wo, .int .i8 fi, .int .i64 wi] #[.slice x1 np xk1, .slice x2 nc xk2, .slice x3 nz xk3, .int .i32 tu, .int .i64 wo, .int .i8 fi, .int .i64 wi] #[.slice y1 np yk1, .slice y2 nc yk2, .slice y3 nz yk3, .int .i32 tu, .int .i64 wo, .int .i8 fi, .int .i64 wi] bi ba bb li bi la ba lb bb s t))) := fun W W' h u => HSS.out W' (h.2.2.2.2.2.2.2.2.2.2.2.2.2.2.2.2.2.2.2.2.2.2.2.2.2.2.2.2.2.2.2.2.2.2.2.out.mono u)
      have hsame : samB s s = true := by rw [samB_eqS]; exact eqS_self s
      have HSab : Hid (∀ W, (W.cell? ⟨w.heap.size, 0, none⟩ = some (.slice a1 np ak1) ∧ W.cell? ⟨w.heap.size, 1, none⟩ = some (.slice a2 nc ak2) ∧ W.cell? ⟨w.heap.size, 2, none⟩ = some (.slice a3 nz ak3) ∧ W.cell? ⟨w.heap.size, 3, none⟩ = some (.int .i32 tu) ∧ W.cell? ⟨w.heap.size, 4, none⟩ = some (.int .i64 wo) ∧ W.cell? ⟨w.heap.size, 5, none⟩ = some (.int .i8 fi) ∧ W.cell? ⟨w.heap.size, 6, none⟩ = some (.int .i64 wi) ∧ W.cell? ⟨w.heap.size + 1, 0, none⟩ = some (.slice b1 mp bk1) ∧ W.cell? ⟨w.heap.size + 1, 1, none⟩ = some (.slice b2 mc bk2) ∧ W.cell? ⟨w.heap.size + 1, 2, none⟩ = some (.slice b3 mz bk3) ∧ W.cell? ⟨w.heap.size + 1, 3, none⟩ = some (.int .i32 tu2) ∧ W.cell? ⟨w.heap.size + 1, 4, none⟩ = some (.int .i64 wo2) ∧ W.cell? ⟨w.heap.size + 1, 5, none⟩ = some (.int .i8 fi2) ∧ W.cell? ⟨w.heap.size + 1, 6, none⟩ = some (.int .i64 wi2) ∧ W.cell? ⟨bi, 0, none⟩ = some (.slice i1 np ik1) ∧ W.cell? ⟨bi, 1, none⟩ = some (.slice i2 nc ik2) ∧ W.cell? ⟨bi, 2, none⟩ = some (.slice i3 nz ik3) ∧ W.cell? ⟨bi, 3, none⟩ = some (.int .i32 tu) ∧ W.cell? ⟨bi, 4, none⟩ = some (.int .i64 wo) ∧ W.cell? ⟨bi, 5, none⟩ = some (.int .i8 fi) ∧ W.cell? ⟨bi, 6, none⟩ = some (.int .i64 wi) ∧ W.cell? ⟨ba, 0, none⟩ = some (.slice x1 np xk1) ∧ W.cell? ⟨ba, 1, none⟩ = some (.slice x2 nc xk2) ∧ W.cell? ⟨ba, 2, none⟩ = some (.slice x3 nz xk3) ∧ W.cell? ⟨ba, 3, none⟩ = some (.int .i32 tu) ∧ W.cell? ⟨ba, 4, none⟩ = some (.int .i64 wo) ∧ W.cell? ⟨ba, 5, none⟩ = some (.int .i8 fi) ∧ W.cell? ⟨ba, 6, none⟩ = some (.int .i64 wi) ∧ W.cell? ⟨bb, 0, none⟩ = some (.slice y1 np yk1) ∧ W.cell? ⟨bb, 1, none⟩ = some (.slice y2 nc yk2) ∧ W.cell? ⟨bb, 2, none⟩ = some (.slice y3 nz yk3) ∧ W.cell? ⟨bb, 3, none⟩ = some (.int .i32 tu) ∧ W.cell? ⟨bb, 4, none⟩ = some (.int .i64 wo) ∧ W.cell? ⟨bb, 5, none⟩ = some (.int .i8 fi) ∧ W.cell? ⟨bb, 6, none⟩ = some (.int .i64 wi) ∧ Hid (CW w W #[.slice a1 np ak1, .slice a2 nc ak2, .slice a3 nz ak3, .int .i32 tu, .int .i64 wo, .int .i8 fi, .int .i64 wi] #[.slice b1 mp bk1, .slice b2 mc bk2, .slice b3 mz bk3, .int .i32 tu2, .int .i64 wo2, .int .i8 fi2, .int .i64 wi2] #[.slice i1 np ik1, .slice i2 nc ik2, .slice i3 nz ik3, .int .i32 tu, .int .i64 wo, .int .i8 fi, .int .i64 wi] #[.slice x1 np xk1, .slice x2 nc xk2, .slice x3 nz xk3, .int .i32 tu, .int .i64 wo, .int .i8 fi, .int .i64 wi] #[.slice y1 np yk1, .slice y2 nc yk2, .slice y3 nz yk3, .int .i32 tu, .int .i64 wo, .int .i8 fi, .int .i64 wi] bi ba bb li bi la ba lb bb s t)) → Calls Tryd.prog 10 #[.agg #[.slice x1 np xk1, .slice x2 nc xk2, .slice x3 nz xk3, .int .i32 tu, .int .i64 wo, .int .i8 fi, .int .i64 wi], .agg #[.slice y1 np yk1, .slice y2 nc yk2, .slice y3 nz yk3, .int .i32 tu, .int .i64 wo, .int .i8 fi, .int .i64 wi]] W fun e w' => e = .returned (.bool true) ∧ Up W w') := fun W h => by
        have := same_ _ _ s s W h.2.2.2.2.2.2.2.2.2.2.2.2.2.2.2.2.2.2.2.2.2.2.2.2.2.2.2.2.2.2.2.2.2.2.2.out.a2 h.2.2.2.2.2.2.2.2.2.2.2.2.2.2.2.2.2.2.2.2.2.2.2.2.2.2.2.2.2.2.2.2.2.2.2.out.b2 HSm.out
        rw [hsame] at this
        exact this
      have HSia : Hid (∀ W, (W.cell? ⟨w.heap.size, 0, none⟩ = some (.slice a1 np ak1) ∧ W.cell? ⟨w.heap.size, 1, none⟩ = some (.slice a2 nc ak2) ∧ W.cell? ⟨w.heap.size, 2, none⟩ = some (.slice a3 nz ak3) ∧ W.cell? ⟨w.heap.size, 3, none⟩ = some (.int .i32 tu) ∧ W.cell? ⟨w.heap.size, 4, none⟩ = some (.int .i64 wo) ∧ W.cell? ⟨w.heap.size, 5, none⟩ = some (.int .i8 fi) ∧ W.cell? ⟨w.heap.size, 6, none⟩ = some (.int .i64 wi) ∧ W.cell? ⟨w.heap.size + 1, 0, none⟩ = some (.slice b1 mp bk1) ∧ W.cell? ⟨w.heap.size + 1, 1, none⟩ = some (.slice b2 mc bk2) ∧ W.cell? ⟨w.heap.size + 1, 2, none⟩ = some (.slice b3 mz bk3) ∧ W.cell? ⟨w.heap.size + 1, 3, none⟩ = some (.int .i32 tu2) ∧ W.cell? ⟨w.heap.size + 1, 4, none⟩ = some (.int .i64 wo2) ∧ W.cell? ⟨w.heap.size + 1, 5, none⟩ = some (.int .i8 fi2) ∧ W.cell? ⟨w.heap.size + 1, 6, none⟩ = some (.int .i64 wi2) ∧ W.cell? ⟨bi, 0, none⟩ = some (.slice i1 np ik1) ∧ W.cell? ⟨bi, 1, none⟩ = some (.slice i2 nc ik2) ∧ W.cell? ⟨bi, 2, none⟩ = some (.slice i3 nz ik3) ∧ W.cell? ⟨bi, 3, none⟩ = some (.int .i32 tu) ∧ W.cell? ⟨bi, 4, none⟩ = some (.int .i64 wo) ∧ W.cell? ⟨bi, 5, none⟩ = some (.int .i8 fi) ∧ W.cell? ⟨bi, 6, none⟩ = some (.int .i64 wi) ∧ W.cell? ⟨ba, 0, none⟩ = some (.slice x1 np xk1) ∧ W.cell? ⟨ba, 1, none⟩ = some (.slice x2 nc xk2) ∧ W.cell? ⟨ba, 2, none⟩ = some (.slice x3 nz xk3) ∧ W.cell? ⟨ba, 3, none⟩ = some (.int .i32 tu) ∧ W.cell? ⟨ba, 4, none⟩ = some (.int .i64 wo) ∧ W.cell? ⟨ba, 5, none⟩ = some (.int .i8 fi) ∧ W.cell? ⟨ba, 6, none⟩ = some (.int .i64 wi) ∧ W.cell? ⟨bb, 0, none⟩ = some (.slice y1 np yk1) ∧ W.cell? ⟨bb, 1, none⟩ = some (.slice y2 nc yk2) ∧ W.cell? ⟨bb, 2, none⟩ = some (.slice y3 nz yk3) ∧ W.cell? ⟨bb, 3, none⟩ = some (.int .i32 tu) ∧ W.cell? ⟨bb, 4, none⟩ = some (.int .i64 wo) ∧ W.cell? ⟨bb, 5, none⟩ = some (.int .i8 fi) ∧ W.cell? ⟨bb, 6, none⟩ = some (.int .i64 wi) ∧ Hid (CW w W #[.slice a1 np ak1, .slice a2 nc ak2, .slice a3 nz ak3, .int .i32 tu, .int .i64 wo, .int .i8 fi, .int .i64 wi] #[.slice b1 mp bk1, .slice b2 mc bk2, .slice b3 mz bk3, .int .i32 tu2, .int .i64 wo2, .int .i8 fi2, .int .i64 wi2] #[.slice i1 np ik1, .slice i2 nc ik2, .slice i3 nz ik3, .int .i32 tu, .int .i64 wo, .int .i8 fi, .int .i64 wi] #[.slice x1 np xk1, .slice x2 nc xk2, .slice x3 nz xk3, .int .i32 tu, .int .i64 wo, .int .i8 fi, .int .i64 wi] #[.slice y1 np yk1, .slice y2 nc yk2, .slice y3 nz yk3, .int .i32 tu, .int .i64 wo, .int .i8 fi, .int .i64 wi] bi ba bb li bi la ba lb bb s t)) → Calls Tryd.prog 10 #[.agg #[.slice i1 np ik1, .slice i2 nc ik2, .slice i3 nz ik3, .int .i32 tu, .int .i64 wo, .int .i8 fi, .int .i64 wi], .agg #[.slice x1 np xk1, .slice x2 nc xk2, .slice x3 nz xk3, .int .i32 tu, .int .i64 wo, .int .i8 fi, .int .i64 wi]] W fun e w' => e = .returned (.bool true) ∧ Up W w') := fun W h => by
        have := same_ _ _ s s W h.2.2.2.2.2.2.2.2.2.2.2.2.2.2.2.2.2.2.2.2.2.2.2.2.2.2.2.2.2.2.2.2.2.2.2.out.i2.ws.sl h.2.2.2.2.2.2.2.2.2.2.2.2.2.2.2.2.2.2.2.2.2.2.2.2.2.2.2.2.2.2.2.2.2.2.2.out.a2 HSm.out
        rw [hsame] at this
        exact this
      obtain ⟨X, hX⟩ : ∃ X, X = eqS s t := ⟨_, rfl⟩
      have HSic : Hid (∀ W c, (W.cell? ⟨w.heap.size, 0, none⟩ = some (.slice a1 np ak1) ∧ W.cell? ⟨w.heap.size, 1, none⟩ = some (.slice a2 nc ak2) ∧ W.cell? ⟨w.heap.size, 2, none⟩ = some (.slice a3 nz ak3) ∧ W.cell? ⟨w.heap.size, 3, none⟩ = some (.int .i32 tu) ∧ W.cell? ⟨w.heap.size, 4, none⟩ = some (.int .i64 wo) ∧ W.cell? ⟨w.heap.size, 5, none⟩ = some (.int .i8 fi) ∧ W.cell? ⟨w.heap.size, 6, none⟩ = some (.int .i64 wi) ∧ W.cell? ⟨w.heap.size + 1, 0, none⟩ = some (.slice b1 mp bk1) ∧ W.cell? ⟨w.heap.size + 1, 1, none⟩ = some (.slice b2 mc bk2) ∧ W.cell? ⟨w.heap.size + 1, 2, none⟩ = some (.slice b3 mz bk3) ∧ W.cell? ⟨w.heap.size + 1, 3, none⟩ = some (.int .i32 tu2) ∧ W.cell? ⟨w.heap.size + 1, 4, none⟩ = some (.int .i64 wo2) ∧ W.cell? ⟨w.heap.size + 1, 5, none⟩ = some (.int .i8 fi2) ∧ W.cell? ⟨w.heap.size + 1, 6, none⟩ = some (.int .i64 wi2) ∧ W.cell? ⟨bi, 0, none⟩ = some (.slice i1 np ik1) ∧ W.cell? ⟨bi, 1, none⟩ = some (.slice i2 nc ik2) ∧ W.cell? ⟨bi, 2, none⟩ = some (.slice i3 nz ik3) ∧ W.cell? ⟨bi, 3, none⟩ = some (.int .i32 tu) ∧ W.cell? ⟨bi, 4, none⟩ = some (.int .i64 wo) ∧ W.cell? ⟨bi, 5, none⟩ = some (.int .i8 fi) ∧ W.cell? ⟨bi, 6, none⟩ = some (.int .i64 wi) ∧ W.cell? ⟨ba, 0, none⟩ = some (.slice x1 np xk1) ∧ W.cell? ⟨ba, 1, none⟩ = some (.slice x2 nc xk2) ∧ W.cell? ⟨ba, 2, none⟩ = some (.slice x3 nz xk3) ∧ W.cell? ⟨ba, 3, none⟩ = some (.int .i32 tu) ∧ W.cell? ⟨ba, 4, none⟩ = some (.int .i64 wo) ∧ W.cell? ⟨ba, 5, none⟩ = some (.int .i8 fi) ∧ W.cell? ⟨ba, 6, none⟩ = some (.int .i64 wi) ∧ W.cell? ⟨bb, 0, none⟩ = some (.slice y1 np yk1) ∧ W.cell? ⟨bb, 1, none⟩ = some (.slice y2 nc yk2) ∧ W.cell? ⟨bb, 2, none⟩ = some (.slice y3 nz yk3) ∧ W.cell? ⟨bb, 3, none⟩ = some (.int .i32 tu) ∧ W.cell? ⟨bb, 4, none⟩ = some (.int .i64 wo) ∧ W.cell? ⟨bb, 5, none⟩ = some (.int .i8 fi) ∧ W.cell? ⟨bb, 6, none⟩ = some (.int .i64 wi) ∧ Hid (CW w W #[.slice a1 np ak1, .slice a2 nc ak2, .slice a3 nz ak3, .int .i32 tu, .int .i64 wo, .int .i8 fi, .int .i64 wi] #[.slice b1 mp bk1, .slice b2 mc bk2, .slice b3 mz bk3, .int .i32 tu2, .int .i64 wo2, .int .i8 fi2, .int .i64 wi2] #[.slice i1 np ik1, .slice i2 nc ik2, .slice i3 nz ik3, .int .i32 tu, .int .i64 wo, .int .i8 fi, .int .i64 wi] #[.slice x1 np xk1, .slice x2 nc xk2, .slice x3 nz xk3, .int .i32 tu, .int .i64 wo, .int .i8 fi, .int .i64 wi] #[.slice y1 np yk1, .slice y2 nc yk2, .slice y3 nz yk3, .int .i32 tu, .int .i64 wo, .int .i8 fi, .int .i64 wi] bi ba bb li bi la ba lb bb s t)) → StL W c t → Calls Tryd.prog 10 #[.agg #[.slice i1 np ik1, .slice i2 nc ik2, .slice i3 nz ik3, .int .i32 tu, .int .i64 wo, .int .i8 fi, .int .i64 wi], c] W fun e w' => e = .returned (.bool X) ∧ Up W w') := fun W c h hc => by
        have := same_ _ _ s t W h.2.2.2.2.2.2.2.2.2.2.2.2.2.2.2.2.2.2.2.2.2.2.2.2.2.2.2.2.2.2.2.2.2.2.2.out.i2.ws.sl hc HSm.out
        rw [samB_eqS, ← hX] at this
        exact this
      have HSci : Hid (∀ W c, (W.cell? ⟨w.heap.size, 0, none⟩ = some (.slice a1 np ak1) ∧ W.cell? ⟨w.heap.size, 1, none⟩ = some (.slice a2 nc ak2) ∧ W.cell? ⟨w.heap.size, 2, none⟩ = some (.slice a3 nz ak3) ∧ W.cell? ⟨w.heap.size, 3, none⟩ = some (.int .i32 tu) ∧ W.cell? ⟨w.heap.size, 4, none⟩ = some (.int .i64 wo) ∧ W.cell? ⟨w.heap.size, 5, none⟩ = some (.int .i8 fi) ∧ W.cell? ⟨w.heap.size, 6, none⟩ = some (.int .i64 wi) ∧ W.cell? ⟨w.heap.size + 1, 0, none⟩ = some (.slice b1 mp bk1) ∧ W.cell? ⟨w.heap.size + 1, 1, none⟩ = some (.slice b2 mc bk2) ∧ W.cell? ⟨w.heap.size + 1, 2, none⟩ = some (.slice b3 mz bk3) ∧ W.cell? ⟨w.heap.size + 1, 3, none⟩ = some (.int .i32 tu2) ∧ W.cell? ⟨w.heap.size + 1, 4, none⟩ = some (.int .i64 wo2) ∧ W.cell? ⟨w.heap.size + 1, 5, none⟩ = some (.int .i8 fi2) ∧ W.cell? ⟨w.heap.size + 1, 6, none⟩ = some (.int .i64 wi2) ∧ W.cell? ⟨bi, 0, none⟩ = some (.slice i1 np ik1) ∧ W.cell? ⟨bi, 1, none⟩ = some (.slice i2 nc ik2) ∧ W.cell? ⟨bi, 2, none⟩ = some (.slice i3 nz ik3) ∧ W.cell? ⟨bi, 3, none⟩ = some (.int .i32 tu) ∧ W.cell? ⟨bi, 4, none⟩ = some (.int .i64 wo) ∧ W.cell? ⟨bi, 5, none⟩ = some (.int .i8 fi) ∧ W.cell? ⟨bi, 6, none⟩ = some (.int .i64 wi) ∧ W.cell? ⟨ba, 0, none⟩ = some (.slice x1 np xk1) ∧ W.cell? ⟨ba, 1, none⟩ = some (.slice x2 nc xk2) ∧ W.cell? ⟨ba, 2, none⟩ = some (.slice x3 nz xk3) ∧ W.cell? ⟨ba, 3, none⟩ = some (.int .i32 tu) ∧ W.cell? ⟨ba, 4, none⟩ = some (.int .i64 wo) ∧ W.cell? ⟨ba, 5, none⟩ = some (.int .i8 fi) ∧ W.cell? ⟨ba, 6, none⟩ = some (.int .i64 wi) ∧ W.cell? ⟨bb, 0, none⟩ = some (.slice y1 np yk1) ∧ W.cell? ⟨bb, 1, none⟩ = some (.slice y2 nc yk2) ∧ W.cell? ⟨bb, 2, none⟩ = some (.slice y3 nz yk3) ∧ W.cell? ⟨bb, 3, none⟩ = some (.int .i32 tu) ∧ W.cell? ⟨bb, 4, none⟩ = some (.int .i64 wo) ∧ W.cell? ⟨bb, 5, none⟩ = some (.int .i8 fi) ∧ W.cell? ⟨bb, 6, none⟩ = some (.int .i64 wi) ∧ Hid (CW w W #[.slice a1 np ak1, .slice a2 nc ak2, .slice a3 nz ak3, .int .i32 tu, .int .i64 wo, .int .i8 fi, .int .i64 wi] #[.slice b1 mp bk1, .slice b2 mc bk2, .slice b3 mz bk3, .int .i32 tu2, .int .i64 wo2, .int .i8 fi2, .int .i64 wi2] #[.slice i1 np ik1, .slice i2 nc ik2, .slice i3 nz ik3, .int .i32 tu, .int .i64 wo, .int .i8 fi, .int .i64 wi] #[.slice x1 np xk1, .slice x2 nc xk2, .slice x3 nz xk3, .int .i32 tu, .int .i64 wo, .int .i8 fi, .int .i64 wi] #[.slice y1 np yk1, .slice y2 nc yk2, .slice y3 nz yk3, .int .i32 tu, .int .i64 wo, .int .i8 fi, .int .i64 wi] bi ba bb li bi la ba lb bb s t)) → StL W c t → Calls Tryd.prog 10 #[c, .agg #[.slice i1 np ik1, .slice i2 nc ik2, .slice i3 nz ik3, .int .i32 tu, .int .i64 wo, .int .i8 fi, .int .i64 wi]] W fun e w' => e = .returned (.bool X) ∧ Up W w') := fun W c h hc => by
        have := same_ _ _ t s W hc h.2.2.2.2.2.2.2.2.2.2.2.2.2.2.2.2.2.2.2.2.2.2.2.2.2.2.2.2.2.2.2.2.2.2.2.out.i2.ws.sl HTm.out
        rw [samB_eqS, eqS_comm, ← hX] at this
        exact this
      have HEst : Hid (∀ W, (W.cell? ⟨w.heap.size, 0, none⟩ = some (.slice a1 np ak1) ∧ W.cell? ⟨w.heap.size, 1, none⟩ = some (.slice a2 nc ak2) ∧ W.cell? ⟨w.heap.size, 2, none⟩ = some (.slice a3 nz ak3) ∧ W.cell? ⟨w.heap.size, 3, none⟩ = some (.int .i32 tu) ∧ W.cell? ⟨w.heap.size, 4, none⟩ = some (.int .i64 wo) ∧ W.cell? ⟨w.heap.size, 5, none⟩ = some (.int .i8 fi) ∧ W.cell? ⟨w.heap.size, 6, none⟩ = some (.int .i64 wi) ∧ W.cell? ⟨w.heap.size + 1, 0, none⟩ = some (.slice b1 mp bk1) ∧ W.cell? ⟨w.heap.size + 1, 1, none⟩ = some (.slice b2 mc bk2) ∧ W.cell? ⟨w.heap.size + 1, 2, none⟩ = some (.slice b3 mz bk3) ∧ W.cell? ⟨w.heap.size + 1, 3, none⟩ = some (.int .i32 tu2) ∧ W.cell? ⟨w.heap.size + 1, 4, none⟩ = some (.int .i64 wo2) ∧ W.cell? ⟨w.heap.size + 1, 5, none⟩ = some (.int .i8 fi2) ∧ W.cell? ⟨w.heap.size + 1, 6, none⟩ = some (.int .i64 wi2) ∧ W.cell? ⟨bi, 0, none⟩ = some (.slice i1 np ik1) ∧ W.cell? ⟨bi, 1, none⟩ = some (.slice i2 nc ik2) ∧ W.cell? ⟨bi, 2, none⟩ = some (.slice i3 nz ik3) ∧ W.cell? ⟨bi, 3, none⟩ = some (.int .i32 tu) ∧ W.cell? ⟨bi, 4, none⟩ = some (.int .i64 wo) ∧ W.cell? ⟨bi, 5, none⟩ = some (.int .i8 fi) ∧ W.cell? ⟨bi, 6, none⟩ = some (.int .i64 wi) ∧ W.cell? ⟨ba, 0, none⟩ = some (.slice x1 np xk1) ∧ W.cell? ⟨ba, 1, none⟩ = some (.slice x2 nc xk2) ∧ W.cell? ⟨ba, 2, none⟩ = some (.slice x3 nz xk3) ∧ W.cell? ⟨ba, 3, none⟩ = some (.int .i32 tu) ∧ W.cell? ⟨ba, 4, none⟩ = some (.int .i64 wo) ∧ W.cell? ⟨ba, 5, none⟩ = some (.int .i8 fi) ∧ W.cell? ⟨ba, 6, none⟩ = some (.int .i64 wi) ∧ W.cell? ⟨bb, 0, none⟩ = some (.slice y1 np yk1) ∧ W.cell? ⟨bb, 1, none⟩ = some (.slice y2 nc yk2) ∧ W.cell? ⟨bb, 2, none⟩ = some (.slice y3 nz yk3) ∧ W.cell? ⟨bb, 3, none⟩ = some (.int .i32 tu) ∧ W.cell? ⟨bb, 4, none⟩ = some (.int .i64 wo) ∧ W.cell? ⟨bb, 5, none⟩ = some (.int .i8 fi) ∧ W.cell? ⟨bb, 6, none⟩ = some (.int .i64 wi) ∧ Hid (CW w W #[.slice a1 np ak1, .slice a2 nc ak2, .slice a3 nz ak3, .int .i32 tu, .int .i64 wo, .int .i8 fi, .int .i64 wi] #[.slice b1 mp bk1, .slice b2 mc bk2, .slice b3 mz bk3, .int .i32 tu2, .int .i64 wo2, .int .i8 fi2, .int .i64 wi2] #[.slice i1 np ik1, .slice i2 nc ik2, .slice i3 nz ik3, .int .i32 tu, .int .i64 wo, .int .i8 fi, .int .i64 wi] #[.slice x1 np xk1, .slice x2 nc xk2, .slice x3 nz xk3, .int .i32 tu, .int .i64 wo, .int .i8 fi, .int .i64 wi] #[.slice y1 np yk1, .slice y2 nc yk2, .slice y3 nz yk3, .int .i32 tu, .int .i64 wo, .int .i8 fi, .int .i64 wi] bi ba bb li bi la ba lb bb s t)) → Calls Tryd.prog 8 #[.agg #[.slice a1 np ak1, .slice a2 nc ak2, .slice a3 nz ak3, .int .i32 tu, .int .i64 wo, .int .i8 fi, .int .i64 wi], .agg #[.slice b1 mp bk1, .slice b2 mc bk2, .slice b3 mz bk3, .int .i32 tu2, .int .i64 wo2, .int .i8 fi2, .int .i64 wi2]] W fun e w' => e = .returned (.bool X) ∧ Up W w') := fun W h => by
        rw [hX]
        exact eqStateG_ _ _ s t W h.2.2.2.2.2.2.2.2.2.2.2.2.2.2.2.2.2.2.2.2.2.2.2.2.2.2.2.2.2.2.2.2.2.2.2.out.s2 h.2.2.2.2.2.2.2.2.2.2.2.2.2.2.2.2.2.2.2.2.2.2.2.2.2.2.2.2.2.2.2.2.2.2.2.out.t2 HSm.out
      have HCt : Hid (∀ W, (W.cell? ⟨w.heap.size, 0, none⟩ = some (.slice a1 np ak1) ∧ W.cell? ⟨w.heap.size, 1, none⟩ = some (.slice a2 nc ak2) ∧ W.cell? ⟨w.heap.size, 2, none⟩ = some (.slice a3 nz ak3) ∧ W.cell? ⟨w.heap.size, 3, none⟩ = some (.int .i32 tu) ∧ W.cell? ⟨w.heap.size, 4, none⟩ = some (.int .i64 wo) ∧ W.cell? ⟨w.heap.size, 5, none⟩ = some (.int .i8 fi) ∧ W.cell? ⟨w.heap.size, 6, none⟩ = some (.int .i64 wi) ∧ W.cell? ⟨w.heap.size + 1, 0, none⟩ = some (.slice b1 mp bk1) ∧ W.cell? ⟨w.heap.size + 1, 1, none⟩ = some (.slice b2 mc bk2) ∧ W.cell? ⟨w.heap.size + 1, 2, none⟩ = some (.slice b3 mz bk3) ∧ W.cell? ⟨w.heap.size + 1, 3, none⟩ = some (.int .i32 tu2) ∧ W.cell? ⟨w.heap.size + 1, 4, none⟩ = some (.int .i64 wo2) ∧ W.cell? ⟨w.heap.size + 1, 5, none⟩ = some (.int .i8 fi2) ∧ W.cell? ⟨w.heap.size + 1, 6, none⟩ = some (.int .i64 wi2) ∧ W.cell? ⟨bi, 0, none⟩ = some (.slice i1 np ik1) ∧ W.cell? ⟨bi, 1, none⟩ = some (.slice i2 nc ik2) ∧ W.cell? ⟨bi, 2, none⟩ = some (.slice i3 nz ik3) ∧ W.cell? ⟨bi, 3, none⟩ = some (.int .i32 tu) ∧ W.cell? ⟨bi, 4, none⟩ = some (.int .i64 wo) ∧ W.cell? ⟨bi, 5, none⟩ = some (.int .i8 fi) ∧ W.cell? ⟨bi, 6, none⟩ = some (.int .i64 wi) ∧ W.cell? ⟨ba, 0, none⟩ = some (.slice x1 np xk1) ∧ W.cell? ⟨ba, 1, none⟩ = some (.slice x2 nc xk2) ∧ W.cell? ⟨ba, 2, none⟩ = some (.slice x3 nz xk3) ∧ W.cell? ⟨ba, 3, none⟩ = some (.int .i32 tu) ∧ W.cell? ⟨ba, 4, none⟩ = some (.int .i64 wo) ∧ W.cell? ⟨ba, 5, none⟩ = some (.int .i8 fi) ∧ W.cell? ⟨ba, 6, none⟩ = some (.int .i64 wi) ∧ W.cell? ⟨bb, 0, none⟩ = some (.slice y1 np yk1) ∧ W.cell? ⟨bb, 1, none⟩ = some (.slice y2 nc yk2) ∧ W.cell? ⟨bb, 2, none⟩ = some (.slice y3 nz yk3) ∧ W.cell? ⟨bb, 3, none⟩ = some (.int .i32 tu) ∧ W.cell? ⟨bb, 4, none⟩ = some (.int .i64 wo) ∧ W.cell? ⟨bb, 5, none⟩ = some (.int .i8 fi) ∧ W.cell? ⟨bb, 6, none⟩ = some (.int .i64 wi) ∧ Hid (CW w W #[.slice a1 np ak1, .slice a2 nc ak2, .slice a3 nz ak3, .int .i32 tu, .int .i64 wo, .int .i8 fi, .int .i64 wi] #[.slice b1 mp bk1, .slice b2 mc bk2, .slice b3 mz bk3, .int .i32 tu2, .int .i64 wo2, .int .i8 fi2, .int .i64 wi2] #[.slice i1 np ik1, .slice i2 nc ik2, .slice i3 nz ik3, .int .i32 tu, .int .i64 wo, .int .i8 fi, .int .i64 wi] #[.slice x1 np xk1, .slice x2 nc xk2, .slice x3 nz xk3, .int .i32 tu, .int .i64 wo, .int .i8 fi, .int .i64 wi] #[.slice y1 np yk1, .slice y2 nc yk2, .slice y3 nz yk3, .int .i32 tu, .int .i64 wo, .int .i8 fi, .int .i64 wi] bi ba bb li bi la ba lb bb s t)) → Calls Tryd.prog 11 #[.agg #[.slice b1 mp bk1, .slice b2 mc bk2, .slice b3 mz bk3, .int .i32 tu2, .int .i64 wo2, .int .i8 fi2, .int .i64 wi2]] W fun e w' => ∃ c1 ck1 c2 ck2 c3 ck3, e = .returned (.agg #[.slice c1 t.ps.length ck1, .slice c2 t.cs.length ck2, .slice c3 t.zs.length ck3, .int .i32 t.turn, .int .i64 t.whose, .int .i8 t.fin, .int .i64 t.winner]) ∧ StL w' (.agg #[.slice c1 t.ps.length ck1, .slice c2 t.cs.length ck2, .slice c3 t.zs.length ck3, .int .i32 t.turn, .int .i64 t.whose, .int .i8 t.fin, .int .i64 t.winner]) t ∧ Up W w') := fun W h => by
        refine (copyState_ _ t W h.2.2.2.2.2.2.2.2.2.2.2.2.2.2.2.2.2.2.2.2.2.2.2.2.2.2.2.2.2.2.2.2.2.2.2.out.t2 HTm.out).mono ?_
        rintro e w' ⟨x, rfl, hx, u⟩
        have hl := hx.sl
        obtain ⟨v1, v2, v3, rfl, h1, h2, h3⟩ := hx.sl
        obtain ⟨c1, ck1, rfl, -, -⟩ := lc_at h1
        obtain ⟨c2, ck2, rfl, -, -⟩ := lc_at h2
        obtain ⟨c3, ck3, rfl, -, -⟩ := zl_at h3
        exact ⟨c1, ck1, c2, ck2, c3, ck3, rfl, hl, u⟩
      clear hsame hX
      have HS0 : Hid (w9.drew.cell? ⟨w.heap.size, 0, none⟩ = some (.slice a1 np ak1) ∧ w9.drew.cell? ⟨w.heap.size, 1, none⟩ = some (.slice a2 nc ak2) ∧ w9.drew.cell? ⟨w.heap.size, 2, none⟩ = some (.slice a3 nz ak3) ∧ w9.drew.cell? ⟨w.heap.size, 3, none⟩ = some (.int .i32 tu) ∧ w9.drew.cell? ⟨w.heap.size, 4, none⟩ = some (.int .i64 wo) ∧ w9.drew.cell? ⟨w.heap.size, 5, none⟩ = some (.int .i8 fi) ∧ w9.drew.cell? ⟨w.heap.size, 6, none⟩ = some (.int .i64 wi) ∧ w9.drew.cell? ⟨w.heap.size + 1, 0, none⟩ = some (.slice b1 mp bk1) ∧ w9.drew.cell? ⟨w.heap.size + 1, 1, none⟩ = some (.slice b2 mc bk2) ∧ w9.drew.cell? ⟨w.heap.size + 1, 2, none⟩ = some (.slice b3 mz bk3) ∧ w9.drew.cell? ⟨w.heap.size + 1, 3, none⟩ = some (.int .i32 tu2) ∧ w9.drew.cell? ⟨w.heap.size + 1, 4, none⟩ = some (.int .i64 wo2) ∧ w9.drew.cell? ⟨w.heap.size + 1, 5, none⟩ = some (.int .i8 fi2) ∧ w9.drew.cell? ⟨w.heap.size + 1, 6, none⟩ = some (.int .i64 wi2) ∧ w9.drew.cell? ⟨bi, 0, none⟩ = some (.slice i1 np ik1) ∧ w9.drew.cell? ⟨bi, 1, none⟩ = some (.slice i2 nc ik2) ∧ w9.drew.cell? ⟨bi, 2, none⟩ = some (.slice i3 nz ik3) ∧ w9.drew.cell? ⟨bi, 3, none⟩ = some (.int .i32 tu) ∧ w9.drew.cell? ⟨bi, 4, none⟩ = some (.int .i64 wo) ∧ w9.drew.cell? ⟨bi, 5, none⟩ = some (.int .i8 fi) ∧ w9.drew.cell? ⟨bi, 6, none⟩ = some (.int .i64 wi) ∧ w9.drew.cell? ⟨ba, 0, none⟩ = some (.slice x1 np xk1) ∧ w9.drew.cell? ⟨ba, 1, none⟩ = some (.slice x2 nc xk2) ∧ w9.drew.cell? ⟨ba, 2, none⟩ = some (.slice x3 nz xk3) ∧ w9.drew.cell? ⟨ba, 3, none⟩ = some (.int .i32 tu) ∧ w9.drew.cell? ⟨ba, 4, none⟩ = some (.int .i64 wo) ∧ w9.drew.cell? ⟨ba, 5, none⟩ = some (.int .i8 fi) ∧ w9.drew.cell? ⟨ba, 6, none⟩ = some (.int .i64 wi) ∧ w9.drew.cell? ⟨bb, 0, none⟩ = some (.slice y1 np yk1) ∧ w9.drew.cell? ⟨bb, 1, none⟩ = some (.slice y2 nc yk2) ∧ w9.drew.cell? ⟨bb, 2, none⟩ = some (.slice y3 nz yk3) ∧ w9.drew.cell? ⟨bb, 3, none⟩ = some (.int .i32 tu) ∧ w9.drew.cell? ⟨bb, 4, none⟩ = some (.int .i64 wo) ∧ w9.drew.cell? ⟨bb, 5, none⟩ = some (.int .i8 fi) ∧ w9.drew.cell? ⟨bb, 6, none⟩ = some (.int .i64 wi) ∧ Hid (CW w w9.drew #[.slice a1 np ak1, .slice a2 nc ak2, .slice a3 nz ak3, .int .i32 tu, .int .i64 wo, .int .i8 fi, .int .i64 wi] #[.slice b1 mp bk1, .slice b2 mc bk2, .slice b3 mz bk3, .int .i32 tu2, .int .i64 wo2, .int .i8 fi2, .int .i64 wi2] #[.slice i1 np ik1, .slice i2 nc ik2, .slice i3 nz ik3, .int .i32 tu, .int .i64 wo, .int .i8 fi, .int .i64 wi] #[.slice x1 np xk1, .slice x2 nc xk2, .slice x3 nz xk3, .int .i32 tu, .int .i64 wo, .int .i8 fi, .int .i64 wi] #[.slice y1 np yk1, .slice y2 nc yk2, .slice y3 nz yk3, .int .i32 tu, .int .i64 wo, .int .i8 fi, .int .i64 wi] bi ba bb li bi la ba lb bb s t)) := HSS.out _ (HC9.out.mono (Up.refl _).drew)
      obtain ⟨ps0, ps1, ps2, ps3, ps4, ps5, ps6, pt0, pt1, pt2, pt3, pt4, pt5, pt6, pi0, pi1, pi2, pi3, pi4, pi5, pi6, pa0, pa1, pa2, pa3, pa4, pa5, pa6, pb0, pb1, pb2, pb3, pb4, pb5, pb6, -⟩ := HSS.out _ HC9.out
      clear HSS HC9
      go_wp2_with fail
      clear ps0 ps1 ps2 ps3 ps4 ps5 ps6 pt0 pt1 pt2 pt3 pt4 pt5 pt6 pi0 pi1 pi2 pi3 pi4 pi5 pi6 pa0 pa1 pa2 pa3 pa4 pa5 pa6 pb0 pb1 pb2 pb3 pb4 pb5 pb6
      cases X
      · go_region_held3 (fun W' => (W'.cell? ⟨w.heap.size, 0, none⟩ = some (.slice a1 np ak1) ∧ W'.cell? ⟨w.heap.size, 1, none⟩ = some (.slice a2 nc ak2) ∧ W'.cell? ⟨w.heap.size, 2, none⟩ = some (.slice a3 nz ak3) ∧ W'.cell? ⟨w.heap.size, 3, none⟩ = some (.int .i32 tu) ∧ W'.cell? ⟨w.heap.size, 4, none⟩ = some (.int .i64 wo) ∧ W'.cell? ⟨w.heap.size, 5, none⟩ = some (.int .i8 fi) ∧ W'.cell? ⟨w.heap.size, 6, none⟩ = some (.int .i64 wi) ∧ W'.cell? ⟨w.heap.size + 1, 0, none⟩ = some (.slice b1 mp bk1) ∧ W'.cell? ⟨w.heap.size + 1, 1, none⟩ = some (.slice b2 mc bk2) ∧ W'.cell? ⟨w.heap.size + 1, 2, none⟩ = some (.slice b3 mz bk3) ∧ W'.cell? ⟨w.heap.size + 1, 3, none⟩ = some (.int .i32 tu2) ∧ W'.cell? ⟨w.heap.size + 1, 4, none⟩ = some (.int .i64 wo2) ∧ W'.cell? ⟨w.heap.size + 1, 5, none⟩ = some (.int .i8 fi2) ∧ W'.cell? ⟨w.heap.size + 1, 6, none⟩ = some (.int .i64 wi2) ∧ W'.cell? ⟨bi, 0, none⟩ = some (.slice i1 np ik1) ∧ W'.cell? ⟨bi, 1, none⟩ = some (.slice i2 nc ik2) ∧ W'.cell? ⟨bi, 2, none⟩ = some (.slice i3 nz ik3) ∧ W'.cell? ⟨bi, 3, none⟩ = some (.int .i32 tu) ∧ W'.cell? ⟨bi, 4, none⟩ = some (.int .i64 wo) ∧ W'.cell? ⟨bi, 5, none⟩ = some (.int .i8 fi) ∧ W'.cell? ⟨bi, 6, none⟩ = some (.int .i64 wi) ∧ W'.cell? ⟨ba, 0, none⟩ = some (.slice x1 np xk1) ∧ W'.cell? ⟨ba, 1, none⟩ = some (.slice x2 nc xk2) ∧ W'.cell? ⟨ba, 2, none⟩ = some (.slice x3 nz xk3) ∧ W'.cell? ⟨ba, 3, none⟩ = some (.int .i32 tu) ∧ W'.cell? ⟨ba, 4, none⟩ = some (.int .i64 wo) ∧ W'.cell? ⟨ba, 5, none⟩ = some (.int .i8 fi) ∧ W'.cell? ⟨ba, 6, none⟩ = some (.int .i64 wi) ∧ W'.cell? ⟨bb, 0, none⟩ = some (.slice y1 np yk1) ∧ W'.cell? ⟨bb, 1, none⟩ = some (.slice y2 nc yk2) ∧ W'.cell? ⟨bb, 2, none⟩ = some (.slice y3 nz yk3) ∧ W'.cell? ⟨bb, 3, none⟩ = some (.int .i32 tu) ∧ W'.cell? ⟨bb, 4, none⟩ = some (.int .i64 wo) ∧ W'.cell? ⟨bb, 5, none⟩ = some (.int .i8 fi) ∧ W'.cell? ⟨bb, 6, none⟩ = some (.int .i64 wi) ∧ Hid (CW w W' #[.slice a1 np ak1, .slice a2 nc ak2, .slice a3 nz ak3, .int .i32 tu, .int .i64 wo, .int .i8 fi, .int .i64 wi] #[.slice b1 mp bk1, .slice b2 mc bk2, .slice b3 mz bk3, .int .i32 tu2, .int .i64 wo2, .int .i8 fi2, .int .i64 wi2] #[.slice i1 np ik1, .slice i2 nc ik2, .slice i3 nz ik3, .int .i32 tu, .int .i64 wo, .int .i8 fi, .int .i64 wi] #[.slice x1 np xk1, .slice x2 nc xk2, .slice x3 nz xk3, .int .i32 tu, .int .i64 wo, .int .i8 fi, .int .i64 wi] #[.slice y1 np yk1, .slice y2 nc yk2, .slice y3 nz yk3, .int .i32 tu, .int .i64 wo, .int .i8 fi, .int .i64 wi] bi ba bb li bi la ba lb bb s t)))
          (first | exact HS0.out | (refine HKp.out _ _ ?_ hu9; assumption))
          (first
            | (go_at_call 10; (first | with_reducible refine Calls.mono (HSab.out _ (by assumption)) ?_ | with_reducible refine Calls.mono (HSia.out _ (by assumption)) ?_ | with_reducible refine Calls.mono (HSic.out _ _ (by assumption) (by assumption)) ?_ | with_reducible refine Calls.mono (HSci.out _ _ (by assumption) (by assumption)) ?_); rintro e w' ⟨rfl, hu9⟩)
            | (go_at_call 8; with_reducible refine Calls.mono (HEst.out _ (by assumption)) ?_; rintro e w' ⟨rfl, hu9⟩)
            | (go_at_call 11; with_reducible refine Calls.mono (HCt.out _ (by assumption)) ?_; rintro e w' ⟨c1, ck1, c2, ck2, c3, ck3, rfl, hst9, hu9⟩))
        rename_i hZ
        have HCW : Hid (CW w w' #[.slice a1 np ak1, .slice a2 nc ak2, .slice a3 nz ak3, .int .i32 tu, .int .i64 wo, .int .i8 fi, .int .i64 wi] #[.slice b1 mp bk1, .slice b2 mc bk2, .slice b3 mz bk3, .int .i32 tu2, .int .i64 wo2, .int .i8 fi2, .int .i64 wi2] #[.slice i1 np ik1, .slice i2 nc ik2, .slice i3 nz ik3, .int .i32 tu, .int .i64 wo, .int .i8 fi, .int .i64 wi] #[.slice x1 np xk1, .slice x2 nc xk2, .slice x3 nz xk3, .int .i32 tu, .int .i64 wo, .int .i8 fi, .int .i64 wi] #[.slice y1 np yk1, .slice y2 nc yk2, .slice y3 nz yk3, .int .i32 tu, .int .i64 wo, .int .i8 fi, .int .i64 wi] bi ba bb li bi la ba lb bb s t) := hZ.2.2.2.2.2.2.2.2.2.2.2.2.2.2.2.2.2.2.2.2.2.2.2.2.2.2.2.2.2.2.2.2.2.2.2
        clear hZ HS0 HKp HSab HSia HSic HSci HEst HCt
        clear hu9 hst9
        obtain ⟨gb, hgb⟩ : ∃ g, g = w'.heap.size := ⟨_, rfl⟩
        obtain ⟨W6, hW6⟩ : ∃ W, W = w'.alloc (.cells #[.slice none 0 0, .slice none 0 0, .slice none 0 0, .slice none 0 0, .slice none 0 0, .slice none 0 0, .slice none 0 0, .slice none 0 0, .slice none 0 0, .slice none 0 0, .slice none 0 0, .slice none 0 0, .slice none 0 0, .slice none 0 0, .slice none 0 0, .slice none 0 0, .slice none 0 0, .slice none 0 0, .slice none 0 0, .slice none 0 0, .slice none 0 0] 53) := ⟨_, rfl⟩
        have HB0 : Hid (BG.BagG W6 w.heap.size gb (gb + 1) (fun _ => .slice none 0 0) (fun _ => [])) := by
          unfold Hid
          rw [hgb, hW6]
          exact BG.bagG_start _ _
        have hu6 : Up w' W6 := by rw [hW6]; exact (Up.refl _).alloc _
        have HC6 : Hid (CW w W6 #[.slice a1 np ak1, .slice a2 nc ak2, .slice a3 nz ak3, .int .i32 tu, .int .i64 wo, .int .i8 fi, .int .i64 wi] #[.slice b1 mp bk1, .slice b2 mc bk2, .slice b3 mz bk3, .int .i32 tu2, .int .i64 wo2, .int .i8 fi2, .int .i64 wi2] #[.slice i1 np ik1, .slice i2 nc ik2, .slice i3 nz ik3, .int .i32 tu, .int .i64 wo, .int .i8 fi, .int .i64 wi] #[.slice x1 np xk1, .slice x2 nc xk2, .slice x3 nz xk3, .int .i32 tu, .int .i64 wo, .int .i8 fi, .int .i64 wi] #[.slice y1 np yk1, .slice y2 nc yk2, .slice y3 nz yk3, .int .i32 tu, .int .i64 wo, .int .i8 fi, .int .i64 wi] bi ba bb li bi la ba lb bb s t) := HCW.out.mono hu6
        have hlt : w.heap.size ≤ gb ∧ ba < gb ∧ bb < gb ∧ bi < gb ∧ W6.heap.size = gb + 1 ∧ bb ≤ gb := by
          have l1 := (Array.getElem?_eq_some_iff.1 HCW.out.a1).1
          have l2 := (Array.getElem?_eq_some_iff.1 HCW.out.b1).1
          have l3 := (Array.getElem?_eq_some_iff.1 HCW.out.i1).1
          have l4 := HCW.out.up.size
          exact ⟨by omega, by omega, by omega, by omega, by rw [hW6, hgb]; simp, by omega⟩
        have HLT : Hid _ := hlt
        have hord := HCW.out.ord
        obtain ⟨p0, p1, p2, p3, p4, p5, p6⟩ := seven_cells HC6.out.a1
        rw [hW6] at p0 p1 p2 p3 p4 p5 p6
        clear hlt hu6 HCW
        go_wp2_with fail
        rw [← hW6, ← hgb]
        clear hW6 hgb p0 p1 p2 p3 p4 p5 p6
        refine Calls.mono (BG.addState_ gb (gb + 1) w.heap.size la ba _ _ _ W6 HB0.out HC6.out.a3 (by omega) (by have := HLT.out; omega) (fun j g hg => by obtain ⟨p, hp, -⟩ := hg; exact absurd hp (Nat.not_lt_zero _))) ?_
        rintro e w7 ⟨rfl, f7, L7, d1, d2, d3, -, d5⟩
        have HB7 : Hid (BG.BagG w7 w.heap.size gb (gb + 1) f7 L7) := d1
        have HD7 : Hid (Below gb W6 w7) := d2
        have HK7 : Hid (∀ j g, BG.Blks (L7 j) g → la ≤ g ∧ g < ba) := fun j g hg => by
          rcases d3 j g hg with h | h
          · obtain ⟨p, hp, -⟩ := h; exact absurd hp (Nat.not_lt_zero _)
          · exact h
        have HJ7 : Hid (∀ j, j ∉ [7, 8, 12, 1] → L7 j = []) := d5
        have hb7 : w7.heap[bb]? = some (.cells #[.slice y1 np yk1, .slice y2 nc yk2, .slice y3 nz yk3, .int .i32 tu, .int .i64 wo, .int .i8 fi, .int .i64 wi] 27 (0, 0)) := (d2.block bb HLT.out.2.2.1).trans HC6.out.b1
        obtain ⟨p0, p1, p2, p3, p4, p5, p6⟩ := seven_cells hb7
        clear d1 d2 d3 d5 hb7 HB0
        go_wp2_with fail
        clear p0 p1 p2 p3 p4 p5 p6
        refine Calls.mono (BG.addState_ gb (gb + 1) w.heap.size lb bb _ _ _ w7 HB7.out (HC6.out.b3.below HD7.out HLT.out.2.2.2.2.2) (by omega) HLT.out.2.2.2.2.2 (fun j g hg => by have := HK7.out j g hg; omega)) ?_
        rintro e w8 ⟨rfl, f8, L8, d1, d2, d3, -, d5⟩
        have HB8 : Hid (BG.BagG w8 w.heap.size gb (gb + 1) f8 L8) := d1
        have HD8 : Hid (Below gb W6 w8) := Below.trans HD7.out d2
        have HK8 : Hid (∀ j g, BG.Blks (L8 j) g → la ≤ g) := fun j g hg => by
          rcases d3 j g hg with h | h
          · exact (HK7.out j g h).1
          · omega
        have HJ8 : Hid (∀ j, j ∉ [7, 8, 12, 1] → L8 j = []) := fun j hj => (d5 j hj).trans (HJ7.out j hj)
        have hb8 : w8.heap[bi]? = some (.cells #[.slice i1 np ik1, .slice i2 nc ik2, .slice i3 nz ik3, .int .i32 tu, .int .i64 wo, .int .i8 fi, .int .i64 wi] 27 (0, 0)) := (HD8.out.block bi HLT.out.2.2.2.1).trans HC6.out.i1
        obtain ⟨p0, p1, p2, p3, p4, p5, p6⟩ := seven_cells hb8
        clear d1 d2 d3 d5 hb8 HB7 HD7 HK7 HJ7
        go_wp2_with fail
        clear p0 p1 p2 p3 p4 p5 p6
        refine Calls.mono (BG.addState_ gb (gb + 1) w.heap.size li bi _ _ _ w8 HB8.out (HC6.out.i3.below HD8.out (by have := HLT.out; omega)) (by omega) (by have := HLT.out; omega) (fun j g hg => by have := HK8.out j g hg; omega)) ?_
        rintro e w10 ⟨rfl, f10, L10, d1, d2, -, -, d5⟩
        have HB10 : Hid (BG.BagG w10 w.heap.size gb (gb + 1) f10 L10) := d1
        have HD10 : Hid (Below w.heap.size w w10) := Below.trans HC6.out.up ((Below.trans HD8.out d2).mono (by have := HLT.out; omega))
        have HJ10 : Hid (∀ k, k < 21 → k ≠ 1 → k ≠ 7 → k ≠ 8 → k ≠ 12 → L10 k = []) := fun j _ h1 h7 h8 h12 => (d5 j (by simp; omega)).trans (HJ8.out j (by simp; omega))
        clear d1 d2 d5 HB8 HD8 HK8 HJ8 hord
        go_wp2_with fail
        refine Calls.mono (BG.apartS_ w10 w.heap.size gb (gb + 1) f10 L10 HB10.out HLT.out.1 HJ10.out) ?_
        rintro e w11 ⟨rfl, d1⟩
        have HD11 : Hid (Below w.heap.size w w11) := Below.trans HD10.out d1
        clear d1 HD10 HB10 HJ10
        go_wp2_with fail
        refine Calls.mono (works_ w11) ?_
        rintro e w12 ⟨rfl, d1⟩
        have HF : Hid (Post (.returned (.bool true)) w12) := by
          unfold Hid
          rw [HP.out]
          exact ⟨rfl, Below.trans HD11.out (d1.mono HD11.out.size)⟩
        clear d1 HD11
        go_wp2
        first | exact HF.out | (go_ret; exact HF.out)
      · go_region_held3 (fun W' => (W'.cell? ⟨w.heap.size, 0, none⟩ = some (.slice a1 np ak1) ∧ W'.cell? ⟨w.heap.size, 1, none⟩ = some (.slice a2 nc ak2) ∧ W'.cell? ⟨w.heap.size, 2, none⟩ = some (.slice a3 nz ak3) ∧ W'.cell? ⟨w.heap.size, 3, none⟩ = some (.int .i32 tu) ∧ W'.cell? ⟨w.heap.size, 4, none⟩ = some (.int .i64 wo) ∧ W'.cell? ⟨w.heap.size, 5, none⟩ = some (.int .i8 fi) ∧ W'.cell? ⟨w.heap.size, 6, none⟩ = some (.int .i64 wi) ∧ W'.cell? ⟨w.heap.size + 1, 0, none⟩ = some (.slice b1 mp bk1) ∧ W'.cell? ⟨w.heap.size + 1, 1, none⟩ = some (.slice b2 mc bk2) ∧ W'.cell? ⟨w.heap.size + 1, 2, none⟩ = some (.slice b3 mz bk3) ∧ W'.cell? ⟨w.heap.size + 1, 3, none⟩ = some (.int .i32 tu2) ∧ W'.cell? ⟨w.heap.size + 1, 4, none⟩ = some (.int .i64 wo2) ∧ W'.cell? ⟨w.heap.size + 1, 5, none⟩ = some (.int .i8 fi2) ∧ W'.cell? ⟨w.heap.size + 1, 6, none⟩ = some (.int .i64 wi2) ∧ W'.cell? ⟨bi, 0, none⟩ = some (.slice i1 np ik1) ∧ W'.cell? ⟨bi, 1, none⟩ = some (.slice i2 nc ik2) ∧ W'.cell? ⟨bi, 2, none⟩ = some (.slice i3 nz ik3) ∧ W'.cell? ⟨bi, 3, none⟩ = some (.int .i32 tu) ∧ W'.cell? ⟨bi, 4, none⟩ = some (.int .i64 wo) ∧ W'.cell? ⟨bi, 5, none⟩ = some (.int .i8 fi) ∧ W'.cell? ⟨bi, 6, none⟩ = some (.int .i64 wi) ∧ W'.cell? ⟨ba, 0, none⟩ = some (.slice x1 np xk1) ∧ W'.cell? ⟨ba, 1, none⟩ = some (.slice x2 nc xk2) ∧ W'.cell? ⟨ba, 2, none⟩ = some (.slice x3 nz xk3) ∧ W'.cell? ⟨ba, 3, none⟩ = some (.int .i32 tu) ∧ W'.cell? ⟨ba, 4, none⟩ = some (.int .i64 wo) ∧ W'.cell? ⟨ba, 5, none⟩ = some (.int .i8 fi) ∧ W'.cell? ⟨ba, 6, none⟩ = some (.int .i64 wi) ∧ W'.cell? ⟨bb, 0, none⟩ = some (.slice y1 np yk1) ∧ W'.cell? ⟨bb, 1, none⟩ = some (.slice y2 nc yk2) ∧ W'.cell? ⟨bb, 2, none⟩ = some (.slice y3 nz yk3) ∧ W'.cell? ⟨bb, 3, none⟩ = some (.int .i32 tu) ∧ W'.cell? ⟨bb, 4, none⟩ = some (.int .i64 wo) ∧ W'.cell? ⟨bb, 5, none⟩ = some (.int .i8 fi) ∧ W'.cell? ⟨bb, 6, none⟩ = some (.int .i64 wi) ∧ Hid (CW w W' #[.slice a1 np ak1, .slice a2 nc ak2, .slice a3 nz ak3, .int .i32 tu, .int .i64 wo, .int .i8 fi, .int .i64 wi] #[.slice b1 mp bk1, .slice b2 mc bk2, .slice b3 mz bk3, .int .i32 tu2, .int .i64 wo2, .int .i8 fi2, .int .i64 wi2] #[.slice i1 np ik1, .slice i2 nc ik2, .slice i3 nz ik3, .int .i32 tu, .int .i64 wo, .int .i8 fi, .int .i64 wi] #[.slice x1 np xk1, .slice x2 nc xk2, .slice x3 nz xk3, .int .i32 tu, .int .i64 wo, .int .i8 fi, .int .i64 wi] #[.slice y1 np yk1, .slice y2 nc yk2, .slice y3 nz yk3, .int .i32 tu, .int .i64 wo, .int .i8 fi, .int .i64 wi] bi ba bb li bi la ba lb bb s t)))
          (first | exact HS0.out | (refine HKp.out _ _ ?_ hu9; assumption))
          (first
            | (go_at_call 10; (first | with_reducible refine Calls.mono (HSab.out _ (by assumption)) ?_ | with_reducible refine Calls.mono (HSia.out _ (by assumption)) ?_ | with_reducible refine Calls.mono (HSic.out _ _ (by assumption) (by assumption)) ?_ | with_reducible refine Calls.mono (HSci.out _ _ (by assumption) (by assumption)) ?_); rintro e w' ⟨rfl, hu9⟩)
            | (go_at_call 8; with_reducible refine Calls.mono (HEst.out _ (by assumption)) ?_; rintro e w' ⟨rfl, hu9⟩)
            | (go_at_call 11; with_reducible refine Calls.mono (HCt.out _ (by assumption)) ?_; rintro e w' ⟨c1, ck1, c2, ck2, c3, ck3, rfl, hst9, hu9⟩))
        rename_i hZ
        have HCW : Hid (CW w w' #[.slice a1 np ak1, .slice a2 nc ak2, .slice a3 nz ak3, .int .i32 tu, .int .i64 wo, .int .i8 fi, .int .i64 wi] #[.slice b1 mp bk1, .slice b2 mc bk2, .slice b3 mz bk3, .int .i32 tu2, .int .i64 wo2, .int .i8 fi2, .int .i64 wi2] #[.slice i1 np ik1, .slice i2 nc ik2, .slice i3 nz ik3, .int .i32 tu, .int .i64 wo, .int .i8 fi, .int .i64 wi] #[.slice x1 np xk1, .slice x2 nc xk2, .slice x3 nz xk3, .int .i32 tu, .int .i64 wo, .int .i8 fi, .int .i64 wi] #[.slice y1 np yk1, .slice y2 nc yk2, .slice y3 nz yk3, .int .i32 tu, .int .i64 wo, .int .i8 fi, .int .i64 wi] bi ba bb li bi la ba lb bb s t) := hZ.2.2.2.2.2.2.2.2.2.2.2.2.2.2.2.2.2.2.2.2.2.2.2.2.2.2.2.2.2.2.2.2.2.2.2
        clear hZ HS0 HKp HSab HSia HSic HSci HEst HCt
        clear hu9 hst9
        obtain ⟨gb, hgb⟩ : ∃ g, g = w'.heap.size := ⟨_, rfl⟩
        obtain ⟨W6, hW6⟩ : ∃ W, W = w'.alloc (.cells #[.slice none 0 0, .slice none 0 0, .slice none 0 0, .slice none 0 0, .slice none 0 0, .slice none 0 0, .slice none 0 0, .slice none 0 0, .slice none 0 0, .slice none 0 0, .slice none 0 0, .slice none 0 0, .slice none 0 0, .slice none 0 0, .slice none 0 0, .slice none 0 0, .slice none 0 0, .slice none 0 0, .slice none 0 0, .slice none 0 0, .slice none 0 0] 53) := ⟨_, rfl⟩
        have HB0 : Hid (BG.BagG W6 w.heap.size gb (gb + 1) (fun _ => .slice none 0 0) (fun _ => [])) := by
          unfold Hid
          rw [hgb, hW6]
          exact BG.bagG_start _ _
        have hu6 : Up w' W6 := by rw [hW6]; exact (Up.refl _).alloc _
        have HC6 : Hid (CW w W6 #[.slice a1 np ak1, .slice a2 nc ak2, .slice a3 nz ak3, .int .i32 tu, .int .i64 wo, .int .i8 fi, .int .i64 wi] #[.slice b1 mp bk1, .slice b2 mc bk2, .slice b3 mz bk3, .int .i32 tu2, .int .i64 wo2, .int .i8 fi2, .int .i64 wi2] #[.slice i1 np ik1, .slice i2 nc ik2, .slice i3 nz ik3, .int .i32 tu, .int .i64 wo, .int .i8 fi, .int .i64 wi] #[.slice x1 np xk1, .slice x2 nc xk2, .slice x3 nz xk3, .int .i32 tu, .int .i64 wo, .int .i8 fi, .int .i64 wi] #[.slice y1 np yk1, .slice y2 nc yk2, .slice y3 nz yk3, .int .i32 tu, .int .i64 wo, .int .i8 fi, .int .i64 wi] bi ba bb li bi la ba lb bb s t) := HCW.out.mono hu6
        have hlt : w.heap.size ≤ gb ∧ ba < gb ∧ bb < gb ∧ bi < gb ∧ W6.heap.size = gb + 1 ∧ bb ≤ gb := by
          have l1 := (Array.getElem?_eq_some_iff.1 HCW.out.a1).1
          have l2 := (Array.getElem?_eq_some_iff.1 HCW.out.b1).1
          have l3 := (Array.getElem?_eq_some_iff.1 HCW.out.i1).1
          have l4 := HCW.out.up.size
          exact ⟨by omega, by omega, by omega, by omega, by rw [hW6, hgb]; simp, by omega⟩
        have HLT : Hid _ := hlt
        have hord := HCW.out.ord
        obtain ⟨p0, p1, p2, p3, p4, p5, p6⟩ := seven_cells HC6.out.a1
        rw [hW6] at p0 p1 p2 p3 p4 p5 p6
        clear hlt hu6 HCW
        go_wp2_with fail
        rw [← hW6, ← hgb]
        clear hW6 hgb p0 p1 p2 p3 p4 p5 p6
        refine Calls.mono (BG.addState_ gb (gb + 1) w.heap.size la ba _ _ _ W6 HB0.out HC6.out.a3 (by omega) (by have := HLT.out; omega) (fun j g hg => by obtain ⟨p, hp, -⟩ := hg; exact absurd hp (Nat.not_lt_zero _))) ?_
        rintro e w7 ⟨rfl, f7, L7, d1, d2, d3, -, d5⟩
        have HB7 : Hid (BG.BagG w7 w.heap.size gb (gb + 1) f7 L7) := d1
        have HD7 : Hid (Below gb W6 w7) := d2
        have HK7 : Hid (∀ j g, BG.Blks (L7 j) g → la ≤ g ∧ g < ba) := fun j g hg => by
          rcases d3 j g hg with h | h
          · obtain ⟨p, hp, -⟩ := h; exact absurd hp (Nat.not_lt_zero _)
          · exact h
        have HJ7 : Hid (∀ j, j ∉ [7, 8, 12, 1] → L7 j = []) := d5
        have hb7 : w7.heap[bb]? = some (.cells #[.slice y1 np yk1, .slice y2 nc yk2, .slice y3 nz yk3, .int .i32 tu, .int .i64 wo, .int .i8 fi, .int .i64 wi] 27 (0, 0)) := (d2.block bb HLT.out.2.2.1).trans HC6.out.b1
        obtain ⟨p0, p1, p2, p3, p4, p5, p6⟩ := seven_cells hb7
        clear d1 d2 d3 d5 hb7 HB0
        go_wp2_with fail
        clear p0 p1 p2 p3 p4 p5 p6
        refine Calls.mono (BG.addState_ gb (gb + 1) w.heap.size lb bb _ _ _ w7 HB7.out (HC6.out.b3.below HD7.out HLT.out.2.2.2.2.2) (by omega) HLT.out.2.2.2.2.2 (fun j g hg => by have := HK7.out j g hg; omega)) ?_
        rintro e w8 ⟨rfl, f8, L8, d1, d2, d3, -, d5⟩
        have HB8 : Hid (BG.BagG w8 w.heap.size gb (gb + 1) f8 L8) := d1
        have HD8 : Hid (Below gb W6 w8) := Below.trans HD7.out d2
        have HK8 : Hid (∀ j g, BG.Blks (L8 j) g → la ≤ g) := fun j g hg => by
          rcases d3 j g hg with h | h
          · exact (HK7.out j g h).1
          · omega
        have HJ8 : Hid (∀ j, j ∉ [7, 8, 12, 1] → L8 j = []) := fun j hj => (d5 j hj).trans (HJ7.out j hj)
        have hb8 : w8.heap[bi]? = some (.cells #[.slice i1 np ik1, .slice i2 nc ik2, .slice i3 nz ik3, .int .i32 tu, .int .i64 wo, .int .i8 fi, .int .i64 wi] 27 (0, 0)) := (HD8.out.block bi HLT.out.2.2.2.1).trans HC6.out.i1
        obtain ⟨p0, p1, p2, p3, p4, p5, p6⟩ := seven_cells hb8
        clear d1 d2 d3 d5 hb8 HB7 HD7 HK7 HJ7
        go_wp2_with fail
        clear p0 p1 p2 p3 p4 p5 p6
        refine Calls.mono (BG.addState_ gb (gb + 1) w.heap.size li bi _ _ _ w8 HB8.out (HC6.out.i3.below HD8.out (by have := HLT.out; omega)) (by omega) (by have := HLT.out; omega) (fun j g hg => by have := HK8.out j g hg; omega)) ?_
        rintro e w10 ⟨rfl, f10, L10, d1, d2, -, -, d5⟩
        have HB10 : Hid (BG.BagG w10 w.heap.size gb (gb + 1) f10 L10) := d1
        have HD10 : Hid (Below w.heap.size w w10) := Below.trans HC6.out.up ((Below.trans HD8.out d2).mono (by have := HLT.out; omega))
        have HJ10 : Hid (∀ k, k < 21 → k ≠ 1 → k ≠ 7 → k ≠ 8 → k ≠ 12 → L10 k = []) := fun j _ h1 h7 h8 h12 => (d5 j (by simp; omega)).trans (HJ8.out j (by simp; omega))
        clear d1 d2 d5 HB8 HD8 HK8 HJ8 hord
        go_wp2_with fail
        refine Calls.mono (BG.apartS_ w10 w.heap.size gb (gb + 1) f10 L10 HB10.out HLT.out.1 HJ10.out) ?_
        rintro e w11 ⟨rfl, d1⟩
        have HD11 : Hid (Below w.heap.size w w11) := Below.trans HD10.out d1
        clear d1 HD10 HB10 HJ10
        go_wp2_with fail
        refine Calls.mono (works_ w11) ?_
        rintro e w12 ⟨rfl, d1⟩
        have HF : Hid (Post (.returned (.bool true)) w12) := by
          unfold Hid
          rw [HP.out]
          exact ⟨rfl, Below.trans HD11.out (d1.mono HD11.out.size)⟩
        clear d1 HD11
        go_wp2
        first | exact HF.out | (go_ret; exact HF.out)
end ST
end Go.Proofs.YtndkpfkgcaebmaaDoor
