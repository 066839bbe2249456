/-
  A copy of a state.
-/
import Derived.Test.YtndkpfkgcaebmaaDoorCs
namespace Go.Proofs.YtndkpfkgcaebmaaDoor
open Go.RowKit
attribute [local go_sem ↓] Go.wp_at_zero Go.wp_at_succ

theorem seven_f {W : World} {a : Nat} {cs : Array Value} {t : TypeId} (h : W.heap[a]? = some (.cells cs t (0, 0))) : ∀ j, W.frozen? ⟨a, j, none⟩ = false := fun j => by simp [World.frozen?, h]
theorem set_cells {W : World} {a j : Nat} {cs : Array Value} {t : TypeId} {x : Value} (h : W.heap[a]? = some (.cells cs t (0, 0))) : (W.setCell ⟨a, j, none⟩ x).heap[a]? = some (.cells (cs.setIfInBounds j x) t (0, 0)) := by
  simp only [World.setCell, Array.getElem?_modify]; rw [h]; simp
theorem set_other {W : World} {a b j : Nat} {o : Obj} {x : Value} (h : W.heap[a]? = some o) (hn : a ≠ b) : (W.setCell ⟨b, j, none⟩ x).heap[a]? = some o := by
  rw [Below.heap_setCell _ _ _ _ hn]; exact h
theorem Up.get {W W' : World} (u : Up W W') {a : Nat} {o : Obj} (h : W.heap[a]? = some o) : W'.heap[a]? = some o := u.heap h
theorem two_blocks (w : World) (A B : Array Value) (t : TypeId) : ((w.alloc (.cells A t)).alloc (.cells B t)).heap[w.heap.size]? = some (.cells A t (0, 0)) ∧ ((w.alloc (.cells A t)).alloc (.cells B t)).heap[w.heap.size + 1]? = some (.cells B t (0, 0)) ∧ ((w.alloc (.cells A t)).alloc (.cells B t)).heap.size = w.heap.size + 2 ∧ Up w ((w.alloc (.cells A t)).alloc (.cells B t)) := by
  refine ⟨?_, ?_, by simp, ((Up.refl _).alloc _).alloc _⟩
  · rw [Below.heap_alloc _ _ _ (by simp)]; exact heap_alloc_new w _
  · have := heap_alloc_new (w.alloc (.cells A t)) (.cells B t)
    simpa using this
theorem seven_set {W : World} {b : Nat} {y0 y1 y2 y3 y4 y5 y6 x0 x1 x2 x3 x4 x5 x6 : Value} {t : TypeId} (h : W.heap[b]? = some (.cells #[y0, y1, y2, y3, y4, y5, y6] t (0, 0))) :
    (((((((W.setCell ⟨b, 0, none⟩ x0).setCell ⟨b, 1, none⟩ x1).setCell ⟨b, 2, none⟩ x2).setCell ⟨b, 3, none⟩ x3).setCell ⟨b, 4, none⟩ x4).setCell ⟨b, 5, none⟩ x5).setCell ⟨b, 6, none⟩ x6).heap[b]? = some (.cells #[x0, x1, x2, x3, x4, x5, x6] t (0, 0)) := by
  have h0 : (W.setCell ⟨b, 0, none⟩ x0).heap[b]? = some (.cells #[x0, y1, y2, y3, y4, y5, y6] t (0, 0)) := set_cells h
  have h1 : ((W.setCell ⟨b, 0, none⟩ x0).setCell ⟨b, 1, none⟩ x1).heap[b]? = some (.cells #[x0, x1, y2, y3, y4, y5, y6] t (0, 0)) := set_cells h0
  have h2 : (((W.setCell ⟨b, 0, none⟩ x0).setCell ⟨b, 1, none⟩ x1).setCell ⟨b, 2, none⟩ x2).heap[b]? = some (.cells #[x0, x1, x2, y3, y4, y5, y6] t (0, 0)) := set_cells h1
  have h3 : ((((W.setCell ⟨b, 0, none⟩ x0).setCell ⟨b, 1, none⟩ x1).setCell ⟨b, 2, none⟩ x2).setCell ⟨b, 3, none⟩ x3).heap[b]? = some (.cells #[x0, x1, x2, x3, y4, y5, y6] t (0, 0)) := set_cells h2
  have h4 : (((((W.setCell ⟨b, 0, none⟩ x0).setCell ⟨b, 1, none⟩ x1).setCell ⟨b, 2, none⟩ x2).setCell ⟨b, 3, none⟩ x3).setCell ⟨b, 4, none⟩ x4).heap[b]? = some (.cells #[x0, x1, x2, x3, x4, y5, y6] t (0, 0)) := set_cells h3
  have h5 : ((((((W.setCell ⟨b, 0, none⟩ x0).setCell ⟨b, 1, none⟩ x1).setCell ⟨b, 2, none⟩ x2).setCell ⟨b, 3, none⟩ x3).setCell ⟨b, 4, none⟩ x4).setCell ⟨b, 5, none⟩ x5).heap[b]? = some (.cells #[x0, x1, x2, x3, x4, x5, y6] t (0, 0)) := set_cells h4
  have h6 : (((((((W.setCell ⟨b, 0, none⟩ x0).setCell ⟨b, 1, none⟩ x1).setCell ⟨b, 2, none⟩ x2).setCell ⟨b, 3, none⟩ x3).setCell ⟨b, 4, none⟩ x4).setCell ⟨b, 5, none⟩ x5).setCell ⟨b, 6, none⟩ x6).heap[b]? = some (.cells #[x0, x1, x2, x3, x4, x5, x6] t (0, 0)) := set_cells h5
  exact h6
namespace ST
theorem SO.set {b k j : Nat} {W : World} {v u : Value} {s : Stt} (h : SO b W v s) (hk : k < b) : SO b (W.setCell ⟨k, j, none⟩ u) v s := by
  obtain ⟨vp, vc, vz, hv, h1, h2, h3⟩ := h
  exact ⟨vp, vc, vz, hv, row_set h1 hk, row_set h2 hk, h3.set hk⟩
theorem SO.less {b b' : Nat} {W : World} {v : Value} {s : Stt} (h : SO b W v s) (hb : b' ≤ b) : SO b' W v s := by
  obtain ⟨vp, vc, vz, hv, h1, h2, h3⟩ := h
  exact ⟨vp, vc, vz, hv, own_less h1 hb, own_less h2 hb, h3.less hb⟩
theorem SO.up {b : Nat} {W W' : World} {v : Value} {s : Stt} (h : SO b W v s) (u : Up W W') : SO b W' v s := by
  obtain ⟨vp, vc, vz, hv, h1, h2, h3⟩ := h
  exact ⟨vp, vc, vz, hv, row_up h1 u, row_up h2 u, h3.up u⟩
set_option maxRecDepth 100000 in
set_option maxHeartbeats 4000000 in
theorem copyState_ (v : Value) (s : Stt) (w : World) (hs : StL w v s) (hsm : Small s) :
    Calls Tryd.prog 11 #[v] w (CpPost w fun W v' => SO w.heap.size W v' s) := by
  obtain ⟨Post, hPost⟩ : ∃ P : Ending → World → Prop, P = CpPost w fun W v' => SO w.heap.size W v' s := ⟨_, rfl⟩
  rw [← hPost]
  have HP : Hid (Post = CpPost w fun W v' => SO w.heap.size W v' s) := hPost
  obtain ⟨vp, vc, vz, rfl, h1, h2, h3⟩ := hs
  have H1 : Hid _ := h1
  have H2 : Hid _ := h2
  have H3 : Hid _ := h3
  obtain ⟨a1, k1, rfl, -, -⟩ := lc_at h1
  obtain ⟨a2, k2, rfl, -, -⟩ := lc_at h2
  obtain ⟨a3, k3, rfl, -, -⟩ := zl_at h3
  have HM : Hid (Small s) := hsm
  clear hPost h1 h2 h3 hsm
  have HSV : Hid (∀ x y z, sv x y z s = .agg #[x, y, z, .int .i32 s.turn, .int .i64 s.whose, .int .i8 s.fin, .int .i64 s.winner]) := fun _ _ _ => rfl
  unfold sv
  generalize s.turn = tu at HSV ⊢
  generalize s.whose = wo at HSV ⊢
  generalize s.fin = fi at HSV ⊢
  generalize s.winner = wi at HSV ⊢
  go_enter Tryd.func11, Tryd.ntmps11
  go_wp2_with fail
  obtain ⟨W1, hW1⟩ : ∃ W, W = (w.alloc (.cells #[.slice a1 s.ps.length k1, .slice a2 s.cs.length k2, .slice a3 s.zs.length k3, .int .i32 tu, .int .i64 wo, .int .i8 fi, .int .i64 wi] 27)).alloc (.cells #[.slice none 0 0, .slice none 0 0, .slice none 0 0, .int .i32 0, .int .i64 0, .int .i8 0, .int .i64 0] 27) := ⟨_, rfl⟩
  rw [← hW1]
  obtain ⟨b0, hb0⟩ : ∃ b, b = w.heap.size := ⟨_, rfl⟩
  rw [← hb0]
  obtain ⟨g0, g1, gs, gu⟩ := two_blocks w #[.slice a1 s.ps.length k1, .slice a2 s.cs.length k2, .slice a3 s.zs.length k3, .int .i32 tu, .int .i64 wo, .int .i8 fi, .int .i64 wi] #[.slice none 0 0, .slice none 0 0, .slice none 0 0, .int .i32 0, .int .i64 0, .int .i8 0, .int .i64 0] 27
  rw [← hW1] at g0 g1 gs gu
  rw [← hb0] at g0 g1 gs
  have HB : Hid (b0 = w.heap.size) := hb0
  clear hW1 hb0
  refine Calls.mono (copyPlayers_ _ s.ps W1 (PLs.up H1.out gu) HM.out.1) ?_
  rintro e w1 ⟨x1, rfl, d1, u1⟩
  have HG : Hid (w1.heap[b0]? = _ ∧ w1.heap[b0 + 1]? = _ ∧ b0 + 2 ≤ w1.heap.size ∧ Up w w1 ∧ PO (b0 + 2) w1 x1 s.ps) := ⟨u1.heap g0, u1.heap g1, by have := u1.size; omega, gu.trans u1, by rw [gs] at d1; exact d1⟩
  obtain ⟨xa, xc, hx1⟩ := row_val d1
  subst hx1
  clear d1 u1 g0 g1 gs gu
  obtain ⟨y0, y1, y2, y3, y4, y5, y6⟩ := seven_cells HG.out.1
  have yf := seven_f HG.out.1
  have HG2 : Hid ((w1.setCell ⟨b0, 0, none⟩ (.slice xa s.ps.length xc)).heap[b0]? = some (.cells #[.slice xa s.ps.length xc, .slice a2 s.cs.length k2, .slice a3 s.zs.length k3, .int .i32 tu, .int .i64 wo, .int .i8 fi, .int .i64 wi] 27 (0, 0)) ∧ (w1.setCell ⟨b0, 0, none⟩ (.slice xa s.ps.length xc)).heap[b0 + 1]? = some (.cells #[.slice none 0 0, .slice none 0 0, .slice none 0 0, .int .i32 0, .int .i64 0, .int .i8 0, .int .i64 0] 27 (0, 0)) ∧ b0 + 2 ≤ (w1.setCell ⟨b0, 0, none⟩ (.slice xa s.ps.length xc)).heap.size ∧ Up w (w1.setCell ⟨b0, 0, none⟩ (.slice xa s.ps.length xc)) ∧ PO (b0 + 2) (w1.setCell ⟨b0, 0, none⟩ (.slice xa s.ps.length xc)) (.slice xa s.ps.length xc) s.ps) :=
    ⟨set_cells HG.out.1, set_other HG.out.2.1 (by omega), by simpa using HG.out.2.2.1, Up.set HG.out.2.2.2.1 _ _ (by rw [← HB.out]; exact Nat.le_refl _), row_set HG.out.2.2.2.2 (by omega)⟩
  clear HG
  go_wp2_with fail
  obtain ⟨W3, hW3⟩ : ∃ W, W = w1.setCell ⟨b0, 0, none⟩ (.slice xa s.ps.length xc) := ⟨_, rfl⟩
  rw [← hW3] at HG2 ⊢
  clear hW3
  refine Calls.mono (copyCards_ _ s.cs W3 (CLs.up H2.out HG2.out.2.2.2.1) HM.out.2.1) ?_
  rintro e w4 ⟨x2, rfl, d2, u2⟩
  have HG : Hid (w4.heap[b0]? = _ ∧ w4.heap[b0 + 1]? = _ ∧ b0 + 2 ≤ w4.heap.size ∧ Up w w4 ∧ PO (b0 + 2) w4 (.slice xa s.ps.length xc) s.ps ∧ CO (b0 + 2) w4 x2 s.cs) := ⟨u2.heap HG2.out.1, u2.heap HG2.out.2.1, by have := u2.size; have := HG2.out.2.2.1; omega, HG2.out.2.2.2.1.trans u2, row_up HG2.out.2.2.2.2 u2, own_less d2 HG2.out.2.2.1⟩
  obtain ⟨xa2, xc2, hx2⟩ := row_val d2
  subst hx2
  clear d2 u2 HG2 y0 y1 y2 y3 y4 y5 y6 yf
  obtain ⟨y0, y1, y2, y3, y4, y5, y6⟩ := seven_cells HG.out.1
  have yf := seven_f HG.out.1
  have HG2 : Hid ((w4.setCell ⟨b0, 1, none⟩ (.slice xa2 s.cs.length xc2)).heap[b0]? = some (.cells #[.slice xa s.ps.length xc, .slice xa2 s.cs.length xc2, .slice a3 s.zs.length k3, .int .i32 tu, .int .i64 wo, .int .i8 fi, .int .i64 wi] 27 (0, 0)) ∧ (w4.setCell ⟨b0, 1, none⟩ (.slice xa2 s.cs.length xc2)).heap[b0 + 1]? = some (.cells #[.slice none 0 0, .slice none 0 0, .slice none 0 0, .int .i32 0, .int .i64 0, .int .i8 0, .int .i64 0] 27 (0, 0)) ∧ b0 + 2 ≤ (w4.setCell ⟨b0, 1, none⟩ (.slice xa2 s.cs.length xc2)).heap.size ∧ Up w (w4.setCell ⟨b0, 1, none⟩ (.slice xa2 s.cs.length xc2)) ∧ PO (b0 + 2) (w4.setCell ⟨b0, 1, none⟩ (.slice xa2 s.cs.length xc2)) (.slice xa s.ps.length xc) s.ps ∧ CO (b0 + 2) (w4.setCell ⟨b0, 1, none⟩ (.slice xa2 s.cs.length xc2)) (.slice xa2 s.cs.length xc2) s.cs) :=
    ⟨set_cells HG.out.1, set_other HG.out.2.1 (by omega), by simpa using HG.out.2.2.1, Up.set HG.out.2.2.2.1 _ _ (by rw [← HB.out]; exact Nat.le_refl _), row_set HG.out.2.2.2.2.1 (by omega), row_set HG.out.2.2.2.2.2 (by omega)⟩
  clear HG
  go_wp2_with fail
  obtain ⟨W5, hW5⟩ : ∃ W, W = w4.setCell ⟨b0, 1, none⟩ (.slice xa2 s.cs.length xc2) := ⟨_, rfl⟩
  rw [← hW5] at HG2 ⊢
  clear hW5
  refine Calls.mono (copyRows_ _ s.zs W5 (ZL.up H3.out HG2.out.2.2.2.1) HM.out.2.2.1 HM.out.2.2.2) ?_
  rintro e w6 ⟨x3, rfl, d3, u3⟩
  have HG : Hid (w6.heap[b0]? = _ ∧ w6.heap[b0 + 1]? = _ ∧ b0 + 2 ≤ w6.heap.size ∧ Up w w6 ∧ PO (b0 + 2) w6 (.slice xa s.ps.length xc) s.ps ∧ CO (b0 + 2) w6 (.slice xa2 s.cs.length xc2) s.cs ∧ ZO (b0 + 2) w6 x3 s.zs) := ⟨u3.heap HG2.out.1, u3.heap HG2.out.2.1, by have := u3.size; have := HG2.out.2.2.1; omega, HG2.out.2.2.2.1.trans u3, row_up HG2.out.2.2.2.2.1 u3, row_up HG2.out.2.2.2.2.2 u3, d3.less HG2.out.2.2.1⟩
  obtain ⟨xa3, xc3, hx3⟩ : ∃ p q, x3 = .slice p s.zs.length q := by
    obtain ⟨vs, h, -⟩ := d3
    exact row_val h
  subst hx3
  clear d3 u3 HG2 y0 y1 y2 y3 y4 y5 y6 yf
  obtain ⟨y0, y1, y2, y3, y4, y5, y6⟩ := seven_cells HG.out.1
  have yf := seven_f HG.out.1
  have HG2 : Hid ((w6.setCell ⟨b0, 2, none⟩ (.slice xa3 s.zs.length xc3)).heap[b0]? = some (.cells #[.slice xa s.ps.length xc, .slice xa2 s.cs.length xc2, .slice xa3 s.zs.length xc3, .int .i32 tu, .int .i64 wo, .int .i8 fi, .int .i64 wi] 27 (0, 0)) ∧ (w6.setCell ⟨b0, 2, none⟩ (.slice xa3 s.zs.length xc3)).heap[b0 + 1]? = some (.cells #[.slice none 0 0, .slice none 0 0, .slice none 0 0, .int .i32 0, .int .i64 0, .int .i8 0, .int .i64 0] 27 (0, 0)) ∧ Up w (w6.setCell ⟨b0, 2, none⟩ (.slice xa3 s.zs.length xc3)) ∧ SO (b0 + 2) (w6.setCell ⟨b0, 2, none⟩ (.slice xa3 s.zs.length xc3)) (.agg #[.slice xa s.ps.length xc, .slice xa2 s.cs.length xc2, .slice xa3 s.zs.length xc3, .int .i32 tu, .int .i64 wo, .int .i8 fi, .int .i64 wi]) s) :=
    ⟨set_cells HG.out.1, set_other HG.out.2.1 (by omega), Up.set HG.out.2.2.2.1 _ _ (by rw [← HB.out]; exact Nat.le_refl _), _, _, _, (HSV.out _ _ _).symm, row_set HG.out.2.2.2.2.1 (by omega), row_set HG.out.2.2.2.2.2.1 (by omega), HG.out.2.2.2.2.2.2.set (by omega)⟩
  clear HG
  obtain ⟨W7, hW7⟩ : ∃ W, W = w6.setCell ⟨b0, 2, none⟩ (.slice xa3 s.zs.length xc3) := ⟨_, rfl⟩
  rw [← hW7] at HG2
  have HW7 : Hid (W7 = _) := hW7
  obtain ⟨q0, q1, q2, q3, q4, q5, q6⟩ := seven_cells HG2.out.1
  obtain ⟨r0, r1, r2, r3, r4, r5, r6⟩ := seven_cells HG2.out.2.1
  have rf := seven_f HG2.out.2.1
  rw [hW7] at q0 q1 q2 q3 q4 q5 q6 r0 r1 r2 r3 r4 r5 r6 rf
  clear hW7
  go_wp2_with fail
  rw [← HW7.out]
  obtain ⟨p0, p1, p2, p3, p4, p5, p6⟩ := seven_cells (seven_set (x0 := .slice xa s.ps.length xc) (x1 := .slice xa2 s.cs.length xc2) (x2 := .slice xa3 s.zs.length xc3) (x3 := .int .i32 tu) (x4 := .int .i64 wo) (x5 := .int .i8 fi) (x6 := .int .i64 wi) HG2.out.2.1)
  have hs1 : b0 + 1 < b0 + 2 := by omega
  have hb1 : w.heap.size ≤ b0 + 1 := by rw [← HB.out]; omega
  refine bodyPost_ret (v := .agg #[.slice xa s.ps.length xc, .slice xa2 s.cs.length xc2, .slice xa3 s.zs.length xc3, .int .i32 tu, .int .i64 wo, .int .i8 fi, .int .i64 wi]) (by simp [results, Tryd.results11, go_sem, p0, p1, p2, p3, p4, p5, p6]) rfl ?_
  rw [HP.out]
  refine ⟨_, rfl, ?_, ?_⟩
  · exact ((((((((HG2.out.2.2.2.set hs1).set hs1).set hs1).set hs1).set hs1).set hs1).set hs1)).less (by rw [HB.out]; omega)
  · exact ((((((((HG2.out.2.2.1.set _ _ hb1).set _ _ hb1).set _ _ hb1).set _ _ hb1).set _ _ hb1).set _ _ hb1).set _ _ hb1))
end ST
end Go.Proofs.YtndkpfkgcaebmaaDoor
