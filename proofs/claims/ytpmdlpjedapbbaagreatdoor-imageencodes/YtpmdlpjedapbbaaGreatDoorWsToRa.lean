/-
  WideRows, WideState.
-/
import Derived.Test.YtpmdlpjedapbbaaGreatDoorWrToNw
namespace Go.Proofs.YtpmdlpjedapbbaaGreatDoor
open Go.RowKit
attribute [local go_sem ↓] Go.wp_at_zero Go.wp_at_succ

namespace ST
theorem WI.less {b b' : Nat} {W : World} {v : Value} {l : List Int} (h : WI b W v l) (hb : b' ≤ b) : WI b' W v l := by
  obtain ⟨g, h1, h2⟩ := h
  exact ⟨g, by omega, h2⟩
def WRs (base : Nat) (w W : World) (g n : Nat) (zs : List (List Int)) (i : Nat) (cs : List Value) : Prop := W.heap[g]? = some (.cells cs.toArray 98 (0, 0)) ∧ cs.length = n + 64 ∧ (∀ q, q < i → WRow base W (cs.getD q nl) zs q) ∧ Up w W
theorem WRs.put {base : Nat} {w W W1 : World} {g n : Nat} {zs : List (List Int)} {i : Nat} {cs : List Value} {x : Value} (h : WRs base w W g n zs i cs) (u : Up W W1) (hi : i < n + 64) (hx : WRow base W1 x zs i) (hg : w.heap.size ≤ g) : WRs base w (W1.setCell ⟨g, i, none⟩ x) g n zs (i + 1) (cs.set i x) := by
  obtain ⟨h1, h2, h3, h4⟩ := h
  have k1 := u.heap h1
  have kp : ∀ g' cs', base ≤ g' → W1.heap[g']? = some (.cells cs' 3 (0, 0)) → (W1.setCell ⟨g, i, none⟩ x).heap[g']? = some (.cells cs' 3 (0, 0)) := fun g' cs' _ h' => set_other h' (heap_ne h' k1 (by decide))
  refine ⟨?_, by simpa using h2, fun q hq => ?_, Up.set (h4.trans u) _ _ hg⟩
  · have := set_cells (j := i) (x := x) k1
    simpa using this
  · by_cases e : q = i
    · subst e
      rw [List.getD_eq_getElem?_getD, List.getElem?_set_self (by omega)]
      exact hx.keep kp
    · rw [List.getD_eq_getElem?_getD, List.getElem?_set_ne (fun h => e h.symm), ← List.getD_eq_getElem?_getD]
      exact ((h3 q (by omega)).keep (fun g' cs' _ h' => u.heap h')).keep kp
set_option maxRecDepth 100000 in
set_option maxHeartbeats 4000000 in
theorem wideRows_ (v : Value) (zs : List (List Int)) (w : World) (hv : ZL w v zs) (hn : zs.length ≤ 4294967296) (hl : ∀ r, r < zs.length → (zs.getD r []).length ≤ 4294967296) :
    Calls Tryz.prog 27 #[v] w (CpPost w fun W v' => WZ w.heap.size W v' zs) := by
  obtain ⟨iT, hiT, z0, z1, z2⟩ := info_parts infoR
  obtain ⟨Post, hPost⟩ : ∃ P : Ending → World → Prop, P = CpPost w fun W v' => WZ w.heap.size W v' zs := ⟨_, rfl⟩
  rw [← hPost]
  have HP : Hid (Post = CpPost w fun W v' => WZ w.heap.size W v' zs) := hPost
  obtain ⟨a1, k1, rfl, -, h1⟩ := zl_at hv
  obtain ⟨n, hn0⟩ : ∃ n, n = zs.length := ⟨_, rfl⟩
  have HN : Hid (n = zs.length) := hn0
  rw [← hn0] at hn h1 hl ⊢
  have H1 : Hid _ := h1
  have HL : Hid _ := hl
  obtain ⟨g, hg⟩ : ∃ g, g = w.heap.size := ⟨_, rfl⟩
  have HG : Hid (g = w.heap.size) := hg
  clear hPost hv h1 hn0 hl
  go_enter Tryz.func27, Tryz.ntmps27
  go_wp2_with (at_make; refine wpList_make_full _ rfl _ _ 24 rfl w.heap.size 98 iT _ 1 Tryz.underlying24 hiT z0 z1 .i64 .i64 _ _ (n + 64) rfl rfl rfl rfl (by rw [z2]; omega) (by unfold maxLen; omega) (Nat.le_refl _) ?_; intro w1 hin hg1)
  have HI : Hid (∃ cs, WRs g w w1 g n zs 0 cs) := ⟨_, by rw [hg]; exact row_made hin, by have := hin.1; omega, fun q hq => by omega, made_up hg1⟩
  rw [← hg]
  clear hin hg1 hg
  go_wp2_with fail
  go_loopw [4] (fun s4 W => ∃ (i : Nat) (cs : List Value), i ≤ n + 64 ∧ s4 = .int .i64 i ∧ WRs g w W g n zs i cs) (fun s4 _ => n + 64 - (intOf s4).toNat)
  case atStart => obtain ⟨cs, h⟩ := HI.out; exact ⟨0, cs, Nat.zero_le _, rfl, h⟩
  case round =>
    obtain ⟨i, cs, hi, rfl, hw⟩ := hrel
    clear HI
    have HW : Hid (WRs g w wr g n zs i cs) := hw
    have hgw : w.heap.size ≤ g := by rw [HG.out]; exact Nat.le_refl _
    have hgs : g ≤ wr.heap.size := by have := (Array.getElem?_eq_some_iff.1 hw.1).1; omega
    by_cases hlt : i < n + 64
    · have hlt2 : (i : Int) < (n : Int) + 64 := by omega
      have HCe : Hid (∀ W, Up wr W → (∃ z, W.cell? ⟨g, i, none⟩ = some z) ∧ W.frozen? ⟨g, i, none⟩ = false) := fun W u => by
        have h1 := u.heap hw.1
        have h2 := hw.2.1
        exact ⟨⟨cs[i]'(by omega), by simp [World.cell?, h1]⟩, seven_f h1 i⟩
      by_cases hin : i < n
      · have hin2 : (i : Int) < (n : Int) := by omega
        obtain ⟨b1, o1, rfl, c1⟩ := H1.out (by omega)
        obtain ⟨ra, rc, hcell, hil⟩ := c1 i hin
        have x1 := hcell wr hw.2.2.2
        have HK : Hid _ := wideInts_ _ (zs.getD i []) wr (hil.up hw.2.2.2) (HL.out i hin)
        clear c1 hcell hil hw
        go_wp2_with fail
        refine Calls.mono HK.out ?_
        rintro e w2 ⟨x, rfl, hx, u2⟩
        have HX : Hid (WI g w2 x (zs.getD i [])) := hx.less hgs
        have HU2 : Hid (Up wr w2) := u2
        obtain ⟨xg, -, hxv, -⟩ := id hx
        obtain ⟨⟨zc, zcell⟩, zf⟩ := HCe.out w2 u2
        have HF : Hid (WRs g w (w2.setCell ⟨g, i, none⟩ x) g n zs (i + 1) (cs.set i x)) := WRs.put HW.out u2 hlt (by rw [WRow, if_pos (by rw [← HN.out]; exact hin)]; exact HX.out) hgw
        clear hx u2 HK HX
        subst hxv
        go_wp2
        go_roundw
        case rel => exact ⟨i + 1, _, by omega, by go_num, HF.out⟩
        case measure => simp [intOf]; omega
      · have hin2 : ¬ (i : Int) < (n : Int) := by omega
        clear hw
        go_wp2_with fail
        refine Calls.mono (num_ i (by omega) _) ?_
        rintro e w2 ⟨rfl, rfl⟩
        have HF : Hid (WRs g w ((w2.alloc (.cells #[.int .i64 (numI i)] 3)).setCell ⟨g, i, none⟩ (.slice (some ⟨w2.heap.size, 0, none⟩) 1 1)) g n zs (i + 1) (cs.set i (.slice (some ⟨w2.heap.size, 0, none⟩) 1 1))) := WRs.put HW.out ((Up.refl _).alloc _) hlt (by rw [WRow, if_neg (by rw [← HN.out]; exact hin)]; exact ⟨w2.heap.size, hgs, rfl, heap_alloc_new w2 _⟩) hgw
        have zc : ∀ o, (w2.alloc o).frozen? ⟨g, i, none⟩ = false := fun o => (HCe.out _ ((Up.refl _).alloc o)).2
        obtain ⟨⟨z9, z8⟩, -⟩ := HCe.out w2 (Up.refl _)
        have zd : ∀ o, (w2.alloc o).cell? ⟨g, i, none⟩ = some z9 := fun o => ((Up.refl w2).alloc o).cell z8
        generalize numI i = z at HF ⊢
        go_wp2
        go_roundw
        case rel => exact ⟨i + 1, _, by omega, by go_num, HF.out⟩
        case measure => simp [intOf]; omega
    · have hlt2 : ¬ (i : Int) < (n : Int) + 64 := by omega
      have hn64 : (n : Int) ≤ (n : Int) + 64 := by omega
      clear hw
      go_wp2
      rw [HP.out]
      have hnn := HN.out
      exact ⟨_, rfl, ⟨g, cs, hgw, by rw [← HN.out], HW.out.1, by rw [← hnn]; exact HW.out.2.1, fun j hj => by rw [← HG.out]; exact HW.out.2.2.1 j (by omega)⟩, HW.out.2.2.2⟩
end ST
end Go.Proofs.YtpmdlpjedapbbaaGreatDoor
/-
  WideState.
-/
namespace Go.Proofs.YtpmdlpjedapbbaaGreatDoor
open Go.RowKit
attribute [local go_sem ↓] Go.wp_at_zero Go.wp_at_succ

namespace ST
theorem WP.less {b b' : Nat} {W : World} {v : Value} {l : List Ply} (h : WP b W v l) (hb : b' ≤ b) : WP b' W v l := by
  obtain ⟨g, h1, h2⟩ := h
  exact ⟨g, by omega, h2⟩
theorem WP.val {b : Nat} {W : World} {v : Value} {l : List Ply} (h : WP b W v l) : ∃ a c, v = .slice a l.length c := by
  obtain ⟨g, h1, h2, -⟩ := h
  exact ⟨_, _, h2⟩
theorem WP.set {b k j : Nat} {W : World} {v u : Value} {l : List Ply} (h : WP b W v l) (hk : k < b) : WP b (W.setCell ⟨k, j, none⟩ u) v l := by
  obtain ⟨g, h1, h2, h3⟩ := h
  exact ⟨g, h1, h2, set_other h3 (by omega)⟩
theorem WC.less {b b' : Nat} {W : World} {v : Value} {l : List Crd} (h : WC b W v l) (hb : b' ≤ b) : WC b' W v l := by
  obtain ⟨g, h1, h2⟩ := h
  exact ⟨g, by omega, h2⟩
theorem WC.val {b : Nat} {W : World} {v : Value} {l : List Crd} (h : WC b W v l) : ∃ a c, v = .slice a l.length c := by
  obtain ⟨g, h1, h2, -⟩ := h
  exact ⟨_, _, h2⟩
theorem WC.set {b k j : Nat} {W : World} {v u : Value} {l : List Crd} (h : WC b W v l) (hk : k < b) : WC b (W.setCell ⟨k, j, none⟩ u) v l := by
  obtain ⟨g, h1, h2, h3⟩ := h
  exact ⟨g, h1, h2, set_other h3 (by omega)⟩
theorem WRow.less {b b' : Nat} {W : World} {x : Value} {zs : List (List Int)} {i : Nat} (h : WRow b W x zs i) (hb : b' ≤ b) : WRow b' W x zs i := by
  unfold WRow at h ⊢
  split
  · rename_i hi
    rw [if_pos hi] at h
    exact h.less hb
  · rename_i hi
    rw [if_neg hi] at h
    obtain ⟨g, h1, h2⟩ := h
    exact ⟨g, by omega, h2⟩
theorem WZ.less {b b' : Nat} {W : World} {v : Value} {l : List (List Int)} (h : WZ b W v l) (hb : b' ≤ b) : WZ b' W v l := by
  obtain ⟨g, vs, h1, h2, h3, h4, h5⟩ := h
  exact ⟨g, vs, by omega, h2, h3, h4, fun i hi => (h5 i hi).less hb⟩
theorem WZ.val {b : Nat} {W : World} {v : Value} {l : List (List Int)} (h : WZ b W v l) : ∃ a c, v = .slice a l.length c := by
  obtain ⟨g, vs, h1, h2, -⟩ := h
  exact ⟨_, _, h2⟩
theorem WZ.set {b k j : Nat} {W : World} {v u : Value} {l : List (List Int)} (h : WZ b W v l) (hk : k < b) : WZ b (W.setCell ⟨k, j, none⟩ u) v l := by
  obtain ⟨g, vs, h1, h2, h3, h4, h5⟩ := h
  exact ⟨g, vs, h1, h2, set_other h3 (by omega), h4, fun i hi => (h5 i hi).keep (fun g' cs' hb h' => set_other h' (by omega))⟩
theorem WS.set {b k j : Nat} {W : World} {v u : Value} {s : Stt} (h : WS b W v s) (hk : k < b) : WS b (W.setCell ⟨k, j, none⟩ u) v s := by
  obtain ⟨vp, vc, vz, hv, h1, h2, h3⟩ := h
  exact ⟨vp, vc, vz, hv, h1.set hk, h2.set hk, h3.set hk⟩
theorem WS.less {b b' : Nat} {W : World} {v : Value} {s : Stt} (h : WS b W v s) (hb : b' ≤ b) : WS b' W v s := by
  obtain ⟨vp, vc, vz, hv, h1, h2, h3⟩ := h
  exact ⟨vp, vc, vz, hv, h1.less hb, h2.less hb, h3.less hb⟩
set_option maxRecDepth 100000 in
set_option maxHeartbeats 4000000 in
theorem wideState_ (v : Value) (s : Stt) (w : World) (hs : StL w v s) (hsm : Small s) :
    Calls Tryz.prog 7 #[v] w (CpPost w fun W v' => WS w.heap.size W v' s) := by
  obtain ⟨Post, hPost⟩ : ∃ P : Ending → World → Prop, P = CpPost w fun W v' => WS w.heap.size W v' s := ⟨_, rfl⟩
  rw [← hPost]
  have HP : Hid (Post = CpPost w fun W v' => WS w.heap.size W v' s) := hPost
  obtain ⟨vp, vc, vz, rfl, h1, h2, h3⟩ := hs
  have H1 : Hid _ := h1
  have H2 : Hid _ := h2
  have H3 : Hid _ := h3
  obtain ⟨a1, k1, rfl, -, -⟩ := lc_at h1
  obtain ⟨a2, k2, rfl, -, -⟩ := lc_at h2
  obtain ⟨a3, k3, rfl, -, -⟩ := zl_at h3
  have HM : Hid (Small s) := hsm
  clear hPost h1 h2 h3 hsm
  have HSV : Hid (∀ x y z, sv x y z s = .agg #[x, y, z, .int .i32 s.turn, .int .i64 s.whose, .int .i8 s.fin, .int .i64 s.winner]) := fun _ _ _ => rfl
  unfold sv
  generalize s.turn = tu at HSV ⊢
  generalize s.whose = wo at HSV ⊢
  generalize s.fin = fi at HSV ⊢
  generalize s.winner = wi at HSV ⊢
  go_enter Tryz.func7, Tryz.ntmps7
  go_wp2_with fail
  obtain ⟨W1, hW1⟩ : ∃ W, W = (w.alloc (.cells #[.slice a1 s.ps.length k1, .slice a2 s.cs.length k2, .slice a3 s.zs.length k3, .int .i32 tu, .int .i64 wo, .int .i8 fi, .int .i64 wi] 27)).alloc (.cells #[.slice none 0 0, .slice none 0 0, .slice none 0 0, .int .i32 0, .int .i64 0, .int .i8 0, .int .i64 0] 27) := ⟨_, rfl⟩
  rw [← hW1]
  obtain ⟨b0, hb0⟩ : ∃ b, b = w.heap.size := ⟨_, rfl⟩
  rw [← hb0]
  obtain ⟨g0, g1, gs, gu⟩ := two_blocks w #[.slice a1 s.ps.length k1, .slice a2 s.cs.length k2, .slice a3 s.zs.length k3, .int .i32 tu, .int .i64 wo, .int .i8 fi, .int .i64 wi] #[.slice none 0 0, .slice none 0 0, .slice none 0 0, .int .i32 0, .int .i64 0, .int .i8 0, .int .i64 0] 27
  rw [← hW1] at g0 g1 gs gu
  rw [← hb0] at g0 g1 gs
  have HB : Hid (b0 = w.heap.size) := hb0
  clear hW1 hb0
  refine Calls.mono (wideP_ _ s.ps W1 (PLs.up H1.out gu) HM.out.1) ?_
  rintro e w1 ⟨x1, rfl, d1, u1⟩
  have HG : Hid (w1.heap[b0]? = _ ∧ w1.heap[b0 + 1]? = _ ∧ b0 + 2 ≤ w1.heap.size ∧ Up w w1 ∧ WP (b0 + 2) w1 x1 s.ps) := ⟨u1.heap g0, u1.heap g1, by have := u1.size; omega, gu.trans u1, by rw [gs] at d1; exact d1⟩
  obtain ⟨xa, xc, hx1⟩ := WP.val d1
  subst hx1
  clear d1 u1 g0 g1 gs gu
  obtain ⟨y0, y1, y2, y3, y4, y5, y6⟩ := seven_cells HG.out.1
  have yf := seven_f HG.out.1
  have HG2 : Hid ((w1.setCell ⟨b0, 0, none⟩ (.slice xa s.ps.length xc)).heap[b0]? = some (.cells #[.slice xa s.ps.length xc, .slice a2 s.cs.length k2, .slice a3 s.zs.length k3, .int .i32 tu, .int .i64 wo, .int .i8 fi, .int .i64 wi] 27 (0, 0)) ∧ (w1.setCell ⟨b0, 0, none⟩ (.slice xa s.ps.length xc)).heap[b0 + 1]? = some (.cells #[.slice none 0 0, .slice none 0 0, .slice none 0 0, .int .i32 0, .int .i64 0, .int .i8 0, .int .i64 0] 27 (0, 0)) ∧ b0 + 2 ≤ (w1.setCell ⟨b0, 0, none⟩ (.slice xa s.ps.length xc)).heap.size ∧ Up w (w1.setCell ⟨b0, 0, none⟩ (.slice xa s.ps.length xc)) ∧ WP (b0 + 2) (w1.setCell ⟨b0, 0, none⟩ (.slice xa s.ps.length xc)) (.slice xa s.ps.length xc) s.ps) :=
    ⟨set_cells HG.out.1, set_other HG.out.2.1 (by omega), by simpa using HG.out.2.2.1, Up.set HG.out.2.2.2.1 _ _ (by rw [← HB.out]; exact Nat.le_refl _), (HG.out.2.2.2.2).set (by omega)⟩
  clear HG
  go_wp2_with fail
  obtain ⟨W3, hW3⟩ : ∃ W, W = w1.setCell ⟨b0, 0, none⟩ (.slice xa s.ps.length xc) := ⟨_, rfl⟩
  rw [← hW3] at HG2 ⊢
  clear hW3
  refine Calls.mono (wideC_ _ s.cs W3 (CLs.up H2.out HG2.out.2.2.2.1) HM.out.2.1) ?_
  rintro e w4 ⟨x2, rfl, d2, u2⟩
  have HG : Hid (w4.heap[b0]? = _ ∧ w4.heap[b0 + 1]? = _ ∧ b0 + 2 ≤ w4.heap.size ∧ Up w w4 ∧ WP (b0 + 2) w4 (.slice xa s.ps.length xc) s.ps ∧ WC (b0 + 2) w4 x2 s.cs) := ⟨u2.heap HG2.out.1, u2.heap HG2.out.2.1, by have := u2.size; have := HG2.out.2.2.1; omega, HG2.out.2.2.2.1.trans u2, (HG2.out.2.2.2.2).up u2, d2.less HG2.out.2.2.1⟩
  obtain ⟨xa2, xc2, hx2⟩ := WC.val d2
  subst hx2
  clear d2 u2 HG2 y0 y1 y2 y3 y4 y5 y6 yf
  obtain ⟨y0, y1, y2, y3, y4, y5, y6⟩ := seven_cells HG.out.1
  have yf := seven_f HG.out.1
  have HG2 : Hid ((w4.setCell ⟨b0, 1, none⟩ (.slice xa2 s.cs.length xc2)).heap[b0]? = some (.cells #[.slice xa s.ps.length xc, .slice xa2 s.cs.length xc2, .slice a3 s.zs.length k3, .int .i32 tu, .int .i64 wo, .int .i8 fi, .int .i64 wi] 27 (0, 0)) ∧ (w4.setCell ⟨b0, 1, none⟩ (.slice xa2 s.cs.length xc2)).heap[b0 + 1]? = some (.cells #[.slice none 0 0, .slice none 0 0, .slice none 0 0, .int .i32 0, .int .i64 0, .int .i8 0, .int .i64 0] 27 (0, 0)) ∧ b0 + 2 ≤ (w4.setCell ⟨b0, 1, none⟩ (.slice xa2 s.cs.length xc2)).heap.size ∧ Up w (w4.setCell ⟨b0, 1, none⟩ (.slice xa2 s.cs.length xc2)) ∧ WP (b0 + 2) (w4.setCell ⟨b0, 1, none⟩ (.slice xa2 s.cs.length xc2)) (.slice xa s.ps.length xc) s.ps ∧ WC (b0 + 2) (w4.setCell ⟨b0, 1, none⟩ (.slice xa2 s.cs.length xc2)) (.slice xa2 s.cs.length xc2) s.cs) :=
    ⟨set_cells HG.out.1, set_other HG.out.2.1 (by omega), by simpa using HG.out.2.2.1, Up.set HG.out.2.2.2.1 _ _ (by rw [← HB.out]; exact Nat.le_refl _), (HG.out.2.2.2.2.1).set (by omega), (HG.out.2.2.2.2.2).set (by omega)⟩
  clear HG
  go_wp2_with fail
  obtain ⟨W5, hW5⟩ : ∃ W, W = w4.setCell ⟨b0, 1, none⟩ (.slice xa2 s.cs.length xc2) := ⟨_, rfl⟩
  rw [← hW5] at HG2 ⊢
  clear hW5
  refine Calls.mono (wideRows_ _ s.zs W5 (ZL.up H3.out HG2.out.2.2.2.1) HM.out.2.2.1 HM.out.2.2.2) ?_
  rintro e w6 ⟨x3, rfl, d3, u3⟩
  have HG : Hid (w6.heap[b0]? = _ ∧ w6.heap[b0 + 1]? = _ ∧ b0 + 2 ≤ w6.heap.size ∧ Up w w6 ∧ WP (b0 + 2) w6 (.slice xa s.ps.length xc) s.ps ∧ WC (b0 + 2) w6 (.slice xa2 s.cs.length xc2) s.cs ∧ WZ (b0 + 2) w6 x3 s.zs) := ⟨u3.heap HG2.out.1, u3.heap HG2.out.2.1, by have := u3.size; have := HG2.out.2.2.1; omega, HG2.out.2.2.2.1.trans u3, (HG2.out.2.2.2.2.1).up u3, (HG2.out.2.2.2.2.2).up u3, d3.less HG2.out.2.2.1⟩
  obtain ⟨xa3, xc3, hx3⟩ : ∃ p q, x3 = .slice p s.zs.length q := by
    exact WZ.val d3
  subst hx3
  clear d3 u3 HG2 y0 y1 y2 y3 y4 y5 y6 yf
  obtain ⟨y0, y1, y2, y3, y4, y5, y6⟩ := seven_cells HG.out.1
  have yf := seven_f HG.out.1
  have HG2 : Hid ((w6.setCell ⟨b0, 2, none⟩ (.slice xa3 s.zs.length xc3)).heap[b0]? = some (.cells #[.slice xa s.ps.length xc, .slice xa2 s.cs.length xc2, .slice xa3 s.zs.length xc3, .int .i32 tu, .int .i64 wo, .int .i8 fi, .int .i64 wi] 27 (0, 0)) ∧ (w6.setCell ⟨b0, 2, none⟩ (.slice xa3 s.zs.length xc3)).heap[b0 + 1]? = some (.cells #[.slice none 0 0, .slice none 0 0, .slice none 0 0, .int .i32 0, .int .i64 0, .int .i8 0, .int .i64 0] 27 (0, 0)) ∧ Up w (w6.setCell ⟨b0, 2, none⟩ (.slice xa3 s.zs.length xc3)) ∧ WS (b0 + 2) (w6.setCell ⟨b0, 2, none⟩ (.slice xa3 s.zs.length xc3)) (.agg #[.slice xa s.ps.length xc, .slice xa2 s.cs.length xc2, .slice xa3 s.zs.length xc3, .int .i32 tu, .int .i64 wo, .int .i8 fi, .int .i64 wi]) s) :=
    ⟨set_cells HG.out.1, set_other HG.out.2.1 (by omega), Up.set HG.out.2.2.2.1 _ _ (by rw [← HB.out]; exact Nat.le_refl _), _, _, _, (HSV.out _ _ _).symm, (HG.out.2.2.2.2.1).set (by omega), (HG.out.2.2.2.2.2.1).set (by omega), HG.out.2.2.2.2.2.2.set (by omega)⟩
  clear HG
  obtain ⟨W7, hW7⟩ : ∃ W, W = w6.setCell ⟨b0, 2, none⟩ (.slice xa3 s.zs.length xc3) := ⟨_, rfl⟩
  rw [← hW7] at HG2
  have HW7 : Hid (W7 = _) := hW7
  obtain ⟨q0, q1, q2, q3, q4, q5, q6⟩ := seven_cells HG2.out.1
  obtain ⟨r0, r1, r2, r3, r4, r5, r6⟩ := seven_cells HG2.out.2.1
  have rf := seven_f HG2.out.2.1
  rw [hW7] at q0 q1 q2 q3 q4 q5 q6 r0 r1 r2 r3 r4 r5 r6 rf
  clear hW7
  go_wp2_with fail
  rw [← HW7.out]
  obtain ⟨p0, p1, p2, p3, p4, p5, p6⟩ := seven_cells (seven_set (x0 := .slice xa s.ps.length xc) (x1 := .slice xa2 s.cs.length xc2) (x2 := .slice xa3 s.zs.length xc3) (x3 := .int .i32 tu) (x4 := .int .i64 wo) (x5 := .int .i8 fi) (x6 := .int .i64 wi) HG2.out.2.1)
  have hs1 : b0 + 1 < b0 + 2 := by omega
  have hb1 : w.heap.size ≤ b0 + 1 := by rw [← HB.out]; omega
  refine bodyPost_ret (v := .agg #[.slice xa s.ps.length xc, .slice xa2 s.cs.length xc2, .slice xa3 s.zs.length xc3, .int .i32 tu, .int .i64 wo, .int .i8 fi, .int .i64 wi]) (by simp [results, Tryz.results7, go_sem, p0, p1, p2, p3, p4, p5, p6]) rfl ?_
  rw [HP.out]
  refine ⟨_, rfl, ?_, ?_⟩
  · exact ((((((((HG2.out.2.2.2.set hs1).set hs1).set hs1).set hs1).set hs1).set hs1).set hs1)).less (by rw [HB.out]; omega)
  · exact ((((((((HG2.out.2.2.1.set _ _ hb1).set _ _ hb1).set _ _ hb1).set _ _ hb1).set _ _ hb1).set _ _ hb1).set _ _ hb1))
end ST
end Go.Proofs.YtpmdlpjedapbbaaGreatDoor
/-
  States of whose lists each lies in a block of its own.
-/
namespace Go.Proofs.YtpmdlpjedapbbaaGreatDoor
open Go.RowKit
namespace ST

def RA (n : Nat) (vs : List Value) : Prop := ∀ p q g, p < n → q < n → p ≠ q → (vs.getD p nl).ownBlock = some g → (vs.getD q nl).ownBlock ≠ some g
theorem RA.nil (vs : List Value) : RA 0 vs := fun p _ _ hp => absurd hp (Nat.not_lt_zero p)
/- one more: its block is none of those before -/
theorem RA.put {i : Nat} {vs : List Value} {x : Value} (h : RA i vs) (hi : i < vs.length) (hx : ∀ p g, p < i → (vs.getD p nl).ownBlock = some g → x.ownBlock ≠ some g) : RA (i + 1) (vs.set i x) := by
  have e1 : (vs.set i x).getD i nl = x := by rw [List.getD_eq_getElem?_getD, List.getElem?_set_self hi]; rfl
  have e2 : ∀ p, p ≠ i → (vs.set i x).getD p nl = vs.getD p nl := fun p hp => by rw [List.getD_eq_getElem?_getD, List.getElem?_set_ne (fun h => hp h.symm), ← List.getD_eq_getElem?_getD]
  intro p q g hp hq hpq h1 h2
  by_cases ep : p = i
  · subst ep
    rw [e1] at h1
    rw [e2 q (fun h => hpq h.symm)] at h2
    exact hx q g (by omega) h2 h1
  · rw [e2 p ep] at h1
    by_cases eq : q = i
    · subst eq
      rw [e1] at h2
      exact hx p g (by omega) h1 h2
    · rw [e2 q eq] at h2
      exact h p q g (by omega) (by omega) hpq h1 h2
def SOA (base : Nat) (W : World) (v : Value) (s : Stt) : Prop := ∃ vp vc vz, v = sv vp vc vz s ∧ PO base W vp s.ps ∧ CO base W vc s.cs ∧ ∃ vs, W.ownsRow base 98 1 vz s.zs.length vs ∧ (∀ i, i < s.zs.length → IRow base W (vs.getD i nl) (s.zs.getD i [])) ∧ RA s.zs.length vs
theorem SOA.so {base : Nat} {W : World} {v : Value} {s : Stt} (h : SOA base W v s) : SO base W v s := by
  obtain ⟨vp, vc, vz, hv, h1, h2, vs, h3, h4, -⟩ := h
  exact ⟨vp, vc, vz, hv, h1, h2, vs, h3, h4⟩
theorem SOA.up {base : Nat} {W W' : World} {v : Value} {s : Stt} (h : SOA base W v s) (u : Up W W') : SOA base W' v s := by
  obtain ⟨vp, vc, vz, hv, h1, h2, vs, h3, h4, h5⟩ := h
  exact ⟨vp, vc, vz, hv, row_up h1 u, row_up h2 u, vs, row_up h3 u, fun i hi => row_up (h4 i hi) u, h5⟩
def WZA (base : Nat) (W : World) (v : Value) (zs : List (List Int)) : Prop := ∃ g vs, base ≤ g ∧ v = .slice (some ⟨g, 0, none⟩) zs.length (zs.length + 64) ∧ W.heap[g]? = some (.cells (vs : List Value).toArray 98 (0, 0)) ∧ vs.length = zs.length + 64 ∧ (∀ i, i < zs.length + 64 → WRow base W (vs.getD i nl) zs i) ∧ RA zs.length vs
theorem WZA.wz {base : Nat} {W : World} {v : Value} {zs : List (List Int)} (h : WZA base W v zs) : WZ base W v zs := by
  obtain ⟨g, vs, h1, h2, h3, h4, h5, -⟩ := h
  exact ⟨g, vs, h1, h2, h3, h4, h5⟩
theorem WZA.up {base : Nat} {W W' : World} {v : Value} {zs : List (List Int)} (h : WZA base W v zs) (u : Up W W') : WZA base W' v zs := by
  obtain ⟨g, vs, h1, h2, h3, h4, h5, h6⟩ := h
  exact ⟨g, vs, h1, h2, u.heap h3, h4, fun i hi => (h5 i hi).keep (fun _ _ _ hg => u.heap hg), h6⟩
theorem WZA.less {b b' : Nat} {W : World} {v : Value} {l : List (List Int)} (h : WZA b W v l) (hb : b' ≤ b) : WZA b' W v l := by
  obtain ⟨g, vs, h1, h2, h3, h4, h5, h6⟩ := h
  exact ⟨g, vs, Nat.le_trans hb h1, h2, h3, h4, fun i hi => (h5 i hi).less hb, h6⟩
theorem WZA.set {b k j : Nat} {W : World} {v u : Value} {l : List (List Int)} (h : WZA b W v l) (hk : k < b) : WZA b (W.setCell ⟨k, j, none⟩ u) v l := by
  obtain ⟨g, vs, h1, h2, h3, h4, h5, h6⟩ := h
  exact ⟨g, vs, h1, h2, set_other h3 (by omega), h4, fun i hi => (h5 i hi).keep (fun g' cs' hb h' => set_other h' (by omega)), h6⟩
def WSA (base : Nat) (W : World) (v : Value) (s : Stt) : Prop := ∃ vp vc vz, v = sv vp vc vz s ∧ WP base W vp s.ps ∧ WC base W vc s.cs ∧ WZA base W vz s.zs
theorem WSA.ws {base : Nat} {W : World} {v : Value} {s : Stt} (h : WSA base W v s) : WS base W v s := by
  obtain ⟨vp, vc, vz, hv, h1, h2, h3⟩ := h
  exact ⟨vp, vc, vz, hv, h1, h2, h3.wz⟩
theorem WSA.up {base : Nat} {W W' : World} {v : Value} {s : Stt} (h : WSA base W v s) (u : Up W W') : WSA base W' v s := by
  obtain ⟨vp, vc, vz, hv, h1, h2, h3⟩ := h
  exact ⟨vp, vc, vz, hv, h1.up u, h2.up u, h3.up u⟩
theorem WSA.set {b k j : Nat} {W : World} {v u : Value} {s : Stt} (h : WSA b W v s) (hk : k < b) : WSA b (W.setCell ⟨k, j, none⟩ u) v s := by
  obtain ⟨vp, vc, vz, hv, h1, h2, h3⟩ := h
  exact ⟨vp, vc, vz, hv, h1.set hk, h2.set hk, h3.set hk⟩
theorem WSA.less {b b' : Nat} {W : World} {v : Value} {s : Stt} (h : WSA b W v s) (hb : b' ≤ b) : WSA b' W v s := by
  obtain ⟨vp, vc, vz, hv, h1, h2, h3⟩ := h
  exact ⟨vp, vc, vz, hv, h1.less hb, h2.less hb, h3.less hb⟩
end ST
end Go.Proofs.YtpmdlpjedapbbaaGreatDoor
