/-
  Copies of lists of lists and of states.
-/
import Derived.Test.YtndkpfkgcaebmaaDoorSmToCp
import Derived.Deep.RegionWith
namespace Go.Proofs.YtndkpfkgcaebmaaDoor
open Go.RowKit
attribute [local go_sem ↓] Go.wp_at_zero Go.wp_at_succ

namespace ST
/- the first i rows, and the list that holds them -/
def ZM (base : Nat) (W : World) (v : Value) (i : Nat) (zs : List (List Int)) : Prop := ∃ vs, W.ownsRow base 74 1 v i vs ∧ ∀ j, j < i → IRow base W (vs.getD j nl) (zs.getD j [])
theorem zm_more {base i : Nat} {W W1 W2 : World} {v v' x : Value} {zs : List (List Int)} (h : ZM base W v i zs) (u : Up W W1) (hx : IRow base W1 x (zs.getD i [])) (hlen : ∀ vs, W.ownsRow base 74 1 v i vs → W2.ownsRow base 74 1 v' (i + 1) (vs ++ [x])) (hg : W1.grownBy W2 v.ownBlock) : ZM base W2 v' (i + 1) zs := by
  obtain ⟨vs, h1, h2⟩ := h
  have hl : vs.length = i := by have := h1.1; omega
  have k1 := row_up h1 u
  refine ⟨vs ++ [x], hlen vs h1, fun j hj => ?_⟩
  by_cases e : j = i
  · subst e
    rw [List.getD_eq_getElem?_getD, List.getElem?_append_right (by omega), hl]
    simp
    exact World.ownsRow.kept hx hg (row_apart hx k1 (by decide))
  · have hj' : j < i := by omega
    rw [List.getD_eq_getElem?_getD, List.getElem?_append_left (by omega), ← List.getD_eq_getElem?_getD]
    have := row_up (h2 j hj') u
    exact World.ownsRow.kept this hg (row_apart this k1 (by decide))
theorem row_same {w : World} {b1 b2 e s n : Nat} {v : Value} {x1 x2 : List Value} (h1 : w.ownsRow b1 e s v n x1) (h2 : w.ownsRow b2 e s v n x2) : x1 = x2 := by
  rcases h1.2 with ⟨rfl, rfl⟩ | ⟨g, cap, cur, rfl, -, hg, -, -, -, ht⟩
  · have e1 : x1 = [] := List.eq_nil_of_length_eq_zero (by rw [h1.1]; simp)
    have e2 : x2 = [] := List.eq_nil_of_length_eq_zero (by rw [h2.1]; simp)
    rw [e1, e2]
  · rcases h2.2 with ⟨h, -⟩ | ⟨g', cap', cur', h, -, hg', -, -, -, ht'⟩
    · cases h
    · cases h
      rw [hg] at hg'
      cases hg'
      rw [← ht, ← ht']
set_option maxRecDepth 100000 in
set_option maxHeartbeats 2000000 in
theorem copyRows_ (v : Value) (zs : List (List Int)) (w : World) (hv : ZL w v zs) (hn : zs.length ≤ 4294967296) (hl : ∀ r, r < zs.length → (zs.getD r []).length ≤ 4294967296) :
    Calls Tryd.prog 39 #[v] w (CpPost w fun W v' => ZO w.heap.size W v' zs) := by
  obtain ⟨iT, hiT, z0, z1, z2⟩ := info_parts infoR
  obtain ⟨Post, hPost⟩ : ∃ P : Ending → World → Prop, P = CpPost w fun W v' => ZO w.heap.size W v' zs := ⟨_, rfl⟩
  rw [← hPost]
  have HP : Hid (Post = CpPost w fun W v' => ZO w.heap.size W v' zs) := hPost
  obtain ⟨a, c, rfl, -, hc⟩ := zl_at hv
  have HC : Hid _ := hc
  have HL : Hid _ := hl
  obtain ⟨n, hn0⟩ : ∃ n, n = zs.length := ⟨_, rfl⟩
  have HN : Hid (n = zs.length) := hn0
  rw [← hn0] at hn HC HL ⊢
  obtain ⟨B, hB⟩ : ∃ B, B = w.heap.size := ⟨_, rfl⟩
  have HB : Hid (B = w.heap.size) := hB
  clear hPost hv hc hl hn0 hB
  go_enter Tryd.func39, Tryd.ntmps39
  go_wp2_with fail
  go_loopw [3, 4] (fun s3 s4 W => ∃ (i : Nat) (va : Option Addr) (vc : Nat), i ≤ n ∧ s4 = .int .i64 i ∧ s3 = .slice va i vc ∧ ZM B W (.slice va i vc) i zs ∧ Up w W) (fun _ s4 _ => n - (intOf s4).toNat)
  case atStart => exact ⟨0, none, 0, Nat.zero_le _, rfl, rfl, ⟨[], World.ownsRow_nil _ _ _ _, fun j hj => by omega⟩, Up.refl _⟩
  case round =>
    obtain ⟨i, va, vc, hi, rfl, rfl, hz, hu⟩ := hrel
    have HZ : Hid (ZM B wr (.slice va i vc) i zs) := hz
    have HU : Hid (Up w wr) := hu
    clear hz hu
    by_cases hlt : i < n
    · have hlt2 : (i : Int) < (n : Int) := by omega
      obtain ⟨b3, o3, rfl, hrow⟩ := HC.out (by omega)
      obtain ⟨ra, rc, hcell, hil⟩ := hrow i hlt
      have x1 := hcell wr HU.out
      have HK : Hid _ := copyInts_ _ (zs.getD i []) wr (hil.up HU.out) (HL.out i hlt)
      clear hcell hrow hil
      go_wp2_with fail
      refine Calls.mono HK.out ?_
      rintro e w1 ⟨x, rfl, hx, u1⟩
      clear HK
      obtain ⟨xa, xc, hxa⟩ := row_val hx
      have HX : Hid (IRow B w1 x (zs.getD i [])) := own_less hx (by have := HU.out.size; have := HB.out; omega)
      have HU1 : Hid (Up wr w1) := u1
      clear hx u1
      subst hxa
      obtain ⟨vs, hz1, -⟩ := id HZ.out
      have HV : Hid ((w1.alloc (.cells #[.slice xa (zs.getD i []).length xc] 74)).ownsRow B 74 1 (.slice va i vc) i vs) := row_up hz1 (HU1.out.alloc _)
      have HM : Hid (∀ j u, [Value.slice xa (zs.getD i []).length xc][j]? = some u → (w1.alloc (.cells #[.slice xa (zs.getD i []).length xc] 74)).cell? ((⟨w1.heap.size, 0, none⟩ : Addr).add j) = some u) := by
        intro j u hj
        cases j with
        | zero => simp at hj; subst hj; simp [Addr.add]
        | succ j => simp at hj
      have HO : Hid (∀ u ∈ [Value.slice xa (zs.getD i []).length xc], u.oneCell' = true) := by intro u hu; simp at hu; subst hu; rfl
      have HS : Hid (B ≤ (w1.alloc (.cells #[.slice xa (zs.getD i []).length xc] 74)).heap.size) := by have h1 := HU.out.size; have h2 := HU1.out.size; have h3 := HB.out; unfold Hid; simp; omega
      have HZ2 : Hid (∀ v' w2, w2.ownsRow B 74 1 v' (i + 1) (vs ++ [.slice xa (zs.getD i []).length xc]) → (w1.alloc (.cells #[.slice xa (zs.getD i []).length xc] 74)).grownBy w2 (Value.slice va i vc).ownBlock → ZM B w2 v' (i + 1) zs ∧ Up w w2) := by
        intro v' w2 h1 h2
        have hvs : ∀ vs', wr.ownsRow B 74 1 (.slice va i vc) i vs' → vs' = vs := fun vs' h => row_same h hz1
        refine ⟨zm_more HZ.out (HU1.out.alloc _) (row_up HX.out ((Up.refl _).alloc _)) (fun vs' h => by rw [hvs vs' h]; exact h1) h2, ?_⟩
        refine Below.grown (HU.out.trans (HU1.out.alloc _)) h2 ?_ ?_
        · have := HS.out; have h3 := HB.out; omega
        · intro k hk
          have := hz1.lt k hk
          have h3 := HB.out; omega
      clear hz1
      go_wp2_with (at_builtin; go_loud (refine wpList_append_own _ (by rfl) (.tmp 11) (.tmp 17) 24 (by rfl) B 74 iT (.slice none 0 0) 1 24 Tryd.underlying24 hiT z0 z1 z2 (by rfl) (by decide) (.slice va i vc) i vs (by rfl) HV.out ⟨w1.heap.size, 0, none⟩ 1 1 [.slice xa (zs.getD i []).length xc] (by rfl) (by rfl) HM.out HO.out (by unfold maxLen; omega) (by omega) HS.out ?_); intro v' w2 hin hg1 _)
      obtain ⟨va', vc', hva⟩ := row_val hin
      have HF : Hid (ZM B w2 v' (i + 1) zs ∧ Up w w2) := HZ2.out v' w2 hin hg1
      clear hin hg1 HZ2 HV HM HO HS HX HU1
      subst hva
      go_wp2
      go_roundw
      case rel => exact ⟨i + 1, va', vc', by omega, by go_num, rfl, HF.out.1, HF.out.2⟩
      case measure => simp [intOf]; omega
    · have hlt2 : ¬ (i : Int) < (n : Int) := by omega
      have hin : i = n := by omega
      subst hin
      go_wp2
      rw [HP.out]
      obtain ⟨vs, h1, h2⟩ := HZ.out
      exact ⟨_, rfl, ⟨vs, by rw [← HB.out, ← HN.out]; exact h1, fun j hj => by rw [← HB.out]; exact h2 j (by rw [HN.out]; exact hj)⟩, HU.out⟩
end ST
end Go.Proofs.YtndkpfkgcaebmaaDoor
/-
  A copy of a state.
-/
namespace Go.Proofs.YtndkpfkgcaebmaaDoor
open Go.RowKit
attribute [local go_sem ↓] Go.wp_at_zero Go.wp_at_succ

theorem seven_f {W : World} {a : Nat} {cs : Array Value} {t : TypeId} (h : W.heap[a]? = some (.cells cs t (0, 0))) : ∀ j, W.frozen? ⟨a, j, none⟩ = false := fun j => by simp [World.frozen?, h]
theorem set_cells {W : World} {a j : Nat} {cs : Array Value} {t : TypeId} {x : Value} (h : W.heap[a]? = some (.cells cs t (0, 0))) : (W.setCell ⟨a, j, none⟩ x).heap[a]? = some (.cells (cs.setIfInBounds j x) t (0, 0)) := by
  simp only [World.setCell, Array.getElem?_modify]; rw [h]; simp
theorem set_other {W : World} {a b j : Nat} {o : Obj} {x : Value} (h : W.heap[a]? = some o) (hn : a ≠ b) : (W.setCell ⟨b, j, none⟩ x).heap[a]? = some o := by
  rw [Below.heap_setCell _ _ _ _ hn]; exact h
theorem Up.get {W W' : World} (u : Up W W') {a : Nat} {o : Obj} (h : W.heap[a]? = some o) : W'.heap[a]? = some o := u.heap h
theorem two_blocks (w : World) (A B : Array Value) (t : TypeId) : ((w.alloc (.cells A t)).alloc (.cells B t)).heap[w.heap.size]? = some (.cells A t (0, 0)) ∧ ((w.alloc (.cells A t)).alloc (.cells B t)).heap[w.heap.size + 1]? = some (.cells B t (0, 0)) ∧ ((w.alloc (.cells A t)).alloc (.cells B t)).heap.size = w.heap.size + 2 ∧ Up w ((w.alloc (.cells A t)).alloc (.cells B t)) := by
  refine ⟨?_, ?_, by simp, ((Up.refl _).alloc _).alloc _⟩
  · rw [Below.heap_alloc _ _ _ (by simp)]; exact heap_alloc_new w _
  · have := heap_alloc_new (w.alloc (.cells A t)) (.cells B t)
    simpa using this
theorem seven_set {W : World} {b : Nat} {y0 y1 y2 y3 y4 y5 y6 x0 x1 x2 x3 x4 x5 x6 : Value} {t : TypeId} (h : W.heap[b]? = some (.cells #[y0, y1, y2, y3, y4, y5, y6] t (0, 0))) :
    (((((((W.setCell ⟨b, 0, none⟩ x0).setCell ⟨b, 1, none⟩ x1).setCell ⟨b, 2, none⟩ x2).setCell ⟨b, 3, none⟩ x3).setCell ⟨b, 4, none⟩ x4).setCell ⟨b, 5, none⟩ x5).setCell ⟨b, 6, none⟩ x6).heap[b]? = some (.cells #[x0, x1, x2, x3, x4, x5, x6] t (0, 0)) := by
  have h0 : (W.setCell ⟨b, 0, none⟩ x0).heap[b]? = some (.cells #[x0, y1, y2, y3, y4, y5, y6] t (0, 0)) := set_cells h
  have h1 : ((W.setCell ⟨b, 0, none⟩ x0).setCell ⟨b, 1, none⟩ x1).heap[b]? = some (.cells #[x0, x1, y2, y3, y4, y5, y6] t (0, 0)) := set_cells h0
  have h2 : (((W.setCell ⟨b, 0, none⟩ x0).setCell ⟨b, 1, none⟩ x1).setCell ⟨b, 2, none⟩ x2).heap[b]? = some (.cells #[x0, x1, x2, y3, y4, y5, y6] t (0, 0)) := set_cells h1
  have h3 : ((((W.setCell ⟨b, 0, none⟩ x0).setCell ⟨b, 1, none⟩ x1).setCell ⟨b, 2, none⟩ x2).setCell ⟨b, 3, none⟩ x3).heap[b]? = some (.cells #[x0, x1, x2, x3, y4, y5, y6] t (0, 0)) := set_cells h2
  have h4 : (((((W.setCell ⟨b, 0, none⟩ x0).setCell ⟨b, 1, none⟩ x1).setCell ⟨b, 2, none⟩ x2).setCell ⟨b, 3, none⟩ x3).setCell ⟨b, 4, none⟩ x4).heap[b]? = some (.cells #[x0, x1, x2, x3, x4, y5, y6] t (0, 0)) := set_cells h3
  have h5 : ((((((W.setCell ⟨b, 0, none⟩ x0).setCell ⟨b, 1, none⟩ x1).setCell ⟨b, 2, none⟩ x2).setCell ⟨b, 3, none⟩ x3).setCell ⟨b, 4, none⟩ x4).setCell ⟨b, 5, none⟩ x5).heap[b]? = some (.cells #[x0, x1, x2, x3, x4, x5, y6] t (0, 0)) := set_cells h4
  have h6 : (((((((W.setCell ⟨b, 0, none⟩ x0).setCell ⟨b, 1, none⟩ x1).setCell ⟨b, 2, none⟩ x2).setCell ⟨b, 3, none⟩ x3).setCell ⟨b, 4, none⟩ x4).setCell ⟨b, 5, none⟩ x5).setCell ⟨b, 6, none⟩ x6).heap[b]? = some (.cells #[x0, x1, x2, x3, x4, x5, x6] t (0, 0)) := set_cells h5
  exact h6
namespace ST
theorem SO.set {b k j : Nat} {W : World} {v u : Value} {s : Stt} (h : SO b W v s) (hk : k < b) : SO b (W.setCell ⟨k, j, none⟩ u) v s := by
  obtain ⟨vp, vc, vz, hv, h1, h2, h3⟩ := h
  exact ⟨vp, vc, vz, hv, row_set h1 hk, row_set h2 hk, h3.set hk⟩
theorem SO.less {b b' : Nat} {W : World} {v : Value} {s : Stt} (h : SO b W v s) (hb : b' ≤ b) : SO b' W v s := by
  obtain ⟨vp, vc, vz, hv, h1, h2, h3⟩ := h
  exact ⟨vp, vc, vz, hv, own_less h1 hb, own_less h2 hb, h3.less hb⟩
theorem SO.up {b : Nat} {W W' : World} {v : Value} {s : Stt} (h : SO b W v s) (u : Up W W') : SO b W' v s := by
  obtain ⟨vp, vc, vz, hv, h1, h2, h3⟩ := h
  exact ⟨vp, vc, vz, hv, row_up h1 u, row_up h2 u, h3.up u⟩
set_option maxRecDepth 100000 in
set_option maxHeartbeats 4000000 in
theorem copyState_ (v : Value) (s : Stt) (w : World) (hs : StL w v s) (hsm : Small s) :
    Calls Tryd.prog 11 #[v] w (CpPost w fun W v' => SO w.heap.size W v' s) := by
  obtain ⟨Post, hPost⟩ : ∃ P : Ending → World → Prop, P = CpPost w fun W v' => SO w.heap.size W v' s := ⟨_, rfl⟩
  rw [← hPost]
  have HP : Hid (Post = CpPost w fun W v' => SO w.heap.size W v' s) := hPost
  obtain ⟨vp, vc, vz, rfl, h1, h2, h3⟩ := hs
  have H1 : Hid _ := h1
  have H2 : Hid _ := h2
  have H3 : Hid _ := h3
  obtain ⟨a1, k1, rfl, -, -⟩ := lc_at h1
  obtain ⟨a2, k2, rfl, -, -⟩ := lc_at h2
  obtain ⟨a3, k3, rfl, -, -⟩ := zl_at h3
  have HM : Hid (Small s) := hsm
  clear hPost h1 h2 h3 hsm
  have HSV : Hid (∀ x y z, sv x y z s = .agg #[x, y, z, .int .i32 s.turn, .int .i64 s.whose, .int .i8 s.fin, .int .i64 s.winner]) := fun _ _ _ => rfl
  unfold sv
  generalize s.turn = tu at HSV ⊢
  generalize s.whose = wo at HSV ⊢
  generalize s.fin = fi at HSV ⊢
  generalize s.winner = wi at HSV ⊢
  go_enter Tryd.func11, Tryd.ntmps11
  go_wp2_with fail
  obtain ⟨W1, hW1⟩ : ∃ W, W = (w.alloc (.cells #[.slice a1 s.ps.length k1, .slice a2 s.cs.length k2, .slice a3 s.zs.length k3, .int .i32 tu, .int .i64 wo, .int .i8 fi, .int .i64 wi] 27)).alloc (.cells #[.slice none 0 0, .slice none 0 0, .slice none 0 0, .int .i32 0, .int .i64 0, .int .i8 0, .int .i64 0] 27) := ⟨_, rfl⟩
  rw [← hW1]
  obtain ⟨b0, hb0⟩ : ∃ b, b = w.heap.size := ⟨_, rfl⟩
  rw [← hb0]
  obtain ⟨g0, g1, gs, gu⟩ := two_blocks w #[.slice a1 s.ps.length k1, .slice a2 s.cs.length k2, .slice a3 s.zs.length k3, .int .i32 tu, .int .i64 wo, .int .i8 fi, .int .i64 wi] #[.slice none 0 0, .slice none 0 0, .slice none 0 0, .int .i32 0, .int .i64 0, .int .i8 0, .int .i64 0] 27
  rw [← hW1] at g0 g1 gs gu
  rw [← hb0] at g0 g1 gs
  have HB : Hid (b0 = w.heap.size) := hb0
  clear hW1 hb0
  refine Calls.mono (copyPlayers_ _ s.ps W1 (PLs.up H1.out gu) HM.out.1) ?_
  rintro e w1 ⟨x1, rfl, d1, u1⟩
  have HG : Hid (w1.heap[b0]? = _ ∧ w1.heap[b0 + 1]? = _ ∧ b0 + 2 ≤ w1.heap.size ∧ Up w w1 ∧ PO (b0 + 2) w1 x1 s.ps) := ⟨u1.heap g0, u1.heap g1, by have := u1.size; omega, gu.trans u1, by rw [gs] at d1; exact d1⟩
  obtain ⟨xa, xc, hx1⟩ := row_val d1
  subst hx1
  clear d1 u1 g0 g1 gs gu
  obtain ⟨y0, y1, y2, y3, y4, y5, y6⟩ := seven_cells HG.out.1
  have yf := seven_f HG.out.1
  have HG2 : Hid ((w1.setCell ⟨b0, 0, none⟩ (.slice xa s.ps.length xc)).heap[b0]? = some (.cells #[.slice xa s.ps.length xc, .slice a2 s.cs.length k2, .slice a3 s.zs.length k3, .int .i32 tu, .int .i64 wo, .int .i8 fi, .int .i64 wi] 27 (0, 0)) ∧ (w1.setCell ⟨b0, 0, none⟩ (.slice xa s.ps.length xc)).heap[b0 + 1]? = some (.cells #[.slice none 0 0, .slice none 0 0, .slice none 0 0, .int .i32 0, .int .i64 0, .int .i8 0, .int .i64 0] 27 (0, 0)) ∧ b0 + 2 ≤ (w1.setCell ⟨b0, 0, none⟩ (.slice xa s.ps.length xc)).heap.size ∧ Up w (w1.setCell ⟨b0, 0, none⟩ (.slice xa s.ps.length xc)) ∧ PO (b0 + 2) (w1.setCell ⟨b0, 0, none⟩ (.slice xa s.ps.length xc)) (.slice xa s.ps.length xc) s.ps) :=
    ⟨set_cells HG.out.1, set_other HG.out.2.1 (by omega), by simpa using HG.out.2.2.1, Up.set HG.out.2.2.2.1 _ _ (by rw [← HB.out]; exact Nat.le_refl _), row_set HG.out.2.2.2.2 (by omega)⟩
  clear HG
  go_wp2_with fail
  obtain ⟨W3, hW3⟩ : ∃ W, W = w1.setCell ⟨b0, 0, none⟩ (.slice xa s.ps.length xc) := ⟨_, rfl⟩
  rw [← hW3] at HG2 ⊢
  clear hW3
  refine Calls.mono (copyCards_ _ s.cs W3 (CLs.up H2.out HG2.out.2.2.2.1) HM.out.2.1) ?_
  rintro e w4 ⟨x2, rfl, d2, u2⟩
  have HG : Hid (w4.heap[b0]? = _ ∧ w4.heap[b0 + 1]? = _ ∧ b0 + 2 ≤ w4.heap.size ∧ Up w w4 ∧ PO (b0 + 2) w4 (.slice xa s.ps.length xc) s.ps ∧ CO (b0 + 2) w4 x2 s.cs) := ⟨u2.heap HG2.out.1, u2.heap HG2.out.2.1, by have := u2.size; have := HG2.out.2.2.1; omega, HG2.out.2.2.2.1.trans u2, row_up HG2.out.2.2.2.2 u2, own_less d2 HG2.out.2.2.1⟩
  obtain ⟨xa2, xc2, hx2⟩ := row_val d2
  subst hx2
  clear d2 u2 HG2 y0 y1 y2 y3 y4 y5 y6 yf
  obtain ⟨y0, y1, y2, y3, y4, y5, y6⟩ := seven_cells HG.out.1
  have yf := seven_f HG.out.1
  have HG2 : Hid ((w4.setCell ⟨b0, 1, none⟩ (.slice xa2 s.cs.length xc2)).heap[b0]? = some (.cells #[.slice xa s.ps.length xc, .slice xa2 s.cs.length xc2, .slice a3 s.zs.length k3, .int .i32 tu, .int .i64 wo, .int .i8 fi, .int .i64 wi] 27 (0, 0)) ∧ (w4.setCell ⟨b0, 1, none⟩ (.slice xa2 s.cs.length xc2)).heap[b0 + 1]? = some (.cells #[.slice none 0 0, .slice none 0 0, .slice none 0 0, .int .i32 0, .int .i64 0, .int .i8 0, .int .i64 0] 27 (0, 0)) ∧ b0 + 2 ≤ (w4.setCell ⟨b0, 1, none⟩ (.slice xa2 s.cs.length xc2)).heap.size ∧ Up w (w4.setCell ⟨b0, 1, none⟩ (.slice xa2 s.cs.length xc2)) ∧ PO (b0 + 2) (w4.setCell ⟨b0, 1, none⟩ (.slice xa2 s.cs.length xc2)) (.slice xa s.ps.length xc) s.ps ∧ CO (b0 + 2) (w4.setCell ⟨b0, 1, none⟩ (.slice xa2 s.cs.length xc2)) (.slice xa2 s.cs.length xc2) s.cs) :=
    ⟨set_cells HG.out.1, set_other HG.out.2.1 (by omega), by simpa using HG.out.2.2.1, Up.set HG.out.2.2.2.1 _ _ (by rw [← HB.out]; exact Nat.le_refl _), row_set HG.out.2.2.2.2.1 (by omega), row_set HG.out.2.2.2.2.2 (by omega)⟩
  clear HG
  go_wp2_with fail
  obtain ⟨W5, hW5⟩ : ∃ W, W = w4.setCell ⟨b0, 1, none⟩ (.slice xa2 s.cs.length xc2) := ⟨_, rfl⟩
  rw [← hW5] at HG2 ⊢
  clear hW5
  refine Calls.mono (copyRows_ _ s.zs W5 (ZL.up H3.out HG2.out.2.2.2.1) HM.out.2.2.1 HM.out.2.2.2) ?_
  rintro e w6 ⟨x3, rfl, d3, u3⟩
  have HG : Hid (w6.heap[b0]? = _ ∧ w6.heap[b0 + 1]? = _ ∧ b0 + 2 ≤ w6.heap.size ∧ Up w w6 ∧ PO (b0 + 2) w6 (.slice xa s.ps.length xc) s.ps ∧ CO (b0 + 2) w6 (.slice xa2 s.cs.length xc2) s.cs ∧ ZO (b0 + 2) w6 x3 s.zs) := ⟨u3.heap HG2.out.1, u3.heap HG2.out.2.1, by have := u3.size; have := HG2.out.2.2.1; omega, HG2.out.2.2.2.1.trans u3, row_up HG2.out.2.2.2.2.1 u3, row_up HG2.out.2.2.2.2.2 u3, d3.less HG2.out.2.2.1⟩
  obtain ⟨xa3, xc3, hx3⟩ : ∃ p q, x3 = .slice p s.zs.length q := by
    obtain ⟨vs, h, -⟩ := d3
    exact row_val h
  subst hx3
  clear d3 u3 HG2 y0 y1 y2 y3 y4 y5 y6 yf
  obtain ⟨y0, y1, y2, y3, y4, y5, y6⟩ := seven_cells HG.out.1
  have yf := seven_f HG.out.1
  have HG2 : Hid ((w6.setCell ⟨b0, 2, none⟩ (.slice xa3 s.zs.length xc3)).heap[b0]? = some (.cells #[.slice xa s.ps.length xc, .slice xa2 s.cs.length xc2, .slice xa3 s.zs.length xc3, .int .i32 tu, .int .i64 wo, .int .i8 fi, .int .i64 wi] 27 (0, 0)) ∧ (w6.setCell ⟨b0, 2, none⟩ (.slice xa3 s.zs.length xc3)).heap[b0 + 1]? = some (.cells #[.slice none 0 0, .slice none 0 0, .slice none 0 0, .int .i32 0, .int .i64 0, .int .i8 0, .int .i64 0] 27 (0, 0)) ∧ Up w (w6.setCell ⟨b0, 2, none⟩ (.slice xa3 s.zs.length xc3)) ∧ SO (b0 + 2) (w6.setCell ⟨b0, 2, none⟩ (.slice xa3 s.zs.length xc3)) (.agg #[.slice xa s.ps.length xc, .slice xa2 s.cs.length xc2, .slice xa3 s.zs.length xc3, .int .i32 tu, .int .i64 wo, .int .i8 fi, .int .i64 wi]) s) :=
    ⟨set_cells HG.out.1, set_other HG.out.2.1 (by omega), Up.set HG.out.2.2.2.1 _ _ (by rw [← HB.out]; exact Nat.le_refl _), _, _, _, (HSV.out _ _ _).symm, row_set HG.out.2.2.2.2.1 (by omega), row_set HG.out.2.2.2.2.2.1 (by omega), HG.out.2.2.2.2.2.2.set (by omega)⟩
  clear HG
  obtain ⟨W7, hW7⟩ : ∃ W, W = w6.setCell ⟨b0, 2, none⟩ (.slice xa3 s.zs.length xc3) := ⟨_, rfl⟩
  rw [← hW7] at HG2
  have HW7 : Hid (W7 = _) := hW7
  obtain ⟨q0, q1, q2, q3, q4, q5, q6⟩ := seven_cells HG2.out.1
  obtain ⟨r0, r1, r2, r3, r4, r5, r6⟩ := seven_cells HG2.out.2.1
  have rf := seven_f HG2.out.2.1
  rw [hW7] at q0 q1 q2 q3 q4 q5 q6 r0 r1 r2 r3 r4 r5 r6 rf
  clear hW7
  go_wp2_with fail
  rw [← HW7.out]
  obtain ⟨p0, p1, p2, p3, p4, p5, p6⟩ := seven_cells (seven_set (x0 := .slice xa s.ps.length xc) (x1 := .slice xa2 s.cs.length xc2) (x2 := .slice xa3 s.zs.length xc3) (x3 := .int .i32 tu) (x4 := .int .i64 wo) (x5 := .int .i8 fi) (x6 := .int .i64 wi) HG2.out.2.1)
  have hs1 : b0 + 1 < b0 + 2 := by omega
  have hb1 : w.heap.size ≤ b0 + 1 := by rw [← HB.out]; omega
  refine bodyPost_ret (v := .agg #[.slice xa s.ps.length xc, .slice xa2 s.cs.length xc2, .slice xa3 s.zs.length xc3, .int .i32 tu, .int .i64 wo, .int .i8 fi, .int .i64 wi]) (by simp [results, Tryd.results11, go_sem, p0, p1, p2, p3, p4, p5, p6]) rfl ?_
  rw [HP.out]
  refine ⟨_, rfl, ?_, ?_⟩
  · exact ((((((((HG2.out.2.2.2.set hs1).set hs1).set hs1).set hs1).set hs1).set hs1).set hs1)).less (by rw [HB.out]; omega)
  · exact ((((((((HG2.out.2.2.1.set _ _ hb1).set _ _ hb1).set _ _ hb1).set _ _ hb1).set _ _ hb1).set _ _ hb1).set _ _ hb1))
end ST
end Go.Proofs.YtndkpfkgcaebmaaDoor
/-
  The document's small questions, and its entries.
-/
namespace Go.Proofs.YtndkpfkgcaebmaaDoor
open Go.RowKit
attribute [local go_sem ↓] Go.wp_at_zero Go.wp_at_succ

namespace ST
def fromB (x lo hi : Int) : Bool := decide (lo ≤ x) && decide (x ≤ hi)
theorem from_num (x : Int) (n : Nat) : fromB x 0 ((n : Int) - 1) = numB x n := by
  simp only [fromB, numB]
  congr 1
  apply decide_eq_decide.2
  omega
set_option maxHeartbeats 1000000 in
theorem rfrom_ (x lo hi : Int) (w : World) : Calls Tryd.prog 69 #[.int .i64 x, .int .i64 lo, .int .i64 hi] w fun e w' => e = .returned (.bool (fromB x lo hi)) ∧ w' = w := by
  by_cases h1 : lo ≤ x
  · by_cases h2 : x ≤ hi
    · go_enter Tryd.func69, Tryd.ntmps69
      go_wp2
      go_ret
      exact ⟨by simp [fromB, h1, h2], rfl⟩
    · go_enter Tryd.func69, Tryd.ntmps69
      go_wp2
      go_ret
      exact ⟨by simp [fromB]; omega, rfl⟩
  · go_enter Tryd.func69, Tryd.ntmps69
    go_wp2
    go_ret
    exact ⟨by simp [fromB]; omega, rfl⟩
theorem rfromB (x lo hi : Int) (b : Bool) (h : fromB x lo hi = b) (w : World) : Calls Tryd.prog 69 #[.int .i64 x, .int .i64 lo, .int .i64 hi] w fun e w' => e = .returned (.bool b) ∧ w' = w := by subst h; exact rfrom_ x lo hi w
set_option maxHeartbeats 1000000 in
theorem rStat_ (n : Int) (w : World) : Calls Tryd.prog 70 #[.int .i32 n] w fun e w' => e = .returned (.bool (statB n)) ∧ w' = w := by
  by_cases h1 : -1000000000 ≤ n
  · by_cases h2 : n ≤ 1000000000
    · go_enter Tryd.func70, Tryd.ntmps70
      go_wp2
      go_ret
      exact ⟨by simp [statB, h1, h2], rfl⟩
    · go_enter Tryd.func70, Tryd.ntmps70
      go_wp2
      go_ret
      exact ⟨by simp [statB]; omega, rfl⟩
  · go_enter Tryd.func70, Tryd.ntmps70
    go_wp2
    go_ret
    exact ⟨by simp [statB]; omega, rfl⟩
theorem rStatB (n : Int) (b : Bool) (h : statB n = b) (w : World) : Calls Tryd.prog 70 #[.int .i32 n] w fun e w' => e = .returned (.bool b) ∧ w' = w := by subst h; exact rStat_ n w
theorem crd_ref (c : Crd) (n : Nat) : crdB n c = (fromB c.kind 0 255 && fromB c.owner 0 ((n : Int) - 1) && statB c.power && statB c.health && statB c.damage && statB c.marks) := by
  rw [from_num]
  have e : fromB c.kind 0 255 = numB c.kind 256 := from_num c.kind 256
  rw [e, crdB, crd0B]
  cases numB c.kind 256 <;> cases numB c.owner n <;> cases statB c.power <;> cases statB c.health <;> cases statB c.damage <;> cases statB c.marks <;> rfl
set_option maxHeartbeats 4000000 in
theorem rcard_ (c : Crd) (n : Nat) (hn : n ≤ 4294967296) (w : World) : Calls Tryd.prog 71 #[cag c, .int .i64 n] w fun e w' => e = .returned (.bool (crdB n c)) ∧ Up w w' := by
  obtain ⟨R, hR⟩ : ∃ R, R = crdB n c := ⟨_, rfl⟩
  rw [← hR]
  have HR : Hid (R = (fromB c.kind 0 255 && fromB c.owner 0 ((n : Int) - 1) && statB c.power && statB c.health && statB c.damage && statB c.marks)) := by unfold Hid; rw [hR, crd_ref]
  clear hR
  unfold cag
  cases h0 : fromB c.kind 0 255
  · go_enter Tryd.func71, Tryd.ntmps71
    go_wp2_with fail
    refine Calls.mono (rfromB _ 0 255 false h0 _) ?_
    rintro e w1 ⟨rfl, rfl⟩
    go_wp2
    go_ret
    exact ⟨by rw [HR.out]; simp [h0], (Up.refl _).alloc _⟩
  · cases h1 : fromB c.owner 0 ((n : Int) - 1)
    · go_enter Tryd.func71, Tryd.ntmps71
      go_wp2_with fail
      refine Calls.mono (rfromB _ 0 255 true h0 _) ?_
      rintro e w1 ⟨rfl, rfl⟩
      go_wp2_with fail
      refine Calls.mono (rfromB _ 0 _ false h1 _) ?_
      rintro e w2 ⟨rfl, rfl⟩
      go_wp2
      go_ret
      exact ⟨by rw [HR.out]; simp [h1], (Up.refl _).alloc _⟩
    · cases h2 : statB c.power
      · go_enter Tryd.func71, Tryd.ntmps71
        go_wp2_with fail
        refine Calls.mono (rfromB _ 0 255 true h0 _) ?_
        rintro e w1 ⟨rfl, rfl⟩
        go_wp2_with fail
        refine Calls.mono (rfromB _ 0 _ true h1 _) ?_
        rintro e w2 ⟨rfl, rfl⟩
        go_wp2_with fail
        refine Calls.mono (rStatB _ false h2 _) ?_
        rintro e w3 ⟨rfl, rfl⟩
        go_wp2
        go_ret
        exact ⟨by rw [HR.out]; simp [h2], (Up.refl _).alloc _⟩
      · cases h3 : statB c.health
        · go_enter Tryd.func71, Tryd.ntmps71
          go_wp2_with fail
          refine Calls.mono (rfromB _ 0 255 true h0 _) ?_
          rintro e w1 ⟨rfl, rfl⟩
          go_wp2_with fail
          refine Calls.mono (rfromB _ 0 _ true h1 _) ?_
          rintro e w2 ⟨rfl, rfl⟩
          go_wp2_with fail
          refine Calls.mono (rStatB _ true h2 _) ?_
          rintro e w3 ⟨rfl, rfl⟩
          go_wp2_with fail
          refine Calls.mono (rStatB _ false h3 _) ?_
          rintro e w4 ⟨rfl, rfl⟩
          go_wp2
          go_ret
          exact ⟨by rw [HR.out]; simp [h3], (Up.refl _).alloc _⟩
        · cases h4 : statB c.damage
          · go_enter Tryd.func71, Tryd.ntmps71
            go_wp2_with fail
            refine Calls.mono (rfromB _ 0 255 true h0 _) ?_
            rintro e w1 ⟨rfl, rfl⟩
            go_wp2_with fail
            refine Calls.mono (rfromB _ 0 _ true h1 _) ?_
            rintro e w2 ⟨rfl, rfl⟩
            go_wp2_with fail
            refine Calls.mono (rStatB _ true h2 _) ?_
            rintro e w3 ⟨rfl, rfl⟩
            go_wp2_with fail
            refine Calls.mono (rStatB _ true h3 _) ?_
            rintro e w4 ⟨rfl, rfl⟩
            go_wp2_with fail
            refine Calls.mono (rStatB _ false h4 _) ?_
            rintro e w5 ⟨rfl, rfl⟩
            go_wp2
            go_ret
            exact ⟨by rw [HR.out]; simp [h4], (Up.refl _).alloc _⟩
          · cases h5 : statB c.marks
            · go_enter Tryd.func71, Tryd.ntmps71
              go_wp2_with fail
              refine Calls.mono (rfromB _ 0 255 true h0 _) ?_
              rintro e w1 ⟨rfl, rfl⟩
              go_wp2_with fail
              refine Calls.mono (rfromB _ 0 _ true h1 _) ?_
              rintro e w2 ⟨rfl, rfl⟩
              go_wp2_with fail
              refine Calls.mono (rStatB _ true h2 _) ?_
              rintro e w3 ⟨rfl, rfl⟩
              go_wp2_with fail
              refine Calls.mono (rStatB _ true h3 _) ?_
              rintro e w4 ⟨rfl, rfl⟩
              go_wp2_with fail
              refine Calls.mono (rStatB _ true h4 _) ?_
              rintro e w5 ⟨rfl, rfl⟩
              go_wp2_with fail
              refine Calls.mono (rStatB _ false h5 _) ?_
              rintro e w6 ⟨rfl, rfl⟩
              go_wp2
              go_ret
              exact ⟨by rw [HR.out]; simp [h5], (Up.refl _).alloc _⟩
            · go_enter Tryd.func71, Tryd.ntmps71
              go_wp2_with fail
              refine Calls.mono (rfromB _ 0 255 true h0 _) ?_
              rintro e w1 ⟨rfl, rfl⟩
              go_wp2_with fail
              refine Calls.mono (rfromB _ 0 _ true h1 _) ?_
              rintro e w2 ⟨rfl, rfl⟩
              go_wp2_with fail
              refine Calls.mono (rStatB _ true h2 _) ?_
              rintro e w3 ⟨rfl, rfl⟩
              go_wp2_with fail
              refine Calls.mono (rStatB _ true h3 _) ?_
              rintro e w4 ⟨rfl, rfl⟩
              go_wp2_with fail
              refine Calls.mono (rStatB _ true h4 _) ?_
              rintro e w5 ⟨rfl, rfl⟩
              go_wp2_with fail
              refine Calls.mono (rStatB _ true h5 _) ?_
              rintro e w6 ⟨rfl, rfl⟩
              go_wp2
              go_ret
              exact ⟨by rw [HR.out]; simp [h0, h1, h2, h3, h4, h5], (Up.refl _).alloc _⟩
/- the entries -/
end ST
end Go.Proofs.YtndkpfkgcaebmaaDoor
/-
  Decks that came in; may a game begin with them; numbers in a row.
-/
namespace Go.Proofs.YtndkpfkgcaebmaaDoor
open Go.RowKit
attribute [local go_sem ↓] Go.wp_at_zero Go.wp_at_succ

namespace ST
def DL (W : World) (v : Value) (ds : List (List Crd)) : Prop := ∃ vs : List Value, LC W v 1 ds.length vs ∧ ∀ i, i < ds.length → CLs W (vs.getD i nl) (ds.getD i [])
theorem DL.up {W W' : World} {v : Value} {ds : List (List Crd)} (h : DL W v ds) (u : Up W W') : DL W' v ds := by
  obtain ⟨vs, h1, h2⟩ := h
  exact ⟨vs, h1.up u, fun i hi => (h2 i hi).up u⟩
theorem dl_at {w : World} {v : Value} {ds : List (List Crd)} (h : DL w v ds) : ∃ a cap, v = .slice a ds.length cap ∧ ds.length ≤ cap ∧ (ds.length ≠ 0 → ∃ b off, a = some ⟨b, off, none⟩ ∧ ∀ r, r < ds.length → ∃ ra rc, (∀ W, Up w W → W.cell? ⟨b, off + r, none⟩ = some (.slice ra (ds.getD r []).length rc)) ∧ CLs w (.slice ra (ds.getD r []).length rc) (ds.getD r [])) := by
  obtain ⟨vs, h, h2⟩ := h
  have hl := h.1
  obtain ⟨a, cap, hv, hc, h⟩ := lc_at h
  refine ⟨a, cap, hv, hc, fun hn => ?_⟩
  obtain ⟨b, off, ha, -, hcell⟩ := h hn
  refine ⟨b, off, ha, fun r hr => ?_⟩
  have hi := h2 r hr
  obtain ⟨ra, rc, e, -, -⟩ := lc_at hi
  refine ⟨ra, rc, fun W hu => ?_, by rw [e] at hi; exact hi⟩
  rw [hcell W hu r (by omega), List.getElem?_eq_getElem (by omega), ← e, List.getD_eq_getElem?_getD, List.getElem?_eq_getElem (by omega)]
  rfl
theorem all_at {A : Type} (l : List A) (f : A → Bool) (d : A) (h : ∀ j, j < l.length → f (l.getD j d) = true) : l.all f = true := by
  rw [List.all_eq_true]
  intro x hx
  obtain ⟨j, hj, rfl⟩ := List.getElem_of_mem hx
  have := h j hj
  rwa [List.getD_eq_getElem?_getD, List.getElem?_eq_getElem hj] at this
theorem all_no {A : Type} (l : List A) (f : A → Bool) (d : A) (i : Nat) (hi : i < l.length) (h : f (l.getD i d) = false) : l.all f = false := by
  rw [Bool.eq_false_iff]
  intro ha
  rw [List.all_eq_true] at ha
  have := ha (l.getD i d) (by rw [List.getD_eq_getElem?_getD, List.getElem?_eq_getElem hi]; exact List.getElem_mem _)
  rw [h] at this
  cases this
theorem tot_next (ds : List (List Crd)) (z : Nat) (hz : z < ds.length) : total (ds.take (z + 1)) = total (ds.take z) + (ds.getD z []).length := by
  unfold total
  rw [List.take_add_one, List.getElem?_eq_getElem hz, List.flatten_append, List.length_append, List.getD_eq_getElem?_getD, List.getElem?_eq_getElem hz]
  simp
set_option maxRecDepth 100000 in
set_option maxHeartbeats 4000000 in
theorem decksFit_ (v : Value) (ds : List (List Crd)) (w : World) (hv : DL w v ds) (hn : ds.length ≤ 140737488355328) (hl : ∀ r, r < ds.length → (ds.getD r []).length ≤ 140737488355328) :
    Calls Tryd.prog 66 #[v] w fun e w' => e = .returned (.bool (decksB ds)) ∧ Up w w' := by
  obtain ⟨a3, k3, rfl, -, c3⟩ := dl_at hv
  obtain ⟨n, hn0⟩ : ∃ n, n = ds.length := ⟨_, rfl⟩
  obtain ⟨R, hR⟩ : ∃ R, R = decksB ds := ⟨_, rfl⟩
  have HR : Hid (R = (npB n && ncB (total ds) && ds.all (fun d => d.all crd0B))) := by unfold Hid; rw [hR, hn0]; rfl
  rw [← hR]
  rw [← hn0] at hn hl c3 ⊢
  have HC : Hid _ := c3
  have HL : Hid _ := hl
  have HN : Hid (n = ds.length) := hn0
  clear hv c3 hl hn0 hR
  cases hp : npB n
  · have HF : Hid (R = false) := by unfold Hid; rw [HR.out, hp]; rfl
    clear HR
    go_enter Tryd.func66, Tryd.ntmps66
    go_wp2_with fail
    refine Calls.mono (playersFitB _ false hp _) ?_
    rintro e w1 ⟨rfl, rfl⟩
    go_wp2
    go_ret
    exact ⟨by rw [HF.out]; rfl, Up.refl _⟩
  · have hn4 : n ≤ 4 := by simp [npB] at hp; omega
    go_enter Tryd.func66, Tryd.ntmps66
    go_wp2_with fail
    refine Calls.mono (playersFitB _ true hp _) ?_
    rintro e w1 ⟨rfl, rfl⟩
    go_wp2_with fail
    go_loopw [3, 16] (fun s3 s16 W => ∃ i m : Nat, i ≤ n ∧ s16 = .int .i64 i ∧ s3 = .int .i64 m ∧ W = w1 ∧ m = total (ds.take i) ∧ m ≤ i * 140737488355328) (fun _ s16 _ => n - (intOf s16).toNat)
    case atStart => exact ⟨0, 0, Nat.zero_le _, rfl, rfl, rfl, rfl, by omega⟩
    case round =>
      obtain ⟨i, m, hi, rfl, rfl, rfl, hm, hmb⟩ := hrel
      have HM : Hid (m = total (ds.take i)) := hm
      clear hm
      by_cases hlt : i < n
      · have hlt2 : (i : Int) < (n : Int) := by omega
        obtain ⟨b3, o3, rfl, hrow⟩ := HC.out (by omega)
        obtain ⟨ra, rc, hcell, -⟩ := hrow i hlt
        have x1 := hcell _ (Up.refl _)
        have hlen := HL.out i hlt
        have HF : Hid (m + (ds.getD i []).length = total (ds.take (i + 1))) := by unfold Hid; rw [HM.out]; exact (tot_next ds i (by rw [← HN.out]; exact hlt)).symm
        clear hcell hrow HM
        generalize (ds.getD i []).length = q at x1 hlen HF
        go_wp2_with fail
        go_roundw
        case rel => exact ⟨i + 1, m + q, by omega, by go_num, by go_num, by first | rfl | trivial, HF.out, by omega⟩
        case measure => simp [intOf]; omega
      · have hlt2 : ¬ (i : Int) < (n : Int) := by omega
        have HMt : Hid (m = total ds) := by unfold Hid; rw [HM.out, List.take_of_length_le (by rw [← HN.out]; omega)]
        clear HM
        cases hc : ncB m
        · have HF : Hid (R = false) := by unfold Hid; rw [HR.out, ← HMt.out, hc]; simp
          clear HR
          go_wp2_with fail
          refine Calls.mono (cardsFitB _ false hc _) ?_
          rintro e w1 ⟨rfl, rfl⟩
          go_wp2
          go_ret
          exact ⟨by rw [HF.out]; rfl, Up.refl _⟩
        · have HR2 : Hid (R = ds.all (fun d => d.all crd0B)) := by unfold Hid; rw [HR.out, ← HMt.out, hp, hc]; simp
          clear HR hmb
          go_wp2_with fail
          refine Calls.mono (cardsFitB _ true hc _) ?_
          rintro e w2 ⟨rfl, rfl⟩
          go_wp2_with fail
          go_loopw [2, 30] (fun s2 s30 W => ∃ z : Nat, z ≤ n ∧ s30 = .int .i64 z ∧ s2 = .bool false ∧ Up w2 W ∧ ∀ j, j < z → (ds.getD j []).all crd0B = true) (fun _ s30 _ => n - (intOf s30).toNat)
          case atStart => exact ⟨0, Nat.zero_le _, rfl, rfl, Up.refl _, fun j hj => by omega⟩
          case round =>
            obtain ⟨z, hz, rfl, rfl, hu, hj⟩ := hrel
            have HU : Hid (Up w2 wr) := hu
            have HJ : Hid (∀ j, j < z → (ds.getD j []).all crd0B = true) := hj
            clear hu hj
            by_cases hlt3 : z < n
            · have hlt4 : (z : Int) < (n : Int) := by omega
              obtain ⟨b3, o3, rfl, hrow⟩ := HC.out (by omega)
              obtain ⟨ra, rc, hcell, hcl⟩ := hrow z hlt3
              have x1 := hcell _ HU.out
              have hlen := HL.out z hlt3
              obtain ⟨_, _, hra, -, hin⟩ := cl_at hcl
              cases hra
              have HBad : Hid (∀ q, q < (ds.getD z []).length → crd0B ((ds.getD z []).getD q dc) = false → R = false) := fun q hq h => by rw [HR2.out]; exact all_no ds _ [] z (by rw [← HN.out]; exact hlt3) (all_no _ crd0B dc q hq h)
              have HOk : Hid ((∀ q, q < (ds.getD z []).length → crd0B ((ds.getD z []).getD q dc) = true) → ∀ j, j < z + 1 → (ds.getD j []).all crd0B = true) := fun h j hj => by
                by_cases e : j = z
                · subst e; exact all_at _ crd0B dc h
                · exact HJ.out j (by omega)
              clear hcell hrow hcl HJ
              obtain ⟨r, hr⟩ : ∃ r, r = ds.getD z [] := ⟨_, rfl⟩
              rw [← hr] at x1 hlen hin HBad HOk
              obtain ⟨q, hq⟩ : ∃ q, q = r.length := ⟨_, rfl⟩
              rw [← hq] at x1 hlen hin HBad HOk
              have HIn : Hid _ := hin
              clear hr hq hin
              go_wp2_with fail
              go_loopw [2, 36] (fun s2 s36 W => ∃ i : Nat, i ≤ q ∧ s36 = .int .i64 i ∧ s2 = .bool false ∧ Up w2 W ∧ ∀ j, j < i → crd0B (r.getD j dc) = true) (fun _ s36 _ => q - (intOf s36).toNat)
              case atStart => exact ⟨0, Nat.zero_le _, rfl, rfl, HU.out, fun j hj => by omega⟩
              case round =>
                obtain ⟨i, hiq, rfl, rfl, hu, hj⟩ := hrel
                clear HU x1
                have HU : Hid (Up w2 wr) := hu
                have HJ : Hid (∀ j, j < i → crd0B (r.getD j dc) = true) := hj
                clear hu hj
                by_cases hlt5 : i < q
                · have hlt6 : (i : Int) < (q : Int) := by omega
                  obtain ⟨b4, o4, rfl, hc4⟩ := HIn.out (by omega)
                  obtain ⟨x1, x2, x3, x4, x5, x6⟩ := hc4 wr HU.out i hlt5
                  clear hc4
                  have HY : Hid ((crd0B (r.getD i dc) = false → R = false) ∧ (crd0B (r.getD i dc) = true → ∀ j, j < i + 1 → crd0B (r.getD j dc) = true)) := ⟨HBad.out i hlt5, fun h j hj => by
                    by_cases e : j = i
                    · subst e; exact h
                    · exact HJ.out j (by omega)⟩
                  clear HJ
                  generalize r.getD i dc = c at x1 x2 x3 x4 x5 x6 HY
                  obtain ⟨ki, ow, po, he, da, ma⟩ := c
                  simp only at x1 x2 x3 x4 x5 x6
                  cases q1 : crd0B ⟨ki, ow, po, he, da, ma⟩
                  · have HF : Hid (R = false) := HY.out.1 q1
                    have HCf : Hid _ := cardFitsB _ false q1
                    clear HY q1
                    unfold cag at HCf
                    go_wp2_with fail
                    refine Calls.mono (HCf.out _) ?_
                    rintro e9 w9 ⟨rfl, u9⟩
                    have HU9 : Hid (Up w2 w9) := by
                      refine Up.trans (HU.out.trans ?_) u9
                      repeat (first | with_reducible exact Up.refl _ | with_reducible apply Up.alloc | with_reducible apply Up.drewN | with_reducible apply Up.drew | with_reducible refine Up.set ?_ _ _ (by first | exact Nat.le_refl _ | exact Nat.le_succ _ | (simp; omega)))
                    clear u9
                    go_wp2
                    go_ret
                    exact ⟨by rw [HF.out]; rfl, HU9.out⟩
                  · have HF : Hid (∀ j, j < i + 1 → crd0B (r.getD j dc) = true) := HY.out.2 q1
                    have HCf : Hid _ := cardFitsB _ true q1
                    clear HY q1
                    unfold cag at HCf
                    go_wp2_with fail
                    refine Calls.mono (HCf.out _) ?_
                    rintro e9 w9 ⟨rfl, u9⟩
                    have HU9 : Hid (Up w2 w9) := by
                      refine Up.trans (HU.out.trans ?_) u9
                      repeat (first | with_reducible exact Up.refl _ | with_reducible apply Up.alloc | with_reducible apply Up.drewN | with_reducible apply Up.drew | with_reducible refine Up.set ?_ _ _ (by first | exact Nat.le_refl _ | exact Nat.le_succ _ | (simp; omega)))
                    clear u9
                    go_wp2_with fail
                    go_roundw
                    case rel => exact ⟨i + 1, by omega, by go_num, rfl, HU9.out, HF.out⟩
                    case measure => simp [intOf]; omega
                · have hlt6 : ¬ (i : Int) < (q : Int) := by omega
                  have hiq2 : i = q := by omega
                  subst hiq2
                  have HF : Hid (∀ j, j < z + 1 → (ds.getD j []).all crd0B = true) := HOk.out HJ.out
                  clear HJ
                  go_wp2_with fail
                  go_roundw
                  case rel => exact ⟨z + 1, by omega, by go_num, rfl, HU.out, HF.out⟩
                  case measure => simp [intOf]; omega
            · have hlt4 : ¬ (z : Int) < (n : Int) := by omega
              have HF : Hid (R = true) := by unfold Hid; rw [HR2.out]; exact all_at ds _ [] (fun j hj => HJ.out j (by have := HN.out; omega))
              clear HJ
              go_wp2
              go_ret
              exact ⟨by rw [HF.out]; rfl, HU.out⟩
end ST
end Go.Proofs.YtndkpfkgcaebmaaDoor
/-
  Numbers in a row.
-/
namespace Go.Proofs.YtndkpfkgcaebmaaDoor
open Go.RowKit
attribute [local go_sem ↓] Go.wp_at_zero Go.wp_at_succ

namespace ST
theorem numsF_len (a k : Nat) : (numsF a k).length = k := by simp [numsF]
theorem numsF_get (a k i : Nat) (hi : i < k) : (ivs (numsF a k))[i]? = some (.int .i64 ((a + i : Nat) : Int)) := by simp [ivs, numsF, hi]
def NF (w W : World) (g : Nat) (cs : List Value) (a i k : Nat) : Prop := W.heap[g]? = some (.cells cs.toArray 3 (0, 0)) ∧ cs.length = k ∧ (∀ q, q < i → cs[q]? = some (.int .i64 ((a + q : Nat) : Int))) ∧ Up w W
set_option maxRecDepth 100000 in
set_option maxHeartbeats 2000000 in
theorem numbersFrom_ (a k : Nat) (w : World) (ha : a ≤ 1000000) (hk : k ≤ 1000000) :
    Calls Tryd.prog 68 #[.int .i64 a, .int .i64 k] w (CpPost w fun W v' => IRow w.heap.size W v' (numsF a k)) := by
  obtain ⟨iT, hiT, z0, z1, z2⟩ := info_parts infoI
  obtain ⟨Post, hPost⟩ : ∃ P : Ending → World → Prop, P = CpPost w fun W v' => IRow w.heap.size W v' (numsF a k) := ⟨_, rfl⟩
  rw [← hPost]
  have HP : Hid (Post = CpPost w fun W v' => IRow w.heap.size W v' (numsF a k)) := hPost
  obtain ⟨g, hg⟩ : ∃ g, g = w.heap.size := ⟨_, rfl⟩
  have HG : Hid (g = w.heap.size) := hg
  clear hPost
  go_enter Tryd.func68, Tryd.ntmps68
  go_wp2_with (at_make; refine wpList_make_full _ rfl _ _ 74 rfl w.heap.size 3 iT (.int .i64 0) 1 Tryd.underlying74 hiT z0 z1 .i64 .i64 _ _ k rfl rfl rfl rfl (by rw [z2]; omega) (by unfold maxLen; omega) (Nat.le_refl _) ?_; intro w1 hin hg1)
  have HI : Hid (∃ cs : List Value, NF w w1 g cs a 0 k) := ⟨_, by rw [hg]; exact row_made hin, by have := hin.1; omega, fun q hq => by omega, made_up hg1⟩
  rw [← hg]
  clear hin hg1 hg
  go_wp2_with fail
  go_loopw [11] (fun s11 W => ∃ (i : Nat) (cs : List Value), i ≤ k ∧ s11 = .int .i64 i ∧ NF w W g cs a i k) (fun s11 _ => k - (intOf s11).toNat)
  case atStart => obtain ⟨cs, h⟩ := HI.out; exact ⟨0, cs, Nat.zero_le _, rfl, h⟩
  case round =>
    obtain ⟨i, cs, hi, rfl, hnf⟩ := hrel
    clear HI
    by_cases hlt : i < k
    · have hlt2 : (i : Int) < (k : Int) := by omega
      obtain ⟨h1, h2, h3, h4⟩ := hnf
      have p1 : wr.cell? ⟨g, i, none⟩ = cs[i]? := by simp [World.cell?, h1]
      have pf : wr.frozen? ⟨g, i, none⟩ = false := by simp [World.frozen?, h1]
      rw [List.getElem?_eq_getElem (by omega)] at p1
      generalize cs[i]'(by omega) = q1 at p1
      have HR : Hid (NF w (wr.setCell ⟨g, i, none⟩ (.int .i64 ((a : Int) + (i : Int)))) g (cs.set i (.int .i64 ((a : Int) + (i : Int)))) a (i + 1) k) := by
        refine ⟨?_, by simpa using h2, fun q hq => ?_, Up.set h4 _ _ (by rw [HG.out]; exact Nat.le_refl _)⟩
        · have := set_cells (j := i) (x := .int .i64 ((a : Int) + (i : Int))) h1
          simpa using this
        · by_cases e : q = i
          · subst e; rw [List.getElem?_set_self (by omega), Int.natCast_add]
          · rw [List.getElem?_set_ne (by omega)]; exact h3 q (by omega)
      clear h1 h2 h3 h4
      go_wp2
      go_roundw
      case rel => exact ⟨i + 1, _, by omega, by go_num, HR.out⟩
      case measure => simp [intOf]; omega
    · have hlt2 : ¬ (i : Int) < (k : Int) := by omega
      have hik : i = k := by omega
      subst hik
      have HF : Hid (IRow w.heap.size wr (.slice (some ⟨g, 0, none⟩) i i) (numsF a i) ∧ Up w wr) := by
        obtain ⟨h1, h2, h3, h4⟩ := hnf
        have e : cs = ivs (numsF a i) := by
          apply List.ext_getElem?
          intro q
          by_cases hq : q < i
          · rw [h3 q hq, numsF_get a i q hq]
          · rw [List.getElem?_eq_none (by omega), List.getElem?_eq_none (by rw [ivs_len, numsF_len]; omega)]
        refine ⟨⟨by rw [ivs_len, Nat.mul_one], .inr ⟨g, i, cs.toArray, by rw [numsF_len], by rw [HG.out]; exact Nat.le_refl _, h1, by rw [numsF_len]; exact Nat.le_refl _, by unfold maxLen; omega, by simp [h2], ?_⟩⟩, h4⟩
        rw [numsF_len, e]
        simp
        exact List.take_of_length_le (by rw [ivs_len, numsF_len]; exact Nat.le_refl _)
      clear hnf
      go_wp2
      rw [HP.out]
      exact ⟨_, rfl, HF.out.1, HF.out.2⟩
end ST
end Go.Proofs.YtndkpfkgcaebmaaDoor
/-
  How a game begins.
-/
namespace Go.Proofs.YtndkpfkgcaebmaaDoor
open Go.RowKit
attribute [local go_sem ↓] Go.wp_at_zero Go.wp_at_succ

namespace ST
def stZ : Array Value := #[.slice none 0 0, .slice none 0 0, .slice none 0 0, .int .i32 0, .int .i64 0, .int .i8 0, .int .i64 0]
theorem noS_own (base : Nat) (W : World) : SO base W (.agg stZ) noS := ⟨.slice none 0 0, .slice none 0 0, .slice none 0 0, rfl, World.ownsRow_nil _ _ _ _, World.ownsRow_nil _ _ _ _, [], World.ownsRow_nil _ _ _ _, fun i hi => by simp [noS] at hi⟩
def newR (ds : List (List Crd)) (li en : Int) : Stt := if newB ds li en then newS ds li en else noS
def newE (ds : List (List Crd)) (li en : Int) : Int := if newB ds li en then 0 else 1
def NPost (w : World) (s : Stt) (k : Int) (e : Ending) (w' : World) : Prop := ∃ v', e = .returned (.tuple #[v', .int .i64 k]) ∧ SO w.heap.size w' v' s ∧ Up w w'
theorem heap_ne {W : World} {a b t1 t2 : Nat} {c1 c2 : Array Value} (h1 : W.heap[a]? = some (.cells c1 t1 (0, 0))) (h2 : W.heap[b]? = some (.cells c2 t2 (0, 0))) (ht : t1 ≠ t2) : a ≠ b := by
  rintro rfl
  rw [h1] at h2
  cases h2
  exact ht rfl
/- the new state as far as it is made -/
def NW (w W : World) (B b6 gs gp gz n : Nat) (li en : Int) (vc : Value) (cards : List Crd) (p : Nat) (zs : List (List Int)) : Prop :=
  W.heap[gs]? = some (.cells #[.slice (some ⟨gp, 0, none⟩) n n, vc, .slice (some ⟨gz, 0, none⟩) (4 * n) (4 * n), .int .i32 1, .int .i64 0, .int .i8 0, .int .i64 0] 27 (0, 0)) ∧
  (∃ pl : List Value, W.heap[gp]? = some (.cells pl.toArray 71 (0, 0)) ∧ pl.length = n * 3 ∧ ∀ q, q < p * 3 → pl[q]? = (pvs (List.replicate n ⟨li, en, false⟩))[q]?) ∧
  (∃ zl : List Value, W.heap[gz]? = some (.cells zl.toArray 74 (0, 0)) ∧ zl.length = 4 * n ∧ ∀ q, q < 4 * n → IRow B W (zl.getD q nl) (zs.getD q [])) ∧
  CO B W vc cards ∧ W.heap[b6]? = some (.cells stZ 27 (0, 0)) ∧ Up w W ∧ B ≤ W.heap.size
def Fix (w : World) (B b6 gs gp gz : Nat) : Prop := b6 = w.heap.size ∧ b6 < gs ∧ b6 < gp ∧ b6 < gz ∧ gs < B ∧ gp < B ∧ gz < B
theorem NW.up {w W W' : World} {B b6 gs gp gz n : Nat} {li en : Int} {vc : Value} {cards : List Crd} {p : Nat} {zs : List (List Int)} (h : NW w W B b6 gs gp gz n li en vc cards p zs) (u : Up W W') : NW w W' B b6 gs gp gz n li en vc cards p zs := by
  obtain ⟨h1, ⟨pl, h2, h3⟩, ⟨zl, h4, h5, h6⟩, h7, h8, h9, h10⟩ := h
  exact ⟨u.heap h1, ⟨pl, u.heap h2, h3⟩, ⟨zl, u.heap h4, h5, fun q hq => row_up (h6 q hq) u⟩, row_up h7 u, u.heap h8, h9.trans u, Nat.le_trans h10 u.size⟩
/- a player's three cells -/
theorem NW.ply {w W : World} {B b6 gs gp gz n : Nat} {li en : Int} {vc : Value} {cards : List Crd} {p : Nat} {zs : List (List Int)} (hf : Fix w B b6 gs gp gz) (h : NW w W B b6 gs gp gz n li en vc cards p zs) (hp : p < n) :
    NW w (((W.setCell ⟨gp, p * 3, none⟩ (.int .i32 li)).setCell ⟨gp, p * 3 + 1, none⟩ (.int .i32 en)).setCell ⟨gp, p * 3 + 2, none⟩ (.bool false)) B b6 gs gp gz n li en vc cards (p + 1) zs := by
  obtain ⟨h1, ⟨pl, h2, h3, h3'⟩, ⟨zl, h4, h5, h6⟩, h7, h8, h9, h10⟩ := h
  obtain ⟨f1, f2, f3, f4, f5, f6, f7⟩ := hf
  have n1 : gs ≠ gp := heap_ne h1 h2 (by decide)
  have n2 : gz ≠ gp := heap_ne h4 h2 (by decide)
  have n3 : b6 ≠ gp := by omega
  have hs : w.heap.size ≤ gp := by omega
  refine ⟨set_other (set_other (set_other h1 n1) n1) n1, ⟨((pl.set (p * 3) (.int .i32 li)).set (p * 3 + 1) (.int .i32 en)).set (p * 3 + 2) (.bool false), ?_, by simpa using h3, fun q hq => ?_⟩, ⟨zl, set_other (set_other (set_other h4 n2) n2) n2, h5, fun q hq => row_set (row_set (row_set (h6 q hq) f6) f6) f6⟩, row_set (row_set (row_set h7 f6) f6) f6, set_other (set_other (set_other h8 n3) n3) n3, Up.set (Up.set (Up.set h9 _ _ hs) _ _ hs) _ _ hs, by simpa using h10⟩
  · have e1 := set_cells (j := p * 3) (x := .int .i32 li) h2
    have e2 := set_cells (j := p * 3 + 1) (x := .int .i32 en) e1
    have e3 := set_cells (j := p * 3 + 2) (x := .bool false) e2
    simpa using e3
  · have g : ∀ j, j < 3 → (pvs (List.replicate n ⟨li, en, false⟩))[p * 3 + j]? = (pv ⟨li, en, false⟩)[j]? := fun j hj => by
      rw [pvs_get _ p j (by simpa using hp) hj]
      congr 2
      simp [List.getD_eq_getElem?_getD, hp]
    by_cases q2 : q = p * 3 + 2
    · subst q2; rw [List.getElem?_set_self (by simp; omega), g 2 (by decide)]; rfl
    · rw [List.getElem?_set_ne (by omega)]
      by_cases q1 : q = p * 3 + 1
      · subst q1; rw [List.getElem?_set_self (by simp; omega), g 1 (by decide)]; rfl
      · rw [List.getElem?_set_ne (by omega)]
        by_cases q0 : q = p * 3
        · subst q0; rw [List.getElem?_set_self (by omega)]; exact (g 0 (by decide)).symm
        · rw [List.getElem?_set_ne (by omega)]; exact h3' q (by omega)
/- a zone -/
theorem NW.zone {w W : World} {B b6 gs gp gz n : Nat} {li en : Int} {vc x : Value} {cards : List Crd} {p : Nat} {zs zs' : List (List Int)} (hf : Fix w B b6 gs gp gz) (h : NW w W B b6 gs gp gz n li en vc cards p zs) (k : Nat) (hk : k < 4 * n) (hx : IRow B W x (zs'.getD k [])) (hz : ∀ q, q ≠ k → zs'.getD q [] = zs.getD q []) :
    NW w (W.setCell ⟨gz, k, none⟩ x) B b6 gs gp gz n li en vc cards p zs' := by
  obtain ⟨h1, ⟨pl, h2, h3⟩, ⟨zl, h4, h5, h6⟩, h7, h8, h9, h10⟩ := h
  obtain ⟨f1, f2, f3, f4, f5, f6, f7⟩ := hf
  have n1 : gs ≠ gz := heap_ne h1 h4 (by decide)
  have n2 : gp ≠ gz := heap_ne h2 h4 (by decide)
  refine ⟨set_other h1 n1, ⟨pl, set_other h2 n2, h3⟩, ⟨zl.set k x, ?_, by simpa using h5, fun q hq => ?_⟩, row_set h7 f7, set_other h8 (by omega), Up.set h9 _ _ (by show w.heap.size ≤ gz; omega), by simpa using h10⟩
  · have := set_cells (j := k) (x := x) h4
    simpa using this
  · by_cases e : q = k
    · subst e
      rw [List.getD_eq_getElem?_getD, List.getElem?_set_self (by omega)]
      exact row_set hx f7
    · rw [List.getD_eq_getElem?_getD, List.getElem?_set_ne (fun h => e h.symm), ← List.getD_eq_getElem?_getD, hz q e]
      exact row_set (h6 q hq) f7
/- a card more -/
theorem NW.card {w W W2 : World} {B b6 gs gp gz n : Nat} {li en : Int} {vc vc' : Value} {cards cards' : List Crd} {p : Nat} {zs : List (List Int)} (hf : Fix w B b6 gs gp gz) (h : NW w W B b6 gs gp gz n li en vc cards p zs) (hg : W.grownBy W2 vc.ownBlock) (hc : CO B W2 vc' cards') :
    NW w (W2.setCell ⟨gs, 1, none⟩ vc') B b6 gs gp gz n li en vc' cards' p zs := by
  obtain ⟨h1, ⟨pl, h2, h3⟩, ⟨zl, h4, h5, h6⟩, h7, h8, h9, h10⟩ := h
  obtain ⟨f1, f2, f3, f4, f5, f6, f7⟩ := hf
  have keep : ∀ g o, g < B → W.heap[g]? = some o → W2.heap[g]? = some o := fun g o hgB hgo => by
    rw [hg.block g (Array.getElem?_eq_some_iff.1 hgo).1 (fun e => by have := h7.lt g e.symm; omega)]
    exact hgo
  have n1 : gp ≠ gs := heap_ne h2 h1 (by decide)
  have n2 : gz ≠ gs := heap_ne h4 h1 (by decide)
  refine ⟨set_cells (keep _ _ f5 h1), ⟨pl, set_other (keep _ _ f6 h2) n1, h3⟩, ⟨zl, set_other (keep _ _ f7 h4) n2, h5, fun q hq => row_set (World.ownsRow.kept (h6 q hq) hg (row_apart (h6 q hq) h7 (by decide))) f5⟩, row_set hc f5, set_other (keep _ _ (by omega) h8) (by omega), Up.set (Below.grown h9 hg (by omega) (fun k hk => by have := h7.lt k hk; omega)) _ _ (by show w.heap.size ≤ gs; omega), ?_⟩
  have := hg.size
  simp; omega
def Start (w : World) (n : Nat) (li en : Int) (gs gp gz : Nat) (W : World) : Prop := ∃ B, Fix w B w.heap.size gs gp gz ∧ NW w W B w.heap.size gs gp gz n li en nl [] 0 []
theorem three_blocks (w : World) (c0 c1 c2 : Array Value) (t0 t1 t2 : Nat) :
    ((((w.alloc (.cells c0 t0)).alloc (.cells c1 t1)).alloc (.cells c2 t2)).drew.heap[w.heap.size]? = some (.cells c0 t0 (0, 0))) ∧
    ((((w.alloc (.cells c0 t0)).alloc (.cells c1 t1)).alloc (.cells c2 t2)).drew.heap[w.heap.size + 1]? = some (.cells c1 t1 (0, 0))) ∧
    ((((w.alloc (.cells c0 t0)).alloc (.cells c1 t1)).alloc (.cells c2 t2)).drew.heap[w.heap.size + 1 + 1]? = some (.cells c2 t2 (0, 0))) := by
  have d : (((w.alloc (.cells c0 t0)).alloc (.cells c1 t1)).alloc (.cells c2 t2)).drew.heap = (((w.alloc (.cells c0 t0)).alloc (.cells c1 t1)).alloc (.cells c2 t2)).heap := rfl
  rw [d]
  refine ⟨?_, ?_, ?_⟩
  · rw [Below.heap_alloc _ _ _ (by simp; omega), Below.heap_alloc _ _ _ (by simp)]; exact heap_alloc_new w _
  · rw [Below.heap_alloc _ _ _ (by simp)]
    have := heap_alloc_new (w.alloc (.cells c0 t0)) (.cells c1 t1)
    simpa using this
  · have := heap_alloc_new ((w.alloc (.cells c0 t0)).alloc (.cells c1 t1)) (.cells c2 t2)
    simpa using this
theorem start_of {w W : World} {n : Nat} {li en : Int} {gs gp gz B : Nat} {MP MZ : List Value} (hM : MP.length = n * 3 ∧ MZ = List.replicate (4 * n) (.slice none 0 0)) (f : Fix w B w.heap.size gs gp gz) (hB : B ≤ W.heap.size) (u : Up w W) (h6 : W.heap[w.heap.size]? = some (.cells stZ 27 (0, 0)))
    (hs : W.heap[gs]? = some (.cells #[.slice (some ⟨gp, 0, none⟩) n n, .slice none 0 0, .slice (some ⟨gz, 0, none⟩) (4 * n) (4 * n), .int .i32 1, .int .i64 0, .int .i8 0, .int .i64 0] 27 (0, 0)))
    (hp : W.heap[gp]? = some (.cells MP.toArray 71 (0, 0))) (hz : W.heap[gz]? = some (.cells MZ.toArray 74 (0, 0))) : Start w n li en gs gp gz W := by
  refine ⟨B, f, hs, ⟨MP, hp, hM.1, fun q hq => by omega⟩, ⟨MZ, hz, by rw [hM.2]; simp, fun q hq => ?_⟩, World.ownsRow_nil _ _ _ _, h6, u, hB⟩
  have : MZ.getD q nl = .slice none 0 0 := by rw [hM.2, List.getD_eq_getElem?_getD]; simp [hq]
  rw [this]
  exact World.ownsRow_nil _ _ _ _
theorem NW.done {w W : World} {B b6 gs gp gz n : Nat} {li en : Int} {vc : Value} {cards : List Crd} {zs : List (List Int)} (hf : Fix w B b6 gs gp gz) (h : NW w W B b6 gs gp gz n li en vc cards n zs) (hz : zs.length = 4 * n) (hn : n ≤ 4) :
    SO (b6 + 1) W (.agg #[.slice (some ⟨gp, 0, none⟩) n n, vc, .slice (some ⟨gz, 0, none⟩) (4 * n) (4 * n), .int .i32 1, .int .i64 0, .int .i8 0, .int .i64 0]) ⟨List.replicate n ⟨li, en, false⟩, cards, zs, 1, 0, 0, 0⟩ := by
  obtain ⟨h1, ⟨pl, h2, h3, h3'⟩, ⟨zl, h4, h5, h6⟩, h7, h8, h9, h10⟩ := h
  obtain ⟨f1, f2, f3, f4, f5, f6, f7⟩ := hf
  have hpl : pl = pvs (List.replicate n ⟨li, en, false⟩) := by
    apply List.ext_getElem?
    intro q
    by_cases hq : q < n * 3
    · exact h3' q hq
    · rw [List.getElem?_eq_none (by omega), List.getElem?_eq_none (by rw [pvs_len, List.length_replicate]; omega)]
  refine ⟨_, _, _, rfl, ?_, own_less h7 (by omega), zl, ?_, fun i hi => own_less (h6 i (by simp only at hi; omega)) (by omega)⟩
  · subst hpl
    refine ⟨by rw [pvs_len], .inr ⟨gp, n, _, by simp, by omega, h2, by simp, by unfold maxLen; omega, by simp [pvs_len], ?_⟩⟩
    simp
    exact List.take_of_length_le (by rw [pvs_len, List.length_replicate]; exact Nat.le_refl _)
  · refine ⟨by rw [h5, hz, Nat.mul_one], .inr ⟨gz, 4 * n, zl.toArray, by rw [hz], by omega, h4, by rw [hz]; exact Nat.le_refl _, by unfold maxLen; omega, by simp [h5], ?_⟩⟩
    simp
    exact List.take_of_length_le (by rw [h5, hz]; exact Nat.le_refl _)
end ST
end Go.Proofs.YtndkpfkgcaebmaaDoor
