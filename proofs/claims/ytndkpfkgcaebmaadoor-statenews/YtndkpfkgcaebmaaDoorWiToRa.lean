/-
  Lists of ints with marks behind them: WideInts, SpareInts.
-/
import Derived.Test.YtndkpfkgcaebmaaDoorCsToNw
namespace Go.Proofs.YtndkpfkgcaebmaaDoor
open Go.RowKit
attribute [local go_sem ↓] Go.wp_at_zero Go.wp_at_succ

namespace ST
def numI (i : Nat) : Int := 9437185 + (i : Int)
set_option maxHeartbeats 1000000 in
theorem num_ (i : Nat) (hi : i ≤ 8589934592) (w : World) : Calls Tryd.prog 65 #[.int .i64 9, .int .i64 i] w fun e w' => e = .returned (.int .i64 (numI i)) ∧ w' = w := by
  go_enter Tryd.func65, Tryd.ntmps65
  go_wp2
  go_ret
  exact ⟨ret_int (by unfold numI; omega), rfl⟩
/- what lies in cell i: the list, and marks behind it -/
def wI (l : List Int) (i : Nat) : Value := if i < l.length then .int .i64 (l.getD i 0) else .int .i64 (numI i)
def wIs (l : List Int) : List Value := (List.range (l.length + 64)).map (wI l)
theorem wIs_len (l : List Int) : (wIs l).length = l.length + 64 := by simp [wIs]
theorem wIs_get (l : List Int) (i : Nat) (hi : i < l.length + 64) : (wIs l)[i]? = some (wI l i) := by simp [wIs, hi]
def WI (base : Nat) (W : World) (v : Value) (l : List Int) : Prop := ∃ g, base ≤ g ∧ v = .slice (some ⟨g, 0, none⟩) l.length (l.length + 64) ∧ W.heap[g]? = some (.cells (wIs l).toArray 3 (0, 0))
theorem WI.up {base : Nat} {W W' : World} {v : Value} {l : List Int} (h : WI base W v l) (u : Up W W') : WI base W' v l := by
  obtain ⟨g, h1, h2, h3⟩ := h
  exact ⟨g, h1, h2, u.heap h3⟩
theorem WI.il {base : Nat} {W : World} {v : Value} {l : List Int} (h : WI base W v l) : IL W v l := by
  obtain ⟨g, h1, rfl, h3⟩ := h
  refine ⟨by rw [ivs_len, Nat.mul_one], some ⟨g, 0, none⟩, l.length + 64, rfl, by omega, fun hn => ⟨g, 0, rfl, fun j hj => ?_⟩⟩
  rw [Nat.mul_one] at hj
  rw [ivs_get l j hj, Nat.zero_add]
  have : W.cell? ⟨g, j, none⟩ = (wIs l)[j]? := by simp [World.cell?, h3]
  rw [this, wIs_get l j (by omega), wI, if_pos hj]
set_option maxRecDepth 100000 in
set_option maxHeartbeats 4000000 in
theorem wideInts_ (v : Value) (l : List Int) (w : World) (hv : IL w v l) (hn : l.length ≤ 4294967296) :
    Calls Tryd.prog 73 #[v] w (CpPost w fun W v' => WI w.heap.size W v' l) := by
  obtain ⟨iT, hiT, z0, z1, z2⟩ := info_parts infoI
  obtain ⟨Post, hPost⟩ : ∃ P : Ending → World → Prop, P = CpPost w fun W v' => WI w.heap.size W v' l := ⟨_, rfl⟩
  rw [← hPost]
  have HP : Hid (Post = CpPost w fun W v' => WI w.heap.size W v' l) := hPost
  obtain ⟨a1, k1, rfl, -, h1⟩ := il_at hv
  obtain ⟨n, hn0⟩ : ∃ n, n = l.length := ⟨_, rfl⟩
  have HN : Hid (n = l.length) := hn0
  rw [← hn0] at hn h1 ⊢
  have H1 : Hid _ := h1
  obtain ⟨g, hg⟩ : ∃ g, g = w.heap.size := ⟨_, rfl⟩
  have HG : Hid (g = w.heap.size) := hg
  clear hPost hv h1 hn0
  go_enter Tryd.func73, Tryd.ntmps73
  go_wp2_with (at_make; refine wpList_make_full _ rfl _ _ 74 rfl w.heap.size 3 iT (.int .i64 0) 1 Tryd.underlying74 hiT z0 z1 .i64 .i64 _ _ (n + 64) rfl rfl rfl rfl (by rw [z2]; omega) (by unfold maxLen; omega) (Nat.le_refl _) ?_; intro w1 hin hg1)
  have HI : Hid (∃ cs : List Value, w1.heap[g]? = some (.cells cs.toArray 3 (0, 0)) ∧ cs.length = n + 64 ∧ Up w w1) := ⟨_, by rw [hg]; exact row_made hin, by have := hin.1; omega, made_up hg1⟩
  rw [← hg]
  clear hin hg1 hg
  go_wp2_with fail
  go_loopw [4] (fun s4 W => ∃ (i : Nat) (cs : List Value), i ≤ n + 64 ∧ s4 = .int .i64 i ∧ W.heap[g]? = some (.cells cs.toArray 3 (0, 0)) ∧ cs.length = n + 64 ∧ (∀ q, q < i → cs[q]? = some (wI l q)) ∧ Up w W) (fun s4 _ => n + 64 - (intOf s4).toNat)
  case atStart => obtain ⟨cs, x1, x2, x3⟩ := HI.out; exact ⟨0, cs, Nat.zero_le _, rfl, x1, x2, fun q hq => by omega, x3⟩
  case round =>
    obtain ⟨i, cs, hi, rfl, hrow, hcl, hq, hu⟩ := hrel
    clear HI
    by_cases hlt : i < n + 64
    · have hlt2 : (i : Int) < (n : Int) + 64 := by omega
      have p1 : wr.cell? ⟨g, i, none⟩ = some (cs[i]'(by omega)) := by simp [World.cell?, hrow]
      have pf : wr.frozen? ⟨g, i, none⟩ = false := by simp [World.frozen?, hrow]
      generalize cs[i]'(by omega) = q1 at p1
      have HR : Hid (∀ y, y = wI l i → ∃ cs : List Value, (wr.setCell ⟨g, i, none⟩ y).heap[g]? = some (.cells cs.toArray 3 (0, 0)) ∧ cs.length = n + 64 ∧ (∀ q, q < i + 1 → cs[q]? = some (wI l q)) ∧ Up w (wr.setCell ⟨g, i, none⟩ y)) := fun y hy => by
        refine ⟨cs.set i y, ?_, by simpa using hcl, fun q hq' => ?_, Up.set hu _ _ (by rw [HG.out]; exact Nat.le_refl _)⟩
        · have := set_cells (j := i) (x := y) hrow
          simpa using this
        · by_cases e : q = i
          · subst e; rw [List.getElem?_set_self (by omega), hy]
          · rw [List.getElem?_set_ne (by omega)]; exact hq q (by omega)
      have HUw : Hid (Up w wr) := hu
      clear hrow hcl hq hu
      by_cases hin : i < n
      · have hin2 : (i : Int) < (n : Int) := by omega
        obtain ⟨b1, o1, rfl, c1⟩ := H1.out (by omega)
        have x1 := c1 _ HUw.out i hin
        have HR2 : Hid _ := HR.out (.int .i64 (l.getD i 0)) (by rw [wI, if_pos (by rw [← HN.out]; exact hin)])
        clear c1 HR
        generalize l.getD i 0 = z at x1 HR2
        go_wp2
        go_roundw
        case rel => obtain ⟨cs, x1, x2, x3, x4⟩ := HR2.out; exact ⟨i + 1, cs, by omega, by go_num, x1, x2, x3, x4⟩
        case measure => simp [intOf]; omega
      · have hin2 : ¬ (i : Int) < (n : Int) := by omega
        have HR2 : Hid _ := HR.out (.int .i64 (numI i)) (by rw [wI, if_neg (by rw [← HN.out]; exact hin)])
        clear HR
        go_wp2_with fail
        refine Calls.mono (num_ i (by omega) _) ?_
        rintro e w2 ⟨rfl, rfl⟩
        generalize numI i = z at HR2 ⊢
        go_wp2
        go_roundw
        case rel => obtain ⟨cs, x1, x2, x3, x4⟩ := HR2.out; exact ⟨i + 1, cs, by omega, by go_num, x1, x2, x3, x4⟩
        case measure => simp [intOf]; omega
    · have hlt2 : ¬ (i : Int) < (n : Int) + 64 := by omega
      have hn64 : (n : Int) ≤ (n : Int) + 64 := by omega
      have HF : Hid (wr.heap[g]? = some (.cells (wIs l).toArray 3 (0, 0)) ∧ Up w wr) := by
        have e : cs = wIs l := by
          apply List.ext_getElem?
          intro q
          have hnn := HN.out
          by_cases hq' : q < n + 64
          · rw [hq q (by omega), wIs_get l q (by omega)]
          · rw [List.getElem?_eq_none (by omega), List.getElem?_eq_none (by rw [wIs_len]; omega)]
        exact ⟨by rw [← e]; exact hrow, hu⟩
      clear hrow hcl hq hu
      go_wp2
      rw [HP.out]
      refine ⟨_, rfl, ⟨g, by rw [HG.out]; exact Nat.le_refl _, by rw [← HN.out], HF.out.1⟩, HF.out.2⟩
end ST
end Go.Proofs.YtndkpfkgcaebmaaDoor
/-
  Players and cards with marks behind them.
-/
namespace Go.Proofs.YtndkpfkgcaebmaaDoor
open Go.RowKit
attribute [local go_sem ↓] Go.wp_at_zero Go.wp_at_succ

namespace ST
def wP (l : List Ply) (i : Nat) : List Value := if i < l.length then pv (l.getD i dp) else [.int .i32 (wrap32 (numI i)), .int .i32 0, .bool false]
theorem wP_len (l : List Ply) (i : Nat) : (wP l i).length = 3 := by unfold wP; split <;> rfl
def wPs (l : List Ply) : List Value := (List.range (l.length + 64)).flatMap (wP l)
theorem wPs_len (l : List Ply) : (wPs l).length = (l.length + 64) * 3 := by
  rw [wPs, flat_len (wP l) 3 (wP_len l), List.length_range]
theorem wPs_get (l : List Ply) (i j : Nat) (hi : i < l.length + 64) (hj : j < 3) : (wPs l)[i * 3 + j]? = (wP l i)[j]? := by
  rw [wPs, flat_get (wP l) 3 (wP_len l) 0 _ i j (by simpa using hi) hj]
  congr 2
  simp [List.getD_eq_getElem?_getD, hi]
def WP (base : Nat) (W : World) (v : Value) (l : List Ply) : Prop := ∃ g, base ≤ g ∧ v = .slice (some ⟨g, 0, none⟩) l.length (l.length + 64) ∧ W.heap[g]? = some (.cells (wPs l).toArray 71 (0, 0))
theorem WP.up {base : Nat} {W W' : World} {v : Value} {l : List Ply} (h : WP base W v l) (u : Up W W') : WP base W' v l := by
  obtain ⟨g, h1, h2, h3⟩ := h
  exact ⟨g, h1, h2, u.heap h3⟩
theorem WP.il {base : Nat} {W : World} {v : Value} {l : List Ply} (h : WP base W v l) : PLs W v l := by
  obtain ⟨g, h1, rfl, h3⟩ := h
  refine ⟨by rw [pvs_len], some ⟨g, 0, none⟩, l.length + 64, rfl, by omega, fun hn => ⟨g, 0, rfl, fun j hj => ?_⟩⟩
  rw [Nat.zero_add]
  have : W.cell? ⟨g, j, none⟩ = (wPs l)[j]? := by simp [World.cell?, h3]
  have e : j / 3 * 3 + j % 3 = j := by rw [Nat.mul_comm]; exact Nat.div_add_mod j 3
  have h4 : j / 3 < l.length := by omega
  have h5 := wPs_get l (j / 3) (j % 3) (by omega) (by omega)
  have h6 := pvs_get l (j / 3) (j % 3) h4 (by omega)
  rw [e] at h5 h6
  rw [this, h5, h6, wP, if_pos h4]
set_option maxRecDepth 100000 in
set_option maxHeartbeats 4000000 in
theorem wideP_ (v : Value) (l : List Ply) (w : World) (hv : PLs w v l) (hn : l.length ≤ 4294967296) :
    Calls Tryd.prog 23 #[v] w (CpPost w fun W v' => WP w.heap.size W v' l) := by
  obtain ⟨iT, hiT, z0, z1, z2⟩ := info_parts infoP
  obtain ⟨Post, hPost⟩ : ∃ P : Ending → World → Prop, P = CpPost w fun W v' => WP w.heap.size W v' l := ⟨_, rfl⟩
  rw [← hPost]
  have HP : Hid (Post = CpPost w fun W v' => WP w.heap.size W v' l) := hPost
  obtain ⟨a1, k1, rfl, -, h1⟩ := pl_at hv
  obtain ⟨n, hn0⟩ : ∃ n, n = l.length := ⟨_, rfl⟩
  have HN : Hid (n = l.length) := hn0
  rw [← hn0] at hn h1 ⊢
  have H1 : Hid _ := h1
  obtain ⟨g, hg⟩ : ∃ g, g = w.heap.size := ⟨_, rfl⟩
  have HG : Hid (g = w.heap.size) := hg
  clear hPost hv h1 hn0
  go_enter Tryd.func23, Tryd.ntmps23
  go_wp2_with (at_make; refine wpList_make_full _ rfl _ _ 22 rfl w.heap.size 71 iT _ 3 Tryd.underlying22 hiT z0 z1 .i64 .i64 _ _ (n + 64) rfl rfl rfl rfl (by rw [z2]; omega) (by unfold maxLen; omega) (Nat.le_refl _) ?_; intro w1 hin hg1)
  have HI : Hid (∃ cs : List Value, w1.heap[g]? = some (.cells cs.toArray 71 (0, 0)) ∧ cs.length = (n + 64) * 3 ∧ Up w w1) := ⟨_, by rw [hg]; exact row_made hin, by have := hin.1; omega, made_up hg1⟩
  rw [← hg]
  clear hin hg1 hg
  go_wp2_with fail
  go_loopw [4] (fun s4 W => ∃ (i : Nat) (cs : List Value), i ≤ n + 64 ∧ s4 = .int .i64 i ∧ W.heap[g]? = some (.cells cs.toArray 71 (0, 0)) ∧ cs.length = (n + 64) * 3 ∧ (∀ q, q < i * 3 → cs[q]? = (wPs l)[q]?) ∧ Up w W) (fun s4 _ => n + 64 - (intOf s4).toNat)
  case atStart => obtain ⟨cs, x1, x2, x3⟩ := HI.out; exact ⟨0, cs, Nat.zero_le _, rfl, x1, x2, fun q hq => by omega, x3⟩
  case round =>
    obtain ⟨i, cs, hi, rfl, hrow, hcl, hq, hu⟩ := hrel
    clear HI
    by_cases hlt : i < n + 64
    · have hlt2 : (i : Int) < (n : Int) + 64 := by omega
      have p0 : wr.cell? ⟨g, i * 3, none⟩ = some (cs[i * 3]'(by omega)) := by simp [World.cell?, hrow]
      generalize cs[i * 3]'(by omega) = q0 at p0
      have p1 : wr.cell? ⟨g, i * 3 + 1, none⟩ = some (cs[i * 3 + 1]'(by omega)) := by simp [World.cell?, hrow]
      generalize cs[i * 3 + 1]'(by omega) = q1 at p1
      have p2 : wr.cell? ⟨g, i * 3 + 2, none⟩ = some (cs[i * 3 + 2]'(by omega)) := by simp [World.cell?, hrow]
      generalize cs[i * 3 + 2]'(by omega) = q2 at p2
      have pf : ∀ j, wr.frozen? ⟨g, j, none⟩ = false := seven_f hrow
      have HR : Hid (∀ y0 y1 y2, wP l i = [y0, y1, y2] → ∃ cs : List Value, (((wr.setCell ⟨g, i * 3, none⟩ (y0)).setCell ⟨g, i * 3 + 1, none⟩ (y1)).setCell ⟨g, i * 3 + 2, none⟩ (y2)).heap[g]? = some (.cells cs.toArray 71 (0, 0)) ∧ cs.length = (n + 64) * 3 ∧ (∀ q, q < (i + 1) * 3 → cs[q]? = (wPs l)[q]?) ∧ Up w (((wr.setCell ⟨g, i * 3, none⟩ (y0)).setCell ⟨g, i * 3 + 1, none⟩ (y1)).setCell ⟨g, i * 3 + 2, none⟩ (y2))) := fun y0 y1 y2 hy => by
        have hb : w.heap.size ≤ g := by rw [HG.out]; exact Nat.le_refl _
        have hg9 : ∀ j, j < 3 → (wPs l)[i * 3 + j]? = [y0, y1, y2][j]? := fun j hj => by rw [wPs_get l i j (by rw [← HN.out]; exact hlt) hj, hy]
        refine ⟨(((cs.set (i * 3) y0).set (i * 3 + 1) y1).set (i * 3 + 2) y2), ?_, by simpa using hcl, fun q hq' => ?_, Up.set (Up.set (Up.set hu _ _ hb) _ _ hb) _ _ hb⟩
        · have e0 := set_cells (j := i * 3) (x := y0) hrow
          have e1 := set_cells (j := i * 3 + 1) (x := y1) e0
          have e2 := set_cells (j := i * 3 + 2) (x := y2) e1
          simpa using e2
        · by_cases c2 : q = i * 3 + 2
          · subst c2; rw [List.getElem?_set_self (by first | omega | (simp; omega))]; exact (hg9 2 (by decide)).symm
          · rw [List.getElem?_set_ne (by omega)]
            by_cases c1 : q = i * 3 + 1
            · subst c1; rw [List.getElem?_set_self (by first | omega | (simp; omega))]; exact (hg9 1 (by decide)).symm
            · rw [List.getElem?_set_ne (by omega)]
              by_cases c0 : q = i * 3
              · subst c0; rw [List.getElem?_set_self (by first | omega | (simp; omega))]; exact (hg9 0 (by decide)).symm
              · rw [List.getElem?_set_ne (by omega)]
                exact hq q (by omega)
      have HUw : Hid (Up w wr) := hu
      clear hrow hcl hq hu
      by_cases hin : i < n
      · have hin2 : (i : Int) < (n : Int) := by omega
        obtain ⟨b1, o1, rfl, c1⟩ := H1.out (by omega)
        obtain ⟨x0, x1, x2⟩ := c1 _ HUw.out i hin
        have HR2 : Hid _ := HR.out (.int .i32 (l.getD i dp).life) (.int .i32 (l.getD i dp).energy) (.bool (l.getD i dp).out) (by rw [wP, if_pos (by rw [← HN.out]; exact hin)]; rfl)
        clear c1 HR
        generalize l.getD i dp = x at x0 x1 x2 HR2
        go_wp2
        go_roundw
        case rel => obtain ⟨cs, x1, x2, x3, x4⟩ := HR2.out; exact ⟨i + 1, cs, by omega, by go_num, x1, x2, x3, x4⟩
        case measure => simp [intOf]; omega
      · have hin2 : ¬ (i : Int) < (n : Int) := by omega
        have HR2 : Hid _ := HR.out (.int .i32 (wrap32 (numI i))) (.int .i32 0) (.bool false) (by rw [wP, if_neg (by rw [← HN.out]; exact hin)])
        clear HR
        go_wp2_with fail
        refine Calls.mono (num_ i (by omega) _) ?_
        rintro e w2 ⟨rfl, rfl⟩
        generalize numI i = z at HR2 ⊢
        go_wp2
        go_roundw
        case rel => obtain ⟨cs, x1, x2, x3, x4⟩ := HR2.out; exact ⟨i + 1, cs, by omega, by go_num, x1, x2, x3, x4⟩
        case measure => simp [intOf]; omega
    · have hlt2 : ¬ (i : Int) < (n : Int) + 64 := by omega
      have hn64 : (n : Int) ≤ (n : Int) + 64 := by omega
      have HF : Hid (wr.heap[g]? = some (.cells (wPs l).toArray 71 (0, 0)) ∧ Up w wr) := by
        have e : cs = wPs l := by
          apply List.ext_getElem?
          intro q
          have hnn := HN.out
          by_cases hq' : q < (n + 64) * 3
          · exact hq q (by omega)
          · rw [List.getElem?_eq_none (by omega), List.getElem?_eq_none (by rw [wPs_len]; omega)]
        exact ⟨by rw [← e]; exact hrow, hu⟩
      clear hrow hcl hq hu
      go_wp2
      rw [HP.out]
      refine ⟨_, rfl, ⟨g, by rw [HG.out]; exact Nat.le_refl _, by rw [← HN.out], HF.out.1⟩, HF.out.2⟩
def wC (l : List Crd) (i : Nat) : List Value := if i < l.length then cv (l.getD i dc) else [.int .i64 (numI i), .int .i64 0, .int .i32 0, .int .i32 0, .int .i32 0, .int .i32 0]
theorem wC_len (l : List Crd) (i : Nat) : (wC l i).length = 6 := by unfold wC; split <;> rfl
def wCs (l : List Crd) : List Value := (List.range (l.length + 64)).flatMap (wC l)
theorem wCs_len (l : List Crd) : (wCs l).length = (l.length + 64) * 6 := by
  rw [wCs, flat_len (wC l) 6 (wC_len l), List.length_range]
theorem wCs_get (l : List Crd) (i j : Nat) (hi : i < l.length + 64) (hj : j < 6) : (wCs l)[i * 6 + j]? = (wC l i)[j]? := by
  rw [wCs, flat_get (wC l) 6 (wC_len l) 0 _ i j (by simpa using hi) hj]
  congr 2
  simp [List.getD_eq_getElem?_getD, hi]
def WC (base : Nat) (W : World) (v : Value) (l : List Crd) : Prop := ∃ g, base ≤ g ∧ v = .slice (some ⟨g, 0, none⟩) l.length (l.length + 64) ∧ W.heap[g]? = some (.cells (wCs l).toArray 73 (0, 0))
theorem WC.up {base : Nat} {W W' : World} {v : Value} {l : List Crd} (h : WC base W v l) (u : Up W W') : WC base W' v l := by
  obtain ⟨g, h1, h2, h3⟩ := h
  exact ⟨g, h1, h2, u.heap h3⟩
theorem WC.il {base : Nat} {W : World} {v : Value} {l : List Crd} (h : WC base W v l) : CLs W v l := by
  obtain ⟨g, h1, rfl, h3⟩ := h
  refine ⟨by rw [cvs_len], some ⟨g, 0, none⟩, l.length + 64, rfl, by omega, fun hn => ⟨g, 0, rfl, fun j hj => ?_⟩⟩
  rw [Nat.zero_add]
  have : W.cell? ⟨g, j, none⟩ = (wCs l)[j]? := by simp [World.cell?, h3]
  have e : j / 6 * 6 + j % 6 = j := by rw [Nat.mul_comm]; exact Nat.div_add_mod j 6
  have h4 : j / 6 < l.length := by omega
  have h5 := wCs_get l (j / 6) (j % 6) (by omega) (by omega)
  have h6 := cvs_get l (j / 6) (j % 6) h4 (by omega)
  rw [e] at h5 h6
  rw [this, h5, h6, wC, if_pos h4]
set_option maxRecDepth 100000 in
set_option maxHeartbeats 4000000 in
theorem wideC_ (v : Value) (l : List Crd) (w : World) (hv : CLs w v l) (hn : l.length ≤ 4294967296) :
    Calls Tryd.prog 16 #[v] w (CpPost w fun W v' => WC w.heap.size W v' l) := by
  obtain ⟨iT, hiT, z0, z1, z2⟩ := info_parts infoC
  obtain ⟨Post, hPost⟩ : ∃ P : Ending → World → Prop, P = CpPost w fun W v' => WC w.heap.size W v' l := ⟨_, rfl⟩
  rw [← hPost]
  have HP : Hid (Post = CpPost w fun W v' => WC w.heap.size W v' l) := hPost
  obtain ⟨a1, k1, rfl, -, h1⟩ := cl_at hv
  obtain ⟨n, hn0⟩ : ∃ n, n = l.length := ⟨_, rfl⟩
  have HN : Hid (n = l.length) := hn0
  rw [← hn0] at hn h1 ⊢
  have H1 : Hid _ := h1
  obtain ⟨g, hg⟩ : ∃ g, g = w.heap.size := ⟨_, rfl⟩
  have HG : Hid (g = w.heap.size) := hg
  clear hPost hv h1 hn0
  go_enter Tryd.func16, Tryd.ntmps16
  go_wp2_with (at_make; refine wpList_make_full _ rfl _ _ 23 rfl w.heap.size 73 iT _ 6 Tryd.underlying23 hiT z0 z1 .i64 .i64 _ _ (n + 64) rfl rfl rfl rfl (by rw [z2]; omega) (by unfold maxLen; omega) (Nat.le_refl _) ?_; intro w1 hin hg1)
  have HI : Hid (∃ cs : List Value, w1.heap[g]? = some (.cells cs.toArray 73 (0, 0)) ∧ cs.length = (n + 64) * 6 ∧ Up w w1) := ⟨_, by rw [hg]; exact row_made hin, by have := hin.1; omega, made_up hg1⟩
  rw [← hg]
  clear hin hg1 hg
  go_wp2_with fail
  go_loopw [4] (fun s4 W => ∃ (i : Nat) (cs : List Value), i ≤ n + 64 ∧ s4 = .int .i64 i ∧ W.heap[g]? = some (.cells cs.toArray 73 (0, 0)) ∧ cs.length = (n + 64) * 6 ∧ (∀ q, q < i * 6 → cs[q]? = (wCs l)[q]?) ∧ Up w W) (fun s4 _ => n + 64 - (intOf s4).toNat)
  case atStart => obtain ⟨cs, x1, x2, x3⟩ := HI.out; exact ⟨0, cs, Nat.zero_le _, rfl, x1, x2, fun q hq => by omega, x3⟩
  case round =>
    obtain ⟨i, cs, hi, rfl, hrow, hcl, hq, hu⟩ := hrel
    clear HI
    by_cases hlt : i < n + 64
    · have hlt2 : (i : Int) < (n : Int) + 64 := by omega
      have p0 : wr.cell? ⟨g, i * 6, none⟩ = some (cs[i * 6]'(by omega)) := by simp [World.cell?, hrow]
      generalize cs[i * 6]'(by omega) = q0 at p0
      have p1 : wr.cell? ⟨g, i * 6 + 1, none⟩ = some (cs[i * 6 + 1]'(by omega)) := by simp [World.cell?, hrow]
      generalize cs[i * 6 + 1]'(by omega) = q1 at p1
      have p2 : wr.cell? ⟨g, i * 6 + 2, none⟩ = some (cs[i * 6 + 2]'(by omega)) := by simp [World.cell?, hrow]
      generalize cs[i * 6 + 2]'(by omega) = q2 at p2
      have p3 : wr.cell? ⟨g, i * 6 + 3, none⟩ = some (cs[i * 6 + 3]'(by omega)) := by simp [World.cell?, hrow]
      generalize cs[i * 6 + 3]'(by omega) = q3 at p3
      have p4 : wr.cell? ⟨g, i * 6 + 4, none⟩ = some (cs[i * 6 + 4]'(by omega)) := by simp [World.cell?, hrow]
      generalize cs[i * 6 + 4]'(by omega) = q4 at p4
      have p5 : wr.cell? ⟨g, i * 6 + 5, none⟩ = some (cs[i * 6 + 5]'(by omega)) := by simp [World.cell?, hrow]
      generalize cs[i * 6 + 5]'(by omega) = q5 at p5
      have pf : ∀ j, wr.frozen? ⟨g, j, none⟩ = false := seven_f hrow
      have HR : Hid (∀ y0 y1 y2 y3 y4 y5, wC l i = [y0, y1, y2, y3, y4, y5] → ∃ cs : List Value, ((((((wr.setCell ⟨g, i * 6, none⟩ (y0)).setCell ⟨g, i * 6 + 1, none⟩ (y1)).setCell ⟨g, i * 6 + 2, none⟩ (y2)).setCell ⟨g, i * 6 + 3, none⟩ (y3)).setCell ⟨g, i * 6 + 4, none⟩ (y4)).setCell ⟨g, i * 6 + 5, none⟩ (y5)).heap[g]? = some (.cells cs.toArray 73 (0, 0)) ∧ cs.length = (n + 64) * 6 ∧ (∀ q, q < (i + 1) * 6 → cs[q]? = (wCs l)[q]?) ∧ Up w ((((((wr.setCell ⟨g, i * 6, none⟩ (y0)).setCell ⟨g, i * 6 + 1, none⟩ (y1)).setCell ⟨g, i * 6 + 2, none⟩ (y2)).setCell ⟨g, i * 6 + 3, none⟩ (y3)).setCell ⟨g, i * 6 + 4, none⟩ (y4)).setCell ⟨g, i * 6 + 5, none⟩ (y5))) := fun y0 y1 y2 y3 y4 y5 hy => by
        have hb : w.heap.size ≤ g := by rw [HG.out]; exact Nat.le_refl _
        have hg9 : ∀ j, j < 6 → (wCs l)[i * 6 + j]? = [y0, y1, y2, y3, y4, y5][j]? := fun j hj => by rw [wCs_get l i j (by rw [← HN.out]; exact hlt) hj, hy]
        refine ⟨((((((cs.set (i * 6) y0).set (i * 6 + 1) y1).set (i * 6 + 2) y2).set (i * 6 + 3) y3).set (i * 6 + 4) y4).set (i * 6 + 5) y5), ?_, by simpa using hcl, fun q hq' => ?_, Up.set (Up.set (Up.set (Up.set (Up.set (Up.set hu _ _ hb) _ _ hb) _ _ hb) _ _ hb) _ _ hb) _ _ hb⟩
        · have e0 := set_cells (j := i * 6) (x := y0) hrow
          have e1 := set_cells (j := i * 6 + 1) (x := y1) e0
          have e2 := set_cells (j := i * 6 + 2) (x := y2) e1
          have e3 := set_cells (j := i * 6 + 3) (x := y3) e2
          have e4 := set_cells (j := i * 6 + 4) (x := y4) e3
          have e5 := set_cells (j := i * 6 + 5) (x := y5) e4
          simpa using e5
        · by_cases c5 : q = i * 6 + 5
          · subst c5; rw [List.getElem?_set_self (by first | omega | (simp; omega))]; exact (hg9 5 (by decide)).symm
          · rw [List.getElem?_set_ne (by omega)]
            by_cases c4 : q = i * 6 + 4
            · subst c4; rw [List.getElem?_set_self (by first | omega | (simp; omega))]; exact (hg9 4 (by decide)).symm
            · rw [List.getElem?_set_ne (by omega)]
              by_cases c3 : q = i * 6 + 3
              · subst c3; rw [List.getElem?_set_self (by first | omega | (simp; omega))]; exact (hg9 3 (by decide)).symm
              · rw [List.getElem?_set_ne (by omega)]
                by_cases c2 : q = i * 6 + 2
                · subst c2; rw [List.getElem?_set_self (by first | omega | (simp; omega))]; exact (hg9 2 (by decide)).symm
                · rw [List.getElem?_set_ne (by omega)]
                  by_cases c1 : q = i * 6 + 1
                  · subst c1; rw [List.getElem?_set_self (by first | omega | (simp; omega))]; exact (hg9 1 (by decide)).symm
                  · rw [List.getElem?_set_ne (by omega)]
                    by_cases c0 : q = i * 6
                    · subst c0; rw [List.getElem?_set_self (by first | omega | (simp; omega))]; exact (hg9 0 (by decide)).symm
                    · rw [List.getElem?_set_ne (by omega)]
                      exact hq q (by omega)
      have HUw : Hid (Up w wr) := hu
      clear hrow hcl hq hu
      by_cases hin : i < n
      · have hin2 : (i : Int) < (n : Int) := by omega
        obtain ⟨b1, o1, rfl, c1⟩ := H1.out (by omega)
        obtain ⟨x0, x1, x2, x3, x4, x5⟩ := c1 _ HUw.out i hin
        have HR2 : Hid _ := HR.out (.int .i64 (l.getD i dc).kind) (.int .i64 (l.getD i dc).owner) (.int .i32 (l.getD i dc).power) (.int .i32 (l.getD i dc).health) (.int .i32 (l.getD i dc).damage) (.int .i32 (l.getD i dc).marks) (by rw [wC, if_pos (by rw [← HN.out]; exact hin)]; rfl)
        clear c1 HR
        generalize l.getD i dc = x at x0 x1 x2 x3 x4 x5 HR2
        go_wp2
        go_roundw
        case rel => obtain ⟨cs, x1, x2, x3, x4⟩ := HR2.out; exact ⟨i + 1, cs, by omega, by go_num, x1, x2, x3, x4⟩
        case measure => simp [intOf]; omega
      · have hin2 : ¬ (i : Int) < (n : Int) := by omega
        have HR2 : Hid _ := HR.out (.int .i64 (numI i)) (.int .i64 0) (.int .i32 0) (.int .i32 0) (.int .i32 0) (.int .i32 0) (by rw [wC, if_neg (by rw [← HN.out]; exact hin)])
        clear HR
        go_wp2_with fail
        refine Calls.mono (num_ i (by omega) _) ?_
        rintro e w2 ⟨rfl, rfl⟩
        generalize numI i = z at HR2 ⊢
        go_wp2
        go_roundw
        case rel => obtain ⟨cs, x1, x2, x3, x4⟩ := HR2.out; exact ⟨i + 1, cs, by omega, by go_num, x1, x2, x3, x4⟩
        case measure => simp [intOf]; omega
    · have hlt2 : ¬ (i : Int) < (n : Int) + 64 := by omega
      have hn64 : (n : Int) ≤ (n : Int) + 64 := by omega
      have HF : Hid (wr.heap[g]? = some (.cells (wCs l).toArray 73 (0, 0)) ∧ Up w wr) := by
        have e : cs = wCs l := by
          apply List.ext_getElem?
          intro q
          have hnn := HN.out
          by_cases hq' : q < (n + 64) * 6
          · exact hq q (by omega)
          · rw [List.getElem?_eq_none (by omega), List.getElem?_eq_none (by rw [wCs_len]; omega)]
        exact ⟨by rw [← e]; exact hrow, hu⟩
      clear hrow hcl hq hu
      go_wp2
      rw [HP.out]
      refine ⟨_, rfl, ⟨g, by rw [HG.out]; exact Nat.le_refl _, by rw [← HN.out], HF.out.1⟩, HF.out.2⟩
end ST
end Go.Proofs.YtndkpfkgcaebmaaDoor
/-
  Lists of lists with marks behind them; a state with marks behind its lists.
-/
namespace Go.Proofs.YtndkpfkgcaebmaaDoor
open Go.RowKit
attribute [local go_sem ↓] Go.wp_at_zero Go.wp_at_succ

namespace ST
/- the row that lies in cell i: a list with marks behind it; behind the list a mark of its own -/
def WRow (base : Nat) (W : World) (x : Value) (zs : List (List Int)) (i : Nat) : Prop := if i < zs.length then WI base W x (zs.getD i []) else ∃ g, base ≤ g ∧ x = .slice (some ⟨g, 0, none⟩) 1 1 ∧ W.heap[g]? = some (.cells #[.int .i64 (numI i)] 3 (0, 0))
theorem WRow.keep {base : Nat} {W W' : World} {x : Value} {zs : List (List Int)} {i : Nat} (h : WRow base W x zs i) (k : ∀ g cs, base ≤ g → W.heap[g]? = some (.cells cs 3 (0, 0)) → W'.heap[g]? = some (.cells cs 3 (0, 0))) : WRow base W' x zs i := by
  unfold WRow at h ⊢
  split
  · rename_i hi
    rw [if_pos hi] at h
    obtain ⟨g, h1, h2, h3⟩ := h
    exact ⟨g, h1, h2, k g _ h1 h3⟩
  · rename_i hi
    rw [if_neg hi] at h
    obtain ⟨g, h1, h2, h3⟩ := h
    exact ⟨g, h1, h2, k g _ h1 h3⟩
def WZ (base : Nat) (W : World) (v : Value) (zs : List (List Int)) : Prop := ∃ g vs, base ≤ g ∧ v = .slice (some ⟨g, 0, none⟩) zs.length (zs.length + 64) ∧ W.heap[g]? = some (.cells (vs : List Value).toArray 74 (0, 0)) ∧ vs.length = zs.length + 64 ∧ ∀ i, i < zs.length + 64 → WRow base W (vs.getD i nl) zs i
theorem WZ.up {base : Nat} {W W' : World} {v : Value} {zs : List (List Int)} (h : WZ base W v zs) (u : Up W W') : WZ base W' v zs := by
  obtain ⟨g, vs, h1, h2, h3, h4, h5⟩ := h
  exact ⟨g, vs, h1, h2, u.heap h3, h4, fun i hi => (h5 i hi).keep (fun g cs _ hg => u.heap hg)⟩
theorem WZ.zl {base : Nat} {W : World} {v : Value} {zs : List (List Int)} (h : WZ base W v zs) : ZL W v zs := by
  obtain ⟨g, vs, h1, rfl, h3, h4, h5⟩ := h
  refine ⟨vs.take zs.length, ⟨by rw [List.length_take]; omega, some ⟨g, 0, none⟩, zs.length + 64, rfl, by omega, fun hn => ⟨g, 0, rfl, fun j hj => ?_⟩⟩, fun i hi => ?_⟩
  · rw [Nat.zero_add, List.getElem?_take, if_pos (by omega)]
    simp [World.cell?, h3]
  · have h6 := h5 i (by omega)
    rw [WRow, if_pos hi] at h6
    have e : (vs.take zs.length).getD i nl = vs.getD i nl := by rw [List.getD_eq_getElem?_getD, List.getElem?_take, if_pos hi, ← List.getD_eq_getElem?_getD]
    rw [e]
    exact h6.il
def WS (base : Nat) (W : World) (v : Value) (s : Stt) : Prop := ∃ vp vc vz, v = sv vp vc vz s ∧ WP base W vp s.ps ∧ WC base W vc s.cs ∧ WZ base W vz s.zs
theorem WS.sl {base : Nat} {W : World} {v : Value} {s : Stt} (h : WS base W v s) : StL W v s := by
  obtain ⟨vp, vc, vz, hv, h1, h2, h3⟩ := h
  exact ⟨vp, vc, vz, hv, h1.il, h2.il, h3.zl⟩
theorem WS.up {base : Nat} {W W' : World} {v : Value} {s : Stt} (h : WS base W v s) (u : Up W W') : WS base W' v s := by
  obtain ⟨vp, vc, vz, hv, h1, h2, h3⟩ := h
  exact ⟨vp, vc, vz, hv, h1.up u, h2.up u, h3.up u⟩
end ST
end Go.Proofs.YtndkpfkgcaebmaaDoor
/-
  WideRows, WideState.
-/
namespace Go.Proofs.YtndkpfkgcaebmaaDoor
open Go.RowKit
attribute [local go_sem ↓] Go.wp_at_zero Go.wp_at_succ

namespace ST
theorem WI.less {b b' : Nat} {W : World} {v : Value} {l : List Int} (h : WI b W v l) (hb : b' ≤ b) : WI b' W v l := by
  obtain ⟨g, h1, h2⟩ := h
  exact ⟨g, by omega, h2⟩
def WRs (base : Nat) (w W : World) (g n : Nat) (zs : List (List Int)) (i : Nat) (cs : List Value) : Prop := W.heap[g]? = some (.cells cs.toArray 74 (0, 0)) ∧ cs.length = n + 64 ∧ (∀ q, q < i → WRow base W (cs.getD q nl) zs q) ∧ Up w W
theorem WRs.put {base : Nat} {w W W1 : World} {g n : Nat} {zs : List (List Int)} {i : Nat} {cs : List Value} {x : Value} (h : WRs base w W g n zs i cs) (u : Up W W1) (hi : i < n + 64) (hx : WRow base W1 x zs i) (hg : w.heap.size ≤ g) : WRs base w (W1.setCell ⟨g, i, none⟩ x) g n zs (i + 1) (cs.set i x) := by
  obtain ⟨h1, h2, h3, h4⟩ := h
  have k1 := u.heap h1
  have kp : ∀ g' cs', base ≤ g' → W1.heap[g']? = some (.cells cs' 3 (0, 0)) → (W1.setCell ⟨g, i, none⟩ x).heap[g']? = some (.cells cs' 3 (0, 0)) := fun g' cs' _ h' => set_other h' (heap_ne h' k1 (by decide))
  refine ⟨?_, by simpa using h2, fun q hq => ?_, Up.set (h4.trans u) _ _ hg⟩
  · have := set_cells (j := i) (x := x) k1
    simpa using this
  · by_cases e : q = i
    · subst e
      rw [List.getD_eq_getElem?_getD, List.getElem?_set_self (by omega)]
      exact hx.keep kp
    · rw [List.getD_eq_getElem?_getD, List.getElem?_set_ne (fun h => e h.symm), ← List.getD_eq_getElem?_getD]
      exact ((h3 q (by omega)).keep (fun g' cs' _ h' => u.heap h')).keep kp
set_option maxRecDepth 100000 in
set_option maxHeartbeats 4000000 in
theorem wideRows_ (v : Value) (zs : List (List Int)) (w : World) (hv : ZL w v zs) (hn : zs.length ≤ 4294967296) (hl : ∀ r, r < zs.length → (zs.getD r []).length ≤ 4294967296) :
    Calls Tryd.prog 24 #[v] w (CpPost w fun W v' => WZ w.heap.size W v' zs) := by
  obtain ⟨iT, hiT, z0, z1, z2⟩ := info_parts infoR
  obtain ⟨Post, hPost⟩ : ∃ P : Ending → World → Prop, P = CpPost w fun W v' => WZ w.heap.size W v' zs := ⟨_, rfl⟩
  rw [← hPost]
  have HP : Hid (Post = CpPost w fun W v' => WZ w.heap.size W v' zs) := hPost
  obtain ⟨a1, k1, rfl, -, h1⟩ := zl_at hv
  obtain ⟨n, hn0⟩ : ∃ n, n = zs.length := ⟨_, rfl⟩
  have HN : Hid (n = zs.length) := hn0
  rw [← hn0] at hn h1 hl ⊢
  have H1 : Hid _ := h1
  have HL : Hid _ := hl
  obtain ⟨g, hg⟩ : ∃ g, g = w.heap.size := ⟨_, rfl⟩
  have HG : Hid (g = w.heap.size) := hg
  clear hPost hv h1 hn0 hl
  go_enter Tryd.func24, Tryd.ntmps24
  go_wp2_with (at_make; refine wpList_make_full _ rfl _ _ 24 rfl w.heap.size 74 iT _ 1 Tryd.underlying24 hiT z0 z1 .i64 .i64 _ _ (n + 64) rfl rfl rfl rfl (by rw [z2]; omega) (by unfold maxLen; omega) (Nat.le_refl _) ?_; intro w1 hin hg1)
  have HI : Hid (∃ cs, WRs g w w1 g n zs 0 cs) := ⟨_, by rw [hg]; exact row_made hin, by have := hin.1; omega, fun q hq => by omega, made_up hg1⟩
  rw [← hg]
  clear hin hg1 hg
  go_wp2_with fail
  go_loopw [4] (fun s4 W => ∃ (i : Nat) (cs : List Value), i ≤ n + 64 ∧ s4 = .int .i64 i ∧ WRs g w W g n zs i cs) (fun s4 _ => n + 64 - (intOf s4).toNat)
  case atStart => obtain ⟨cs, h⟩ := HI.out; exact ⟨0, cs, Nat.zero_le _, rfl, h⟩
  case round =>
    obtain ⟨i, cs, hi, rfl, hw⟩ := hrel
    clear HI
    have HW : Hid (WRs g w wr g n zs i cs) := hw
    have hgw : w.heap.size ≤ g := by rw [HG.out]; exact Nat.le_refl _
    have hgs : g ≤ wr.heap.size := by have := (Array.getElem?_eq_some_iff.1 hw.1).1; omega
    by_cases hlt : i < n + 64
    · have hlt2 : (i : Int) < (n : Int) + 64 := by omega
      have HCe : Hid (∀ W, Up wr W → (∃ z, W.cell? ⟨g, i, none⟩ = some z) ∧ W.frozen? ⟨g, i, none⟩ = false) := fun W u => by
        have h1 := u.heap hw.1
        have h2 := hw.2.1
        exact ⟨⟨cs[i]'(by omega), by simp [World.cell?, h1]⟩, seven_f h1 i⟩
      by_cases hin : i < n
      · have hin2 : (i : Int) < (n : Int) := by omega
        obtain ⟨b1, o1, rfl, c1⟩ := H1.out (by omega)
        obtain ⟨ra, rc, hcell, hil⟩ := c1 i hin
        have x1 := hcell wr hw.2.2.2
        have HK : Hid _ := wideInts_ _ (zs.getD i []) wr (hil.up hw.2.2.2) (HL.out i hin)
        clear c1 hcell hil hw
        go_wp2_with fail
        refine Calls.mono HK.out ?_
        rintro e w2 ⟨x, rfl, hx, u2⟩
        have HX : Hid (WI g w2 x (zs.getD i [])) := hx.less hgs
        have HU2 : Hid (Up wr w2) := u2
        obtain ⟨xg, -, hxv, -⟩ := id hx
        obtain ⟨⟨zc, zcell⟩, zf⟩ := HCe.out w2 u2
        have HF : Hid (WRs g w (w2.setCell ⟨g, i, none⟩ x) g n zs (i + 1) (cs.set i x)) := WRs.put HW.out u2 hlt (by rw [WRow, if_pos (by rw [← HN.out]; exact hin)]; exact HX.out) hgw
        clear hx u2 HK HX
        subst hxv
        go_wp2
        go_roundw
        case rel => exact ⟨i + 1, _, by omega, by go_num, HF.out⟩
        case measure => simp [intOf]; omega
      · have hin2 : ¬ (i : Int) < (n : Int) := by omega
        clear hw
        go_wp2_with fail
        refine Calls.mono (num_ i (by omega) _) ?_
        rintro e w2 ⟨rfl, rfl⟩
        have HF : Hid (WRs g w ((w2.alloc (.cells #[.int .i64 (numI i)] 3)).setCell ⟨g, i, none⟩ (.slice (some ⟨w2.heap.size, 0, none⟩) 1 1)) g n zs (i + 1) (cs.set i (.slice (some ⟨w2.heap.size, 0, none⟩) 1 1))) := WRs.put HW.out ((Up.refl _).alloc _) hlt (by rw [WRow, if_neg (by rw [← HN.out]; exact hin)]; exact ⟨w2.heap.size, hgs, rfl, heap_alloc_new w2 _⟩) hgw
        have zc : ∀ o, (w2.alloc o).frozen? ⟨g, i, none⟩ = false := fun o => (HCe.out _ ((Up.refl _).alloc o)).2
        obtain ⟨⟨z9, z8⟩, -⟩ := HCe.out w2 (Up.refl _)
        have zd : ∀ o, (w2.alloc o).cell? ⟨g, i, none⟩ = some z9 := fun o => ((Up.refl w2).alloc o).cell z8
        generalize numI i = z at HF ⊢
        go_wp2
        go_roundw
        case rel => exact ⟨i + 1, _, by omega, by go_num, HF.out⟩
        case measure => simp [intOf]; omega
    · have hlt2 : ¬ (i : Int) < (n : Int) + 64 := by omega
      have hn64 : (n : Int) ≤ (n : Int) + 64 := by omega
      clear hw
      go_wp2
      rw [HP.out]
      have hnn := HN.out
      exact ⟨_, rfl, ⟨g, cs, hgw, by rw [← HN.out], HW.out.1, by rw [← hnn]; exact HW.out.2.1, fun j hj => by rw [← HG.out]; exact HW.out.2.2.1 j (by omega)⟩, HW.out.2.2.2⟩
end ST
end Go.Proofs.YtndkpfkgcaebmaaDoor
/-
  WideState.
-/
namespace Go.Proofs.YtndkpfkgcaebmaaDoor
open Go.RowKit
attribute [local go_sem ↓] Go.wp_at_zero Go.wp_at_succ

namespace ST
theorem WP.less {b b' : Nat} {W : World} {v : Value} {l : List Ply} (h : WP b W v l) (hb : b' ≤ b) : WP b' W v l := by
  obtain ⟨g, h1, h2⟩ := h
  exact ⟨g, by omega, h2⟩
theorem WP.val {b : Nat} {W : World} {v : Value} {l : List Ply} (h : WP b W v l) : ∃ a c, v = .slice a l.length c := by
  obtain ⟨g, h1, h2, -⟩ := h
  exact ⟨_, _, h2⟩
theorem WP.set {b k j : Nat} {W : World} {v u : Value} {l : List Ply} (h : WP b W v l) (hk : k < b) : WP b (W.setCell ⟨k, j, none⟩ u) v l := by
  obtain ⟨g, h1, h2, h3⟩ := h
  exact ⟨g, h1, h2, set_other h3 (by omega)⟩
theorem WC.less {b b' : Nat} {W : World} {v : Value} {l : List Crd} (h : WC b W v l) (hb : b' ≤ b) : WC b' W v l := by
  obtain ⟨g, h1, h2⟩ := h
  exact ⟨g, by omega, h2⟩
theorem WC.val {b : Nat} {W : World} {v : Value} {l : List Crd} (h : WC b W v l) : ∃ a c, v = .slice a l.length c := by
  obtain ⟨g, h1, h2, -⟩ := h
  exact ⟨_, _, h2⟩
theorem WC.set {b k j : Nat} {W : World} {v u : Value} {l : List Crd} (h : WC b W v l) (hk : k < b) : WC b (W.setCell ⟨k, j, none⟩ u) v l := by
  obtain ⟨g, h1, h2, h3⟩ := h
  exact ⟨g, h1, h2, set_other h3 (by omega)⟩
theorem WRow.less {b b' : Nat} {W : World} {x : Value} {zs : List (List Int)} {i : Nat} (h : WRow b W x zs i) (hb : b' ≤ b) : WRow b' W x zs i := by
  unfold WRow at h ⊢
  split
  · rename_i hi
    rw [if_pos hi] at h
    exact h.less hb
  · rename_i hi
    rw [if_neg hi] at h
    obtain ⟨g, h1, h2⟩ := h
    exact ⟨g, by omega, h2⟩
theorem WZ.less {b b' : Nat} {W : World} {v : Value} {l : List (List Int)} (h : WZ b W v l) (hb : b' ≤ b) : WZ b' W v l := by
  obtain ⟨g, vs, h1, h2, h3, h4, h5⟩ := h
  exact ⟨g, vs, by omega, h2, h3, h4, fun i hi => (h5 i hi).less hb⟩
theorem WZ.val {b : Nat} {W : World} {v : Value} {l : List (List Int)} (h : WZ b W v l) : ∃ a c, v = .slice a l.length c := by
  obtain ⟨g, vs, h1, h2, -⟩ := h
  exact ⟨_, _, h2⟩
theorem WZ.set {b k j : Nat} {W : World} {v u : Value} {l : List (List Int)} (h : WZ b W v l) (hk : k < b) : WZ b (W.setCell ⟨k, j, none⟩ u) v l := by
  obtain ⟨g, vs, h1, h2, h3, h4, h5⟩ := h
  exact ⟨g, vs, h1, h2, set_other h3 (by omega), h4, fun i hi => (h5 i hi).keep (fun g' cs' hb h' => set_other h' (by omega))⟩
theorem WS.set {b k j : Nat} {W : World} {v u : Value} {s : Stt} (h : WS b W v s) (hk : k < b) : WS b (W.setCell ⟨k, j, none⟩ u) v s := by
  obtain ⟨vp, vc, vz, hv, h1, h2, h3⟩ := h
  exact ⟨vp, vc, vz, hv, h1.set hk, h2.set hk, h3.set hk⟩
theorem WS.less {b b' : Nat} {W : World} {v : Value} {s : Stt} (h : WS b W v s) (hb : b' ≤ b) : WS b' W v s := by
  obtain ⟨vp, vc, vz, hv, h1, h2, h3⟩ := h
  exact ⟨vp, vc, vz, hv, h1.less hb, h2.less hb, h3.less hb⟩
set_option maxRecDepth 100000 in
set_option maxHeartbeats 4000000 in
theorem wideState_ (v : Value) (s : Stt) (w : World) (hs : StL w v s) (hsm : Small s) :
    Calls Tryd.prog 6 #[v] w (CpPost w fun W v' => WS w.heap.size W v' s) := by
  obtain ⟨Post, hPost⟩ : ∃ P : Ending → World → Prop, P = CpPost w fun W v' => WS w.heap.size W v' s := ⟨_, rfl⟩
  rw [← hPost]
  have HP : Hid (Post = CpPost w fun W v' => WS w.heap.size W v' s) := hPost
  obtain ⟨vp, vc, vz, rfl, h1, h2, h3⟩ := hs
  have H1 : Hid _ := h1
  have H2 : Hid _ := h2
  have H3 : Hid _ := h3
  obtain ⟨a1, k1, rfl, -, -⟩ := lc_at h1
  obtain ⟨a2, k2, rfl, -, -⟩ := lc_at h2
  obtain ⟨a3, k3, rfl, -, -⟩ := zl_at h3
  have HM : Hid (Small s) := hsm
  clear hPost h1 h2 h3 hsm
  have HSV : Hid (∀ x y z, sv x y z s = .agg #[x, y, z, .int .i32 s.turn, .int .i64 s.whose, .int .i8 s.fin, .int .i64 s.winner]) := fun _ _ _ => rfl
  unfold sv
  generalize s.turn = tu at HSV ⊢
  generalize s.whose = wo at HSV ⊢
  generalize s.fin = fi at HSV ⊢
  generalize s.winner = wi at HSV ⊢
  go_enter Tryd.func6, Tryd.ntmps6
  go_wp2_with fail
  obtain ⟨W1, hW1⟩ : ∃ W, W = (w.alloc (.cells #[.slice a1 s.ps.length k1, .slice a2 s.cs.length k2, .slice a3 s.zs.length k3, .int .i32 tu, .int .i64 wo, .int .i8 fi, .int .i64 wi] 27)).alloc (.cells #[.slice none 0 0, .slice none 0 0, .slice none 0 0, .int .i32 0, .int .i64 0, .int .i8 0, .int .i64 0] 27) := ⟨_, rfl⟩
  rw [← hW1]
  obtain ⟨b0, hb0⟩ : ∃ b, b = w.heap.size := ⟨_, rfl⟩
  rw [← hb0]
  obtain ⟨g0, g1, gs, gu⟩ := two_blocks w #[.slice a1 s.ps.length k1, .slice a2 s.cs.length k2, .slice a3 s.zs.length k3, .int .i32 tu, .int .i64 wo, .int .i8 fi, .int .i64 wi] #[.slice none 0 0, .slice none 0 0, .slice none 0 0, .int .i32 0, .int .i64 0, .int .i8 0, .int .i64 0] 27
  rw [← hW1] at g0 g1 gs gu
  rw [← hb0] at g0 g1 gs
  have HB : Hid (b0 = w.heap.size) := hb0
  clear hW1 hb0
  refine Calls.mono (wideP_ _ s.ps W1 (PLs.up H1.out gu) HM.out.1) ?_
  rintro e w1 ⟨x1, rfl, d1, u1⟩
  have HG : Hid (w1.heap[b0]? = _ ∧ w1.heap[b0 + 1]? = _ ∧ b0 + 2 ≤ w1.heap.size ∧ Up w w1 ∧ WP (b0 + 2) w1 x1 s.ps) := ⟨u1.heap g0, u1.heap g1, by have := u1.size; omega, gu.trans u1, by rw [gs] at d1; exact d1⟩
  obtain ⟨xa, xc, hx1⟩ := WP.val d1
  subst hx1
  clear d1 u1 g0 g1 gs gu
  obtain ⟨y0, y1, y2, y3, y4, y5, y6⟩ := seven_cells HG.out.1
  have yf := seven_f HG.out.1
  have HG2 : Hid ((w1.setCell ⟨b0, 0, none⟩ (.slice xa s.ps.length xc)).heap[b0]? = some (.cells #[.slice xa s.ps.length xc, .slice a2 s.cs.length k2, .slice a3 s.zs.length k3, .int .i32 tu, .int .i64 wo, .int .i8 fi, .int .i64 wi] 27 (0, 0)) ∧ (w1.setCell ⟨b0, 0, none⟩ (.slice xa s.ps.length xc)).heap[b0 + 1]? = some (.cells #[.slice none 0 0, .slice none 0 0, .slice none 0 0, .int .i32 0, .int .i64 0, .int .i8 0, .int .i64 0] 27 (0, 0)) ∧ b0 + 2 ≤ (w1.setCell ⟨b0, 0, none⟩ (.slice xa s.ps.length xc)).heap.size ∧ Up w (w1.setCell ⟨b0, 0, none⟩ (.slice xa s.ps.length xc)) ∧ WP (b0 + 2) (w1.setCell ⟨b0, 0, none⟩ (.slice xa s.ps.length xc)) (.slice xa s.ps.length xc) s.ps) :=
    ⟨set_cells HG.out.1, set_other HG.out.2.1 (by omega), by simpa using HG.out.2.2.1, Up.set HG.out.2.2.2.1 _ _ (by rw [← HB.out]; exact Nat.le_refl _), (HG.out.2.2.2.2).set (by omega)⟩
  clear HG
  go_wp2_with fail
  obtain ⟨W3, hW3⟩ : ∃ W, W = w1.setCell ⟨b0, 0, none⟩ (.slice xa s.ps.length xc) := ⟨_, rfl⟩
  rw [← hW3] at HG2 ⊢
  clear hW3
  refine Calls.mono (wideC_ _ s.cs W3 (CLs.up H2.out HG2.out.2.2.2.1) HM.out.2.1) ?_
  rintro e w4 ⟨x2, rfl, d2, u2⟩
  have HG : Hid (w4.heap[b0]? = _ ∧ w4.heap[b0 + 1]? = _ ∧ b0 + 2 ≤ w4.heap.size ∧ Up w w4 ∧ WP (b0 + 2) w4 (.slice xa s.ps.length xc) s.ps ∧ WC (b0 + 2) w4 x2 s.cs) := ⟨u2.heap HG2.out.1, u2.heap HG2.out.2.1, by have := u2.size; have := HG2.out.2.2.1; omega, HG2.out.2.2.2.1.trans u2, (HG2.out.2.2.2.2).up u2, d2.less HG2.out.2.2.1⟩
  obtain ⟨xa2, xc2, hx2⟩ := WC.val d2
  subst hx2
  clear d2 u2 HG2 y0 y1 y2 y3 y4 y5 y6 yf
  obtain ⟨y0, y1, y2, y3, y4, y5, y6⟩ := seven_cells HG.out.1
  have yf := seven_f HG.out.1
  have HG2 : Hid ((w4.setCell ⟨b0, 1, none⟩ (.slice xa2 s.cs.length xc2)).heap[b0]? = some (.cells #[.slice xa s.ps.length xc, .slice xa2 s.cs.length xc2, .slice a3 s.zs.length k3, .int .i32 tu, .int .i64 wo, .int .i8 fi, .int .i64 wi] 27 (0, 0)) ∧ (w4.setCell ⟨b0, 1, none⟩ (.slice xa2 s.cs.length xc2)).heap[b0 + 1]? = some (.cells #[.slice none 0 0, .slice none 0 0, .slice none 0 0, .int .i32 0, .int .i64 0, .int .i8 0, .int .i64 0] 27 (0, 0)) ∧ b0 + 2 ≤ (w4.setCell ⟨b0, 1, none⟩ (.slice xa2 s.cs.length xc2)).heap.size ∧ Up w (w4.setCell ⟨b0, 1, none⟩ (.slice xa2 s.cs.length xc2)) ∧ WP (b0 + 2) (w4.setCell ⟨b0, 1, none⟩ (.slice xa2 s.cs.length xc2)) (.slice xa s.ps.length xc) s.ps ∧ WC (b0 + 2) (w4.setCell ⟨b0, 1, none⟩ (.slice xa2 s.cs.length xc2)) (.slice xa2 s.cs.length xc2) s.cs) :=
    ⟨set_cells HG.out.1, set_other HG.out.2.1 (by omega), by simpa using HG.out.2.2.1, Up.set HG.out.2.2.2.1 _ _ (by rw [← HB.out]; exact Nat.le_refl _), (HG.out.2.2.2.2.1).set (by omega), (HG.out.2.2.2.2.2).set (by omega)⟩
  clear HG
  go_wp2_with fail
  obtain ⟨W5, hW5⟩ : ∃ W, W = w4.setCell ⟨b0, 1, none⟩ (.slice xa2 s.cs.length xc2) := ⟨_, rfl⟩
  rw [← hW5] at HG2 ⊢
  clear hW5
  refine Calls.mono (wideRows_ _ s.zs W5 (ZL.up H3.out HG2.out.2.2.2.1) HM.out.2.2.1 HM.out.2.2.2) ?_
  rintro e w6 ⟨x3, rfl, d3, u3⟩
  have HG : Hid (w6.heap[b0]? = _ ∧ w6.heap[b0 + 1]? = _ ∧ b0 + 2 ≤ w6.heap.size ∧ Up w w6 ∧ WP (b0 + 2) w6 (.slice xa s.ps.length xc) s.ps ∧ WC (b0 + 2) w6 (.slice xa2 s.cs.length xc2) s.cs ∧ WZ (b0 + 2) w6 x3 s.zs) := ⟨u3.heap HG2.out.1, u3.heap HG2.out.2.1, by have := u3.size; have := HG2.out.2.2.1; omega, HG2.out.2.2.2.1.trans u3, (HG2.out.2.2.2.2.1).up u3, (HG2.out.2.2.2.2.2).up u3, d3.less HG2.out.2.2.1⟩
  obtain ⟨xa3, xc3, hx3⟩ : ∃ p q, x3 = .slice p s.zs.length q := by
    exact WZ.val d3
  subst hx3
  clear d3 u3 HG2 y0 y1 y2 y3 y4 y5 y6 yf
  obtain ⟨y0, y1, y2, y3, y4, y5, y6⟩ := seven_cells HG.out.1
  have yf := seven_f HG.out.1
  have HG2 : Hid ((w6.setCell ⟨b0, 2, none⟩ (.slice xa3 s.zs.length xc3)).heap[b0]? = some (.cells #[.slice xa s.ps.length xc, .slice xa2 s.cs.length xc2, .slice xa3 s.zs.length xc3, .int .i32 tu, .int .i64 wo, .int .i8 fi, .int .i64 wi] 27 (0, 0)) ∧ (w6.setCell ⟨b0, 2, none⟩ (.slice xa3 s.zs.length xc3)).heap[b0 + 1]? = some (.cells #[.slice none 0 0, .slice none 0 0, .slice none 0 0, .int .i32 0, .int .i64 0, .int .i8 0, .int .i64 0] 27 (0, 0)) ∧ Up w (w6.setCell ⟨b0, 2, none⟩ (.slice xa3 s.zs.length xc3)) ∧ WS (b0 + 2) (w6.setCell ⟨b0, 2, none⟩ (.slice xa3 s.zs.length xc3)) (.agg #[.slice xa s.ps.length xc, .slice xa2 s.cs.length xc2, .slice xa3 s.zs.length xc3, .int .i32 tu, .int .i64 wo, .int .i8 fi, .int .i64 wi]) s) :=
    ⟨set_cells HG.out.1, set_other HG.out.2.1 (by omega), Up.set HG.out.2.2.2.1 _ _ (by rw [← HB.out]; exact Nat.le_refl _), _, _, _, (HSV.out _ _ _).symm, (HG.out.2.2.2.2.1).set (by omega), (HG.out.2.2.2.2.2.1).set (by omega), HG.out.2.2.2.2.2.2.set (by omega)⟩
  clear HG
  obtain ⟨W7, hW7⟩ : ∃ W, W = w6.setCell ⟨b0, 2, none⟩ (.slice xa3 s.zs.length xc3) := ⟨_, rfl⟩
  rw [← hW7] at HG2
  have HW7 : Hid (W7 = _) := hW7
  obtain ⟨q0, q1, q2, q3, q4, q5, q6⟩ := seven_cells HG2.out.1
  obtain ⟨r0, r1, r2, r3, r4, r5, r6⟩ := seven_cells HG2.out.2.1
  have rf := seven_f HG2.out.2.1
  rw [hW7] at q0 q1 q2 q3 q4 q5 q6 r0 r1 r2 r3 r4 r5 r6 rf
  clear hW7
  go_wp2_with fail
  rw [← HW7.out]
  obtain ⟨p0, p1, p2, p3, p4, p5, p6⟩ := seven_cells (seven_set (x0 := .slice xa s.ps.length xc) (x1 := .slice xa2 s.cs.length xc2) (x2 := .slice xa3 s.zs.length xc3) (x3 := .int .i32 tu) (x4 := .int .i64 wo) (x5 := .int .i8 fi) (x6 := .int .i64 wi) HG2.out.2.1)
  have hs1 : b0 + 1 < b0 + 2 := by omega
  have hb1 : w.heap.size ≤ b0 + 1 := by rw [← HB.out]; omega
  refine bodyPost_ret (v := .agg #[.slice xa s.ps.length xc, .slice xa2 s.cs.length xc2, .slice xa3 s.zs.length xc3, .int .i32 tu, .int .i64 wo, .int .i8 fi, .int .i64 wi]) (by simp [results, Tryd.results6, go_sem, p0, p1, p2, p3, p4, p5, p6]) rfl ?_
  rw [HP.out]
  refine ⟨_, rfl, ?_, ?_⟩
  · exact ((((((((HG2.out.2.2.2.set hs1).set hs1).set hs1).set hs1).set hs1).set hs1).set hs1)).less (by rw [HB.out]; omega)
  · exact ((((((((HG2.out.2.2.1.set _ _ hb1).set _ _ hb1).set _ _ hb1).set _ _ hb1).set _ _ hb1).set _ _ hb1).set _ _ hb1))
end ST
end Go.Proofs.YtndkpfkgcaebmaaDoor
/-
  States of whose lists each lies in a block of its own.
-/
namespace Go.Proofs.YtndkpfkgcaebmaaDoor
open Go.RowKit
namespace ST

def RA (n : Nat) (vs : List Value) : Prop := ∀ p q g, p < n → q < n → p ≠ q → (vs.getD p nl).ownBlock = some g → (vs.getD q nl).ownBlock ≠ some g
theorem RA.nil (vs : List Value) : RA 0 vs := fun p _ _ hp => absurd hp (Nat.not_lt_zero p)
/- one more: its block is none of those before -/
theorem RA.put {i : Nat} {vs : List Value} {x : Value} (h : RA i vs) (hi : i < vs.length) (hx : ∀ p g, p < i → (vs.getD p nl).ownBlock = some g → x.ownBlock ≠ some g) : RA (i + 1) (vs.set i x) := by
  have e1 : (vs.set i x).getD i nl = x := by rw [List.getD_eq_getElem?_getD, List.getElem?_set_self hi]; rfl
  have e2 : ∀ p, p ≠ i → (vs.set i x).getD p nl = vs.getD p nl := fun p hp => by rw [List.getD_eq_getElem?_getD, List.getElem?_set_ne (fun h => hp h.symm), ← List.getD_eq_getElem?_getD]
  intro p q g hp hq hpq h1 h2
  by_cases ep : p = i
  · subst ep
    rw [e1] at h1
    rw [e2 q (fun h => hpq h.symm)] at h2
    exact hx q g (by omega) h2 h1
  · rw [e2 p ep] at h1
    by_cases eq : q = i
    · subst eq
      rw [e1] at h2
      exact hx p g (by omega) h1 h2
    · rw [e2 q eq] at h2
      exact h p q g (by omega) (by omega) hpq h1 h2
def SOA (base : Nat) (W : World) (v : Value) (s : Stt) : Prop := ∃ vp vc vz, v = sv vp vc vz s ∧ PO base W vp s.ps ∧ CO base W vc s.cs ∧ ∃ vs, W.ownsRow base 74 1 vz s.zs.length vs ∧ (∀ i, i < s.zs.length → IRow base W (vs.getD i nl) (s.zs.getD i [])) ∧ RA s.zs.length vs
theorem SOA.so {base : Nat} {W : World} {v : Value} {s : Stt} (h : SOA base W v s) : SO base W v s := by
  obtain ⟨vp, vc, vz, hv, h1, h2, vs, h3, h4, -⟩ := h
  exact ⟨vp, vc, vz, hv, h1, h2, vs, h3, h4⟩
theorem SOA.up {base : Nat} {W W' : World} {v : Value} {s : Stt} (h : SOA base W v s) (u : Up W W') : SOA base W' v s := by
  obtain ⟨vp, vc, vz, hv, h1, h2, vs, h3, h4, h5⟩ := h
  exact ⟨vp, vc, vz, hv, row_up h1 u, row_up h2 u, vs, row_up h3 u, fun i hi => row_up (h4 i hi) u, h5⟩
def WZA (base : Nat) (W : World) (v : Value) (zs : List (List Int)) : Prop := ∃ g vs, base ≤ g ∧ v = .slice (some ⟨g, 0, none⟩) zs.length (zs.length + 64) ∧ W.heap[g]? = some (.cells (vs : List Value).toArray 74 (0, 0)) ∧ vs.length = zs.length + 64 ∧ (∀ i, i < zs.length + 64 → WRow base W (vs.getD i nl) zs i) ∧ RA zs.length vs
theorem WZA.wz {base : Nat} {W : World} {v : Value} {zs : List (List Int)} (h : WZA base W v zs) : WZ base W v zs := by
  obtain ⟨g, vs, h1, h2, h3, h4, h5, -⟩ := h
  exact ⟨g, vs, h1, h2, h3, h4, h5⟩
theorem WZA.up {base : Nat} {W W' : World} {v : Value} {zs : List (List Int)} (h : WZA base W v zs) (u : Up W W') : WZA base W' v zs := by
  obtain ⟨g, vs, h1, h2, h3, h4, h5, h6⟩ := h
  exact ⟨g, vs, h1, h2, u.heap h3, h4, fun i hi => (h5 i hi).keep (fun _ _ _ hg => u.heap hg), h6⟩
theorem WZA.less {b b' : Nat} {W : World} {v : Value} {l : List (List Int)} (h : WZA b W v l) (hb : b' ≤ b) : WZA b' W v l := by
  obtain ⟨g, vs, h1, h2, h3, h4, h5, h6⟩ := h
  exact ⟨g, vs, Nat.le_trans hb h1, h2, h3, h4, fun i hi => (h5 i hi).less hb, h6⟩
theorem WZA.set {b k j : Nat} {W : World} {v u : Value} {l : List (List Int)} (h : WZA b W v l) (hk : k < b) : WZA b (W.setCell ⟨k, j, none⟩ u) v l := by
  obtain ⟨g, vs, h1, h2, h3, h4, h5, h6⟩ := h
  exact ⟨g, vs, h1, h2, set_other h3 (by omega), h4, fun i hi => (h5 i hi).keep (fun g' cs' hb h' => set_other h' (by omega)), h6⟩
def WSA (base : Nat) (W : World) (v : Value) (s : Stt) : Prop := ∃ vp vc vz, v = sv vp vc vz s ∧ WP base W vp s.ps ∧ WC base W vc s.cs ∧ WZA base W vz s.zs
theorem WSA.ws {base : Nat} {W : World} {v : Value} {s : Stt} (h : WSA base W v s) : WS base W v s := by
  obtain ⟨vp, vc, vz, hv, h1, h2, h3⟩ := h
  exact ⟨vp, vc, vz, hv, h1, h2, h3.wz⟩
theorem WSA.up {base : Nat} {W W' : World} {v : Value} {s : Stt} (h : WSA base W v s) (u : Up W W') : WSA base W' v s := by
  obtain ⟨vp, vc, vz, hv, h1, h2, h3⟩ := h
  exact ⟨vp, vc, vz, hv, h1.up u, h2.up u, h3.up u⟩
theorem WSA.set {b k j : Nat} {W : World} {v u : Value} {s : Stt} (h : WSA b W v s) (hk : k < b) : WSA b (W.setCell ⟨k, j, none⟩ u) v s := by
  obtain ⟨vp, vc, vz, hv, h1, h2, h3⟩ := h
  exact ⟨vp, vc, vz, hv, h1.set hk, h2.set hk, h3.set hk⟩
theorem WSA.less {b b' : Nat} {W : World} {v : Value} {s : Stt} (h : WSA b W v s) (hb : b' ≤ b) : WSA b' W v s := by
  obtain ⟨vp, vc, vz, hv, h1, h2, h3⟩ := h
  exact ⟨vp, vc, vz, hv, h1.less hb, h2.less hb, h3.less hb⟩
end ST
end Go.Proofs.YtndkpfkgcaebmaaDoor
