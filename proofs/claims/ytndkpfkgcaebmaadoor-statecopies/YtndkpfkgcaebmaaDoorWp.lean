/-
  Players and cards with marks behind them.
-/
import Derived.Test.YtndkpfkgcaebmaaDoorWi
namespace Go.Proofs.YtndkpfkgcaebmaaDoor
open Go.RowKit
attribute [local go_sem ↓] Go.wp_at_zero Go.wp_at_succ

namespace ST
def wP (l : List Ply) (i : Nat) : List Value := if i < l.length then pv (l.getD i dp) else [.int .i32 (wrap32 (numI i)), .int .i32 0, .bool false]
theorem wP_len (l : List Ply) (i : Nat) : (wP l i).length = 3 := by unfold wP; split <;> rfl
def wPs (l : List Ply) : List Value := (List.range (l.length + 64)).flatMap (wP l)
theorem wPs_len (l : List Ply) : (wPs l).length = (l.length + 64) * 3 := by
  rw [wPs, flat_len (wP l) 3 (wP_len l), List.length_range]
theorem wPs_get (l : List Ply) (i j : Nat) (hi : i < l.length + 64) (hj : j < 3) : (wPs l)[i * 3 + j]? = (wP l i)[j]? := by
  rw [wPs, flat_get (wP l) 3 (wP_len l) 0 _ i j (by simpa using hi) hj]
  congr 2
  simp [List.getD_eq_getElem?_getD, hi]
def WP (base : Nat) (W : World) (v : Value) (l : List Ply) : Prop := ∃ g, base ≤ g ∧ v = .slice (some ⟨g, 0, none⟩) l.length (l.length + 64) ∧ W.heap[g]? = some (.cells (wPs l).toArray 71 (0, 0))
theorem WP.up {base : Nat} {W W' : World} {v : Value} {l : List Ply} (h : WP base W v l) (u : Up W W') : WP base W' v l := by
  obtain ⟨g, h1, h2, h3⟩ := h
  exact ⟨g, h1, h2, u.heap h3⟩
theorem WP.il {base : Nat} {W : World} {v : Value} {l : List Ply} (h : WP base W v l) : PLs W v l := by
  obtain ⟨g, h1, rfl, h3⟩ := h
  refine ⟨by rw [pvs_len], some ⟨g, 0, none⟩, l.length + 64, rfl, by omega, fun hn => ⟨g, 0, rfl, fun j hj => ?_⟩⟩
  rw [Nat.zero_add]
  have : W.cell? ⟨g, j, none⟩ = (wPs l)[j]? := by simp [World.cell?, h3]
  have e : j / 3 * 3 + j % 3 = j := by rw [Nat.mul_comm]; exact Nat.div_add_mod j 3
  have h4 : j / 3 < l.length := by omega
  have h5 := wPs_get l (j / 3) (j % 3) (by omega) (by omega)
  have h6 := pvs_get l (j / 3) (j % 3) h4 (by omega)
  rw [e] at h5 h6
  rw [this, h5, h6, wP, if_pos h4]
set_option maxRecDepth 100000 in
set_option maxHeartbeats 4000000 in
theorem wideP_ (v : Value) (l : List Ply) (w : World) (hv : PLs w v l) (hn : l.length ≤ 4294967296) :
    Calls Tryd.prog 23 #[v] w (CpPost w fun W v' => WP w.heap.size W v' l) := by
  obtain ⟨iT, hiT, z0, z1, z2⟩ := info_parts infoP
  obtain ⟨Post, hPost⟩ : ∃ P : Ending → World → Prop, P = CpPost w fun W v' => WP w.heap.size W v' l := ⟨_, rfl⟩
  rw [← hPost]
  have HP : Hid (Post = CpPost w fun W v' => WP w.heap.size W v' l) := hPost
  obtain ⟨a1, k1, rfl, -, h1⟩ := pl_at hv
  obtain ⟨n, hn0⟩ : ∃ n, n = l.length := ⟨_, rfl⟩
  have HN : Hid (n = l.length) := hn0
  rw [← hn0] at hn h1 ⊢
  have H1 : Hid _ := h1
  obtain ⟨g, hg⟩ : ∃ g, g = w.heap.size := ⟨_, rfl⟩
  have HG : Hid (g = w.heap.size) := hg
  clear hPost hv h1 hn0
  go_enter Tryd.func23, Tryd.ntmps23
  go_wp2_with (at_make; refine wpList_make_full _ rfl _ _ 22 rfl w.heap.size 71 iT _ 3 Tryd.underlying22 hiT z0 z1 .i64 .i64 _ _ (n + 64) rfl rfl rfl rfl (by rw [z2]; omega) (by unfold maxLen; omega) (Nat.le_refl _) ?_; intro w1 hin hg1)
  have HI : Hid (∃ cs : List Value, w1.heap[g]? = some (.cells cs.toArray 71 (0, 0)) ∧ cs.length = (n + 64) * 3 ∧ Up w w1) := ⟨_, by rw [hg]; exact row_made hin, by have := hin.1; omega, made_up hg1⟩
  rw [← hg]
  clear hin hg1 hg
  go_wp2_with fail
  go_loopw [4] (fun s4 W => ∃ (i : Nat) (cs : List Value), i ≤ n + 64 ∧ s4 = .int .i64 i ∧ W.heap[g]? = some (.cells cs.toArray 71 (0, 0)) ∧ cs.length = (n + 64) * 3 ∧ (∀ q, q < i * 3 → cs[q]? = (wPs l)[q]?) ∧ Up w W) (fun s4 _ => n + 64 - (intOf s4).toNat)
  case atStart => obtain ⟨cs, x1, x2, x3⟩ := HI.out; exact ⟨0, cs, Nat.zero_le _, rfl, x1, x2, fun q hq => by omega, x3⟩
  case round =>
    obtain ⟨i, cs, hi, rfl, hrow, hcl, hq, hu⟩ := hrel
    clear HI
    by_cases hlt : i < n + 64
    · have hlt2 : (i : Int) < (n : Int) + 64 := by omega
      have p0 : wr.cell? ⟨g, i * 3, none⟩ = some (cs[i * 3]'(by omega)) := by simp [World.cell?, hrow]
      generalize cs[i * 3]'(by omega) = q0 at p0
      have p1 : wr.cell? ⟨g, i * 3 + 1, none⟩ = some (cs[i * 3 + 1]'(by omega)) := by simp [World.cell?, hrow]
      generalize cs[i * 3 + 1]'(by omega) = q1 at p1
      have p2 : wr.cell? ⟨g, i * 3 + 2, none⟩ = some (cs[i * 3 + 2]'(by omega)) := by simp [World.cell?, hrow]
      generalize cs[i * 3 + 2]'(by omega) = q2 at p2
      have pf : ∀ j, wr.frozen? ⟨g, j, none⟩ = false := seven_f hrow
      have HR : Hid (∀ y0 y1 y2, wP l i = [y0, y1, y2] → ∃ cs : List Value, (((wr.setCell ⟨g, i * 3, none⟩ (y0)).setCell ⟨g, i * 3 + 1, none⟩ (y1)).setCell ⟨g, i * 3 + 2, none⟩ (y2)).heap[g]? = some (.cells cs.toArray 71 (0, 0)) ∧ cs.length = (n + 64) * 3 ∧ (∀ q, q < (i + 1) * 3 → cs[q]? = (wPs l)[q]?) ∧ Up w (((wr.setCell ⟨g, i * 3, none⟩ (y0)).setCell ⟨g, i * 3 + 1, none⟩ (y1)).setCell ⟨g, i * 3 + 2, none⟩ (y2))) := fun y0 y1 y2 hy => by
        have hb : w.heap.size ≤ g := by rw [HG.out]; exact Nat.le_refl _
        have hg9 : ∀ j, j < 3 → (wPs l)[i * 3 + j]? = [y0, y1, y2][j]? := fun j hj => by rw [wPs_get l i j (by rw [← HN.out]; exact hlt) hj, hy]
        refine ⟨(((cs.set (i * 3) y0).set (i * 3 + 1) y1).set (i * 3 + 2) y2), ?_, by simpa using hcl, fun q hq' => ?_, Up.set (Up.set (Up.set hu _ _ hb) _ _ hb) _ _ hb⟩
        · have e0 := set_cells (j := i * 3) (x := y0) hrow
          have e1 := set_cells (j := i * 3 + 1) (x := y1) e0
          have e2 := set_cells (j := i * 3 + 2) (x := y2) e1
          simpa using e2
        · by_cases c2 : q = i * 3 + 2
          · subst c2; rw [List.getElem?_set_self (by first | omega | (simp; omega))]; exact (hg9 2 (by decide)).symm
          · rw [List.getElem?_set_ne (by omega)]
            by_cases c1 : q = i * 3 + 1
            · subst c1; rw [List.getElem?_set_self (by first | omega | (simp; omega))]; exact (hg9 1 (by decide)).symm
            · rw [List.getElem?_set_ne (by omega)]
              by_cases c0 : q = i * 3
              · subst c0; rw [List.getElem?_set_self (by first | omega | (simp; omega))]; exact (hg9 0 (by decide)).symm
              · rw [List.getElem?_set_ne (by omega)]
                exact hq q (by omega)
      have HUw : Hid (Up w wr) := hu
      clear hrow hcl hq hu
      by_cases hin : i < n
      · have hin2 : (i : Int) < (n : Int) := by omega
        obtain ⟨b1, o1, rfl, c1⟩ := H1.out (by omega)
        obtain ⟨x0, x1, x2⟩ := c1 _ HUw.out i hin
        have HR2 : Hid _ := HR.out (.int .i32 (l.getD i dp).life) (.int .i32 (l.getD i dp).energy) (.bool (l.getD i dp).out) (by rw [wP, if_pos (by rw [← HN.out]; exact hin)]; rfl)
        clear c1 HR
        generalize l.getD i dp = x at x0 x1 x2 HR2
        go_wp2
        go_roundw
        case rel => obtain ⟨cs, x1, x2, x3, x4⟩ := HR2.out; exact ⟨i + 1, cs, by omega, by go_num, x1, x2, x3, x4⟩
        case measure => simp [intOf]; omega
      · have hin2 : ¬ (i : Int) < (n : Int) := by omega
        have HR2 : Hid _ := HR.out (.int .i32 (wrap32 (numI i))) (.int .i32 0) (.bool false) (by rw [wP, if_neg (by rw [← HN.out]; exact hin)])
        clear HR
        go_wp2_with fail
        refine Calls.mono (num_ i (by omega) _) ?_
        rintro e w2 ⟨rfl, rfl⟩
        generalize numI i = z at HR2 ⊢
        go_wp2
        go_roundw
        case rel => obtain ⟨cs, x1, x2, x3, x4⟩ := HR2.out; exact ⟨i + 1, cs, by omega, by go_num, x1, x2, x3, x4⟩
        case measure => simp [intOf]; omega
    · have hlt2 : ¬ (i : Int) < (n : Int) + 64 := by omega
      have hn64 : (n : Int) ≤ (n : Int) + 64 := by omega
      have HF : Hid (wr.heap[g]? = some (.cells (wPs l).toArray 71 (0, 0)) ∧ Up w wr) := by
        have e : cs = wPs l := by
          apply List.ext_getElem?
          intro q
          have hnn := HN.out
          by_cases hq' : q < (n + 64) * 3
          · exact hq q (by omega)
          · rw [List.getElem?_eq_none (by omega), List.getElem?_eq_none (by rw [wPs_len]; omega)]
        exact ⟨by rw [← e]; exact hrow, hu⟩
      clear hrow hcl hq hu
      go_wp2
      rw [HP.out]
      refine ⟨_, rfl, ⟨g, by rw [HG.out]; exact Nat.le_refl _, by rw [← HN.out], HF.out.1⟩, HF.out.2⟩
def wC (l : List Crd) (i : Nat) : List Value := if i < l.length then cv (l.getD i dc) else [.int .i64 (numI i), .int .i64 0, .int .i32 0, .int .i32 0, .int .i32 0, .int .i32 0]
theorem wC_len (l : List Crd) (i : Nat) : (wC l i).length = 6 := by unfold wC; split <;> rfl
def wCs (l : List Crd) : List Value := (List.range (l.length + 64)).flatMap (wC l)
theorem wCs_len (l : List Crd) : (wCs l).length = (l.length + 64) * 6 := by
  rw [wCs, flat_len (wC l) 6 (wC_len l), List.length_range]
theorem wCs_get (l : List Crd) (i j : Nat) (hi : i < l.length + 64) (hj : j < 6) : (wCs l)[i * 6 + j]? = (wC l i)[j]? := by
  rw [wCs, flat_get (wC l) 6 (wC_len l) 0 _ i j (by simpa using hi) hj]
  congr 2
  simp [List.getD_eq_getElem?_getD, hi]
def WC (base : Nat) (W : World) (v : Value) (l : List Crd) : Prop := ∃ g, base ≤ g ∧ v = .slice (some ⟨g, 0, none⟩) l.length (l.length + 64) ∧ W.heap[g]? = some (.cells (wCs l).toArray 73 (0, 0))
theorem WC.up {base : Nat} {W W' : World} {v : Value} {l : List Crd} (h : WC base W v l) (u : Up W W') : WC base W' v l := by
  obtain ⟨g, h1, h2, h3⟩ := h
  exact ⟨g, h1, h2, u.heap h3⟩
theorem WC.il {base : Nat} {W : World} {v : Value} {l : List Crd} (h : WC base W v l) : CLs W v l := by
  obtain ⟨g, h1, rfl, h3⟩ := h
  refine ⟨by rw [cvs_len], some ⟨g, 0, none⟩, l.length + 64, rfl, by omega, fun hn => ⟨g, 0, rfl, fun j hj => ?_⟩⟩
  rw [Nat.zero_add]
  have : W.cell? ⟨g, j, none⟩ = (wCs l)[j]? := by simp [World.cell?, h3]
  have e : j / 6 * 6 + j % 6 = j := by rw [Nat.mul_comm]; exact Nat.div_add_mod j 6
  have h4 : j / 6 < l.length := by omega
  have h5 := wCs_get l (j / 6) (j % 6) (by omega) (by omega)
  have h6 := cvs_get l (j / 6) (j % 6) h4 (by omega)
  rw [e] at h5 h6
  rw [this, h5, h6, wC, if_pos h4]
set_option maxRecDepth 100000 in
set_option maxHeartbeats 4000000 in
theorem wideC_ (v : Value) (l : List Crd) (w : World) (hv : CLs w v l) (hn : l.length ≤ 4294967296) :
    Calls Tryd.prog 16 #[v] w (CpPost w fun W v' => WC w.heap.size W v' l) := by
  obtain ⟨iT, hiT, z0, z1, z2⟩ := info_parts infoC
  obtain ⟨Post, hPost⟩ : ∃ P : Ending → World → Prop, P = CpPost w fun W v' => WC w.heap.size W v' l := ⟨_, rfl⟩
  rw [← hPost]
  have HP : Hid (Post = CpPost w fun W v' => WC w.heap.size W v' l) := hPost
  obtain ⟨a1, k1, rfl, -, h1⟩ := cl_at hv
  obtain ⟨n, hn0⟩ : ∃ n, n = l.length := ⟨_, rfl⟩
  have HN : Hid (n = l.length) := hn0
  rw [← hn0] at hn h1 ⊢
  have H1 : Hid _ := h1
  obtain ⟨g, hg⟩ : ∃ g, g = w.heap.size := ⟨_, rfl⟩
  have HG : Hid (g = w.heap.size) := hg
  clear hPost hv h1 hn0
  go_enter Tryd.func16, Tryd.ntmps16
  go_wp2_with (at_make; refine wpList_make_full _ rfl _ _ 23 rfl w.heap.size 73 iT _ 6 Tryd.underlying23 hiT z0 z1 .i64 .i64 _ _ (n + 64) rfl rfl rfl rfl (by rw [z2]; omega) (by unfold maxLen; omega) (Nat.le_refl _) ?_; intro w1 hin hg1)
  have HI : Hid (∃ cs : List Value, w1.heap[g]? = some (.cells cs.toArray 73 (0, 0)) ∧ cs.length = (n + 64) * 6 ∧ Up w w1) := ⟨_, by rw [hg]; exact row_made hin, by have := hin.1; omega, made_up hg1⟩
  rw [← hg]
  clear hin hg1 hg
  go_wp2_with fail
  go_loopw [4] (fun s4 W => ∃ (i : Nat) (cs : List Value), i ≤ n + 64 ∧ s4 = .int .i64 i ∧ W.heap[g]? = some (.cells cs.toArray 73 (0, 0)) ∧ cs.length = (n + 64) * 6 ∧ (∀ q, q < i * 6 → cs[q]? = (wCs l)[q]?) ∧ Up w W) (fun s4 _ => n + 64 - (intOf s4).toNat)
  case atStart => obtain ⟨cs, x1, x2, x3⟩ := HI.out; exact ⟨0, cs, Nat.zero_le _, rfl, x1, x2, fun q hq => by omega, x3⟩
  case round =>
    obtain ⟨i, cs, hi, rfl, hrow, hcl, hq, hu⟩ := hrel
    clear HI
    by_cases hlt : i < n + 64
    · have hlt2 : (i : Int) < (n : Int) + 64 := by omega
      have p0 : wr.cell? ⟨g, i * 6, none⟩ = some (cs[i * 6]'(by omega)) := by simp [World.cell?, hrow]
      generalize cs[i * 6]'(by omega) = q0 at p0
      have p1 : wr.cell? ⟨g, i * 6 + 1, none⟩ = some (cs[i * 6 + 1]'(by omega)) := by simp [World.cell?, hrow]
      generalize cs[i * 6 + 1]'(by omega) = q1 at p1
      have p2 : wr.cell? ⟨g, i * 6 + 2, none⟩ = some (cs[i * 6 + 2]'(by omega)) := by simp [World.cell?, hrow]
      generalize cs[i * 6 + 2]'(by omega) = q2 at p2
      have p3 : wr.cell? ⟨g, i * 6 + 3, none⟩ = some (cs[i * 6 + 3]'(by omega)) := by simp [World.cell?, hrow]
      generalize cs[i * 6 + 3]'(by omega) = q3 at p3
      have p4 : wr.cell? ⟨g, i * 6 + 4, none⟩ = some (cs[i * 6 + 4]'(by omega)) := by simp [World.cell?, hrow]
      generalize cs[i * 6 + 4]'(by omega) = q4 at p4
      have p5 : wr.cell? ⟨g, i * 6 + 5, none⟩ = some (cs[i * 6 + 5]'(by omega)) := by simp [World.cell?, hrow]
      generalize cs[i * 6 + 5]'(by omega) = q5 at p5
      have pf : ∀ j, wr.frozen? ⟨g, j, none⟩ = false := seven_f hrow
      have HR : Hid (∀ y0 y1 y2 y3 y4 y5, wC l i = [y0, y1, y2, y3, y4, y5] → ∃ cs : List Value, ((((((wr.setCell ⟨g, i * 6, none⟩ (y0)).setCell ⟨g, i * 6 + 1, none⟩ (y1)).setCell ⟨g, i * 6 + 2, none⟩ (y2)).setCell ⟨g, i * 6 + 3, none⟩ (y3)).setCell ⟨g, i * 6 + 4, none⟩ (y4)).setCell ⟨g, i * 6 + 5, none⟩ (y5)).heap[g]? = some (.cells cs.toArray 73 (0, 0)) ∧ cs.length = (n + 64) * 6 ∧ (∀ q, q < (i + 1) * 6 → cs[q]? = (wCs l)[q]?) ∧ Up w ((((((wr.setCell ⟨g, i * 6, none⟩ (y0)).setCell ⟨g, i * 6 + 1, none⟩ (y1)).setCell ⟨g, i * 6 + 2, none⟩ (y2)).setCell ⟨g, i * 6 + 3, none⟩ (y3)).setCell ⟨g, i * 6 + 4, none⟩ (y4)).setCell ⟨g, i * 6 + 5, none⟩ (y5))) := fun y0 y1 y2 y3 y4 y5 hy => by
        have hb : w.heap.size ≤ g := by rw [HG.out]; exact Nat.le_refl _
        have hg9 : ∀ j, j < 6 → (wCs l)[i * 6 + j]? = [y0, y1, y2, y3, y4, y5][j]? := fun j hj => by rw [wCs_get l i j (by rw [← HN.out]; exact hlt) hj, hy]
        refine ⟨((((((cs.set (i * 6) y0).set (i * 6 + 1) y1).set (i * 6 + 2) y2).set (i * 6 + 3) y3).set (i * 6 + 4) y4).set (i * 6 + 5) y5), ?_, by simpa using hcl, fun q hq' => ?_, Up.set (Up.set (Up.set (Up.set (Up.set (Up.set hu _ _ hb) _ _ hb) _ _ hb) _ _ hb) _ _ hb) _ _ hb⟩
        · have e0 := set_cells (j := i * 6) (x := y0) hrow
          have e1 := set_cells (j := i * 6 + 1) (x := y1) e0
          have e2 := set_cells (j := i * 6 + 2) (x := y2) e1
          have e3 := set_cells (j := i * 6 + 3) (x := y3) e2
          have e4 := set_cells (j := i * 6 + 4) (x := y4) e3
          have e5 := set_cells (j := i * 6 + 5) (x := y5) e4
          simpa using e5
        · by_cases c5 : q = i * 6 + 5
          · subst c5; rw [List.getElem?_set_self (by first | omega | (simp; omega))]; exact (hg9 5 (by decide)).symm
          · rw [List.getElem?_set_ne (by omega)]
            by_cases c4 : q = i * 6 + 4
            · subst c4; rw [List.getElem?_set_self (by first | omega | (simp; omega))]; exact (hg9 4 (by decide)).symm
            · rw [List.getElem?_set_ne (by omega)]
              by_cases c3 : q = i * 6 + 3
              · subst c3; rw [List.getElem?_set_self (by first | omega | (simp; omega))]; exact (hg9 3 (by decide)).symm
              · rw [List.getElem?_set_ne (by omega)]
                by_cases c2 : q = i * 6 + 2
                · subst c2; rw [List.getElem?_set_self (by first | omega | (simp; omega))]; exact (hg9 2 (by decide)).symm
                · rw [List.getElem?_set_ne (by omega)]
                  by_cases c1 : q = i * 6 + 1
                  · subst c1; rw [List.getElem?_set_self (by first | omega | (simp; omega))]; exact (hg9 1 (by decide)).symm
                  · rw [List.getElem?_set_ne (by omega)]
                    by_cases c0 : q = i * 6
                    · subst c0; rw [List.getElem?_set_self (by first | omega | (simp; omega))]; exact (hg9 0 (by decide)).symm
                    · rw [List.getElem?_set_ne (by omega)]
                      exact hq q (by omega)
      have HUw : Hid (Up w wr) := hu
      clear hrow hcl hq hu
      by_cases hin : i < n
      · have hin2 : (i : Int) < (n : Int) := by omega
        obtain ⟨b1, o1, rfl, c1⟩ := H1.out (by omega)
        obtain ⟨x0, x1, x2, x3, x4, x5⟩ := c1 _ HUw.out i hin
        have HR2 : Hid _ := HR.out (.int .i64 (l.getD i dc).kind) (.int .i64 (l.getD i dc).owner) (.int .i32 (l.getD i dc).power) (.int .i32 (l.getD i dc).health) (.int .i32 (l.getD i dc).damage) (.int .i32 (l.getD i dc).marks) (by rw [wC, if_pos (by rw [← HN.out]; exact hin)]; rfl)
        clear c1 HR
        generalize l.getD i dc = x at x0 x1 x2 x3 x4 x5 HR2
        go_wp2
        go_roundw
        case rel => obtain ⟨cs, x1, x2, x3, x4⟩ := HR2.out; exact ⟨i + 1, cs, by omega, by go_num, x1, x2, x3, x4⟩
        case measure => simp [intOf]; omega
      · have hin2 : ¬ (i : Int) < (n : Int) := by omega
        have HR2 : Hid _ := HR.out (.int .i64 (numI i)) (.int .i64 0) (.int .i32 0) (.int .i32 0) (.int .i32 0) (.int .i32 0) (by rw [wC, if_neg (by rw [← HN.out]; exact hin)])
        clear HR
        go_wp2_with fail
        refine Calls.mono (num_ i (by omega) _) ?_
        rintro e w2 ⟨rfl, rfl⟩
        generalize numI i = z at HR2 ⊢
        go_wp2
        go_roundw
        case rel => obtain ⟨cs, x1, x2, x3, x4⟩ := HR2.out; exact ⟨i + 1, cs, by omega, by go_num, x1, x2, x3, x4⟩
        case measure => simp [intOf]; omega
    · have hlt2 : ¬ (i : Int) < (n : Int) + 64 := by omega
      have hn64 : (n : Int) ≤ (n : Int) + 64 := by omega
      have HF : Hid (wr.heap[g]? = some (.cells (wCs l).toArray 73 (0, 0)) ∧ Up w wr) := by
        have e : cs = wCs l := by
          apply List.ext_getElem?
          intro q
          have hnn := HN.out
          by_cases hq' : q < (n + 64) * 6
          · exact hq q (by omega)
          · rw [List.getElem?_eq_none (by omega), List.getElem?_eq_none (by rw [wCs_len]; omega)]
        exact ⟨by rw [← e]; exact hrow, hu⟩
      clear hrow hcl hq hu
      go_wp2
      rw [HP.out]
      refine ⟨_, rfl, ⟨g, by rw [HG.out]; exact Nat.le_refl _, by rw [← HN.out], HF.out.1⟩, HF.out.2⟩
end ST
end Go.Proofs.YtndkpfkgcaebmaaDoor
