/-
  Lists of ints with marks behind them: WideInts, SpareInts.
-/
import Derived.Test.YtndkpfkgcaebmaaDoorCt
namespace Go.Proofs.YtndkpfkgcaebmaaDoor
open Go.RowKit
attribute [local go_sem ↓] Go.wp_at_zero Go.wp_at_succ

namespace ST
def numI (i : Nat) : Int := 9437185 + (i : Int)
set_option maxHeartbeats 1000000 in
theorem num_ (i : Nat) (hi : i ≤ 8589934592) (w : World) : Calls Tryd.prog 65 #[.int .i64 9, .int .i64 i] w fun e w' => e = .returned (.int .i64 (numI i)) ∧ w' = w := by
  go_enter Tryd.func65, Tryd.ntmps65
  go_wp2
  go_ret
  exact ⟨ret_int (by unfold numI; omega), rfl⟩
/- what lies in cell i: the list, and marks behind it -/
def wI (l : List Int) (i : Nat) : Value := if i < l.length then .int .i64 (l.getD i 0) else .int .i64 (numI i)
def wIs (l : List Int) : List Value := (List.range (l.length + 64)).map (wI l)
theorem wIs_len (l : List Int) : (wIs l).length = l.length + 64 := by simp [wIs]
theorem wIs_get (l : List Int) (i : Nat) (hi : i < l.length + 64) : (wIs l)[i]? = some (wI l i) := by simp [wIs, hi]
def WI (base : Nat) (W : World) (v : Value) (l : List Int) : Prop := ∃ g, base ≤ g ∧ v = .slice (some ⟨g, 0, none⟩) l.length (l.length + 64) ∧ W.heap[g]? = some (.cells (wIs l).toArray 3 (0, 0))
theorem WI.up {base : Nat} {W W' : World} {v : Value} {l : List Int} (h : WI base W v l) (u : Up W W') : WI base W' v l := by
  obtain ⟨g, h1, h2, h3⟩ := h
  exact ⟨g, h1, h2, u.heap h3⟩
theorem WI.il {base : Nat} {W : World} {v : Value} {l : List Int} (h : WI base W v l) : IL W v l := by
  obtain ⟨g, h1, rfl, h3⟩ := h
  refine ⟨by rw [ivs_len, Nat.mul_one], some ⟨g, 0, none⟩, l.length + 64, rfl, by omega, fun hn => ⟨g, 0, rfl, fun j hj => ?_⟩⟩
  rw [Nat.mul_one] at hj
  rw [ivs_get l j hj, Nat.zero_add]
  have : W.cell? ⟨g, j, none⟩ = (wIs l)[j]? := by simp [World.cell?, h3]
  rw [this, wIs_get l j (by omega), wI, if_pos hj]
set_option maxRecDepth 100000 in
set_option maxHeartbeats 4000000 in
theorem wideInts_ (v : Value) (l : List Int) (w : World) (hv : IL w v l) (hn : l.length ≤ 4294967296) :
    Calls Tryd.prog 73 #[v] w (CpPost w fun W v' => WI w.heap.size W v' l) := by
  obtain ⟨iT, hiT, z0, z1, z2⟩ := info_parts infoI
  obtain ⟨Post, hPost⟩ : ∃ P : Ending → World → Prop, P = CpPost w fun W v' => WI w.heap.size W v' l := ⟨_, rfl⟩
  rw [← hPost]
  have HP : Hid (Post = CpPost w fun W v' => WI w.heap.size W v' l) := hPost
  obtain ⟨a1, k1, rfl, -, h1⟩ := il_at hv
  obtain ⟨n, hn0⟩ : ∃ n, n = l.length := ⟨_, rfl⟩
  have HN : Hid (n = l.length) := hn0
  rw [← hn0] at hn h1 ⊢
  have H1 : Hid _ := h1
  obtain ⟨g, hg⟩ : ∃ g, g = w.heap.size := ⟨_, rfl⟩
  have HG : Hid (g = w.heap.size) := hg
  clear hPost hv h1 hn0
  go_enter Tryd.func73, Tryd.ntmps73
  go_wp2_with (at_make; refine wpList_make_full _ rfl _ _ 74 rfl w.heap.size 3 iT (.int .i64 0) 1 Tryd.underlying74 hiT z0 z1 .i64 .i64 _ _ (n + 64) rfl rfl rfl rfl (by rw [z2]; omega) (by unfold maxLen; omega) (Nat.le_refl _) ?_; intro w1 hin hg1)
  have HI : Hid (∃ cs : List Value, w1.heap[g]? = some (.cells cs.toArray 3 (0, 0)) ∧ cs.length = n + 64 ∧ Up w w1) := ⟨_, by rw [hg]; exact row_made hin, by have := hin.1; omega, made_up hg1⟩
  rw [← hg]
  clear hin hg1 hg
  go_wp2_with fail
  go_loopw [4] (fun s4 W => ∃ (i : Nat) (cs : List Value), i ≤ n + 64 ∧ s4 = .int .i64 i ∧ W.heap[g]? = some (.cells cs.toArray 3 (0, 0)) ∧ cs.length = n + 64 ∧ (∀ q, q < i → cs[q]? = some (wI l q)) ∧ Up w W) (fun s4 _ => n + 64 - (intOf s4).toNat)
  case atStart => obtain ⟨cs, x1, x2, x3⟩ := HI.out; exact ⟨0, cs, Nat.zero_le _, rfl, x1, x2, fun q hq => by omega, x3⟩
  case round =>
    obtain ⟨i, cs, hi, rfl, hrow, hcl, hq, hu⟩ := hrel
    clear HI
    by_cases hlt : i < n + 64
    · have hlt2 : (i : Int) < (n : Int) + 64 := by omega
      have p1 : wr.cell? ⟨g, i, none⟩ = some (cs[i]'(by omega)) := by simp [World.cell?, hrow]
      have pf : wr.frozen? ⟨g, i, none⟩ = false := by simp [World.frozen?, hrow]
      generalize cs[i]'(by omega) = q1 at p1
      have HR : Hid (∀ y, y = wI l i → ∃ cs : List Value, (wr.setCell ⟨g, i, none⟩ y).heap[g]? = some (.cells cs.toArray 3 (0, 0)) ∧ cs.length = n + 64 ∧ (∀ q, q < i + 1 → cs[q]? = some (wI l q)) ∧ Up w (wr.setCell ⟨g, i, none⟩ y)) := fun y hy => by
        refine ⟨cs.set i y, ?_, by simpa using hcl, fun q hq' => ?_, Up.set hu _ _ (by rw [HG.out]; exact Nat.le_refl _)⟩
        · have := set_cells (j := i) (x := y) hrow
          simpa using this
        · by_cases e : q = i
          · subst e; rw [List.getElem?_set_self (by omega), hy]
          · rw [List.getElem?_set_ne (by omega)]; exact hq q (by omega)
      have HUw : Hid (Up w wr) := hu
      clear hrow hcl hq hu
      by_cases hin : i < n
      · have hin2 : (i : Int) < (n : Int) := by omega
        obtain ⟨b1, o1, rfl, c1⟩ := H1.out (by omega)
        have x1 := c1 _ HUw.out i hin
        have HR2 : Hid _ := HR.out (.int .i64 (l.getD i 0)) (by rw [wI, if_pos (by rw [← HN.out]; exact hin)])
        clear c1 HR
        generalize l.getD i 0 = z at x1 HR2
        go_wp2
        go_roundw
        case rel => obtain ⟨cs, x1, x2, x3, x4⟩ := HR2.out; exact ⟨i + 1, cs, by omega, by go_num, x1, x2, x3, x4⟩
        case measure => simp [intOf]; omega
      · have hin2 : ¬ (i : Int) < (n : Int) := by omega
        have HR2 : Hid _ := HR.out (.int .i64 (numI i)) (by rw [wI, if_neg (by rw [← HN.out]; exact hin)])
        clear HR
        go_wp2_with fail
        refine Calls.mono (num_ i (by omega) _) ?_
        rintro e w2 ⟨rfl, rfl⟩
        generalize numI i = z at HR2 ⊢
        go_wp2
        go_roundw
        case rel => obtain ⟨cs, x1, x2, x3, x4⟩ := HR2.out; exact ⟨i + 1, cs, by omega, by go_num, x1, x2, x3, x4⟩
        case measure => simp [intOf]; omega
    · have hlt2 : ¬ (i : Int) < (n : Int) + 64 := by omega
      have hn64 : (n : Int) ≤ (n : Int) + 64 := by omega
      have HF : Hid (wr.heap[g]? = some (.cells (wIs l).toArray 3 (0, 0)) ∧ Up w wr) := by
        have e : cs = wIs l := by
          apply List.ext_getElem?
          intro q
          have hnn := HN.out
          by_cases hq' : q < n + 64
          · rw [hq q (by omega), wIs_get l q (by omega)]
          · rw [List.getElem?_eq_none (by omega), List.getElem?_eq_none (by rw [wIs_len]; omega)]
        exact ⟨by rw [← e]; exact hrow, hu⟩
      clear hrow hcl hq hu
      go_wp2
      rw [HP.out]
      refine ⟨_, rfl, ⟨g, by rw [HG.out]; exact Nat.le_refl _, by rw [← HN.out], HF.out.1⟩, HF.out.2⟩
end ST
end Go.Proofs.YtndkpfkgcaebmaaDoor
