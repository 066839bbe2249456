/-
  Lists of ints that are compared, made with room behind, and looked at: same, wide, kept, the document's Find.
-/
import Derived.Test.YtnmoaebmopjmhaaPl
import Derived.Test.YtnmoaebmopjmhaaSl
namespace Go.Proofs.Ytnmoaebmopjmhaa
open Go.RowKit
attribute [local go_sem ↓] Go.wp_at_zero Go.wp_at_succ

namespace IN
theorem infoT : (Try.prog.info? 3).map (fun i => (i.zero, i.size, i.bytes)) = some (some (.int .i64 0), 1, 8) := by kernel_rfl
theorem sizeT : (Try.prog.info? 3).map (·.size) = some 1 := by kernel_rfl
theorem drewN_two (w : World) (a b : Nat) : (w.drewN a).drewN b = w.drewN (a + b) := by
  simp only [World.drewN, Nat.add_assoc]
/- a list's cells in every world behind -/
theorem lies_at {w : World} {v : Value} {zs : List Int} (h : LiesI w v zs) : ∃ a cap, v = .slice a zs.length cap ∧ (zs.length ≠ 0 → ∃ b off, a = some ⟨b, off, none⟩ ∧ b < w.heap.size ∧ ∀ W, Up w W → ∀ i, i < zs.length → W.cell? ⟨b, off + i, none⟩ = some (.int .i64 (zs.getD i 0))) := by
  obtain ⟨a, cap, hv, h⟩ := h
  refine ⟨a, cap, hv, fun hn => ?_⟩
  obtain ⟨b, off, ha, hc⟩ := h hn
  exact ⟨b, off, ha, World.block_lt_of_cell? w _ (hc 0 (by omega)), fun W hu i hi => hu.cell (hc i hi)⟩
set_option maxRecDepth 100000 in
set_option maxHeartbeats 2000000 in
theorem same_ (v u : Value) (zs : List Int) (w : World) (hv : LiesI w v zs) (hu : LiesI w u zs) (hn : zs.length ≤ 100000000) :
    Calls Try.prog 16 #[v, u] w fun e w' => e = .returned (.bool true) ∧ ∃ m, w' = w.drewN m := by
  obtain ⟨a1, k1, rfl, h1⟩ := lies_at hv
  obtain ⟨a2, k2, rfl, h2⟩ := lies_at hu
  obtain ⟨n, hn0⟩ : ∃ n, n = zs.length := ⟨_, rfl⟩
  rw [← hn0] at hn h1 h2 ⊢
  have H1 : Hid _ := h1
  have H2 : Hid _ := h2
  clear hv hu h1 h2 hn0
  go_enter Try.func16, Try.ntmps16
  go_wp2
  go_loopw [5] (fun s5 wr => ∃ i : Nat, i ≤ n ∧ s5 = .int .i64 i ∧ ∃ m, wr = w.drewN m) (fun s5 _ => n - (intOf s5).toNat)
  case atStart => exact ⟨0, Nat.zero_le _, rfl, 0, rfl⟩
  case round =>
    obtain ⟨i, hi, rfl, m, hm⟩ := hrel
    have HM : Hid (wr = w.drewN m) := hm
    have huw : Up w wr := by rw [hm]; exact (Up.refl w).drewN m
    clear hm
    by_cases hlt : i < n
    · have hlt2 : (i : Int) < (n : Int) := by omega
      obtain ⟨b1, o1, rfl, -, c1⟩ := H1.out (by omega)
      obtain ⟨b2, o2, rfl, -, c2⟩ := H2.out (by omega)
      have x1 := c1 _ huw i hlt
      have x2 := c2 _ huw i hlt
      clear c1 c2
      generalize zs.getD i 0 = z at x1 x2
      go_wp2_with fail
      go_quiet (fail)
      go_wp2
      go_roundw
      case rel => exact ⟨i + 1, by omega, by go_num, m + nq, by rw [HM.out, drewN_two]⟩
      case measure => simp [intOf]; omega
    · have hlt2 : ¬ (i : Int) < (n : Int) := by omega
      go_wp2
      go_ret
      exact ⟨rfl, m, HM.out⟩
/- a list with five cells of room behind, all -77 -/
def Wide (W : World) (g : Nat) (zs : List Int) : Prop := ∃ cs : List Value, W.heap[g]? = some (.cells cs.toArray 3 (0, 0)) ∧ cs.length = zs.length + 5 ∧ (∀ q, q < zs.length → cs[q]? = some (.int .i64 (zs.getD q 0))) ∧ ∀ q, zs.length ≤ q → q < zs.length + 5 → cs[q]? = some (.int .i64 (-77))
theorem Wide.up {W W' : World} {g : Nat} {zs : List Int} (h : Wide W g zs) (u : Up W W') : Wide W' g zs := by
  obtain ⟨cs, h1, h2⟩ := h
  exact ⟨cs, u.heap h1, h2⟩
theorem Wide.lies {W : World} {g : Nat} {zs : List Int} (h : Wide W g zs) (cap : Nat) : LiesI W (.slice (some ⟨g, 0, none⟩) zs.length cap) zs := by
  obtain ⟨cs, h1, h2, h3, -⟩ := h
  exact ⟨_, cap, rfl, fun _ => ⟨g, 0, rfl, fun i hi => by simp [World.cell?, h1, h3 i hi]⟩⟩
theorem row_atI {W : World} {gl : Nat} {cs : List Value} (h : W.heap[gl]? = some (.cells cs.toArray 3 (0, 0))) (i : Nat) : W.cell? ⟨gl, i, none⟩ = cs[i]? ∧ W.frozen? ⟨gl, i, none⟩ = false := ⟨by simp [World.cell?, h], by simp [World.frozen?, h]⟩
theorem row_putI {W : World} {gl : Nat} {cs : List Value} (h : W.heap[gl]? = some (.cells cs.toArray 3 (0, 0))) (i : Nat) (a : Value) : (W.setCell ⟨gl, i, none⟩ a).heap[gl]? = some (.cells (cs.set i a).toArray 3 (0, 0)) := by
  simp only [World.setCell, Array.getElem?_modify]
  rw [h]
  simp
def WidePost (w : World) (zs : List Int) (e : Ending) (w' : World) : Prop := e = .returned (.slice (some ⟨w.heap.size, 0, none⟩) zs.length (zs.length + 5)) ∧ Wide w' w.heap.size zs ∧ Up w w'
set_option maxRecDepth 100000 in
set_option maxHeartbeats 4000000 in
theorem wide_ (v : Value) (zs : List Int) (w : World) (hv : LiesI w v zs) (hn : zs.length ≤ 10000000) :
    Calls Try.prog 10 #[v] w (WidePost w zs) := by
  obtain ⟨iT, hiT, z0, z1, z2⟩ := info_parts infoT
  obtain ⟨Post, hPost⟩ : ∃ P : Ending → World → Prop, P = WidePost w zs := ⟨_, rfl⟩
  rw [← hPost]
  have HPost : Hid (Post = WidePost w zs) := hPost
  obtain ⟨a1, k1, rfl, h1⟩ := lies_at hv
  obtain ⟨n, hn0⟩ : ∃ n, n = zs.length := ⟨_, rfl⟩
  have HN : Hid (n = zs.length) := hn0
  rw [← hn0] at hn h1 ⊢
  have H1 : Hid _ := h1
  obtain ⟨g, hg⟩ : ∃ g, g = w.heap.size := ⟨_, rfl⟩
  have HG : Hid (g = w.heap.size) := hg
  clear hv h1 hn0 hPost
  go_enter Try.func10, Try.ntmps10
  go_wp2_with (at_make; refine wpList_make_full _ rfl _ _ 22 rfl w.heap.size 3 iT (.int .i64 0) 1 Try.underlying22 hiT z0 z1 .i64 .i64 _ _ (n + 5) rfl rfl rfl rfl (by rw [z2]; omega) (by unfold maxLen; omega) (Nat.le_refl _) ?_; intro w1 hin hg1)
  have HI : Hid (∃ cs : List Value, w1.heap[g]? = some (.cells cs.toArray 3 (0, 0)) ∧ cs.length = n + 5 ∧ Up w w1) := ⟨_, by rw [hg]; exact row_made hin, by have := hin.1; omega, made_up hg1⟩
  rw [← hg]
  clear hin hg1 hg
  go_loopw [4] (fun s4 W => ∃ (i : Nat) (cs : List Value), i ≤ n + 5 ∧ s4 = .int .i64 i ∧ W.heap[g]? = some (.cells cs.toArray 3 (0, 0)) ∧ cs.length = n + 5 ∧ (∀ q, q < i → cs[q]? = some (.int .i64 (-77))) ∧ Up w W) (fun s4 _ => n + 5 - (intOf s4).toNat)
  case atStart => obtain ⟨cs, x1, x2, x3⟩ := HI.out; exact ⟨0, cs, Nat.zero_le _, rfl, x1, x2, fun q hq => by omega, x3⟩
  case round =>
    obtain ⟨i, cs, hi, rfl, hrow, hcl, hq, hu⟩ := hrel
    clear HI
    by_cases hlt : i < n + 5
    · have hlt2 : (i : Int) < (n : Int) + 5 := by omega
      obtain ⟨p1, pf1⟩ := row_atI hrow i
      rw [List.getElem?_eq_getElem (by omega)] at p1
      generalize cs[i]'(by omega) = q1 at p1
      have HR : Hid (∃ cs : List Value, (wr.setCell ⟨g, i, none⟩ (.int .i64 (-77))).heap[g]? = some (.cells cs.toArray 3 (0, 0)) ∧ cs.length = n + 5 ∧ (∀ q, q < i + 1 → cs[q]? = some (.int .i64 (-77))) ∧ Up w (wr.setCell ⟨g, i, none⟩ (.int .i64 (-77)))) := by
        refine ⟨cs.set i (.int .i64 (-77)), row_putI hrow i _, by simpa using hcl, fun q hq' => ?_, Below.setCell hu (by rw [HG.out]; exact Nat.le_refl _) _⟩
        by_cases e : q = i
        · subst e; rw [List.getElem?_set_self (by omega)]
        · rw [List.getElem?_set_ne (by omega)]; exact hq q (by omega)
      clear hrow hcl hq hu
      go_wp2
      go_roundw
      case rel => obtain ⟨cs, x1, x2, x3, x4⟩ := HR.out; exact ⟨i + 1, cs, by omega, by go_num, x1, x2, x3, x4⟩
      case measure => simp [intOf]; omega
    · have hlt2 : ¬ (i : Int) < (n : Int) + 5 := by omega
      have HI2 : Hid (∃ cs : List Value, wr.heap[g]? = some (.cells cs.toArray 3 (0, 0)) ∧ cs.length = n + 5 ∧ (∀ q, q < n + 5 → cs[q]? = some (.int .i64 (-77))) ∧ Up w wr) := ⟨cs, hrow, hcl, fun q hq' => hq q (by omega), hu⟩
      clear hrow hcl hq hu
      go_wp2_with fail
      go_loopw [5] (fun s5 W => ∃ (i : Nat) (cs : List Value), i ≤ n ∧ s5 = .int .i64 i ∧ W.heap[g]? = some (.cells cs.toArray 3 (0, 0)) ∧ cs.length = n + 5 ∧ (∀ q, q < i → cs[q]? = some (.int .i64 (zs.getD q 0))) ∧ (∀ q, n ≤ q → q < n + 5 → cs[q]? = some (.int .i64 (-77))) ∧ Up w W) (fun s5 _ => n - (intOf s5).toNat)
      case atStart => obtain ⟨cs, x1, x2, x3, x4⟩ := HI2.out; exact ⟨0, cs, Nat.zero_le _, rfl, x1, x2, fun q hq => by omega, fun q _ hq => x3 q hq, x4⟩
      case round =>
        obtain ⟨i2, cs, hi2, rfl, hrow, hcl, hq, hq7, hu⟩ := hrel
        clear HI2
        by_cases hlt3 : i2 < n
        · have hlt4 : (i2 : Int) < (n : Int) := by omega
          have hlt5 : (i2 : Int) < (n : Int) + 5 := by omega
          obtain ⟨b1, o1, rfl, -, c1⟩ := H1.out (by omega)
          have x1 := c1 _ hu i2 hlt3
          clear c1
          obtain ⟨z, hz⟩ : ∃ z, z = zs.getD i2 0 := ⟨_, rfl⟩
          rw [← hz] at x1
          obtain ⟨p1, pf1⟩ := row_atI hrow i2
          rw [List.getElem?_eq_getElem (by omega)] at p1
          generalize cs[i2]'(by omega) = q1 at p1
          have HR : Hid (∃ cs : List Value, (wr.setCell ⟨g, i2, none⟩ (.int .i64 z)).heap[g]? = some (.cells cs.toArray 3 (0, 0)) ∧ cs.length = n + 5 ∧ (∀ q, q < i2 + 1 → cs[q]? = some (.int .i64 (zs.getD q 0))) ∧ (∀ q, n ≤ q → q < n + 5 → cs[q]? = some (.int .i64 (-77))) ∧ Up w (wr.setCell ⟨g, i2, none⟩ (.int .i64 z))) := by
            refine ⟨cs.set i2 (.int .i64 z), row_putI hrow i2 _, by simpa using hcl, fun q hq' => ?_, fun q h1 h2 => ?_, Below.setCell hu (by rw [HG.out]; exact Nat.le_refl _) _⟩
            · by_cases e : q = i2
              · subst e; rw [List.getElem?_set_self (by omega), hz]
              · rw [List.getElem?_set_ne (by omega)]; exact hq q (by omega)
            · rw [List.getElem?_set_ne (by omega)]; exact hq7 q h1 h2
          clear hrow hcl hq hq7 hu hz
          go_wp2
          go_roundw
          case rel => obtain ⟨cs, x1, x2, x3, x4, x5⟩ := HR.out; exact ⟨i2 + 1, cs, by omega, by go_num, x1, x2, x3, x4, x5⟩
          case measure => simp [intOf]; omega
        · have hlt4 : ¬ (i2 : Int) < (n : Int) := by omega
          have hn5 : (n : Int) ≤ (n : Int) + 5 := by omega
          have HF : Hid (Wide wr g zs ∧ Up w wr) := ⟨⟨cs, hrow, by rw [← HN.out]; exact hcl, fun q hq' => hq q (by have := HN.out; omega), fun q h1 h2 => hq7 q (by have := HN.out; omega) (by have := HN.out; omega)⟩, hu⟩
          clear hrow hcl hq hq7 hu
          go_wp2
          rw [HPost.out]
          unfold WidePost
          rw [← HG.out, ← HN.out]
          exact ⟨rfl, HF.out.1, HF.out.2⟩
set_option maxRecDepth 100000 in
set_option maxHeartbeats 2000000 in
theorem kept_ (u : Value) (g : Nat) (zs : List Int) (w : World) (hw : Wide w g zs) (hu : LiesI w u zs) (hn : zs.length ≤ 10000000) :
    Calls Try.prog 18 #[.slice (some ⟨g, 0, none⟩) zs.length (zs.length + 5), u] w fun e w' => e = .returned (.bool true) ∧ ∃ m, w' = w.drewN m := by
  have hs := same_ _ u zs w (hw.lies (zs.length + 5)) hu (by omega)
  obtain ⟨cs, h1, h2, -, h3⟩ := hw
  obtain ⟨a2, k2, rfl, -⟩ := hu
  obtain ⟨n, hn0⟩ : ∃ n, n = zs.length := ⟨_, rfl⟩
  rw [← hn0] at hn hs h2 h3 ⊢
  have HS : Hid _ := hs
  have H3 : Hid (∀ q, n ≤ q → q < n + 5 → w.cell? ⟨g, q, none⟩ = some (.int .i64 (-77))) := fun q x1 x2 => by
    rw [(row_atI h1 q).1]; exact h3 q x1 x2
  have e1 : (n : Int) + 5 ≤ (n : Int) + 5 := by omega
  have e2 : (0 : Int) ≤ (n : Int) + 5 := by omega
  have e3 : ((n : Int) + 5).toNat = n + 5 := by omega
  clear hs h1 h2 h3 hn0
  go_enter Try.func18, Try.ntmps18
  go_wp2_with fail
  refine Calls.mono HS.out ?_
  rintro e w1 ⟨rfl, m, rfl⟩
  clear HS
  go_wp2
  go_loopw [6] (fun s6 wr => ∃ i : Nat, n ≤ i ∧ i ≤ n + 5 ∧ s6 = .int .i64 i ∧ wr = w.drewN m) (fun s6 _ => n + 5 - (intOf s6).toNat)
  case atStart => exact ⟨n, Nat.le_refl _, by omega, rfl, rfl⟩
  case round =>
    obtain ⟨i, hi1, hi2, rfl, rfl⟩ := hrel
    by_cases hlt : i < n + 5
    · have hlt2 : (i : Int) < (n : Int) + 5 := by omega
      have x1 := H3.out i hi1 hlt
      go_wp2
      go_roundw
      case rel => exact ⟨i + 1, by omega, by omega, by go_num, by first | rfl | trivial⟩
      case measure => simp [intOf]; omega
    · have hlt2 : ¬ (i : Int) < (n : Int) + 5 := by omega
      go_wp2
      go_ret
      exact ⟨rfl, _, rfl⟩
end IN
end Go.Proofs.Ytnmoaebmopjmhaa
