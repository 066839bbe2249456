
/-
  Lists of ints that are compared, made with room behind, and looked at: same, wide, kept, the document's Find.
-/
import Derived.Test.YtgonflnmkfgfhaaPl
import Derived.Test.YtgonflnmkfgfhaaSl
namespace Go.Proofs.Ytgonflnmkfgfhaa
open Go.RowKit
attribute [local go_sem ↓] Go.wp_at_zero Go.wp_at_succ

namespace IN
theorem infoT : (Try.prog.info? 3).map (fun i => (i.zero, i.size, i.bytes)) = some (some (.int .i64 0), 1, 8) := by kernel_rfl
theorem sizeT : (Try.prog.info? 3).map (·.size) = some 1 := by kernel_rfl
theorem drewN_two (w : World) (a b : Nat) : (w.drewN a).drewN b = w.drewN (a + b) := by
  simp only [World.drewN, Nat.add_assoc]
/- a list's cells in every world behind -/
theorem lies_at {w : World} {v : Value} {zs : List Int} (h : LiesI w v zs) : ∃ a cap, v = .slice a zs.length cap ∧ (zs.length ≠ 0 → ∃ b off, a = some ⟨b, off, none⟩ ∧ b < w.heap.size ∧ ∀ W, Up w W → ∀ i, i < zs.length → W.cell? ⟨b, off + i, none⟩ = some (.int .i64 (zs.getD i 0))) := by
  obtain ⟨a, cap, hv, h⟩ := h
  refine ⟨a, cap, hv, fun hn => ?_⟩
  obtain ⟨b, off, ha, hc⟩ := h hn
  exact ⟨b, off, ha, World.block_lt_of_cell? w _ (hc 0 (by omega)), fun W hu i hi => hu.cell (hc i hi)⟩
set_option maxRecDepth 100000 in
set_option maxHeartbeats 2000000 in
theorem same_ (v u : Value) (zs : List Int) (w : World) (hv : LiesI w v zs) (hu : LiesI w u zs) (hn : zs.length ≤ 100000000) :
    Calls Try.prog 10 #[v, u] w fun e w' => e = .returned (.bool true) ∧ ∃ m, w' = w.drewN m := by
  obtain ⟨a1, k1, rfl, h1⟩ := lies_at hv
  obtain ⟨a2, k2, rfl, h2⟩ := lies_at hu
  obtain ⟨n, hn0⟩ : ∃ n, n = zs.length := ⟨_, rfl⟩
  rw [← hn0] at hn h1 h2 ⊢
  have H1 : Hid _ := h1
  have H2 : Hid _ := h2
  clear hv hu h1 h2 hn0
  go_enter Try.func10, Try.ntmps10
  go_wp2
  go_loopw [5] (fun s5 wr => ∃ i : Nat, i ≤ n ∧ s5 = .int .i64 i ∧ ∃ m, wr = w.drewN m) (fun s5 _ => n - (intOf s5).toNat)
  case atStart => exact ⟨0, Nat.zero_le _, rfl, 0, rfl⟩
  case round =>
    obtain ⟨i, hi, rfl, m, hm⟩ := hrel
    have HM : Hid (wr = w.drewN m) := hm
    have huw : Up w wr := by rw [hm]; exact (Up.refl w).drewN m
    clear hm
    by_cases hlt : i < n
    · have hlt2 : (i : Int) < (n : Int) := by omega
      obtain ⟨b1, o1, rfl, -, c1⟩ := H1.out (by omega)
      obtain ⟨b2, o2, rfl, -, c2⟩ := H2.out (by omega)
      have x1 := c1 _ huw i hlt
      have x2 := c2 _ huw i hlt
      clear c1 c2
      generalize zs.getD i 0 = z at x1 x2
      go_wp2_with fail
      go_quiet (fail)
      go_wp2
      go_roundw
      case rel => exact ⟨i + 1, by omega, by go_num, m + nq, by rw [HM.out, drewN_two]⟩
      case measure => simp [intOf]; omega
    · have hlt2 : ¬ (i : Int) < (n : Int) := by omega
      go_wp2
      go_ret
      exact ⟨rfl, m, HM.out⟩
/- a list with five cells of room behind, all -77 -/
def Wide (W : World) (g : Nat) (zs : List Int) : Prop := ∃ cs : List Value, W.heap[g]? = some (.cells cs.toArray 3 (0, 0)) ∧ cs.length = zs.length + 5 ∧ (∀ q, q < zs.length → cs[q]? = some (.int .i64 (zs.getD q 0))) ∧ ∀ q, zs.length ≤ q → q < zs.length + 5 → cs[q]? = some (.int .i64 (-77))
theorem Wide.up {W W' : World} {g : Nat} {zs : List Int} (h : Wide W g zs) (u : Up W W') : Wide W' g zs := by
  obtain ⟨cs, h1, h2⟩ := h
  exact ⟨cs, u.heap h1, h2⟩
theorem Wide.lies {W : World} {g : Nat} {zs : List Int} (h : Wide W g zs) (cap : Nat) : LiesI W (.slice (some ⟨g, 0, none⟩) zs.length cap) zs := by
  obtain ⟨cs, h1, h2, h3, -⟩ := h
  exact ⟨_, cap, rfl, fun _ => ⟨g, 0, rfl, fun i hi => by simp [World.cell?, h1, h3 i hi]⟩⟩
theorem row_atI {W : World} {gl : Nat} {cs : List Value} (h : W.heap[gl]? = some (.cells cs.toArray 3 (0, 0))) (i : Nat) : W.cell? ⟨gl, i, none⟩ = cs[i]? ∧ W.frozen? ⟨gl, i, none⟩ = false := ⟨by simp [World.cell?, h], by simp [World.frozen?, h]⟩
theorem row_putI {W : World} {gl : Nat} {cs : List Value} (h : W.heap[gl]? = some (.cells cs.toArray 3 (0, 0))) (i : Nat) (a : Value) : (W.setCell ⟨gl, i, none⟩ a).heap[gl]? = some (.cells (cs.set i a).toArray 3 (0, 0)) := by
  simp only [World.setCell, Array.getElem?_modify]
  rw [h]
  simp
def WidePost (w : World) (zs : List Int) (e : Ending) (w' : World) : Prop := e = .returned (.slice (some ⟨w.heap.size, 0, none⟩) zs.length (zs.length + 5)) ∧ Wide w' w.heap.size zs ∧ Up w w'
end IN
end Go.Proofs.Ytgonflnmkfgfhaa
