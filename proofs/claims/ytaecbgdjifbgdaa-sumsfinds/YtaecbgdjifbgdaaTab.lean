/-
  The table of package sums and of the document: 256 numbers, each the number of its place behind eight shifts, handed out as a value.
-/
import Derived.Test.YtaecbgdjifbgdaaSums
import Derived.Deep.WholeRow
import Derived.Laws.ResultCell
namespace Go.Proofs.Ytaecbgdjifbgdaa
open Go.RowKit

def tabC (k : Nat) : Array Value := ((List.range 256).map fun i => Value.int .u32 ((if i < k then Sn 8 i else 0 : Nat) : Int)).toArray
theorem tabC_zero : tabC 0 = Array.replicate 256 (.int .u32 0) := by
  unfold tabC
  apply Array.ext
  · simp
  · intro i h1 h2; simp
theorem tabC_size (k : Nat) : (tabC k).size = 256 := by simp [tabC]
theorem tabC_at (k i : Nat) (h : i < 256) : (tabC k)[i]? = some (.int .u32 ((if i < k then Sn 8 i else 0 : Nat) : Int)) := by
  simp [tabC, h]
theorem tabC_set (k : Nat) : (tabC k).setIfInBounds k (.int .u32 (Sn 8 k : Nat)) = tabC (k + 1) := by
  apply Array.ext
  · simp [tabC]
  · intro i h1 h2
    simp only [tabC, List.setIfInBounds_toArray, List.getElem_toArray, List.getElem_set, List.getElem_map, List.getElem_range]
    by_cases e : k = i
    · subst e; simp
    · rw [if_neg e]
      by_cases hik : i < k
      · rw [if_pos hik, if_pos (show i < k + 1 by omega)]
      · rw [if_neg hik, if_neg (show ¬ i < k + 1 by omega)]
theorem tabC_one (k : Nat) : (tabC k).all (·.oneCell') = true := by
  unfold tabC
  rw [Array.all_eq_true_iff_forall_mem]
  intro v hv
  simp at hv
  obtain ⟨i, _, rfl⟩ := hv
  rfl
theorem info34 : (Try.prog.info? 34).map (fun i => (i.zero, i.size)) = some (some (.agg (Array.replicate 256 (.int .u32 0))), 256) := by kernel_rfl

theorem up_row {a w : World} (h : Up a w) {g : Nat} (hg : a.heap.size ≤ g) (c : Array Value) : Up a (w.setRow g c) := by
  refine Below.trans h ⟨rfl, rfl, rfl, by simp, fun k hk => setRow_other w g k c (by omega)⟩
set_option maxHeartbeats 1000000 in
set_option maxRecDepth 100000 in
theorem table (w : World) :
    Calls Try.prog 21 #[] w fun e w' => e = .returned (.agg (tabC 256)) ∧ Up w w' := by
  obtain ⟨hv34, hi34⟩ := zero_of_info (P := Try.prog) info34
  go_enter Try.func21, Try.ntmps21
  go_wp2_with fail
  rw [← tabC_zero]
  clear hv34
  go_loopw [4] (fun s4 wr => ∃ k : Nat, k ≤ 256 ∧ s4 = .int .i64 k ∧ wr = (w.alloc (.cells (tabC 0) 34)).alloc (.cells (tabC k) 34)) (fun i _ => 256 - (intOf i).toNat)
  case atStart => exact ⟨0, by omega, rfl, rfl⟩
  case round =>
    obtain ⟨k, hk, rfl, rfl⟩ := hrel
    by_cases hlt : k < 256
    · have hki : (k : Int) < 256 := by omega
      have hw : IntKind.u32.wrap (k : Int) = k := by rw [IntKind.wrap_u32']; omega
      go_wp2_with fail
      go_loop [3, 9] (fun s3 s9 => ∃ j x : Nat, j ≤ 8 ∧ x < 4294967296 ∧ Sn j x = Sn 8 k ∧ s3 = .int .u32 x ∧ s9 = .int .i64 ((8 - j : Nat) : Int)) (fun _ i => 8 - (intOf i).toNat)
      case atStart => exact ⟨8, k, by omega, by omega, rfl, rfl, rfl⟩
      case round =>
        obtain ⟨j, x, hj, hx, hm, rfl, rfl⟩ := hrel
        have HM : Hid (Sn j x = Sn 8 k) := hm
        clear hm
        cases j with
        | zero =>
          have HP : Hid (x = Sn 8 k) := HM.out
          have hcell : (tabC k)[k]? = some (.int .u32 0) := by rw [tabC_at k k hlt, if_neg (Nat.lt_irrefl k)]; rfl
          have HW2 : Hid ((tabC k).setIfInBounds k (.int .u32 x) = tabC (k + 1)) := by unfold Hid; rw [HP.out]; exact tabC_set k
          go_wp2_with fail
          go_roundw
          case rel => exact ⟨k + 1, by omega, by go_num, by rw [HW2.out]⟩
          case measure => simp [intOf]; omega
        | succ j =>
          have hi : ((8 - (j + 1) : Nat) : Int) = 7 - (j : Int) := by omega
          rw [hi]
          have hk8 : (7 - (j : Int) < 8) := by omega
          have HN : Hid (Sn j (S x) = Sn 8 k) := HM.out
          have hs := S_lt hx
          go_wp2_with (go_at_call 34; refine (shifted x _ hx).mono ?_; rintro e w' ⟨rfl, rfl⟩)
          go_round
          case rel => exact ⟨j, S x, by omega, hs, HN.out, rfl, by go_num⟩
          case measure => simp [intOf]; omega
    · obtain rfl : k = 256 := by omega
      have hg1 : ((w.alloc (.cells (tabC 0) 34)).alloc (.cells (tabC 256) 34)).heap[w.heap.size + 1]? = some (.cells (tabC 256) 34 (0, 0)) := by
        rw [show w.heap.size + 1 = (w.alloc (.cells (tabC 0) 34)).heap.size by simp]; exact heap_alloc_last _ _
      have hg0 : ((w.alloc (.cells (tabC 0) 34)).alloc (.cells (tabC 256) 34)).heap[w.heap.size]? = some (.cells (tabC 0) 34 (0, 0)) := by
        rw [Below.heap_alloc _ _ _ (by simp)]; exact heap_alloc_last _ _
      have hU : Up w ((w.alloc (.cells (tabC 0) 34)).alloc (.cells (tabC 256) 34)) := ((Up.refl _).alloc _).alloc _
      have hi : (Try.prog.info? 34).map (·.size) = some (tabC 256).size := by rw [tabC_size]; exact hi34
      generalize (w.alloc (.cells (tabC 0) 34)).alloc (.cells (tabC 256) 34) = v at *
      go_wp2_with (first
        | (refine wpList_load_row rfl 34 (.tmp 1) rfl (w.heap.size + 1) rfl 34 (tabC 256) (0, 0) _ hg1 Try.underlying34 rfl hi ?_)
        | (refine wpList_store_row rfl 34 (.tmp 0) (.tmp 18) rfl w.heap.size (tabC 256) rfl rfl 34 (tabC 0) hg0 hi (by rw [tabC_size, tabC_size]) (tabC_one _) ?_))
      (try simp only [Exit.inBlock, Exit.then])
      refine bodyPost_ret (v := .agg (tabC 256)) (results_cell_row (p := 0) (ty := 34) rfl _ _ w.heap.size 34 (tabC 256) (0, 0) _ rfl (setRow_heap _ _ (tabC 0) _ _ _ hg0) Try.underlying34 rfl hi) rfl ⟨rfl, up_row hU (Nat.le_refl _) _⟩
end Go.Proofs.Ytaecbgdjifbgdaa
