
/-
  What Cut does with a list of strings.
-/
import Derived.Test.YtgonflnmkfgfhaaSl
namespace Go.Proofs.Ytgonflnmkfgfhaa
open Go.RowKit
attribute [local go_sem ↓] Go.wp_at_zero Go.wp_at_succ

namespace LS
theorem infoT : (Try.prog.info? 9).map (fun i => (i.zero, i.size, i.bytes)) = some (some (.string ⟨#[]⟩), 1, 16) := by kernel_rfl
theorem sizeT : (Try.prog.info? 9).map (·.size) = some 1 := by kernel_rfl
set_option maxHeartbeats 1000000 in
theorem cut_bad (v : Value) (n : Nat) (cs : List Value) (at_ : Int) (w : World) (h : LC w v 1 n cs) (hb : at_ < 0 ∨ (n : Int) ≤ at_) :
    Calls Try.prog 23 #[v, .int .i64 at_] w fun e w' => e = .returned (.tuple #[.slice none 0 0, .string ⟨#[]⟩, .bool false]) ∧ Up w w' := by
  obtain ⟨-, a, cap, rfl, -, -⟩ := h
  have hb' : at_ < 0 ∨ (0 ≤ at_ ∧ (n : Int) ≤ at_) := by omega
  clear hb
  rcases hb' with hb | ⟨hb, hb2⟩
  · go_enter Try.func23, Try.ntmps23
    go_wp2
    go_ret3
    exact ⟨rfl, Up.refl _⟩
  · go_enter Try.func23, Try.ntmps23
    go_wp2
    go_ret3
    exact ⟨rfl, Up.refl _⟩
def CutPost (w : World) (n k : Nat) (cs : List Value) (x : ByteArray) (e : Ending) (w' : World) : Prop := ∃ g, w.heap.size ≤ g ∧ e = .returned (.tuple #[.slice (some ⟨g, 0, none⟩) (n - 1) (n - 1), .string x, .bool true]) ∧ w'.heap[g]? = some (.cells (cs.take (k * 1) ++ cs.drop ((k + 1) * 1)).toArray 9 (0, 0)) ∧ Up w w'
set_option maxRecDepth 100000 in
set_option maxHeartbeats 4000000 in
theorem cut (v : Value) (n k : Nat) (cs : List Value) (x : ByteArray) (w : World) (h : LC w v 1 n cs) (hk : k < n) (hm : n ≤ 10000000) (h1 : ∀ u ∈ cs, u.oneCell' = true) (hx : cs[k]? = some (.string x)) :
    Calls Try.prog 23 #[v, .int .i64 k] w (CutPost w n k cs x) := by
  obtain ⟨iT, hiT, z0, z1, z2⟩ := info_parts infoT
  obtain ⟨Post, hPost⟩ : ∃ P : Ending → World → Prop, P = CutPost w n k cs x := ⟨_, rfl⟩
  rw [← hPost]
  have HPost : Hid (Post = CutPost w n k cs x) := hPost
  have HV : Hid (LC w v 1 n cs) := h
  obtain ⟨hl, a, cap, rfl, hcap, hcell⟩ := h
  obtain ⟨b, off, rfl, -⟩ := hcell (by omega)
  have hsrc := HV.out.src rfl (by omega)
  have hblt : b < w.heap.size := by
    have := hsrc 0 (cs.getD 0 undef) (by rw [List.getD_eq_getElem?_getD, List.getElem?_eq_getElem (by omega)]; rfl)
    exact World.block_lt_of_cell? w _ this
  have HSRC : Hid (∀ j x, cs[j]? = some x → w.cell? ⟨b, off + j, none⟩ = some x) := hsrc
  obtain ⟨c1, hc1⟩ : ∃ c, c = cs.take (k * 1) := ⟨_, rfl⟩
  obtain ⟨c2, hc2⟩ : ∃ c, c = cs.drop ((k + 1) * 1) := ⟨_, rfl⟩
  have hl1 : c1.length = k * 1 := by rw [hc1, List.length_take]; omega
  have hl2 : c2.length = (n - 1 - k) * 1 := by rw [hc2, List.length_drop]; omega
  have HC1 : Hid (c1 = cs.take (k * 1)) := hc1
  have HC2 : Hid (c2 = cs.drop ((k + 1) * 1)) := hc2
  have HX : Hid _ := hx
  have H1 : Hid (∀ u ∈ cs, u.oneCell' = true) := h1
  obtain ⟨m, hmm⟩ : ∃ m, n = m + 1 := ⟨n - 1, by omega⟩
  subst hmm
  have hkn : (k : Int) < (m : Int) + 1 := by omega
  have hkc : (k : Int) ≤ (cap : Int) := by omega
  have hkn1 : (k : Int) ≤ (m : Int) := by omega
  have hmc : (m : Int) + 1 ≤ (cap : Int) := by omega
  rw [show m + 1 - 1 - k = m - k by omega] at hl2
  clear h1 hx hsrc hc1 hc2 hcell hPost
  go_enter Try.func23, Try.ntmps23
  go_wp2_with (first
    | (at_make; refine wpList_make_full _ rfl _ _ 61 rfl w.heap.size 9 iT (.string ⟨#[]⟩) 1 Try.underlying61 hiT z0 z1 .i64 .i64 _ _ m rfl rfl rfl rfl (by rw [z2]; omega) (by unfold maxLen; omega) (Nat.le_refl _) ?_; intro w1 hin hg1; have hu1 := made_up hg1; obtain ⟨zs, hrow, hzl⟩ : ∃ zs : List Value, w1.heap[w.heap.size]? = some (.cells zs.toArray 9 (0, 0)) ∧ zs.length = m * 1 := ⟨_, row_made hin, hin.1⟩; have HROW1 : Hid (w1.heap[w.heap.size]? = some (.cells zs.toArray 9 (0, 0))) := hrow; have HU1 : Hid (Up w w1) := hu1; clear hin hg1 hrow hu1)
    | (refine wpList_slice_h (by rfl) 61 (.tmp 23) (.tmp 24) (by rfl) 9 1 Try.underlying61 sizeT (some ⟨b, off, none⟩) (m + 1) cap k (by rfl) (by rfl) (by omega) ?_)
    | (refine wpList_copyS _ (by rfl) (.tmp 22) (.tmp 25) 61 61 (by rfl) 9 1 (by decide) (some ⟨w.heap.size, 0, none⟩) (some ⟨b, off, none⟩) m m k cap (by rfl) (by rfl) w.heap.size 0 _ 9 Try.underlying61 sizeT HROW1.out c1 (by rw [hl1, show Nat.min k m = k from Nat.min_eq_left (by omega)]) (fun _ => ⟨rfl, ⟨b, off, none⟩, rfl, src_take HSRC.out HU1.out HC1.out⟩) (by rw [hl1, hzl, Nat.zero_add]; exact Nat.mul_le_mul_right _ (by omega)) (fun u hu => H1.out u (List.mem_of_mem_take (by rw [← HC1.out]; exact hu))) ?_; intro w2 hrow2 ho2))
  have hz2 : (splice zs 0 c1).length = m * 1 := by
    rw [length_splice _ _ _ (by rw [hzl, hl1, Nat.zero_add]; exact Nat.mul_le_mul_right _ (by omega))]; exact hzl
  obtain ⟨r2, hr2⟩ : ∃ r, r = splice zs 0 c1 := ⟨_, rfl⟩
  have HR2 : Hid (r2 = splice zs 0 c1) := hr2
  have HU2 : Hid (Up w w2) := HU1.out.trans' ho2 (Nat.le_refl _)
  rw [← hr2] at hz2
  have HROW2 : Hid (w2.heap[w.heap.size]? = some (.cells r2.toArray 9 (0, 0))) := by unfold Hid; rw [hr2]; exact hrow2
  clear hr2 hrow2 ho2 HROW1 HU1
  have n1 : (k : Int) + 1 ≤ (m : Int) + 1 := by omega
  have n2 : (0 : Int) ≤ (k : Int) + 1 := by omega
  have n3 : ((k : Int) + 1).toNat = k + 1 := by omega
  have n4 : (k : Int) + 1 ≤ (cap : Int) := by omega
  have n8 : IntKind.i64.wrap ((k : Int) + 1) = (k : Int) + 1 := IntWalk.i64_in _ ⟨by omega, by omega⟩
  have HFIN : Hid (r2.length = m * 1 ∧ (∀ w3 : World, w3.heap[w.heap.size]? = some (.cells (splice r2 (k * 1) c2).toArray 9 (0, 0)) → w3.heap[w.heap.size]? = some (.cells (cs.take (k * 1) ++ cs.drop ((k + 1) * 1)).toArray 9 (0, 0)))) := by
    refine ⟨hz2, fun w3 h3 => ?_⟩
    rw [h3, HR2.out, ← hl1, splice_two zs c1 c2 (by
      rw [hzl, hl1, hl2, ← Nat.add_mul, show k + (m - k) = m by omega]), HC1.out, HC2.out]
    rw [show (List.take (k * 1) cs).length = k * 1 by rw [← HC1.out]; exact hl1]
  go_wp2_with fail
  by_cases hkm : k < m
  · have n5 : ¬ m = k := by omega
    have n6 : ¬ cap = k + 1 := by omega
    have n7 : ¬ (m : Int) = (k : Int) := by omega
    obtain ⟨w3, hrun, hrow3, ho3⟩ := run_copyS (P := Try.prog) w2.drew 61 61 3 9 1 (by decide) (some ⟨w.heap.size, k, none⟩) (some ⟨b, off + (k + 1), none⟩) (m - k) (m - k) (m - k) (cap - (k + 1)) w.heap.size k r2 9 Try.underlying61 sizeT HROW2.out c2 (by rw [hl2, show Nat.min (m - k) (m - k) = m - k from Nat.min_self _]) (fun _ => ⟨rfl, _, rfl, src_drop HSRC.out HU2.out.drew (by have := HC2.out; rw [Nat.mul_one] at this; exact this)⟩) (by rw [hl2, hz2]; omega) (fun u hu => H1.out u (List.mem_of_mem_drop (by rw [← HC2.out]; exact hu)))
    have HROW3 : Hid (w3.heap[w.heap.size]? = some (.cells (cs.take (k * 1) ++ cs.drop ((k + 1) * 1)).toArray 9 (0, 0))) := HFIN.out.2 w3 (by rw [Nat.mul_one]; exact hrow3)
    have HU3 : Hid (Up w w3) := (Up.drew HU2.out).trans' ho3 (Nat.le_refl _)
    clear hrow3 ho3
    go_region
    clear hrun
    have cx : w3.cell? ⟨b, off + k, none⟩ = some (.string x) := HU3.out.cell (HSRC.out k _ HX.out)
    go_wp2_with fail
    go_quiet (fail)
    go_wp2
    rw [HPost.out]
    exact ⟨w.heap.size, Nat.le_refl _, rfl, HROW3.out, HU3.out.drewN _⟩
  · obtain rfl : k = m := by omega
    have hrun : ∀ dp sp dc sc, (Builtin.copy_ #[61, 61] 3 #[.slice dp 0 dc, .slice sp 0 sc]).run Try.prog w2.drew = .ok (goInt 0) w2.drew := fun dp sp dc sc => run_copy0 w2.drew 61 61 3 9 1 Try.underlying61 sizeT dp sp 0 dc sc
    have hc0 : c2 = [] := List.eq_nil_of_length_eq_zero (by rw [hl2]; simp)
    obtain ⟨w3, hw3⟩ : ∃ w3, w3 = w2.drew := ⟨_, rfl⟩
    rw [← hw3] at hrun
    have HW3 : Hid (w3 = w2.drew) := hw3
    have HROW3 : Hid (w3.heap[w.heap.size]? = some (.cells (cs.take (k * 1) ++ cs.drop ((k + 1) * 1)).toArray 9 (0, 0))) := HFIN.out.2 w3 (by
      rw [hc0, show splice r2 (k * 1) [] = r2 by simp [splice], hw3]
      exact HROW2.out)
    have HU3 : Hid (Up w w3) := by unfold Hid; rw [hw3]; exact HU2.out.drew
    by_cases hcm : cap = k + 1
    · subst hcm
      rw [HW3.out] at hrun
      go_region
      rw [← HW3.out]
      clear hrun hw3 HW3
      have cx : w3.cell? ⟨b, off + k, none⟩ = some (.string x) := HU3.out.cell (HSRC.out k _ HX.out)
      go_wp2_with fail
      go_quiet (fail)
      go_wp2
      rw [HPost.out]
      exact ⟨w.heap.size, Nat.le_refl _, rfl, HROW3.out, HU3.out.drewN _⟩
    · rw [HW3.out] at hrun
      go_region
      rw [← HW3.out]
      clear hrun hw3 HW3
      have cx : w3.cell? ⟨b, off + k, none⟩ = some (.string x) := HU3.out.cell (HSRC.out k _ HX.out)
      go_wp2_with fail
      go_quiet (fail)
      go_wp2
      rw [HPost.out]
      exact ⟨w.heap.size, Nat.le_refl _, rfl, HROW3.out, HU3.out.drewN _⟩
end LS
end Go.Proofs.Ytgonflnmkfgfhaa
