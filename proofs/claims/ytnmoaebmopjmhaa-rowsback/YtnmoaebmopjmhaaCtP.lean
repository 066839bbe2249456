/-
  What Cut does with a list of pairs.
-/
import Derived.Test.YtnmoaebmopjmhaaPtP
namespace Go.Proofs.Ytnmoaebmopjmhaa
open Go.RowKit
attribute [local go_sem ↓] Go.wp_at_zero Go.wp_at_succ

namespace PR
open IN AP CU OD
def CutPostP (w : World) (n k : Nat) (cs : List Value) (x : PX) (e : Ending) (w' : World) : Prop := ∃ g, w.heap.size ≤ g ∧ e = .returned (.tuple #[.slice (some ⟨g, 0, none⟩) (n - 1) (n - 1), .agg #[.int .i8 x.1, .string x.2], .bool true]) ∧ w'.heap[g]? = some (.cells (cs.take (k * 2) ++ cs.drop ((k + 1) * 2)).toArray 82 (0, 0)) ∧ Up w w'
set_option maxRecDepth 100000 in
set_option maxHeartbeats 4000000 in
theorem cutP (b off n cap k : Nat) (cs : List Value) (x : PX) (w : World) (hsrc : ∀ j x, cs[j]? = some x → w.cell? ⟨b, off + j, none⟩ = some x) (hl : cs.length = n * 2) (hk : k < n) (hc : n ≤ cap) (hm : n ≤ 10000000) (h1 : ∀ u ∈ cs, u.oneCell' = true) (hx : cs[k * 2]? = some (.int .i8 x.1) ∧ cs[k * 2 + 1]? = some (.string x.2)) :
    Calls Try.prog 41 #[.slice (some ⟨b, off, none⟩) n cap, .int .i64 k] w (CutPostP w n k cs x) := by
  obtain ⟨iT, hiT, z0, z1, z2⟩ := info_parts infoPr
  obtain ⟨Post, hPost⟩ : ∃ P : Ending → World → Prop, P = CutPostP w n k cs x := ⟨_, rfl⟩
  rw [← hPost]
  have HPost : Hid (Post = CutPostP w n k cs x) := hPost
  have HSRC : Hid (∀ j x, cs[j]? = some x → w.cell? ⟨b, off + j, none⟩ = some x) := hsrc
  have HX : Hid _ := hx
  have hblt : b < w.heap.size := World.block_lt_of_cell? w _ (hsrc _ _ hx.1)
  obtain ⟨W0, hW0⟩ : ∃ W0, W0 = w.alloc (.cells #[.int .i8 0, .string ⟨#[]⟩] 82) := ⟨_, rfl⟩
  have HU0 : Hid (Up w W0) := by unfold Hid; rw [hW0]; exact (Up.refl _).alloc _
  obtain ⟨xb, hxb⟩ : ∃ xb, xb = w.heap.size := ⟨_, rfl⟩
  have HXB : Hid (W0.heap[xb]? = some (.cells #[.int .i8 0, .string ⟨#[]⟩] 82 (0, 0))) := by unfold Hid; rw [hW0, hxb]; exact heap_alloc_new w _
  obtain ⟨g, hg⟩ : ∃ g, g = W0.heap.size := ⟨_, rfl⟩
  have HG : Hid (g = W0.heap.size) := hg
  have HGX : Hid (w.heap.size ≤ g) := by unfold Hid; rw [hg]; exact HU0.out.size
  obtain ⟨c1, hc1⟩ : ∃ c, c = cs.take (k * 2) := ⟨_, rfl⟩
  obtain ⟨c2, hc2⟩ : ∃ c, c = cs.drop ((k + 1) * 2) := ⟨_, rfl⟩
  have HC1 : Hid (c1 = cs.take (k * 2)) := hc1
  have HC2 : Hid (c2 = cs.drop ((k + 1) * 2)) := hc2
  have H1 : Hid (∀ u ∈ cs, u.oneCell' = true) := h1
  obtain ⟨m, hmm⟩ : ∃ m, n = m + 1 := ⟨n - 1, by omega⟩
  subst hmm
  have hl1 : c1.length = k * 2 := by rw [hc1, List.length_take]; omega
  have hl2 : c2.length = (m - k) * 2 := by rw [hc2, List.length_drop]; omega
  have hkn : (k : Int) < (m : Int) + 1 := by omega
  have hkc : (k : Int) ≤ (cap : Int) := by omega
  have hkn1 : (k : Int) ≤ (m : Int) := by omega
  have hmc : (m : Int) + 1 ≤ (cap : Int) := by omega
  have hk0 : ¬ (k : Int) < 0 := by omega
  have HW0 : Hid (W0 = w.alloc (.cells #[.int .i8 0, .string ⟨#[]⟩] 82)) := hW0
  have HXB2 : Hid (xb = w.heap.size) := hxb
  clear h1 hsrc hc1 hc2 hPost hW0 hg hxb hx
  go_enter Try.func41, Try.ntmps41
  go_wp2_with (first
    | (at_make; rw [← HW0.out]; refine wpList_make_full _ rfl _ _ 79 rfl W0.heap.size 82 iT (.agg #[.int .i8 0, .string ⟨#[]⟩]) 2 Try.underlying79 hiT z0 z1 .i64 .i64 _ _ m rfl rfl rfl rfl (by rw [z2]; omega) (by unfold maxLen; omega) (Nat.le_refl _) ?_; intro w1 hin hg1; rw [← HG.out] at hin ⊢; have hu1 := made_up hg1; obtain ⟨zs, hrow, hzl⟩ : ∃ zs : List Value, w1.heap[g]? = some (.cells zs.toArray 82 (0, 0)) ∧ zs.length = m * 2 := ⟨_, row_made hin, hin.1⟩; have HROW1 : Hid (w1.heap[g]? = some (.cells zs.toArray 82 (0, 0))) := hrow; have HU1 : Hid (Up W0 w1) := hu1; clear hin hg1 hrow hu1)
    | (refine wpList_slice_h (by rfl) 79 (.tmp 23) (.tmp 24) (by rfl) 82 2 Try.underlying79 sizePr (some ⟨b, off, none⟩) (m + 1) cap k (by rfl) (by rfl) (by omega) ?_)
    | (refine wpList_copyS _ (by rfl) (.tmp 22) (.tmp 25) 79 79 (by rfl) 82 2 (by decide) (some ⟨g, 0, none⟩) (some ⟨b, off, none⟩) m m k cap (by rfl) (by rfl) g 0 _ 82 Try.underlying79 sizePr HROW1.out c1 (by rw [hl1, show Nat.min k m = k from Nat.min_eq_left (by omega)]) (fun _ => ⟨rfl, ⟨b, off, none⟩, rfl, src_take HSRC.out (HU0.out.trans HU1.out) HC1.out⟩) (by rw [hl1, hzl]; omega) (fun u hu => H1.out u (List.mem_of_mem_take (by rw [← HC1.out]; exact hu))) ?_; intro w2 hrow2 ho2))
  have hz2 : (splice zs 0 c1).length = m * 2 := by rw [length_splice _ _ _ (by rw [hzl, hl1]; omega)]; exact hzl
  have HROW2 : Hid (w2.heap[g]? = some (.cells (splice zs 0 c1).toArray 82 (0, 0))) := hrow2
  have HU2 : Hid (Up W0 w2) := HU1.out.trans' ho2 (by rw [HG.out]; exact Nat.le_refl _)
  have HFIN : Hid (splice (splice zs 0 c1) (k * 2) c2 = cs.take (k * 2) ++ cs.drop ((k + 1) * 2)) := by
    have := splice_two zs c1 c2 (by rw [hzl, hl1, hl2]; omega)
    rw [hl1] at this
    unfold Hid
    rw [this, HC1.out, HC2.out]
  have HZ2 : Hid ((splice zs 0 c1).length = m * 2) := hz2
  have n1 : (k : Int) + 1 ≤ (m : Int) + 1 := by omega
  have n2 : (0 : Int) ≤ (k : Int) + 1 := by omega
  have n3 : ((k : Int) + 1).toNat = k + 1 := by omega
  have n4 : (k : Int) + 1 ≤ (cap : Int) := by omega
  have n8 : IntKind.i64.wrap ((k : Int) + 1) = (k : Int) + 1 := IntWalk.i64_in _ ⟨by omega, by omega⟩
  clear hrow2 ho2 HROW1 HU1 hz2 hzl
  by_cases hkm : k < m
  · have n5 : ¬ m = k := by omega
    have n6 : ¬ cap = k + 1 := by omega
    have n7 : ¬ (m : Int) = (k : Int) := by omega
    obtain ⟨W, hrun, hrow3a, ho3⟩ := run_copyS (P := Try.prog) w2.drew 79 79 3 82 2 (by decide) (some ⟨g, k * 2, none⟩) (some ⟨b, off + (k + 1) * 2, none⟩) (m - k) (m - k) (m - k) (cap - (k + 1)) g (k * 2) (splice zs 0 c1) 82 Try.underlying79 sizePr HROW2.out c2 (by rw [hl2, show Nat.min (m - k) (m - k) = m - k from Nat.min_self _]) (fun _ => ⟨rfl, _, rfl, src_drop HSRC.out (HU0.out.trans HU2.out).drew HC2.out⟩) (by rw [hl2, HZ2.out]; omega) (fun u hu => H1.out u (List.mem_of_mem_drop (by rw [← HC2.out]; exact hu)))
    have hrow3 : W.heap[g]? = some (.cells (cs.take (k * 2) ++ cs.drop ((k + 1) * 2)).toArray 82 (0, 0)) := by rw [hrow3a, HFIN.out]
    have hu3 : Up W0 W := (Up.drew HU2.out).trans' ho3 (by rw [HG.out]; exact Nat.le_refl _)
    clear hrow3a ho3
    go_region
    have cx : W.cell? ⟨b, off + k * 2, none⟩ = some (.int .i8 x.1) := (HU0.out.trans hu3).cell (HSRC.out _ _ HX.out.1)
    have cx2 : W.cell? ⟨b, off + k * 2 + 1, none⟩ = some (.string x.2) := by rw [Nat.add_assoc]; exact (HU0.out.trans hu3).cell (HSRC.out _ _ HX.out.2)
    have bx := hu3.heap HXB.out
    rw [HXB2.out] at bx
    have bx1 : W.cell? ⟨w.heap.size, 0, none⟩ = some (.int .i8 0) := by simp [World.cell?, bx]
    have bx2 : W.cell? ⟨w.heap.size, 1, none⟩ = some (.string ⟨#[]⟩) := by simp [World.cell?, bx]
    have bf : ∀ j, W.frozen? ⟨w.heap.size, j, none⟩ = false := fun j => by simp [World.frozen?, bx]
    have bf2 : ∀ a, (W.setCell ⟨w.heap.size, 0, none⟩ a).frozen? ⟨w.heap.size, 1, none⟩ = false := fun a => by rw [World.frozen?_setCell]; exact bf 1
    have HR3 : Hid (W.heap[g]? = some (.cells (cs.take (k * 2) ++ cs.drop ((k + 1) * 2)).toArray 82 (0, 0)) ∧ Up W0 W) := ⟨hrow3, hu3⟩
    clear hrow3 hu3 bx hrun
    go_wp2_with fail
    go_region
    have HF : Hid (((W.setCell ⟨w.heap.size, 0, none⟩ (.int .i8 x.1)).setCell ⟨w.heap.size, 1, none⟩ (.string x.2)).drew.heap[g]? = some (.cells (cs.take (k * 2) ++ cs.drop ((k + 1) * 2)).toArray 82 (0, 0)) ∧ Up w ((W.setCell ⟨w.heap.size, 0, none⟩ (.int .i8 x.1)).setCell ⟨w.heap.size, 1, none⟩ (.string x.2)).drew) := by
      have hgx : g ≠ w.heap.size := by have h8 := (Array.getElem?_eq_some_iff.1 HXB.out).1; have := HG.out; have := HXB2.out; omega
      refine ⟨?_, Up.drew (Below.setCell (Below.setCell (HU0.out.trans HR3.out.2) (Nat.le_refl _) _) (Nat.le_refl _) _)⟩
      show (((W.setCell _ _).setCell _ _)).heap[g]? = _
      rw [Below.heap_setCell _ _ _ _ hgx, Below.heap_setCell _ _ _ _ hgx]
      exact HR3.out.1
    have c0 : ((W.setCell ⟨w.heap.size, 0, none⟩ (.int .i8 x.1)).setCell ⟨w.heap.size, 1, none⟩ (.string x.2)).drew.cell? ⟨w.heap.size, 0, none⟩ = some (.int .i8 x.1) := by simp [go_sem, bx1]
    have c1' : ((W.setCell ⟨w.heap.size, 0, none⟩ (.int .i8 x.1)).setCell ⟨w.heap.size, 1, none⟩ (.string x.2)).drew.cell? ⟨w.heap.size, 1, none⟩ = some (.string x.2) := by simp [go_sem, bx2]
    generalize ((W.setCell ⟨w.heap.size, 0, none⟩ (.int .i8 x.1)).setCell ⟨w.heap.size, 1, none⟩ (.string x.2)).drew = W9 at *
    clear bx1 bx2 bf bf2 cx cx2
    go_wp2
    refine bodyPost_ret (v := .tuple #[.slice (some ⟨g, 0, none⟩) m m, .agg #[.int .i8 x.1, .string x.2], .bool true]) (by simp [results, Try.results41, go_sem, c0, c1']) rfl ?_
    rw [HPost.out]
    exact ⟨g, HGX.out, rfl, HF.out.1, HF.out.2⟩
  · obtain rfl : k = m := by omega
    have hc0 : c2 = [] := List.eq_nil_of_length_eq_zero (by rw [hl2]; simp)
    obtain ⟨W, hW⟩ : ∃ W, W = w2.drew := ⟨_, rfl⟩
    have HW : Hid (W = w2.drew) := hW
    have hrun : ∀ dp sp dc sc, (Builtin.copy_ #[79, 79] 3 #[.slice dp 0 dc, .slice sp 0 sc]).run Try.prog w2.drew = .ok (goInt 0) w2.drew := fun dp sp dc sc => run_copy0 w2.drew 79 79 3 82 2 Try.underlying79 sizePr dp sp 0 dc sc
    have hrow3 : W.heap[g]? = some (.cells (cs.take (k * 2) ++ cs.drop ((k + 1) * 2)).toArray 82 (0, 0)) := by
      rw [← HFIN.out, hc0, show ∀ l : List Value, splice l (k * 2) [] = l from fun l => by simp [splice], hW]
      exact HROW2.out
    have hu3 : Up W0 W := by rw [hW]; exact HU2.out.drew
    clear hW
    by_cases hcm : cap = k + 1
    · subst hcm
      go_region
      rw [← HW.out]
      have cx : W.cell? ⟨b, off + k * 2, none⟩ = some (.int .i8 x.1) := (HU0.out.trans hu3).cell (HSRC.out _ _ HX.out.1)
      have cx2 : W.cell? ⟨b, off + k * 2 + 1, none⟩ = some (.string x.2) := by rw [Nat.add_assoc]; exact (HU0.out.trans hu3).cell (HSRC.out _ _ HX.out.2)
      have bx := hu3.heap HXB.out
      rw [HXB2.out] at bx
      have bx1 : W.cell? ⟨w.heap.size, 0, none⟩ = some (.int .i8 0) := by simp [World.cell?, bx]
      have bx2 : W.cell? ⟨w.heap.size, 1, none⟩ = some (.string ⟨#[]⟩) := by simp [World.cell?, bx]
      have bf : ∀ j, W.frozen? ⟨w.heap.size, j, none⟩ = false := fun j => by simp [World.frozen?, bx]
      have bf2 : ∀ a, (W.setCell ⟨w.heap.size, 0, none⟩ a).frozen? ⟨w.heap.size, 1, none⟩ = false := fun a => by rw [World.frozen?_setCell]; exact bf 1
      have HR3 : Hid (W.heap[g]? = some (.cells (cs.take (k * 2) ++ cs.drop ((k + 1) * 2)).toArray 82 (0, 0)) ∧ Up W0 W) := ⟨hrow3, hu3⟩
      clear hrow3 hu3 bx hrun
      go_wp2_with fail
      go_region
      have HF : Hid (((W.setCell ⟨w.heap.size, 0, none⟩ (.int .i8 x.1)).setCell ⟨w.heap.size, 1, none⟩ (.string x.2)).drew.heap[g]? = some (.cells (cs.take (k * 2) ++ cs.drop ((k + 1) * 2)).toArray 82 (0, 0)) ∧ Up w ((W.setCell ⟨w.heap.size, 0, none⟩ (.int .i8 x.1)).setCell ⟨w.heap.size, 1, none⟩ (.string x.2)).drew) := by
        have hgx : g ≠ w.heap.size := by have h8 := (Array.getElem?_eq_some_iff.1 HXB.out).1; have := HG.out; have := HXB2.out; omega
        refine ⟨?_, Up.drew (Below.setCell (Below.setCell (HU0.out.trans HR3.out.2) (Nat.le_refl _) _) (Nat.le_refl _) _)⟩
        show (((W.setCell _ _).setCell _ _)).heap[g]? = _
        rw [Below.heap_setCell _ _ _ _ hgx, Below.heap_setCell _ _ _ _ hgx]
        exact HR3.out.1
      have c0 : ((W.setCell ⟨w.heap.size, 0, none⟩ (.int .i8 x.1)).setCell ⟨w.heap.size, 1, none⟩ (.string x.2)).drew.cell? ⟨w.heap.size, 0, none⟩ = some (.int .i8 x.1) := by simp [go_sem, bx1]
      have c1' : ((W.setCell ⟨w.heap.size, 0, none⟩ (.int .i8 x.1)).setCell ⟨w.heap.size, 1, none⟩ (.string x.2)).drew.cell? ⟨w.heap.size, 1, none⟩ = some (.string x.2) := by simp [go_sem, bx2]
      generalize ((W.setCell ⟨w.heap.size, 0, none⟩ (.int .i8 x.1)).setCell ⟨w.heap.size, 1, none⟩ (.string x.2)).drew = W9 at *
      clear bx1 bx2 bf bf2 cx cx2
      go_wp2
      refine bodyPost_ret (v := .tuple #[.slice (some ⟨g, 0, none⟩) k k, .agg #[.int .i8 x.1, .string x.2], .bool true]) (by simp [results, Try.results41, go_sem, c0, c1']) rfl ?_
      rw [HPost.out]
      exact ⟨g, HGX.out, rfl, HF.out.1, HF.out.2⟩
    · go_region
      rw [← HW.out]
      have cx : W.cell? ⟨b, off + k * 2, none⟩ = some (.int .i8 x.1) := (HU0.out.trans hu3).cell (HSRC.out _ _ HX.out.1)
      have cx2 : W.cell? ⟨b, off + k * 2 + 1, none⟩ = some (.string x.2) := by rw [Nat.add_assoc]; exact (HU0.out.trans hu3).cell (HSRC.out _ _ HX.out.2)
      have bx := hu3.heap HXB.out
      rw [HXB2.out] at bx
      have bx1 : W.cell? ⟨w.heap.size, 0, none⟩ = some (.int .i8 0) := by simp [World.cell?, bx]
      have bx2 : W.cell? ⟨w.heap.size, 1, none⟩ = some (.string ⟨#[]⟩) := by simp [World.cell?, bx]
      have bf : ∀ j, W.frozen? ⟨w.heap.size, j, none⟩ = false := fun j => by simp [World.frozen?, bx]
      have bf2 : ∀ a, (W.setCell ⟨w.heap.size, 0, none⟩ a).frozen? ⟨w.heap.size, 1, none⟩ = false := fun a => by rw [World.frozen?_setCell]; exact bf 1
      have HR3 : Hid (W.heap[g]? = some (.cells (cs.take (k * 2) ++ cs.drop ((k + 1) * 2)).toArray 82 (0, 0)) ∧ Up W0 W) := ⟨hrow3, hu3⟩
      clear hrow3 hu3 bx hrun
      go_wp2_with fail
      go_region
      have HF : Hid (((W.setCell ⟨w.heap.size, 0, none⟩ (.int .i8 x.1)).setCell ⟨w.heap.size, 1, none⟩ (.string x.2)).drew.heap[g]? = some (.cells (cs.take (k * 2) ++ cs.drop ((k + 1) * 2)).toArray 82 (0, 0)) ∧ Up w ((W.setCell ⟨w.heap.size, 0, none⟩ (.int .i8 x.1)).setCell ⟨w.heap.size, 1, none⟩ (.string x.2)).drew) := by
        have hgx : g ≠ w.heap.size := by have h8 := (Array.getElem?_eq_some_iff.1 HXB.out).1; have := HG.out; have := HXB2.out; omega
        refine ⟨?_, Up.drew (Below.setCell (Below.setCell (HU0.out.trans HR3.out.2) (Nat.le_refl _) _) (Nat.le_refl _) _)⟩
        show (((W.setCell _ _).setCell _ _)).heap[g]? = _
        rw [Below.heap_setCell _ _ _ _ hgx, Below.heap_setCell _ _ _ _ hgx]
        exact HR3.out.1
      have c0 : ((W.setCell ⟨w.heap.size, 0, none⟩ (.int .i8 x.1)).setCell ⟨w.heap.size, 1, none⟩ (.string x.2)).drew.cell? ⟨w.heap.size, 0, none⟩ = some (.int .i8 x.1) := by simp [go_sem, bx1]
      have c1' : ((W.setCell ⟨w.heap.size, 0, none⟩ (.int .i8 x.1)).setCell ⟨w.heap.size, 1, none⟩ (.string x.2)).drew.cell? ⟨w.heap.size, 1, none⟩ = some (.string x.2) := by simp [go_sem, bx2]
      generalize ((W.setCell ⟨w.heap.size, 0, none⟩ (.int .i8 x.1)).setCell ⟨w.heap.size, 1, none⟩ (.string x.2)).drew = W9 at *
      clear bx1 bx2 bf bf2 cx cx2
      go_wp2
      refine bodyPost_ret (v := .tuple #[.slice (some ⟨g, 0, none⟩) k k, .agg #[.int .i8 x.1, .string x.2], .bool true]) (by simp [results, Try.results41, go_sem, c0, c1']) rfl ?_
      rw [HPost.out]
      exact ⟨g, HGX.out, rfl, HF.out.1, HF.out.2⟩
end PR
end Go.Proofs.Ytnmoaebmopjmhaa
