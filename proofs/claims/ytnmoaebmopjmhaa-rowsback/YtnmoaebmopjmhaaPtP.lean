/-
  What Put does with a list of pairs.
-/
import Derived.Test.YtnmoaebmopjmhaaPrs
import Derived.Test.YtnmoaebmopjmhaaPtI
namespace Go.Proofs.Ytnmoaebmopjmhaa
open Go.RowKit
attribute [local go_sem ↓] Go.wp_at_zero Go.wp_at_succ

namespace PR
open IN AP CU OD
theorem sizePr : (Try.prog.info? 82).map (·.size) = some 2 := by kernel_rfl
theorem splice_pair (z c1 c2 : List Value) (x y : Value) (h : z.length = c1.length + 2 + c2.length) : splice (((splice z 0 c1).set c1.length x).set (c1.length + 1) y) (c1.length + 2) c2 = c1 ++ x :: y :: c2 := by
  have e1 : splice z 0 c1 = c1 ++ z.drop c1.length := by simp [splice]
  obtain ⟨a, b, r, hr⟩ : ∃ a b r, z.drop c1.length = a :: b :: r := by
    cases hd : z.drop c1.length with
    | nil => have := List.drop_eq_nil_iff.1 hd; omega
    | cons a t =>
      cases t with
      | nil => have := congrArg List.length hd; rw [List.length_drop] at this; simp at this; omega
      | cons b r => exact ⟨a, b, r, rfl⟩
  have hrl : r.length = c2.length := by
    have := congrArg List.length hr
    rw [List.length_drop] at this; simp at this; omega
  rw [e1, hr, set_mid, show c1 ++ x :: b :: r = (c1 ++ [x]) ++ b :: r by simp, show c1.length + 1 = (c1 ++ [x]).length by simp, set_mid]
  unfold splice
  rw [show c1 ++ [x] ++ y :: r = (c1 ++ [x, y]) ++ r by simp, List.take_append_of_le_length (by simp), List.take_of_length_le (by simp), List.drop_append, List.drop_of_length_le (by simp), show c1.length + 2 + c2.length - (c1 ++ [x, y]).length = c2.length by simp, ← hrl, List.drop_length]
  simp
def PutPostP (w : World) (n k : Nat) (cs : List Value) (x : PX) (e : Ending) (w' : World) : Prop := ∃ g, w.heap.size ≤ g ∧ e = .returned (.tuple #[.slice (some ⟨g, 0, none⟩) (n + 1) (n + 1), .bool true]) ∧ w'.heap[g]? = some (.cells (cs.take (k * 2) ++ .int .i8 x.1 :: .string x.2 :: cs.drop (k * 2)).toArray 82 (0, 0)) ∧ Up w w'
set_option maxHeartbeats 1000000 in
theorem putP_bad (a : Option Addr) (n cap : Nat) (at_ : Int) (x : PX) (w : World) (hb : at_ < 0 ∨ (n : Int) < at_) :
    Calls Try.prog 40 #[.slice a n cap, .int .i64 at_, .agg #[.int .i8 x.1, .string x.2]] w fun e w' => e = .returned (.tuple #[.slice none 0 0, .bool false]) ∧ Up w w' := by
  have hb' : at_ < 0 ∨ (0 ≤ at_ ∧ (n : Int) < at_) := by omega
  clear hb
  rcases hb' with hb | ⟨hb, hb2⟩
  · go_enter Try.func40, Try.ntmps40
    go_wp2
    go_ret2
    exact ⟨rfl, (Up.refl _).alloc _⟩
  · go_enter Try.func40, Try.ntmps40
    go_wp2
    go_ret2
    exact ⟨rfl, (Up.refl _).alloc _⟩
set_option maxRecDepth 100000 in
set_option maxHeartbeats 4000000 in
theorem putP (b off n cap k : Nat) (cs : List Value) (x : PX) (w : World) (hsrc : n ≠ 0 → ∀ j x, cs[j]? = some x → w.cell? ⟨b, off + j, none⟩ = some x) (hl : cs.length = n * 2) (hk : k ≤ n) (hc : n ≤ cap) (hm : n ≤ 10000000) (h1 : ∀ u ∈ cs, u.oneCell' = true) :
    Calls Try.prog 40 #[.slice (some ⟨b, off, none⟩) n cap, .int .i64 k, .agg #[.int .i8 x.1, .string x.2]] w (PutPostP w n k cs x) := by
  obtain ⟨iT, hiT, z0, z1, z2⟩ := info_parts infoPr
  obtain ⟨Post, hPost⟩ : ∃ P : Ending → World → Prop, P = PutPostP w n k cs x := ⟨_, rfl⟩
  rw [← hPost]
  have HPost : Hid (Post = PutPostP w n k cs x) := hPost
  have HSRC : Hid (∀ j x, cs[j]? = some x → w.cell? ⟨b, off + j, none⟩ = some x) := fun j y hy => hsrc (fun h0 => by rw [h0] at hl; have := (List.getElem?_eq_some_iff.1 hy).1; omega) j y hy
  obtain ⟨W0, hW0⟩ : ∃ W0, W0 = w.alloc (.cells #[.int .i8 x.1, .string x.2] 82) := ⟨_, rfl⟩
  have HU0 : Hid (Up w W0) := by unfold Hid; rw [hW0]; exact (Up.refl _).alloc _
  obtain ⟨xb, hxb⟩ : ∃ xb, xb = w.heap.size := ⟨_, rfl⟩
  have HXB : Hid (W0.heap[xb]? = some (.cells #[.int .i8 x.1, .string x.2] 82 (0, 0))) := by unfold Hid; rw [hW0, hxb]; exact heap_alloc_new w _
  obtain ⟨g, hg⟩ : ∃ g, g = W0.heap.size := ⟨_, rfl⟩
  have HG : Hid (g = W0.heap.size) := hg
  have HGX : Hid (w.heap.size ≤ g) := by unfold Hid; rw [hg]; exact HU0.out.size
  obtain ⟨c1, hc1⟩ : ∃ c, c = cs.take (k * 2) := ⟨_, rfl⟩
  obtain ⟨c2, hc2⟩ : ∃ c, c = cs.drop (k * 2) := ⟨_, rfl⟩
  have hl1 : c1.length = k * 2 := by rw [hc1, List.length_take]; omega
  have hl2 : c2.length = (n - k) * 2 := by rw [hc2, List.length_drop]; omega
  have HC1 : Hid (c1 = cs.take (k * 2)) := hc1
  have HC2 : Hid (c2 = cs.drop (k * 2)) := hc2
  have H1 : Hid (∀ u ∈ cs, u.oneCell' = true) := h1
  have hkn : (k : Int) ≤ (n : Int) := by omega
  have hkc : (k : Int) ≤ (cap : Int) := by omega
  have hk0 : ¬ (k : Int) < 0 := by omega
  have hk3 : ¬ (n : Int) < (k : Int) := by omega
  have hk5 : (k : Int) < (n : Int) + 1 := by omega
  have HW0 : Hid (W0 = w.alloc (.cells #[.int .i8 x.1, .string x.2] 82)) := hW0
  have HXB2 : Hid (xb = w.heap.size) := hxb
  clear h1 hsrc hc1 hc2 hPost hW0 hg hxb
  go_enter Try.func40, Try.ntmps40
  go_wp2_with (first
    | (at_make; rw [← HW0.out]; refine wpList_make_full _ rfl _ _ 79 rfl W0.heap.size 82 iT (.agg #[.int .i8 0, .string ⟨#[]⟩]) 2 Try.underlying79 hiT z0 z1 .i64 .i64 _ _ (n + 1) rfl rfl rfl rfl (by rw [z2]; omega) (by unfold maxLen; omega) (Nat.le_refl _) ?_; intro w1 hin hg1; rw [← HG.out] at hin ⊢; have hu1 := made_up hg1; obtain ⟨zs, hrow, hzl⟩ : ∃ zs : List Value, w1.heap[g]? = some (.cells zs.toArray 82 (0, 0)) ∧ zs.length = (n + 1) * 2 := ⟨_, row_made hin, hin.1⟩; have HROW1 : Hid (w1.heap[g]? = some (.cells zs.toArray 82 (0, 0))) := hrow; have HU1 : Hid (Up W0 w1) := hu1; clear hin hg1 hrow hu1)
    | (refine wpList_slice_h (by rfl) 79 (.tmp 22) (.tmp 23) (by rfl) 82 2 Try.underlying79 sizePr (some ⟨b, off, none⟩) n cap k (by rfl) (by rfl) (by omega) ?_)
    | (refine wpList_copyS _ (by rfl) (.tmp 21) (.tmp 24) 79 79 (by rfl) 82 2 (by decide) (some ⟨g, 0, none⟩) (some ⟨b, off, none⟩) (n + 1) (n + 1) k cap (by rfl) (by rfl) g 0 _ 82 Try.underlying79 sizePr HROW1.out c1 (by rw [hl1, show Nat.min k (n + 1) = k from Nat.min_eq_left (by omega)]) (fun _ => ⟨rfl, ⟨b, off, none⟩, rfl, src_take HSRC.out (HU0.out.trans HU1.out) HC1.out⟩) (by rw [hl1, hzl]; omega) (fun u hu => H1.out u (List.mem_of_mem_take (by rw [← HC1.out]; exact hu))) ?_; intro w2 hrow2 ho2; have hz2 : (splice zs 0 c1).length = (n + 1) * 2 := (by rw [length_splice _ _ _ (by rw [hzl, hl1]; omega), hzl]); have HROW2 : Hid (w2.heap[g]? = some (.cells (splice zs 0 c1).toArray 82 (0, 0))) := hrow2; have HU2 : Hid (Up W0 w2) := HU1.out.trans' ho2 (by rw [HG.out]; exact Nat.le_refl _); have hxw := HU2.out.heap HXB.out; rw [HXB2.out] at hxw; have bx1 : w2.cell? ⟨w.heap.size, 0, none⟩ = some (.int .i8 x.1) := (by simp [World.cell?, hxw]); have bx2 : w2.cell? ⟨w.heap.size, 1, none⟩ = some (.string x.2) := (by simp [World.cell?, hxw]); obtain ⟨p1, pf1⟩ := row_atP hrow2 (k * 2); obtain ⟨p2, pf2⟩ := row_atP hrow2 (k * 2 + 1); rw [List.getElem?_eq_getElem (by omega)] at p1 p2; generalize (splice zs 0 c1)[k * 2]'(by omega) = q1 at p1; generalize (splice zs 0 c1)[k * 2 + 1]'(by omega) = q2 at p2; have pf3 : ∀ a, (w2.setCell ⟨g, k * 2, none⟩ a).frozen? ⟨g, k * 2 + 1, none⟩ = false := (fun a => by rw [World.frozen?_setCell]; exact pf2); clear hrow2 ho2 HROW1 HU1 hxw))
  have HZ : Hid (zs.length = (n + 1) * 2 ∧ (splice zs 0 c1).length = (n + 1) * 2) := ⟨hzl, hz2⟩
  have HROW3 : Hid (((w2.setCell ⟨g, k * 2, none⟩ (.int .i8 x.1)).setCell ⟨g, k * 2 + 1, none⟩ (.string x.2)).heap[g]? = some (.cells (((splice zs 0 c1).set (k * 2) (.int .i8 x.1)).set (k * 2 + 1) (.string x.2)).toArray 82 (0, 0))) := row_putP HROW2.out (k * 2) _ _
  have HU3 : Hid (Up w ((w2.setCell ⟨g, k * 2, none⟩ (.int .i8 x.1)).setCell ⟨g, k * 2 + 1, none⟩ (.string x.2))) := Below.setCell (Below.setCell (HU0.out.trans HU2.out) HGX.out _) HGX.out _
  generalize (w2.setCell ⟨g, k * 2, none⟩ (.int .i8 x.1)).setCell ⟨g, k * 2 + 1, none⟩ (.string x.2) = w3 at *
  clear p1 p2 pf1 pf2 pf3 bx1 bx2 HROW2 HU2 hz2 hzl
  have HFIN : Hid (splice (((splice zs 0 c1).set (k * 2) (.int .i8 x.1)).set (k * 2 + 1) (.string x.2)) ((k + 1) * 2) c2 = cs.take (k * 2) ++ .int .i8 x.1 :: .string x.2 :: cs.drop (k * 2)) := by
    have := splice_pair zs c1 c2 (.int .i8 x.1) (.string x.2) (by have := HZ.out.1; omega)
    rw [hl1] at this
    unfold Hid
    rw [show (k + 1) * 2 = k * 2 + 2 by omega, this, HC1.out, HC2.out]
  have n1 : (k : Int) + 1 ≤ (n : Int) + 1 := by omega
  have n2 : (0 : Int) ≤ (k : Int) + 1 := by omega
  have n3 : ((k : Int) + 1).toNat = k + 1 := by omega
  have n8 : IntKind.i64.wrap ((k : Int) + 1) = (k : Int) + 1 := IntWalk.i64_in _ ⟨by omega, by omega⟩
  have n10 : (n : Int) ≤ (cap : Int) := by omega
  by_cases hkm : k < n
  · have n5 : ¬ n = k := by omega
    have n7 : ¬ (n : Int) = (k : Int) := by omega
    have n9 : ¬ cap = k := by omega
    obtain ⟨w4, hrun, hrow4, ho4⟩ := run_copyS (P := Try.prog) w3.drew 79 79 3 82 2 (by decide) (some ⟨g, (k + 1) * 2, none⟩) (some ⟨b, off + k * 2, none⟩) (n - k) (n - k) (n - k) (cap - k) g ((k + 1) * 2) (((splice zs 0 c1).set (k * 2) (.int .i8 x.1)).set (k * 2 + 1) (.string x.2)) 82 Try.underlying79 sizePr HROW3.out c2 (by rw [hl2, show Nat.min (n - k) (n - k) = n - k from Nat.min_self _]) (fun _ => ⟨rfl, _, rfl, src_drop HSRC.out HU3.out.drew HC2.out⟩) (by rw [hl2, List.length_set, List.length_set, HZ.out.2]; omega) (fun u hu => H1.out u (List.mem_of_mem_drop (by rw [← HC2.out]; exact hu)))
    have HROW4 : Hid (w4.heap[g]? = some (.cells (cs.take (k * 2) ++ .int .i8 x.1 :: .string x.2 :: cs.drop (k * 2)).toArray 82 (0, 0))) := by unfold Hid; rw [hrow4, HFIN.out]
    have HU4 : Hid (Up w w4) := (Up.drew HU3.out).trans' ho4 HGX.out
    clear hrow4 ho4
    go_region
    clear hrun
    go_wp2
    rw [HPost.out]
    exact ⟨g, HGX.out, rfl, HROW4.out, HU4.out⟩
  · obtain rfl : k = n := by omega
    have hc0 : c2 = [] := List.eq_nil_of_length_eq_zero (by rw [hl2]; omega)
    have hrun : ∀ dp sp dc sc, (Builtin.copy_ #[79, 79] 3 #[.slice dp 0 dc, .slice sp 0 sc]).run Try.prog w3.drew = .ok (goInt 0) w3.drew := fun dp sp dc sc => run_copy0 w3.drew 79 79 3 82 2 Try.underlying79 sizePr dp sp 0 dc sc
    have HROW4 : Hid (w3.heap[g]? = some (.cells (cs.take (k * 2) ++ .int .i8 x.1 :: .string x.2 :: cs.drop (k * 2)).toArray 82 (0, 0))) := by
      have := HFIN.out
      rw [hc0, show ∀ l : List Value, splice l ((k + 1) * 2) [] = l from fun l => by simp [splice]] at this
      unfold Hid
      rw [HROW3.out, this]
    by_cases hcm : cap = k
    · subst hcm
      go_region
      clear hrun
      go_wp2
      rw [HPost.out]
      exact ⟨g, HGX.out, rfl, HROW4.out, HU3.out.drew⟩
    · go_region
      clear hrun
      go_wp2
      rw [HPost.out]
      exact ⟨g, HGX.out, rfl, HROW4.out, HU3.out.drew⟩
end PR
end Go.Proofs.Ytnmoaebmopjmhaa
