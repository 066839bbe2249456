/-
  What Put does with a list of ints.
-/
import Derived.Test.YtnmoaebmopjmhaaInts
namespace Go.Proofs.Ytnmoaebmopjmhaa
open Go.RowKit
attribute [local go_sem ↓] Go.wp_at_zero Go.wp_at_succ

namespace IN
set_option maxHeartbeats 1000000 in
theorem put_bad (a : Option Addr) (n cap : Nat) (at_ x : Int) (w : World) (hb : at_ < 0 ∨ (n : Int) < at_) :
    Calls Try.prog 12 #[.slice a n cap, .int .i64 at_, .int .i64 x] w fun e w' => e = .returned (.tuple #[.slice none 0 0, .bool false]) ∧ w' = w := by
  have hb' : at_ < 0 ∨ (0 ≤ at_ ∧ (n : Int) < at_) := by omega
  clear hb
  rcases hb' with hb | ⟨hb, hb2⟩
  · go_enter Try.func12, Try.ntmps12
    go_wp2
    go_ret2
    exact ⟨rfl, rfl⟩
  · go_enter Try.func12, Try.ntmps12
    go_wp2
    go_ret2
    exact ⟨rfl, rfl⟩
theorem splice_three (z c1 c2 : List Value) (x : Value) (h : z.length = c1.length + 1 + c2.length) : splice ((splice z 0 c1).set c1.length x) (c1.length + 1) c2 = c1 ++ x :: c2 := by
  have e1 : splice z 0 c1 = c1 ++ z.drop c1.length := by simp [splice]
  obtain ⟨y, r, hr⟩ : ∃ y r, z.drop c1.length = y :: r := by
    cases hd : z.drop c1.length with
    | nil => have := List.drop_eq_nil_iff.1 hd; omega
    | cons y r => exact ⟨y, r, rfl⟩
  have hrl : r.length = c2.length := by
    have := congrArg List.length hr
    rw [List.length_drop, List.length_cons] at this; omega
  rw [e1, hr, set_mid]
  unfold splice
  rw [List.take_append, show c1.length + 1 - c1.length = 1 by omega, List.take_of_length_le (by omega), List.drop_append, List.drop_of_length_le (by omega : c1.length ≤ c1.length + 1 + c2.length)]
  rw [show c1.length + 1 + c2.length - c1.length = c2.length + 1 by omega]
  simp [hrl]
def PutPost (w : World) (n k : Nat) (cs : List Value) (x : Int) (e : Ending) (w' : World) : Prop := e = .returned (.tuple #[.slice (some ⟨w.heap.size, 0, none⟩) (n + 1) (n + 1), .bool true]) ∧ w'.heap[w.heap.size]? = some (.cells (cs.take k ++ .int .i64 x :: cs.drop k).toArray 3 (0, 0)) ∧ Up w w'
set_option maxRecDepth 100000 in
set_option maxHeartbeats 4000000 in
theorem put (b off n cap k : Nat) (cs : List Value) (x : Int) (w : World) (hsrc : ∀ j x, cs[j]? = some x → w.cell? ⟨b, off + j, none⟩ = some x) (hl : cs.length = n) (hk : k ≤ n) (hc : n < cap) (hm : n ≤ 10000000) (h1 : ∀ u ∈ cs, u.oneCell' = true) :
    Calls Try.prog 12 #[.slice (some ⟨b, off, none⟩) n cap, .int .i64 k, .int .i64 x] w (PutPost w n k cs x) := by
  obtain ⟨iT, hiT, z0, z1, z2⟩ := info_parts infoT
  obtain ⟨Post, hPost⟩ : ∃ P : Ending → World → Prop, P = PutPost w n k cs x := ⟨_, rfl⟩
  rw [← hPost]
  have HPost : Hid (Post = PutPost w n k cs x) := hPost
  have HSRC : Hid (∀ j x, cs[j]? = some x → w.cell? ⟨b, off + j, none⟩ = some x) := hsrc
  obtain ⟨c1, hc1⟩ : ∃ c, c = cs.take k := ⟨_, rfl⟩
  obtain ⟨c2, hc2⟩ : ∃ c, c = cs.drop k := ⟨_, rfl⟩
  have hl1 : c1.length = k := by rw [hc1, List.length_take]; omega
  have hl2 : c2.length = n - k := by rw [hc2, List.length_drop]; omega
  have HC1 : Hid (c1 = cs.take k) := hc1
  have HC2 : Hid (c2 = cs.drop k) := hc2
  have H1 : Hid (∀ u ∈ cs, u.oneCell' = true) := h1
  have hkn : (k : Int) ≤ (n : Int) := by omega
  have hkc : (k : Int) ≤ (cap : Int) := by omega
  have hk0 : ¬ (k : Int) < 0 := by omega
  have hk3 : ¬ (n : Int) < (k : Int) := by omega
  have hk5 : (k : Int) < (n : Int) + 1 := by omega
  clear h1 hsrc hc1 hc2 hPost
  go_enter Try.func12, Try.ntmps12
  go_wp2_with (first
    | (at_make; refine wpList_make_full _ rfl _ _ 22 rfl w.heap.size 3 iT (.int .i64 0) 1 Try.underlying22 hiT z0 z1 .i64 .i64 _ _ (n + 1) rfl rfl rfl rfl (by rw [z2]; omega) (by unfold maxLen; omega) (Nat.le_refl _) ?_; intro w1 hin hg1; have hu1 := made_up hg1; obtain ⟨zs, hrow, hzl⟩ : ∃ zs : List Value, w1.heap[w.heap.size]? = some (.cells zs.toArray 3 (0, 0)) ∧ zs.length = (n + 1) * 1 := ⟨_, row_made hin, hin.1⟩; have HROW1 : Hid (w1.heap[w.heap.size]? = some (.cells zs.toArray 3 (0, 0))) := hrow; have HU1 : Hid (Up w w1) := hu1; clear hin hg1 hrow hu1)
    | (refine wpList_slice_h (by rfl) 22 (.tmp 22) (.tmp 23) (by rfl) 3 1 Try.underlying22 sizeT (some ⟨b, off, none⟩) n cap k (by rfl) (by rfl) (by omega) ?_)
    | (refine wpList_copyS _ (by rfl) (.tmp 21) (.tmp 24) 22 22 (by rfl) 3 1 (by decide) (some ⟨w.heap.size, 0, none⟩) (some ⟨b, off, none⟩) (n + 1) (n + 1) k cap (by rfl) (by rfl) w.heap.size 0 _ 3 Try.underlying22 sizeT HROW1.out c1 (by rw [hl1, show Nat.min k (n + 1) = k from Nat.min_eq_left (by omega), Nat.mul_one]) (fun _ => ⟨rfl, ⟨b, off, none⟩, rfl, src_take HSRC.out HU1.out HC1.out⟩) (by rw [hl1, hzl]; omega) (fun u hu => H1.out u (List.mem_of_mem_take (by rw [← HC1.out]; exact hu))) ?_; intro w2 hrow2 ho2; have hz2 : (splice zs 0 c1).length = n + 1 := (by rw [length_splice _ _ _ (by rw [hzl, hl1]; omega), hzl, Nat.mul_one]); have HROW2 : Hid (w2.heap[w.heap.size]? = some (.cells (splice zs 0 c1).toArray 3 (0, 0))) := hrow2; have HU2 : Hid (Up w w2) := HU1.out.trans' ho2 (Nat.le_refl _); obtain ⟨p1, pf1⟩ := row_atI hrow2 k; rw [List.getElem?_eq_getElem (by omega)] at p1; generalize (splice zs 0 c1)[k]'(by omega) = q1 at p1; clear hrow2 ho2 HROW1 HU1))
  have HZ : Hid (zs.length = n + 1 ∧ (splice zs 0 c1).length = n + 1) := ⟨by omega, hz2⟩
  have HROW3 : Hid ((w2.setCell ⟨w.heap.size, k, none⟩ (.int .i64 x)).heap[w.heap.size]? = some (.cells ((splice zs 0 c1).set k (.int .i64 x)).toArray 3 (0, 0))) := row_putI HROW2.out k _
  have HU3 : Hid (Up w (w2.setCell ⟨w.heap.size, k, none⟩ (.int .i64 x))) := Below.setCell HU2.out (Nat.le_refl _) _
  generalize w2.setCell ⟨w.heap.size, k, none⟩ (.int .i64 x) = w3 at *
  clear p1 pf1 HROW2 HU2 hz2 hzl
  have HFIN : Hid (splice ((splice zs 0 c1).set k (.int .i64 x)) (k + 1) c2 = cs.take k ++ .int .i64 x :: cs.drop k) := by
    have := splice_three zs c1 c2 (.int .i64 x) (by have := HZ.out.1; omega)
    rw [hl1] at this
    unfold Hid
    rw [this, HC1.out, HC2.out]
  have n1 : (k : Int) + 1 ≤ (n : Int) + 1 := by omega
  have n2 : (0 : Int) ≤ (k : Int) + 1 := by omega
  have n3 : ((k : Int) + 1).toNat = k + 1 := by omega
  have n8 : IntKind.i64.wrap ((k : Int) + 1) = (k : Int) + 1 := IntWalk.i64_in _ ⟨by omega, by omega⟩
  have n9 : ¬ cap = k := by omega
  have n10 : (n : Int) ≤ (cap : Int) := by omega
  by_cases hkm : k < n
  · have n5 : ¬ n = k := by omega
    have n7 : ¬ (n : Int) = (k : Int) := by omega
    obtain ⟨w4, hrun, hrow4, ho4⟩ := run_copyS (P := Try.prog) w3.drew 22 22 3 3 1 (by decide) (some ⟨w.heap.size, k + 1, none⟩) (some ⟨b, off + k, none⟩) (n - k) (n - k) (n - k) (cap - k) w.heap.size (k + 1) ((splice zs 0 c1).set k (.int .i64 x)) 3 Try.underlying22 sizeT HROW3.out c2 (by rw [hl2, show Nat.min (n - k) (n - k) = n - k from Nat.min_self _, Nat.mul_one]) (fun _ => ⟨rfl, _, rfl, src_drop HSRC.out HU3.out.drew HC2.out⟩) (by rw [hl2, List.length_set, HZ.out.2]; omega) (fun u hu => H1.out u (List.mem_of_mem_drop (by rw [← HC2.out]; exact hu)))
    have HROW4 : Hid (w4.heap[w.heap.size]? = some (.cells (cs.take k ++ .int .i64 x :: cs.drop k).toArray 3 (0, 0))) := by unfold Hid; rw [hrow4, HFIN.out]
    have HU4 : Hid (Up w w4) := (Up.drew HU3.out).trans' ho4 (Nat.le_refl _)
    clear hrow4 ho4
    go_region
    clear hrun
    go_wp2
    rw [HPost.out]
    exact ⟨rfl, HROW4.out, HU4.out⟩
  · obtain rfl : k = n := by omega
    have hc0 : c2 = [] := List.eq_nil_of_length_eq_zero (by rw [hl2]; omega)
    have hrun : ∀ dp sp dc sc, (Builtin.copy_ #[22, 22] 3 #[.slice dp 0 dc, .slice sp 0 sc]).run Try.prog w3.drew = .ok (goInt 0) w3.drew := fun dp sp dc sc => run_copy0 w3.drew 22 22 3 3 1 Try.underlying22 sizeT dp sp 0 dc sc
    have HROW4 : Hid (w3.heap[w.heap.size]? = some (.cells (cs.take k ++ .int .i64 x :: cs.drop k).toArray 3 (0, 0))) := by
      have := HFIN.out
      rw [hc0, show splice ((splice zs 0 c1).set k (.int .i64 x)) (k + 1) [] = (splice zs 0 c1).set k (.int .i64 x) by simp [splice]] at this
      unfold Hid
      rw [HROW3.out, this]
    go_region
    clear hrun
    go_wp2
    rw [HPost.out]
    exact ⟨rfl, HROW4.out, HU3.out.drew⟩
end IN
end Go.Proofs.Ytnmoaebmopjmhaa
