/-
  Numbers in a row.
-/
import Derived.Test.YtndkpfkgcaebmaaDe
namespace Go.Proofs.Ytndkpfkgcaebmaa
open Go.RowKit
attribute [local go_sem ↓] Go.wp_at_zero Go.wp_at_succ

namespace ST
theorem numsF_len (a k : Nat) : (numsF a k).length = k := by simp [numsF]
theorem numsF_get (a k i : Nat) (hi : i < k) : (ivs (numsF a k))[i]? = some (.int .i64 ((a + i : Nat) : Int)) := by simp [ivs, numsF, hi]
def NF (w W : World) (g : Nat) (cs : List Value) (a i k : Nat) : Prop := W.heap[g]? = some (.cells cs.toArray 3 (0, 0)) ∧ cs.length = k ∧ (∀ q, q < i → cs[q]? = some (.int .i64 ((a + q : Nat) : Int))) ∧ Up w W
set_option maxRecDepth 100000 in
set_option maxHeartbeats 2000000 in
theorem numbersFrom_ (a k : Nat) (w : World) (ha : a ≤ 1000000) (hk : k ≤ 1000000) :
    Calls Try.prog 41 #[.int .i64 a, .int .i64 k] w (CpPost w fun W v' => IRow w.heap.size W v' (numsF a k)) := by
  obtain ⟨iT, hiT, z0, z1, z2⟩ := info_parts infoI
  obtain ⟨Post, hPost⟩ : ∃ P : Ending → World → Prop, P = CpPost w fun W v' => IRow w.heap.size W v' (numsF a k) := ⟨_, rfl⟩
  rw [← hPost]
  have HP : Hid (Post = CpPost w fun W v' => IRow w.heap.size W v' (numsF a k)) := hPost
  obtain ⟨g, hg⟩ : ∃ g, g = w.heap.size := ⟨_, rfl⟩
  have HG : Hid (g = w.heap.size) := hg
  clear hPost
  go_enter Try.func41, Try.ntmps41
  go_wp2_with (at_make; refine wpList_make_full _ rfl _ _ 36 rfl w.heap.size 3 iT (.int .i64 0) 1 Try.underlying36 hiT z0 z1 .i64 .i64 _ _ k rfl rfl rfl rfl (by rw [z2]; omega) (by unfold maxLen; omega) (Nat.le_refl _) ?_; intro w1 hin hg1)
  have HI : Hid (∃ cs : List Value, NF w w1 g cs a 0 k) := ⟨_, by rw [hg]; exact row_made hin, by have := hin.1; omega, fun q hq => by omega, made_up hg1⟩
  rw [← hg]
  clear hin hg1 hg
  go_wp2_with fail
  go_loopw [11] (fun s11 W => ∃ (i : Nat) (cs : List Value), i ≤ k ∧ s11 = .int .i64 i ∧ NF w W g cs a i k) (fun s11 _ => k - (intOf s11).toNat)
  case atStart => obtain ⟨cs, h⟩ := HI.out; exact ⟨0, cs, Nat.zero_le _, rfl, h⟩
  case round =>
    obtain ⟨i, cs, hi, rfl, hnf⟩ := hrel
    clear HI
    by_cases hlt : i < k
    · have hlt2 : (i : Int) < (k : Int) := by omega
      obtain ⟨h1, h2, h3, h4⟩ := hnf
      have p1 : wr.cell? ⟨g, i, none⟩ = cs[i]? := by simp [World.cell?, h1]
      have pf : wr.frozen? ⟨g, i, none⟩ = false := by simp [World.frozen?, h1]
      rw [List.getElem?_eq_getElem (by omega)] at p1
      generalize cs[i]'(by omega) = q1 at p1
      have HR : Hid (NF w (wr.setCell ⟨g, i, none⟩ (.int .i64 ((a : Int) + (i : Int)))) g (cs.set i (.int .i64 ((a : Int) + (i : Int)))) a (i + 1) k) := by
        refine ⟨?_, by simpa using h2, fun q hq => ?_, Up.set h4 _ _ (by rw [HG.out]; exact Nat.le_refl _)⟩
        · have := set_cells (j := i) (x := .int .i64 ((a : Int) + (i : Int))) h1
          simpa using this
        · by_cases e : q = i
          · subst e; rw [List.getElem?_set_self (by omega), Int.natCast_add]
          · rw [List.getElem?_set_ne (by omega)]; exact h3 q (by omega)
      clear h1 h2 h3 h4
      go_wp2
      go_roundw
      case rel => exact ⟨i + 1, _, by omega, by go_num, HR.out⟩
      case measure => simp [intOf]; omega
    · have hlt2 : ¬ (i : Int) < (k : Int) := by omega
      have hik : i = k := by omega
      subst hik
      have HF : Hid (IRow w.heap.size wr (.slice (some ⟨g, 0, none⟩) i i) (numsF a i) ∧ Up w wr) := by
        obtain ⟨h1, h2, h3, h4⟩ := hnf
        have e : cs = ivs (numsF a i) := by
          apply List.ext_getElem?
          intro q
          by_cases hq : q < i
          · rw [h3 q hq, numsF_get a i q hq]
          · rw [List.getElem?_eq_none (by omega), List.getElem?_eq_none (by rw [ivs_len, numsF_len]; omega)]
        refine ⟨⟨by rw [ivs_len, Nat.mul_one], .inr ⟨g, i, cs.toArray, by rw [numsF_len], by rw [HG.out]; exact Nat.le_refl _, h1, by rw [numsF_len]; exact Nat.le_refl _, by unfold maxLen; omega, by simp [h2], ?_⟩⟩, h4⟩
        rw [numsF_len, e]
        simp
        exact List.take_of_length_le (by rw [ivs_len, numsF_len]; exact Nat.le_refl _)
      clear hnf
      go_wp2
      rw [HP.out]
      exact ⟨_, rfl, HF.out.1, HF.out.2⟩
end ST
end Go.Proofs.Ytndkpfkgcaebmaa
