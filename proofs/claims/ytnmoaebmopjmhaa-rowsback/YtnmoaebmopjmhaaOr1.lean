/-
  What Order does with a list of ints.
-/
import Derived.Test.YtnmoaebmopjmhaaOd
namespace Go.Proofs.Ytnmoaebmopjmhaa
open Go.RowKit
attribute [local go_sem ↓] Go.wp_at_zero Go.wp_at_succ

namespace OD
open IN AP CU
set_option maxRecDepth 100000 in
set_option maxHeartbeats 4000000 in
theorem order_ (v u : Value) (xs zs : List Int) (w : World) (hv : LiesI w v xs) (hu : LiesI w u zs) (hn : xs.length ≤ 10000000) (hm : zs.length ≤ 10000000) :
    Calls Try.prog 21 #[v, u] w (OPost w xs zs) := by
  obtain ⟨iT, hiT, z0, z1, z2⟩ := info_parts infoT
  obtain ⟨Post, hPost⟩ : ∃ P : Ending → World → Prop, P = OPost w xs zs := ⟨_, rfl⟩
  rw [← hPost]
  have HPo : Hid (Post = OPost w xs zs) := hPost
  have HIS : Hid _ := is_ u zs w hu hm
  obtain ⟨a1, k1, rfl, h1⟩ := lies_at hv
  obtain ⟨a2, k2, rfl, h2⟩ := lies_at hu
  have H1 : Hid _ := h1
  have H2 : Hid _ := h2
  clear hv hu h1 h2 hPost
  by_cases hne : zs.length = xs.length
  · rw [hne] at HIS ⊢
    obtain ⟨n, hn0⟩ : ∃ n, n = xs.length := ⟨_, rfl⟩
    have HN : Hid (zs.length = n ∧ xs.length = n) := ⟨by rw [hne, hn0], hn0.symm⟩
    rw [← hn0] at HIS hn ⊢
    clear hne hn0 hm
    go_enter Try.func21, Try.ntmps21
    go_wp2_with fail
    refine Calls.mono HIS.out ?_
    rintro e w1 ⟨rfl, u1⟩
    have HU1 : Hid (Up w w1) := u1
    clear u1 HIS
    by_cases hb : (bk zs).isSome = true
    · have HIN := bk_in zs hb
      have HIN2 : Hid _ := HIN
      have HOK : Hid (ordOk xs zs = true ∧ ordL xs zs = ol xs zs) := ⟨by rw [ordOk, decide_eq_true ⟨by rw [HN.out.1, HN.out.2], hb⟩], by rw [ordL, if_pos ⟨by rw [HN.out.1, HN.out.2], hb⟩]⟩
      rw [hb]
      clear hb HIN
      obtain ⟨g, hg⟩ : ∃ g, g = w1.heap.size := ⟨_, rfl⟩
      have HG : Hid (g = w1.heap.size) := hg
      go_wp2_with (at_make; refine wpList_make_full _ rfl _ _ 22 rfl w1.heap.size 3 iT (.int .i64 0) 1 Try.underlying22 hiT z0 z1 .i64 .i64 _ _ n rfl rfl rfl rfl (by rw [z2]; omega) (by unfold maxLen; omega) (Nat.le_refl _) ?_; intro w2 hin hg1)
      have HI : Hid (∃ cs : List Value, w2.heap[g]? = some (.cells cs.toArray 3 (0, 0)) ∧ cs.length = n ∧ Up w1 w2) := ⟨_, by rw [hg]; exact row_made hin, by have := hin.1; omega, made_up hg1⟩
      rw [← hg]
      clear hin hg1 hg
      go_loopw [24] (fun s24 W => ∃ (i : Nat) (cs : List Value), i ≤ n ∧ s24 = .int .i64 i ∧ W.heap[g]? = some (.cells cs.toArray 3 (0, 0)) ∧ cs.length = n ∧ (∀ q, q < i → cs[q]? = some (.int .i64 ((ol xs zs).getD q 0))) ∧ Up w1 W) (fun s24 _ => n - (intOf s24).toNat)
      case atStart => obtain ⟨cs, x1, x2, x3⟩ := HI.out; exact ⟨0, cs, Nat.zero_le _, rfl, x1, x2, fun q hq => by omega, x3⟩
      case round =>
        obtain ⟨i, cs, hi, rfl, hrow, hcl, hq, hu⟩ := hrel
        clear HI
        by_cases hlt : i < n
        · have hlt2 : (i : Int) < (n : Int) := by omega
          obtain ⟨y, hy, hyl⟩ := HIN2.out i (by rw [HN.out.1]; exact hlt)
          rw [HN.out.1] at hyl
          obtain ⟨b1, o1, rfl, -, c1⟩ := H1.out (by rw [HN.out.2]; omega)
          obtain ⟨b2, o2, rfl, -, c2⟩ := H2.out (by rw [HN.out.1]; omega)
          have x2 := c2 _ (HU1.out.trans hu) i (by rw [HN.out.1]; exact hlt)
          have x1 := c1 _ (HU1.out.trans hu) y (by rw [HN.out.2]; exact hyl)
          rw [hy] at x2
          have hyl2 : (y : Int) < (n : Int) := by omega
          have hog := ol_get xs zs i (by rw [HN.out.1]; exact hlt)
          rw [hy, Int.toNat_natCast] at hog
          obtain ⟨z, hz⟩ : ∃ z, z = xs.getD y 0 := ⟨_, rfl⟩
          rw [← hz] at x1 hog
          obtain ⟨p1, pf1⟩ := row_atI hrow i
          rw [List.getElem?_eq_getElem (by omega)] at p1
          generalize cs[i]'(by omega) = q1 at p1
          have HR : Hid (∃ cs : List Value, (wr.setCell ⟨g, i, none⟩ (.int .i64 z)).heap[g]? = some (.cells cs.toArray 3 (0, 0)) ∧ cs.length = n ∧ (∀ q, q < i + 1 → cs[q]? = some (.int .i64 ((ol xs zs).getD q 0))) ∧ Up w1 (wr.setCell ⟨g, i, none⟩ (.int .i64 z))) := by
            refine ⟨cs.set i (.int .i64 z), row_putI hrow i _, by simpa using hcl, fun q hq' => ?_, Below.setCell hu (by rw [HG.out]; exact Nat.le_refl _) _⟩
            by_cases e : q = i
            · subst e; rw [List.getElem?_set_self (by omega), hog]
            · rw [List.getElem?_set_ne (by omega)]; exact hq q (by omega)
          clear hrow hcl hq hu c1 c2 hy hz hog
          go_wp2
          go_roundw
          case rel => obtain ⟨cs, x1, x2, x3, x4⟩ := HR.out; exact ⟨i + 1, cs, by omega, by go_num, x1, x2, x3, x4⟩
          case measure => simp [intOf] <;> omega
        · obtain rfl : i = n := by omega
          have hlt2 : ¬ (i : Int) < (i : Int) := by omega
          have HF : Hid (OPost w xs zs (.returned (.tuple #[.slice (some ⟨g, 0, none⟩) i i, .bool true])) wr) := by
            refine ⟨_, by rw [HOK.out.1], .inr ⟨g, by rw [HG.out]; exact HU1.out.size, ?_, ?_⟩, HU1.out.trans hu⟩
            · rw [HOK.out.2, ol_len, HN.out.1]
            · rw [HOK.out.2]
              have : cs = iv (ol xs zs) := by
                apply List.ext_getElem?
                intro q
                by_cases hq' : q < i
                · rw [hq q hq', iv_get _ q (by rw [ol_len, HN.out.1]; exact hq')]
                · rw [List.getElem?_eq_none (by omega), List.getElem?_eq_none (by rw [iv_len, ol_len, HN.out.1]; omega)]
              rw [← this]; exact hrow
          clear hrow hcl hq hu
          go_wp2
          rw [HPo.out]
          exact HF.out
    · have hb2 : (bk zs).isSome = false := by simpa using hb
      rw [hb2]
      have HF : Hid _ := o_none (w := w) (w' := w1) (xs := xs) (zs := zs) (fun h => hb h.2) HU1.out
      clear hb hb2
      go_wp2
      rw [HPo.out]
      exact HF.out
  · have HF : Hid _ := o_none (w := w) (w' := w) (xs := xs) (zs := zs) (fun h => hne h.1) (Up.refl _)
    generalize zs.length = m at *
    generalize xs.length = n at *
    have hne2 : ((m : Int) == (n : Int)) = false := beq_eq_false_iff_ne.2 (by omega)
    have hne3 : ¬ m = n := hne
    clear HIS H1 H2
    go_enter Try.func21, Try.ntmps21
    go_wp2
    rw [HPo.out]
    exact HF.out
end OD
end Go.Proofs.Ytnmoaebmopjmhaa
