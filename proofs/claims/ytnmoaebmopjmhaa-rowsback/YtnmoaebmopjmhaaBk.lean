/-
  Orders: what Back and Is make of a list, by the program and by the document.
-/
import Derived.Test.YtnmoaebmopjmhaaCuts
namespace Go.Proofs.Ytnmoaebmopjmhaa
open Go.RowKit
attribute [local go_sem ↓] Go.wp_at_zero Go.wp_at_succ

namespace OD
open IN AP CU
def bkL (zs : List Int) : Nat → Nat → List Int → Option (List Int)
  | 0, _, r => some r
  | f + 1, i, r => if zs.getD i 0 < 0 ∨ (zs.length : Int) ≤ zs.getD i 0 ∨ r.getD (zs.getD i 0).toNat 0 ≠ -1 then none else bkL zs f (i + 1) (r.set (zs.getD i 0).toNat i)
def bk (zs : List Int) : Option (List Int) := bkL zs zs.length 0 (List.replicate zs.length (-1))
theorem bk_range (zs : List Int) : ∀ f i r b, bkL zs f i r = some b → ∀ k, i ≤ k → k < i + f → 0 ≤ zs.getD k 0 ∧ zs.getD k 0 < zs.length
  | 0, i, r, b, _, k, h1, h2 => by omega
  | f + 1, i, r, b, h, k, h1, h2 => by
    rw [bkL] at h
    split at h
    · cases h
    · rename_i hc
      by_cases e : k = i
      · subst e; omega
      · exact bk_range zs f (i + 1) _ b h k (by omega) (by omega)
theorem bk_len (zs : List Int) : ∀ f i r b, bkL zs f i r = some b → b.length = r.length
  | 0, i, r, b, h => by cases h; rfl
  | f + 1, i, r, b, h => by
    rw [bkL] at h
    split at h
    · cases h
    · have := bk_len zs f (i + 1) _ b h
      simpa using this
theorem fnd_none (zs : List Int) (z : Int) : ∀ f i, (∀ k, i ≤ k → k < i + f → zs.getD k 0 ≠ z) → fnd zs z f i = -1
  | 0, _, _ => rfl
  | f + 1, i, h => by
    rw [fnd, if_neg (h i (Nat.le_refl _) (by omega))]
    exact fnd_none zs z f (i + 1) (fun k h1 h2 => h k (by omega) (by omega))
theorem fnd_at (zs : List Int) (z : Int) (k : Nat) (hk : zs.getD k 0 = z) : ∀ f i, i ≤ k → k < i + f → (∀ j, i ≤ j → j < k → zs.getD j 0 ≠ z) → fnd zs z f i = k
  | 0, i, h1, h2, _ => by omega
  | f + 1, i, h1, h2, h3 => by
    rw [fnd]
    by_cases e : i = k
    · subst e; rw [if_pos hk]
    · rw [if_neg (h3 i (Nat.le_refl _) (by omega))]
      exact fnd_at zs z k hk f (i + 1) (by omega) (by omega) (fun j h4 h5 => h3 j (by omega) h5)
/- what stands in the row behind i steps -/
def Inv (zs : List Int) (i : Nat) (r : List Int) : Prop := r.length = zs.length ∧ (∀ k, k < i → ∃ z : Nat, zs.getD k 0 = z ∧ z < zs.length ∧ r.getD z 0 = k) ∧ ∀ j, j < zs.length → r.getD j 0 ≠ -1 → ∃ k, k < i ∧ zs.getD k 0 = j ∧ r.getD j 0 = k
theorem getD_set (r : List Int) (k j : Nat) (x : Int) (hk : k < r.length) : (r.set k x).getD j 0 = if j = k then x else r.getD j 0 := by
  by_cases e : j = k
  · subst e; simp [List.getD, hk]
  · simp [List.getD, e, List.getElem?_set_ne (show k ≠ j from fun h => e h.symm)]
theorem bk_inv (zs : List Int) : ∀ f i r b, bkL zs f i r = some b → Inv zs i r → Inv zs (i + f) b
  | 0, i, r, b, h, hi => by cases h; exact hi
  | f + 1, i, r, b, h, hi => by
    rw [bkL] at h
    split at h
    · cases h
    · rename_i hc
      obtain ⟨z, hz⟩ : ∃ z : Nat, zs.getD i 0 = z := ⟨(zs.getD i 0).toNat, by omega⟩
      rw [hz, Int.toNat_natCast] at h hc
      have hzl : z < zs.length := by omega
      have hzr : r.getD z 0 = -1 := by
        by_cases e : r.getD z 0 = -1
        · exact e
        · exact absurd (.inr (.inr e)) hc
      have := bk_inv zs f (i + 1) (r.set z i) b h ⟨by simpa using hi.1, fun k hk => ?_, fun j hj hne => ?_⟩
      · rw [show i + (f + 1) = i + 1 + f by omega]; exact this
      · by_cases e : k = i
        · subst e; exact ⟨z, hz, hzl, by rw [getD_set _ _ _ _ (by rw [hi.1]; exact hzl), if_pos rfl]⟩
        · obtain ⟨y, h1, h2, h3⟩ := hi.2.1 k (by omega)
          refine ⟨y, h1, h2, ?_⟩
          rw [getD_set _ _ _ _ (by rw [hi.1]; exact hzl), if_neg ?_]
          · exact h3
          · intro e2; subst e2; omega
      · rw [getD_set _ _ _ _ (by rw [hi.1]; exact hzl)] at hne ⊢
        by_cases e : j = z
        · subst e; exact ⟨i, by omega, hz, by rw [if_pos rfl]⟩
        · rw [if_neg e] at hne ⊢
          obtain ⟨k, h1, h2, h3⟩ := hi.2.2 j hj hne
          exact ⟨k, by omega, h2, h3⟩
theorem bk_fnd (zs b : List Int) (h : bk zs = some b) : b = (List.range zs.length).map (fun j => fnd zs (j : Nat) zs.length 0) := by
  have hi := bk_inv zs _ _ _ _ h ⟨by simp, fun k hk => by omega, fun j hj hne => by simp [List.getD, hj] at hne⟩
  rw [Nat.zero_add] at hi
  apply List.ext_getElem?
  intro j
  by_cases hj : j < zs.length
  · rw [List.getElem?_map, List.getElem?_range hj]
    have : b[j]? = some (b.getD j 0) := by rw [List.getD_eq_getElem?_getD, List.getElem?_eq_getElem (by rw [hi.1]; exact hj)]; rfl
    rw [this]
    show some _ = some (fnd zs (j : Nat) zs.length 0)
    congr 1
    by_cases e : b.getD j 0 = -1
    · rw [e, fnd_none]
      intro k _ hk he
      obtain ⟨z, h1, h2, h3⟩ := hi.2.1 k (by omega)
      have : z = j := by omega
      subst this
      omega
    · obtain ⟨k, h1, h2, h3⟩ := hi.2.2 j hj e
      rw [h3, fnd_at zs j k h2 zs.length 0 (Nat.zero_le _) (by omega)]
      intro k' _ hk' he
      obtain ⟨z, h4, h5, h6⟩ := hi.2.1 k' (by omega)
      have : z = j := by omega
      subst this
      omega
  · rw [List.getElem?_eq_none (by rw [hi.1]; omega), List.getElem?_eq_none (by simp; omega)]
theorem iv_rep (n : Nat) (cs : List Value) (h1 : cs.length = n) (h2 : ∀ q, q < n → cs[q]? = some (.int .i64 (-1))) : cs = iv (List.replicate n (-1)) := by
  apply List.ext_getElem?
  intro q
  by_cases hq : q < n
  · rw [h2 q hq, iv_get _ q (by simpa using hq)]; simp [List.getD, hq]
  · rw [List.getElem?_eq_none (by omega), List.getElem?_eq_none (by rw [iv_len]; simp; omega)]
theorem iv_set (r : List Int) (k : Nat) (x : Int) : (iv r).set k (.int .i64 x) = iv (r.set k x) := by rw [iv_map, iv_map, List.map_set]
def BPost (w : World) (B : Option (List Int)) (e : Ending) (w' : World) : Prop := ∃ cv, e = .returned (.tuple #[cv, .bool B.isSome]) ∧ Own w.heap.size w' cv (B.getD []) ∧ Up w w'
set_option maxRecDepth 100000 in
set_option maxHeartbeats 4000000 in
theorem back_ (v : Value) (zs : List Int) (w : World) (hv : LiesI w v zs) (hn : zs.length ≤ 10000000) :
    Calls Try.prog 22 #[v] w (BPost w (bk zs)) := by
  obtain ⟨iT, hiT, z0, z1, z2⟩ := info_parts infoT
  obtain ⟨B, hB⟩ : ∃ B, B = bk zs := ⟨_, rfl⟩
  rw [← hB]
  obtain ⟨Post, hPost⟩ : ∃ P : Ending → World → Prop, P = BPost w B := ⟨_, rfl⟩
  rw [← hPost]
  have HPo : Hid (Post = BPost w B) := hPost
  obtain ⟨a1, k1, rfl, h1⟩ := lies_at hv
  obtain ⟨n, hn0⟩ : ∃ n, n = zs.length := ⟨_, rfl⟩
  have HN : Hid (n = zs.length) := hn0
  have HB : Hid (bkL zs n 0 (List.replicate n (-1)) = B) := by unfold Hid; rw [hB, hn0]; rfl
  rw [← hn0] at hn h1 ⊢
  have H1 : Hid _ := h1
  obtain ⟨g, hg⟩ : ∃ g, g = w.heap.size := ⟨_, rfl⟩
  have HG : Hid (g = w.heap.size) := hg
  clear hv h1 hn0 hPost hB
  go_enter Try.func22, Try.ntmps22
  go_wp2_with (at_make; refine wpList_make_full _ rfl _ _ 22 rfl w.heap.size 3 iT (.int .i64 0) 1 Try.underlying22 hiT z0 z1 .i64 .i64 _ _ n rfl rfl rfl rfl (by rw [z2]; omega) (by unfold maxLen; omega) (Nat.le_refl _) ?_; intro w1 hin hg1)
  have HI : Hid (∃ cs : List Value, w1.heap[g]? = some (.cells cs.toArray 3 (0, 0)) ∧ cs.length = n ∧ Up w w1) := ⟨_, by rw [hg]; exact row_made hin, by have := hin.1; omega, made_up hg1⟩
  rw [← hg]
  clear hin hg1 hg
  go_loopw [13] (fun s4 W => ∃ (i : Nat) (cs : List Value), i ≤ n ∧ s4 = .int .i64 i ∧ W.heap[g]? = some (.cells cs.toArray 3 (0, 0)) ∧ cs.length = n ∧ (∀ q, q < i → cs[q]? = some (.int .i64 (-1))) ∧ Up w W) (fun s4 _ => n - (intOf s4).toNat)
  case atStart => obtain ⟨cs, x1, x2, x3⟩ := HI.out; exact ⟨0, cs, Nat.zero_le _, rfl, x1, x2, fun q hq => by omega, x3⟩
  case round =>
    obtain ⟨i, cs, hi, rfl, hrow, hcl, hq, hu⟩ := hrel
    clear HI
    by_cases hlt : i < n
    · have hlt2 : (i : Int) < (n : Int) := by omega
      obtain ⟨p1, pf1⟩ := row_atI hrow i
      rw [List.getElem?_eq_getElem (by omega)] at p1
      generalize cs[i]'(by omega) = q1 at p1
      have HR : Hid (∃ cs : List Value, (wr.setCell ⟨g, i, none⟩ (.int .i64 (-1))).heap[g]? = some (.cells cs.toArray 3 (0, 0)) ∧ cs.length = n ∧ (∀ q, q < i + 1 → cs[q]? = some (.int .i64 (-1))) ∧ Up w (wr.setCell ⟨g, i, none⟩ (.int .i64 (-1)))) := by
        refine ⟨cs.set i (.int .i64 (-1)), row_putI hrow i _, by simpa using hcl, fun q hq' => ?_, Below.setCell hu (by rw [HG.out]; exact Nat.le_refl _) _⟩
        by_cases e : q = i
        · subst e; rw [List.getElem?_set_self (by omega)]
        · rw [List.getElem?_set_ne (by omega)]; exact hq q (by omega)
      clear hrow hcl hq hu
      go_wp2
      go_roundw
      case rel => obtain ⟨cs, x1, x2, x3, x4⟩ := HR.out; exact ⟨i + 1, cs, by omega, by go_num, x1, x2, x3, x4⟩
      case measure => simp [intOf] <;> omega
    · obtain rfl : i = n := by omega
      have hlt2 : ¬ (i : Int) < (i : Int) := by omega
      have HR0 : Hid (Blk wr g (iv (List.replicate i (-1))) ∧ Up w wr) := by
        refine ⟨?_, hu⟩
        rw [← iv_rep i cs hcl hq]; exact hrow
      clear hrow hcl hq hu
      go_wp2_with fail
      go_loopw [22] (fun s22 W => ∃ (k : Nat) (r : List Int), k ≤ i ∧ s22 = .int .i64 k ∧ Blk W g (iv r) ∧ r.length = i ∧ bkL zs (i - k) k r = B ∧ Up w W) (fun s22 _ => i - (intOf s22).toNat)
      case atStart => exact ⟨0, _, Nat.zero_le _, rfl, HR0.out.1, by simp, HB.out, HR0.out.2⟩
      case round =>
        obtain ⟨k, r, hk, rfl, hrow, hrl, hbk, hu⟩ := hrel
        clear HR0 HB
        have HROW : Hid (Blk wr g (iv r)) := hrow
        have HBK : Hid (bkL zs (i - k) k r = B) := hbk
        have HU : Hid (Up w wr) := hu
        have HRL : Hid (r.length = i) := hrl
        by_cases hlt3 : k < i
        · have hlt4 : (k : Int) < (i : Int) := by omega
          obtain ⟨b1, o1, rfl, -, c1⟩ := H1.out (by omega)
          have x1 := c1 _ hu k hlt3
          have HB2 : Hid ((if zs.getD k 0 < 0 ∨ (i : Int) ≤ zs.getD k 0 ∨ r.getD (zs.getD k 0).toNat 0 ≠ -1 then none else bkL zs (i - (k + 1)) (k + 1) (r.set (zs.getD k 0).toNat k)) = B) := by
            unfold Hid
            rw [← HBK.out, show i - k = i - (k + 1) + 1 by omega, bkL, HN.out]
          generalize zs.getD k 0 = z at x1 HB2
          clear c1 hrow hbk hu HBK hrl
          have HNONE : Hid (B = none → BPost w B (.returned (.tuple #[.slice none 0 0, .bool false])) wr) := fun e => ⟨.slice none 0 0, by rw [e]; rfl, .inl ⟨rfl, by rw [e]; rfl⟩, HU.out⟩
          by_cases hz1 : z < 0
          · have hBn : B = none := by rw [← HB2.out, if_pos (.inl hz1)]
            have HBN : Hid (B = none) := hBn
            clear hBn
            go_wp2
            rw [HPo.out]
            exact HNONE.out HBN.out
          · by_cases hz2 : (i : Int) ≤ z
            · have hBn : B = none := by rw [← HB2.out, if_pos (.inr (.inl hz2))]
              have HBN : Hid (B = none) := hBn
              clear hBn
              go_wp2
              rw [HPo.out]
              exact HNONE.out HBN.out
            · obtain ⟨y, rfl⟩ : ∃ y : Nat, z = y := ⟨z.toNat, by omega⟩
              have hyi : y < i := by omega
              have hyi2 : (y : Int) < (i : Int) := by omega
              rw [Int.toNat_natCast] at HB2
              obtain ⟨p1, pf1⟩ := row_atI HROW.out y
              rw [iv_get r y (by rw [HRL.out]; exact hyi)] at p1
              by_cases hz3 : r.getD y 0 = -1
              · have HB3 : Hid (bkL zs (i - (k + 1)) (k + 1) (r.set y k) = B) := by
                  unfold Hid
                  rw [← HB2.out, if_neg (by rw [hz3]; simp; omega)]
                rw [hz3] at p1
                have HR2 : Hid (Blk (wr.setCell ⟨g, y, none⟩ (.int .i64 (k : Int))) g (iv (r.set y k)) ∧ Up w (wr.setCell ⟨g, y, none⟩ (.int .i64 (k : Int)))) := by
                  refine ⟨?_, Below.setCell HU.out (by rw [HG.out]; exact Nat.le_refl _) _⟩
                  rw [← iv_set]; exact row_putI HROW.out y _
                clear hz3 HB2 HNONE
                go_wp2
                go_roundw
                case rel => exact ⟨k + 1, _, by omega, by go_num, HR2.out.1, by simpa using HRL.out, HB3.out, HR2.out.2⟩
                case measure => simp [intOf] <;> omega
              · have HBN : Hid (B = none) := by unfold Hid; rw [← HB2.out, if_pos (.inr (.inr hz3))]
                generalize r.getD y 0 = ry at p1 hz3
                have hz4 : (ry == -1) = false := beq_eq_false_iff_ne.2 hz3
                clear HB2
                go_wp2
                rw [HPo.out]
                exact HNONE.out HBN.out
        · obtain rfl : k = i := by omega
          have hlt4 : ¬ (k : Int) < (k : Int) := by omega
          have HB2 : Hid (B = some r) := by unfold Hid; rw [← HBK.out, Nat.sub_self, bkL]
          clear hrow hbk hu HBK hrl
          go_wp2
          rw [HPo.out]
          exact ⟨_, by rw [HB2.out]; rfl, .inr ⟨g, by rw [HG.out]; exact Nat.le_refl _, by rw [HB2.out]; show _ = Value.slice _ r.length r.length; rw [HRL.out], by rw [HB2.out]; exact HROW.out⟩, HU.out⟩
set_option maxHeartbeats 1000000 in
theorem is_ (v : Value) (zs : List Int) (w : World) (hv : LiesI w v zs) (hn : zs.length ≤ 10000000) :
    Calls Try.prog 20 #[v] w fun e w' => e = .returned (.bool (bk zs).isSome) ∧ Up w w' := by
  have HBK : Hid _ := back_ v zs w hv hn
  generalize bk zs = B at HBK ⊢
  clear hv hn
  go_enter Try.func20, Try.ntmps20
  go_wp2_with fail
  refine Calls.mono HBK.out ?_
  rintro e w1 ⟨cv, rfl, -, u⟩
  have HU : Hid (Up w w1) := u
  clear u HBK
  go_wp2
  go_ret
  exact ⟨rfl, HU.out⟩
end OD
end Go.Proofs.Ytnmoaebmopjmhaa
