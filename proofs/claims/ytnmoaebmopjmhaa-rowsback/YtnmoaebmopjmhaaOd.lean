/-
  Orders: the document's Is and Back, and Order by both.
-/
import Derived.Test.YtnmoaebmopjmhaaBk
namespace Go.Proofs.Ytnmoaebmopjmhaa
open Go.RowKit
attribute [local go_sem ↓] Go.wp_at_zero Go.wp_at_succ

namespace OD
open IN AP CU
theorem infoB : (Try.prog.info? 4).map (fun i => (i.zero, i.size, i.bytes)) = some (some (.bool false), 1, 1) := by kernel_rfl
def Bl (W : World) (g : Nat) (cs : List Value) : Prop := W.heap[g]? = some (.cells cs.toArray 4 (0, 0))
theorem row_atB {W : World} {gl : Nat} {cs : List Value} (h : Bl W gl cs) (i : Nat) : W.cell? ⟨gl, i, none⟩ = cs[i]? ∧ W.frozen? ⟨gl, i, none⟩ = false := ⟨by simp [World.cell?, show W.heap[gl]? = _ from h], by simp [World.frozen?, show W.heap[gl]? = _ from h]⟩
theorem row_putB {W : World} {gl : Nat} {cs : List Value} (h : Bl W gl cs) (i : Nat) (a : Value) : Bl (W.setCell ⟨gl, i, none⟩ a) gl (cs.set i a) := by
  unfold Bl
  simp only [World.setCell, Array.getElem?_modify]
  rw [show W.heap[gl]? = _ from h]
  simp
set_option maxRecDepth 100000 in
set_option maxHeartbeats 4000000 in
theorem ris_ (v : Value) (zs : List Int) (w : World) (hv : LiesI w v zs) (hn : zs.length ≤ 10000000) :
    Calls Try.prog 25 #[v] w fun e w' => e = .returned (.bool (bk zs).isSome) ∧ Up w w' := by
  obtain ⟨iT, hiT, z0, z1, z2⟩ := info_parts infoB
  obtain ⟨B, hB⟩ : ∃ B, B = bk zs := ⟨_, rfl⟩
  rw [← hB]
  obtain ⟨Post, hPost⟩ : ∃ P : Ending → World → Prop, P = fun e w' => e = .returned (.bool B.isSome) ∧ Up w w' := ⟨_, rfl⟩
  rw [← hPost]
  have HPo : Hid (Post = fun e w' => e = .returned (.bool B.isSome) ∧ Up w w') := hPost
  obtain ⟨a1, k1, rfl, h1⟩ := lies_at hv
  obtain ⟨n, hn0⟩ : ∃ n, n = zs.length := ⟨_, rfl⟩
  have HN : Hid (n = zs.length) := hn0
  have HB : Hid (bkL zs n 0 (List.replicate n (-1)) = B) := by unfold Hid; rw [hB, hn0]; rfl
  rw [← hn0] at hn h1 ⊢
  have H1 : Hid _ := h1
  obtain ⟨g, hg⟩ : ∃ g, g = w.heap.size := ⟨_, rfl⟩
  have HG : Hid (g = w.heap.size) := hg
  clear hv h1 hn0 hPost hB
  go_enter Try.func25, Try.ntmps25
  go_wp2_with (at_make; refine wpList_make_full _ rfl _ _ 110 rfl w.heap.size 4 iT (.bool false) 1 Try.underlying110 hiT z0 z1 .i64 .i64 _ _ n rfl rfl rfl rfl (by rw [z2]; omega) (by unfold maxLen; omega) (Nat.le_refl _) ?_; intro w1 hin hg1)
  have HI : Hid (∃ cs : List Value, Bl w1 g cs ∧ cs.length = n ∧ (∀ q, q < n → cs[q]? = some (.bool (decide ((List.replicate n (-1 : Int)).getD q 0 ≠ -1)))) ∧ Up w w1) := by
    refine ⟨_, by rw [hg]; exact row_made hin, by have := hin.1; omega, fun q hq => ?_, made_up hg1⟩
    simp [madeCells, Value.cells, hq, List.getD, Nat.mod_one]
  rw [← hg]
  clear hin hg1 hg
  go_loopw [4] (fun s4 W => ∃ (k : Nat) (r : List Int) (cs : List Value), k ≤ n ∧ s4 = .int .i64 k ∧ Bl W g cs ∧ cs.length = n ∧ (∀ q, q < n → cs[q]? = some (.bool (decide (r.getD q 0 ≠ -1)))) ∧ r.length = n ∧ bkL zs (n - k) k r = B ∧ Up w W) (fun s4 _ => n - (intOf s4).toNat)
  case atStart => obtain ⟨cs, x1, x2, x3, x4⟩ := HI.out; exact ⟨0, _, cs, Nat.zero_le _, rfl, x1, x2, x3, by simp, HB.out, x4⟩
  case round =>
    obtain ⟨k, r, cs, hk, rfl, hrow, hcl, hq, hrl, hbk, hu⟩ := hrel
    clear HI HB
    have HROW : Hid (Bl wr g cs ∧ cs.length = n ∧ ∀ q, q < n → cs[q]? = some (.bool (decide (r.getD q 0 ≠ -1)))) := ⟨hrow, hcl, hq⟩
    have HBK : Hid (bkL zs (n - k) k r = B) := hbk
    have HU : Hid (Up w wr) := hu
    have HRL : Hid (r.length = n) := hrl
    by_cases hlt3 : k < n
    · have hlt4 : (k : Int) < (n : Int) := by omega
      obtain ⟨b1, o1, rfl, -, c1⟩ := H1.out (by omega)
      have x1 := c1 _ hu k hlt3
      have HB2 : Hid ((if zs.getD k 0 < 0 ∨ (n : Int) ≤ zs.getD k 0 ∨ r.getD (zs.getD k 0).toNat 0 ≠ -1 then none else bkL zs (n - (k + 1)) (k + 1) (r.set (zs.getD k 0).toNat k)) = B) := by
        unfold Hid
        rw [← HBK.out, show n - k = n - (k + 1) + 1 by omega, bkL, HN.out]
      generalize zs.getD k 0 = z at x1 HB2
      clear c1 hrow hbk hu HBK hrl hcl hq
      have HNONE : Hid (B = none → (Ending.returned (.bool false) = .returned (.bool B.isSome)) ∧ Up w wr) := fun e => ⟨by rw [e]; rfl, HU.out⟩
      by_cases hz1 : z < 0
      · have HBN : Hid (B = none) := by unfold Hid; rw [← HB2.out, if_pos (.inl hz1)]
        go_wp2
        rw [HPo.out]
        exact HNONE.out HBN.out
      · by_cases hz2 : (n : Int) ≤ z
        · have HBN : Hid (B = none) := by unfold Hid; rw [← HB2.out, if_pos (.inr (.inl hz2))]
          go_wp2
          rw [HPo.out]
          exact HNONE.out HBN.out
        · obtain ⟨y, rfl⟩ : ∃ y : Nat, z = y := ⟨z.toNat, by omega⟩
          have hyi : y < n := by omega
          have hyi2 : (y : Int) < (n : Int) := by omega
          rw [Int.toNat_natCast] at HB2
          obtain ⟨p1, pf1⟩ := row_atB HROW.out.1 y
          rw [HROW.out.2.2 y hyi] at p1
          by_cases hz3 : r.getD y 0 = -1
          · have HB3 : Hid (bkL zs (n - (k + 1)) (k + 1) (r.set y k) = B) := by
              unfold Hid
              rw [← HB2.out, if_neg (by rw [hz3]; simp; omega)]
            rw [decide_eq_false (fun h => h hz3)] at p1
            have HR2 : Hid (∃ cs, Bl (wr.setCell ⟨g, y, none⟩ (.bool true)) g cs ∧ cs.length = n ∧ (∀ q, q < n → cs[q]? = some (.bool (decide ((r.set y (k : Int)).getD q 0 ≠ -1)))) ∧ Up w (wr.setCell ⟨g, y, none⟩ (.bool true))) := by
              refine ⟨cs.set y (.bool true), row_putB HROW.out.1 y _, by simpa using HROW.out.2.1, fun q hq => ?_, Below.setCell HU.out (by rw [HG.out]; exact Nat.le_refl _) _⟩
              rw [getD_set _ _ _ _ (by rw [HRL.out]; exact hyi)]
              by_cases e : q = y
              · subst e; rw [List.getElem?_set_self (by rw [HROW.out.2.1]; exact hq), if_pos rfl, decide_eq_true (by omega)]
              · rw [List.getElem?_set_ne (fun h => e h.symm), if_neg e]; exact HROW.out.2.2 q hq
            clear hz3 HB2 HNONE
            go_wp2
            go_roundw
            case rel => obtain ⟨cs, x1, x2, x3, x4⟩ := HR2.out; exact ⟨k + 1, _, cs, by omega, by go_num, x1, x2, x3, by simpa using HRL.out, HB3.out, x4⟩
            case measure => simp [intOf] <;> omega
          · have HBN : Hid (B = none) := by unfold Hid; rw [← HB2.out, if_pos (.inr (.inr hz3))]
            rw [decide_eq_true hz3] at p1
            clear HB2 hz3
            go_wp2
            rw [HPo.out]
            exact HNONE.out HBN.out
    · obtain rfl : k = n := by omega
      have hlt4 : ¬ (k : Int) < (k : Int) := by omega
      have HB2 : Hid (B = some r) := by unfold Hid; rw [← HBK.out, Nat.sub_self, bkL]
      clear hrow hbk hu HBK hrl hcl hq
      go_wp2
      rw [HPo.out]
      exact ⟨by rw [HB2.out]; rfl, HU.out⟩
def ol (xs zs : List Int) : List Int := zs.map (fun z => xs.getD z.toNat 0)
theorem ol_get (xs zs : List Int) (i : Nat) (hi : i < zs.length) : (ol xs zs).getD i 0 = xs.getD (zs.getD i 0).toNat 0 := by simp [ol, List.getD, hi]
theorem ol_len (xs zs : List Int) : (ol xs zs).length = zs.length := by simp [ol]
def ordL (xs zs : List Int) : List Int := if zs.length = xs.length ∧ (bk zs).isSome = true then ol xs zs else []
def ordOk (xs zs : List Int) : Bool := decide (zs.length = xs.length ∧ (bk zs).isSome = true)
def OPost (w : World) (xs zs : List Int) (e : Ending) (w' : World) : Prop := ∃ cv, e = .returned (.tuple #[cv, .bool (ordOk xs zs)]) ∧ Own w.heap.size w' cv (ordL xs zs) ∧ Up w w'
def ROPost (w : World) (xs zs : List Int) (e : Ending) (w' : World) : Prop := ∃ cv, e = .returned (.tuple #[cv, .bool (ordOk xs zs)]) ∧ LiesI w' cv (ordL xs zs) ∧ Up w w'
theorem o_none {w w' : World} {xs zs : List Int} (h : ¬ (zs.length = xs.length ∧ (bk zs).isSome = true)) (u : Up w w') : OPost w xs zs (.returned (.tuple #[.slice none 0 0, .bool false])) w' :=
  ⟨.slice none 0 0, by rw [ordOk, decide_eq_false h], .inl ⟨rfl, by rw [ordL, if_neg h]⟩, u⟩
theorem ro_none {w w' : World} {xs zs : List Int} (h : ¬ (zs.length = xs.length ∧ (bk zs).isSome = true)) (u : Up w w') : ROPost w xs zs (.returned (.tuple #[.slice none 0 0, .bool false])) w' :=
  ⟨.slice none 0 0, by rw [ordOk, decide_eq_false h], by rw [ordL, if_neg h]; exact ⟨none, 0, rfl, fun h => absurd rfl h⟩, u⟩
theorem bk_in (zs : List Int) (h : (bk zs).isSome = true) (k : Nat) (hk : k < zs.length) : ∃ y : Nat, zs.getD k 0 = y ∧ y < zs.length := by
  obtain ⟨b, hb⟩ := Option.isSome_iff_exists.1 h
  have := bk_range zs _ _ _ b hb k (Nat.zero_le _) (by omega)
  exact ⟨(zs.getD k 0).toNat, by omega, by omega⟩
end OD
end Go.Proofs.Ytnmoaebmopjmhaa
