
/-
  Redo and Do at a pair of stacks.
-/
import Derived.Test.YtgonflnmkfgfhaaPau
namespace Go.Proofs.Ytgonflnmkfgfhaa
open Go.RowKit

namespace DS
open IN
theorem drop_last (all : List Int) (d : Nat) (h : d < all.length) : (all.drop d).reverse.getD ((all.drop d).reverse.length - 1) 0 = all.getD d 0 ∧ (all.drop d).reverse.eraseIdx ((all.drop d).reverse.length - 1) = (all.drop (d + 1)).reverse ∧ all.take d ++ [all.getD d 0] = all.take (d + 1) := by
  have e : all.drop d = all.getD d 0 :: all.drop (d + 1) := by
    rw [List.drop_eq_getElem_cons (i := d) h, List.getD_eq_getElem?_getD, List.getElem?_eq_getElem h]
    rfl
  have hl : (all.drop d).reverse.length - 1 = (all.drop (d + 1)).reverse.length := by simp; omega
  rw [hl, e, List.reverse_cons]
  refine ⟨?_, ?_, ?_⟩
  · rw [List.getD_eq_getElem?_getD, List.getElem?_append_right (Nat.le_refl _), Nat.sub_self]
    rfl
  · rw [List.eraseIdx_append_of_length_le (Nat.le_refl _), Nat.sub_self]
    simp
  · rw [List.take_add_one, List.getD_eq_getElem?_getD, List.getElem?_eq_getElem h]
    rfl
theorem pair_redo (sb b1 rb b2 : Nat) (v vd vu : Value) (all : List Int) (d : Nat) (most : Int) (hp : Option Addr) (on n : Int) (w : World) (h : Pair w sb b1 rb b2 v vd vu all d most) (ha : Ap v vd vu) (hl : all.length ≤ 50000) :
    Calls Try.prog 8 #[.pointer (some ⟨sb, 0, none⟩), .pointer (some ⟨rb, 0, none⟩), op 2 on n, .pointer hp] w fun e w' => e = .returned (.bool true) ∧ Stp w sb b1 rb v vd vu all most w' := by
  obtain ⟨hs, hr⟩ := h
  have hda := hs.2.2.2
  by_cases hd : d = all.length
  · subst hd
    refine (does_redo _ _ hp on n 0 false (fun w1 => Up w w1) (fun w2 => Up w w2) w (fun W u => ?_) (fun w1 u => ?_)).mono ?_
    · exact (LIS.redo_none sb b1 v all most W (hs.up u)).mono fun e w1 k => ⟨k.1, Up.trans u k.2, nw_up k.2⟩
    · exact (RS.rredo_none rb b2 vd vu most _ _ w1 (hr.up u) (by simp)).mono fun e w2 k => ⟨k.1, Up.trans u k.2⟩
    · rintro e w' ⟨he, u⟩
      exact ⟨he, b2, v, vd, vu, all, all.length, ⟨hs.up u, hr.up u⟩, ha, .inl rfl, .inl rfl, .inl rfl, Chg.up u, by omega⟩
  · have hd2 : d < all.length := by omega
    obtain ⟨t1, t2, t3⟩ := drop_last all d hd2
    have hvl := row_lt hs.2.1
    have hsl : sb < w.heap.size := (Array.getElem?_eq_some_iff.1 hs.1).1
    refine (does_redo _ _ hp on n (all.getD d 0) true (fun w1 => LIS.StackAt w1 sb b1 v all (d + 1) most ∧ RS.RSt w1 rb b2 vd vu most (all.take d) (all.drop d).reverse ∧ Chg sb rb v w w1) (Stp w sb b1 rb v vd vu all most) w (fun W u => ?_) (fun w1 u => ?_)).mono fun e w' k => k
    · refine (LIS.redo sb b1 v all d most W (hs.up u) hd2 (by omega)).mono ?_
      rintro e w1 ⟨k1, k2, k3⟩
      have t := two_only (v := .slice none 0 0) k3
      refine ⟨k1, ⟨k2, rst_only (hr.up u) (hs.up u).1 t (fun g e => by cases e), ?_⟩, nw_two t hsl (fun g e => by cases e)⟩
      exact ⟨⟨k3.1.1.trans u.os, k3.1.2.1.trans u.tape, k3.1.2.2.trans u.output⟩, Nat.le_trans u.size k3.2.1, fun b hb h1 _ _ => (k3.2.2 b (Nat.lt_of_lt_of_le hb u.size) h1).trans (u.block b hb)⟩
    · obtain ⟨k1, k2, k3⟩ := u
      have hrl : rb < w1.heap.size := (Array.getElem?_eq_some_iff.1 k2.1).1
      refine (RS.rredo_ rb b2 w1.heap.size vd vu most _ _ w1 k2 (by simp; omega) ⟨by rw [List.length_take]; omega, by simp; omega⟩ hrl (Nat.le_refl _)).mono ?_
      rintro e w2 ⟨he, ⟨vd', vu', q⟩, o⟩
      rw [t1] at he
      rw [t1, t2, t3] at q
      refine ⟨he, w1.heap.size, v, vd', vu', all, d + 1, ⟨stack_only k1 k2.1 o, q⟩, ap_new (fun g e => Nat.lt_of_lt_of_le (hvl g e) k3.2.1) q.2.1 q.2.2.1 (Nat.le_refl _), .inl rfl, new_row q.2.1 k3.2.1, new_row q.2.2.1 k3.2.1, k3.only o, by omega⟩
theorem pair_do (sb b1 rb b2 : Nat) (v vd vu : Value) (all : List Int) (d : Nat) (most : Int) (hp : Option Addr) (on n : Int) (w : World) (h : Pair w sb b1 rb b2 v vd vu all d most) (ha : Ap v vd vu) (hl : all.length ≤ 50000) (hb1 : b1 ≤ w.heap.size) :
    Calls Try.prog 8 #[.pointer (some ⟨sb, 0, none⟩), .pointer (some ⟨rb, 0, none⟩), op 0 on n, .pointer hp] w fun e w' => e = .returned (.bool true) ∧ Stp w sb b1 rb v vd vu all most w' := by
  obtain ⟨hs, hr⟩ := h
  have hda := hs.2.2.2
  have htl : (all.take d).length = d := by rw [List.length_take]; omega
  by_cases hd : most ≤ (d : Int)
  · refine (does_do _ _ hp on n false (fun w1 => Up w w1) (fun w2 => Up w w2) w (fun W u => ?_) (fun w1 u => ?_)).mono ?_
    · exact (LIS.do_full sb b1 v all d most n W (hs.up u) hd).mono fun e w1 k => ⟨k.1, Up.trans u k.2, nw_up k.2⟩
    · exact (RS.rdo_full rb b2 vd vu most n _ _ w1 (hr.up u) (by rw [htl]; exact hd)).mono fun e w2 k => ⟨k.1, Up.trans u k.2⟩
    · rintro e w' ⟨he, u⟩
      exact ⟨he, b2, v, vd, vu, all, d, ⟨hs.up u, hr.up u⟩, ha, .inl rfl, .inl rfl, .inl rfl, Chg.up u, by omega⟩
  · have hd2 : (d : Int) < most := by omega
    have hvl := row_lt hs.2.1
    have hsl : sb < w.heap.size := (Array.getElem?_eq_some_iff.1 hs.1).1
    have hvr : ∀ g, v.ownBlock = some g → g ≠ rb := fun g e e2 => by
      subst e2
      rcases hs.2.1.2 with ⟨e0, _⟩ | ⟨g', cap, cur, e0, _, e3, _⟩
      · rw [e0] at e; cases e
      · rw [e0] at e
        have e' : g' = g := by simpa [Value.ownBlock] using e
        subst e'
        have := hr.1
        rw [e3] at this
        cases this
    refine (does_do _ _ hp on n true (fun w1 => ∃ v', LIS.StackAt w1 sb b1 v' (all.take d ++ [n]) (d + 1) most ∧ RS.RSt w1 rb b2 vd vu most (all.take d) (all.drop d).reverse ∧ Chg sb rb v w w1 ∧ New w v v') (Stp w sb b1 rb v vd vu all most) w (fun W u => ?_) (fun w1 u => ?_)).mono fun e w' k => k
    · refine (LIS.do_ sb b1 v all d most n W (hs.up u) hd2 (by omega) (by omega) (Nat.le_trans hb1 u.size)).mono ?_
      rintro e w1 ⟨k1, v', k2, k3, k4⟩
      refine ⟨k1, ⟨v', k2, rst_only (hr.up u) (hs.up u).1 k3 (fun g e => ⟨hvr g e, ha g e⟩), ?_, ?_⟩, nw_two k3 hsl hvl⟩
      · exact ⟨⟨k3.1.1.trans u.os, k3.1.2.1.trans u.tape, k3.1.2.2.trans u.output⟩, Nat.le_trans u.size k3.2.1, fun b hb h1 _ h3 => (k3.2.2 b (Nat.lt_of_lt_of_le hb u.size) h1 h3).trans (u.block b hb)⟩
      · rcases k4 with k4 | ⟨g, k4, k5⟩
        · exact .inl k4
        · exact .inr fun g' e => by rw [k4] at e; cases e; exact Nat.le_trans u.size k5
    · obtain ⟨v', k1, k2, k3, k4⟩ := u
      have hrl : rb < w1.heap.size := (Array.getElem?_eq_some_iff.1 k2.1).1
      refine (RS.rdo_ rb b2 w1.heap.size vd vu most n _ _ w1 k2 (by rw [htl]; exact hd2) (by rw [htl]; omega) hrl (Nat.le_refl _)).mono ?_
      rintro e w2 ⟨he, ⟨vd', q⟩, o⟩
      have e1 : (all.take d ++ [n]).length = d + 1 := by rw [List.length_append, htl]; rfl
      refine ⟨he, w1.heap.size, v', vd', _, all.take d ++ [n], d + 1, ⟨stack_only k1 k2.1 o, ?_⟩, ap_new (row_lt k1.2.1) q.2.1 q.2.2.1 (Nat.le_refl _), k4, new_row q.2.1 k3.2.1, new_row q.2.2.1 k3.2.1, k3.only o, by rw [e1]; omega⟩
      rw [List.take_of_length_le (by omega), List.drop_of_length_le (by omega)]
      exact q
end DS
end Go.Proofs.Ytgonflnmkfgfhaa
