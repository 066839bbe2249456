
/-
  Undo and Redo at a pair of stacks.
-/
import Derived.Test.YtgonflnmkfgfhaaPai
namespace Go.Proofs.Ytgonflnmkfgfhaa
open Go.RowKit

namespace DS
open IN
def Ap (v vd vu : Value) : Prop := ∀ g, v.ownBlock = some g → vd.ownBlock ≠ some g ∧ vu.ownBlock ≠ some g
def New (w : World) (u u' : Value) : Prop := u'.ownBlock = u.ownBlock ∨ ∀ g, u'.ownBlock = some g → w.heap.size ≤ g
def Chg (sb rb : Nat) (v : Value) (w w' : World) : Prop := (w'.os = w.os ∧ w'.tape = w.tape ∧ w'.output = w.output) ∧ w.heap.size ≤ w'.heap.size ∧ ∀ b, b < w.heap.size → b ≠ sb → b ≠ rb → v.ownBlock ≠ some b → w'.heap[b]? = w.heap[b]?
theorem Chg.up {sb rb : Nat} {v : Value} {w w' : World} (u : Up w w') : Chg sb rb v w w' := ⟨⟨u.os, u.tape, u.output⟩, u.size, fun b hb _ _ _ => u.block b hb⟩
theorem Chg.two {sb rb : Nat} {v : Value} {w w' : World} (u : LIS.Two sb v w w') : Chg sb rb v w w' := ⟨u.1, u.2.1, fun b hb h1 _ h3 => u.2.2 b hb h1 h3⟩
theorem Chg.only {sb rb : Nat} {v : Value} {w w1 w2 : World} (h : Chg sb rb v w w1) (o : Only rb w1 w2) : Chg sb rb v w w2 :=
  ⟨⟨o.1.1.trans h.1.1, o.1.2.1.trans h.1.2.1, o.1.2.2.trans h.1.2.2⟩, Nat.le_trans h.2.1 o.2.1, fun b hb h1 h2 h3 => (o.2.2 b (Nat.lt_of_lt_of_le hb h.2.1) h2).trans (h.2.2 b hb h1 h2 h3)⟩
theorem Chg.then_up {sb rb : Nat} {v : Value} {w w1 w2 : World} (h : Chg sb rb v w w1) (u : Up w1 w2) : Chg sb rb v w w2 := h.only (Only.up u)
theorem two_only {sb : Nat} {v : Value} {w w' : World} (o : Only sb w w') : LIS.Two sb v w w' := ⟨o.1, o.2.1, fun g hg h1 _ => o.2.2 g hg h1⟩
theorem nw_two {sb : Nat} {v : Value} {w W w1 : World} (t : LIS.Two sb v W w1) (hs : sb < w.heap.size) (hv : ∀ g, v.ownBlock = some g → g < w.heap.size) : Nw w W w1 :=
  ⟨t.2.1, fun b h1 h2 => t.2.2 b h2 (by omega) (fun e => by have := hv b e; omega)⟩
theorem nw_up {w W w1 : World} (u : Up W w1) : Nw w W w1 := ⟨u.size, fun b _ h2 => u.block b h2⟩
/- what a call leaves of a pair -/
def Stp (w : World) (sb b1 rb : Nat) (v vd vu : Value) (all : List Int) (most : Int) (w' : World) : Prop :=
  ∃ b2 v' vd' vu' all' d', Pair w' sb b1 rb b2 v' vd' vu' all' d' most ∧ Ap v' vd' vu' ∧ New w v v' ∧ New w vd vd' ∧ New w vu vu' ∧ Chg sb rb v w w' ∧ all'.length ≤ all.length + 1
theorem new_row {w w' : World} {b n : Nat} {u u' : Value} {ys : List Value} (h : w'.ownsRow b 3 1 u' n ys) (hb : w.heap.size ≤ b) : New w u u' := .inr fun g hg => Nat.le_trans hb (h.lt g hg).1
theorem row_lt {w : World} {b e n : Nat} {u : Value} {ys : List Value} (h : w.ownsRow b e 1 u n ys) : ∀ g, u.ownBlock = some g → g < w.heap.size := fun g hg => (h.lt g hg).2
theorem ap_new {w w' : World} {b n m : Nat} {v u1 u2 : Value} {ys zs : List Value} (hv : ∀ g, v.ownBlock = some g → g < w.heap.size) (h1 : w'.ownsRow b 3 1 u1 n ys) (h2 : w'.ownsRow b 3 1 u2 m zs) (hb : w.heap.size ≤ b) : Ap v u1 u2 := fun g hg =>
  ⟨fun e => by have := (h1.lt g e).1; have := hv g hg; omega, fun e => by have := (h2.lt g e).1; have := hv g hg; omega⟩
theorem take_last (all : List Int) (d : Nat) (h : d + 1 ≤ all.length) : (all.take (d + 1)).getD ((all.take (d + 1)).length - 1) 0 = all.getD d 0 ∧ (all.take (d + 1)).eraseIdx ((all.take (d + 1)).length - 1) = all.take d ∧ (all.drop (d + 1)).reverse ++ [all.getD d 0] = (all.drop d).reverse := by
  have hl : (all.take (d + 1)).length - 1 = d := by rw [List.length_take]; omega
  rw [hl]
  refine ⟨by simp [List.getD_eq_getElem?_getD], ?_, ?_⟩
  · rw [List.eraseIdx_eq_take_drop_succ, List.take_take, List.drop_of_length_le (by rw [List.length_take]; omega), List.append_nil, Nat.min_eq_left (by omega)]
  · rw [List.drop_eq_getElem_cons (i := d) (by omega), List.reverse_cons, List.getD_eq_getElem?_getD, List.getElem?_eq_getElem (by omega)]
    rfl
theorem pair_undo (sb b1 rb b2 : Nat) (v vd vu : Value) (all : List Int) (d : Nat) (most : Int) (hp : Option Addr) (on n : Int) (w : World) (h : Pair w sb b1 rb b2 v vd vu all d most) (ha : Ap v vd vu) (hl : all.length ≤ 50000) :
    Calls Try.prog 8 #[.pointer (some ⟨sb, 0, none⟩), .pointer (some ⟨rb, 0, none⟩), op 1 on n, .pointer hp] w fun e w' => e = .returned (.bool true) ∧ Stp w sb b1 rb v vd vu all most w' := by
  obtain ⟨hs, hr⟩ := h
  have hda := hs.2.2.2
  cases d with
  | zero =>
    refine (does_undo _ _ hp on n 0 false (fun w1 => Up w w1) (fun w2 => Up w w2) w (fun W u => ?_) (fun w1 u => ?_)).mono ?_
    · exact (LIS.undo_none sb b1 v all most W (hs.up u)).mono fun e w1 k => ⟨k.1, Up.trans u k.2, nw_up k.2⟩
    · exact (RS.rundo_none rb b2 vd vu most _ _ w1 (hr.up u) (by simp)).mono fun e w2 k => ⟨k.1, Up.trans u k.2⟩
    · rintro e w' ⟨he, u⟩
      exact ⟨he, b2, v, vd, vu, all, 0, ⟨hs.up u, hr.up u⟩, ha, .inl rfl, .inl rfl, .inl rfl, Chg.up u, by omega⟩
  | succ d =>
    obtain ⟨t1, t2, t3⟩ := take_last all d hda
    have hvl := row_lt hs.2.1
    have hsl : sb < w.heap.size := (Array.getElem?_eq_some_iff.1 hs.1).1
    refine (does_undo _ _ hp on n (all.getD d 0) true (fun w1 => LIS.StackAt w1 sb b1 v all d most ∧ RS.RSt w1 rb b2 vd vu most (all.take (d + 1)) (all.drop (d + 1)).reverse ∧ Chg sb rb v w w1) (Stp w sb b1 rb v vd vu all most) w (fun W u => ?_) (fun w1 u => ?_)).mono fun e w' k => k
    · refine (LIS.undo sb b1 v all d most W (hs.up u) (by omega)).mono ?_
      rintro e w1 ⟨k1, k2, k3⟩
      have t := two_only (v := .slice none 0 0) k3
      refine ⟨k1, ⟨k2, rst_only (hr.up u) (hs.up u).1 t (fun g e => by cases e), ?_⟩, nw_two t hsl (fun g e => by cases e)⟩
      exact ⟨⟨k3.1.1.trans u.os, k3.1.2.1.trans u.tape, k3.1.2.2.trans u.output⟩, Nat.le_trans u.size k3.2.1, fun b hb h1 _ _ => (k3.2.2 b (Nat.lt_of_lt_of_le hb u.size) h1).trans (u.block b hb)⟩
    · obtain ⟨k1, k2, k3⟩ := u
      have hrl : rb < w1.heap.size := (Array.getElem?_eq_some_iff.1 k2.1).1
      refine (RS.rundo_ rb b2 w1.heap.size vd vu most _ _ w1 k2 (by rw [List.length_take]; omega) ⟨by rw [List.length_take]; omega, by simp; omega⟩ hrl (Nat.le_refl _)).mono ?_
      rintro e w2 ⟨he, ⟨vd', vu', q⟩, o⟩
      rw [t1] at he
      rw [t1, t2, t3] at q
      refine ⟨he, w1.heap.size, v, vd', vu', all, d, ⟨stack_only k1 k2.1 o, q⟩, ap_new (fun g e => Nat.lt_of_lt_of_le (hvl g e) k3.2.1) q.2.1 q.2.2.1 (Nat.le_refl _), .inl rfl, new_row q.2.1 k3.2.1, new_row q.2.2.1 k3.2.1, k3.only o, by omega⟩
end DS
end Go.Proofs.Ytgonflnmkfgfhaa
