
/-
  The stack of pairs and the list beside it.
-/
import Derived.Test.YtgonflnmkfgfhaaDonP
import Derived.Test.YtgonflnmkfgfhaaPrsF
import Derived.Test.YtgonflnmkfgfhaaWorks
import Derived.Test.YtgonflnmkfgfhaaOpenO
import Derived.Test.YtgonflnmkfgfhaaTail
namespace Go.Proofs.Ytgonflnmkfgfhaa
open Go.RowKit

namespace RD
open LPS
/- the stack and the list beside it -/
def DD (w : World) (sb : Nat) (most : Int) (N : Nat) (W : World) (ua : Option Addr) (uc : Nat) (all : List X) (d : Nat) : Prop :=
  ∃ v, StackAt W sb (sb + 1) v all d most ∧ W.ownsRow (sb + 1) 53 2 (.slice ua all.length uc) all.length (flX all) ∧ (∀ g, v.ownBlock = some g → (Value.slice ua all.length uc).ownBlock ≠ some g) ∧ (all.length ≤ N ∧ (all.length : Int) ≤ most) ∧ Up w W ∧ w.heap.size ≤ sb
theorem DD.up {w W W' : World} {sb : Nat} {most : Int} {N : Nat} {ua : Option Addr} {uc : Nat} {all : List X} {d : Nat} (h : DD w sb most N W ua uc all d) (u : Up W W') : DD w sb most N W' ua uc all d := by
  obtain ⟨v, h1, h2, h3, h4, h5, h6⟩ := h
  exact ⟨v, h1.up u, row_up h2 u, h3, h4, h5.trans u, h6⟩
theorem DD.more {w W : World} {sb : Nat} {most : Int} {N M : Nat} {ua : Option Addr} {uc : Nat} {all : List X} {d : Nat} (h : DD w sb most N W ua uc all d) (hM : N ≤ M) : DD w sb most M W ua uc all d := by
  obtain ⟨v, h1, h2, h3, h4, h5, h6⟩ := h
  exact ⟨v, h1, h2, h3, ⟨Nat.le_trans h4.1 hM, h4.2⟩, h5, h6⟩
theorem row_cut {W : World} {b e s n d uc : Nat} {ua : Option Addr} {xs : List Value} (h : W.ownsRow b e s (.slice ua n uc) n xs) (hd : d ≤ n) : W.ownsRow b e s (.slice ua d uc) d (xs.take (d * s)) := by
  have hds : d * s ≤ n * s := Nat.mul_le_mul_right s hd
  refine ⟨by rw [List.length_take, h.1]; omega, ?_⟩
  rcases h.2 with ⟨e0, e1⟩ | ⟨g, cap, cur, e1, e2, e3, e4, e5, e6, e7⟩
  · left
    simp only [Value.slice.injEq] at e0
    obtain ⟨rfl, -, rfl⟩ := e0
    exact ⟨by rw [show d = 0 by omega], by omega⟩
  · right
    simp only [Value.slice.injEq] at e1
    obtain ⟨rfl, -, rfl⟩ := e1
    refine ⟨g, uc, cur, rfl, e2, e3, by omega, e5, e6, ?_⟩
    rw [← e7, List.take_take, Nat.min_eq_left hds]
theorem ob_cut {ua : Option Addr} {n d uc : Nat} : (Value.slice ua d uc).ownBlock = (Value.slice ua n uc).ownBlock := by cases ua <;> rfl
theorem flX_take (all : List X) (d : Nat) : (flX all).take (d * 2) = flX (all.take d) := flat_take fl 2 fl_len all d
/- behind Do: the list is still the old one, cut -/
def DM (w : World) (sb : Nat) (most : Int) (W : World) (ua : Option Addr) (uc : Nat) (all : List X) (d bx : Nat) (x : X) : Prop :=
  ∃ v, StackAt W sb (sb + 1) v (all.take d ++ [x]) (d + 1) most ∧ W.ownsRow (sb + 1) 53 2 (.slice ua d uc) d (flX (all.take d)) ∧ (∀ g, v.ownBlock = some g → (Value.slice ua d uc).ownBlock ≠ some g) ∧ d ≤ all.length ∧ W.heap[bx]? = some (.cells #[.int .i8 x.1, .string x.2] 53 (0, 0)) ∧ (Up w W ∧ sb + 1 ≤ W.heap.size) ∧ w.heap.size ≤ sb
theorem dd_do {w W W' : World} {sb : Nat} {most : Int} {N : Nat} {ua : Option Addr} {uc : Nat} {all : List X} {d bx : Nat} {x : X} (h : DD w sb most N W ua uc all d) (u : Up W W') (hN : N ≤ 50000) (hd : (d : Int) < most) (hb : W'.heap[bx]? = some (.cells #[.int .i8 x.1, .string x.2] 53 (0, 0))) (hbx : W.heap.size ≤ bx) :
    Calls Try.prog 17 #[.pointer (some ⟨sb, 0, none⟩), .agg #[.int .i8 x.1, .string x.2]] W' fun e w' => e = .returned (.bool true) ∧ DM w sb most w' ua uc all d bx x := by
  obtain ⟨v, h1, h2, h3, h4, h5, h6⟩ := h
  have hsl : sb < W.heap.size := (Array.getElem?_eq_some_iff.1 h1.1).1
  have hdl := h1.2.2.2
  refine (do_ sb (sb + 1) v all d most x W' (h1.up u) hd (by omega) (by omega) (Nat.le_trans hsl u.size)).mono ?_
  rintro e w' ⟨he, v', s', t, hv'⟩
  have hv'l := s'.2.1
  have k : ∀ g cur ty, W'.heap[g]? = some (.cells cur ty (0, 0)) → g ≠ sb → v.ownBlock ≠ some g → w'.heap[g]? = some (.cells cur ty (0, 0)) := fun g cur ty hg e1 e2 => by
    rw [t.2.2 g (Array.getElem?_eq_some_iff.1 hg).1 e1 e2]; exact hg
  have hrow := row_cut (row_up h2 u) hdl
  rw [flX_take] at hrow
  have hvW : ∀ g, v.ownBlock = some g → g < W.heap.size := fun g e => (h1.2.1.lt g e).2
  have huW : ∀ g, (Value.slice ua d uc).ownBlock = some g → g < W.heap.size := fun g e => (h2.lt g (by rw [← ob_cut (d := d)]; exact e)).2
  refine ⟨he, v', s', ⟨hrow.1, ?_⟩, fun g e1 e2 => ?_, hdl, k _ _ _ hb (by omega) (fun e1 => by have := hvW _ e1; omega), ⟨?_, Nat.le_trans hsl (Nat.le_trans u.size t.2.1)⟩, h6⟩
  · rcases hrow.2 with h0 | ⟨g, cap, cur, e1, e2, e3, e4⟩
    · exact .inl h0
    · exact .inr ⟨g, cap, cur, e1, e2, k _ _ _ e3 (by omega) (fun e9 => h3 g e9 (by rw [← ob_cut (d := d), e1]; simp [Value.ownBlock])), e4⟩
  · rcases hv' with h9 | ⟨q, h9, h10⟩
    · exact h3 g (by rw [← h9]; exact e1) (by rw [← ob_cut (d := d)]; exact e2)
    · rw [h9] at e1
      cases e1
      have := huW _ e2
      have := u.size
      omega
  · have hB : Below w.heap.size W' w' := ⟨t.1.1, t.1.2.1, t.1.2.2, t.2.1, fun g hg => t.2.2 g (by have := u.size; omega) (by omega) (fun e1 => by have := (h1.2.1.lt g e1).1; omega)⟩
    exact Below.trans (h5.trans u) hB
theorem dd_app {w W W2 : World} {sb : Nat} {most : Int} {N : Nat} {ua : Option Addr} {uc : Nat} {all : List X} {d bx g cap : Nat} {x : X} (h : DM w sb most W ua uc all d bx x) (hN : all.length ≤ N) (hd : (d : Int) < most)
    (hown : W2.ownsRow (sb + 1) 53 2 (.slice (some ⟨g, 0, none⟩) (d + 1) cap) (d + 1) (flX (all.take d) ++ [.int .i8 x.1, .string x.2])) (hgrow : ((W.alloc (.cells #[.int .i8 x.1, .string x.2] 53)).drew).grownBy W2 (Value.slice ua d uc).ownBlock) (hat : (Value.slice ua d uc).ownBlock = some g ∨ g = W.heap.size + 1) : DD w sb most (N + 1) W2 (some ⟨g, 0, none⟩) cap (all.take d ++ [x]) (d + 1) := by
  obtain ⟨v, h1, h2, h3, h4, h5, ⟨h6, h6'⟩, h7⟩ := h
  have hlen : (all.take d ++ [x]).length = d + 1 := by simp; omega
  have u : Up W (W.alloc (.cells #[.int .i8 x.1, .string x.2] 53)).drew := ((Up.refl _).alloc _).drew
  have hsl : sb < W.heap.size := (Array.getElem?_eq_some_iff.1 h1.1).1
  have k : ∀ g cur ty, W.heap[g]? = some (.cells cur ty (0, 0)) → (Value.slice ua d uc).ownBlock ≠ some g → W2.heap[g]? = some (.cells cur ty (0, 0)) := fun g cur ty hg e1 => by
    have hgl := (Array.getElem?_eq_some_iff.1 hg).1
    rw [hgrow.block g (Nat.lt_of_lt_of_le hgl u.size) (fun e => e1 e.symm), u.block g hgl]
    exact hg
  have hsb : (Value.slice ua d uc).ownBlock ≠ some sb := fun e => by have := (h2.lt sb e).1; omega
  refine ⟨v, ⟨k _ _ _ h1.1 hsb, ⟨h1.2.1.1, ?_⟩, h1.2.2⟩, ?_, fun q e1 e2 => ?_, ⟨by rw [hlen]; omega, by rw [hlen]; omega⟩, ?_, h7⟩
  · rcases h1.2.1.2 with h0 | ⟨q, cap', cur, e1, e2, e3, e4⟩
    · exact .inl h0
    · exact .inr ⟨q, cap', cur, e1, e2, k _ _ _ e3 (h3 q (by rw [e1]; simp [Value.ownBlock])), e4⟩
  · rw [hlen, flX_app]
    exact hown
  · have e3 : g = q := by simpa [Value.ownBlock] using e2
    subst e3
    rcases hat with e4 | e4
    · exact h3 g e1 e4
    · have := (h1.2.1.lt g e1).2
      omega
  · refine Below.trans h6 ⟨hgrow.os, hgrow.tape, hgrow.output, Nat.le_trans u.size hgrow.size, fun q hq => ?_⟩
    rw [hgrow.block q (Nat.lt_of_lt_of_le (Nat.lt_of_lt_of_le hq h6.size) u.size) (fun e => by have := (h2.lt q e.symm).1; omega), u.block q (Nat.lt_of_lt_of_le hq h6.size)]
theorem dd_full {w W W' : World} {sb : Nat} {most : Int} {N : Nat} {ua : Option Addr} {uc : Nat} {all : List X} {d : Nat} {x : X} (h : DD w sb most N W ua uc all d) (u : Up W W') (hd : most ≤ (d : Int)) :
    Calls Try.prog 17 #[.pointer (some ⟨sb, 0, none⟩), .agg #[.int .i8 x.1, .string x.2]] W' fun e w' => e = .returned (.bool false) ∧ Up W' w' := by
  obtain ⟨v, h1, -⟩ := h
  exact do_full sb (sb + 1) v all d most x W' (h1.up u) hd
theorem dd_undo0 {w W W' : World} {sb : Nat} {most : Int} {N : Nat} {ua : Option Addr} {uc : Nat} {all : List X} (h : DD w sb most N W ua uc all 0) (u : Up W W') :
    Calls Try.prog 18 #[.pointer (some ⟨sb, 0, none⟩)] W' fun e w' => e = .returned (.tuple #[.agg #[.int .i8 0, .string ⟨#[]⟩], .bool false]) ∧ Up W' w' := by
  obtain ⟨v, h1, -⟩ := h
  exact undo_none sb (sb + 1) v all most W' (h1.up u)
theorem dd_redo0 {w W W' : World} {sb : Nat} {most : Int} {N : Nat} {ua : Option Addr} {uc : Nat} {all : List X} {d : Nat} (h : DD w sb most N W ua uc all d) (u : Up W W') (hd : d = all.length) :
    Calls Try.prog 19 #[.pointer (some ⟨sb, 0, none⟩)] W' fun e w' => e = .returned (.tuple #[.agg #[.int .i8 0, .string ⟨#[]⟩], .bool false]) ∧ Up W' w' := by
  obtain ⟨v, h1, -⟩ := h
  subst hd
  exact redo_none sb (sb + 1) v all most W' (h1.up u)
/- Undo and Redo -/
theorem dd_mark {w W W' w' : World} {sb : Nat} {most : Int} {N : Nat} {ua : Option Addr} {uc : Nat} {all : List X} {d' : Nat} {v : Value} (h2 : W.ownsRow (sb + 1) 53 2 (.slice ua all.length uc) all.length (flX all)) (h3 : ∀ g, v.ownBlock = some g → (Value.slice ua all.length uc).ownBlock ≠ some g) (h4 : all.length ≤ N ∧ (all.length : Int) ≤ most) (h5 : Up w W) (h6 : w.heap.size ≤ sb) (u : Up W W') (s : StackAt w' sb (sb + 1) v all d' most) (o : Only sb W' w') : DD w sb most N w' ua uc all d' := by
  refine ⟨v, s, ⟨h2.1, ?_⟩, h3, h4, ?_, h6⟩
  · rcases (row_up h2 u).2 with h0 | ⟨g, cap, cur, e1, e2, e3, e4⟩
    · exact .inl h0
    · exact .inr ⟨g, cap, cur, e1, e2, o.heap e3 (by omega), e4⟩
  · exact Below.trans (h5.trans u) (o.below h6 (Nat.le_trans h5.size u.size))
theorem dd_undo {w W W' : World} {sb : Nat} {most : Int} {N : Nat} {ua : Option Addr} {uc : Nat} {all : List X} {d : Nat} (h : DD w sb most N W ua uc all (d + 1)) (u : Up W W') (hN : N ≤ 50000) :
    Calls Try.prog 18 #[.pointer (some ⟨sb, 0, none⟩)] W' fun e w' => e = .returned (.tuple #[.agg #[.int .i8 (all.getD d dx).1, .string (all.getD d dx).2], .bool true]) ∧ DD w sb most N w' ua uc all d := by
  obtain ⟨v, h1, h2, h3, h4, h5, h6⟩ := h
  refine (undo sb (sb + 1) v all d most W' (h1.up u) (by omega)).mono ?_
  rintro e w' ⟨he, s, o⟩
  exact ⟨he, dd_mark h2 h3 h4 h5 h6 u s o⟩
theorem dd_redo {w W W' : World} {sb : Nat} {most : Int} {N : Nat} {ua : Option Addr} {uc : Nat} {all : List X} {d : Nat} (h : DD w sb most N W ua uc all d) (u : Up W W') (hN : N ≤ 50000) (hd : d < all.length) :
    Calls Try.prog 19 #[.pointer (some ⟨sb, 0, none⟩)] W' fun e w' => e = .returned (.tuple #[.agg #[.int .i8 (all.getD d dx).1, .string (all.getD d dx).2], .bool true]) ∧ DD w sb most N w' ua uc all (d + 1) := by
  obtain ⟨v, h1, h2, h3, h4, h5, h6⟩ := h
  refine (redo sb (sb + 1) v all d most W' (h1.up u) hd (by omega)).mono ?_
  rintro e w' ⟨he, s, o⟩
  exact ⟨he, dd_mark h2 h3 h4 h5 h6 u s o⟩
/- Len, Done, and the lists that are held against each other -/
theorem dd_len {w W W' : World} {sb : Nat} {most : Int} {N : Nat} {ua : Option Addr} {uc : Nat} {all : List X} {d : Nat} (h : DD w sb most N W ua uc all d) (u : Up W W') (hN : N ≤ 50000) :
    Calls Try.prog 20 #[.pointer (some ⟨sb, 0, none⟩)] W' fun e w' => e = .returned (.tuple #[.int .i64 d, .int .i64 ((all.length : Int) - d)]) ∧ Up W' w' := by
  obtain ⟨v, h1, h2, h3, h4, h5, h6⟩ := h
  exact len_ sb (sb + 1) v all d most W' (h1.up u) (by omega)
theorem pl_row {W : World} {b n c : Nat} {ua : Option Addr} {ps : List PX} (h : W.ownsRow b 53 2 (.slice ua n c) n (flX ps)) (hn : n = ps.length) : PL W (.slice ua n c) ps := by
  subst hn
  rcases h.2 with ⟨e0, e1⟩ | ⟨g, cap, cur, e1, e2, e3, e4, e5, e6, e7⟩
  · simp only [Value.slice.injEq] at e0
    obtain ⟨rfl, -, rfl⟩ := e0
    exact ⟨none, 0, rfl, by omega, fun hn => absurd e1 hn⟩
  · simp only [Value.slice.injEq] at e1
    obtain ⟨rfl, -, rfl⟩ := e1
    refine ⟨_, _, rfl, e4, fun _ => ⟨g, 0, rfl, fun i hi => ?_⟩⟩
    have key : ∀ j, j < 2 → W.cell? ⟨g, i * 2 + j, none⟩ = (fl (ps.getD i pdx))[j]? := fun j hj => by
      rw [h.cellAt _ (by omega)]
      exact flat_get fl 2 fl_len pdx ps i j hi hj
    have k0 := key 0 (by decide)
    have k1 := key 1 (by decide)
    rw [Nat.zero_add]
    exact ⟨k0, k1⟩
theorem dd_done {w W W' : World} {sb : Nat} {most : Int} {N : Nat} {ua : Option Addr} {uc : Nat} {all : List X} {d : Nat} (h : DD w sb most N W ua uc all d) (u : Up W W') (hN : N ≤ 50000) :
    Calls Try.prog 22 #[.pointer (some ⟨sb, 0, none⟩)] W' fun e w' => ∃ x, e = .returned x ∧ PL w' x (all.take d) ∧ Up W' w' := by
  obtain ⟨v, h1, h2, h3, h4, h5, h6⟩ := h
  have hd := h1.2.2.2
  have htl : (all.take d).length = d := by rw [List.length_take]; omega
  refine (done_ sb (sb + 1) v all d most W' (h1.up u) (by omega)).mono ?_
  rintro e w' ⟨rfl, k1, k2⟩
  refine ⟨_, rfl, ?_, k2⟩
  have hl : (flX (all.take d)).length = d * 2 := by rw [flX_len, htl]
  exact pl_row (b := 0) ⟨hl, .inr ⟨_, d, (flX (all.take d)).toArray, rfl, Nat.zero_le _, k1, Nat.le_refl _, by unfold maxLen; omega, by simp [hl], by simp; exact List.take_of_length_le (by omega)⟩⟩ htl.symm
theorem dd_same {w W W' : World} {sb : Nat} {most : Int} {N : Nat} {ua : Option Addr} {uc : Nat} {all : List X} {d : Nat} (h : DD w sb most N W ua uc all d) (u : Up W W') (hN : N ≤ 50000) (x : Value) (hx : PL W' x (all.take d)) :
    Calls Try.prog 21 #[x, .slice ua d uc] W' fun e w' => e = .returned (.bool true) ∧ Up W' w' := by
  obtain ⟨v, h1, h2, h3, h4, h5, h6⟩ := h
  have hd := h1.2.2.2
  have htl : (all.take d).length = d := by rw [List.length_take]; omega
  have hrow := row_cut (row_up h2 u) hd
  rw [flX_take] at hrow
  refine (PR.sameP_ _ _ (all.take d) W' hx (pl_row hrow htl.symm) (by omega)).mono ?_
  rintro e w' ⟨rfl, m, rfl⟩
  exact ⟨rfl, (Up.refl _).drewN m⟩
theorem dd_cells {w W : World} {sb : Nat} {most : Int} {N : Nat} {ua : Option Addr} {uc : Nat} {all : List X} {d : Nat} (h : DD w sb most N W ua uc all d) : (d ≤ all.length ∧ all.length ≤ uc ∧ uc ≤ maxLen ∧ all.length ≤ N ∧ (all.length : Int) ≤ most) ∧ (ua = none → all.length = 0 ∧ uc = 0) ∧ ∀ i, i < all.length → ∃ g, ua = some ⟨g, 0, none⟩ ∧ ∀ W', Up W W' → W'.cell? ⟨g, i * 2, none⟩ = some (.int .i8 (all.getD i dx).1) ∧ W'.cell? ⟨g, i * 2 + 1, none⟩ = some (.string (all.getD i dx).2) := by
  obtain ⟨v, h1, h2, h3, h4, h5, h6⟩ := h
  have hd := h1.2.2.2
  rcases h2.2 with ⟨e0, e1⟩ | ⟨g, cap, cur, e1, e2, e3, e4, e5, e6, e7⟩
  · simp only [Value.slice.injEq] at e0
    obtain ⟨rfl, -, rfl⟩ := e0
    exact ⟨⟨hd, by omega, Nat.zero_le _, h4.1, h4.2⟩, fun _ => ⟨e1, rfl⟩, fun i hi => by omega⟩
  · simp only [Value.slice.injEq] at e1
    obtain ⟨rfl, -, rfl⟩ := e1
    refine ⟨⟨hd, e4, e5, h4.1, h4.2⟩, fun e => (by cases e), fun i hi => ⟨g, rfl, fun W' u => ?_⟩⟩
    have key : ∀ j, j < 2 → W'.cell? ⟨g, i * 2 + j, none⟩ = (fl (all.getD i dx))[j]? := fun j hj => by
      rw [(row_up h2 u).cellAt _ (by omega)]
      exact flat_get fl 2 fl_len dx all i j hi hj
    exact ⟨key 0 (by decide), key 1 (by decide)⟩
end RD
end Go.Proofs.Ytgonflnmkfgfhaa
