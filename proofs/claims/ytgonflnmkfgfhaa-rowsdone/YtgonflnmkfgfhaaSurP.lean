
/-
  What Redo and Len do at a stack of pairs.
-/
import Derived.Test.YtgonflnmkfgfhaaStuP
namespace Go.Proofs.Ytgonflnmkfgfhaa
open Go.RowKit
attribute [local go_sem ↓] Go.wp_at_zero Go.wp_at_succ

namespace LPS
theorem StackAt.other {W : World} {sb base b : Nat} {v : Value} {all : List X} {d : Nat} {most : Int} (h : StackAt W sb base v all d most) (hb : b ≠ sb) (hg : ∀ k, v.ownBlock = some k → k ≠ b) (j : Nat) (u : Value) : StackAt (W.setCell ⟨b, j, none⟩ u) sb base v all d most := by
  refine ⟨?_, ⟨h.2.1.1, ?_⟩, h.2.2⟩
  · unfold Hd
    rw [Below.heap_setCell _ _ _ _ (fun e => hb e.symm)]
    exact h.1
  · rcases h.2.1.2 with h0 | ⟨g, cap, cur, e1, e2, e3, e4⟩
    · exact .inl h0
    · refine .inr ⟨g, cap, cur, e1, e2, ?_, e4⟩
      rw [Below.heap_setCell _ _ _ _ (hg g (by rw [e1]; simp [Value.ownBlock]))]
      exact e3
theorem only_set {w W : World} {sb b : Nat} (o : Only sb w W) (hb : w.heap.size ≤ b) (j : Nat) (u : Value) : Only sb w (W.setCell ⟨b, j, none⟩ u) :=
  ⟨o.1, by have := o.2.1; simpa [World.setCell] using this, fun k hk hne => by rw [Below.heap_setCell _ _ _ _ (by show k ≠ b; omega)]; exact o.2.2 k hk hne⟩
set_option maxHeartbeats 1000000 in
theorem redo_none (sb base : Nat) (v : Value) (all : List X) (most : Int) (w : World) (h : StackAt w sb base v all all.length most) :
    Calls Try.prog 19 #[.pointer (some ⟨sb, 0, none⟩)] w fun e w' => e = .returned (.tuple #[.agg #[.int .i8 0, .string ⟨#[]⟩], .bool false]) ∧ Up w w' := by
  obtain ⟨va, vcap, rfl⟩ := row_val h.2.1
  obtain ⟨c0, c1, c2, ff⟩ := three_cells h.1
  have hlh : sb < w.heap.size := (Array.getElem?_eq_some_iff.1 h.1).1
  have e0 : (((all.length : Nat) : Int) == ((all.length : Nat) : Int)) = true := by simp
  clear h
  generalize all.length = n at *
  go_enter Try.func19, Try.ntmps19
  go_wp2_with fail
  go_quiet (fail)
  go_wp2
  exact bodyPost_ret (v := .tuple #[.agg #[.int .i8 0, .string ⟨#[]⟩], .bool false]) (by simp [results, Try.results19, go_sem]) rfl ⟨rfl, Up.alloc (Below.setCell (Below.setCell (((Up.refl _).alloc _).drewN _) (Nat.le_refl _) _) (Nat.le_refl _) _) _⟩
set_option maxHeartbeats 2000000 in
theorem redo (sb base : Nat) (v : Value) (all : List X) (d : Nat) (most : Int) (w : World) (h : StackAt w sb base v all d most) (hd : d < all.length) (hm : all.length ≤ 100000) :
    Calls Try.prog 19 #[.pointer (some ⟨sb, 0, none⟩)] w fun e w' => e = .returned (.tuple #[.agg #[.int .i8 (all.getD d dx).1, .string (all.getD d dx).2], .bool true]) ∧ StackAt w' sb base v all (d + 1) most ∧ Only sb w w' := by
  obtain ⟨g, cap, hg, hcap, rfl⟩ := row_some h.2.1 (by omega)
  obtain ⟨x, hx⟩ : ∃ x, x = all.getD d dx := ⟨_, rfl⟩
  rw [← hx]
  obtain ⟨c0, c1, c2, ff⟩ := three_cells h.1
  have hlh : sb < w.heap.size := (Array.getElem?_eq_some_iff.1 h.1).1
  have hne : sb ≠ g := by have := h.2.2.1; omega
  have e0 : (((d : Nat) : Int) == ((all.length : Nat) : Int)) = false := beq_eq_false_iff_ne.2 (by omega)
  have hdl : (d : Int) < (all.length : Int) := by omega
  have HNX : Hid (∀ W, Up w W → StackAt (W.setCell ⟨sb, 1, none⟩ (.int .i64 ((d : Int) + 1))) sb base (.slice (some ⟨g, 0, none⟩) all.length cap) all (d + 1) most) := fun W u => (h.up u).mark (d + 1) (by omega)
  have HCX : Hid (∀ W, Up w W → (W.setCell ⟨sb, 1, none⟩ (.int .i64 ((d : Int) + 1))).cell? ⟨g, d * 2, none⟩ = some (.int .i8 x.1) ∧ (W.setCell ⟨sb, 1, none⟩ (.int .i64 ((d : Int) + 1))).cell? ⟨g, d * 2 + 1, none⟩ = some (.string x.2)) := fun W u => ((h.up u).mark (d + 1) (by omega)).cells d hd x hx
  have HGL : Hid (g < w.heap.size) := (h.2.1.lt g (by simp [Value.ownBlock])).2
  clear h hx
  generalize all.length = n at *
  go_enter Try.func19, Try.ntmps19
  go_wp2_with fail
  go_quiet (fail)
  obtain ⟨W0, hW0⟩ : ∃ W, W = (w.alloc (.cells #[.int .i8 0, .string ⟨#[]⟩] 53)).drewN nq := ⟨_, rfl⟩
  have u0 : Up w W0 := by rw [hW0]; exact ((Up.refl _).alloc _).drewN _
  have HS : Hid (StackAt (W0.setCell ⟨sb, 1, none⟩ (.int .i64 ((d : Int) + 1))) sb base (.slice (some ⟨g, 0, none⟩) n cap) all (d + 1) most) := HNX.out W0 u0
  have hcx := HCX.out W0 u0
  have d0 := u0.cell c0
  have d1 := u0.cell c1
  have df : ∀ j, W0.frozen? ⟨sb, j, none⟩ = false := fun j => by rw [Below.frozen u0 (by exact hlh)]; exact ff j
  have hl0 : sb < W0.heap.size := Nat.lt_of_lt_of_le hlh u0.size
  have HU0 : Hid (Up w W0) := u0
  have HC2 : Hid _ := hcx
  have HBX : Hid (W0.heap[w.heap.size]? = some (.cells #[.int .i8 0, .string ⟨#[]⟩] 53 (0, 0))) := by unfold Hid; rw [hW0]; exact heap_alloc_new w _
  rw [← hW0]
  clear hW0 u0 c0 c1 c2 ff hcx HNX HCX
  go_wp2_with fail
  have cx := HC2.out
  obtain ⟨k0, k1, k2, kf⟩ := three_cells HS.out.1
  have k1' : (W0.setCell ⟨sb, 1, none⟩ (.int .i64 ((d : Int) + 1))).cell? ⟨sb, 1, none⟩ = some (.int .i64 ((d : Int) + 1)) := k1
  have e2 : (d : Int) + 1 - 1 = (d : Int) := by omega
  have e5 : IntKind.i64.wrap (d : Int) = (d : Int) := IntWalk.i64_in _ ⟨by omega, by omega⟩
  clear d0 d1 df k1
  have hbx := HBX.out
  have hbs : w.heap.size ≠ sb := by omega
  obtain ⟨W1, hW1⟩ : ∃ W, W = W0.setCell ⟨sb, 1, none⟩ (.int .i64 ((d : Int) + 1)) := ⟨_, rfl⟩
  have hbx1 : W1.heap[w.heap.size]? = some (.cells #[.int .i8 0, .string ⟨#[]⟩] 53 (0, 0)) := by rw [hW1, Below.heap_setCell _ _ _ _ hbs]; exact hbx
  have HO1 : Hid (Only sb w W1) := by unfold Hid; rw [hW1]; exact (Only.up HU0.out).set 1 _
  rw [← hW1] at HS cx k0 k1' k2 kf ⊢
  have b0 : W1.cell? ⟨w.heap.size, 0, none⟩ = some (.int .i8 0) := by simp [World.cell?, hbx1]
  have b1 : W1.cell? ⟨w.heap.size, 1, none⟩ = some (.string ⟨#[]⟩) := by simp [World.cell?, hbx1]
  have bf : ∀ j, W1.frozen? ⟨w.heap.size, j, none⟩ = false := fun j => by simp [World.frozen?, hbx1]
  have HNE : Hid (w.heap.size ≠ sb ∧ g < w.heap.size) := ⟨hbs, HGL.out⟩
  obtain ⟨cx1, cx2⟩ := cx
  generalize hbq : w.heap.size = bx at *
  have HBQ : Hid (w.heap.size = bx) := hbq
  clear hW1 hbx hbx1 HBX hbs hbq HC2 hl0
  refine TailR.wp_region_seq 11 (by kernel_rfl) (by kernel_rfl) ?_
  simp only [List.take_succ_cons, List.take_zero, List.drop_succ_cons, List.drop_zero]
  repeat (go_big_quiet_step (fail))
  refine wpQuiet_nil ?_
  intro _ hw'
  obtain ⟨nq, hw''⟩ := hw'
  subst hw''
  go_wp2_with fail
  refine bodyPost_ret (v := .tuple #[.agg #[.int .i8 x.1, .string x.2], .bool true]) (by simp [results, Try.results19, go_sem, b0, b1]) rfl ⟨rfl, ?_, ?_⟩
  · have hob : ∀ k, (Value.slice (some ⟨g, 0, none⟩) n cap).ownBlock = some k → k ≠ bx := fun k e => by
      have e' : g = k := by simpa [Value.ownBlock] using e
      have := HNE.out.2
      omega
    exact (((HS.out.up ((Up.refl _).drewN nq)).other HNE.out.1 hob 0 _).other HNE.out.1 hob 1 _)
  · exact only_set (only_set (HO1.out.trans (Only.up ((Up.refl _).drewN nq))) (Nat.le_of_eq HBQ.out) 0 _) (Nat.le_of_eq HBQ.out) 1 _
set_option maxHeartbeats 1000000 in
theorem len_ (sb base : Nat) (v : Value) (all : List X) (d : Nat) (most : Int) (w : World) (h : StackAt w sb base v all d most) (hm : all.length ≤ 100000) :
    Calls Try.prog 20 #[.pointer (some ⟨sb, 0, none⟩)] w fun e w' => e = .returned (.tuple #[.int .i64 d, .int .i64 ((all.length : Int) - d)]) ∧ Up w w' := by
  obtain ⟨va, vcap, rfl⟩ := row_val h.2.1
  obtain ⟨c0, c1, c2, ff⟩ := three_cells h.1
  have hd := h.2.2.2
  clear h
  generalize all.length = n at *
  go_enter Try.func20, Try.ntmps20
  go_wp2_with fail
  go_quiet (fail)
  go_wp2
  go_ret2
  exact ⟨rfl, (Up.refl _).drewN _⟩
end LPS
end Go.Proofs.Ytgonflnmkfgfhaa
