
/-
  Done of a stack of pairs: what is done, in memory of its own.
-/
import Derived.Test.YtgonflnmkfgfhaaSurP
import Derived.Test.YtgonflnmkfgfhaaLc
namespace Go.Proofs.Ytgonflnmkfgfhaa
open Go.RowKit
attribute [local go_sem ↓] Go.wp_at_zero Go.wp_at_succ

namespace LPS
theorem splice_all9 (z cs : List Value) (h : z.length = cs.length) : splice z 0 cs = cs := by
  unfold splice
  rw [List.take_zero, List.nil_append, Nat.zero_add, List.drop_of_length_le (by omega), List.append_nil]
theorem flX_app (a b : List X) : flX (a ++ b) = flX a ++ flX b := by simp [flX]
set_option maxRecDepth 100000 in
set_option maxHeartbeats 2000000 in
theorem done_ (sb base : Nat) (v : Value) (all : List X) (d : Nat) (most : Int) (w : World) (h : StackAt w sb base v all d most) (hm : all.length ≤ 100000) :
    Calls Try.prog 22 #[.pointer (some ⟨sb, 0, none⟩)] w fun e w' => e = .returned (.slice (some ⟨w.heap.size, 0, none⟩) d d) ∧ w'.heap[w.heap.size]? = some (.cells (flX (all.take d)).toArray 53 (0, 0)) ∧ Up w w' := by
  obtain ⟨iT, hiT, i0, i1, i2⟩ := info_parts infoT
  have hd := h.2.2.2
  obtain ⟨va, vcap, rfl⟩ := row_val h.2.1
  obtain ⟨c0, c1, c2, ff⟩ := three_cells h.1
  have HO : Hid (∀ (w1 : World) (cur : List Value), w1.heap[w.heap.size]? = some (.cells cur.toArray 53 (0, 0)) → cur.length = d * 2 → Up w w1 → ∃ w2, (Builtin.copy_ #[54, 54] 3 #[.slice (some ⟨w.heap.size, 0, none⟩) d d, .slice va all.length vcap]).run Try.prog w1 = .ok (goInt (Nat.min all.length d : Nat)) w2 ∧ w2.heap[w.heap.size]? = some (.cells (flX (all.take d)).toArray 53 (0, 0)) ∧ Up w w2) := fun w1 cur hg hcl u => by
    have hmin : Nat.min all.length d = d := Nat.min_eq_right hd
    have hl2 : (flX (all.take d)).length = d * 2 := by rw [flX_len, List.length_take]; omega
    obtain ⟨w2, hr, h2, h3⟩ := run_copyS (P := Try.prog) w1 54 54 3 53 2 (by decide) (some ⟨w.heap.size, 0, none⟩) va d d all.length vcap w.heap.size 0 cur 53 Try.underlying54 sizeT hg (flX (all.take d)) (by rw [hl2, hmin]) (fun hp => by
      refine ⟨rfl, ?_⟩
      obtain ⟨g, cap, -, -, ev⟩ := row_some h.2.1 (by rw [hl2] at hp; omega)
      simp only [Value.slice.injEq] at ev
      refine ⟨_, ev.1, fun j x hj => ?_⟩
      have hjl : j < d * 2 := by have := (List.getElem?_eq_some_iff.1 hj).1; omega
      have hrow := row_up h.2.1 u
      rw [ev.1] at hrow
      have ha : (⟨g, 0, none⟩ : Addr).add j = ⟨g, j, none⟩ := by
        unfold Addr.add
        by_cases e : j = 0
        · subst e; rfl
        · simp [e]
      rw [ha, World.ownsRow.cellAt hrow j (by omega), ← hj]
      have e9 : flX all = flX (all.take d) ++ flX (all.drop d) := by rw [← flX_app, List.take_append_drop]
      rw [e9, List.getElem?_append_left (by omega)]) (by rw [hl2, hcl]; omega) (fun u hu => by
      unfold flX fl at hu
      simp only [List.mem_flatMap, List.mem_cons, List.not_mem_nil, or_false] at hu
      obtain ⟨z, -, rfl | rfl⟩ := hu <;> rfl)
    refine ⟨w2, hr, ?_, Up.trans' u h3 (Nat.le_refl _)⟩
    have e9 : splice cur 0 (flX (all.take d)) = flX (all.take d) := splice_all9 cur _ (by rw [hcl, hl2])
    rw [e9] at h2
    exact h2
  clear h
  generalize all.length = n at HO c0 hd hm
  go_enter Try.func22, Try.ntmps22
  go_wp2_with (at_make; (refine wpList_make_full _ rfl _ _ 54 rfl w.heap.size 53 iT _ 2 Try.underlying54 hiT i0 i1 .i64 .i64 _ _ d rfl rfl rfl rfl (by rw [i2]; omega) (by unfold maxLen; omega) (Nat.le_refl _) ?_; intro w1 hin hg1; have uu := made_up hg1; have d0 := uu.cell c0; have d1 := uu.cell c1; obtain ⟨w2, hr, ho, hu⟩ := HO.out w1 _ (row_made hin) hin.1 uu; have HF : Hid _ := (And.intro ho hu); clear hin hg1 ho hu HO uu))
  first | exact ⟨rfl, HF.out.1, HF.out.2⟩ | (go_ret; exact ⟨rfl, HF.out.1, HF.out.2⟩)
end LPS
end Go.Proofs.Ytgonflnmkfgfhaa
