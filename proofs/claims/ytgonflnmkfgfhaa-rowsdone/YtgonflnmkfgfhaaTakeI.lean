
/-
  What NewHeap, Take and Len do at a heap of ints: the first of the least ones is taken out.
-/
import Derived.Test.YtgonflnmkfgfhaaPutI
namespace Go.Proofs.Ytgonflnmkfgfhaa
open Go.RowKit
attribute [local go_sem ↓] Go.wp_at_zero Go.wp_at_succ

namespace HI
theorem HeapOf.fr {W W' : World} {hb k base : Nat} {L : List X} {t : Nat} (h : HeapOf W hb k base L t) (u : Up W W') : HeapOf W' hb k base L t := by
  obtain ⟨v, es, h1, h2⟩ := h
  exact ⟨v, es, h1.up u, h2⟩
set_option maxHeartbeats 1000000 in
theorem newHeap (k : Nat) (w : World) :
    Calls Try.prog 27 #[.func (.func k) #[] #[]] w fun e w' => e = .returned (.pointer (some ⟨w.heap.size, 0, none⟩)) ∧ HeapOf w' w.heap.size k (w.heap.size + 1) [] 0 ∧ Up w w' ∧ w'.heap.size = w.heap.size + 1 := by
  go_enter Try.func27, Try.ntmps27
  go_wp2
  go_ret
  refine ⟨rfl, ⟨.slice none 0 0, [], ⟨?_, World.ownsRow_nil _ _ _ _, Nat.lt_succ_self _⟩, Rep.nil rk dx 0⟩, (Up.refl _).alloc _, by simp⟩
  exact heap_alloc_new w _

theorem HeapAt.short {W : World} {hb k base g cap : Nat} {es : List (X × Nat)} {t n m : Nat} (h : HeapAt W hb k base (.slice (some ⟨g, 0, none⟩) n cap) es t) (hn : es.length = n) (hm : m ≤ n) :
    HeapAt (W.setCell ⟨hb, 1, none⟩ (.slice (some ⟨g, 0, none⟩) m cap)) hb k base (.slice (some ⟨g, 0, none⟩) m cap) (es.take m) t := by
  subst hn
  refine ⟨set1 h.1 _, ?_, h.2.2⟩
  have := ownsRow_setCell_below (row_short h.2.1 hm) (a := ⟨hb, 1, none⟩) h.2.2 (.slice (some ⟨g, 0, none⟩) m cap)
  rw [List.length_take, Nat.min_eq_left hm]
  rw [show flE (es.take m) = (flE es).take (m * 2) from (flat_take fl 2 fl_len es m).symm]
  exact this
theorem HeapAt.far {W : World} {hb k base g cap n : Nat} {es : List (X × Nat)} {t b : Nat} (h : HeapAt W hb k base (.slice (some ⟨g, 0, none⟩) n cap) es t) (h1 : hb ≠ b) (h2 : g ≠ b) (j : Nat) (u : Value) : HeapAt (W.setCell ⟨b, j, none⟩ u) hb k base (.slice (some ⟨g, 0, none⟩) n cap) es t := by
  refine ⟨?_, ownsRow_setCell_other h.2.1 (by intro e; cases e; exact h2 rfl) u, h.2.2⟩
  unfold Hd; rw [Below.heap_setCell _ _ _ _ h1]; exact h.1
def TakePost (w : World) (hb k base : Nat) (L : List X) (t : Nat) (e : Ending) (w' : World) : Prop :=
  e = .returned (.tuple #[.int .i64 (L.getD (least rk dx L) dx), .bool true]) ∧ HeapOf w' hb k base (L.eraseIdx (least rk dx L)) t ∧ Fr tE hb base w w'
set_option maxHeartbeats 4000000 in
theorem take_none (hb k base : Nat) (t : Nat) (w : World) (h : HeapOf w hb k base [] t) :
    Calls Try.prog 30 #[.pointer (some ⟨hb, 0, none⟩)] w fun e w' => e = .returned (.tuple #[.int .i64 0, .bool false]) ∧ Up w w' := by
  obtain ⟨v, es, hat, hrep⟩ := h
  have hl := Rep.len rk hrep
  obtain ⟨va, vcap, hv⟩ := row_val hat.2.1
  rw [hl] at hv
  have hv : v = .slice va 0 vcap := hv
  subst hv
  have HAT : Hid (HeapAt w hb k base (.slice va 0 vcap) es t) := hat
  have hlh : hb < w.heap.size := (Array.getElem?_eq_some_iff.1 hat.1).1
  obtain ⟨c0, c1, c2, c3, ff⟩ := four_cells hat.1
  have e0 : (((0 : Nat) : Int) == 0) = true := rfl
  clear hat hrep hl c0 c2 c3
  go_enter Try.func30, Try.ntmps30
  go_wp2_with fail
  refine (none_ hb k (.slice va 0 vcap) t _ (HAT.out.up (Up.refl _)).1).mono ?_
  rintro e w1 ⟨rfl, rfl⟩
  go_wp2
  go_ret2
  exact ⟨rfl, Up.refl _⟩
set_option maxHeartbeats 8000000 in
theorem take_ (hb k base : Nat) (L : List X) (t : Nat) (w : World) (h : HeapOf w hb k base L t) (hL : L ≠ []) (hk : Less k) (hbs : base ≤ w.heap.size) (hm : L.length ≤ 100000) :
    Calls Try.prog 30 #[.pointer (some ⟨hb, 0, none⟩)] w (TakePost w hb k base L t) := by
  obtain ⟨Post, hPost⟩ : ∃ P : Ending → World → Prop, P = TakePost w hb k base L t := ⟨_, rfl⟩
  rw [← hPost]
  have HPost : Hid (Post = TakePost w hb k base L t) := hPost
  obtain ⟨v, es, hat, hrep⟩ := h
  have hl := Rep.len rk hrep
  have hlp : 0 < es.length := by rw [hl]; exact List.length_pos_iff.2 hL
  obtain ⟨g, cap, hg, hcap, hv⟩ := hat.slice hlp
  obtain ⟨n, hn⟩ : ∃ n, es.length = n + 1 := ⟨es.length - 1, by omega⟩
  rw [hn] at hv hcap hlp
  subst hv
  have hne : hb ≠ g := by have := hat.2.2; omega
  have hn1 : n + 1 ≤ 100000 := by omega
  have HREP : Hid (Rep rk dx L t es) := hrep
  have HL : Hid (es.length = n + 1) := hn
  have hlh : hb < w.heap.size := (Array.getElem?_eq_some_iff.1 hat.1).1
  have hgl : g < w.heap.size := by
    rcases hat.2.1.2 with ⟨h', _⟩ | ⟨g', cap', cur, h', _, hg', _⟩
    · simp at h'
    · simp only [Value.slice.injEq, Option.some.injEq, Addr.mk.injEq, and_true] at h'
      rw [h'.1]; exact (Array.getElem?_eq_some_iff.1 hg').1
  obtain ⟨W0, hW0⟩ : ∃ W, W = w := ⟨_, rfl⟩
  have u0 : Up w W0 := by rw [hW0]; exact Up.refl _
  have HAT0 : Hid (HeapAt W0 hb k base (.slice (some ⟨g, 0, none⟩) (n + 1) cap) es t) := hat.up u0
  obtain ⟨x, hx⟩ : ∃ x, x = es.getD 0 de := ⟨_, rfl⟩
  obtain ⟨y, hy⟩ : ∃ y, y = es.getD n de := ⟨_, rfl⟩
  have HX : Hid (x = es.getD 0 de) := hx
  have HY : Hid (y = es.getD n de) := hy
  obtain ⟨c0, c1, c2, c3, ff⟩ := four_cells hat.1
  have HU0 : Hid (Up w W0) := u0
  have HW0 : Hid _ := hW0
  clear hPost hat hrep hl hn hW0 u0 hx hy c0 c2 c3
  have e0 : ((((n + 1 : Nat) : Int)) == 0) = false := by simp; omega
  have e0' : (((n : Int) + 1) == 0) = false := by simp; omega
  go_enter Try.func30, Try.ntmps30
  go_wp2_with fail
  rw [← HW0.out]
  refine (none_ hb k _ t _ HAT0.out.1).mono ?_
  rintro e w1 ⟨rfl, rfl⟩
  clear c1 ff
  obtain ⟨d0, d1, d2, d3, ff⟩ := four_cells HAT0.out.1
  have cx := HAT0.out.cells HL.out 0 (by omega) x HX.out
  have cy := HAT0.out.cells HL.out n (by omega) y HY.out
  have fz := HAT0.out.ice HL.out
  simp only [Nat.zero_mul, Nat.zero_add] at cx
  have b0 : (0 : Int) < (n : Int) + 1 := by omega
  have b1 : (n : Int) < (n : Int) + 1 := by omega
  have b2 : (n : Int) + 1 - 1 = (n : Int) := by omega
  have hlh1 : hb < w1.heap.size := Nat.lt_of_lt_of_le hlh HU0.out.size
  have hgl1 : g < w1.heap.size := Nat.lt_of_lt_of_le hgl HU0.out.size
  go_wp2_with fail
  
  clear d0 d2 d3
  go_region
  go_wp2_with fail
  obtain ⟨W2, hW2⟩ : ∃ W, W = (w1.alloc (.cells #[.int .i64 x.1, .int .i64 x.2] 82)).drew := ⟨_, rfl⟩
  have u2 : Up w1 W2 := by rw [hW2]; exact ((Up.refl _).alloc _).drew
  have HF2 : Hid (W2.heap[w1.heap.size]? = some (.cells #[.int .i64 x.1, .int .i64 x.2] 82 (0, 0))) := by unfold Hid; rw [hW2]; exact heap_alloc_new w1 _
  have hz2 : w1.heap.size < W2.heap.size := (Array.getElem?_eq_some_iff.1 HF2.out).1
  have HAT2 : Hid (HeapAt W2 hb k base (.slice (some ⟨g, 0, none⟩) (n + 1) cap) es t) := HAT0.out.up u2
  rw [← hW2]
  clear hW2 d1 cx cy fz ff
  obtain ⟨-, d1, -, -, ff⟩ := four_cells HAT2.out.1
  have cx := HAT2.out.cells HL.out 0 (by omega) x HX.out
  simp only [Nat.zero_mul, Nat.zero_add] at cx
  have cy := HAT2.out.cells HL.out n (by omega) y HY.out
  have fz := HAT2.out.ice HL.out
  have HU2 : Hid (Up w W2) := HU0.out.trans u2
  have hfb : g ≠ w1.heap.size := by omega
  have hfb2 : hb ≠ w1.heap.size := by omega
  
  have HB : Hid (base ≤ w1.heap.size) := Nat.le_trans hbs HU0.out.size
  clear u2 HAT0 HU0 HW0
  generalize w1.heap.size = fb at *
  go_region
  obtain ⟨W3, hW3⟩ : ∃ W, W = (HI.put1 W2 g 0 y).drew := ⟨_, rfl⟩
  have HAT3 : Hid (HeapAt W3 hb k base (.slice (some ⟨g, 0, none⟩) (n + 1) cap) (es.set 0 y) t) := by unfold Hid; rw [hW3]; exact (HAT2.out.put1 HL.out hg 0 (by omega) y).up (Up.refl _).drew
  have HO3 : Hid (Only g W2 W3) := by unfold Hid; rw [hW3]; exact (only_put1 (Only.refl _ _) 0 y).trans (Only.up (Up.refl _).drew)
  have hW3' : W3 = ((W2.setCell ⟨g, 0, none⟩ (.int .i64 y.1)).setCell ⟨g, 1, none⟩ (.int .i64 y.2)).drew := hW3
  rw [← hW3']
  clear hW3 hW3' d1 cx cy fz ff
  obtain ⟨-, d1, -, -, ff⟩ := four_cells HAT3.out.1
  have cy := HAT3.out.cells (by rw [List.length_set]; exact HL.out) n (by omega) ((es.set 0 y).getD n de) rfl
  have fz := HAT3.out.ice (by rw [List.length_set]; exact HL.out)
  have HAT4 : Hid (HeapAt ((HI.put1 W3 g n de).setCell ⟨hb, 1, none⟩ (.slice (some ⟨g, 0, none⟩) n cap)) hb k base (.slice (some ⟨g, 0, none⟩) n cap) (lessOne de es) t) := by
    have h1 := (HAT3.out.put1 (by rw [List.length_set]; exact HL.out) hg n (by omega) de).short (by rw [List.length_set, List.length_set]; exact HL.out) (Nat.le_succ n)
    have e : ((es.set 0 y).set n de).take n = lessOne de es := by
      unfold lessOne
      rw [HL.out, Nat.add_sub_cancel, ← HY.out, List.take_set_of_le (Nat.le_refl _)]
    rw [e] at h1
    exact h1
  go_wp2_with fail
  have hl4 : (lessOne de es).length = n := by rw [lessOne_len, HL.out]; rfl
  have HS := sink_ hb k base g cap (lessOne de es) t ((HI.put1 W3 g n de).setCell ⟨hb, 1, none⟩ (.slice (some ⟨g, 0, none⟩) n cap)) (by rw [hl4]; exact HAT4.out) hk (by omega) hg
  rw [hl4] at HS
  refine HS.mono ?_
  clear HS
  rintro e w5 ⟨rfl, hat5, hon5⟩
  have ho4 : Only g W2 (HI.put1 W3 g n de) := only_put1 HO3.out n de
  have hF5 : w5.heap[fb]? = some (.cells #[.int .i64 x.1, .int .i64 x.2] 82 (0, 0)) := by
    refine hon5.heap ?_ (Ne.symm hfb)
    rw [Below.heap_setCell _ _ _ _ (Ne.symm hfb2)]
    exact ho4.heap HF2.out (Ne.symm hfb)
  
  have p0 : w5.cell? ⟨fb, 0, none⟩ = some (.int .i64 x.1) := by simp [World.cell?, hF5]
  have hfr5 : Fr tE hb base w w5 := by
    have f3 : Fr tE hb base w (HI.put1 W3 g n de) := (Fr.up HU2.out).only ho4 hg (row_type HAT2.out.2.1)
    exact (f3.set 1 _).only hon5 hg (row_type HAT4.out.2.1)
  obtain ⟨r1, r2⟩ := Rep.take rk HREP.out hL n (by rw [HL.out]; omega)
  have HR1 : Hid (x.1 = L.getD (least rk dx L) dx) := by unfold Hid; rw [HX.out]; exact r1
  have HFIN : Hid (HeapAt w5 hb k base (.slice (some ⟨g, 0, none⟩) n cap) (sink de (ahd rk) n (lessOne de es) 0) t ∧ Rep rk dx (L.eraseIdx (least rk dx L)) t (sink de (ahd rk) n (lessOne de es) 0) ∧ Fr tE hb base w w5) := ⟨hat5, r2, hfr5⟩
  clear r1 r2 hat5 hon5 ho4 hF5 hfr5 HAT4 HAT3 HO3 HAT2 HF2 cy d1 ff fz HREP HL HX HY 
  go_wp2
  rw [HPost.out]
  exact ⟨by rw [← HR1.out]; rfl, ⟨_, _, HFIN.out.1, HFIN.out.2.1⟩, HFIN.out.2.2⟩
end HI
end Go.Proofs.Ytgonflnmkfgfhaa
