
/-
  The whole bag, kind by kind: what each kind's look leaves, the next one takes.
-/
import Derived.Test.YtoaaehgnbapibaaDoorBn
namespace Go.Proofs.YtoaaehgnbapibaaDoor.BG
open Go.RowKit

set_option maxRecDepth 100000 in
set_option maxHeartbeats 2000000 in
theorem apartAll (b : Nat) (C : Nat → World → Prop)
    (h0 : ∀ w, C 0 w → Calls Tryd.prog 38 #[.pointer (some ⟨b, 0, none⟩)] w fun e w' => e = .returned (.bool true) ∧ C 1 w')
    (h1 : ∀ w, C 1 w → Calls Tryd.prog 39 #[.pointer (some ⟨b, 0, none⟩)] w fun e w' => e = .returned (.bool true) ∧ C 2 w')
    (h2 : ∀ w, C 2 w → Calls Tryd.prog 40 #[.pointer (some ⟨b, 0, none⟩)] w fun e w' => e = .returned (.bool true) ∧ C 3 w')
    (h3 : ∀ w, C 3 w → Calls Tryd.prog 41 #[.pointer (some ⟨b, 0, none⟩)] w fun e w' => e = .returned (.bool true) ∧ C 4 w')
    (h4 : ∀ w, C 4 w → Calls Tryd.prog 42 #[.pointer (some ⟨b, 0, none⟩)] w fun e w' => e = .returned (.bool true) ∧ C 5 w')
    (h5 : ∀ w, C 5 w → Calls Tryd.prog 43 #[.pointer (some ⟨b, 0, none⟩)] w fun e w' => e = .returned (.bool true) ∧ C 6 w')
    (h6 : ∀ w, C 6 w → Calls Tryd.prog 44 #[.pointer (some ⟨b, 0, none⟩)] w fun e w' => e = .returned (.bool true) ∧ C 7 w')
    (h7 : ∀ w, C 7 w → Calls Tryd.prog 45 #[.pointer (some ⟨b, 0, none⟩)] w fun e w' => e = .returned (.bool true) ∧ C 8 w')
    (h8 : ∀ w, C 8 w → Calls Tryd.prog 46 #[.pointer (some ⟨b, 0, none⟩)] w fun e w' => e = .returned (.bool true) ∧ C 9 w')
    (h9 : ∀ w, C 9 w → Calls Tryd.prog 47 #[.pointer (some ⟨b, 0, none⟩)] w fun e w' => e = .returned (.bool true) ∧ C 10 w')
    (h10 : ∀ w, C 10 w → Calls Tryd.prog 48 #[.pointer (some ⟨b, 0, none⟩)] w fun e w' => e = .returned (.bool true) ∧ C 11 w')
    (h11 : ∀ w, C 11 w → Calls Tryd.prog 49 #[.pointer (some ⟨b, 0, none⟩)] w fun e w' => e = .returned (.bool true) ∧ C 12 w')
    (h12 : ∀ w, C 12 w → Calls Tryd.prog 50 #[.pointer (some ⟨b, 0, none⟩)] w fun e w' => e = .returned (.bool true) ∧ C 13 w')
    (h13 : ∀ w, C 13 w → Calls Tryd.prog 51 #[.pointer (some ⟨b, 0, none⟩)] w fun e w' => e = .returned (.bool true) ∧ C 14 w')
    (h14 : ∀ w, C 14 w → Calls Tryd.prog 52 #[.pointer (some ⟨b, 0, none⟩)] w fun e w' => e = .returned (.bool true) ∧ C 15 w')
    (h15 : ∀ w, C 15 w → Calls Tryd.prog 53 #[.pointer (some ⟨b, 0, none⟩)] w fun e w' => e = .returned (.bool true) ∧ C 16 w')
    (h16 : ∀ w, C 16 w → Calls Tryd.prog 54 #[.pointer (some ⟨b, 0, none⟩)] w fun e w' => e = .returned (.bool true) ∧ C 17 w')
    (h17 : ∀ w, C 17 w → Calls Tryd.prog 55 #[.pointer (some ⟨b, 0, none⟩)] w fun e w' => e = .returned (.bool true) ∧ C 18 w')
    (h18 : ∀ w, C 18 w → Calls Tryd.prog 56 #[.pointer (some ⟨b, 0, none⟩)] w fun e w' => e = .returned (.bool true) ∧ C 19 w')
    (h19 : ∀ w, C 19 w → Calls Tryd.prog 57 #[.pointer (some ⟨b, 0, none⟩)] w fun e w' => e = .returned (.bool true) ∧ C 20 w')
    (h20 : ∀ w, C 20 w → Calls Tryd.prog 58 #[.pointer (some ⟨b, 0, none⟩)] w fun e w' => e = .returned (.bool true) ∧ C 21 w')
    (w : World) (h : C 0 w) : Calls Tryd.prog 23 #[.pointer (some ⟨b, 0, none⟩)] w fun e w' => e = .returned (.bool true) ∧ C 21 w' := by
  have H0 : Hid _ := h0
  clear h0
  have H1 : Hid _ := h1
  clear h1
  have H2 : Hid _ := h2
  clear h2
  have H3 : Hid _ := h3
  clear h3
  have H4 : Hid _ := h4
  clear h4
  have H5 : Hid _ := h5
  clear h5
  have H6 : Hid _ := h6
  clear h6
  have H7 : Hid _ := h7
  clear h7
  have H8 : Hid _ := h8
  clear h8
  have H9 : Hid _ := h9
  clear h9
  have H10 : Hid _ := h10
  clear h10
  have H11 : Hid _ := h11
  clear h11
  have H12 : Hid _ := h12
  clear h12
  have H13 : Hid _ := h13
  clear h13
  have H14 : Hid _ := h14
  clear h14
  have H15 : Hid _ := h15
  clear h15
  have H16 : Hid _ := h16
  clear h16
  have H17 : Hid _ := h17
  clear h17
  have H18 : Hid _ := h18
  clear h18
  have H19 : Hid _ := h19
  clear h19
  have H20 : Hid _ := h20
  clear h20
  have HC : Hid (C 0 w) := h
  clear h
  go_enter Tryd.func23, Tryd.ntmps23
  go_wp2_with fail
  refine (H0.out _ HC.out).mono ?_
  clear HC H0
  rintro e w1 ⟨rfl, hc⟩
  have HC : Hid _ := hc
  clear hc
  go_wp2_with fail
  refine (H1.out _ HC.out).mono ?_
  clear HC H1
  rintro e w1 ⟨rfl, hc⟩
  have HC : Hid _ := hc
  clear hc
  go_wp2_with fail
  refine (H2.out _ HC.out).mono ?_
  clear HC H2
  rintro e w1 ⟨rfl, hc⟩
  have HC : Hid _ := hc
  clear hc
  go_wp2_with fail
  refine (H3.out _ HC.out).mono ?_
  clear HC H3
  rintro e w1 ⟨rfl, hc⟩
  have HC : Hid _ := hc
  clear hc
  go_wp2_with fail
  refine (H4.out _ HC.out).mono ?_
  clear HC H4
  rintro e w1 ⟨rfl, hc⟩
  have HC : Hid _ := hc
  clear hc
  go_wp2_with fail
  refine (H5.out _ HC.out).mono ?_
  clear HC H5
  rintro e w1 ⟨rfl, hc⟩
  have HC : Hid _ := hc
  clear hc
  go_wp2_with fail
  refine (H6.out _ HC.out).mono ?_
  clear HC H6
  rintro e w1 ⟨rfl, hc⟩
  have HC : Hid _ := hc
  clear hc
  go_wp2_with fail
  refine (H7.out _ HC.out).mono ?_
  clear HC H7
  rintro e w1 ⟨rfl, hc⟩
  have HC : Hid _ := hc
  clear hc
  go_wp2_with fail
  refine (H8.out _ HC.out).mono ?_
  clear HC H8
  rintro e w1 ⟨rfl, hc⟩
  have HC : Hid _ := hc
  clear hc
  go_wp2_with fail
  refine (H9.out _ HC.out).mono ?_
  clear HC H9
  rintro e w1 ⟨rfl, hc⟩
  have HC : Hid _ := hc
  clear hc
  go_wp2_with fail
  refine (H10.out _ HC.out).mono ?_
  clear HC H10
  rintro e w1 ⟨rfl, hc⟩
  have HC : Hid _ := hc
  clear hc
  go_wp2_with fail
  refine (H11.out _ HC.out).mono ?_
  clear HC H11
  rintro e w1 ⟨rfl, hc⟩
  have HC : Hid _ := hc
  clear hc
  go_wp2_with fail
  refine (H12.out _ HC.out).mono ?_
  clear HC H12
  rintro e w1 ⟨rfl, hc⟩
  have HC : Hid _ := hc
  clear hc
  go_wp2_with fail
  refine (H13.out _ HC.out).mono ?_
  clear HC H13
  rintro e w1 ⟨rfl, hc⟩
  have HC : Hid _ := hc
  clear hc
  go_wp2_with fail
  refine (H14.out _ HC.out).mono ?_
  clear HC H14
  rintro e w1 ⟨rfl, hc⟩
  have HC : Hid _ := hc
  clear hc
  go_wp2_with fail
  refine (H15.out _ HC.out).mono ?_
  clear HC H15
  rintro e w1 ⟨rfl, hc⟩
  have HC : Hid _ := hc
  clear hc
  go_wp2_with fail
  refine (H16.out _ HC.out).mono ?_
  clear HC H16
  rintro e w1 ⟨rfl, hc⟩
  have HC : Hid _ := hc
  clear hc
  go_wp2_with fail
  refine (H17.out _ HC.out).mono ?_
  clear HC H17
  rintro e w1 ⟨rfl, hc⟩
  have HC : Hid _ := hc
  clear hc
  go_wp2_with fail
  refine (H18.out _ HC.out).mono ?_
  clear HC H18
  rintro e w1 ⟨rfl, hc⟩
  have HC : Hid _ := hc
  clear hc
  go_wp2_with fail
  refine (H19.out _ HC.out).mono ?_
  clear HC H19
  rintro e w1 ⟨rfl, hc⟩
  have HC : Hid _ := hc
  clear hc
  go_wp2_with fail
  refine (H20.out _ HC.out).mono ?_
  clear HC H20
  rintro e w1 ⟨rfl, hc⟩
  have HC : Hid _ := hc
  clear hc
  go_wp2
  go_ret
  exact ⟨rfl, HC.out⟩
/- ahead of kind k -/
structure BagP (w0 : World) (lo gb B : Nat) (f : Nat → Value) (L : Nat → VL) (k : Nat) (W : World) : Prop where
  blk : W.heap[gb]? = some (.cells (bagA f) tBag (0, 0))
  lt : gb < B ∧ B ≤ W.heap.size ∧ lo ≤ gb
  kinds : ∀ j, k ≤ j → j < 21 → Kn W lo gb B (eT j) (rT j) (sT j) (f j) (L j)
  rest : Below lo w0 W
theorem BagG.part {W : World} {lo gb B : Nat} {f : Nat → Value} {L : Nat → VL} (h : BagG W lo gb B f L) (hl : lo ≤ gb) : BagP W lo gb B f L 0 W := ⟨h.blk, ⟨h.lt.1, h.lt.2, hl⟩, fun j _ hj => h.kinds j hj, Below.refl _ _⟩
theorem BagP.next {w0 W W' : World} {lo gb B k : Nat} {f : Nat → Value} {L : Nat → VL} (h : BagP w0 lo gb B f L k W) (hk : k < 21) (x : Exc (Blks (L k)) W W') : BagP w0 lo gb B f L (k + 1) W' := by
  have hK := h.kinds k (Nat.le_refl _) hk
  refine ⟨x.heap h.blk (fun hb => by have := hK.below gb hb; omega), ⟨h.lt.1, Nat.le_trans h.lt.2.1 x.2.1, h.lt.2.2⟩, fun j hj hj2 => ?_, Below.trans h.rest (x.below lo (fun b ⟨p, hp, hb⟩ => ?_) (by have := h.lt; omega))⟩
  · have hJ := h.kinds j (by omega) hj2
    refine hJ.keep (fun g hg => x.2.2 g (row_lt hJ.row hg) (fun hb => ?_)) (fun g hg => x.2.2 g (by have := hJ.below g hg; have := h.lt; omega) (fun hb => ?_))
    · have := hK.below g hb; have := row_ge hJ.row hg; have := h.lt; omega
    · obtain ⟨p, hp, hp2⟩ := hb
      obtain ⟨q, hq, hq2⟩ := hg
      obtain ⟨xs, hx⟩ := (hK.each p hp).1
      obtain ⟨ys, hy⟩ := (hJ.each q hq).1
      obtain ⟨cur, hc⟩ := own_ty hy hq2
      exact ty_apart hx hc (eT_inj k hk j hj2 (by omega)) hp2
  · obtain ⟨xs, hx⟩ := (hK.each p hp).1
    exact row_ge hx hb
theorem BagP.none {w0 W : World} {lo gb B k : Nat} {f : Nat → Value} {L : Nat → VL} (h : BagP w0 lo gb B f L k W) : BagP w0 lo gb B f L (k + 1) W := ⟨h.blk, h.lt, fun j hj => h.kinds j (by omega), h.rest⟩
/- what the look at one kind is given -/
theorem BagP.bag1 {w0 W : World} {lo gb B k : Nat} {f : Nat → Value} {L : Nat → VL} (h : BagP w0 lo gb B f L k W) (hk : k < 21) : ∃ a cap, Bag1 k tBag (rT k) W gb a (L k).length cap (L k) ∧ (L k).length ≤ 400 ∧ (∀ mk, Rows1 mk lo (eT k) (sT k) W (L k) 0) ∧ Apart (L k) ∧ (∀ p, p < (L k).length → ((L k).getD p dv).2 ≤ 4294967296) ∧ lo ≤ W.heap.size := by
  have hK := h.kinds k (Nat.le_refl _) hk
  obtain ⟨a, cap, hv⟩ := row_val hK.row
  refine ⟨a, cap, ⟨⟨_, h.blk, ?_⟩, rfl, fun hn => ?_⟩, hK.len, fun mk p hp => (hK.each p hp).1.elim fun xs hx => ⟨xs, hx, fun h => absurd h (Nat.not_lt_zero _)⟩, hK.apart, fun p hp => (hK.each p hp).2, by have := h.lt; omega⟩
  · have := bag_cell h.blk k hk
    simp only [World.cell?, h.blk] at this
    rw [← hv]
    simpa using this
  · rcases hK.row.2 with ⟨e, k⟩ | ⟨lb, cap', cur, e, -, hh, -, -, -, ht⟩
    · exact absurd k hn
    · rw [hv] at e
      cases e
      refine ⟨lb, cur, rfl, hh, fun p hp => ?_⟩
      have : (cur.toList.take ((L k).length * 1))[p]? = ((L k).map (·.1))[p]? := by rw [ht]
      rw [List.getElem?_take_of_lt (by omega)] at this
      rw [← Array.getElem?_toList, this]
      simp [List.getD, hp]
end Go.Proofs.YtoaaehgnbapibaaDoor.BG
