
/-
  The document's open, at every node of a tree.
-/
import Derived.Test.YtgahdppcdeefaaaOk9
namespace Go.Proofs.Ytgahdppcdeefaaa
open Go.RowKit
attribute [local go_sem ↓] Go.wp_at_zero Go.wp_at_succ
namespace TR
def OpenAt (v : Value) (l : List Nd) (kb : Fo) : Prop := ∀ (b : Nd) (p d : Nat) (tl : List Nd) (W : World), NLs W v l → l.drop p = b :: (flF kb ++ tl) → NdF b kb → d + 2 * (flF kb).length ≤ 90000000000 → Calls Try.prog 30 #[v, .int .i64 (p : Int), .int .i64 (d : Int)] W (fun e w' => e = .returned (.int .i64 ((opK b kb d : Nat) : Int)) ∧ Up W w')
def RowAt (v : Value) (l : List Nd) (kb : Fo) : Prop := ∀ (b : Nd) (p d : Nat) (tl : List Nd) (W : World), NLs W v l → l.drop p = b :: (flF kb ++ tl) → NdF b kb → rrow b.op = true → d + 2 * (flF kb).length ≤ 90000000000 → Calls Try.prog 44 #[v, .int .i64 (p : Int), .int .i64 (d : Int)] W (fun e w' => e = .returned (.tuple #[.int .i64 (((rowK b.op kb d).1 : Nat) : Int), .int .i64 (((rowK b.op kb d).2 : Nat) : Int)]) ∧ Up W w')
theorem placed_at {v : Value} {l : List Nd} {kb : Fo} (h : OpenAt v l kb) (b : Nd) (p d : Nat) (want : Int) (tl : List Nd) (W : World) (hv : NLs W v l) (hd : l.drop p = b :: (flF kb ++ tl)) (hb : NdF b kb) (hm : d + 2 * (flF kb).length + 1 ≤ 90000000000) : Calls Try.prog 45 #[v, .int .i64 (p : Int), .int .i64 (d : Int), .int .i64 want] W (fun e w' => e = .returned (.int .i64 ((opK b kb (d + par b.op want) : Nat) : Int)) ∧ Up W w') := by
  obtain ⟨g1, g2, g3⟩ := getD_drop hd
  have h1 := par_le b.op want
  exact placed_ v l p d want W (fun e => opK b kb e) b hv g2 g1 (by omega) (fun W2 hu => h b p (d + par b.op want) tl W2 (hv.up hu) hd hb (by omega))
theorem row_at {v : Value} {l : List Nd} (hn : l.length ≤ 1000000) {kb : Fo} (ihO : ∀ kc, SizeOf.sizeOf kc < SizeOf.sizeOf kb → OpenAt v l kc) (ihR : ∀ kc, SizeOf.sizeOf kc < SizeOf.sizeOf kb → RowAt v l kc) : RowAt v l kb := by
  intro b p d tl W hv hd hb hr hm
  obtain ⟨g1, g2, g3⟩ := getD_drop hd
  obtain ⟨hk, hw, ha, hc2, -⟩ := hb
  have hc := hc2 hr
  have hks := kds_at hd hk hw
  have hfl : (flF kb).length ≤ l.length := by
    have h9 := congrArg List.length hd
    rw [List.length_drop, List.length_cons, List.length_append] at h9
    omega
  cases kb with
  | nil => cases hc
  | cons b1 k1 r1 =>
    cases r1 with
    | nil => cases hc
    | cons b2 k2 r2 =>
      have hr2 : r2 = .nil := by
        cases r2 with
        | nil => rfl
        | cons b3 k3 r3 =>
          have : cntF r3 + 1 + 1 + 1 = 2 := hc
          omega
      subst hr2
      rw [fl_cons, fl_cons] at hm hfl
      have hd1 : l.drop (p + 1) = flF (.cons b1 k1 (.cons b2 k2 .nil)) ++ tl := g3
      obtain ⟨c1, kc1, t1, d1, n1, -, -, -⟩ := kid_at l 0 _ tl (p + 1) 0 0 0 hd1 hw ha (by show 0 < 0 + 1 + 1; omega)
      obtain ⟨c2, kc2, t2, d2, n2, -, -, -⟩ := kid_at l 0 _ tl (p + 1) 1 0 0 hd1 hw ha (by show 1 < 0 + 1 + 1; omega)
      have e1 : l.drop (p + 1) = b1 :: (flF k1 ++ (flF (.cons b2 k2 .nil) ++ tl)) := by
        rw [hd1]
        show b1 :: (flF k1 ++ flF (.cons b2 k2 .nil)) ++ tl = _
        rw [List.cons_append, List.append_assoc]
      have e2 : l.drop (p + 1 + 1 + (flF k1).length) = b2 :: (flF k2 ++ tl) := by
        rw [show p + 1 + 1 + (flF k1).length = p + 1 + (1 + (flF k1).length) by omega, ← List.drop_drop, e1, ← List.drop_drop]
        show (flF k1 ++ (flF (.cons b2 k2 .nil) ++ tl)).drop (flF k1).length = _
        rw [List.drop_left]
        show b2 :: (flF k2 ++ []) ++ tl = _
        rw [List.append_nil, List.cons_append]
      obtain ⟨a1, a2, a3⟩ := getD_drop e1
      obtain ⟨a4, a5, a6⟩ := getD_drop e2
      have hN1 : NdF b1 k1 := ⟨hw.1, hw.2.1, ha.2.2.1, ha.1, ha.2.1⟩
      have hN2 : NdF b2 k2 := ⟨hw.2.2.1, hw.2.2.2.1, ha.2.2.2.2.2.1, ha.2.2.2.1, ha.2.2.2.2.1⟩
      have hO1 := ihO k1 (by simp; omega)
      have hO2 := ihO k2 (by simp; omega)
      have hR1 := ihR k1 (by simp; omega)
      have hkk : kds l (p : Int) = [((p + 1 : Nat) : Int), ((p + 1 + 1 + (flF k1).length : Nat) : Int)] := hks
      have hl1 := row_le b1.op k1 d
      have hl2 := op_le b1 k1 (d + par b1.op (rWants b.op 0))
      have hp1 := par_le b1.op (rWants b.op 0)
      have hp2 := par_le b2.op (rWants b.op 1)
      rw [rowK]
      by_cases hrr : rRank b1.op = rRank b.op
      · rw [if_pos hrr]
        have HC : ∀ W2, Up W W2 → Calls Try.prog 45 #[v, .int .i64 ((p + 1 + 1 + (flF k1).length : Nat) : Int), .int .i64 ((d + (rowK b1.op k1 d).2 : Nat) : Int), .int .i64 (rWants b.op 1)] W2 fun e w' => e = .returned (.int .i64 ((opK b2 k2 (d + (rowK b1.op k1 d).2 + par b2.op (rWants b.op 1)) : Nat) : Int)) ∧ Up W2 w' := fun W2 hu => placed_at hO2 b2 _ _ _ tl W2 (hv.up hu) e2 hN2 (by omega)
        have hr1 : rrow b1.op = true := rank_row hr hrr
        have HR : ∀ W2, Up W W2 → Calls Try.prog 44 #[v, .int .i64 ((p + 1 : Nat) : Int), .int .i64 (d : Int)] W2 fun e w' => e = .returned (.tuple #[.int .i64 (((rowK b1.op k1 d).1 : Nat) : Int), .int .i64 (((rowK b1.op k1 d).2 : Nat) : Int)]) ∧ Up W2 w' := fun W2 hu => hR1 b1 _ d _ W2 (hv.up hu) e1 hN1 hr1 (by omega)
        by_cases hM : d < (rowK b1.op k1 d).1
        · have hx : max d (rowK b1.op k1 d).1 = (rowK b1.op k1 d).1 := by omega
          rw [hx]
          exact row_lt v l p (p + 1) (p + 1 + 1 + (flF k1).length) d (rowK b1.op k1 d).2 (rowK b1.op k1 d).1 _ W b b1 hv g2 a2 a5 g1 a1 hkk hn (by omega) (by omega) (by omega) hM (fun _ => HR) (fun h => absurd hrr h) HC
        · have hx : max d (rowK b1.op k1 d).1 = d := by omega
          have hx2 : (rowK b1.op k1 d).1 = d := by omega
          rw [hx]
          rw [hx2] at HR
          exact row_eq v l p (p + 1) (p + 1 + 1 + (flF k1).length) d (rowK b1.op k1 d).2 _ W b b1 hv g2 a2 a5 g1 a1 hkk hn (by omega) (by omega) (fun _ => HR) (fun h => absurd hrr h) HC
      · rw [if_neg hrr]
        have HC : ∀ W2, Up W W2 → Calls Try.prog 45 #[v, .int .i64 ((p + 1 + 1 + (flF k1).length : Nat) : Int), .int .i64 ((d + 0 : Nat) : Int), .int .i64 (rWants b.op 1)] W2 fun e w' => e = .returned (.int .i64 ((opK b2 k2 (d + par b2.op (rWants b.op 1)) : Nat) : Int)) ∧ Up W2 w' := fun W2 hu => placed_at hO2 b2 _ _ _ tl W2 (hv.up hu) e2 hN2 (by omega)
        have HP : ∀ W2, Up W W2 → Calls Try.prog 45 #[v, .int .i64 ((p + 1 : Nat) : Int), .int .i64 (d : Int), .int .i64 (rWants b.op 0)] W2 fun e w' => e = .returned (.int .i64 ((opK b1 k1 (d + par b1.op (rWants b.op 0)) : Nat) : Int)) ∧ Up W2 w' := fun W2 hu => placed_at hO1 b1 _ _ _ _ W2 (hv.up hu) e1 hN1 (by omega)
        by_cases hM : d < opK b1 k1 (d + par b1.op (rWants b.op 0))
        · have hx : max d (opK b1 k1 (d + par b1.op (rWants b.op 0))) = opK b1 k1 (d + par b1.op (rWants b.op 0)) := by omega
          rw [hx]
          exact row_lt v l p (p + 1) (p + 1 + 1 + (flF k1).length) d 0 (opK b1 k1 (d + par b1.op (rWants b.op 0))) _ W b b1 hv g2 a2 a5 g1 a1 hkk hn (by omega) (by omega) (by omega) hM (fun h => absurd h hrr) (fun _ => ⟨rfl, HP⟩) HC
        · have hx : max d (opK b1 k1 (d + par b1.op (rWants b.op 0))) = d := by omega
          have hx2 : opK b1 k1 (d + par b1.op (rWants b.op 0)) = d := by omega
          rw [hx]
          rw [hx2] at HP
          exact row_eq v l p (p + 1) (p + 1 + 1 + (flF k1).length) d 0 _ W b b1 hv g2 a2 a5 g1 a1 hkk hn (by omega) (by omega) (fun h => absurd h hrr) (fun _ => ⟨rfl, HP⟩) HC
theorem open_at {v : Value} {l : List Nd} (hn : l.length ≤ 1000000) {kb : Fo} (ihO : ∀ kc, SizeOf.sizeOf kc < SizeOf.sizeOf kb → OpenAt v l kc) (ihR : RowAt v l kb) : OpenAt v l kb := by
  intro b p d tl W hv hd hb hm
  have hrow := fun W2 (hu : Up W W2) hr => ihR b p d tl W2 (hv.up hu) hd hb hr hm
  obtain ⟨g1, g2, g3⟩ := getD_drop hd
  obtain ⟨hk, hw, ha, hc2, hc1⟩ := hb
  have hks := kds_at hd hk hw
  have hfl : (flF kb).length ≤ l.length := by
    have h9 := congrArg List.length hd
    rw [List.length_drop, List.length_cons, List.length_append] at h9
    omega
  have hcn := cnt_le kb
  rw [posF_N] at hks
  by_cases h49 : b.op = 49
  · rw [opK, if_pos h49, h49, show dopn 49 = 0 by decide, Nat.add_zero]
    obtain ⟨m, c, kc, tl2, q1, q2, q3, q4, q5, q6, q10, q7, q8, q9⟩ := chain_end l kb (p + 1) tl g3 (hc1 h49) hw ha
    have hl1 := op_le c kc (d + par c.op 8)
    have hp1 := par_le c.op 8
    rw [q9 1 d (Nat.le_refl _)]
    have hq2 := getD_drop q2
    refine open_field v l p d _ W b hv g2 g1 h49 hn (fun W2 hu => ?_)
    have hch := chain_ v l p (m + 1) d W2 (fun e => opK c kc e) c (hv.up hu) (by rw [show p + (m + 1) = p + 1 + m by omega]; exact hq2.2.1) (by omega) (fun i hi => by
      cases i with
      | zero => rw [Nat.add_zero, g1]; exact h49
      | succ i =>
        rw [show p + (i + 1) = p + 1 + i by omega]
        exact q1 i (by omega)) (by rw [show p + (m + 1) = p + 1 + m by omega]; exact hq2.1) q3 hn (by omega) (by omega) (fun W3 hu3 => by
      rw [show p + (m + 1) = p + 1 + m by omega]
      exact ihO kc q7 c _ _ tl2 W3 ((hv.up hu).up hu3) q2 ⟨q4, q5, q6, q10, fun h => absurd h q3⟩ (by omega))
    rw [show d + 1 + m - 1 = d + (m + 1) - 1 by omega]
    exact hch
  · by_cases hr : rrow b.op = true
    · rw [opK, if_neg h49, if_pos hr]
      have hdo : dopn b.op = 0 := by
        rcases row_is hr with h | h | h | h | h | h | h <;> rw [h] <;> decide
      rw [hdo, Nat.add_zero]
      rcases row_is hr with h | h | h | h | h | h | h
      · exact open_row36 v l p d _ _ W b hv g2 g1 h hn (fun W2 hu => hrow W2 hu hr)
      · exact open_row37 v l p d _ _ W b hv g2 g1 h hn (fun W2 hu => hrow W2 hu hr)
      · exact open_row44 v l p d _ _ W b hv g2 g1 h hn (fun W2 hu => hrow W2 hu hr)
      · exact open_row45 v l p d _ _ W b hv g2 g1 h hn (fun W2 hu => hrow W2 hu hr)
      · exact open_row46 v l p d _ _ W b hv g2 g1 h hn (fun W2 hu => hrow W2 hu hr)
      · exact open_row47 v l p d _ _ W b hv g2 g1 h hn (fun W2 hu => hrow W2 hu hr)
      · exact open_row48 v l p d _ _ W b hv g2 g1 h hn (fun W2 hu => hrow W2 hu hr)
    · have hr2 : rrow b.op = false := by simpa using hr
      rw [opK, if_neg h49, if_neg hr]
      have hmx : mxA (ansN b.op 0 kb (d + dopn b.op)) (d + dopn b.op) (cntF kb) = klK b.op 0 kb (d + dopn b.op) := by
        rw [kl_mx b.op kb 0 (d + dopn b.op) (d + dopn b.op) (Nat.le_refl _)]
        have := (kl_le b.op 0 kb (d + dopn b.op)).2
        omega
      rw [← hmx]
      have hdl := dopn_le b.op
      have hK : ∀ i, i < cntF kb → posN kb (p + 1) i < l.length := fun i hi => by
        obtain ⟨c, kc, t2, z1, z2, z3, z4, z5⟩ := kid_at l b.op kb tl (p + 1) i 0 (d + dopn b.op) g3 hw ha hi
        exact (getD_drop z1).2.1
      have hA : ∀ i, i < cntF kb → ansN b.op 0 kb (d + dopn b.op) i ≤ 1000000000000 := fun i hi => by
        obtain ⟨c, kc, t2, z1, z2, z3, z4, z5⟩ := kid_at l b.op kb tl (p + 1) i 0 (d + dopn b.op) g3 hw ha hi
        rw [z5]
        have := ans_le b.op (0 + i) c kc (d + dopn b.op)
        omega
      by_cases h13 : b.op = 13
      · refine open_at13 v l p d (cntF kb) (posN kb (p + 1)) _ W b hv g2 g1 h13 hn (by omega) (by omega) hks hK hA (fun i hi W2 hu => ?_)
        obtain ⟨c, kc, t2, z1, z2, z3, z4, z5⟩ := kid_at l b.op kb tl (p + 1) i 0 (d + dopn b.op) g3 hw ha hi
        have hg := (getD_drop z1).1
        rw [hg, z5, h13, show dopn 13 = 0 by decide, Nat.add_zero]
        unfold ansK
        by_cases hq : i = 2 ∧ c.op = 13
        · rw [if_pos hq, if_pos ⟨rfl, by omega, hq.2⟩]
          exact ihO kc z3 c _ (d + 1) t2 W2 (hv.up hu) z1 z2 (by omega)
        · rw [if_neg hq, if_neg (fun h => hq ⟨by omega, h.2.2⟩)]
          rw [show (0 : Int) + (i : Int) = (i : Int) by omega]
          exact placed_at (ihO kc z3) c _ d _ t2 W2 (hv.up hu) z1 z2 (by omega)
      · have HA : ∀ i, i < cntF kb → ∀ W2, Up W W2 → Calls Try.prog 45 #[v, .int .i64 ((posN kb (p + 1) i : Nat) : Int), .int .i64 ((d + dopn b.op : Nat) : Int), .int .i64 (rWants b.op (i : Int))] W2 (fun e w' => e = .returned (.int .i64 ((ansN b.op 0 kb (d + dopn b.op) i : Nat) : Int)) ∧ Up W2 w') := fun i hi W2 hu => by
          obtain ⟨c, kc, t2, z1, z2, z3, z4, z5⟩ := kid_at l b.op kb tl (p + 1) i 0 (d + dopn b.op) g3 hw ha hi
          rw [z5]
          unfold ansK
          rw [if_neg (fun h => h13 h.1), show (0 : Int) + (i : Int) = (i : Int) by omega]
          exact placed_at (ihO kc z3) c _ (d + dopn b.op) _ t2 W2 (hv.up hu) z1 z2 (by omega)
        by_cases h10 : b.op = 10
        · have hdo : dopn b.op = 1 := by rw [h10]; decide
          refine open_at10 v l p d (cntF kb) (posN kb (p + 1)) _ W b hv g2 g1 h10 hn (by omega) (by omega) hks hK hA ?_
          rw [hdo] at HA ⊢
          exact HA
        by_cases h19 : b.op = 19
        · have hdo : dopn b.op = 1 := by rw [h19]; decide
          refine open_at19 v l p d (cntF kb) (posN kb (p + 1)) _ W b hv g2 g1 h19 hn (by omega) (by omega) hks hK hA ?_
          rw [hdo] at HA ⊢
          exact HA
        by_cases h50 : b.op = 50
        · have hdo : dopn b.op = 1 := by rw [h50]; decide
          refine open_at50 v l p d (cntF kb) (posN kb (p + 1)) _ W b hv g2 g1 h50 hn (by omega) (by omega) hks hK hA ?_
          rw [hdo] at HA ⊢
          exact HA
        by_cases h34 : b.op = 34
        · have hdo : dopn b.op = 1 := by rw [h34]; decide
          refine open_at34 v l p d (cntF kb) (posN kb (p + 1)) _ W b hv g2 g1 h34 hn (by omega) (by omega) hks hK hA ?_
          rw [hdo] at HA ⊢
          exact HA
        by_cases h35 : b.op = 35
        · have hdo : dopn b.op = 1 := by rw [h35]; decide
          refine open_at35 v l p d (cntF kb) (posN kb (p + 1)) _ W b hv g2 g1 h35 hn (by omega) (by omega) hks hK hA ?_
          rw [hdo] at HA ⊢
          exact HA
        have hdo : dopn b.op = 0 := by unfold dopn; rw [if_neg (by omega)]
        refine open_other v l p d (cntF kb) (posN kb (p + 1)) _ W b hv g2 g1 h49 h10 h19 h50 h34 h35 h13 hr2 hn (by omega) (by omega) hks hK hA ?_
        rw [hdo] at HA ⊢
        exact HA
theorem open_all (v : Value) (l : List Nd) (hn : l.length ≤ 1000000) : ∀ (n : Nat) (kb : Fo), SizeOf.sizeOf kb ≤ n → OpenAt v l kb ∧ RowAt v l kb
  | 0, kb, h => by cases kb <;> simp at h
  | n + 1, kb, h => by
    have ih := open_all v l hn n
    have hR : RowAt v l kb := row_at hn (fun kc hc => (ih kc (by omega)).1) (fun kc hc => (ih kc (by omega)).2)
    exact ⟨open_at hn (fun kc hc => (ih kc (by omega)).1) hR, hR⟩
end TR
end Go.Proofs.Ytgahdppcdeefaaa
