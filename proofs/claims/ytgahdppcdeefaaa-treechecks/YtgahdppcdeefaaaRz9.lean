/-
  The document's Depth, Check and Weight.
-/
import Derived.Test.YtgahdppcdeefaaaOk9
import Derived.Test.YtgahdppcdeefaaaSh9
import Derived.Test.YtgahdppcdeefaaaNd9
namespace Go.Proofs.Ytgahdppcdeefaaa
open Go.RowKit
attribute [local go_sem ↓] Go.wp_at_zero Go.wp_at_succ
namespace TR
def OpenAt (v : Value) (l : List Nd) (kb : Fo) : Prop := ∀ (b : Nd) (p d : Nat) (tl : List Nd) (W : World), NLs W v l → l.drop p = b :: (flF kb ++ tl) → NdF b kb → d + 2 * (flF kb).length ≤ 90000000000 → Calls Try.prog 30 #[v, .int .i64 (p : Int), .int .i64 (d : Int)] W (fun e w' => e = .returned (.int .i64 ((opK b kb d : Nat) : Int)) ∧ Up W w')
def RowAt (v : Value) (l : List Nd) (kb : Fo) : Prop := ∀ (b : Nd) (p d : Nat) (tl : List Nd) (W : World), NLs W v l → l.drop p = b :: (flF kb ++ tl) → NdF b kb → rrow b.op = true → d + 2 * (flF kb).length ≤ 90000000000 → Calls Try.prog 44 #[v, .int .i64 (p : Int), .int .i64 (d : Int)] W (fun e w' => e = .returned (.tuple #[.int .i64 (((rowK b.op kb d).1 : Nat) : Int), .int .i64 (((rowK b.op kb d).2 : Nat) : Int)]) ∧ Up W w')
theorem placed_at {v : Value} {l : List Nd} {kb : Fo} (h : OpenAt v l kb) (b : Nd) (p d : Nat) (want : Int) (tl : List Nd) (W : World) (hv : NLs W v l) (hd : l.drop p = b :: (flF kb ++ tl)) (hb : NdF b kb) (hm : d + 2 * (flF kb).length + 1 ≤ 90000000000) : Calls Try.prog 45 #[v, .int .i64 (p : Int), .int .i64 (d : Int), .int .i64 want] W (fun e w' => e = .returned (.int .i64 ((opK b kb (d + par b.op want) : Nat) : Int)) ∧ Up W w') := by
  obtain ⟨g1, g2, g3⟩ := getD_drop hd
  have h1 := par_le b.op want
  exact placed_ v l p d want W (fun e => opK b kb e) b hv g2 g1 (by omega) (fun W2 hu => h b p (d + par b.op want) tl W2 (hv.up hu) hd hb (by omega))
theorem row_at {v : Value} {l : List Nd} (hn : l.length ≤ 1000000) {kb : Fo} (ihO : ∀ kc, SizeOf.sizeOf kc < SizeOf.sizeOf kb → OpenAt v l kc) (ihR : ∀ kc, SizeOf.sizeOf kc < SizeOf.sizeOf kb → RowAt v l kc) : RowAt v l kb := by
  intro b p d tl W hv hd hb hr hm
  obtain ⟨g1, g2, g3⟩ := getD_drop hd
  obtain ⟨hk, hw, ha, hc2, -⟩ := hb
  have hc := hc2 hr
  have hks := kds_at hd hk hw
  have hfl : (flF kb).length ≤ l.length := by
    have h9 := congrArg List.length hd
    rw [List.length_drop, List.length_cons, List.length_append] at h9
    omega
  cases kb with
  | nil => cases hc
  | cons b1 k1 r1 =>
    cases r1 with
    | nil => cases hc
    | cons b2 k2 r2 =>
      have hr2 : r2 = .nil := by
        cases r2 with
        | nil => rfl
        | cons b3 k3 r3 =>
          have : cntF r3 + 1 + 1 + 1 = 2 := hc
          omega
      subst hr2
      rw [fl_cons, fl_cons] at hm hfl
      have hd1 : l.drop (p + 1) = flF (.cons b1 k1 (.cons b2 k2 .nil)) ++ tl := g3
      obtain ⟨c1, kc1, t1, d1, n1, -, -, -⟩ := kid_at l 0 _ tl (p + 1) 0 0 0 hd1 hw ha (by show 0 < 0 + 1 + 1; omega)
      obtain ⟨c2, kc2, t2, d2, n2, -, -, -⟩ := kid_at l 0 _ tl (p + 1) 1 0 0 hd1 hw ha (by show 1 < 0 + 1 + 1; omega)
      have e1 : l.drop (p + 1) = b1 :: (flF k1 ++ (flF (.cons b2 k2 .nil) ++ tl)) := by
        rw [hd1]
        show b1 :: (flF k1 ++ flF (.cons b2 k2 .nil)) ++ tl = _
        rw [List.cons_append, List.append_assoc]
      have e2 : l.drop (p + 1 + 1 + (flF k1).length) = b2 :: (flF k2 ++ tl) := by
        rw [show p + 1 + 1 + (flF k1).length = p + 1 + (1 + (flF k1).length) by omega, ← List.drop_drop, e1, ← List.drop_drop]
        show (flF k1 ++ (flF (.cons b2 k2 .nil) ++ tl)).drop (flF k1).length = _
        rw [List.drop_left]
        show b2 :: (flF k2 ++ []) ++ tl = _
        rw [List.append_nil, List.cons_append]
      obtain ⟨a1, a2, a3⟩ := getD_drop e1
      obtain ⟨a4, a5, a6⟩ := getD_drop e2
      have hN1 : NdF b1 k1 := ⟨hw.1, hw.2.1, ha.2.2.1, ha.1, ha.2.1⟩
      have hN2 : NdF b2 k2 := ⟨hw.2.2.1, hw.2.2.2.1, ha.2.2.2.2.2.1, ha.2.2.2.1, ha.2.2.2.2.1⟩
      have hO1 := ihO k1 (by simp; omega)
      have hO2 := ihO k2 (by simp; omega)
      have hR1 := ihR k1 (by simp; omega)
      have hkk : kds l (p : Int) = [((p + 1 : Nat) : Int), ((p + 1 + 1 + (flF k1).length : Nat) : Int)] := hks
      have hl1 := row_le b1.op k1 d
      have hl2 := op_le b1 k1 (d + par b1.op (rWants b.op 0))
      have hp1 := par_le b1.op (rWants b.op 0)
      have hp2 := par_le b2.op (rWants b.op 1)
      rw [rowK]
      by_cases hrr : rRank b1.op = rRank b.op
      · rw [if_pos hrr]
        have HC : ∀ W2, Up W W2 → Calls Try.prog 45 #[v, .int .i64 ((p + 1 + 1 + (flF k1).length : Nat) : Int), .int .i64 ((d + (rowK b1.op k1 d).2 : Nat) : Int), .int .i64 (rWants b.op 1)] W2 fun e w' => e = .returned (.int .i64 ((opK b2 k2 (d + (rowK b1.op k1 d).2 + par b2.op (rWants b.op 1)) : Nat) : Int)) ∧ Up W2 w' := fun W2 hu => placed_at hO2 b2 _ _ _ tl W2 (hv.up hu) e2 hN2 (by omega)
        have hr1 : rrow b1.op = true := rank_row hr hrr
        have HR : ∀ W2, Up W W2 → Calls Try.prog 44 #[v, .int .i64 ((p + 1 : Nat) : Int), .int .i64 (d : Int)] W2 fun e w' => e = .returned (.tuple #[.int .i64 (((rowK b1.op k1 d).1 : Nat) : Int), .int .i64 (((rowK b1.op k1 d).2 : Nat) : Int)]) ∧ Up W2 w' := fun W2 hu => hR1 b1 _ d _ W2 (hv.up hu) e1 hN1 hr1 (by omega)
        by_cases hM : d < (rowK b1.op k1 d).1
        · have hx : max d (rowK b1.op k1 d).1 = (rowK b1.op k1 d).1 := by omega
          rw [hx]
          exact row_lt v l p (p + 1) (p + 1 + 1 + (flF k1).length) d (rowK b1.op k1 d).2 (rowK b1.op k1 d).1 _ W b b1 hv g2 a2 a5 g1 a1 hkk hn (by omega) (by omega) (by omega) hM (fun _ => HR) (fun h => absurd hrr h) HC
        · have hx : max d (rowK b1.op k1 d).1 = d := by omega
          have hx2 : (rowK b1.op k1 d).1 = d := by omega
          rw [hx]
          rw [hx2] at HR
          exact row_eq v l p (p + 1) (p + 1 + 1 + (flF k1).length) d (rowK b1.op k1 d).2 _ W b b1 hv g2 a2 a5 g1 a1 hkk hn (by omega) (by omega) (fun _ => HR) (fun h => absurd hrr h) HC
      · rw [if_neg hrr]
        have HC : ∀ W2, Up W W2 → Calls Try.prog 45 #[v, .int .i64 ((p + 1 + 1 + (flF k1).length : Nat) : Int), .int .i64 ((d + 0 : Nat) : Int), .int .i64 (rWants b.op 1)] W2 fun e w' => e = .returned (.int .i64 ((opK b2 k2 (d + par b2.op (rWants b.op 1)) : Nat) : Int)) ∧ Up W2 w' := fun W2 hu => placed_at hO2 b2 _ _ _ tl W2 (hv.up hu) e2 hN2 (by omega)
        have HP : ∀ W2, Up W W2 → Calls Try.prog 45 #[v, .int .i64 ((p + 1 : Nat) : Int), .int .i64 (d : Int), .int .i64 (rWants b.op 0)] W2 fun e w' => e = .returned (.int .i64 ((opK b1 k1 (d + par b1.op (rWants b.op 0)) : Nat) : Int)) ∧ Up W2 w' := fun W2 hu => placed_at hO1 b1 _ _ _ _ W2 (hv.up hu) e1 hN1 (by omega)
        by_cases hM : d < opK b1 k1 (d + par b1.op (rWants b.op 0))
        · have hx : max d (opK b1 k1 (d + par b1.op (rWants b.op 0))) = opK b1 k1 (d + par b1.op (rWants b.op 0)) := by omega
          rw [hx]
          exact row_lt v l p (p + 1) (p + 1 + 1 + (flF k1).length) d 0 (opK b1 k1 (d + par b1.op (rWants b.op 0))) _ W b b1 hv g2 a2 a5 g1 a1 hkk hn (by omega) (by omega) (by omega) hM (fun h => absurd h hrr) (fun _ => ⟨rfl, HP⟩) HC
        · have hx : max d (opK b1 k1 (d + par b1.op (rWants b.op 0))) = d := by omega
          have hx2 : opK b1 k1 (d + par b1.op (rWants b.op 0)) = d := by omega
          rw [hx]
          rw [hx2] at HP
          exact row_eq v l p (p + 1) (p + 1 + 1 + (flF k1).length) d 0 _ W b b1 hv g2 a2 a5 g1 a1 hkk hn (by omega) (by omega) (fun h => absurd h hrr) (fun _ => ⟨rfl, HP⟩) HC
theorem open_at {v : Value} {l : List Nd} (hn : l.length ≤ 1000000) {kb : Fo} (ihO : ∀ kc, SizeOf.sizeOf kc < SizeOf.sizeOf kb → OpenAt v l kc) (ihR : RowAt v l kb) : OpenAt v l kb := by
  intro b p d tl W hv hd hb hm
  have hrow := fun W2 (hu : Up W W2) hr => ihR b p d tl W2 (hv.up hu) hd hb hr hm
  obtain ⟨g1, g2, g3⟩ := getD_drop hd
  obtain ⟨hk, hw, ha, hc2, hc1⟩ := hb
  have hks := kds_at hd hk hw
  have hfl : (flF kb).length ≤ l.length := by
    have h9 := congrArg List.length hd
    rw [List.length_drop, List.length_cons, List.length_append] at h9
    omega
  have hcn := cnt_le kb
  rw [posF_N] at hks
  by_cases h49 : b.op = 49
  · rw [opK, if_pos h49, h49, show dopn 49 = 0 by decide, Nat.add_zero]
    obtain ⟨m, c, kc, tl2, q1, q2, q3, q4, q5, q6, q10, q7, q8, q9⟩ := chain_end l kb (p + 1) tl g3 (hc1 h49) hw ha
    have hl1 := op_le c kc (d + par c.op 8)
    have hp1 := par_le c.op 8
    rw [q9 1 d (Nat.le_refl _)]
    have hq2 := getD_drop q2
    refine open_field v l p d _ W b hv g2 g1 h49 hn (fun W2 hu => ?_)
    have hch := chain_ v l p (m + 1) d W2 (fun e => opK c kc e) c (hv.up hu) (by rw [show p + (m + 1) = p + 1 + m by omega]; exact hq2.2.1) (by omega) (fun i hi => by
      cases i with
      | zero => rw [Nat.add_zero, g1]; exact h49
      | succ i =>
        rw [show p + (i + 1) = p + 1 + i by omega]
        exact q1 i (by omega)) (by rw [show p + (m + 1) = p + 1 + m by omega]; exact hq2.1) q3 hn (by omega) (by omega) (fun W3 hu3 => by
      rw [show p + (m + 1) = p + 1 + m by omega]
      exact ihO kc q7 c _ _ tl2 W3 ((hv.up hu).up hu3) q2 ⟨q4, q5, q6, q10, fun h => absurd h q3⟩ (by omega))
    rw [show d + 1 + m - 1 = d + (m + 1) - 1 by omega]
    exact hch
  · by_cases hr : rrow b.op = true
    · rw [opK, if_neg h49, if_pos hr]
      have hdo : dopn b.op = 0 := by
        rcases row_is hr with h | h | h | h | h | h | h <;> rw [h] <;> decide
      rw [hdo, Nat.add_zero]
      rcases row_is hr with h | h | h | h | h | h | h
      · exact open_row36 v l p d _ _ W b hv g2 g1 h hn (fun W2 hu => hrow W2 hu hr)
      · exact open_row37 v l p d _ _ W b hv g2 g1 h hn (fun W2 hu => hrow W2 hu hr)
      · exact open_row44 v l p d _ _ W b hv g2 g1 h hn (fun W2 hu => hrow W2 hu hr)
      · exact open_row45 v l p d _ _ W b hv g2 g1 h hn (fun W2 hu => hrow W2 hu hr)
      · exact open_row46 v l p d _ _ W b hv g2 g1 h hn (fun W2 hu => hrow W2 hu hr)
      · exact open_row47 v l p d _ _ W b hv g2 g1 h hn (fun W2 hu => hrow W2 hu hr)
      · exact open_row48 v l p d _ _ W b hv g2 g1 h hn (fun W2 hu => hrow W2 hu hr)
    · have hr2 : rrow b.op = false := by simpa using hr
      rw [opK, if_neg h49, if_neg hr]
      have hmx : mxA (ansN b.op 0 kb (d + dopn b.op)) (d + dopn b.op) (cntF kb) = klK b.op 0 kb (d + dopn b.op) := by
        rw [kl_mx b.op kb 0 (d + dopn b.op) (d + dopn b.op) (Nat.le_refl _)]
        have := (kl_le b.op 0 kb (d + dopn b.op)).2
        omega
      rw [← hmx]
      have hdl := dopn_le b.op
      have hK : ∀ i, i < cntF kb → posN kb (p + 1) i < l.length := fun i hi => by
        obtain ⟨c, kc, t2, z1, z2, z3, z4, z5⟩ := kid_at l b.op kb tl (p + 1) i 0 (d + dopn b.op) g3 hw ha hi
        exact (getD_drop z1).2.1
      have hA : ∀ i, i < cntF kb → ansN b.op 0 kb (d + dopn b.op) i ≤ 1000000000000 := fun i hi => by
        obtain ⟨c, kc, t2, z1, z2, z3, z4, z5⟩ := kid_at l b.op kb tl (p + 1) i 0 (d + dopn b.op) g3 hw ha hi
        rw [z5]
        have := ans_le b.op (0 + i) c kc (d + dopn b.op)
        omega
      by_cases h13 : b.op = 13
      · refine open_at13 v l p d (cntF kb) (posN kb (p + 1)) _ W b hv g2 g1 h13 hn (by omega) (by omega) hks hK hA (fun i hi W2 hu => ?_)
        obtain ⟨c, kc, t2, z1, z2, z3, z4, z5⟩ := kid_at l b.op kb tl (p + 1) i 0 (d + dopn b.op) g3 hw ha hi
        have hg := (getD_drop z1).1
        rw [hg, z5, h13, show dopn 13 = 0 by decide, Nat.add_zero]
        unfold ansK
        by_cases hq : i = 2 ∧ c.op = 13
        · rw [if_pos hq, if_pos ⟨rfl, by omega, hq.2⟩]
          exact ihO kc z3 c _ (d + 1) t2 W2 (hv.up hu) z1 z2 (by omega)
        · rw [if_neg hq, if_neg (fun h => hq ⟨by omega, h.2.2⟩)]
          rw [show (0 : Int) + (i : Int) = (i : Int) by omega]
          exact placed_at (ihO kc z3) c _ d _ t2 W2 (hv.up hu) z1 z2 (by omega)
      · have HA : ∀ i, i < cntF kb → ∀ W2, Up W W2 → Calls Try.prog 45 #[v, .int .i64 ((posN kb (p + 1) i : Nat) : Int), .int .i64 ((d + dopn b.op : Nat) : Int), .int .i64 (rWants b.op (i : Int))] W2 (fun e w' => e = .returned (.int .i64 ((ansN b.op 0 kb (d + dopn b.op) i : Nat) : Int)) ∧ Up W2 w') := fun i hi W2 hu => by
          obtain ⟨c, kc, t2, z1, z2, z3, z4, z5⟩ := kid_at l b.op kb tl (p + 1) i 0 (d + dopn b.op) g3 hw ha hi
          rw [z5]
          unfold ansK
          rw [if_neg (fun h => h13 h.1), show (0 : Int) + (i : Int) = (i : Int) by omega]
          exact placed_at (ihO kc z3) c _ (d + dopn b.op) _ t2 W2 (hv.up hu) z1 z2 (by omega)
        by_cases h10 : b.op = 10
        · have hdo : dopn b.op = 1 := by rw [h10]; decide
          refine open_at10 v l p d (cntF kb) (posN kb (p + 1)) _ W b hv g2 g1 h10 hn (by omega) (by omega) hks hK hA ?_
          rw [hdo] at HA ⊢
          exact HA
        by_cases h19 : b.op = 19
        · have hdo : dopn b.op = 1 := by rw [h19]; decide
          refine open_at19 v l p d (cntF kb) (posN kb (p + 1)) _ W b hv g2 g1 h19 hn (by omega) (by omega) hks hK hA ?_
          rw [hdo] at HA ⊢
          exact HA
        by_cases h50 : b.op = 50
        · have hdo : dopn b.op = 1 := by rw [h50]; decide
          refine open_at50 v l p d (cntF kb) (posN kb (p + 1)) _ W b hv g2 g1 h50 hn (by omega) (by omega) hks hK hA ?_
          rw [hdo] at HA ⊢
          exact HA
        by_cases h34 : b.op = 34
        · have hdo : dopn b.op = 1 := by rw [h34]; decide
          refine open_at34 v l p d (cntF kb) (posN kb (p + 1)) _ W b hv g2 g1 h34 hn (by omega) (by omega) hks hK hA ?_
          rw [hdo] at HA ⊢
          exact HA
        by_cases h35 : b.op = 35
        · have hdo : dopn b.op = 1 := by rw [h35]; decide
          refine open_at35 v l p d (cntF kb) (posN kb (p + 1)) _ W b hv g2 g1 h35 hn (by omega) (by omega) hks hK hA ?_
          rw [hdo] at HA ⊢
          exact HA
        have hdo : dopn b.op = 0 := by unfold dopn; rw [if_neg (by omega)]
        refine open_other v l p d (cntF kb) (posN kb (p + 1)) _ W b hv g2 g1 h49 h10 h19 h50 h34 h35 h13 hr2 hn (by omega) (by omega) hks hK hA ?_
        rw [hdo] at HA ⊢
        exact HA
theorem open_all (v : Value) (l : List Nd) (hn : l.length ≤ 1000000) : ∀ (n : Nat) (kb : Fo), SizeOf.sizeOf kb ≤ n → OpenAt v l kb ∧ RowAt v l kb
  | 0, kb, h => by cases kb <;> simp at h
  | n + 1, kb, h => by
    have ih := open_all v l hn n
    have hR : RowAt v l kb := row_at hn (fun kc hc => (ih kc (by omega)).1) (fun kc hc => (ih kc (by omega)).2)
    exact ⟨open_at hn (fun kc hc => (ih kc (by omega)).1) hR, hR⟩
end TR
end Go.Proofs.Ytgahdppcdeefaaa
namespace Go.Proofs.Ytgahdppcdeefaaa
open Go.RowKit
attribute [local go_sem ↓] Go.wp_at_zero Go.wp_at_succ
namespace TR
theorem shp_is {l : List Nd} (hn : ∀ a ∈ l, a.n ≤ big) : shpR l = if (wlk l).2.2 = true then -1 else ((wlk l).2.1 : Int) := by
  have h : (wlk l).2 = gsh l ([wroot].map sh) 0 := go_sh l [wroot] 0 0
  have h1 : gsh l ([wroot].map sh) 0 = fsh l [⟨[0], 0, 1, 0⟩] 0 := gsh_fsh hn
  rw [h1] at h
  unfold shpR
  rw [← h]
theorem go_no0 : ∀ (l : List Nd) (S : List Wt) (d p : Nat), (go l S d p).2.2 = false → (go l S d p).1 = 0
  | [], S, d, p, h => by
    unfold go at h ⊢
    split at h
    · cases h
    · rename_i h1
      first | rfl | (rw [if_neg h1])
  | a :: r, S, d, p, h => by
    rw [go] at h ⊢
    split at h
    · rfl
    · split at h
      · rfl
      · exact go_no0 r _ _ _ h
theorem dpt_no {l : List Nd} (h : (wlk l).2.2 = false) : dpt l = 0 := go_no0 l _ _ _ h
theorem ckA_ok {l : List Nd} (h : (wlk l).2.2 = true) : ckA l = 0 := go_ok0 l _ _ _ h
set_option maxRecDepth 100000 in
set_option maxHeartbeats 16000000 in
theorem rdepth_ (v : Value) (l : List Nd) (w : World) (hv : NLs w v l) (hb : ∀ a ∈ l, Byt a.text) (hnb : ∀ a ∈ l, a.n ≤ big) (hks : ∀ a ∈ l, a.kids ≤ 9223372036854775807) (hn : l.length ≤ 1000000) : Calls Try.prog 14 #[v] w (fun e w' => e = .returned (.int .i64 (dpt l : Int)) ∧ Up w w') := by
  obtain ⟨Post, hPost⟩ : ∃ P : Ending → World → Prop, P = fun e w' => e = .returned (.int .i64 (dpt l : Int)) ∧ Up w w' := ⟨_, rfl⟩
  rw [← hPost]
  have HPo : Hid (Post = fun e w' => e = .returned (.int .i64 (dpt l : Int)) ∧ Up w w') := hPost
  clear hPost
  have HSH : Hid (Calls Try.prog 29 #[v] w fun e w' => e = .returned (.int .i64 (if (wlk l).2.2 = true then -1 else ((wlk l).2.1 : Int))) ∧ Up w w') := by
    unfold Hid
    rw [← shp_is hnb]
    exact shape_ v l w hv hb hks hn
  by_cases hok : (wlk l).2.2 = true
  · rw [if_pos hok] at HSH
    have HOP : Hid (∀ W, Up w W → Calls Try.prog 30 #[v, .int .i64 0, .int .i64 0] W fun e w' => e = .returned (.int .i64 (dpt l : Int)) ∧ Up W w') := fun W hu => by
      obtain ⟨a, k, Wt1, hl, hg, hp⟩ := wlk_tree hok
      have hd := dpt_tree hg hp
      have hw := goF_wf _ _ _ _ hg
      have ha := goF_ac _ _ _ _ hg
      have hdr : l.drop 0 = a :: (flF k ++ []) := by rw [List.append_nil]; exact hl
      have hlen : (flF k).length ≤ l.length := by rw [hl]; simp
      have h9 := (open_all v l hn _ k (Nat.le_refl _)).1 a 0 0 [] W (hv.up hu) hdr ⟨hw.1, hw.2.1, ha.2.2.1, ha.1, ha.2.1⟩ (by omega)
      rw [← hd] at h9
      exact h9
    clear hv hb hnb hks
    go_enter Try.func14, Try.ntmps14
    go_wp2_with fail
    refine Calls.mono HSH.out ?_
    rintro e w1 ⟨rfl, u1⟩
    have HU1 : Hid (Up w w1) := u1
    clear u1
    go_wp2_with fail
    refine Calls.mono (HOP.out w1 HU1.out) ?_
    rintro e w2 ⟨rfl, u2⟩
    go_wp2_with fail
    rw [HPo.out]
    exact ⟨rfl, HU1.out.trans u2⟩
  · have hno : (wlk l).2.2 = false := by simpa using hok
    have HD : Hid (dpt l = 0) := dpt_no hno
    rw [if_neg hok] at HSH
    generalize (wlk l).2.1 = pl at HSH
    clear hv hb hnb hks hok hno
    go_enter Try.func14, Try.ntmps14
    go_wp2_with fail
    refine Calls.mono HSH.out ?_
    rintro e w1 ⟨rfl, u1⟩
    have HU1 : Hid (Up w w1) := u1
    clear u1
    go_wp2_with fail
    rw [HPo.out, HD.out]
    exact ⟨rfl, HU1.out⟩
set_option maxRecDepth 100000 in
set_option maxHeartbeats 16000000 in
theorem rcheck_ (v : Value) (l : List Nd) (w : World) (hv : NLs w v l) (hb : ∀ a ∈ l, Byt a.text) (hnb : ∀ a ∈ l, a.n ≤ big) (hks : ∀ a ∈ l, a.kids ≤ 9223372036854775807) (hn : l.length ≤ 1000000) : Calls Try.prog 13 #[v] w (fun e w' => e = .returned (.tuple #[.int .i64 (ckE l), .int .i64 (ckA l : Int)]) ∧ Up w w') := by
  obtain ⟨Post, hPost⟩ : ∃ P : Ending → World → Prop, P = fun e w' => e = .returned (.tuple #[.int .i64 (ckE l), .int .i64 (ckA l : Int)]) ∧ Up w w' := ⟨_, rfl⟩
  rw [← hPost]
  have HPo : Hid (Post = fun e w' => e = .returned (.tuple #[.int .i64 (ckE l), .int .i64 (ckA l : Int)]) ∧ Up w w') := hPost
  clear hPost
  have HSH : Hid (Calls Try.prog 29 #[v] w fun e w' => e = .returned (.int .i64 (if (wlk l).2.2 = true then -1 else ((wlk l).2.1 : Int))) ∧ Up w w') := by
    unfold Hid
    rw [← shp_is hnb]
    exact shape_ v l w hv hb hks hn
  have HDP : Hid (∀ W, Up w W → Calls Try.prog 14 #[v] W fun e w' => e = .returned (.int .i64 (dpt l : Int)) ∧ Up W w') := fun W hu => rdepth_ v l W (hv.up hu) hb hnb hks hn
  by_cases hok : (wlk l).2.2 = true
  · rw [if_pos hok] at HSH
    have HA : Hid (ckA l = 0) := ckA_ok hok
    have HE : Hid (ckE l = if 64 < dpt l then 23 else 0) := by
      unfold Hid ckE dpt
      rw [if_pos hok]
    generalize dpt l = d at HDP HE
    clear hv hb hnb hks
    by_cases hd : 64 < d
    · rw [if_pos hd] at HE
      have hd2 : (64 : Int) < (d : Int) := by omega
      go_enter Try.func13, Try.ntmps13
      go_wp2_with fail
      refine Calls.mono HSH.out ?_
      rintro e w1 ⟨rfl, u1⟩
      have HU1 : Hid (Up w w1) := u1
      clear u1
      go_wp2_with fail
      refine Calls.mono (HDP.out w1 HU1.out) ?_
      rintro e w2 ⟨rfl, u2⟩
      go_wp2_with fail
      rw [HPo.out, HE.out, HA.out]
      exact ⟨rfl, HU1.out.trans u2⟩
    · rw [if_neg hd] at HE
      have hd2 : ¬ (64 : Int) < (d : Int) := by omega
      go_enter Try.func13, Try.ntmps13
      go_wp2_with fail
      refine Calls.mono HSH.out ?_
      rintro e w1 ⟨rfl, u1⟩
      have HU1 : Hid (Up w w1) := u1
      clear u1
      go_wp2_with fail
      refine Calls.mono (HDP.out w1 HU1.out) ?_
      rintro e w2 ⟨rfl, u2⟩
      go_wp2_with fail
      rw [HPo.out, HE.out, HA.out]
      exact ⟨rfl, HU1.out.trans u2⟩
  · rw [if_neg hok] at HSH
    have HE : Hid (ckE l = 24) := by
      unfold Hid ckE
      rw [if_neg hok]
    have HA : Hid (ckA l = (wlk l).2.1) := rfl
    generalize (wlk l).2.1 = pl at HSH HA
    clear hv hb hnb hks hok
    go_enter Try.func13, Try.ntmps13
    go_wp2_with fail
    refine Calls.mono HSH.out ?_
    rintro e w1 ⟨rfl, u1⟩
    have HU1 : Hid (Up w w1) := u1
    clear u1
    go_wp2_with fail
    rw [HPo.out, HE.out, HA.out]
    exact ⟨rfl, HU1.out⟩
set_option maxRecDepth 100000 in
set_option maxHeartbeats 16000000 in
theorem rweight_ (v : Value) (l : List Nd) (w : World) (hv : NLs w v l) (hb : ∀ a ∈ l, Byt a.text) (hnb : ∀ a ∈ l, a.n ≤ big) (hks : ∀ a ∈ l, a.kids ≤ 9223372036854775807) (hn : l.length ≤ 1000000) : Calls Try.prog 15 #[v] w (fun e w' => e = .returned (.int .i64 (wgt l)) ∧ Up w w') := by
  obtain ⟨Post, hPost⟩ : ∃ P : Ending → World → Prop, P = fun e w' => e = .returned (.int .i64 (wgt l)) ∧ Up w w' := ⟨_, rfl⟩
  rw [← hPost]
  have HPo : Hid (Post = fun e w' => e = .returned (.int .i64 (wgt l)) ∧ Up w w') := hPost
  clear hPost
  have HSH : Hid (Calls Try.prog 29 #[v] w fun e w' => e = .returned (.int .i64 (if (wlk l).2.2 = true then -1 else ((wlk l).2.1 : Int))) ∧ Up w w') := by
    unfold Hid
    rw [← shp_is hnb]
    exact shape_ v l w hv hb hks hn
  have HBH : Hid (∀ (p : Int) W, Up w W → p ≤ 9223372036854775807 → Calls Try.prog 31 #[v, .int .i64 p] W fun e w' => e = .returned (.int .i64 (bhd l p)) ∧ w' = W) := fun p W u hp => rbehind_ v l p W (hv.up u) (by omega) hp
  have HG : Hid (wgt l = if (wlk l).2.2 then wgF l l.length 0 0 else 0) := rfl
  generalize wlk l = q at *
  obtain ⟨d, p, b⟩ := q
  obtain ⟨a1, k1, rfl, hc, h1⟩ := nl_at hv
  obtain ⟨n, hn0⟩ : ∃ n, n = l.length := ⟨_, rfl⟩
  have HN : Hid (n = l.length) := hn0
  rw [← hn0] at hn h1 HSH HBH HG hc ⊢
  have H1 : Hid (n ≠ 0 → ∃ b off, a1 = some ⟨b, off, none⟩ ∧ ∀ W, Up w W → ∀ i, i < n → ∀ j x, (ndc (l.getD i dn))[j]? = some x → W.cell? ⟨b, off + i * 7 + j, none⟩ = some x) := h1
  clear hv hb hks hnb h1 hn0
  cases b with
  | false =>
    have HSH : Hid (Calls Try.prog 29 #[.slice a1 n k1] w fun e w' => e = .returned (.int .i64 (p : Int)) ∧ Up w w') := HSH.out
    go_enter Try.func15, Try.ntmps15
    go_wp2_with fail
    refine Calls.mono HSH.out ?_
    rintro e w1 ⟨rfl, u1⟩
    go_wp2_with fail
    rw [HPo.out, HG.out]
    exact ⟨rfl, u1⟩
  | true =>
    have HSH : Hid (Calls Try.prog 29 #[.slice a1 n k1] w fun e w' => e = .returned (.int .i64 (-1)) ∧ Up w w') := HSH.out
    have HG2 : Hid (wgt l = wgF l (n - 0) 0 0) := HG.out
    go_enter Try.func15, Try.ntmps15
    go_wp2_with fail
    refine Calls.mono HSH.out ?_
    rintro e w1 ⟨rfl, u1⟩
    have HU1 : Hid (Up w w1) := u1
    clear u1 HSH HG
    go_wp2_with fail
    go_loopw [3, 4] (fun s6 s19 W => ∃ (i : Nat) (b : Int), i ≤ n ∧ s6 = .int .i64 b ∧ s19 = .int .i64 i ∧ 0 ≤ b ∧ b ≤ 1000000 ∧ wgt l = wgF l (n - i) i b ∧ Up w W) (fun _ s19 _ => n - (intOf s19).toNat)
    case atStart => exact ⟨0, 0, Nat.zero_le _, rfl, rfl, Int.le_refl _, by omega, HG2.out, HU1.out⟩
    case round =>
      obtain ⟨i, b, hi, rfl, rfl, hb0, hb1, hg, hu⟩ := hrel
      have HU : Hid (Up w wr) := hu
      have HGG : Hid (wgt l = wgF l (n - i) i b) := hg
      clear hg HG2
      by_cases hlt : i < n
      · have hlt2 : (i : Int) < (n : Int) := by omega
        obtain ⟨b1, o1, rfl, c1⟩ := H1.out (by omega)
        have ei : IntKind.i64.wrap ((i : Int) + 1) = ((i + 1 : Nat) : Int) := by rw [IntKind.wrap_i64]; omega
        have x0 : wr.cell? ⟨b1, o1 + i * 7, none⟩ = some (.int .i8 (l.getD i dn).op) := c1 wr hu i hlt 0 _ rfl
        have HST := wg_step (l := l) (n := n) (i := i) (b := b) hlt
        clear c1 hu
        by_cases h7 : (l.getD i dn).op = 7
        · rw [if_pos h7] at HST
          obtain ⟨hz0, hz1⟩ := bhd_le l (i : Int)
          rw [← HN.out] at hz1
          have HCB : Hid (Calls Try.prog 31 #[.slice (some ⟨b1, o1, none⟩) n k1, .int .i64 (i : Int)] wr fun e w' => e = .returned (.int .i64 (bhd l (i : Int))) ∧ w' = wr) := HBH.out (i : Int) wr HU.out (by omega)
          generalize bhd l (i : Int) = z at *
          have HST : Hid (wgF l (n - i) i b = wgF l (n - (i + 1)) (i + 1) (max b (z - (i : Int) - 1))) := HST
          generalize l.getD i dn = ex at *
          obtain ⟨eo, ek, en, em, et, ep, ec⟩ := ex
          have h7 : eo = 7 := h7
          subst h7
          simp only at x0
          have es1 : IntKind.i64.wrap (z - (i : Int)) = z - (i : Int) := by rw [IntKind.wrap_i64]; omega
          have es2 : IntKind.i64.wrap (z - (i : Int) - 1) = z - (i : Int) - 1 := by rw [IntKind.wrap_i64]; omega
          have hmx : (if b < z - (i : Int) - 1 then z - (i : Int) - 1 else b) = max b (z - (i : Int) - 1) := by rw [Int.max_def]; split <;> split <;> omega
          go_wp2_with fail
          refine Calls.mono HCB.out ?_
          rintro r w2 ⟨rfl, hw⟩
          obtain rfl := hw.symm
          clear hw
          clear HCB
          by_cases hmz : b < z - (i : Int) - 1
          · have HGM : Hid (wgt l = wgF l (n - (i + 1)) (i + 1) (z - (i : Int) - 1)) := by unfold Hid; rw [HGG.out, HST.out, ← hmx, if_pos hmz]
            clear hmx
            go_wp2_with fail
            go_roundw
            case rel => exact ⟨i + 1, z - (i : Int) - 1, by omega, rfl, by go_num, by omega, by omega, HGM.out, HU.out⟩
            case measure => simp [intOf]; omega
          · have HGM : Hid (wgt l = wgF l (n - (i + 1)) (i + 1) b) := by unfold Hid; rw [HGG.out, HST.out, ← hmx, if_neg hmz]
            clear hmx
            go_wp2_with fail
            go_roundw
            case rel => exact ⟨i + 1, b, by omega, rfl, by go_num, by omega, by omega, HGM.out, HU.out⟩
            case measure => simp [intOf]; omega
        · rw [if_neg h7] at HST
          have HGM : Hid (wgt l = wgF l (n - (i + 1)) (i + 1) b) := by unfold Hid; rw [HGG.out, HST]
          generalize l.getD i dn = ex at *
          have h7b : (ex.op == 7) = false := by simp [h7]
          clear HST h7
          go_wp2_with fail
          go_roundw
          case rel => exact ⟨i + 1, b, by omega, rfl, by go_num, by omega, by omega, HGM.out, HU.out⟩
          case measure => simp [intOf]; omega
      · have hlt2 : ¬ (i : Int) < (n : Int) := by omega
        have HF : Hid (wgt l = b) := by unfold Hid; rw [HGG.out, show n - i = 0 by omega]; rfl
        clear hu
        go_wp2_with fail
        rw [HPo.out, HF.out]
        exact ⟨rfl, HU.out⟩
end TR
end Go.Proofs.Ytgahdppcdeefaaa
