/-
  does: one thing asked of both dice.
-/
import Derived.Test.YthnpdlbcdaodkaaDoorDs
namespace Go.Proofs.YthnpdlbcdaodkaaDoor
open Go.RowKit
open Ieee

def DoPost (dk rk gb B : Nat) (W : World) (e : Ending) (W' : World) : Prop := e = .returned (.bool true) ∧ (∃ z', Die W' dk z' ∧ RDie W' rk z') ∧ (∃ L', BagI W' gb B L') ∧ FrB dk rk gb B W W'
structure Ok4 (dk rk gb B : Nat) : Prop where
  a : dk < B
  b : rk < B
  c : gb < B
  d : dk ≠ rk
  e : dk ≠ gb
  f : rk ≠ gb
theorem do_end {dk rk gb B z' : Nat} {W W1 W2 : World} {L : BG.VL} (o : Ok4 dk rk gb B) (hB : BagI W gb B L) (h1 : Only dk W W1) (h2 : Only rk W1 W2) (d : Die W1 dk z') (r : RDie W2 rk z') : DoPost dk rk gb B W (.returned (.bool true)) W2 := by
  have hs := hB.2.2.2.2.2.2
  have hb1 := hB.only h1 o.a o.e
  exact ⟨rfl, ⟨z', h2.heap d o.d, r⟩, ⟨L, hb1.only h2 o.b o.f⟩, (FrB.only h1 hs (.inl rfl)).trans (FrB.only h2 hb1.2.2.2.2.2.2 (.inr rfl))⟩
theorem only_al (b : Nat) (W : World) (o : Obj) : Only b W (W.alloc o) := Only.up ((Up.refl W).alloc o)
/- Below, whatever the number -/
def blw (z : Nat) (n : Int) : Int := if n < 1 then 0 else ((hiP (mx (stp z)) n.toNat : Nat) : Int)
def blZ (z : Nat) (n : Int) : Nat := if n < 1 then z else stp z
theorem belowU (b z : Nat) (n : Int) (w : World) (h : Die w b z) (hn : n ≤ 9223372036854775807) : Calls Tryd.prog 17 #[dieA b, .int .i64 n] w fun e w' => e = .returned (.int .i64 (blw z n)) ∧ Die w' b (blZ z n) ∧ Only b w w' := by
  by_cases hl : n < 1
  · refine (below0 b n w hl).mono ?_
    rintro e w' ⟨rfl, rfl⟩
    unfold blw blZ
    rw [if_pos hl, if_pos hl]
    exact ⟨rfl, h, Only.refl _ _⟩
  · obtain ⟨m, rfl⟩ := Int.eq_ofNat_of_zero_le (show 0 ≤ n by omega)
    refine (below b z m w h (by omega) (by omega)).mono ?_
    rintro e w' ⟨rfl, rfl⟩
    unfold blw blZ
    rw [if_neg hl, if_neg hl]
    exact ⟨rfl, h.set _, (Only.refl _ _).set 0 _⟩
theorem rbelowU (b z : Nat) (n : Int) (w : World) (h : RDie w b z) (hn : n ≤ 9223372036854775807) : Calls Tryd.prog 20 #[dieA b, .int .i64 n] w fun e w' => e = .returned (.int .i64 (blw z n)) ∧ RDie w' b (blZ z n) ∧ Only b w w' := by
  by_cases hl : n < 1
  · refine (rbelow0 b z n w h hl).mono ?_
    rintro e w' ⟨rfl, rfl⟩
    unfold blw blZ
    rw [if_pos hl, if_pos hl]
    exact ⟨rfl, h, Only.refl _ _⟩
  · obtain ⟨m, rfl⟩ := Int.eq_ofNat_of_zero_le (show 0 ≤ n by omega)
    refine (rbelow b z m w h (by omega) (by omega)).mono ?_
    rintro e w' ⟨rfl, rfl⟩
    unfold blw blZ
    rw [if_neg hl, if_neg hl]
    exact ⟨rfl, h.set _, (Only.refl _ _).set 0 _⟩
theorem nextU (b z : Nat) (w : World) (h : Die w b z) : Calls Tryd.prog 10 #[dieA b] w fun e w' => e = .returned (.int .u64 (mx (stp z) : Nat)) ∧ Die w' b (stp z) ∧ Only b w w' :=
  (next b z w h).mono fun e w' ⟨h1, h2⟩ => by subst h2; exact ⟨h1, h.set _, (Only.refl _ _).set 0 _⟩
theorem rnextU (b z : Nat) (w : World) (h : RDie w b z) : Calls Tryd.prog 11 #[dieA b] w fun e w' => e = .returned (.int .u64 (mx (stp z) : Nat)) ∧ RDie w' b (stp z) ∧ Only b w w' :=
  (rnext b z w h).mono fun e w' ⟨h1, h2⟩ => by subst h2; exact ⟨h1, h.set _, (Only.refl _ _).set 0 _⟩
theorem shareU (b z : Nat) (w : World) (h : Die w b z) : Calls Tryd.prog 21 #[dieA b] w fun e w' => e = .returned (.float .f64 (shr z)) ∧ Die w' b (stp z) ∧ Only b w w' :=
  (shareD b z w h).mono fun e w' ⟨h1, h2⟩ => by subst h2; exact ⟨h1, h.set _, (Only.refl _ _).set 0 _⟩
theorem rshareU (b z : Nat) (w : World) (h : RDie w b z) : Calls Tryd.prog 22 #[dieA b] w fun e w' => e = .returned (.float .f64 (shr z)) ∧ RDie w' b (stp z) ∧ Only b w w' :=
  (rshare b z w h).mono fun e w' ⟨h1, h2⟩ => by subst h2; exact ⟨h1, h.set _, (Only.refl _ _).set 0 _⟩
theorem shr_same (z : Nat) : double.order (shr z) (shr z) = some .eq := by
  unfold shr
  have := mx_lt (stp z)
  exact share_same _ (by omega)
def oL (z : Nat) (n : Int) : List Int := if n < 0 then [] else intsOf (ordL n.toNat z)
def oZ (z : Nat) (n : Int) : Nat := if n < 0 then z else ordZ n.toNat z
theorem oL_len (z : Nat) (n : Int) (h : n ≤ 300) : (oL z n).length ≤ 65536 := by
  unfold oL
  split
  · simp
  · rw [intsOf_len, ordL_len]; omega
theorem orderU (b z : Nat) (n : Int) (w : World) (h : Die w b z) (hn : n ≤ 300) : Calls Tryd.prog 19 #[dieA b, .int .i64 n] w fun e w' => ∃ v, e = .returned v ∧ OwnI w' w.heap.size 3 v (oL z n) ∧ Die w' b (oZ z n) ∧ Only b w w' := by
  by_cases hl : n < 0
  · refine (orderLow b z n w h hl).mono ?_
    rintro e w' ⟨rfl, hu⟩
    unfold oL oZ
    rw [if_pos hl, if_pos hl]
    exact ⟨_, rfl, OwnI.nil _ _ _, h.up hu, Only.up hu⟩
  · obtain ⟨m, rfl⟩ := Int.eq_ofNat_of_zero_le (show 0 ≤ n by omega)
    refine (order b m z w h (by omega)).mono ?_
    rintro e w' ⟨g, hg, rfl, h1, h2, h3⟩
    unfold oL oZ
    rw [if_neg hl, if_neg hl]
    have := OwnI.row h1 hg (by rw [ordL_len]; omega)
    rw [ordL_len] at this
    exact ⟨_, rfl, this, h2, h3⟩
theorem rorderU (b z : Nat) (n : Int) (w : World) (h : RDie w b z) (hn : n ≤ 300) : Calls Tryd.prog 24 #[dieA b, .int .i64 n] w fun e w' => ∃ v, e = .returned v ∧ OwnI w' w.heap.size 3 v (oL z n) ∧ RDie w' b (oZ z n) ∧ Only b w w' := by
  by_cases hl : n < 0
  · refine (rorderLow b z n w h hl).mono ?_
    rintro e w' ⟨rfl, rfl⟩
    unfold oL oZ
    rw [if_pos hl, if_pos hl]
    exact ⟨_, rfl, OwnI.nil _ _ _, h, Only.refl _ _⟩
  · obtain ⟨m, rfl⟩ := Int.eq_ofNat_of_zero_le (show 0 ≤ n by omega)
    refine (rorder b m z w h (by omega)).mono ?_
    rintro e w' ⟨v, rfl, h1, h2, h3⟩
    unfold oL oZ
    rw [if_neg hl, if_neg hl]
    exact ⟨v, rfl, h1, h2, h3⟩
theorem op_cells (W : World) (x y u : Value) (n : Nat) (h : n = W.heap.size) : (W.alloc (.cells #[x, y, u] 56)).cell? ⟨n, 0, none⟩ = some x ∧ (W.alloc (.cells #[x, y, u] 56)).cell? ⟨n, 2, none⟩ = some u := by
  subst h
  have e := heap_alloc_last W (.cells #[x, y, u] 56)
  exact ⟨by unfold World.cell?; rw [e]; rfl, by unfold World.cell?; rw [e]; rfl⟩
set_option maxRecDepth 100000 in
set_option maxHeartbeats 4000000 in
theorem does_ (dk rk gb B z : Nat) (kd on nn : Int) (L : BG.VL) (W : World) (o : Ok4 dk rk gb B) (hd : Die W dk z) (hr : RDie W rk z) (hB : BagI W gb B L) (hn : -9223372036854775808 ≤ nn ∧ nn ≤ 9223372036854775807) :
    Calls Tryd.prog 8 #[dieA dk, dieA rk, .agg #[.int .i64 kd, .int .i64 on, .int .i64 nn], .pointer (some ⟨gb, 0, none⟩)] W (DoPost dk rk gb B W) := by
  obtain ⟨Post, hPost⟩ : ∃ P : Ending → World → Prop, P = DoPost dk rk gb B W := ⟨_, rfl⟩
  rw [← hPost]
  have HPost : Hid (Post = DoPost dk rk gb B W) := hPost
  clear hPost
  have u0 : Up W (W.alloc (.cells #[.int .i64 kd, .int .i64 on, .int .i64 nn] 56)) := (Up.refl W).alloc _
  obtain ⟨c0, c2⟩ := op_cells W (.int .i64 kd) (.int .i64 on) (.int .i64 nn) _ rfl
  have hlt : dk < W.heap.size ∧ rk < W.heap.size := ⟨(Array.getElem?_eq_some_iff.1 hd).1, (Array.getElem?_eq_some_iff.1 hr).1⟩
  have HO : Hid (Only dk W (W.alloc (.cells #[.int .i64 kd, .int .i64 on, .int .i64 nn] 56)) ∧ Up W (W.alloc (.cells #[.int .i64 kd, .int .i64 on, .int .i64 nn] 56)) ∧ Die (W.alloc (.cells #[.int .i64 kd, .int .i64 on, .int .i64 nn] 56)) dk z ∧ RDie (W.alloc (.cells #[.int .i64 kd, .int .i64 on, .int .i64 nn] 56)) rk z) := ⟨only_al _ _ _, u0, hd.up u0, u0.heap hr⟩
  have HB : Hid (BagI W gb B L) := hB
  have HK : Hid (Ok4 dk rk gb B) := o
  have HLT : Hid (dk < W.heap.size ∧ rk < W.heap.size) := hlt
  clear hd hr hB u0 o hlt
  unfold dieA
  obtain ⟨WA, hWA⟩ : ∃ A, A = W.alloc (.cells #[.int .i64 kd, .int .i64 on, .int .i64 nn] 56) := ⟨_, rfl⟩
  have HWA : Hid (W.alloc (.cells #[.int .i64 kd, .int .i64 on, .int .i64 nn] 56) = WA) := hWA.symm
  rw [← hWA] at HO c0 c2
  have HC2 : Hid (∀ W1, Only dk WA W1 → W1.cell? ⟨W.heap.size, 2, none⟩ = some (.int .i64 nn)) := fun W1 o1 => by
    have hs : W.heap.size < WA.heap.size := by rw [hWA]; simp
    rw [World.cell?_of_block (w := WA) (w' := W1) (a := ⟨W.heap.size, 2, none⟩) (o1.2.2 _ hs (by show W.heap.size ≠ dk; have := HLT.out.1; omega))]; exact c2
  have HND : Hid (∀ W1, Only dk WA W1 → RDie W1 rk z) := fun W1 o1 => o1.heap HO.out.2.2.2 (Ne.symm HK.out.d)
  clear hWA
  by_cases k0 : kd = 0
  · subst k0
    go_enter Tryd.func8, Tryd.ntmps8
    go_wp2_with fail
    simp only [HWA.out]
    refine (nextU dk z _ HO.out.2.2.1).mono ?_
    rintro e w1 ⟨rfl, d1, o1⟩
    have HX : Hid (Die w1 dk (stp z) ∧ Only dk W w1 ∧ RDie w1 rk z) := ⟨d1, HO.out.1.trans o1, HND.out _ o1⟩
    clear d1 o1
    go_wp2_with fail
    refine (rnextU rk z _ HX.out.2.2).mono ?_
    rintro e w2 ⟨rfl, d2, o2⟩
    have HF : Hid (Post (.returned (.bool true)) w2) := by
      unfold Hid; rw [HPost.out]
      exact do_end HK.out HB.out HX.out.2.1 o2 HX.out.1 d2
    clear d2 o2
    generalize mx (stp z) = q
    go_wp2
    first | exact HF.out | (go_ret; exact HF.out)
  by_cases k1 : kd = 1
  · subst k1
    go_enter Tryd.func8, Tryd.ntmps8
    go_wp2_with fail
    simp only [HWA.out]
    go_wp2_with fail
    refine (belowU dk z nn _ HO.out.2.2.1 hn.2).mono ?_
    rintro e w1 ⟨rfl, d1, o1⟩
    have c2 := HC2.out _ o1
    have HX : Hid (Die w1 dk (blZ z nn) ∧ Only dk W w1 ∧ RDie w1 rk z) := ⟨d1, HO.out.1.trans o1, HND.out _ o1⟩
    clear d1 o1
    go_wp2_with fail
    refine (rbelowU rk z nn _ HX.out.2.2 hn.2).mono ?_
    rintro e w2 ⟨rfl, d2, o2⟩
    have HF : Hid (Post (.returned (.bool true)) w2) := by
      unfold Hid; rw [HPost.out]
      exact do_end HK.out HB.out HX.out.2.1 o2 HX.out.1 d2
    clear d2 o2
    generalize blw z nn = q
    go_wp2
    first | exact HF.out | (go_ret; exact HF.out)
  by_cases k2 : kd = 2
  · subst k2
    have hss : FloatKind.f64.format.order (shr z) (shr z) = some .eq := shr_same z
    go_enter Tryd.func8, Tryd.ntmps8
    go_wp2_with fail
    simp only [HWA.out]
    go_wp2_with fail
    refine (shareU dk z _ HO.out.2.2.1).mono ?_
    rintro e w1 ⟨rfl, d1, o1⟩
    have HX : Hid (Die w1 dk (stp z) ∧ Only dk W w1 ∧ RDie w1 rk z) := ⟨d1, HO.out.1.trans o1, HND.out _ o1⟩
    clear d1 o1
    go_wp2_with fail
    refine (rshareU rk z _ HX.out.2.2).mono ?_
    rintro e w2 ⟨rfl, d2, o2⟩
    have HF : Hid (Post (.returned (.bool true)) w2) := by
      unfold Hid; rw [HPost.out]
      exact do_end HK.out HB.out HX.out.2.1 o2 HX.out.1 d2
    clear d2 o2
    generalize shr z = q at *
    go_wp2
    have hb : (FloatKind.f64.format.order q q == some Ordering.eq) = true := by rw [hss]; rfl
    first | exact HF.out | (simp only [hb]; exact HF.out) | (go_ret; simp only [hb]; exact HF.out)
  by_cases k3 : kd = 3
  · subst k3
    go_enter Tryd.func8, Tryd.ntmps8
    go_wp2_with fail
    simp only [HWA.out]
    go_wp2_with fail
    refine (within_ nn 302 _ hn (by decide)).mono ?_
    rintro e w0 ⟨m, hm, rfl, rfl⟩
    go_wp2_with fail
    have hm3 : (m : Int) - 2 ≤ 300 := by omega
    refine (orderU dk z ((m : Int) - 2) _ HO.out.2.2.1 hm3).mono ?_
    rintro e w1 ⟨v, rfl, v1, d1, o1⟩
    have hbw := (HB.out.up HO.out.2.1).only o1 HK.out.a HK.out.e
    have HX : Hid (Die w1 dk (oZ z ((m : Int) - 2)) ∧ Only dk W w1 ∧ RDie w1 rk z ∧ OwnI w1 w0.heap.size 3 v (oL z ((m : Int) - 2)) ∧ BagI w1 gb B L) := ⟨d1, HO.out.1.trans o1, HND.out _ o1, v1, hbw⟩
    have HL : Hid (∀ p g, p < L.length → (L.getD p BG.dv).1.ownBlock = some g → g < w0.heap.size) := fun p g hp hg => (HB.out.up HO.out.2.1).lt hp hg
    obtain ⟨va, vc, rfl⟩ := row_val v1
    clear v1 d1 o1 hbw
    go_wp2_with fail
    refine (add_ gb B w0.heap.size _ vc va _ L w1 HX.out.2.2.2.2 HX.out.2.2.2.1 rfl (oL_len z _ hm3) (HB.out.up HO.out.2.1).2.2.2.2.2.2 HL.out).mono ?_
    rintro e w2 ⟨rfl, ⟨L2, b2⟩, v2, f1, f2, f3⟩
    have hw1 : B ≤ w1.heap.size := HX.out.2.2.2.2.2.2.2.2.2.2
    have HY : Hid (Die w2 dk (oZ z ((m : Int) - 2)) ∧ RDie w2 rk z ∧ OwnI w2 w0.heap.size 3 (.slice va (oL z ((m : Int) - 2)).length vc) (oL z ((m : Int) - 2)) ∧ BagI w2 gb B L2 ∧ FrB dk rk gb B W w2) :=
      ⟨(f3 dk HK.out.a HK.out.e).trans HX.out.1, (f3 rk HK.out.b HK.out.f).trans HX.out.2.2.1, v2, b2, (FrB.only HX.out.2.1 HB.out.2.2.2.2.2.2 (.inl rfl)).trans ⟨f1, f2, fun g g1 _ _ g4 => f3 g g1 g4⟩⟩
    clear b2 v2 f1 f2 f3 HX hw1
    go_wp2_with fail
    refine (rorderU rk z ((m : Int) - 2) _ HY.out.2.1 hm3).mono ?_
    rintro e w3 ⟨u, rfl, u3, d3, o3⟩
    have hw2 : B ≤ w2.heap.size := HY.out.2.2.2.1.2.2.2.2.2.2
    have hw0 : B ≤ w0.heap.size := (HB.out.up HO.out.2.1).2.2.2.2.2.2
    have HZ : Hid (OwnI w3 w0.heap.size 3 (.slice va (oL z ((m : Int) - 2)).length vc) (oL z ((m : Int) - 2)) ∧ OwnI w3 w2.heap.size 3 u (oL z ((m : Int) - 2)) ∧ Die w3 dk (oZ z ((m : Int) - 2)) ∧ RDie w3 rk (oZ z ((m : Int) - 2)) ∧ BagI w3 gb B L2 ∧ FrB dk rk gb B W w3) :=
      ⟨HY.out.2.2.1.only o3 (by have := HK.out.b; omega), u3, o3.heap HY.out.1 HK.out.d, d3, HY.out.2.2.2.1.only o3 HK.out.b HK.out.f, HY.out.2.2.2.2.trans (FrB.only o3 hw2 (.inr rfl))⟩
    clear u3 d3 o3 HY hw2 hw0
    obtain ⟨ua, uc, rfl⟩ := row_val HZ.out.2.1
    go_wp2_with fail
    refine (eqSame _ _ _ _ HZ.out.1.lies HZ.out.2.1.lies (oL_len z _ hm3)).mono ?_
    rintro e w4 ⟨rfl, u4⟩
    have HF : Hid (Post (.returned (.bool true)) w4) := by
      unfold Hid; rw [HPost.out]
      obtain ⟨-, -, q1, q2, q3, q4⟩ := HZ.out
      exact ⟨rfl, ⟨_, q1.up u4, u4.heap q2⟩, ⟨_, q3.up u4⟩, q4.trans (FrB.up u4 q3.2.2.2.2.2.2)⟩
    clear u4 HZ
    go_wp2
    first | exact HF.out | (go_ret; exact HF.out)
  by_cases k4 : kd = 4
  · subst k4
    go_enter Tryd.func8, Tryd.ntmps8
    go_wp2_with fail
    simp only [HWA.out]
    go_wp2_with fail
    refine (within_ nn 20 _ hn (by decide)).mono ?_
    rintro e w0 ⟨m, hm, rfl, rfl⟩
    go_wp2_with fail
    refine (taken_ dk m z _ HO.out.2.2.1 (by omega)).mono ?_
    rintro e w1 ⟨v, rfl, v1, d1, o1⟩
    have HX : Hid (Die w1 dk (stpN m z) ∧ Only dk W w1 ∧ RDie w1 rk z ∧ OwnW w1 w0.heap.size v (drw m z)) := ⟨d1, HO.out.1.trans o1, HND.out _ o1, v1⟩
    obtain ⟨va, vc, rfl⟩ := row_val v1
    clear v1 d1 o1
    go_wp2_with fail
    refine (nexts_ rk m z _ HX.out.2.2.1 (by omega)).mono ?_
    rintro e w2 ⟨u, rfl, u2, d2, o2⟩
    have hws : rk < w0.heap.size := Nat.lt_of_lt_of_le HLT.out.2 HO.out.2.1.size
    have v2 : OwnW w2 w0.heap.size (.slice va (drw m z).length vc) (drw m z) := BG.own_block HX.out.2.2.2 fun g hg => o2.2.2 g (World.ownsRow.lt HX.out.2.2.2 g hg).2 (by have := (World.ownsRow.lt HX.out.2.2.2 g hg).1; omega)
    have HF1 : Hid (DoPost dk rk gb B W (.returned (.bool true)) w2) := do_end HK.out HB.out HX.out.2.1 o2 HX.out.1 d2
    have HV : Hid (OwnW w2 w0.heap.size (.slice va (drw m z).length vc) (drw m z) ∧ OwnW w2 w1.heap.size u (drw m z)) := ⟨v2, u2⟩
    obtain ⟨ua, uc, rfl⟩ := row_val u2
    clear u2 d2 o2 v2 hws
    go_wp2_with fail
    refine (sameDraws_ _ _ (drw m z) _ HV.out.1.lies HV.out.2.lies (by rw [drw_len]; omega)).mono ?_
    rintro e w3 ⟨rfl, u3⟩
    have HF : Hid (Post (.returned (.bool true)) w3) := by
      unfold Hid; rw [HPost.out]
      obtain ⟨-, ⟨z', q1, q2⟩, ⟨L2, q3⟩, q4⟩ := HF1.out
      exact ⟨rfl, ⟨_, q1.up u3, u3.heap q2⟩, ⟨_, q3.up u3⟩, q4.trans (FrB.up u3 q3.2.2.2.2.2.2)⟩
    clear u3 HF1 HV
    go_wp2
    first | exact HF.out | (go_ret; exact HF.out)
  · have HF : Hid (Post (.returned (.bool true)) WA) := by
      unfold Hid; rw [HPost.out]
      exact ⟨rfl, ⟨z, HO.out.2.2.1, HO.out.2.2.2⟩, ⟨_, HB.out.up HO.out.2.1⟩, FrB.up HO.out.2.1 HB.out.2.2.2.2.2.2⟩
    go_enter Tryd.func8, Tryd.ntmps8
    go_wp2_with fail
    try simp only [HWA.out]
    try go_wp2
    first | exact HF.out | (go_ret; exact HF.out)
end Go.Proofs.YthnpdlbcdaodkaaDoor
