/-
  The program's parser: marks between two; what a part answers.
-/
import Derived.Test.YtkldllnnocdhbaaGreatDoorBf10
import Derived.Test.YtkldllnnocdhbaaGreatDoorRq10
namespace Go.Proofs.YtkldllnnocdhbaaGreatDoor
open Go.RowKit
attribute [local go_sem ↓] Go.wp_at_zero Go.wp_at_succ
namespace TP
open TR (Nd Byt nums_inj)
open TK (Tok)
open TR (nums_list nums_nil)
def bwn (t : Tok) : Int := if t.kind = 4 then binop t.text else 0
theorem binop_lt (x : List Int) : binop x = 0 ∨ (36 ≤ binop x ∧ binop x ≤ 48) := by
  unfold binop
  repeat' split
  all_goals omega
/- the mark stands between two of the row -/
theorem bwn_row (t : Tok) (r lo hi : Int) (h : (r = 1 ∧ lo = 36 ∧ hi = 36) ∨ (r = 2 ∧ lo = 37 ∧ hi = 37) ∨ (r = 4 ∧ lo = 38 ∧ hi = 43) ∨ (r = 5 ∧ lo = 44 ∧ hi = 45) ∨ (r = 6 ∧ lo = 46 ∧ hi = 48)) :
    (lo ≤ bwn t ∧ bwn t ≤ hi ∧ bop t r = bwn t ∧ bop t r ≠ 0 ∧ t.kind = 4) ∨ (¬ (lo ≤ bwn t ∧ bwn t ≤ hi) ∧ bop t r = 0) := by
  unfold bwn bop
  by_cases hk : t.kind = 4
  · rw [if_pos hk]
    have hb := binop_lt t.text
    generalize binop t.text = x at *
    have hr : rnk x = if x = 36 then 1 else if x = 37 then 2 else if 38 ≤ x ∧ x ≤ 43 then 4 else if x = 44 ∨ x = 45 then 5 else 6 := rfl
    by_cases hin : lo ≤ x ∧ x ≤ hi
    · have hx : x ≠ 0 := by omega
      have hrk : rnk x = r := by
        rw [hr]
        repeat' split
        all_goals omega
      rw [if_pos ⟨hk, hx, hrk⟩]
      exact .inl ⟨hin.1, hin.2, rfl, hx, hk⟩
    · refine .inr ⟨hin, ?_⟩
      rw [if_neg]
      rintro ⟨-, hx, hrk⟩
      rw [hr] at hrk
      apply hin
      split at hrk
      · omega
      split at hrk
      · omega
      split at hrk
      · omega
      split at hrk
      · omega
      · omega
  · rw [if_neg hk, if_neg (fun h9 => hk h9.1)]
    exact .inr ⟨by omega, rfl⟩
set_option maxRecDepth 100000 in
set_option maxHeartbeats 16000000 in
theorem between_ (w0 W : World) (b bt off n c ml ms i d : Nat) (l : List Tok) (hE : Ev w0 b bt off n c l) (ho : Only b w0 W) (hi : i < n) (hP : QS W b bt off n c ml ms i d) : Calls Tryz.prog 152 #[.pointer (some ⟨b, 0, none⟩)] W (fun r w' => r = .returned (.int .i8 (bwn (tk l i))) ∧ Up W w') := by
  obtain ⟨Post, hPost⟩ : ∃ P : Ending → World → Prop, P = fun r w' => r = .returned (.int .i8 (bwn (tk l i))) ∧ Up W w' := ⟨_, rfl⟩
  rw [← hPost]
  have HPo : Hid (Post = fun r w' => r = .returned (.int .i8 (bwn (tk l i))) ∧ Up W w') := hPost
  clear hPost
  have HNW : Hid (∀ W2, Up W W2 → Calls Tryz.prog 114 #[.pointer (some ⟨b, 0, none⟩)] W2 fun r w' => r = .returned (.agg #[.int .i8 (tk l i).kind, .string (strOfNums (tk l i).text), .int .i64 (tk l i).num, .int .i64 (tk l i).pos]) ∧ Up W2 w') := fun W2 hu => next_ w0 W2 b bt off n c ml ms i d l hE (ho.trans (Only.up hu)) hi (hP.up hu)
  have f0 := fld0
  have f1 := fld1
  have hby := hE.byt i hi
  clear hE ho hP
  generalize tk l i = t at *
  obtain ⟨kd, tx, tn, tp⟩ := t
  simp only [bwn] at HNW HPo hby
  obtain ⟨st, hst⟩ : ∃ st, st = strOfNums tx := ⟨_, rfl⟩
  have HQ : Hid (∀ m : List Int, Byt m → (st.toList = (strOfNums m).toList ↔ tx = m)) := fun m hm => by
    rw [hst]
    exact ⟨fun h => nums_inj hby hm h, fun h => by rw [h]⟩
  rw [← hst] at HNW
  clear hst hby
  by_cases hk : kd = 4
  · subst hk
    rw [if_pos rfl] at HPo
    have k0 : st.toList = [124, 124] ↔ tx = [124, 124] := by
      have h9 := HQ.out [124, 124] (by unfold TR.Byt; decide)
      rw [nums_list] at h9
      exact h9
    by_cases h0 : tx = [124, 124]
    · have q0 : st.toList = [124, 124] := k0.2 h0
      have HB : Hid (binop tx = 36) := by unfold Hid; rw [h0]; decide
      rw [HB.out] at HPo
      clear h0 k0 HQ
      go_enter Tryz.func152, Tryz.ntmps152
      go_wp2_with fail
      refine Calls.mono (HNW.out W (Up.refl _)) ?_
      rintro r w1 ⟨rfl, u1⟩
      have HU1 : Hid (Up W w1) := u1
      clear u1
      have HC := HNW.out w1 HU1.out
      clear HNW
      go_wp2_with fail
      refine Calls.mono HC ?_
      rintro r w2 ⟨rfl, u2⟩
      have HU2 : Hid (Up W w2) := HU1.out.trans u2
      clear u2 HC
      go_wp2_with fail
      rw [HPo.out]
      exact ⟨rfl, HU2.out⟩
    have n0 : ¬ st.toList = [124, 124] := fun e => h0 (k0.1 e)
    have e0 : (st.toList == [124, 124]) = false := by simpa using n0
    clear k0
    have k1 : st.toList = [38, 38] ↔ tx = [38, 38] := by
      have h9 := HQ.out [38, 38] (by unfold TR.Byt; decide)
      rw [nums_list] at h9
      exact h9
    by_cases h1 : tx = [38, 38]
    · have q1 : st.toList = [38, 38] := k1.2 h1
      have HB : Hid (binop tx = 37) := by unfold Hid; rw [h1]; decide
      rw [HB.out] at HPo
      clear h1 k1 HQ
      go_enter Tryz.func152, Tryz.ntmps152
      go_wp2_with fail
      refine Calls.mono (HNW.out W (Up.refl _)) ?_
      rintro r w1 ⟨rfl, u1⟩
      have HU1 : Hid (Up W w1) := u1
      clear u1
      have HC := HNW.out w1 HU1.out
      clear HNW
      go_wp2_with fail
      refine Calls.mono HC ?_
      rintro r w2 ⟨rfl, u2⟩
      have HU2 : Hid (Up W w2) := HU1.out.trans u2
      clear u2 HC
      go_wp2_with fail
      rw [HPo.out]
      exact ⟨rfl, HU2.out⟩
    have n1 : ¬ st.toList = [38, 38] := fun e => h1 (k1.1 e)
    have e1 : (st.toList == [38, 38]) = false := by simpa using n1
    clear k1
    have k2 : st.toList = [61, 61] ↔ tx = [61, 61] := by
      have h9 := HQ.out [61, 61] (by unfold TR.Byt; decide)
      rw [nums_list] at h9
      exact h9
    by_cases h2 : tx = [61, 61]
    · have q2 : st.toList = [61, 61] := k2.2 h2
      have HB : Hid (binop tx = 38) := by unfold Hid; rw [h2]; decide
      rw [HB.out] at HPo
      clear h2 k2 HQ
      go_enter Tryz.func152, Tryz.ntmps152
      go_wp2_with fail
      refine Calls.mono (HNW.out W (Up.refl _)) ?_
      rintro r w1 ⟨rfl, u1⟩
      have HU1 : Hid (Up W w1) := u1
      clear u1
      have HC := HNW.out w1 HU1.out
      clear HNW
      go_wp2_with fail
      refine Calls.mono HC ?_
      rintro r w2 ⟨rfl, u2⟩
      have HU2 : Hid (Up W w2) := HU1.out.trans u2
      clear u2 HC
      go_wp2_with fail
      rw [HPo.out]
      exact ⟨rfl, HU2.out⟩
    have n2 : ¬ st.toList = [61, 61] := fun e => h2 (k2.1 e)
    have e2 : (st.toList == [61, 61]) = false := by simpa using n2
    clear k2
    have k3 : st.toList = [33, 61] ↔ tx = [33, 61] := by
      have h9 := HQ.out [33, 61] (by unfold TR.Byt; decide)
      rw [nums_list] at h9
      exact h9
    by_cases h3 : tx = [33, 61]
    · have q3 : st.toList = [33, 61] := k3.2 h3
      have HB : Hid (binop tx = 39) := by unfold Hid; rw [h3]; decide
      rw [HB.out] at HPo
      clear h3 k3 HQ
      go_enter Tryz.func152, Tryz.ntmps152
      go_wp2_with fail
      refine Calls.mono (HNW.out W (Up.refl _)) ?_
      rintro r w1 ⟨rfl, u1⟩
      have HU1 : Hid (Up W w1) := u1
      clear u1
      have HC := HNW.out w1 HU1.out
      clear HNW
      go_wp2_with fail
      refine Calls.mono HC ?_
      rintro r w2 ⟨rfl, u2⟩
      have HU2 : Hid (Up W w2) := HU1.out.trans u2
      clear u2 HC
      go_wp2_with fail
      rw [HPo.out]
      exact ⟨rfl, HU2.out⟩
    have n3 : ¬ st.toList = [33, 61] := fun e => h3 (k3.1 e)
    have e3 : (st.toList == [33, 61]) = false := by simpa using n3
    clear k3
    have k4 : st.toList = [60] ↔ tx = [60] := by
      have h9 := HQ.out [60] (by unfold TR.Byt; decide)
      rw [nums_list] at h9
      exact h9
    by_cases h4 : tx = [60]
    · have q4 : st.toList = [60] := k4.2 h4
      have HB : Hid (binop tx = 40) := by unfold Hid; rw [h4]; decide
      rw [HB.out] at HPo
      clear h4 k4 HQ
      go_enter Tryz.func152, Tryz.ntmps152
      go_wp2_with fail
      refine Calls.mono (HNW.out W (Up.refl _)) ?_
      rintro r w1 ⟨rfl, u1⟩
      have HU1 : Hid (Up W w1) := u1
      clear u1
      have HC := HNW.out w1 HU1.out
      clear HNW
      go_wp2_with fail
      refine Calls.mono HC ?_
      rintro r w2 ⟨rfl, u2⟩
      have HU2 : Hid (Up W w2) := HU1.out.trans u2
      clear u2 HC
      go_wp2_with fail
      rw [HPo.out]
      exact ⟨rfl, HU2.out⟩
    have n4 : ¬ st.toList = [60] := fun e => h4 (k4.1 e)
    have e4 : (st.toList == [60]) = false := by simpa using n4
    clear k4
    have k5 : st.toList = [60, 61] ↔ tx = [60, 61] := by
      have h9 := HQ.out [60, 61] (by unfold TR.Byt; decide)
      rw [nums_list] at h9
      exact h9
    by_cases h5 : tx = [60, 61]
    · have q5 : st.toList = [60, 61] := k5.2 h5
      have HB : Hid (binop tx = 41) := by unfold Hid; rw [h5]; decide
      rw [HB.out] at HPo
      clear h5 k5 HQ
      go_enter Tryz.func152, Tryz.ntmps152
      go_wp2_with fail
      refine Calls.mono (HNW.out W (Up.refl _)) ?_
      rintro r w1 ⟨rfl, u1⟩
      have HU1 : Hid (Up W w1) := u1
      clear u1
      have HC := HNW.out w1 HU1.out
      clear HNW
      go_wp2_with fail
      refine Calls.mono HC ?_
      rintro r w2 ⟨rfl, u2⟩
      have HU2 : Hid (Up W w2) := HU1.out.trans u2
      clear u2 HC
      go_wp2_with fail
      rw [HPo.out]
      exact ⟨rfl, HU2.out⟩
    have n5 : ¬ st.toList = [60, 61] := fun e => h5 (k5.1 e)
    have e5 : (st.toList == [60, 61]) = false := by simpa using n5
    clear k5
    have k6 : st.toList = [62] ↔ tx = [62] := by
      have h9 := HQ.out [62] (by unfold TR.Byt; decide)
      rw [nums_list] at h9
      exact h9
    by_cases h6 : tx = [62]
    · have q6 : st.toList = [62] := k6.2 h6
      have HB : Hid (binop tx = 42) := by unfold Hid; rw [h6]; decide
      rw [HB.out] at HPo
      clear h6 k6 HQ
      go_enter Tryz.func152, Tryz.ntmps152
      go_wp2_with fail
      refine Calls.mono (HNW.out W (Up.refl _)) ?_
      rintro r w1 ⟨rfl, u1⟩
      have HU1 : Hid (Up W w1) := u1
      clear u1
      have HC := HNW.out w1 HU1.out
      clear HNW
      go_wp2_with fail
      refine Calls.mono HC ?_
      rintro r w2 ⟨rfl, u2⟩
      have HU2 : Hid (Up W w2) := HU1.out.trans u2
      clear u2 HC
      go_wp2_with fail
      rw [HPo.out]
      exact ⟨rfl, HU2.out⟩
    have n6 : ¬ st.toList = [62] := fun e => h6 (k6.1 e)
    have e6 : (st.toList == [62]) = false := by simpa using n6
    clear k6
    have k7 : st.toList = [62, 61] ↔ tx = [62, 61] := by
      have h9 := HQ.out [62, 61] (by unfold TR.Byt; decide)
      rw [nums_list] at h9
      exact h9
    by_cases h7 : tx = [62, 61]
    · have q7 : st.toList = [62, 61] := k7.2 h7
      have HB : Hid (binop tx = 43) := by unfold Hid; rw [h7]; decide
      rw [HB.out] at HPo
      clear h7 k7 HQ
      go_enter Tryz.func152, Tryz.ntmps152
      go_wp2_with fail
      refine Calls.mono (HNW.out W (Up.refl _)) ?_
      rintro r w1 ⟨rfl, u1⟩
      have HU1 : Hid (Up W w1) := u1
      clear u1
      have HC := HNW.out w1 HU1.out
      clear HNW
      go_wp2_with fail
      refine Calls.mono HC ?_
      rintro r w2 ⟨rfl, u2⟩
      have HU2 : Hid (Up W w2) := HU1.out.trans u2
      clear u2 HC
      go_wp2_with fail
      rw [HPo.out]
      exact ⟨rfl, HU2.out⟩
    have n7 : ¬ st.toList = [62, 61] := fun e => h7 (k7.1 e)
    have e7 : (st.toList == [62, 61]) = false := by simpa using n7
    clear k7
    have k8 : st.toList = [43] ↔ tx = [43] := by
      have h9 := HQ.out [43] (by unfold TR.Byt; decide)
      rw [nums_list] at h9
      exact h9
    by_cases h8 : tx = [43]
    · have q8 : st.toList = [43] := k8.2 h8
      have HB : Hid (binop tx = 44) := by unfold Hid; rw [h8]; decide
      rw [HB.out] at HPo
      clear h8 k8 HQ
      go_enter Tryz.func152, Tryz.ntmps152
      go_wp2_with fail
      refine Calls.mono (HNW.out W (Up.refl _)) ?_
      rintro r w1 ⟨rfl, u1⟩
      have HU1 : Hid (Up W w1) := u1
      clear u1
      have HC := HNW.out w1 HU1.out
      clear HNW
      go_wp2_with fail
      refine Calls.mono HC ?_
      rintro r w2 ⟨rfl, u2⟩
      have HU2 : Hid (Up W w2) := HU1.out.trans u2
      clear u2 HC
      go_wp2_with fail
      rw [HPo.out]
      exact ⟨rfl, HU2.out⟩
    have n8 : ¬ st.toList = [43] := fun e => h8 (k8.1 e)
    have e8 : (st.toList == [43]) = false := by simpa using n8
    clear k8
    have k9 : st.toList = [45] ↔ tx = [45] := by
      have h9 := HQ.out [45] (by unfold TR.Byt; decide)
      rw [nums_list] at h9
      exact h9
    by_cases h9 : tx = [45]
    · have q9 : st.toList = [45] := k9.2 h9
      have HB : Hid (binop tx = 45) := by unfold Hid; rw [h9]; decide
      rw [HB.out] at HPo
      clear h9 k9 HQ
      go_enter Tryz.func152, Tryz.ntmps152
      go_wp2_with fail
      refine Calls.mono (HNW.out W (Up.refl _)) ?_
      rintro r w1 ⟨rfl, u1⟩
      have HU1 : Hid (Up W w1) := u1
      clear u1
      have HC := HNW.out w1 HU1.out
      clear HNW
      go_wp2_with fail
      refine Calls.mono HC ?_
      rintro r w2 ⟨rfl, u2⟩
      have HU2 : Hid (Up W w2) := HU1.out.trans u2
      clear u2 HC
      go_wp2_with fail
      rw [HPo.out]
      exact ⟨rfl, HU2.out⟩
    have n9 : ¬ st.toList = [45] := fun e => h9 (k9.1 e)
    have e9 : (st.toList == [45]) = false := by simpa using n9
    clear k9
    have k10 : st.toList = [42] ↔ tx = [42] := by
      have h9 := HQ.out [42] (by unfold TR.Byt; decide)
      rw [nums_list] at h9
      exact h9
    by_cases h10 : tx = [42]
    · have q10 : st.toList = [42] := k10.2 h10
      have HB : Hid (binop tx = 46) := by unfold Hid; rw [h10]; decide
      rw [HB.out] at HPo
      clear h10 k10 HQ
      go_enter Tryz.func152, Tryz.ntmps152
      go_wp2_with fail
      refine Calls.mono (HNW.out W (Up.refl _)) ?_
      rintro r w1 ⟨rfl, u1⟩
      have HU1 : Hid (Up W w1) := u1
      clear u1
      have HC := HNW.out w1 HU1.out
      clear HNW
      go_wp2_with fail
      refine Calls.mono HC ?_
      rintro r w2 ⟨rfl, u2⟩
      have HU2 : Hid (Up W w2) := HU1.out.trans u2
      clear u2 HC
      go_wp2_with fail
      rw [HPo.out]
      exact ⟨rfl, HU2.out⟩
    have n10 : ¬ st.toList = [42] := fun e => h10 (k10.1 e)
    have e10 : (st.toList == [42]) = false := by simpa using n10
    clear k10
    have k11 : st.toList = [47] ↔ tx = [47] := by
      have h9 := HQ.out [47] (by unfold TR.Byt; decide)
      rw [nums_list] at h9
      exact h9
    by_cases h11 : tx = [47]
    · have q11 : st.toList = [47] := k11.2 h11
      have HB : Hid (binop tx = 47) := by unfold Hid; rw [h11]; decide
      rw [HB.out] at HPo
      clear h11 k11 HQ
      go_enter Tryz.func152, Tryz.ntmps152
      go_wp2_with fail
      refine Calls.mono (HNW.out W (Up.refl _)) ?_
      rintro r w1 ⟨rfl, u1⟩
      have HU1 : Hid (Up W w1) := u1
      clear u1
      have HC := HNW.out w1 HU1.out
      clear HNW
      go_wp2_with fail
      refine Calls.mono HC ?_
      rintro r w2 ⟨rfl, u2⟩
      have HU2 : Hid (Up W w2) := HU1.out.trans u2
      clear u2 HC
      go_wp2_with fail
      rw [HPo.out]
      exact ⟨rfl, HU2.out⟩
    have n11 : ¬ st.toList = [47] := fun e => h11 (k11.1 e)
    have e11 : (st.toList == [47]) = false := by simpa using n11
    clear k11
    have k12 : st.toList = [37] ↔ tx = [37] := by
      have h9 := HQ.out [37] (by unfold TR.Byt; decide)
      rw [nums_list] at h9
      exact h9
    by_cases h12 : tx = [37]
    · have q12 : st.toList = [37] := k12.2 h12
      have HB : Hid (binop tx = 48) := by unfold Hid; rw [h12]; decide
      rw [HB.out] at HPo
      clear h12 k12 HQ
      go_enter Tryz.func152, Tryz.ntmps152
      go_wp2_with fail
      refine Calls.mono (HNW.out W (Up.refl _)) ?_
      rintro r w1 ⟨rfl, u1⟩
      have HU1 : Hid (Up W w1) := u1
      clear u1
      have HC := HNW.out w1 HU1.out
      clear HNW
      go_wp2_with fail
      refine Calls.mono HC ?_
      rintro r w2 ⟨rfl, u2⟩
      have HU2 : Hid (Up W w2) := HU1.out.trans u2
      clear u2 HC
      go_wp2_with fail
      rw [HPo.out]
      exact ⟨rfl, HU2.out⟩
    have n12 : ¬ st.toList = [37] := fun e => h12 (k12.1 e)
    have e12 : (st.toList == [37]) = false := by simpa using n12
    clear k12
    have HB : Hid (binop tx = 0) := by
      unfold Hid binop
      rw [if_neg h0, if_neg h1, if_neg h2, if_neg h3, if_neg h4, if_neg h5, if_neg h6, if_neg h7, if_neg h8, if_neg h9, if_neg h10, if_neg h11, if_neg h12]
    rw [HB.out] at HPo
    clear HQ h0 h1 h2 h3 h4 h5 h6 h7 h8 h9 h10 h11 h12
    go_enter Tryz.func152, Tryz.ntmps152
    go_wp2_with fail
    refine Calls.mono (HNW.out W (Up.refl _)) ?_
    rintro r w1 ⟨rfl, u1⟩
    have HU1 : Hid (Up W w1) := u1
    clear u1
    have HC := HNW.out w1 HU1.out
    clear HNW
    go_wp2_with fail
    refine Calls.mono HC ?_
    rintro r w2 ⟨rfl, u2⟩
    have HU2 : Hid (Up W w2) := HU1.out.trans u2
    clear u2 HC
    go_wp2_with fail
    rw [HPo.out]
    exact ⟨rfl, HU2.out⟩
  · have hk2 : (kd == 4) = false := by simpa using hk
    have hk3 : (kd != 4) = true := by simpa using hk
    rw [if_neg hk] at HPo
    clear hk HQ
    go_enter Tryz.func152, Tryz.ntmps152
    go_wp2_with fail
    refine Calls.mono (HNW.out W (Up.refl _)) ?_
    rintro r w1 ⟨rfl, u1⟩
    have HU1 : Hid (Up W w1) := u1
    clear u1
    go_wp2_with fail
    rw [HPo.out]
    exact ⟨rfl, HU1.out⟩
set_option maxRecDepth 100000 in
set_option maxHeartbeats 16000000 in
theorem isBetween_ (w0 W : World) (b bt off n c ml ms i d : Nat) (l : List Tok) (hE : Ev w0 b bt off n c l) (ho : Only b w0 W) (hi : i < n) (hP : QS W b bt off n c ml ms i d) (x y : Int) : Calls Tryz.prog 110 #[.pointer (some ⟨b, 0, none⟩), .int .i8 x, .int .i8 y] W (fun r w' => r = .returned (.bool (decide (x ≤ bwn (tk l i) ∧ bwn (tk l i) ≤ y))) ∧ Up W w') := by
  obtain ⟨Post, hPost⟩ : ∃ P : Ending → World → Prop, P = fun r w' => r = .returned (.bool (decide (x ≤ bwn (tk l i) ∧ bwn (tk l i) ≤ y))) ∧ Up W w' := ⟨_, rfl⟩
  rw [← hPost]
  have HPo : Hid (Post = fun r w' => r = .returned (.bool (decide (x ≤ bwn (tk l i) ∧ bwn (tk l i) ≤ y))) ∧ Up W w') := hPost
  clear hPost
  have HB : Hid (Calls Tryz.prog 152 #[.pointer (some ⟨b, 0, none⟩)] W fun r w' => r = .returned (.int .i8 (bwn (tk l i))) ∧ Up W w') := between_ w0 W b bt off n c ml ms i d l hE ho hi hP
  clear hE ho hP
  generalize bwn (tk l i) = z at *
  by_cases h1 : x ≤ z
  · by_cases h2 : z ≤ y
    · have HT : Hid (decide (x ≤ z ∧ z ≤ y) = true) := by unfold Hid; simp [h1, h2]
      rw [HT.out] at HPo
      go_enter Tryz.func110, Tryz.ntmps110
      go_wp2_with fail
      refine Calls.mono HB.out ?_
      rintro r w1 ⟨rfl, u1⟩
      have HU1 : Hid (Up W w1) := u1
      clear u1
      go_wp2_with fail
      rw [HPo.out]
      exact ⟨rfl, HU1.out⟩
    · have HT : Hid (decide (x ≤ z ∧ z ≤ y) = false) := by unfold Hid; simp [h2]
      rw [HT.out] at HPo
      go_enter Tryz.func110, Tryz.ntmps110
      go_wp2_with fail
      refine Calls.mono HB.out ?_
      rintro r w1 ⟨rfl, u1⟩
      have HU1 : Hid (Up W w1) := u1
      clear u1
      go_wp2_with fail
      rw [HPo.out]
      exact ⟨by simp [h2], HU1.out⟩
  · have HT : Hid (decide (x ≤ z ∧ z ≤ y) = false) := by unfold Hid; simp [h1]
    rw [HT.out] at HPo
    go_enter Tryz.func110, Tryz.ntmps110
    go_wp2_with fail
    refine Calls.mono HB.out ?_
    rintro r w1 ⟨rfl, u1⟩
    have HU1 : Hid (Up W w1) := u1
    clear u1
    go_wp2_with fail
    rw [HPo.out]
    exact ⟨rfl, HU1.out⟩
/- what a part answers -/
def QG (b bt off n c ml ms d : Nat) (R : Rs) (W : World) (e : Ending) (W' : World) : Prop := Only b W W' ∧ match R with
  | .ok f j => ∃ g, e = .returned (ptr g) ∧ PF W' (Sn W.heap.size W') f [ptr g] ∧ QS W' b bt off n c ml ms j d
  | .bad er pp => e = pnc er pp
/- a function that reads a part -/
def Prt (w0 : World) (b bt off n c ml ms : Nat) (l : List Tok) (N : Nat) (f : FuncId) (g : G) : Prop := ∀ (j d' : Nat) (R' : Rs) (W' : World), Only b w0 W' → QS W' b bt off n c ml ms j d' → j < n → d' ≤ 64 → P l N g j d' = some R' → Calls Tryz.prog f #[.pointer (some ⟨b, 0, none⟩)] W' (QG b bt off n c ml ms d' R' W')
theorem PF.only {b lo hi : Nat} {W W' : World} {f : Fo} {vs : List Value} (h : PF W (fun x => lo ≤ x ∧ x < hi) f vs) (ho : Only b W W') (hb : b < lo) : PF W' (fun x => lo ≤ x ∧ x < hi) f vs :=
  PF.keep (fun x o hx e => ho.heap e (by omega)) f vs h
end TP
end Go.Proofs.YtkldllnnocdhbaaGreatDoor
