/-
  How often a row goes on; how many more are open at a node.
-/
import Derived.Test.YtgahdppcdeefaaaKm9
namespace Go.Proofs.Ytgahdppcdeefaaa
open Go.RowKit
attribute [local go_sem ↓] Go.wp_at_zero Go.wp_at_succ
namespace TR
theorem and_i64 (a b : Nat) (ha : a < 4294967296) (hb : b < 4294967296) : bits .and .i64 (a : Int) (b : Int) = ((a &&& b : Nat) : Int) := by
  have hx : a &&& b < 2 ^ 32 := Nat.and_lt_two_pow _ (by omega)
  have h1 : (BitVec.ofInt 64 (a : Int)).toNat = a := by
    rw [BitVec.ofInt_natCast, BitVec.toNat_ofNat]; exact Nat.mod_eq_of_lt (by omega)
  have h2 : (BitVec.ofInt 64 (b : Int)).toNat = b := by
    rw [BitVec.ofInt_natCast, BitVec.toNat_ofNat]; exact Nat.mod_eq_of_lt (by omega)
  show IntKind.i64.wrap ((BitVec.ofInt 64 (a : Int) &&& BitVec.ofInt 64 (b : Int)).toNat : Int) = _
  rw [BitVec.toNat_and, h1, h2, IntKind.wrap_i64]
  omega
theorem mks_step (l : List Nd) (p : Nat) : mks (l.drop p) = if gos (l.drop p) then mks (l.drop (p + 1)) + 1 else 0 := by
  rcases hd : l.drop p with _ | ⟨a, _ | ⟨b, r⟩⟩
  · rfl
  · rfl
  · have e : l.drop (p + 1) = b :: r := by
      have : l.drop (p + 1) = (l.drop p).drop 1 := by rw [List.drop_drop]
      rw [this, hd]
      rfl
    rw [e]
    rfl
theorem mks_le : ∀ (l : List Nd), mks l ≤ l.length
  | [] => Nat.le_refl _
  | [_] => Nat.zero_le _
  | a :: b :: r => by
    have := mks_le (b :: r)
    unfold mks
    split
    · simp at this ⊢
      omega
    · omega
set_option maxRecDepth 100000 in
set_option maxHeartbeats 8000000 in
theorem marks_ (g m : Nat) (v wv : Value) (q d : Nat) (l : List Nd) (w : World) (hk : WK w g m v q wv d) (ht : TP w m tab) (hl : NLs w v l) (hn : l.length ≤ 1099511627776) (hq : q ≤ l.length) : Calls Try.prog 63 #[.pointer (some ⟨g, 0, none⟩)] w fun e w' => e = .returned (.int .i64 ((mks (l.drop q) : Nat) : Int)) ∧ Up w w' := by
  obtain ⟨Post, hPost⟩ : ∃ P : Ending → World → Prop, P = fun e w' => e = .returned (.int .i64 ((mks (l.drop q) : Nat) : Int)) ∧ Up w w' := ⟨_, rfl⟩
  rw [← hPost]
  have HPo : Hid (Post = fun e w' => e = .returned (.int .i64 ((mks (l.drop q) : Nat) : Int)) ∧ Up w w') := hPost
  clear hPost
  have HGO : Hid (∀ W (p : Nat), Up w W → p ≤ 4611686018427387904 → Calls Try.prog 54 #[.pointer (some ⟨g, 0, none⟩), .int .i64 (p : Int)] W fun e w' => e = .returned (.bool (gos (l.drop p))) ∧ Up W w') := fun W p u hp => goesOn_ g m v wv q d p l W (hk.up u) (ht.up u) (hl.up u) hp
  have HKC : Hid (∀ W, Up w W → W.cell? ⟨g, 2, none⟩ = some (.int .i64 (q : Int))) := fun W u => (hk.up u).cells.2.2.1
  have x2 := HKC.out w (Up.refl _)
  clear hk ht hl
  go_enter Try.func63, Try.ntmps63
  go_wp2_with fail
  go_loopw [3] (fun s3 W => ∃ j : Nat, q + j ≤ l.length ∧ s3 = .int .i64 ((q + j : Nat) : Int) ∧ mks (l.drop q) = j + mks (l.drop (q + j)) ∧ Up w W) (fun s3 _ => l.length - (intOf s3).toNat)
  case atStart => exact ⟨0, hq, rfl, by simp, Up.refl _⟩
  case round =>
    obtain ⟨j, hj, rfl, hm, hu⟩ := hrel
    have HM : Hid (mks (l.drop q) = j + mks (l.drop (q + j))) := hm
    have HU : Hid (Up w wr) := hu
    have HST := mks_step l (q + j)
    obtain ⟨p, hp⟩ : ∃ p, p = q + j := ⟨_, rfl⟩
    rw [← hp] at HST hj HM ⊢
    have HP : Hid (p = q + j) := hp
    clear hm hu hp x2
    go_wp2_with fail
    refine Calls.mono (HGO.out wr p HU.out (by omega)) ?_
    rintro r W1 ⟨rfl, u1⟩
    have HU1 : Hid (Up w W1) := HU.out.trans u1
    have x2 := HKC.out W1 HU1.out
    cases hg : gos (l.drop p) with
    | true =>
      have hlt : p + 1 < l.length := by
        rcases Nat.lt_or_ge (p + 1) l.length with h9 | h9
        · exact h9
        · rw [gos_end (by omega)] at hg
          cases hg
      rw [hg, if_pos rfl] at HST
      have ei : IntKind.i64.wrap ((p : Int) + 1) = ((p + 1 : Nat) : Int) := by rw [IntKind.wrap_i64]; omega
      have HST : Hid (mks (l.drop p) = mks (l.drop (p + 1)) + 1) := HST
      clear u1 hg
      go_wp2_with fail
      go_roundw
      case rel => exact ⟨j + 1, by have := HP.out; omega, by rw [show q + (j + 1) = p + 1 by have := HP.out; omega]; go_num, by rw [show q + (j + 1) = p + 1 by have := HP.out; omega, HM.out, HST.out]; omega, HU1.out⟩
      case measure => simp [intOf]; omega
    | false =>
      rw [hg, if_neg (by decide)] at HST
      have ei : IntKind.i64.wrap ((p : Int) - (q : Int)) = (j : Int) := by rw [IntKind.wrap_i64]; have := HP.out; omega
      have HE : Hid (mks (l.drop q) = j) := by unfold Hid; rw [HM.out, HST]; rfl
      clear u1 hg HST
      go_wp2_with fail
      rw [HPo.out, HE.out]
      exact ⟨rfl, HU1.out⟩
def wtc (x : Wt) : Array Value := #[.int .i64 (x.plc.takes : Int), .int .i64 (x.plc.rank : Int), .int .i64 (x.many : Int), .int .i64 (x.opn : Int), .bool x.rest]
set_option maxRecDepth 100000 in
set_option maxHeartbeats 8000000 in
theorem more_ (k : Kd) (f u : Value) (x : Wt) (g m : Nat) (v wv : Value) (q d : Nat) (l : List Nd) (w : World) (hk : WK w g m v q wv d) (ht : TP w m tab) (hl : NLs w v l) (hn : l.length ≤ 1099511627776) (hq : q ≤ l.length) (hi : k.is < 4294967296) (ht2 : x.plc.takes < 4294967296) : Calls Try.prog 53 #[.pointer (some ⟨g, 0, none⟩), .agg (kvc k f u), .agg (wtc x)] w fun e w' => e = .returned (.int .i64 ((more k x (mks (l.drop q)) : Nat) : Int)) ∧ Up w w' := by
  obtain ⟨Post, hPost⟩ : ∃ P : Ending → World → Prop, P = fun e w' => e = .returned (.int .i64 ((more k x (mks (l.drop q)) : Nat) : Int)) ∧ Up w w' := ⟨_, rfl⟩
  rw [← hPost]
  have HPo : Hid (Post = fun e w' => e = .returned (.int .i64 ((more k x (mks (l.drop q)) : Nat) : Int)) ∧ Up w w') := hPost
  clear hPost
  have HMK : Hid (∀ W, Up w W → Calls Try.prog 63 #[.pointer (some ⟨g, 0, none⟩)] W fun e w' => e = .returned (.int .i64 ((mks (l.drop q) : Nat) : Int)) ∧ Up W w') := fun W y => marks_ g m v wv q d l W (hk.up y) (ht.up y) (hl.up y) hn hq
  have hmk : mks (l.drop q) ≤ l.length := Nat.le_trans (mks_le _) (by simp)
  obtain ⟨is, rank, row, opens, most, text, each, ways⟩ := k
  obtain ⟨⟨tk, rk⟩, mn, op, rs⟩ := x
  unfold kvc wtc
  simp only at hi ht2 ⊢
  have ha1 : bits .and .i64 (is : Int) (tk : Int) = ((is &&& tk : Nat) : Int) := and_i64 is tk hi ht2
  have ha2 : bits .and .i64 ((is &&& tk : Nat) : Int) 32 = (((is &&& tk) &&& 32 : Nat) : Int) := and_i64 (is &&& tk) 32 (Nat.lt_of_le_of_lt Nat.and_le_left hi) (by decide)
  clear hk ht hl
  by_cases r1 : rank < rk
  · have r1' : ((rank : Int) < (rk : Int)) := by omega
    by_cases r2 : is &&& tk &&& 32 = 0
    · have r2' : ((((is &&& tk) &&& 32 : Nat) : Int) != 0) = false := by first | (simp; done) | (simp; omega)
      have r2'' : ((((is &&& tk) &&& 32 : Nat) : Int) = 0) := by omega
      cases rs with
      | true =>
        have HMO : Hid (more ⟨is, rank, row, opens, most, text, each, ways⟩ ⟨⟨tk, rk⟩, mn, op, true⟩ (mks (l.drop q)) = 1 + 0) := by
          unfold Hid more
          simp [r1, r2]
        clear r1 r2
        go_enter Try.func53, Try.ntmps53
        go_wp2_with fail
        rw [HPo.out]
        refine ⟨?_, ((Up.refl _).alloc _).alloc _⟩
        rw [HMO.out]
        rfl
      | false =>
        have HMO : Hid (more ⟨is, rank, row, opens, most, text, each, ways⟩ ⟨⟨tk, rk⟩, mn, op, false⟩ (mks (l.drop q)) = 1 + mks (l.drop q)) := by
          unfold Hid more
          simp [r1, r2]
        have ew : ∀ z : Int, z = ((mks (l.drop q) : Nat) : Int) → IntKind.i64.wrap (1 + z) = 1 + z := fun z hz => by rw [IntKind.wrap_i64]; omega
        have ew2 := ew _ rfl
        clear r1 r2 ew
        generalize mks (l.drop q) = mk at *
        go_enter Try.func53, Try.ntmps53
        go_wp2_with fail
        refine Calls.mono (HMK.out _ (((Up.refl _).alloc _).alloc _)) ?_
        rintro r W1 ⟨rfl, u1⟩
        have HU1 : Hid (Up w W1) := (((Up.refl w).alloc _).alloc _).trans u1
        clear u1
        go_wp2_with fail
        rw [HPo.out]
        refine ⟨?_, HU1.out⟩
        rw [HMO.out]
        first | (rfl; done) | (congr 1; done) | (congr 1; congr 1; done) | (congr 1; congr 1; omega) | (simp; done) | (simp; omega)
    · have r2' : ((((is &&& tk) &&& 32 : Nat) : Int) != 0) = true := by first | (simp; done) | (simp; omega)
      have r2'' : ¬ ((((is &&& tk) &&& 32 : Nat) : Int) = 0) := by omega
      cases rs with
      | true =>
        have HMO : Hid (more ⟨is, rank, row, opens, most, text, each, ways⟩ ⟨⟨tk, rk⟩, mn, op, true⟩ (mks (l.drop q)) = 2 + 0) := by
          unfold Hid more
          simp [r1, r2]
        clear r1 r2
        go_enter Try.func53, Try.ntmps53
        go_wp2_with fail
        rw [HPo.out]
        refine ⟨?_, ((Up.refl _).alloc _).alloc _⟩
        rw [HMO.out]
        rfl
      | false =>
        have HMO : Hid (more ⟨is, rank, row, opens, most, text, each, ways⟩ ⟨⟨tk, rk⟩, mn, op, false⟩ (mks (l.drop q)) = 2 + mks (l.drop q)) := by
          unfold Hid more
          simp [r1, r2]
        have ew : ∀ z : Int, z = ((mks (l.drop q) : Nat) : Int) → IntKind.i64.wrap (2 + z) = 2 + z := fun z hz => by rw [IntKind.wrap_i64]; omega
        have ew2 := ew _ rfl
        clear r1 r2 ew
        generalize mks (l.drop q) = mk at *
        go_enter Try.func53, Try.ntmps53
        go_wp2_with fail
        refine Calls.mono (HMK.out _ (((Up.refl _).alloc _).alloc _)) ?_
        rintro r W1 ⟨rfl, u1⟩
        have HU1 : Hid (Up w W1) := (((Up.refl w).alloc _).alloc _).trans u1
        clear u1
        go_wp2_with fail
        rw [HPo.out]
        refine ⟨?_, HU1.out⟩
        rw [HMO.out]
        first | (rfl; done) | (congr 1; done) | (congr 1; congr 1; done) | (congr 1; congr 1; omega) | (simp; done) | (simp; omega)
  · have r1' : ¬ ((rank : Int) < (rk : Int)) := by omega
    by_cases r2 : is &&& tk &&& 32 = 0
    · have r2' : ((((is &&& tk) &&& 32 : Nat) : Int) != 0) = false := by first | (simp; done) | (simp; omega)
      have r2'' : ((((is &&& tk) &&& 32 : Nat) : Int) = 0) := by omega
      cases rs with
      | true =>
        have HMO : Hid (more ⟨is, rank, row, opens, most, text, each, ways⟩ ⟨⟨tk, rk⟩, mn, op, true⟩ (mks (l.drop q)) = 0 + 0) := by
          unfold Hid more
          simp [r1, r2]
        clear r1 r2
        go_enter Try.func53, Try.ntmps53
        go_wp2_with fail
        rw [HPo.out]
        refine ⟨?_, ((Up.refl _).alloc _).alloc _⟩
        rw [HMO.out]
        rfl
      | false =>
        have HMO : Hid (more ⟨is, rank, row, opens, most, text, each, ways⟩ ⟨⟨tk, rk⟩, mn, op, false⟩ (mks (l.drop q)) = 0 + mks (l.drop q)) := by
          unfold Hid more
          simp [r1, r2]
        have ew : ∀ z : Int, z = ((mks (l.drop q) : Nat) : Int) → IntKind.i64.wrap (0 + z) = 0 + z := fun z hz => by rw [IntKind.wrap_i64]; omega
        have ew2 := ew _ rfl
        clear r1 r2 ew
        generalize mks (l.drop q) = mk at *
        go_enter Try.func53, Try.ntmps53
        go_wp2_with fail
        refine Calls.mono (HMK.out _ (((Up.refl _).alloc _).alloc _)) ?_
        rintro r W1 ⟨rfl, u1⟩
        have HU1 : Hid (Up w W1) := (((Up.refl w).alloc _).alloc _).trans u1
        clear u1
        go_wp2_with fail
        rw [HPo.out]
        refine ⟨?_, HU1.out⟩
        rw [HMO.out]
        first | (rfl; done) | (congr 1; done) | (congr 1; congr 1; done) | (congr 1; congr 1; omega) | (simp; done) | (simp; omega)
    · have r2' : ((((is &&& tk) &&& 32 : Nat) : Int) != 0) = true := by first | (simp; done) | (simp; omega)
      have r2'' : ¬ ((((is &&& tk) &&& 32 : Nat) : Int) = 0) := by omega
      cases rs with
      | true =>
        have HMO : Hid (more ⟨is, rank, row, opens, most, text, each, ways⟩ ⟨⟨tk, rk⟩, mn, op, true⟩ (mks (l.drop q)) = 1 + 0) := by
          unfold Hid more
          simp [r1, r2]
        clear r1 r2
        go_enter Try.func53, Try.ntmps53
        go_wp2_with fail
        rw [HPo.out]
        refine ⟨?_, ((Up.refl _).alloc _).alloc _⟩
        rw [HMO.out]
        rfl
      | false =>
        have HMO : Hid (more ⟨is, rank, row, opens, most, text, each, ways⟩ ⟨⟨tk, rk⟩, mn, op, false⟩ (mks (l.drop q)) = 1 + mks (l.drop q)) := by
          unfold Hid more
          simp [r1, r2]
        have ew : ∀ z : Int, z = ((mks (l.drop q) : Nat) : Int) → IntKind.i64.wrap (1 + z) = 1 + z := fun z hz => by rw [IntKind.wrap_i64]; omega
        have ew2 := ew _ rfl
        clear r1 r2 ew
        generalize mks (l.drop q) = mk at *
        go_enter Try.func53, Try.ntmps53
        go_wp2_with fail
        refine Calls.mono (HMK.out _ (((Up.refl _).alloc _).alloc _)) ?_
        rintro r W1 ⟨rfl, u1⟩
        have HU1 : Hid (Up w W1) := (((Up.refl w).alloc _).alloc _).trans u1
        clear u1
        go_wp2_with fail
        rw [HPo.out]
        refine ⟨?_, HU1.out⟩
        rw [HMO.out]
        first | (rfl; done) | (congr 1; done) | (congr 1; congr 1; done) | (congr 1; congr 1; omega) | (simp; done) | (simp; omega)
end TR
end Go.Proofs.Ytgahdppcdeefaaa
