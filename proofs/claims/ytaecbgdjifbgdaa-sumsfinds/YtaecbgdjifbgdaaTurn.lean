/-
  What the law's own turn makes of a text: bits turned within 32 that stand together.
-/
import Derived.Test.YtaecbgdjifbgdaaWide
import Derived.Test.YtaecbgdjifbgdaaFnd
namespace Go.Proofs.Ytaecbgdjifbgdaa
open Go.RowKit

def OwnN (w : World) (base g cap n : Nat) (ys : List Nat) : Prop := w.ownsRow base 5 1 (.slice (some ⟨g, 0, none⟩) n cap) n (ys.map bv)
theorem Owns.form {w : World} {base n : Nat} {v : Value} {zs : List Nat} (h : Owns w base v zs) (hl : zs.length = n) (hn : 0 < n) : ∃ g cap, v = .slice (some ⟨g, 0, none⟩) n cap ∧ n ≤ cap ∧ base ≤ g ∧ OwnN w base g cap n zs := by
  subst hl
  have hs : w.ownsRow base 5 1 v zs.length (zs.map bv) := h
  rcases hs.2 with ⟨_, h0⟩ | ⟨g, cap, cur, hv, hg, _, hc, _⟩
  · omega
  · subst hv
    exact ⟨g, cap, rfl, hc, hg, hs⟩
theorem OwnN.len {w : World} {base g cap n : Nat} {ys : List Nat} (h : OwnN w base g cap n ys) : ys.length = n := by
  have := h.1
  rw [List.length_map, Nat.mul_one] at this
  exact this
theorem OwnN.set {w : World} {base g cap n : Nat} {ys : List Nat} (h : OwnN w base g cap n ys) (k c : Nat) : OwnN (w.setCell ⟨g, k, none⟩ (.int .u8 (c : Int))) base g cap n (ys.set k c) := by
  have h' : w.ownsRow base 5 1 (.slice (some ⟨g, 0, none⟩) n cap) n (ys.map bv) := h
  have := (h'.stored k (.int .u8 (c : Int))).1
  unfold OwnN
  rw [List.map_set]
  exact this
theorem OwnN.cell {w : World} {base g cap n : Nat} {ys : List Nat} (h : OwnN w base g cap n ys) (k : Nat) (hk : k < n) : w.cell? ⟨g, k, none⟩ = some (.int .u8 (ys.getD k 0 : Nat)) := by
  have h' : w.ownsRow base 5 1 (.slice (some ⟨g, 0, none⟩) n cap) n (ys.map bv) := h
  have hl := h.len
  rw [h'.cellAt k (by omega)]
  simp [List.getD, List.getElem?_eq_getElem (show k < ys.length by omega), bv]
theorem OwnN.frozen {w : World} {base g cap n : Nat} {ys : List Nat} (h : OwnN w base g cap n ys) (k : Nat) : w.frozen? ⟨g, k, none⟩ = false := World.ownsRow.frozenAt h k
theorem OwnN.le {w : World} {base base' g cap n : Nat} {ys : List Nat} (h : OwnN w base g cap n ys) (hb : base' ≤ base) : OwnN w base' g cap n ys := by
  obtain ⟨q1, q2⟩ := h
  refine ⟨q1, q2.imp id ?_⟩
  rintro ⟨g, cap, cur, e1, e2, r⟩
  exact ⟨g, cap, cur, e1, Nat.le_trans hb e2, r⟩
theorem OwnN.lies {w : World} {base g cap n : Nat} {ys : List Nat} (h : OwnN w base g cap n ys) (m : Nat) (hm : m ≤ n) (c : Nat) : Lies w (.slice (some ⟨g, 0, none⟩) m c) (ys.take m) := by
  have hl := h.len
  have ht : (ys.take m).length = m := by rw [List.length_take]; omega
  refine ⟨_, c, by rw [ht], (fun e => by cases e), fun _ => ⟨g, 0, rfl, fun i hi => ?_⟩⟩
  rw [Nat.zero_add, h.cell i (by omega)]
  simp only [List.getD]
  rw [List.getElem?_take_of_lt (by omega)]
theorem shr_cast (B k : Nat) : (B : Int) / 2 ^ k = ((B / 2 ^ k : Nat) : Int) := by
  rw [Int.natCast_ediv]; simp
def TurnPost (w : World) (zs : List Nat) (n p : Nat) (e : Ending) (w' : World) : Prop :=
  ∃ g cap ys k W, e = .returned (.slice (some ⟨g, 0, none⟩) n cap) ∧ n ≤ cap ∧ k ≤ 32 ∧ Turned zs ys p k W ∧ OwnN w' w.heap.size g cap n ys ∧ Up w w'
/- the rounds -/
def TurnInv (w : World) (zs : List Nat) (n p B g cap : Nat) (k : Nat) (wr : World) : Prop :=
  ∃ ys W, Turned zs ys p k W ∧ OwnN wr (w.heap.size + 1) g cap n ys ∧ wr.cell? ⟨w.heap.size, 1, none⟩ = some (.int .u32 (B : Int)) ∧ Up w wr
set_option maxHeartbeats 4000000 in
set_option maxRecDepth 100000 in
theorem turnAt (a : Option Addr) (n cap0 : Nat) (zs : List Nat) (At M : Int) (p B : Nat) (w : World) (hl : zs.length = n) (h : Lies w (.slice a n cap0) zs) (hb : Bys zs) (h0 : 0 < n) (hm : n ≤ 4294967296) (hB : B < 4294967296)
    (hM : At.tmod (8 * (n : Int)) = M) (hp : (M < 0 ∧ M + 8 * (n : Int) = (p : Int)) ∨ (0 ≤ M ∧ M = (p : Int))) (hp8 : p < 8 * n) :
    Calls Try.prog 27 #[.slice a n cap0, .agg #[.int .i64 At, .int .u32 B]] w fun e w' => TurnPost w zs n p e w' := by
  have HH : Hid (Lies w (.slice a n cap0) zs) := h
  have HB : Hid (Bys zs) := hb
  have HL : Hid (zs.length = n) := hl
  clear hb h hl
  have hM1 : -(8 * (n : Int)) ≤ M := by omega
  have hM2 : M ≤ 8 * (n : Int) := by omega
  go_enter Try.func27, Try.ntmps27
  go_wp2_with fail
  refine (copyB _ zs _ (HH.out.up ((Up.refl w).alloc _)) (by rw [HL.out]; omega)).mono ?_
  rintro e w1 ⟨u, rfl, ho, y1⟩
  obtain ⟨g, cap, rfl, hcap, hg, hon⟩ := ho.form HL.out h0
  have hgw : w.heap.size + 1 ≤ g := by simpa using hg
  have hU : Up w w1 := ((Up.refl w).alloc _).trans y1
  have hcA : w1.cell? ⟨w.heap.size, 0, none⟩ = some (.int .i64 At) := y1.cell (by simp)
  have HI : Hid (TurnInv w zs n p B g cap 0 w1) := ⟨zs, 0, Turned.start zs HB.out p, hon.le (by simp), y1.cell (by simp), hU⟩
  clear hg ho y1 HH hon hU
  have hn9 : ¬ (8 * (n : Int) = 0) := by omega
  rcases hp with ⟨m1, m2⟩ | ⟨m1, m2⟩
  · go_wp2_with fail
    clear m1 m2 hM hM1 hM2 hcA
    go_loopw [7] (fun s7 wr => ∃ k : Nat, k ≤ 32 ∧ p + k ≤ 8 * n ∧ s7 = .int .i64 k ∧ TurnInv w zs n p B g cap k wr) (fun i _ => 32 - (intOf i).toNat)
    case atStart => exact ⟨0, by omega, by omega, rfl, HI.out⟩
    case round =>
      obtain ⟨k, hk, hpk, rfl, hI⟩ := hrel
      have HJ : Hid (TurnInv w zs n p B g cap k wr) := hI
      clear hI HI
      by_cases hlt : k < 32
      · have hki : (k : Int) < 32 := by omega
        by_cases hin : p + k < 8 * n
        · have hpi : (p : Int) + (k : Int) < 8 * (n : Int) := by omega
          obtain ⟨ys, W, hT, hO, hcB, hu⟩ := HJ.out
          have HT : Hid (Turned zs ys p k W) := hT
          have HO : Hid (OwnN wr (w.heap.size + 1) g cap n ys) := hO
          clear hT hO HJ
          have hsh := shr_cast B k
          have hdl : B / 2 ^ k < 4294967296 := Nat.lt_of_le_of_lt (Nat.div_le_self _ _) hB
          have hw64 : IntKind.u64.wrap (k : Int) = k := by rw [IntKind.wrap_u64]; omega
          have e1 := and1_u32 (B / 2 ^ k) hdl
          generalize B / 2 ^ k = d at *
          rcases Nat.mod_two_eq_zero_or_one d with hd | hd
          · rw [hd] at e1
            have HN : Hid (TurnInv w zs n p B g cap (k + 1) wr) := ⟨ys, W, HT.out.skip, HO.out, hcB, hu⟩
            clear hd HT HO
            go_wp2
            go_roundw
            case rel => first | exact ⟨k + 1, by omega, by omega, by go_num, HN.out⟩ | ((repeat apply Exists.intro); exact ⟨⟨k + 1, by omega, by omega, by go_num, HN.out⟩, rfl⟩)
            case measure => simp [intOf]; omega
          · rw [hd] at e1
            clear hd
            have hF := HT.out.flip (by rw [HL.out]; exact hin)
            obtain ⟨i, hi⟩ : ∃ i, i = (p + k) / 8 := ⟨_, rfl⟩
            obtain ⟨r, hr⟩ : ∃ r, r = (p + k) % 8 := ⟨_, rfl⟩
            rw [← hi, ← hr] at hF
            have hin2 : i < n := by omega
            have hq1 : ((p : Int) + (k : Int)) / 8 = (i : Int) := by omega
            have hq2 : ((p : Int) + (k : Int)).tdiv 8 = (i : Int) := by rw [Int.tdiv_eq_ediv_of_nonneg (by omega)]; exact hq1
            have hr1 : ((p : Int) + (k : Int)) % 8 = (r : Int) := by omega
            have hr2 : ((p : Int) + (k : Int)).tmod 8 = (r : Int) := by rw [Int.tmod_eq_emod_of_nonneg (by omega)]; exact hr1
            have hr8 : r < 8 := by omega
            have hri : (r : Int) < 8 := by omega
            have hwr : IntKind.u64.wrap (r : Int) = r := by rw [IntKind.wrap_u64]; omega
            have hpb : 2 ^ r < 256 := Nat.lt_of_lt_of_le (Nat.pow_lt_pow_right (by decide) hr8) (Nat.le_refl (2 ^ 8))
            have hpw : (2 : Int) ^ r % 256 = ((2 ^ r : Nat) : Int) := by
              rw [show (2 : Int) ^ r = ((2 ^ r : Nat) : Int) by simp]; exact Int.emod_eq_of_lt (Int.natCast_nonneg _) (Int.ofNat_lt.2 hpb)
            have hcell := HO.out.cell i hin2
            have hfz := HO.out.frozen i
            have hcb : ys.getD i 0 < 256 := HT.out.2.1 i
            have hii : (i : Int) < (n : Int) := by omega
            have e2 : bits .xor .u8 ((ys.getD i 0 : Nat) : Int) ((2 ^ r : Nat) : Int) = ((ys.getD i 0 ^^^ 2 ^ r : Nat) : Int) := u8_xor_nat _ _ hcb hpb
            have hne : ¬ g = w.heap.size := by omega
            have HN : Hid (TurnInv w zs n p B g cap (k + 1) (wr.setCell ⟨g, i, none⟩ (.int .u8 ((ys.getD i 0 ^^^ 2 ^ r : Nat) : Int)))) :=
              ⟨_, _, hF, HO.out.set i _, by rw [World.cell?_setCell_other _ _ _ _ (by intro e; injection e with e1 _; exact hne e1)]; exact hcB, Below.setCell hu (by show w.heap.size ≤ g; omega) _⟩
            clear hF HT HO hi hr
            generalize ys.getD i 0 ^^^ 2 ^ r = x at *
            generalize ys.getD i 0 = c at *
            generalize 2 ^ r = P at *
            go_wp2
            go_roundw
            case rel => first | exact ⟨k + 1, by omega, by omega, by go_num, HN.out⟩ | ((repeat apply Exists.intro); exact ⟨⟨k + 1, by omega, by omega, by go_num, HN.out⟩, rfl⟩)
            case measure => simp [intOf]; omega
        · have hpi : ¬ (p : Int) + (k : Int) < 8 * (n : Int) := by omega
          go_wp2
          go_ret
          obtain ⟨ys, W, hT, hO, _, hu⟩ := HJ.out
          exact ⟨g, cap, ys, k, W, rfl, hcap, hk, hT, hO.le (by omega), hu⟩
      · have hki : ¬ (k : Int) < 32 := by omega
        go_wp2
        go_ret
        obtain ⟨ys, W, hT, hO, _, hu⟩ := HJ.out
        exact ⟨g, cap, ys, k, W, rfl, hcap, hk, hT, hO.le (by omega), hu⟩
  · go_wp2_with fail
    clear m1 m2 hM hM1 hM2 hcA
    go_loopw [7] (fun s7 wr => ∃ k : Nat, k ≤ 32 ∧ p + k ≤ 8 * n ∧ s7 = .int .i64 k ∧ TurnInv w zs n p B g cap k wr) (fun i _ => 32 - (intOf i).toNat)
    case atStart => exact ⟨0, by omega, by omega, rfl, HI.out⟩
    case round =>
      obtain ⟨k, hk, hpk, rfl, hI⟩ := hrel
      have HJ : Hid (TurnInv w zs n p B g cap k wr) := hI
      clear hI HI
      by_cases hlt : k < 32
      · have hki : (k : Int) < 32 := by omega
        by_cases hin : p + k < 8 * n
        · have hpi : (p : Int) + (k : Int) < 8 * (n : Int) := by omega
          obtain ⟨ys, W, hT, hO, hcB, hu⟩ := HJ.out
          have HT : Hid (Turned zs ys p k W) := hT
          have HO : Hid (OwnN wr (w.heap.size + 1) g cap n ys) := hO
          clear hT hO HJ
          have hsh := shr_cast B k
          have hdl : B / 2 ^ k < 4294967296 := Nat.lt_of_le_of_lt (Nat.div_le_self _ _) hB
          have hw64 : IntKind.u64.wrap (k : Int) = k := by rw [IntKind.wrap_u64]; omega
          have e1 := and1_u32 (B / 2 ^ k) hdl
          generalize B / 2 ^ k = d at *
          rcases Nat.mod_two_eq_zero_or_one d with hd | hd
          · rw [hd] at e1
            have HN : Hid (TurnInv w zs n p B g cap (k + 1) wr) := ⟨ys, W, HT.out.skip, HO.out, hcB, hu⟩
            clear hd HT HO
            go_wp2
            go_roundw
            case rel => first | exact ⟨k + 1, by omega, by omega, by go_num, HN.out⟩ | ((repeat apply Exists.intro); exact ⟨⟨k + 1, by omega, by omega, by go_num, HN.out⟩, rfl⟩)
            case measure => simp [intOf]; omega
          · rw [hd] at e1
            clear hd
            have hF := HT.out.flip (by rw [HL.out]; exact hin)
            obtain ⟨i, hi⟩ : ∃ i, i = (p + k) / 8 := ⟨_, rfl⟩
            obtain ⟨r, hr⟩ : ∃ r, r = (p + k) % 8 := ⟨_, rfl⟩
            rw [← hi, ← hr] at hF
            have hin2 : i < n := by omega
            have hq1 : ((p : Int) + (k : Int)) / 8 = (i : Int) := by omega
            have hq2 : ((p : Int) + (k : Int)).tdiv 8 = (i : Int) := by rw [Int.tdiv_eq_ediv_of_nonneg (by omega)]; exact hq1
            have hr1 : ((p : Int) + (k : Int)) % 8 = (r : Int) := by omega
            have hr2 : ((p : Int) + (k : Int)).tmod 8 = (r : Int) := by rw [Int.tmod_eq_emod_of_nonneg (by omega)]; exact hr1
            have hr8 : r < 8 := by omega
            have hri : (r : Int) < 8 := by omega
            have hwr : IntKind.u64.wrap (r : Int) = r := by rw [IntKind.wrap_u64]; omega
            have hpb : 2 ^ r < 256 := Nat.lt_of_lt_of_le (Nat.pow_lt_pow_right (by decide) hr8) (Nat.le_refl (2 ^ 8))
            have hpw : (2 : Int) ^ r % 256 = ((2 ^ r : Nat) : Int) := by
              rw [show (2 : Int) ^ r = ((2 ^ r : Nat) : Int) by simp]; exact Int.emod_eq_of_lt (Int.natCast_nonneg _) (Int.ofNat_lt.2 hpb)
            have hcell := HO.out.cell i hin2
            have hfz := HO.out.frozen i
            have hcb : ys.getD i 0 < 256 := HT.out.2.1 i
            have hii : (i : Int) < (n : Int) := by omega
            have e2 : bits .xor .u8 ((ys.getD i 0 : Nat) : Int) ((2 ^ r : Nat) : Int) = ((ys.getD i 0 ^^^ 2 ^ r : Nat) : Int) := u8_xor_nat _ _ hcb hpb
            have hne : ¬ g = w.heap.size := by omega
            have HN : Hid (TurnInv w zs n p B g cap (k + 1) (wr.setCell ⟨g, i, none⟩ (.int .u8 ((ys.getD i 0 ^^^ 2 ^ r : Nat) : Int)))) :=
              ⟨_, _, hF, HO.out.set i _, by rw [World.cell?_setCell_other _ _ _ _ (by intro e; injection e with e1 _; exact hne e1)]; exact hcB, Below.setCell hu (by show w.heap.size ≤ g; omega) _⟩
            clear hF HT HO hi hr
            generalize ys.getD i 0 ^^^ 2 ^ r = x at *
            generalize ys.getD i 0 = c at *
            generalize 2 ^ r = P at *
            go_wp2
            go_roundw
            case rel => first | exact ⟨k + 1, by omega, by omega, by go_num, HN.out⟩ | ((repeat apply Exists.intro); exact ⟨⟨k + 1, by omega, by omega, by go_num, HN.out⟩, rfl⟩)
            case measure => simp [intOf]; omega
        · have hpi : ¬ (p : Int) + (k : Int) < 8 * (n : Int) := by omega
          go_wp2
          go_ret
          obtain ⟨ys, W, hT, hO, _, hu⟩ := HJ.out
          exact ⟨g, cap, ys, k, W, rfl, hcap, hk, hT, hO.le (by omega), hu⟩
      · have hki : ¬ (k : Int) < 32 := by omega
        go_wp2
        go_ret
        obtain ⟨ys, W, hT, hO, _, hu⟩ := HJ.out
        exact ⟨g, cap, ys, k, W, rfl, hcap, hk, hT, hO.le (by omega), hu⟩
theorem turnB (a : Option Addr) (n cap0 : Nat) (zs : List Nat) (At : Int) (B : Nat) (w : World) (hl : zs.length = n) (h : Lies w (.slice a n cap0) zs) (hb : Bys zs) (h0 : 0 < n) (hm : n ≤ 4294967296) (hB : B < 4294967296) :
    Calls Try.prog 27 #[.slice a n cap0, .agg #[.int .i64 At, .int .u32 B]] w fun e w' => ∃ g cap ys p k W, e = .returned (.slice (some ⟨g, 0, none⟩) n cap) ∧ n ≤ cap ∧ k ≤ 32 ∧ Turned zs ys p k W ∧ OwnN w' w.heap.size g cap n ys ∧ Up w w' := by
  have hlt : (At.tmod (8 * (n : Int))).natAbs < (8 * (n : Int)).natAbs := by
    rw [Int.natAbs_tmod]
    exact Nat.mod_lt _ (by omega)
  by_cases hM : At.tmod (8 * (n : Int)) < 0
  · refine (turnAt a n cap0 zs At _ (At.tmod (8 * (n : Int)) + 8 * (n : Int)).toNat B w hl h hb h0 hm hB rfl (Or.inl ⟨hM, by omega⟩) (by omega)).mono ?_
    rintro e w' ⟨g, cap, ys, k, W, q⟩
    exact ⟨g, cap, ys, _, k, W, q⟩
  · refine (turnAt a n cap0 zs At _ (At.tmod (8 * (n : Int))).toNat B w hl h hb h0 hm hB rfl (Or.inr ⟨by omega, by omega⟩) (by omega)).mono ?_
    rintro e w' ⟨g, cap, ys, k, W, q⟩
    exact ⟨g, cap, ys, _, k, W, q⟩
end Go.Proofs.Ytaecbgdjifbgdaa
