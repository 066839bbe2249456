/-
  Whole numbers of 53 bits as floats, over 2^53 and back: nothing is lost.
-/
import Derived.Laws.FloatArith
namespace Go.Proofs.YthnpdlbcdaodkaaDoor
open Ieee

theorem log2_of {K : Nat} (h1 : 4503599627370496 ≤ K) (h2 : K < 9007199254740992) (d : Nat) : (K * 2 ^ d).log2 = 52 + d := by
  have h0 : K * 2 ^ d ≠ 0 := by
    have := Nat.two_pow_pos d
    exact Nat.mul_ne_zero (by omega) (by omega)
  refine (Nat.log2_eq_iff h0).2 ⟨?_, ?_⟩
  · rw [Nat.pow_add]
    exact Nat.mul_le_mul_right _ h1
  · rw [show 52 + d + 1 = 53 + d by omega, Nat.pow_add]
    exact Nat.mul_lt_mul_of_pos_right h2 (Nat.two_pow_pos d)
def rung (K : Nat) (p : Int) : Nat := (p + 1074).toNat * 4503599627370496 + K
theorem rung_le {K : Nat} (h2 : K < 9007199254740992) {p : Int} (hp1 : -1074 ≤ p) (hp2 : p ≤ 900) : min ((p + 1074).toNat * 4503599627370496 + K) 9218868437227405312 = rung K p := by
  unfold rung
  omega
theorem c1 : double.signWeight = 9223372036854775808 := by decide +kernel
theorem c2 : double.binade = 4503599627370496 := by decide +kernel
theorem c3 : double.infRung = 9218868437227405312 := by decide +kernel
theorem c4 : double.leastPlace = -1074 := by decide +kernel
theorem c5 : (double.fractionBits : Int) = 52 := rfl
theorem cut_exact (K d : Nat) (h1 : 4503599627370496 ≤ K) (h2 : K < 9007199254740992) : Toward.even.cut false (K * 2 ^ d) d = K := by
  unfold Toward.cut
  have hm : min d ((K * 2 ^ d).log2 + 2) = d := by rw [log2_of h1 h2]; omega
  have hp := Nat.two_pow_pos d
  simp only [hm, Nat.shiftLeft_eq, Nat.one_mul, Nat.mul_mod_left, Nat.mul_div_cancel _ hp, Nat.mul_zero]
  have h3 : (2 ^ d == 0) = false := by simp
  simp [h3]
theorem near_right (K d : Nat) (p : Int) (h1 : 4503599627370496 ≤ K) (h2 : K < 9007199254740992) (hp1 : -1074 ≤ p + d) (hp2 : p + d ≤ 900) :
    double.nearest false (K * 2 ^ d) p = rung K (p + d) := by
  have h0 : K * 2 ^ d ≠ 0 := by
    have := Nat.two_pow_pos d
    exact Nat.mul_ne_zero (by omega) (by omega)
  unfold Format.nearest
  rw [if_neg h0, log2_of h1 h2]
  have e1 : max (p + ((52 + d : Nat) : Int) - (double.fractionBits : Int)) double.leastPlace = p + d := by
    rw [c4, c5]; omega
  simp only [e1]
  have e2 : (p - (p + (d : Int))).toNat = 0 := by omega
  have e3 : (p + (d : Int) - p).toNat = d := by omega
  rw [e2, e3, Nat.shiftLeft_zero, cut_exact K d h1 h2]
  have e4 : (p + (d : Int) - double.leastPlace).toNat = (p + d + 1074).toNat := by
    rw [c4]; omega
  rw [e4, c2, c3]
  unfold Format.word
  rw [if_neg (by decide)]
  exact rung_le h2 hp1 hp2
theorem near_left (k s : Nat) (p : Int) (h1 : 4503599627370496 ≤ k * 2 ^ s) (h2 : k * 2 ^ s < 9007199254740992) (hs : s ≤ 52) (hp1 : -1000 ≤ p) (hp2 : p ≤ 900) :
    double.nearest false k p = rung (k * 2 ^ s) (p - s) := by
  have hk0 : k ≠ 0 := by intro h; subst h; omega
  have hl : k.log2 = 52 - s := by
    refine (Nat.log2_eq_iff hk0).2 ⟨?_, ?_⟩
    · have e : 2 ^ (52 - s) * 2 ^ s = 4503599627370496 := by rw [← Nat.pow_add, show 52 - s + s = 52 by omega]
      exact Nat.le_of_mul_le_mul_right (by rw [e]; exact h1) (Nat.two_pow_pos s)
    · have e : 2 ^ (52 - s + 1) * 2 ^ s = 9007199254740992 := by rw [← Nat.pow_add, show 52 - s + 1 + s = 53 by omega]
      exact Nat.lt_of_mul_lt_mul_right (a := 2 ^ s) (by rw [e]; exact h2)
  unfold Format.nearest
  rw [if_neg hk0, hl]
  have e1 : max (p + ((52 - s : Nat) : Int) - (double.fractionBits : Int)) double.leastPlace = p - s := by
    rw [c4, c5]; omega
  simp only [e1]
  have e2 : (p - (p - (s : Int))).toNat = s := by omega
  have e3 : (p - (s : Int) - p).toNat = 0 := by omega
  have hc := cut_exact (k * 2 ^ s) 0 h1 h2
  rw [Nat.pow_zero, Nat.mul_one] at hc
  rw [e2, e3, Nat.shiftLeft_eq, hc]
  have e4 : (p - (s : Int) - double.leastPlace).toNat = (p - s + 1074).toNat := by
    rw [c4]; omega
  rw [e4, c2, c3]
  unfold Format.word
  rw [if_neg (by decide)]
  exact rung_le h2 (by omega) (by omega)
theorem read_rung (K : Nat) (p : Int) (h1 : 4503599627370496 ≤ K) (h2 : K < 9007199254740992) (hp1 : -1074 ≤ p) (hp2 : p ≤ 900) :
    double.read (rung K p) = .number false K p := by
  obtain ⟨q, hq⟩ : ∃ q : Nat, q = (p + 1074).toNat := ⟨_, rfl⟩
  have hr : rung K p = q * 4503599627370496 + K := by unfold rung; rw [hq]
  have hq2 : q ≤ 1974 := by omega
  unfold Format.read
  rw [c1, c2, c3, c4, hr]
  have e1 : (q * 4503599627370496 + K) / 9223372036854775808 % 2 = 0 := by omega
  have e2 : (q * 4503599627370496 + K) % 9223372036854775808 = q * 4503599627370496 + K := by omega
  simp only [e1, e2]
  rw [if_neg (by omega), if_pos (by omega)]
  have e3 : 4503599627370496 + (q * 4503599627370496 + K) % 4503599627370496 = K := by omega
  have e4 : (-1074 : Int) + (((q * 4503599627370496 + K) / 4503599627370496 - 1 : Nat) : Int) = p := by omega
  rw [e3, e4]
  rfl
/-- every number of at most 53 bits, not 0, shifted up till it has 53 -/
theorem norm (m : Nat) (h0 : 0 < m) (hm : m < 9007199254740992) : ∃ s, s ≤ 52 ∧ 4503599627370496 ≤ m * 2 ^ s ∧ m * 2 ^ s < 9007199254740992 := by
  have hl : m.log2 ≤ 52 := by
    have := (Nat.log2_lt (by omega)).2 (show m < 2 ^ 53 from hm)
    omega
  have hne : m ≠ 0 := by omega
  have a1 := Nat.log2_self_le hne
  have a2 : m < 2 ^ (m.log2 + 1) := Nat.lt_log2_self
  refine ⟨52 - m.log2, by omega, ?_, ?_⟩
  · have e : 2 ^ m.log2 * 2 ^ (52 - m.log2) = 4503599627370496 := by rw [← Nat.pow_add, show m.log2 + (52 - m.log2) = 52 by omega]
    rw [← e]; exact Nat.mul_le_mul_right _ a1
  · have e : 2 ^ (m.log2 + 1) * 2 ^ (52 - m.log2) = 9007199254740992 := by rw [← Nat.pow_add, show m.log2 + 1 + (52 - m.log2) = 53 by omega]
    rw [← e]; exact Nat.mul_lt_mul_of_pos_right a2 (Nat.two_pow_pos _)
def flt (m : Nat) : Nat := floatOfInt .f64 (m : Int)
theorem flt_eq (m : Nat) : flt m = double.nearest false m 0 := by
  show double.nearest (decide ((m : Int) < 0)) (m : Int).natAbs 0 = _
  rw [show decide ((m : Int) < 0) = false by simp, Int.natAbs_natCast]
def two53 : Nat := 4845873199050653696
theorem read53 : double.read two53 = .number false 4503599627370496 1 := by decide
/-- what is drawn over 2^53 -/
def share (m : Nat) : Nat := if m = 0 then 0 else (rung (m * 2 ^ (52 - m.log2)) (-53 - (52 - m.log2 : Nat)))
theorem share_at (m s : Nat) (h0 : 0 < m) (hm : m < 9007199254740992) (hs : s ≤ 52) (h1 : 4503599627370496 ≤ m * 2 ^ s) (h2 : m * 2 ^ s < 9007199254740992) : share m = rung (m * 2 ^ s) (-53 - s) := by
  have hl : m.log2 = 52 - s := by
    refine (Nat.log2_eq_iff (by omega)).2 ⟨?_, ?_⟩
    · have e : 2 ^ (52 - s) * 2 ^ s = 4503599627370496 := by rw [← Nat.pow_add, show 52 - s + s = 52 by omega]
      exact Nat.le_of_mul_le_mul_right (by rw [e]; exact h1) (Nat.two_pow_pos s)
    · have e : 2 ^ (52 - s + 1) * 2 ^ s = 9007199254740992 := by rw [← Nat.pow_add, show 52 - s + 1 + s = 53 by omega]
      exact Nat.lt_of_mul_lt_mul_right (a := 2 ^ s) (by rw [e]; exact h2)
  unfold share
  rw [if_neg (by omega), hl, show 52 - (52 - s) = s by omega]
theorem div53 (m : Nat) (hm : m < 9007199254740992) : floatBits .quo .f64 (flt m) two53 = some (share m) := by
  show double.div (flt m) two53 = some (share m)
  by_cases h0 : m = 0
  · subst h0; decide +kernel
  · obtain ⟨s, hs, h1, h2⟩ := norm m (by omega) hm
    rw [share_at m s (by omega) hm hs h1 h2, flt_eq, near_left m s 0 h1 h2 hs (by omega) (by omega)]
    generalize m * 2 ^ s = K at *
    unfold Format.div
    rw [read_rung K _ h1 h2 (by omega) (by omega), read53]
    unfold Datum.quotient
    have hl := log2_of h1 h2 0
    rw [Nat.pow_zero, Nat.mul_one] at hl
    have hl2 : Nat.log2 4503599627370496 = 52 := by decide
    simp only [hl, hl2, Nat.shiftLeft_eq, double]
    rw [if_neg (by decide)]
    have e1 : K * 2 ^ (52 + 2 + 52 - (52 + 0)) / 4503599627370496 = K * 4 := by
      have : (2 : Nat) ^ (52 + 2 + 52 - (52 + 0)) = 4 * 4503599627370496 := by decide
      rw [this]; omega
    have e2 : K * 2 ^ (52 + 2 + 52 - (52 + 0)) % 4503599627370496 = 0 := by
      have : (2 : Nat) ^ (52 + 2 + 52 - (52 + 0)) = 4 * 4503599627370496 := by decide
      rw [this]; omega
    rw [e1, e2]
    have e3 : 2 * (K * 4) + ((0 : Nat) != 0).toNat = K * 2 ^ 3 := by simp; omega
    rw [e3]
    show some (double.nearest (false ^^ false) (K * 2 ^ 3) _) = _
    rw [show (false ^^ false) = false from rfl, near_right K 3 _ h1 h2 (by omega) (by omega)]
    congr 2
    omega
theorem mul53 (m : Nat) (hm : m < 9007199254740992) : floatBits .mul .f64 (share m) two53 = some (flt m) := by
  show double.mul (share m) two53 = some (flt m)
  by_cases h0 : m = 0
  · subst h0; decide +kernel
  · obtain ⟨s, hs, h1, h2⟩ := norm m (by omega) hm
    rw [share_at m s (by omega) hm hs h1 h2, flt_eq, near_left m s 0 h1 h2 hs (by omega) (by omega)]
    generalize m * 2 ^ s = K at *
    unfold Format.mul
    rw [read_rung K _ h1 h2 (by omega) (by omega), read53]
    show some (double.nearest (false ^^ false) (K * 2 ^ 52) _) = _
    rw [show (false ^^ false) = false from rfl, near_right K 52 _ h1 h2 (by omega) (by omega)]
    congr 2
    omega
theorem whole (m : Nat) (hm : m < 9007199254740992) : floatToIntVal .f64 (flt m) .u64 = some (m : Int) := by
  by_cases h0 : m = 0
  · subst h0; decide +kernel
  · obtain ⟨s, hs, h1, h2⟩ := norm m (by omega) hm
    have e : (FloatKind.f64.decode (flt m)).toInt .zero = some (m : Int) := by
      show (double.read (flt m)).toInt .zero = _
      rw [flt_eq, near_left m s 0 h1 h2 hs (by omega) (by omega), read_rung _ _ h1 h2 (by omega) (by omega)]
      unfold Datum.toInt Datum.integral
      have e1 : ((0 : Int) - (s : Int)).toNat = 0 := by omega
      have e2 : (-((0 : Int) - (s : Int))).toNat = s := by omega
      have hl := log2_of h1 h2 0
      rw [Nat.pow_zero, Nat.mul_one] at hl
      simp only [e1, e2, Toward.cut, Nat.shiftLeft_eq, Nat.one_mul, Nat.pow_zero, Nat.mul_one, hl]
      rw [show min s (52 + 0 + 2) = s by omega, Nat.mul_div_cancel _ (Nat.two_pow_pos s)]
      simp [signed]
    unfold floatToIntVal
    rw [e]
    have hmin : IntKind.u64.min = 0 := rfl
    have hmax : IntKind.u64.max = 18446744073709551615 := rfl
    simp only
    rw [if_pos ⟨by rw [hmin]; omega, by rw [hmax]; omega⟩]
theorem flt_same (m : Nat) (hm : m < 9007199254740992) : double.order (flt m) (flt m) = some .eq := by
  by_cases h0 : m = 0
  · subst h0; decide +kernel
  · obtain ⟨s, hs, h1, h2⟩ := norm m (by omega) hm
    rw [flt_eq, near_left m s 0 h1 h2 hs (by omega) (by omega)]
    unfold Format.order
    rw [read_rung _ _ h1 h2 (by omega) (by omega)]
    simp [Datum.order]
theorem share_same (m : Nat) (hm : m < 9007199254740992) : double.order (share m) (share m) = some .eq := by
  by_cases h0 : m = 0
  · subst h0; decide +kernel
  · obtain ⟨s, hs, h1, h2⟩ := norm m (by omega) hm
    rw [share_at m s (by omega) hm hs h1 h2]
    unfold Format.order
    rw [read_rung _ _ h1 h2 (by omega) (by omega)]
    simp [Datum.order]
theorem share_pos (m : Nat) (hm : m < 9007199254740992) : (double.order (share m) 0 == some .gt || double.order (share m) 0 == some .eq) = true := by
  by_cases h0 : m = 0
  · subst h0; decide +kernel
  · obtain ⟨s, hs, h1, h2⟩ := norm m (by omega) hm
    rw [share_at m s (by omega) hm hs h1 h2]
    unfold Format.order
    have e0 : double.read 0 = .number false 0 (-1074) := by decide
    rw [read_rung _ _ h1 h2 (by omega) (by omega), e0]
    generalize m * 2 ^ s = K at *
    have : compare (signed false K (-53 - (s : Int) - min (-53 - (s : Int)) (-1074)).toNat) (signed false 0 (-1074 - min (-53 - (s : Int)) (-1074)).toNat) = .gt := by
      unfold signed
      simp only [Bool.false_eq_true, if_false, Nat.shiftLeft_eq, Nat.zero_mul]
      generalize (-53 - (s : Int) - min (-53 - (s : Int)) (-1074)).toNat = j
      have := Nat.mul_pos (show 0 < K by omega) (Nat.two_pow_pos j)
      rw [Int.compare_eq_gt]
      omega
    simp only [Datum.order, this]
    rfl
theorem share_one (m : Nat) (hm : m < 9007199254740992) : (double.order (share m) 4607182418800017408 == some .lt) = true := by
  by_cases h0 : m = 0
  · subst h0; decide +kernel
  · obtain ⟨s, hs, h1, h2⟩ := norm m (by omega) hm
    rw [share_at m s (by omega) hm hs h1 h2]
    unfold Format.order
    have e0 : double.read 4607182418800017408 = .number false 4503599627370496 (-52) := by decide
    rw [read_rung _ _ h1 h2 (by omega) (by omega), e0]
    generalize m * 2 ^ s = K at *
    have : compare (signed false K (-53 - (s : Int) - min (-53 - (s : Int)) (-52)).toNat) (signed false 4503599627370496 (-52 - min (-53 - (s : Int)) (-52)).toNat) = .lt := by
      have e1 : (-53 - (s : Int) - min (-53 - (s : Int)) (-52)).toNat = 0 := by omega
      have e2 : (-52 - min (-53 - (s : Int)) (-52)).toNat = s + 1 := by omega
      rw [e1, e2]
      unfold signed
      simp only [Bool.false_eq_true, if_false, Nat.shiftLeft_eq, Nat.pow_zero, Nat.mul_one, Nat.pow_succ]
      have := Nat.two_pow_pos s
      have h9 : 4503599627370496 * 1 ≤ 4503599627370496 * 2 ^ s := Nat.mul_le_mul_left _ this
      rw [Int.compare_eq_lt]
      omega
    simp only [Datum.order, this]
    rfl
end Go.Proofs.YthnpdlbcdaodkaaDoor
