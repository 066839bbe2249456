/-
  Products bit by bit: the document's Product.
-/
import Derived.Test.YthnpdlbcdaodkaaDoorEqlB
namespace Go.Proofs.YthnpdlbcdaodkaaDoor
open Go.RowKit

/- products bit by bit -/
theorem bit_add (p x : Nat) (hx : x ≤ 1) : (2 * p) ||| x = 2 * p + x := by
  have := Nat.two_pow_add_eq_or_of_lt (i := 1) (b := x) (by omega) p
  rw [Nat.pow_one] at this
  exact this.symm
theorem shl1 (x : Nat) : IntKind.u64.wrap ((x : Int) * 2) = ((x * 2 % 18446744073709551616 : Nat) : Int) := by rw [IntKind.wrap_u64]; omega
def accP (a b k : Nat) : Nat := a * (b / 2 ^ k)
theorem accP_step (a b k : Nat) : accP a b k = 2 * accP a b (k + 1) + a * (b / 2 ^ k % 2) := by
  unfold accP
  have : b / 2 ^ k = 2 * (b / 2 ^ (k + 1)) + b / 2 ^ k % 2 := by
    rw [Nat.pow_succ, ← Nat.div_div_eq_div_mul]
    omega
  conv => lhs; rw [this]
  rw [Nat.mul_add, ← Nat.mul_assoc, Nat.mul_comm a 2, Nat.mul_assoc]
theorem accP_lt (a b k : Nat) (ha : a < 18446744073709551616) (hb : b < 18446744073709551616) (hk : k ≤ 64) : accP a b k < 18446744073709551616 * 2 ^ (64 - k) ∧ 2 ^ (64 - k) * 2 ^ k = 18446744073709551616 := by
  have e : 2 ^ (64 - k) * 2 ^ k = 18446744073709551616 := by rw [← Nat.pow_add, show 64 - k + k = 64 by omega]
  refine ⟨?_, e⟩
  unfold accP
  have h1 : b / 2 ^ k < 2 ^ (64 - k) := (Nat.div_lt_iff_lt_mul (Nat.two_pow_pos k)).2 (by rw [e]; exact hb)
  exact Nat.mul_lt_mul_of_lt_of_le ha (Nat.le_of_lt h1) (by have := Nat.two_pow_pos (64 - k); omega)
theorem dbl (h l t h' l' A : Nat) (hacc : h * 18446744073709551616 + l = A) (ht : t = l / 9223372036854775808) (hh' : h' = 2 * h + t) (hl' : l' = l * 2 % 18446744073709551616) : h' * 18446744073709551616 + l' = 2 * A := by
  subst hacc ht hh' hl'; omega
theorem plus_over (h' l' a l2 A C : Nat) (hl2 : l' < 18446744073709551616) (ha : a < 18446744073709551616) (h : h' * 18446744073709551616 + l' = A) (hC : C = A + a) (hl3 : l2 = (l' + a) % 18446744073709551616) (hov : l2 < l') : (h' + 1) * 18446744073709551616 + l2 = C := by
  subst hC h hl3; omega
theorem plus_in (h' l' a l2 A C : Nat) (hl2 : l' < 18446744073709551616) (ha : a < 18446744073709551616) (h : h' * 18446744073709551616 + l' = A) (hC : C = A + a) (hl3 : l2 = (l' + a) % 18446744073709551616) (hov : ¬ l2 < l') : h' * 18446744073709551616 + l2 = C := by
  subst hC h hl3; omega
theorem top_lt (x y C : Nat) (h : x * 18446744073709551616 + y = C) (hC : C < 18446744073709551616 * 18446744073709551616) : x < 18446744073709551616 := by
  subst h; omega
set_option maxHeartbeats 1000000 in
theorem rproduct (a b : Nat) (ha : a < 18446744073709551616) (hb : b < 18446744073709551616) (w : World) :
    Calls Tryd.prog 54 #[.int .u64 a, .int .u64 b] w fun e w' => e = .returned (.tuple #[.int .u64 (hiP a b : Nat), .int .u64 (loP a b : Nat)]) ∧ w' = w := by
  have HH : Hid (accP a b 0 = a * b) := by unfold Hid accP; rw [Nat.pow_zero, Nat.div_one]
  have HB : Hid (b < 18446744073709551616) := hb
  go_enter Tryd.func54, Tryd.ntmps54
  go_wp2_with fail
  go_loop [6, 7, 8] (fun s6 s7 s8 => ∃ (k h l : Nat), k ≤ 64 ∧ l < 18446744073709551616 ∧ h < 18446744073709551616 ∧ h * 18446744073709551616 + l = accP a b k ∧ s6 = .int .u64 h ∧ s7 = .int .u64 l ∧ s8 = .int .i64 ((k : Int) - 1)) (fun _ _ i => ((intOf i) + 1).toNat)
  case atStart =>
    refine ⟨64, 0, 0, Nat.le_refl _, by decide, by decide, ?_, rfl, rfl, rfl⟩
    unfold accP
    rw [Nat.div_eq_of_lt (show b < 2 ^ 64 from hb), Nat.mul_zero]
  case round =>
    obtain ⟨k, h, l, hk, hl, hh, hacc, rfl, rfl, rfl⟩ := hrel
    cases k with
    | zero =>
      rw [HH.out] at hacc
      have e1 : h = hiP a b := by unfold hiP; omega
      have e2 : l = loP a b := by unfold loP; omega
      have HE : Hid (h = hiP a b ∧ l = loP a b) := ⟨e1, e2⟩
      clear e1 e2 hacc
      go_wp2
      go_ret2
      exact ⟨by rw [← HE.out.1, ← HE.out.2]; rfl, rfl⟩
    | succ k =>
      have hs := accP_step a b k
      have h3 := accP_lt a b (k + 1) ha HB.out hk
      have hp : 2 ^ (64 - (k + 1)) ≤ 9223372036854775808 := by
        have := Nat.pow_le_pow_right (n := 2) (by decide) (show 64 - (k + 1) ≤ 63 by omega)
        exact this
      have hh2 : h < 9223372036854775808 := by
        have := h3.1
        have h5 : h * 18446744073709551616 < 18446744073709551616 * 2 ^ (64 - (k + 1)) := by omega
        have h6 : h < 2 ^ (64 - (k + 1)) := by
          rw [Nat.mul_comm] at h5
          exact Nat.lt_of_mul_lt_mul_left h5
        omega
      clear h3 hp
      have hi : ((k + 1 : Nat) : Int) - 1 = (k : Int) := by omega
      rw [hi]
      obtain ⟨t, ht⟩ : ∃ t, t = l / 9223372036854775808 := ⟨_, rfl⟩
      have ht1 : t ≤ 1 := by omega
      have hor := bits_or_u64_nat (2 * h) t (by omega) (by omega)
      rw [bit_add h t ht1] at hor
      obtain ⟨h', hh'⟩ : ∃ x, x = 2 * h + t := ⟨_, rfl⟩
      obtain ⟨l', hl'⟩ : ∃ x, x = l * 2 % 18446744073709551616 := ⟨_, rfl⟩
      obtain ⟨c, hc⟩ : ∃ x, x = b / 2 ^ k % 2 := ⟨_, rfl⟩
      have hand := bits_and_u64_nat (b / 2 ^ k) 1 (Nat.lt_of_le_of_lt (Nat.div_le_self _ _) HB.out) (by decide)
      rw [Nat.and_one_is_mod, ← hc] at hand
      have hcast : ((b / 2 ^ k : Nat) : Int) = (b : Int) / 2 ^ k := by simp
      rw [hcast] at hand
      have e1 : ((2 * h : Nat) : Int) = (h : Int) * 2 := by omega
      have e2 : ((t : Nat) : Int) = (l : Int) / 9223372036854775808 := by omega
      rw [e1, e2, ← hh'] at hor
      have e3 : IntKind.u64.wrap ((l : Int) * 2) = (l' : Int) := by rw [IntKind.wrap_u64]; omega
      have hl2 : l' < 18446744073709551616 := by omega
      have hh3 : h' < 18446744073709551616 := by omega
      have hc1 : c = 0 ∨ c = 1 := by omega
      have hand2 : bits .and .u64 ((b : Int) / 2 ^ k) 1 = (c : Int) := hand
      clear hand hcast e1 e2
      rw [← hc] at hs
      have hacc2 := dbl h l t h' l' _ hacc ht hh' hl'
      clear hc hh' hl' ht ht1 hacc hh hl
      rcases hc1 with rfl | rfl
      · have HF : Hid (h' * 18446744073709551616 + l' = accP a b k) := by unfold Hid; rw [hacc2, hs, Nat.mul_zero]; rfl
        clear hacc2 hs
        go_wp2_with fail
        go_round
        case rel => exact ⟨k, h', l', by omega, hl2, hh3, HF.out, rfl, rfl, by go_num⟩
        case measure => simp [intOf]
      · have h3 := (accP_lt a b k ha HB.out (by omega)).1
        have hpw : 2 ^ (64 - k) ≤ 18446744073709551616 := Nat.pow_le_pow_right (n := 2) (by decide) (show 64 - k ≤ 64 by omega)
        rw [Nat.mul_one] at hs
        obtain ⟨l2, hl3⟩ : ∃ x, x = (l' + a) % 18446744073709551616 := ⟨_, rfl⟩
        have e4 : IntKind.u64.wrap ((l' : Int) + (a : Int)) = (l2 : Int) := by rw [IntKind.wrap_u64]; omega
        have hl4 : l2 < 18446744073709551616 := by omega
        by_cases hov : l2 < l'
        · have hov' : (l2 : Int) < (l' : Int) := by omega
          have hfin := plus_over h' l' a l2 _ _ hl2 ha hacc2 hs hl3 hov
          have h9 : h' + 1 < 18446744073709551616 := top_lt _ _ _ hfin (Nat.lt_of_lt_of_le h3 (Nat.mul_le_mul_left _ hpw))
          have e5 : IntKind.u64.wrap ((h' : Int) + 1) = ((h' + 1 : Nat) : Int) := by rw [IntKind.wrap_u64]; omega
          have HF : Hid ((h' + 1) * 18446744073709551616 + l2 = accP a b k) := hfin
          clear hacc2 hs h3 hpw hl3 hfin
          go_wp2_with fail
          go_round
          case rel => exact ⟨k, h' + 1, l2, by omega, hl4, h9, HF.out, rfl, rfl, by go_num⟩
          case measure => simp [intOf]
        · have hov' : ¬ (l2 : Int) < (l' : Int) := by omega
          have HF : Hid (h' * 18446744073709551616 + l2 = accP a b k) := plus_in h' l' a l2 _ _ hl2 ha hacc2 hs hl3 hov
          clear hacc2 hs h3 hpw hl3
          go_wp2_with fail
          go_round
          case rel => exact ⟨k, h', l2, by omega, hl4, hh3, HF.out, rfl, rfl, by go_num⟩
          case measure => simp [intOf]
end Go.Proofs.YthnpdlbcdaodkaaDoor
