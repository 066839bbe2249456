/-
  What the small functions of package sums and of the document's answer do to a number: one shift, eight shifts, products, all bits turned, two sums joined; memory stands as it stood.
-/
import Derived.Test.YtaecbgdjifbgdaaProg
import Derived.Test.YtaecbgdjifbgdaaPoly
import Derived.WalkSpells
import Derived.WalkLawsBesides
import Derived.Handy
import Derived.Below
namespace Go.Proofs.Ytaecbgdjifbgdaa
open Go.RowKit

theorem ret_int {k : IntKind} {a b : Int} (h : a = b) : Ending.returned (.int k a) = .returned (.int k b) := by rw [h]
def Up (w w' : World) : Prop := Below w.heap.size w w'
theorem Up.refl (w : World) : Up w w := Below.refl _ _
theorem Up.trans {a b c : World} (h : Up a b) (k : Up b c) : Up a c := Below.trans h (Below.mono k h.size)
theorem Up.alloc {a w : World} (h : Up a w) (o : Obj) : Up a (w.alloc o) := Below.alloc h h.size o
theorem Up.drew {a w : World} (h : Up a w) : Up a w.drew := Below.drew h
theorem Up.cell {w w' : World} (h : Up w w') {p : Addr} {v : Value} (hc : w.cell? p = some v) : w'.cell? p = some v := by
  rw [Below.cell h (World.block_lt_of_cell? w p hc)]; exact hc

theorem and1_u32 (n : Nat) (h : n < 4294967296) : bits .and .u32 (n : Int) 1 = ((n % 2 : Nat) : Int) := by
  have := u32_and_nat n 1 h (by decide)
  rw [Nat.and_one_is_mod] at this
  exact this
theorem xor_u32 (a b : Nat) (ha : a < 4294967296) (hb : b < 4294967296) : bits .xor .u32 (a : Int) (b : Int) = ((a ^^^ b : Nat) : Int) := u32_xor_nat a b ha hb

set_option maxHeartbeats 400000 in
theorem shifted (n : Nat) (w : World) (h : n < 4294967296) :
    Calls Try.prog 34 #[.int .u32 n] w fun e w' => e = .returned (.int .u32 (S n)) ∧ w' = w := by
  have e1 := and1_u32 n h
  rcases Nat.mod_two_eq_zero_or_one n with hx | hx
  · rw [hx] at e1
    rw [S_even n hx]
    go_enter Try.func34, Try.ntmps34
    go_wp2
    go_ret
    exact ⟨rfl, rfl⟩
  · rw [hx] at e1
    rw [S_odd n hx]
    have e2 := xor_u32 (n / 2) 3988292384 (by omega) (by decide)
    go_enter Try.func34, Try.ntmps34
    go_wp2
    go_ret
    refine ⟨ret_int ?_, rfl⟩
    exact e2

theorem mulL_step (k a y p : Nat) : mulL (k + 1) a y p = mulL k (a * 2 % 4294967296) (S y) (if a / 2147483648 % 2 = 1 then p ^^^ y else p) := rfl
set_option maxHeartbeats 400000 in
theorem times (a b : Nat) (w : World) (ha : a < 4294967296) (hb : b < 4294967296) :
    Calls Try.prog 31 #[.int .u32 a, .int .u32 b] w fun e w' => e = .returned (.int .u32 (mul a b)) ∧ w' = w := by
  go_enter Try.func31, Try.ntmps31
  go_wp2_with fail
  go_loop [0, 1, 5, 6] (fun s0 s1 s5 s6 => ∃ k x y p : Nat, k ≤ 32 ∧ x < 4294967296 ∧ y < 4294967296 ∧ p < 4294967296 ∧ mulL k x y p = mul a b ∧ s0 = .int .u32 x ∧ s1 = .int .u32 y ∧ s5 = .int .u32 p ∧ s6 = .int .i64 ((32 - k : Nat) : Int)) (fun _ _ _ i => 32 - (intOf i).toNat)
  case atStart => exact ⟨32, a, b, 0, by omega, ha, hb, by decide, rfl, rfl, rfl, rfl, rfl⟩
  case round =>
    obtain ⟨k, x, y, p, hk, hx, hy, hp, hm, rfl, rfl, rfl, rfl⟩ := hrel
    have HM : Hid (mulL k x y p = mul a b) := hm
    clear hm
    cases k with
    | zero =>
      have HP : Hid (p = mul a b) := HM.out
      go_wp2
      go_ret
      exact ⟨ret_int (by rw [HP.out]), rfl⟩
    | succ k =>
      have hy' := S_lt hy
      have hi : ((32 - (k + 1) : Nat) : Int) = 31 - (k : Int) := by omega
      rw [hi]
      have ht : x / 2147483648 = 0 ∨ x / 2147483648 = 1 := by omega
      have w1 : IntKind.u32.wrap ((x : Int) * 2) = ((x * 2 % 4294967296 : Nat) : Int) := by rw [IntKind.wrap_u32']; omega
      have hk31 : (31 - (k : Int) < 32) := by omega
      rcases ht with ht | ht
      · have hd : ((x : Int) / 2147483648) = 0 := by omega
        have HN : Hid (mulL k (x * 2 % 4294967296) (S y) p = mul a b) := by
          have := HM.out; rw [mulL_step, ht, if_neg (by decide)] at this; exact this
        clear ht HM
        go_wp2_with (go_at_call 34; refine (shifted y _ hy).mono ?_; rintro e w' ⟨rfl, rfl⟩)
        go_round
        case rel => exact ⟨k, x * 2 % 4294967296, S y, p, by omega, by omega, hy', hp, HN.out, by first | rfl | rw [w1], rfl, rfl, by go_num⟩
        case measure => simp [intOf]; omega
      · have hd : ((x : Int) / 2147483648) = 1 := by omega
        have HN : Hid (mulL k (x * 2 % 4294967296) (S y) (p ^^^ y) = mul a b) := by
          have := HM.out; rw [mulL_step, ht, if_pos (by decide)] at this; exact this
        have e2 := xor_u32 p y hp hy
        have hpy := xor_lt32 hp hy
        clear ht HM
        go_wp2_with (go_at_call 34; refine (shifted y _ hy).mono ?_; rintro e w' ⟨rfl, rfl⟩)
        go_round
        case rel => exact ⟨k, x * 2 % 4294967296, S y, p ^^^ y, by omega, by omega, hy', hpy, HN.out, by first | rfl | rw [w1], rfl, rfl, by go_num⟩
        case measure => simp [intOf]; omega

theorem and1_i64 (n : Nat) (h : n < 9223372036854775808) : bits .and .i64 (n : Int) 1 = ((n % 2 : Nat) : Int) := by
  show IntKind.i64.wrap ((BitVec.ofInt 64 (n : Int) &&& BitVec.ofInt 64 1).toNat : Int) = _
  have h1 : (BitVec.ofInt 64 (n : Int)).toNat = n := by
    rw [BitVec.ofInt_natCast, BitVec.toNat_ofNat]; exact Nat.mod_eq_of_lt (by omega)
  have h2 : (BitVec.ofInt 64 1).toNat = 1 := by decide
  rw [BitVec.toNat_and, h1, h2, Nat.and_one_is_mod]
  exact IntWalk.i64_in _ ⟨by omega, by omega⟩
set_option maxHeartbeats 400000 in
theorem joinLow (a b : Nat) (n : Int) (w : World) (hn : n < 0) :
    Calls Try.prog 19 #[.int .u32 a, .int .u32 b, .int .i64 n] w fun e w' => e = .returned (.int .u32 0) ∧ w' = w := by
  go_enter Try.func19, Try.ntmps19
  go_wp2
  go_ret
  exact ⟨rfl, rfl⟩
theorem half_odd (m l : Nat) (h : l % 2 = 1) : m * l = m + (m + m) * (l / 2) := by
  have : l = 2 * (l / 2) + 1 := by omega
  conv => lhs; rw [this]
  rw [Nat.mul_add, Nat.mul_one, ← Nat.mul_assoc, Nat.mul_comm m 2, Nat.two_mul, Nat.add_comm]
theorem half_even (m l : Nat) (h : l % 2 = 0) : m * l = (m + m) * (l / 2) := by
  have : l = 2 * (l / 2) := by omega
  conv => lhs; rw [this]
  rw [← Nat.mul_assoc, Nat.mul_comm m 2, Nat.two_mul]
set_option maxHeartbeats 400000 in
theorem join (a b n : Nat) (w : World) (ha : a < 4294967296) (hb : b < 4294967296) (hn : n < 9223372036854775808) :
    Calls Try.prog 19 #[.int .u32 a, .int .u32 b, .int .i64 n] w fun e w' => e = .returned (.int .u32 (Sn (8 * n) a ^^^ b : Nat)) ∧ w' = w := by
  go_enter Try.func19, Try.ntmps19
  go_wp2_with fail
  go_loop [0, 7, 8] (fun s0 s7 s8 => ∃ l x m : Nat, l < 9223372036854775808 ∧ x < 4294967296 ∧ Sn (m * l) x = Sn (8 * n) a ∧ s0 = .int .u32 x ∧ s7 = .int .u32 (Sn m 2147483648) ∧ s8 = .int .i64 l) (fun _ _ i => (intOf i).toNat)
  case atStart => exact ⟨n, a, 8, hn, ha, rfl, rfl, by rw [byteOn]; rfl, rfl⟩
  case round =>
    obtain ⟨l, x, m, hl, hx, hm, rfl, rfl, rfl⟩ := hrel
    have HM : Hid (Sn (m * l) x = Sn (8 * n) a) := hm
    clear hm
    by_cases h0 : l = 0
    · subst h0
      have HP : Hid (x = Sn (8 * n) a) := HM.out
      have e2 := xor_u32 x b hx hb
      go_wp2
      go_ret
      exact ⟨ret_int (by first | rw [HP.out] | rw [e2, HP.out]), rfl⟩
    · have e1 := and1_i64 l hl
      have hy : Sn m 2147483648 < 4294967296 := Sn_lt (by decide)
      have HS : Hid (mul (Sn m 2147483648) (Sn m 2147483648) = Sn (m + m) 2147483648) := by unfold Hid; rw [mul_Sn m hy, ← Sn_add]
      have hq : mul x (Sn m 2147483648) < 4294967296 := mul_lt hy
      have HQ : Hid (mul x (Sn m 2147483648) = Sn m x) := mul_Sn m hx
      have hpos : (0 : Int) < (l : Int) := by omega
      generalize Sn m 2147483648 = y at *
      rcases Nat.mod_two_eq_zero_or_one l with hx2 | hx2
      · rw [hx2] at e1
        have HN : Hid (Sn ((m + m) * (l / 2)) x = Sn (8 * n) a) := by
          have := HM.out; rw [half_even m l hx2] at this; exact this
        clear hx2
        go_wp2_with (go_at_call 31; refine (times y y _ hy hy).mono ?_; rintro e w' ⟨rfl, rfl⟩)
        go_round
        case rel => exact ⟨l / 2, x, m + m, by omega, hx, HN.out, rfl, by rw [HS.out], by go_num⟩
        case measure => simp [intOf]; omega
      · rw [hx2] at e1
        have HN : Hid (Sn ((m + m) * (l / 2)) (mul x y) = Sn (8 * n) a) := by
          have := HM.out; rw [half_odd m l hx2, Sn_add] at this; unfold Hid; rw [HQ.out]; exact this
        clear hx2
        go_wp2_with fail
        refine (times x y _ hx hy).mono ?_
        rintro e w' ⟨rfl, rfl⟩
        go_wp2_with fail
        refine (times y y _ hy hy).mono ?_
        rintro e w' ⟨rfl, rfl⟩
        go_wp2
        go_round
        case rel => exact ⟨l / 2, mul x y, m + m, by omega, hq, HN.out, rfl, by rw [HS.out], by go_num⟩
        case measure => simp [intOf]; omega

set_option maxHeartbeats 400000 in
theorem turned (n : Nat) (w : World) (h : n < 4294967296) :
    Calls Try.prog 29 #[.int .u32 n] w fun e w' => e = .returned (.int .u32 (n ^^^ 4294967295 : Nat)) ∧ w' = w := by
  have e2 := xor_u32 n 4294967295 h (by decide)
  go_enter Try.func29, Try.ntmps29
  go_wp2
  go_ret
  exact ⟨ret_int e2, rfl⟩
set_option maxHeartbeats 400000 in
theorem shifted8 (n : Nat) (w : World) (h : n < 4294967296) :
    Calls Try.prog 30 #[.int .u32 n] w fun e w' => e = .returned (.int .u32 (Sn 8 n)) ∧ w' = w := by
  go_enter Try.func30, Try.ntmps30
  go_wp2_with fail
  go_loop [0, 3] (fun s0 s3 => ∃ k x : Nat, k ≤ 8 ∧ x < 4294967296 ∧ Sn k x = Sn 8 n ∧ s0 = .int .u32 x ∧ s3 = .int .i64 ((8 - k : Nat) : Int)) (fun _ i => 8 - (intOf i).toNat)
  case atStart => exact ⟨8, n, by omega, h, rfl, rfl, rfl⟩
  case round =>
    obtain ⟨k, x, hk, hx, hm, rfl, rfl⟩ := hrel
    have HM : Hid (Sn k x = Sn 8 n) := hm
    clear hm
    cases k with
    | zero =>
      have HP : Hid (x = Sn 8 n) := HM.out
      go_wp2
      go_ret
      exact ⟨ret_int (by rw [HP.out]), rfl⟩
    | succ k =>
      have hi : ((8 - (k + 1) : Nat) : Int) = 7 - (k : Int) := by omega
      rw [hi]
      have hk8 : (7 - (k : Int) < 8) := by omega
      have HN : Hid (Sn k (S x) = Sn 8 n) := HM.out
      have hs := S_lt hx
      rcases Nat.mod_two_eq_zero_or_one x with hx2 | hx2
      · have HS : Hid (S x = x / 2) := S_even x hx2
        have hd : (x : Int) % 2 = 0 := by omega
        clear hx2
        go_wp2
        go_round
        case rel => exact ⟨k, S x, by omega, hs, HN.out, by rw [HS.out]; rfl, by go_num⟩
        case measure => simp [intOf]; omega
      · have HS : Hid (S x = x / 2 ^^^ 3988292384) := S_odd x hx2
        have hd : (x : Int) % 2 = 1 := by omega
        have e2 := xor_u32 (x / 2) 3988292384 (by omega) (by decide)
        clear hx2
        go_wp2
        go_round
        case rel => exact ⟨k, S x, by omega, hs, HN.out, by rw [HS.out]; first | rfl | (rw [← e2]; rfl), by go_num⟩
        case measure => simp [intOf]; omega
end Go.Proofs.Ytaecbgdjifbgdaa
