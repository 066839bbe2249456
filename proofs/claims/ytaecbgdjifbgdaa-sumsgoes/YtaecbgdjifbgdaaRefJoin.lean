/-
  The document's Join and Table: steps as 32 numbers, done, done twice, joined by halves of n.
-/
import Derived.Test.YtaecbgdjifbgdaaRef
import Derived.Deep.RegionHeld3
namespace Go.Proofs.Ytaecbgdjifbgdaa
open Go.RowKit

def stpC (m k : Nat) : Array Value := ((List.range 32).map fun i => Value.int .u32 ((if i < k then Sn m (2 ^ i) else 0 : Nat) : Int)).toArray
theorem stpC_zero (m : Nat) : stpC m 0 = Array.replicate 32 (.int .u32 0) := by
  unfold stpC
  apply Array.ext
  · simp
  · intro i h1 h2; simp
theorem stpC_size (m k : Nat) : (stpC m k).size = 32 := by simp [stpC]
theorem stpC_at (m k i : Nat) (h : i < 32) : (stpC m k)[i]? = some (.int .u32 ((if i < k then Sn m (2 ^ i) else 0 : Nat) : Int)) := by
  simp [stpC, h]
theorem stpC_set (m k : Nat) : (stpC m k).setIfInBounds k (.int .u32 (Sn m (2 ^ k) : Nat)) = stpC m (k + 1) := by
  apply Array.ext
  · simp [stpC]
  · intro i h1 h2
    simp only [stpC, List.setIfInBounds_toArray, List.getElem_toArray, List.getElem_set, List.getElem_map, List.getElem_range]
    by_cases e : k = i
    · subst e; simp
    · rw [if_neg e]
      by_cases hik : i < k
      · rw [if_pos hik, if_pos (show i < k + 1 by omega)]
      · rw [if_neg hik, if_neg (show ¬ i < k + 1 by omega)]
theorem stpC_one (m k : Nat) : (stpC m k).all (·.oneCell') = true := by
  unfold stpC
  rw [Array.all_eq_true_iff_forall_mem]
  intro v hv
  simp at hv
  obtain ⟨i, _, rfl⟩ := hv
  rfl
theorem info50 : (Try.prog.info? 50).map (fun i => (i.zero, i.size)) = some (some (.agg (Array.replicate 32 (.int .u32 0))), 32) := by kernel_rfl

theorem mulpow_xor (x y k : Nat) : (x ^^^ y) * 2 ^ k = x * 2 ^ k ^^^ y * 2 ^ k := by
  induction k with
  | zero => simp
  | succ k ih =>
    rw [Nat.pow_succ, ← Nat.mul_assoc, ← Nat.mul_assoc, ← Nat.mul_assoc, ih, Nat.mul_comm _ 2, mul2_xor, Nat.mul_comm 2, Nat.mul_comm 2]
theorem half_bits (q k : Nat) : q * 2 ^ k = q / 2 * 2 ^ (k + 1) ^^^ q % 2 * 2 ^ k := by
  conv => lhs; rw [split2 q, mulpow_xor]
  rw [Nat.pow_succ, Nat.mul_comm 2 (q / 2), Nat.mul_assoc, Nat.mul_comm 2]
theorem half_lt (q k : Nat) (hk : k < 32) (h : q < 2 ^ (32 - k)) : q / 2 < 2 ^ (32 - (k + 1)) := by
  have : 2 ^ (32 - k) = 2 ^ (32 - (k + 1)) * 2 := by rw [← Nat.pow_succ]; congr 1; omega
  omega
theorem pow_le32 (k : Nat) : 2 ^ (32 - k) ≤ 4294967296 := Nat.pow_le_pow_right (n := 2) (by decide) (show 32 - k ≤ 32 by omega)
set_option maxHeartbeats 1000000 in
theorem doneS (m x : Nat) (w : World) (hx : x < 4294967296) :
    Calls Try.prog 32 #[.agg (stpC m 32), .int .u32 x] w fun e w' => e = .returned (.int .u32 (Sn m x)) ∧ Up w w' := by
  go_enter Try.func32, Try.ntmps32
  go_wp2_with fail
  go_loop [1, 5, 6] (fun s1 s5 s6 => ∃ k q y : Nat, k ≤ 32 ∧ q < 2 ^ (32 - k) ∧ y < 4294967296 ∧ y ^^^ Sn m (q * 2 ^ k) = Sn m x ∧ s1 = .int .u32 q ∧ s5 = .int .u32 y ∧ s6 = .int .i64 k) (fun _ _ i => 32 - (intOf i).toNat)
  case atStart => exact ⟨0, x, 0, by omega, hx, by decide, by rw [Nat.pow_zero, Nat.mul_one, Nat.zero_xor], rfl, rfl, rfl⟩
  case round =>
    obtain ⟨k, q, y, hk, hq, hy, hm, rfl, rfl, rfl⟩ := hrel
    have HM : Hid (y ^^^ Sn m (q * 2 ^ k) = Sn m x) := hm
    have hq2 : q < 4294967296 := Nat.lt_of_lt_of_le hq (pow_le32 k)
    have HQ : Hid (q < 2 ^ (32 - k)) := hq
    clear hm hq
    by_cases hlt : k < 32
    · have hki : (k : Int) < 32 := by omega
      have HQ2 : Hid (q / 2 < 2 ^ (32 - (k + 1))) := half_lt q k hlt HQ.out
      have hcell := stpC_at m 32 k hlt
      rw [if_pos hlt] at hcell
      have hb := half_bits q k
      have hsl : Sn m (2 ^ k) < 4294967296 := Sn_lt (Nat.lt_of_lt_of_le (Nat.pow_lt_pow_right (by decide) hlt) (Nat.le_refl (2 ^ 32)))
      rcases Nat.mod_two_eq_zero_or_one q with hx2 | hx2
      · have hd : (q : Int) % 2 = 0 := by omega
        have HN : Hid (y ^^^ Sn m (q / 2 * 2 ^ (k + 1)) = Sn m x) := by
          have := HM.out; rw [hb, hx2, Nat.zero_mul, Nat.xor_zero] at this; exact this
        clear hx2 hb HM
        generalize Sn m (2 ^ k) = t at *
        generalize stpC m 32 = C at *
        go_wp2
        go_round
        case rel => exact ⟨k + 1, q / 2, y, by omega, HQ2.out, hy, HN.out, by go_num, rfl, by go_num⟩
        case measure => simp [intOf]; omega
      · have hd : (q : Int) % 2 = 1 := by omega
        have HN : Hid ((y ^^^ Sn m (2 ^ k)) ^^^ Sn m (q / 2 * 2 ^ (k + 1)) = Sn m x) := by
          have := HM.out; rw [hb, hx2, Nat.one_mul, Sn_xor, Nat.xor_comm (Sn m (q / 2 * 2 ^ (k + 1))), ← Nat.xor_assoc] at this; exact this
        clear hx2 hb HM
        have e2 := xor_u32 y _ hy hsl
        have hy2 := xor_lt32 hy hsl
        generalize Sn m (2 ^ k) = t at *
        generalize stpC m 32 = C at *
        generalize y ^^^ t = y2 at *
        go_wp2
        go_round
        case rel => exact ⟨k + 1, q / 2, y2, by omega, HQ2.out, hy2, HN.out, by go_num, rfl, by go_num⟩
        case measure => simp [intOf]; omega
    · obtain rfl : k = 32 := by omega
      have HE : Hid (y = Sn m x) := by
        have h1 := HQ.out
        have h0 : q = 0 := by simpa using h1
        have := HM.out
        rw [h0, Nat.zero_mul, Sn_nil, Nat.xor_zero] at this
        exact this
      go_wp2
      go_ret
      exact ⟨ret_int (by rw [HE.out]), (Up.refl _).alloc _⟩
end Go.Proofs.Ytaecbgdjifbgdaa
