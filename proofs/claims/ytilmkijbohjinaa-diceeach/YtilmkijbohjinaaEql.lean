/-
  Lists of ints in memory, two held against each other; products bit by bit; that dice live.
-/
import Derived.Test.YtilmkijbohjinaaOrdr
namespace Go.Proofs.Ytilmkijbohjinaa
open Go.RowKit

theorem Up.drewN {a w : World} (h : Up a w) (n : Nat) : Up a (w.drewN n) := ⟨h.os, h.tape, h.output, h.size, h.block⟩
def LiesI (W : World) (v : Value) (zs : List Int) : Prop := ∃ a cap, v = .slice a zs.length cap ∧ (zs.length ≠ 0 → ∃ b off, a = some ⟨b, off, none⟩ ∧ ∀ i, i < zs.length → W.cell? ⟨b, off + i, none⟩ = some (.int .i64 (zs.getD i 0)))
theorem LiesI.up {w w' : World} {v : Value} {zs : List Int} (h : LiesI w v zs) (u : Up w w') : LiesI w' v zs := by
  obtain ⟨a, cap, rfl, h⟩ := h
  refine ⟨a, cap, rfl, fun hn => ?_⟩
  obtain ⟨b, off, ha, hc⟩ := h hn
  exact ⟨b, off, ha, fun i hi => u.cell (hc i hi)⟩
def intsOf (l : List Nat) : List Int := l.map fun (x : Nat) => (x : Int)
theorem intsOf_len (l : List Nat) : (intsOf l).length = l.length := by simp [intsOf]
theorem intsOf_getD (l : List Nat) (i : Nat) : (intsOf l).getD i 0 = ((l.getD i 0 : Nat) : Int) := by
  unfold intsOf
  by_cases h : i < l.length
  · simp [List.getD, h]
  · simp [List.getD, h]
theorem RowI.lies {W : World} {g : Nat} {l : List Nat} (h : RowI W g l) (cap : Nat) : LiesI W (.slice (some ⟨g, 0, none⟩) l.length cap) (intsOf l) := by
  refine ⟨_, cap, by rw [intsOf_len], fun _ => ⟨g, 0, rfl, fun i hi => ?_⟩⟩
  rw [Nat.zero_add, h.cell i (by rw [← intsOf_len]; exact hi), intsOf_getD]
theorem getD_ext {zs ys : List Int} (hl : zs.length = ys.length) (h : ∀ j, j < zs.length → zs.getD j 0 = ys.getD j 0) : zs = ys := by
  apply List.ext_getElem hl
  intro i h1 h2
  have := h i h1
  simpa [List.getD, h1, h2] using this
set_option maxHeartbeats 400000 in
theorem eqInts (v u : Value) (zs ys : List Int) (w : World) (hv : LiesI w v zs) (hu : LiesI w u ys) (hm : zs.length ≤ 4611686018427387904) :
    Calls Try.prog 21 #[v, u] w fun e w' => e = .returned (.bool (decide (zs = ys))) ∧ Up w w' := by
  obtain ⟨a, cap, rfl, h1⟩ := hv
  obtain ⟨a2, cap2, rfl, h2⟩ := hu
  by_cases hl : zs.length = ys.length
  · have H1 : Hid (zs.length ≠ 0 → ∃ b off, a = some ⟨b, off, none⟩ ∧ ∀ i, i < zs.length → w.cell? ⟨b, off + i, none⟩ = some (.int .i64 (zs.getD i 0))) := h1
    have H2 : Hid (ys.length ≠ 0 → ∃ b off, a2 = some ⟨b, off, none⟩ ∧ ∀ i, i < ys.length → w.cell? ⟨b, off + i, none⟩ = some (.int .i64 (ys.getD i 0))) := h2
    clear h1 h2
    obtain ⟨n, hn⟩ : ∃ n, n = zs.length := ⟨_, rfl⟩
    obtain ⟨r, hr⟩ : ∃ r, r = decide (zs = ys) := ⟨_, rfl⟩
    rw [← hr, ← hl, ← hn]
    have HN : Hid (n = zs.length) := hn
    have HL : Hid (zs.length = ys.length) := hl
    have HR : Hid (r = decide (zs = ys)) := hr
    rw [← hn] at hm
    clear hn hl hr
    have e0 : ((n : Int) == (n : Int)) = true := by simp
    go_enter Try.func21, Try.ntmps21
    go_wp2_with fail
    go_loopw [5] (fun i wr => ∃ k : Nat, k ≤ n ∧ i = .int .i64 k ∧ (∀ j, j < k → zs.getD j 0 = ys.getD j 0) ∧ Up w wr) (fun i _ => n - (intOf i).toNat)
    case atStart => exact ⟨0, Nat.zero_le _, rfl, fun j hj => absurd hj (Nat.not_lt_zero _), Up.refl _⟩
    case round =>
      obtain ⟨k, hk, rfl, hall, hup⟩ := hrel
      have HALL : Hid (∀ j, j < k → zs.getD j 0 = ys.getD j 0) := hall
      clear hall
      by_cases hlt : k < n
      · have hki : (k : Int) < (n : Int) := by omega
        obtain ⟨b, off, rfl, hc⟩ := H1.out (by have := HN.out; omega)
        obtain ⟨b2, off2, rfl, hc2⟩ := H2.out (by have := HN.out; have := HL.out; omega)
        have c1 := hup.cell (hc k (by have := HN.out; omega))
        have c2 := hup.cell (hc2 k (by have := HN.out; have := HL.out; omega))
        clear hc hc2
        obtain ⟨x, hx⟩ : ∃ x, x = zs.getD k 0 := ⟨_, rfl⟩
        obtain ⟨y, hy⟩ : ∃ y, y = ys.getD k 0 := ⟨_, rfl⟩
        rw [← hx] at c1
        rw [← hy] at c2
        have HX : Hid (x = zs.getD k 0) := hx
        have HY : Hid (y = ys.getD k 0) := hy
        clear hx hy
        by_cases hxy : x = y
        · subst hxy
          have e1 : (x == x) = true := by simp
          go_wp2_with fail
          go_quiet (fail)
          go_wp2
          go_roundw
          case rel =>
            have hq : ∀ j, j < k + 1 → zs.getD j 0 = ys.getD j 0 := by
              intro j hj
              by_cases e : j = k
              · subst e; rw [← HX.out, ← HY.out]
              · exact HALL.out j (by omega)
            first | exact ⟨k + 1, by omega, by go_num, hq, Up.drewN hup _⟩ | ((repeat apply Exists.intro); exact ⟨⟨k + 1, by omega, by go_num, hq, Up.drewN hup _⟩, rfl⟩)
          case measure => simp [intOf]; omega
        · have e1 : (x == y) = false := by simpa using hxy
          have hne : r = false := by
            rw [HR.out]
            apply decide_eq_false
            intro e
            exact hxy (by rw [HX.out, HY.out, e])
          have HE : Hid (r = false) := hne
          clear hne
          go_wp2_with fail
          go_quiet (fail)
          go_wp2
          go_ret
          exact ⟨by rw [HE.out]; rfl, Up.drewN hup _⟩
      · obtain rfl : k = n := by omega
        have hne : r = true := by
          rw [HR.out]
          apply decide_eq_true
          exact getD_ext HL.out (fun j hj => HALL.out j (by have := HN.out; omega))
        have HE : Hid (r = true) := hne
        clear hne
        go_wp2
        go_ret
        exact ⟨by rw [HE.out]; rfl, hup⟩
  · have hf : decide (zs = ys) = false := decide_eq_false (fun e => hl (by rw [e]))
    rw [hf]
    have e0 : ((zs.length : Int) == (ys.length : Int)) = false := by
      simp; omega
    generalize zs.length = n1 at *
    generalize ys.length = n2 at *
    clear h1 h2
    go_enter Try.func21, Try.ntmps21
    go_wp2
    go_ret
    exact ⟨rfl, Up.refl _⟩
/- products bit by bit -/
theorem bit_add (p x : Nat) (hx : x ≤ 1) : (2 * p) ||| x = 2 * p + x := by
  have := Nat.two_pow_add_eq_or_of_lt (i := 1) (b := x) (by omega) p
  rw [Nat.pow_one] at this
  exact this.symm
theorem shl1 (x : Nat) : IntKind.u64.wrap ((x : Int) * 2) = ((x * 2 % 18446744073709551616 : Nat) : Int) := by rw [IntKind.wrap_u64]; omega
def accP (a b k : Nat) : Nat := a * (b / 2 ^ k)
theorem accP_step (a b k : Nat) : accP a b k = 2 * accP a b (k + 1) + a * (b / 2 ^ k % 2) := by
  unfold accP
  have : b / 2 ^ k = 2 * (b / 2 ^ (k + 1)) + b / 2 ^ k % 2 := by
    rw [Nat.pow_succ, ← Nat.div_div_eq_div_mul]
    omega
  conv => lhs; rw [this]
  rw [Nat.mul_add, ← Nat.mul_assoc, Nat.mul_comm a 2, Nat.mul_assoc]
theorem accP_lt (a b k : Nat) (ha : a < 18446744073709551616) (hb : b < 18446744073709551616) (hk : k ≤ 64) : accP a b k < 18446744073709551616 * 2 ^ (64 - k) ∧ 2 ^ (64 - k) * 2 ^ k = 18446744073709551616 := by
  have e : 2 ^ (64 - k) * 2 ^ k = 18446744073709551616 := by rw [← Nat.pow_add, show 64 - k + k = 64 by omega]
  refine ⟨?_, e⟩
  unfold accP
  have h1 : b / 2 ^ k < 2 ^ (64 - k) := (Nat.div_lt_iff_lt_mul (Nat.two_pow_pos k)).2 (by rw [e]; exact hb)
  exact Nat.mul_lt_mul_of_lt_of_le ha (Nat.le_of_lt h1) (by have := Nat.two_pow_pos (64 - k); omega)
theorem dbl (h l t h' l' A : Nat) (hacc : h * 18446744073709551616 + l = A) (ht : t = l / 9223372036854775808) (hh' : h' = 2 * h + t) (hl' : l' = l * 2 % 18446744073709551616) : h' * 18446744073709551616 + l' = 2 * A := by
  subst hacc ht hh' hl'; omega
theorem plus_over (h' l' a l2 A C : Nat) (hl2 : l' < 18446744073709551616) (ha : a < 18446744073709551616) (h : h' * 18446744073709551616 + l' = A) (hC : C = A + a) (hl3 : l2 = (l' + a) % 18446744073709551616) (hov : l2 < l') : (h' + 1) * 18446744073709551616 + l2 = C := by
  subst hC h hl3; omega
theorem plus_in (h' l' a l2 A C : Nat) (hl2 : l' < 18446744073709551616) (ha : a < 18446744073709551616) (h : h' * 18446744073709551616 + l' = A) (hC : C = A + a) (hl3 : l2 = (l' + a) % 18446744073709551616) (hov : ¬ l2 < l') : h' * 18446744073709551616 + l2 = C := by
  subst hC h hl3; omega
theorem top_lt (x y C : Nat) (h : x * 18446744073709551616 + y = C) (hC : C < 18446744073709551616 * 18446744073709551616) : x < 18446744073709551616 := by
  subst h; omega
set_option maxHeartbeats 1000000 in
theorem rproduct (a b : Nat) (ha : a < 18446744073709551616) (hb : b < 18446744073709551616) (w : World) :
    Calls Try.prog 8 #[.int .u64 a, .int .u64 b] w fun e w' => e = .returned (.tuple #[.int .u64 (hiP a b : Nat), .int .u64 (loP a b : Nat)]) ∧ w' = w := by
  have HH : Hid (accP a b 0 = a * b) := by unfold Hid accP; rw [Nat.pow_zero, Nat.div_one]
  have HB : Hid (b < 18446744073709551616) := hb
  go_enter Try.func8, Try.ntmps8
  go_wp2_with fail
  go_loop [6, 7, 8] (fun s6 s7 s8 => ∃ (k h l : Nat), k ≤ 64 ∧ l < 18446744073709551616 ∧ h < 18446744073709551616 ∧ h * 18446744073709551616 + l = accP a b k ∧ s6 = .int .u64 h ∧ s7 = .int .u64 l ∧ s8 = .int .i64 ((k : Int) - 1)) (fun _ _ i => ((intOf i) + 1).toNat)
  case atStart =>
    refine ⟨64, 0, 0, Nat.le_refl _, by decide, by decide, ?_, rfl, rfl, rfl⟩
    unfold accP
    rw [Nat.div_eq_of_lt (show b < 2 ^ 64 from hb), Nat.mul_zero]
  case round =>
    obtain ⟨k, h, l, hk, hl, hh, hacc, rfl, rfl, rfl⟩ := hrel
    cases k with
    | zero =>
      rw [HH.out] at hacc
      have e1 : h = hiP a b := by unfold hiP; omega
      have e2 : l = loP a b := by unfold loP; omega
      have HE : Hid (h = hiP a b ∧ l = loP a b) := ⟨e1, e2⟩
      clear e1 e2 hacc
      go_wp2
      go_ret2
      exact ⟨by rw [← HE.out.1, ← HE.out.2]; rfl, rfl⟩
    | succ k =>
      have hs := accP_step a b k
      have h3 := accP_lt a b (k + 1) ha HB.out hk
      have hp : 2 ^ (64 - (k + 1)) ≤ 9223372036854775808 := by
        have := Nat.pow_le_pow_right (n := 2) (by decide) (show 64 - (k + 1) ≤ 63 by omega)
        exact this
      have hh2 : h < 9223372036854775808 := by
        have := h3.1
        have h5 : h * 18446744073709551616 < 18446744073709551616 * 2 ^ (64 - (k + 1)) := by omega
        have h6 : h < 2 ^ (64 - (k + 1)) := by
          rw [Nat.mul_comm] at h5
          exact Nat.lt_of_mul_lt_mul_left h5
        omega
      clear h3 hp
      have hi : ((k + 1 : Nat) : Int) - 1 = (k : Int) := by omega
      rw [hi]
      obtain ⟨t, ht⟩ : ∃ t, t = l / 9223372036854775808 := ⟨_, rfl⟩
      have ht1 : t ≤ 1 := by omega
      have hor := bits_or_u64_nat (2 * h) t (by omega) (by omega)
      rw [bit_add h t ht1] at hor
      obtain ⟨h', hh'⟩ : ∃ x, x = 2 * h + t := ⟨_, rfl⟩
      obtain ⟨l', hl'⟩ : ∃ x, x = l * 2 % 18446744073709551616 := ⟨_, rfl⟩
      obtain ⟨c, hc⟩ : ∃ x, x = b / 2 ^ k % 2 := ⟨_, rfl⟩
      have hand := bits_and_u64_nat (b / 2 ^ k) 1 (Nat.lt_of_le_of_lt (Nat.div_le_self _ _) HB.out) (by decide)
      rw [Nat.and_one_is_mod, ← hc] at hand
      have hcast : ((b / 2 ^ k : Nat) : Int) = (b : Int) / 2 ^ k := by simp
      rw [hcast] at hand
      have e1 : ((2 * h : Nat) : Int) = (h : Int) * 2 := by omega
      have e2 : ((t : Nat) : Int) = (l : Int) / 9223372036854775808 := by omega
      rw [e1, e2, ← hh'] at hor
      have e3 : IntKind.u64.wrap ((l : Int) * 2) = (l' : Int) := by rw [IntKind.wrap_u64]; omega
      have hl2 : l' < 18446744073709551616 := by omega
      have hh3 : h' < 18446744073709551616 := by omega
      have hc1 : c = 0 ∨ c = 1 := by omega
      have hand2 : bits .and .u64 ((b : Int) / 2 ^ k) 1 = (c : Int) := hand
      clear hand hcast e1 e2
      rw [← hc] at hs
      have hacc2 := dbl h l t h' l' _ hacc ht hh' hl'
      clear hc hh' hl' ht ht1 hacc hh hl
      rcases hc1 with rfl | rfl
      · have HF : Hid (h' * 18446744073709551616 + l' = accP a b k) := by unfold Hid; rw [hacc2, hs, Nat.mul_zero]; rfl
        clear hacc2 hs
        go_wp2_with fail
        go_round
        case rel => exact ⟨k, h', l', by omega, hl2, hh3, HF.out, rfl, rfl, by go_num⟩
        case measure => simp [intOf]
      · have h3 := (accP_lt a b k ha HB.out (by omega)).1
        have hpw : 2 ^ (64 - k) ≤ 18446744073709551616 := Nat.pow_le_pow_right (n := 2) (by decide) (show 64 - k ≤ 64 by omega)
        rw [Nat.mul_one] at hs
        obtain ⟨l2, hl3⟩ : ∃ x, x = (l' + a) % 18446744073709551616 := ⟨_, rfl⟩
        have e4 : IntKind.u64.wrap ((l' : Int) + (a : Int)) = (l2 : Int) := by rw [IntKind.wrap_u64]; omega
        have hl4 : l2 < 18446744073709551616 := by omega
        by_cases hov : l2 < l'
        · have hov' : (l2 : Int) < (l' : Int) := by omega
          have hfin := plus_over h' l' a l2 _ _ hl2 ha hacc2 hs hl3 hov
          have h9 : h' + 1 < 18446744073709551616 := top_lt _ _ _ hfin (Nat.lt_of_lt_of_le h3 (Nat.mul_le_mul_left _ hpw))
          have e5 : IntKind.u64.wrap ((h' : Int) + 1) = ((h' + 1 : Nat) : Int) := by rw [IntKind.wrap_u64]; omega
          have HF : Hid ((h' + 1) * 18446744073709551616 + l2 = accP a b k) := hfin
          clear hacc2 hs h3 hpw hl3 hfin
          go_wp2_with fail
          go_round
          case rel => exact ⟨k, h' + 1, l2, by omega, hl4, h9, HF.out, rfl, rfl, by go_num⟩
          case measure => simp [intOf]
        · have hov' : ¬ (l2 : Int) < (l' : Int) := by omega
          have HF : Hid (h' * 18446744073709551616 + l2 = accP a b k) := plus_in h' l' a l2 _ _ hl2 ha hacc2 hs hl3 hov
          clear hacc2 hs h3 hpw hl3
          go_wp2_with fail
          go_round
          case rel => exact ⟨k, h', l2, by omega, hl4, hh3, HF.out, rfl, rfl, by go_num⟩
          case measure => simp [intOf]
end Go.Proofs.Ytilmkijbohjinaa
