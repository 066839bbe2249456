/-
  What package sums' Burst answers of two lists that lie in memory.
-/
import Derived.Test.YtaecbgdjifbgdaaTz
namespace Go.Proofs.Ytaecbgdjifbgdaa
open Go.RowKit

theorem ret_two {x y a b : Int} (h : x = a) (g : y = b) : Ending.returned (.tuple #[.int .i64 x, .int .i64 y]) = .returned (.tuple #[.int .i64 a, .int .i64 b]) := by rw [h, g]
theorem v64 {a b : Int} (h : a = b) : Value.int .i64 a = .int .i64 b := by rw [h]
theorem tz_ex (u : Nat) (hu : u < 256) (h0 : u ≠ 0) : ∃ x, TZ u x := by
  have all : ∀ j : Fin 256, j.val = 0 ∨ ∃ x : Fin 8, j.val.testBit x.val = true ∧ ∀ k : Fin 8, j.val.testBit k.val = true → x.val ≤ k.val := by decide +kernel
  rcases all ⟨u, hu⟩ with e | ⟨x, e1, e2⟩
  · exact absurd e h0
  · exact ⟨x.val, x.isLt, e1, fun k hk hd => e2 ⟨k, hk⟩ hd⟩
set_option maxHeartbeats 400000 in
theorem burst_len (a b : Option Addr) (n m c1 c2 : Nat) (w : World) (h : n ≠ m) :
    Calls Try.prog 23 #[.slice a n c1, .slice b m c2] w fun e w' => e = .returned (.tuple #[.int .i64 (-1), .int .i64 (-1)]) ∧ Up w w' := by
  have hd : ((n : Int) != (m : Int)) = true := by simp; omega
  go_enter Try.func23, Try.ntmps23
  go_wp2
  go_ret2
  exact ⟨rfl, Up.refl _⟩
set_option maxHeartbeats 400000 in
theorem burst_zero (a b : Option Addr) (c1 c2 : Nat) (w : World) :
    Calls Try.prog 23 #[.slice a 0 c1, .slice b 0 c2] w fun e w' => e = .returned (.tuple #[.int .i64 0, .int .i64 0]) ∧ Up w w' := by
  go_enter Try.func23, Try.ntmps23
  go_wp2
  go_rounds 1
  go_ret2
  exact ⟨rfl, Up.refl _⟩
set_option maxHeartbeats 2000000 in
theorem burst_some (b1 o1 b2 o2 n c1 c2 : Nat) (zs ys : List Nat) (w : World) (h1 : zs.length = n) (h2 : ys.length = n) (q1 : Bys zs) (q2 : Bys ys) (hm : n ≤ 4294967296)
    (hc1 : ∀ i, i < n → w.cell? ⟨b1, o1 + i, none⟩ = some (.int .u8 (zs.getD i 0 : Nat))) (hc2 : ∀ i, i < n → w.cell? ⟨b2, o2 + i, none⟩ = some (.int .u8 (ys.getD i 0 : Nat))) :
    Calls Try.prog 23 #[.slice (some ⟨b1, o1, none⟩) n c1, .slice (some ⟨b2, o2, none⟩) n c2] w fun e w' => ∃ x y : Int, e = .returned (.tuple #[.int .i64 x, .int .i64 y]) ∧ BR zs ys x y ∧ Up w w' := by
  have HC1 : Hid (∀ i, i < n → w.cell? ⟨b1, o1 + i, none⟩ = some (.int .u8 (zs.getD i 0 : Nat))) := hc1
  have HC2 : Hid (∀ i, i < n → w.cell? ⟨b2, o2 + i, none⟩ = some (.int .u8 (ys.getD i 0 : Nat))) := hc2
  have L1 : Hid (zs.length = n) := h1
  have L2 : Hid (ys.length = n) := h2
  have Q1 : Hid (Bys zs) := q1
  have Q2 : Hid (Bys ys) := q2
  clear hc1 hc2 h1 h2 q1 q2
  go_enter Try.func23, Try.ntmps23
  go_wp2_with fail
  go_loopw [6, 7, 17] (fun s6 s7 i wr => ∃ (k : Nat) (f l : Int), k ≤ n ∧ i = .int .i64 k ∧ s6 = .int .i64 f ∧ s7 = .int .i64 (l + 1) ∧ BS zs ys (8 * k) f l ∧ Up w wr) (fun _ _ i _ => n - (intOf i).toNat)
  case atStart => exact ⟨0, -1, -1, Nat.zero_le _, rfl, rfl, rfl, BS.zero _ _, Up.refl _⟩
  case round =>
    obtain ⟨k, f, l, hk, rfl, rfl, rfl, hs, hu⟩ := hrel
    have HS : Hid (BS zs ys (8 * k) f l) := hs
    have hbd := hs.bounds
    have g1 : -1 ≤ f := by omega
    have g2 : f ≤ l := by omega
    have g3 : l < 8 * k := by omega
    clear hs
    by_cases hlt : k < n
    · have hki : (k : Int) < (n : Int) := by omega
      have d0 := hu.cell (HC1.out k hlt)
      have d1 := hu.cell (HC2.out k hlt)
      have b0 := Q1.out k
      have b1' := Q2.out k
      have e1 : bits .xor .u8 ((zs.getD k 0 : Nat) : Int) ((ys.getD k 0 : Nat) : Int) = ((zs.getD k 0 ^^^ ys.getD k 0 : Nat) : Int) := u8_xor_nat _ _ b0 b1'
      have hub : zs.getD k 0 ^^^ ys.getD k 0 < 256 := xor_lt8 b0 b1'
      by_cases hz : zs.getD k 0 ^^^ ys.getD k 0 = 0
      · have HN : Hid (BS zs ys (8 * (k + 1)) f l) := HS.out.same (by omega) (byte_same hz)
        have e1' : bits .xor .u8 ((zs.getD k 0 : Nat) : Int) ((ys.getD k 0 : Nat) : Int) = 0 := by rw [e1, hz]; rfl
        clear hz e1 hub HS hbd
        generalize zs.getD k 0 = z at *
        generalize ys.getD k 0 = y at *
        go_wp2_with fail
        go_quiet (fail)
        go_wp2
        go_roundw
        case rel => first | exact ⟨k + 1, f, l, by omega, by go_num, rfl, rfl, HN.out, Up.drewN hu _⟩ | ((repeat apply Exists.intro); exact ⟨⟨k + 1, f, l, by omega, by go_num, rfl, rfl, HN.out, Up.drewN hu _⟩, rfl⟩)
        case measure => simp [intOf]; omega
      · have HBY : Hid (∀ x y, TZ (zs.getD k 0 ^^^ ys.getD k 0) x → LN (zs.getD k 0 ^^^ ys.getD k 0) y → BS zs ys (8 * (k + 1)) (if f < 0 then ((8 * k + x : Nat) : Int) else f) ((8 * k + (y - 1) : Nat) : Int)) := fun x y hx hy => HS.out.byte hx hy
        clear HS hbd
        generalize zs.getD k 0 ^^^ ys.getD k 0 = u at *
        generalize zs.getD k 0 = z at *
        generalize ys.getD k 0 = y at *
        have hu0 : ((u : Int) == 0) = false := by simp; omega
        by_cases hf : f < 0
        · go_wp2_with fail
          go_quiet (fail)
          go_wp2_with fail
          refine (tz8 u hub hz _).mono ?_
          rintro e v1 ⟨x, rfl, hx, rfl⟩
          have hx8 := hx.1
          have HX : Hid (TZ u x) := hx
          clear hx
          go_wp2_with fail
          refine (len8 u hub hz _).mono ?_
          rintro e v2 ⟨y', rfl, hy, rfl⟩
          have hy1 := hy.1
          have hy8 := hy.2.1
          have hN := HBY.out x y' HX.out hy
          rw [if_pos hf] at hN
          have HN : Hid (BS zs ys (8 * (k + 1)) ((8 * k + x : Nat) : Int) ((8 * k + (y' - 1) : Nat) : Int)) := hN
          clear hN hy HX
          go_wp2
          go_roundw
          case rel => first | exact ⟨k + 1, ((8 * k + x : Nat) : Int), ((8 * k + (y' - 1) : Nat) : Int), by omega, by go_num, v64 (by omega), v64 (by omega), HN.out, Up.drewN hu _⟩ | ((repeat apply Exists.intro); exact ⟨⟨k + 1, ((8 * k + x : Nat) : Int), ((8 * k + (y' - 1) : Nat) : Int), by omega, by go_num, v64 (by omega), v64 (by omega), HN.out, Up.drewN hu _⟩, rfl⟩)
          case measure => simp [intOf]; omega
        · go_wp2_with fail
          go_quiet (fail)
          go_wp2_with fail
          refine (len8 u hub hz _).mono ?_
          rintro e v2 ⟨y', rfl, hy, rfl⟩
          have hy1 := hy.1
          have hy8 := hy.2.1
          have HN : Hid (BS zs ys (8 * (k + 1)) f ((8 * k + (y' - 1) : Nat) : Int)) := by
            obtain ⟨x, hx⟩ : ∃ x, TZ u x := tz_ex u hub hz
            have hN := HBY.out x y' hx hy
            rw [if_neg (Int.not_lt.2 hf)] at hN
            exact hN
          clear hy
          go_wp2
          go_roundw
          case rel => first | exact ⟨k + 1, f, ((8 * k + (y' - 1) : Nat) : Int), by omega, by go_num, rfl, v64 (by omega), HN.out, Up.drewN hu _⟩ | ((repeat apply Exists.intro); exact ⟨⟨k + 1, f, ((8 * k + (y' - 1) : Nat) : Int), by omega, by go_num, rfl, v64 (by omega), HN.out, Up.drewN hu _⟩, rfl⟩)
          case measure => simp [intOf]; omega
    · obtain rfl : k = n := by omega
      have HR : Hid (BR zs ys (if f < 0 then 0 else f) (if f < 0 then 0 else l - f + 1)) := by
        have := HS.out
        rw [← L1.out] at this
        exact BR.of (by rw [L1.out, L2.out]) this
      clear HS hbd
      by_cases hf : f < 0
      · have HR2 : Hid (BR zs ys 0 0) := by have := HR.out; rw [if_pos hf, if_pos hf] at this; exact this
        clear HR
        go_wp2
        go_ret2
        exact ⟨0, 0, rfl, HR2.out, hu⟩
      · have HR2 : Hid (BR zs ys f (l - f + 1)) := by have := HR.out; rw [if_neg hf, if_neg hf] at this; exact this
        clear HR
        go_wp2
        go_ret2
        exact ⟨f, l - f + 1, ret_two rfl (by omega), HR2.out, hu⟩
end Go.Proofs.Ytaecbgdjifbgdaa
