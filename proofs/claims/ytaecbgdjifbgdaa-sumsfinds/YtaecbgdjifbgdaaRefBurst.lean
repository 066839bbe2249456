/-
  Burst, whatever slices hold the two lists; and what the document's Burst answers of them, bit by bit.
-/
import Derived.Test.YtaecbgdjifbgdaaBurst
namespace Go.Proofs.Ytaecbgdjifbgdaa
open Go.RowKit

theorem burstB (v u : Value) (zs ys : List Nat) (w : World) (hv : Lies w v zs) (hu : Lies w u ys) (q1 : Bys zs) (q2 : Bys ys) (hm : zs.length ≤ 4294967296) :
    Calls Try.prog 23 #[v, u] w fun e w' => ∃ x y : Int, e = .returned (.tuple #[.int .i64 x, .int .i64 y]) ∧ BR zs ys x y ∧ Up w w' := by
  obtain ⟨a, c1, rfl, _, h1⟩ := hv
  obtain ⟨b, c2, rfl, _, h2⟩ := hu
  by_cases hl : zs.length = ys.length
  · by_cases h0 : zs.length = 0
    · obtain rfl := List.eq_nil_of_length_eq_zero h0
      obtain rfl := List.eq_nil_of_length_eq_zero (l := ys) (by rw [← hl]; rfl)
      refine (burst_zero a b c1 c2 w).mono ?_
      rintro e w' ⟨rfl, up⟩
      exact ⟨0, 0, rfl, Or.inr ⟨rfl, Or.inl ⟨rfl, rfl, fun k hk => absurd hk (Nat.not_lt_zero k)⟩⟩, up⟩
    · obtain ⟨b1, o1, rfl, hc1⟩ := h1 h0
      obtain ⟨b2, o2, rfl, hc2⟩ := h2 (by rw [← hl]; exact h0)
      rw [← hl] at hc2 ⊢
      exact burst_some b1 o1 b2 o2 zs.length c1 c2 zs ys w rfl hl.symm q1 q2 hm hc1 hc2
  · refine (burst_len a b _ _ c1 c2 w hl).mono ?_
    rintro e w' ⟨rfl, up⟩
    exact ⟨-1, -1, rfl, Or.inl ⟨hl, rfl, rfl⟩, up⟩
theorem and1_u8 (n : Nat) (h : n < 256) : bits .and .u8 (n : Int) 1 = ((n % 2 : Nat) : Int) := by
  have := u8_and_nat n 1 h (by decide)
  rw [Nat.and_one_is_mod] at this
  exact this
set_option maxHeartbeats 400000 in
theorem bitB (b off len cap k z : Nat) (w : World) (hk : k < 8 * len) (hl : len ≤ 4294967296) (hz : z < 256) (hc : w.cell? ⟨b, off + k / 8, none⟩ = some (.int .u8 (z : Int))) :
    Calls Try.prog 37 #[.slice (some ⟨b, off, none⟩) len cap, .int .i64 k] w fun e w' => e = .returned (.int .u8 (z / 2 ^ (k % 8) % 2 : Nat)) ∧ w' = w := by
  obtain ⟨q, hq⟩ : ∃ q, q = k / 8 := ⟨_, rfl⟩
  rw [← hq] at hc
  have hq8 : (k : Int) / 8 = (q : Int) := by omega
  have hq9 : (k : Int).tdiv 8 = (q : Int) := by rw [Int.tdiv_eq_ediv_of_nonneg (by omega)]; exact hq8
  have hql : (q : Int) < (len : Int) := by omega
  have hqn : q < len := by omega
  obtain ⟨c, hcc⟩ : ∃ c, c = z / 2 ^ (k % 8) % 2 := ⟨_, rfl⟩
  rw [← hcc]
  rcases (by omega : k % 8 = 0 ∨ k % 8 = 1 ∨ k % 8 = 2 ∨ k % 8 = 3 ∨ k % 8 = 4 ∨ k % 8 = 5 ∨ k % 8 = 6 ∨ k % 8 = 7) with hr | hr | hr | hr | hr | hr | hr | hr
  · have hr8 : (k : Int) % 8 = 0 := by omega
    obtain ⟨d, hd⟩ : ∃ d, d = z := ⟨_, rfl⟩
    have hdi : (z : Int) = (d : Int) := by omega
    have e2 := and1_u8 d (by omega)
    have HE : Hid (c = d % 2) := by unfold Hid; rw [hcc, hr, hd]; simp
    clear hr hq hcc hd
    go_enter Try.func37, Try.ntmps37
    go_wp2
    go_ret
    exact ⟨ret_int (by rw [HE.out]; omega), rfl⟩
  · have hr8 : (k : Int) % 8 = 1 := by omega
    obtain ⟨d, hd⟩ : ∃ d, d = z / 2 := ⟨_, rfl⟩
    have hdi : (z : Int) / 2 = (d : Int) := by omega
    have e2 := and1_u8 d (by omega)
    have HE : Hid (c = d % 2) := by unfold Hid; rw [hcc, hr, hd]
    clear hr hq hcc hd
    go_enter Try.func37, Try.ntmps37
    go_wp2
    go_ret
    exact ⟨ret_int (by rw [HE.out]; omega), rfl⟩
  · have hr8 : (k : Int) % 8 = 2 := by omega
    obtain ⟨d, hd⟩ : ∃ d, d = z / 4 := ⟨_, rfl⟩
    have hdi : (z : Int) / 4 = (d : Int) := by omega
    have e2 := and1_u8 d (by omega)
    have HE : Hid (c = d % 2) := by unfold Hid; rw [hcc, hr, hd]
    clear hr hq hcc hd
    go_enter Try.func37, Try.ntmps37
    go_wp2
    go_ret
    exact ⟨ret_int (by rw [HE.out]; omega), rfl⟩
  · have hr8 : (k : Int) % 8 = 3 := by omega
    obtain ⟨d, hd⟩ : ∃ d, d = z / 8 := ⟨_, rfl⟩
    have hdi : (z : Int) / 8 = (d : Int) := by omega
    have e2 := and1_u8 d (by omega)
    have HE : Hid (c = d % 2) := by unfold Hid; rw [hcc, hr, hd]
    clear hr hq hcc hd
    go_enter Try.func37, Try.ntmps37
    go_wp2
    go_ret
    exact ⟨ret_int (by rw [HE.out]; omega), rfl⟩
  · have hr8 : (k : Int) % 8 = 4 := by omega
    obtain ⟨d, hd⟩ : ∃ d, d = z / 16 := ⟨_, rfl⟩
    have hdi : (z : Int) / 16 = (d : Int) := by omega
    have e2 := and1_u8 d (by omega)
    have HE : Hid (c = d % 2) := by unfold Hid; rw [hcc, hr, hd]
    clear hr hq hcc hd
    go_enter Try.func37, Try.ntmps37
    go_wp2
    go_ret
    exact ⟨ret_int (by rw [HE.out]; omega), rfl⟩
  · have hr8 : (k : Int) % 8 = 5 := by omega
    obtain ⟨d, hd⟩ : ∃ d, d = z / 32 := ⟨_, rfl⟩
    have hdi : (z : Int) / 32 = (d : Int) := by omega
    have e2 := and1_u8 d (by omega)
    have HE : Hid (c = d % 2) := by unfold Hid; rw [hcc, hr, hd]
    clear hr hq hcc hd
    go_enter Try.func37, Try.ntmps37
    go_wp2
    go_ret
    exact ⟨ret_int (by rw [HE.out]; omega), rfl⟩
  · have hr8 : (k : Int) % 8 = 6 := by omega
    obtain ⟨d, hd⟩ : ∃ d, d = z / 64 := ⟨_, rfl⟩
    have hdi : (z : Int) / 64 = (d : Int) := by omega
    have e2 := and1_u8 d (by omega)
    have HE : Hid (c = d % 2) := by unfold Hid; rw [hcc, hr, hd]
    clear hr hq hcc hd
    go_enter Try.func37, Try.ntmps37
    go_wp2
    go_ret
    exact ⟨ret_int (by rw [HE.out]; omega), rfl⟩
  · have hr8 : (k : Int) % 8 = 7 := by omega
    obtain ⟨d, hd⟩ : ∃ d, d = z / 128 := ⟨_, rfl⟩
    have hdi : (z : Int) / 128 = (d : Int) := by omega
    have e2 := and1_u8 d (by omega)
    have HE : Hid (c = d % 2) := by unfold Hid; rw [hcc, hr, hd]
    clear hr hq hcc hd
    go_enter Try.func37, Try.ntmps37
    go_wp2
    go_ret
    exact ⟨ret_int (by rw [HE.out]; omega), rfl⟩
set_option maxHeartbeats 400000 in
theorem rburst_len (a b : Option Addr) (n m c1 c2 : Nat) (w : World) (h : n ≠ m) :
    Calls Try.prog 24 #[.slice a n c1, .slice b m c2] w fun e w' => e = .returned (.tuple #[.int .i64 (-1), .int .i64 (-1)]) ∧ Up w w' := by
  have hd : ((n : Int) != (m : Int)) = true := by simp; omega
  go_enter Try.func24, Try.ntmps24
  go_wp2
  go_ret2
  exact ⟨rfl, Up.refl _⟩
set_option maxHeartbeats 400000 in
theorem rburst_zero (a b : Option Addr) (c1 c2 : Nat) (w : World) :
    Calls Try.prog 24 #[.slice a 0 c1, .slice b 0 c2] w fun e w' => e = .returned (.tuple #[.int .i64 0, .int .i64 0]) ∧ Up w w' := by
  go_enter Try.func24, Try.ntmps24
  go_wp2
  go_rounds 1
  go_ret2
  exact ⟨rfl, Up.refl _⟩
theorem bit_cell {w : World} {b off k j z : Nat} (h : j / 8 = k) (hc : w.cell? ⟨b, off + k, none⟩ = some (.int .u8 (z : Int))) : w.cell? ⟨b, off + j / 8, none⟩ = some (.int .u8 (z : Int)) := by rw [h]; exact hc
set_option maxHeartbeats 2000000 in
theorem rburst_some (b1 o1 b2 o2 n c1 c2 : Nat) (zs ys : List Nat) (w : World) (h1 : zs.length = n) (h2 : ys.length = n) (q1 : Bys zs) (q2 : Bys ys) (hm : n ≤ 4294967296)
    (hc1 : ∀ i, i < n → w.cell? ⟨b1, o1 + i, none⟩ = some (.int .u8 (zs.getD i 0 : Nat))) (hc2 : ∀ i, i < n → w.cell? ⟨b2, o2 + i, none⟩ = some (.int .u8 (ys.getD i 0 : Nat))) :
    Calls Try.prog 24 #[.slice (some ⟨b1, o1, none⟩) n c1, .slice (some ⟨b2, o2, none⟩) n c2] w fun e w' => ∃ x y : Int, e = .returned (.tuple #[.int .i64 x, .int .i64 y]) ∧ BR zs ys x y ∧ Up w w' := by
  have HC1 : Hid (∀ i, i < n → w.cell? ⟨b1, o1 + i, none⟩ = some (.int .u8 (zs.getD i 0 : Nat))) := hc1
  have HC2 : Hid (∀ i, i < n → w.cell? ⟨b2, o2 + i, none⟩ = some (.int .u8 (ys.getD i 0 : Nat))) := hc2
  have L1 : Hid (zs.length = n) := h1
  have L2 : Hid (ys.length = n) := h2
  have Q1 : Hid (Bys zs) := q1
  have Q2 : Hid (Bys ys) := q2
  clear hc1 hc2 h1 h2 q1 q2
  go_enter Try.func24, Try.ntmps24
  go_wp2_with fail
  go_loopw [6, 7, 8] (fun s6 s7 i wr => ∃ (k : Nat) (f l : Int), k ≤ n ∧ i = .int .i64 k ∧ s6 = .int .i64 f ∧ s7 = .int .i64 l ∧ BS zs ys (8 * k) f l ∧ Up w wr) (fun _ _ i _ => n - (intOf i).toNat)
  case atStart => exact ⟨0, -1, -1, Nat.zero_le _, rfl, rfl, rfl, BS.zero _ _, Up.refl _⟩
  case round =>
    obtain ⟨k, f, l, hk, rfl, rfl, rfl, hs, hu⟩ := hrel
    have HS : Hid (BS zs ys (8 * k) f l) := hs
    have hbd := hs.bounds
    have g1 : -1 ≤ f := by omega
    have g2 : f ≤ l := by omega
    have g3 : l < 8 * k := by omega
    clear hs
    by_cases hlt : k < n
    · have hki : (k : Int) < (n : Int) := by omega
      have d0 := hu.cell (HC1.out k hlt)
      have d1 := hu.cell (HC2.out k hlt)
      by_cases hz : zs.getD k 0 = ys.getD k 0
      · have HN : Hid (BS zs ys (8 * (k + 1)) f l) := HS.out.same (by omega) (byte_same (by rw [hz, Nat.xor_self]))
        rw [hz] at d0
        generalize ys.getD k 0 = y at *
        have hzz : ((y : Int) == (y : Int)) = true := by simp
        clear hz HS hbd
        go_wp2_with fail
        go_quiet (fail)
        go_wp2
        go_roundw
        case rel => first | exact ⟨k + 1, f, l, by omega, by go_num, rfl, rfl, HN.out, Up.drewN hu _⟩ | ((repeat apply Exists.intro); exact ⟨⟨k + 1, f, l, by omega, by go_num, rfl, rfl, HN.out, Up.drewN hu _⟩, rfl⟩)
        case measure => simp [intOf]; omega
      · have b0 := Q1.out k
        have b1' := Q2.out k
        have HDB : Hid (∀ j, j / 8 = k → (((zs.getD k 0 / 2 ^ (j % 8) % 2 : Nat) : Int) != ((ys.getD k 0 / 2 ^ (j % 8) % 2 : Nat) : Int)) = db zs ys j) := fun j hj => by rw [db_bits, hj]
        have hzz : ((zs.getD k 0 : Int) == (ys.getD k 0 : Int)) = false := beq_eq_false_iff_ne.2 (by omega)
        generalize zs.getD k 0 = z at *
        generalize ys.getD k 0 = y at *
        clear hz hbd
        go_wp2_with fail
        go_quiet (fail)
        rename_i nq
        have hU := Up.drewN hu nq
        have dA : Hid ((wr.drewN nq).cell? ⟨b1, o1 + k, none⟩ = some (.int .u8 (z : Int))) := by first | exact d0 | (unfold Hid; simpa using d0)
        have dB : Hid ((wr.drewN nq).cell? ⟨b2, o2 + k, none⟩ = some (.int .u8 (y : Int))) := by first | exact d1 | (unfold Hid; simpa using d1)
        clear hu d0 d1
        generalize wr.drewN nq = V at *
        go_wp2_with fail
        go_loop [6, 7, 9] (fun s6 s7 s9 => ∃ (j : Nat) (f l : Int), 8 * k ≤ j ∧ j ≤ 8 * k + 8 ∧ s9 = .int .i64 j ∧ s6 = .int .i64 f ∧ s7 = .int .i64 l ∧ BS zs ys j f l) (fun _ _ i => 8 * k + 8 - (intOf i).toNat)
        case atStart => exact ⟨8 * k, f, l, Nat.le_refl _, by omega, by go_num, rfl, rfl, HS.out⟩
        case round =>
          obtain ⟨j, f', l', j1, j2, rfl, rfl, rfl, hs'⟩ := hrel
          have HS' : Hid (BS zs ys j f' l') := hs'
          have hbd := hs'.bounds
          have g1' : -1 ≤ f' := by omega
          have g2' : f' ≤ l' := by omega
          have g3' : l' < j := by omega
          clear hs' hbd HS
          by_cases hj : j < 8 * k + 8
          · have hji : (j : Int) < 8 * (k : Int) + 8 := by omega
            have hjk : j / 8 = k := by omega
            have hdb := HDB.out j hjk
            have p1 := bit_cell hjk dA.out
            have p2 := bit_cell hjk dB.out
            have HP1 : Hid (V.cell? ⟨b1, o1 + j / 8, none⟩ = some (.int .u8 (z : Int))) := p1
            have HP2 : Hid (V.cell? ⟨b2, o2 + j / 8, none⟩ = some (.int .u8 (y : Int))) := p2
            clear p1 p2 hjk
            cases hB : db zs ys j
            · have HN : Hid (BS zs ys (j + 1) f' l') := HS'.out.bit0 hB
              rw [hB] at hdb
              clear hB
              go_wp2_with fail
              refine (bitB b1 o1 n c1 j z _ (by omega) hm b0 HP1.out).mono ?_
              rintro e v1 ⟨rfl, rfl⟩
              generalize z / 2 ^ (j % 8) % 2 = t1 at *
              go_wp2_with fail
              refine (bitB b2 o2 n c2 j y _ (by omega) hm b1' HP2.out).mono ?_
              rintro e v2 ⟨rfl, rfl⟩
              generalize y / 2 ^ (j % 8) % 2 = t2 at *
              go_wp2
              go_round
              case rel => exact ⟨j + 1, f', l', by omega, by omega, by go_num, rfl, rfl, HN.out⟩
              case measure => simp [intOf]; omega
            · have hN := HS'.out.bit1 hB
              rw [hB] at hdb
              clear hB
              by_cases hf : f' < 0
              · have HN : Hid (BS zs ys (j + 1) (j : Int) (j : Int)) := by rw [if_pos hf] at hN; exact hN
                clear hN
                go_wp2_with fail
                refine (bitB b1 o1 n c1 j z _ (by omega) hm b0 HP1.out).mono ?_
                rintro e v1 ⟨rfl, rfl⟩
                generalize z / 2 ^ (j % 8) % 2 = t1 at *
                go_wp2_with fail
                refine (bitB b2 o2 n c2 j y _ (by omega) hm b1' HP2.out).mono ?_
                rintro e v2 ⟨rfl, rfl⟩
                generalize y / 2 ^ (j % 8) % 2 = t2 at *
                go_wp2
                go_round
                case rel => exact ⟨j + 1, (j : Int), (j : Int), by omega, by omega, by go_num, rfl, rfl, HN.out⟩
                case measure => simp [intOf]; omega
              · have HN : Hid (BS zs ys (j + 1) f' (j : Int)) := by rw [if_neg hf] at hN; exact hN
                clear hN
                go_wp2_with fail
                refine (bitB b1 o1 n c1 j z _ (by omega) hm b0 HP1.out).mono ?_
                rintro e v1 ⟨rfl, rfl⟩
                generalize z / 2 ^ (j % 8) % 2 = t1 at *
                go_wp2_with fail
                refine (bitB b2 o2 n c2 j y _ (by omega) hm b1' HP2.out).mono ?_
                rintro e v2 ⟨rfl, rfl⟩
                generalize y / 2 ^ (j % 8) % 2 = t2 at *
                go_wp2
                go_round
                case rel => exact ⟨j + 1, f', (j : Int), by omega, by omega, by go_num, rfl, rfl, HN.out⟩
                case measure => simp [intOf]; omega
          · have hji : ¬ (j : Int) < 8 * (k : Int) + 8 := by omega
            have HN : Hid (BS zs ys (8 * (k + 1)) f' l') := by
              have := HS'.out; rw [show j = 8 * (k + 1) by omega] at this; exact this
            clear HS'
            go_wp2
            go_roundw
            case rel => first | exact ⟨k + 1, f', l', by omega, by go_num, rfl, rfl, HN.out, hU⟩ | ((repeat apply Exists.intro); exact ⟨⟨k + 1, f', l', by omega, by go_num, rfl, rfl, HN.out, hU⟩, rfl⟩)
            case measure => simp [intOf]; omega
    · obtain rfl : k = n := by omega
      have HR : Hid (BR zs ys (if f < 0 then 0 else f) (if f < 0 then 0 else l - f + 1)) := by
        have := HS.out
        rw [← L1.out] at this
        exact BR.of (by rw [L1.out, L2.out]) this
      clear HS hbd
      by_cases hf : f < 0
      · have HR2 : Hid (BR zs ys 0 0) := by have := HR.out; rw [if_pos hf, if_pos hf] at this; exact this
        clear HR
        go_wp2
        go_ret2
        exact ⟨0, 0, rfl, HR2.out, hu⟩
      · have HR2 : Hid (BR zs ys f (l - f + 1)) := by have := HR.out; rw [if_neg hf, if_neg hf] at this; exact this
        clear HR
        go_wp2
        go_ret2
        exact ⟨f, l - f + 1, ret_two rfl (by omega), HR2.out, hu⟩
theorem rburstB (v u : Value) (zs ys : List Nat) (w : World) (hv : Lies w v zs) (hu : Lies w u ys) (q1 : Bys zs) (q2 : Bys ys) (hm : zs.length ≤ 4294967296) :
    Calls Try.prog 24 #[v, u] w fun e w' => ∃ x y : Int, e = .returned (.tuple #[.int .i64 x, .int .i64 y]) ∧ BR zs ys x y ∧ Up w w' := by
  obtain ⟨a, c1, rfl, _, h1⟩ := hv
  obtain ⟨b, c2, rfl, _, h2⟩ := hu
  by_cases hl : zs.length = ys.length
  · by_cases h0 : zs.length = 0
    · obtain rfl := List.eq_nil_of_length_eq_zero h0
      obtain rfl := List.eq_nil_of_length_eq_zero (l := ys) (by rw [← hl]; rfl)
      refine (rburst_zero a b c1 c2 w).mono ?_
      rintro e w' ⟨rfl, up⟩
      exact ⟨0, 0, rfl, Or.inr ⟨rfl, Or.inl ⟨rfl, rfl, fun k hk => absurd hk (Nat.not_lt_zero k)⟩⟩, up⟩
    · obtain ⟨b1, o1, rfl, hc1⟩ := h1 h0
      obtain ⟨b2, o2, rfl, hc2⟩ := h2 (by rw [← hl]; exact h0)
      rw [← hl] at hc2 ⊢
      exact rburst_some b1 o1 b2 o2 zs.length c1 c2 zs ys w rfl hl.symm q1 q2 hm hc1 hc2
  · refine (rburst_len a b _ _ c1 c2 w hl).mono ?_
    rintro e w' ⟨rfl, up⟩
    exact ⟨-1, -1, rfl, Or.inl ⟨hl, rfl, rfl⟩, up⟩
end Go.Proofs.Ytaecbgdjifbgdaa
