
/-
  The document's placed, given its open.
-/
import Derived.Test.YtgahdppcdeefaaaPq9
import Derived.Test.YtgahdppcdeefaaaRf9
namespace Go.Proofs.Ytgahdppcdeefaaa
open Go.RowKit
attribute [local go_sem ↓] Go.wp_at_zero Go.wp_at_succ
namespace TR
set_option maxRecDepth 100000 in
set_option maxHeartbeats 16000000 in
theorem placed_ (v : Value) (l : List Nd) (p d : Nat) (want : Int) (w : World) (R : Nat → Nat) (b : Nd) (hv : NLs w v l) (hp : p < l.length) (hb : l.getD p dn = b) (hd : d ≤ 1000000000000) (H : ∀ W, Up w W → Calls Try.prog 30 #[v, .int .i64 (p : Int), .int .i64 ((d + par b.op want : Nat) : Int)] W fun e w' => e = .returned (.int .i64 ((R (d + par b.op want) : Nat) : Int)) ∧ Up W w') : Calls Try.prog 45 #[v, .int .i64 (p : Int), .int .i64 (d : Int), .int .i64 want] w (fun e w' => e = .returned (.int .i64 ((R (d + par b.op want) : Nat) : Int)) ∧ Up w w') := by
  obtain ⟨Post, hPost⟩ : ∃ P : Ending → World → Prop, P = fun e w' => e = .returned (.int .i64 ((R (d + par b.op want) : Nat) : Int)) ∧ Up w w' := ⟨_, rfl⟩
  rw [← hPost]
  have HPo : Hid (Post = fun e w' => e = .returned (.int .i64 ((R (d + par b.op want) : Nat) : Int)) ∧ Up w w') := hPost
  clear hPost
  obtain ⟨a, c, rfl, hc, hcell⟩ := nl_at hv
  obtain ⟨bk, off, rfl, hce⟩ := hcell (by omega)
  have x0 : w.cell? ⟨bk, off + p * 7, none⟩ = some (.int .i8 b.op) := by rw [← hb]; exact hce w (Up.refl _) p hp 0 _ rfl
  obtain ⟨n, hN⟩ : ∃ n, n = l.length := ⟨_, rfl⟩
  rw [← hN] at hp hc H ⊢
  have hp2 : (p : Int) < (n : Int) := by omega
  have HH : Hid (∀ W, Up w W → Calls Try.prog 30 #[.slice (some ⟨bk, off, none⟩) n c, .int .i64 (p : Int), .int .i64 ((d + par b.op want : Nat) : Int)] W fun e w' => e = .returned (.int .i64 ((R (d + par b.op want) : Nat) : Int)) ∧ Up W w') := H
  clear hcell hce hv hN hb H
  generalize b.op = o at *
  have ed : IntKind.i64.wrap ((d : Int) + 1) = ((d + 1 : Nat) : Int) := by rw [IntKind.wrap_i64]; omega
  have ed2 : wrap64 ((d : Int) + 1) = ((d + 1 : Nat) : Int) := by first | (unfold wrap64; omega) | (show IntKind.i64.wrap _ = _; exact ed)
  go_enter Try.func45, Try.ntmps45
  go_wp2_with fail
  refine Calls.mono (expr_ o w) ?_
  rintro e w1 ⟨rfl, hw⟩
  obtain rfl := hw.symm
  clear hw
  by_cases hq : rExpr o = true
  · rw [hq]
    go_wp2_with fail
    refine Calls.mono (rank_ o w) ?_
    rintro e w1 ⟨rfl, hw⟩
    obtain rfl := hw.symm
    clear hw
    by_cases hr : rRank o < want
    · have HP : Hid (par o want = 1) := by
        unfold Hid par
        rw [hq, decide_eq_true hr]
        rfl
      rw [HP.out] at HPo HH
      go_wp2_with fail
      refine Calls.mono (HH.out w (Up.refl _)) ?_
      rintro e w1 ⟨rfl, hu⟩
      go_wp2_with fail
      rw [HPo.out]
      exact ⟨rfl, hu⟩
    · have HP : Hid (par o want = 0) := by
        unfold Hid par
        rw [hq, decide_eq_false hr]
        rfl
      rw [HP.out] at HPo HH
      go_wp2_with fail
      refine Calls.mono (HH.out w (Up.refl _)) ?_
      rintro e w1 ⟨rfl, hu⟩
      go_wp2_with fail
      rw [HPo.out]
      exact ⟨rfl, hu⟩
  · have HP : Hid (par o want = 0) := by
      unfold Hid par
      rw [Bool.not_eq_true] at hq
      rw [hq]
      rfl
    rw [HP.out] at HPo HH
    rw [Bool.not_eq_true] at hq
    rw [hq]
    go_wp2_with fail
    refine Calls.mono (HH.out w (Up.refl _)) ?_
    rintro e w1 ⟨rfl, hu⟩
    go_wp2_with fail
    rw [HPo.out]
    exact ⟨rfl, hu⟩
set_option maxRecDepth 100000 in
set_option maxHeartbeats 16000000 in
theorem chain_ (v : Value) (l : List Nd) (p m d : Nat) (w : World) (R : Nat → Nat) (b : Nd) (hv : NLs w v l) (hp : p + m < l.length) (hm : 1 ≤ m) (hf : ∀ i, i < m → (l.getD (p + i) dn).op = 49) (hb : l.getD (p + m) dn = b) (h49 : b.op ≠ 49) (hn : l.length ≤ 1000000) (hd : d ≤ 100000000000) (hR : R (d + par b.op 8) ≤ 1000000000000) (H : ∀ W, Up w W → Calls Try.prog 30 #[v, .int .i64 ((p + m : Nat) : Int), .int .i64 ((d + par b.op 8 : Nat) : Int)] W fun e w' => e = .returned (.int .i64 ((R (d + par b.op 8) : Nat) : Int)) ∧ Up W w') : Calls Try.prog 41 #[v, .int .i64 (p : Int), .int .i64 (d : Int)] w (fun e w' => e = .returned (.int .i64 ((max (d + m - 1) (R (d + par b.op 8)) : Nat) : Int)) ∧ Up w w') := by
  obtain ⟨Post, hPost⟩ : ∃ P : Ending → World → Prop, P = fun e w' => e = .returned (.int .i64 ((max (d + m - 1) (R (d + par b.op 8)) : Nat) : Int)) ∧ Up w w' := ⟨_, rfl⟩
  rw [← hPost]
  have HPo : Hid (Post = fun e w' => e = .returned (.int .i64 ((max (d + m - 1) (R (d + par b.op 8)) : Nat) : Int)) ∧ Up w w') := hPost
  clear hPost
  have HPL : Hid (∀ W, Up w W → Calls Try.prog 45 #[v, .int .i64 ((p + m : Nat) : Int), .int .i64 (d : Int), .int .i64 8] W fun e w' => e = .returned (.int .i64 ((R (d + par b.op 8) : Nat) : Int)) ∧ Up W w') := fun W hu => placed_ v l (p + m) d 8 W R b (hv.up hu) hp hb (by omega) (fun W2 hu2 => H W2 (hu.trans hu2))
  obtain ⟨a, c, rfl, hc, hcell⟩ := nl_at hv
  obtain ⟨bk, off, rfl, hce⟩ := hcell (by omega)
  obtain ⟨n, hN⟩ : ∃ n, n = l.length := ⟨_, rfl⟩
  have HC1 : Hid (∀ i, i < m → w.cell? ⟨bk, off + (p + i) * 7, none⟩ = some (.int .i8 49)) := fun i hi => by
    rw [← hf i hi]
    exact hce w (Up.refl _) (p + i) (by omega) 0 _ rfl
  have HC2 : Hid (w.cell? ⟨bk, off + (p + m) * 7, none⟩ = some (.int .i8 b.op)) := by
    unfold Hid
    rw [← hb]
    exact hce w (Up.refl _) (p + m) hp 0 _ rfl
  rw [← hN] at hp hn hc HPL ⊢
  clear hcell hce hv hN hb H hf
  generalize R (d + par b.op 8) = y at *
  generalize b.op = o at *
  go_enter Try.func41, Try.ntmps41
  go_wp2_with fail
  go_loopw [1, 7] (fun s1 s7 W => ∃ i : Nat, i ≤ m ∧ s1 = .int .i64 ((p + i : Nat) : Int) ∧ s7 = .int .i64 (i : Int) ∧ W = w) (fun s1 _ _ => p + m - (intOf s1).toNat)
  case atStart => exact ⟨0, Nat.zero_le _, rfl, rfl, rfl⟩
  case round =>
    obtain ⟨i, hi, rfl, rfl, rfl⟩ := hrel
    have hpi : (((p + i : Nat) : Int)) < (n : Int) := by omega
    by_cases hlt : i < m
    · have x1 := HC1.out i hlt
      have e1 : IntKind.i64.wrap ((i : Int) + 1) = ((i + 1 : Nat) : Int) := by rw [IntKind.wrap_i64]; omega
      have e2 : IntKind.i64.wrap (((p + i : Nat) : Int) + 1) = ((p + (i + 1) : Nat) : Int) := by rw [IntKind.wrap_i64]; omega
      obtain ⟨q, hq⟩ : ∃ q, q = p + i := ⟨_, rfl⟩
      rw [← hq] at x1 e2 hpi ⊢
      have HQ : Hid (q = p + i) := hq
      clear hq
      go_wp2_with fail
      go_roundw
      case rel => exact ⟨i + 1, hlt, by first | rfl | go_num | (congr 1; omega), by go_num, by first | trivial | rfl⟩
      case measure => have hq := HQ.out; simp [intOf]; omega
    · obtain rfl : i = m := by omega
      have x1 := HC2.out
      have e3 : (o == 49) = false := by simpa using h49
      have HPL2 := HPL.out wr (Up.refl _)
      obtain ⟨q, hq⟩ : ∃ q, q = p + i := ⟨_, rfl⟩
      rw [← hq] at x1 hpi HPL2 ⊢
      have HPL3 : Hid (Calls Try.prog 45 #[.slice (some ⟨bk, off, none⟩) n c, .int .i64 (q : Int), .int .i64 (d : Int), .int .i64 8] wr fun e w' => e = .returned (.int .i64 (y : Int)) ∧ Up wr w') := HPL2
      have e4 : IntKind.i64.wrap ((d : Int) + (i : Int)) = ((d + i : Nat) : Int) := by rw [IntKind.wrap_i64]; omega
      have e5 : IntKind.i64.wrap (((d + i : Nat) : Int) - 1) = ((d + i - 1 : Nat) : Int) := by rw [IntKind.wrap_i64]; omega
      clear HPL2 hq
      go_wp2_with fail
      refine Calls.mono HPL3.out ?_
      rintro e w1 ⟨rfl, hu⟩
      go_wp2_with fail
      all_goals rw [HPo.out]
      all_goals (refine ⟨?_, hu⟩; congr 2; first | omega | (rw [Nat.max_def]; split <;> omega))
end TR
end Go.Proofs.Ytgahdppcdeefaaa
