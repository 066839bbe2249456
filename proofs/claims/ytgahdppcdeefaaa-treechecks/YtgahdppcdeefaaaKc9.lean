/-
  Names, words, free names.
-/
import Derived.Test.YtgahdppcdeefaaaKb9
namespace Go.Proofs.Ytgahdppcdeefaaa
open Go.RowKit
attribute [local go_sem ↓] Go.wp_at_zero Go.wp_at_succ
namespace TR
set_option maxRecDepth 100000 in
set_option maxHeartbeats 8000000 in
theorem isName_ (l : List Int) (w : World) (hl : Byt l) : Calls Try.prog 60 #[.string (strOfNums l)] w fun e w' => e = .returned (.bool (isN l)) ∧ w' = w := by
  obtain ⟨Post, hPost⟩ : ∃ P : Ending → World → Prop, P = fun e w' => e = .returned (.bool (isN l)) ∧ w' = w := ⟨_, rfl⟩
  rw [← hPost]
  have HPo : Hid (Post = fun e w' => e = .returned (.bool (isN l)) ∧ w' = w) := hPost
  clear hPost
  obtain ⟨s, hs⟩ : ∃ s, s = strOfNums l := ⟨_, rfl⟩
  have hsz : s.size = l.length := by rw [hs, strOfNums_size]
  have HBT : Hid (∀ i, i < l.length → ∃ d : Nat, (d : Int) = l.getD i 0 ∧ ∀ h : i < s.size, (s[i]'h).toNat = d) := fun i hi => by
    have h1 := hl.at i
    refine ⟨(l.getD i 0).toNat, by omega, fun h => ?_⟩
    subst hs
    have h2 := nums_at hl hi h
    omega
  have hem : s.toList = [] ↔ l = [] := by rw [hs]; exact nums_nil
  rw [← hs]
  obtain ⟨n, hN⟩ : ∃ n, n = l.length := ⟨_, rfl⟩
  have HN : Hid (n = l.length) := hN
  rw [← hN] at hsz HBT
  clear hs hN hl
  by_cases h0 : l = []
  · have q8 : s.toList = [] := hem.2 h0
    have q9 : s.toList.isEmpty = true := by rw [q8]; rfl
    have HF : Hid (isN l = false) := by unfold Hid; rw [h0]; rfl
    clear hem h0
    go_enter Try.func60, Try.ntmps60
    go_wp2_with fail
    rw [HPo.out, HF.out]
    exact ⟨rfl, rfl⟩
  · have q8 : ¬ s.toList = [] := fun h9 => h0 (hem.1 h9)
    have q9 : s.toList.isEmpty = false := by cases hh : s.toList with | nil => exact absurd hh q8 | cons a l => rfl
    have hn0 : 0 < n := by
      have := HN.out
      have := List.length_pos_iff.2 h0
      omega
    by_cases hbig : 32 < n
    · have hb2 : (32 : Int) < (n : Int) := by omega
      have HF : Hid (isN l = false) := by unfold Hid isN; rw [decide_eq_false (p := l.length ≤ 32) (by have := HN.out; omega)]; simp
      clear hem h0
      go_enter Try.func60, Try.ntmps60
      go_wp2_with fail
      rw [HPo.out, HF.out]
      exact ⟨rfl, rfl⟩
    · have hb2 : ¬ (32 : Int) < (n : Int) := by omega
      have HE : Hid (isN l = (sml (l.getD 0 0) && l.all prt)) := by unfold Hid isN; rw [decide_eq_true h0, decide_eq_true (by have := HN.out; omega), Bool.true_and, Bool.true_and]
      obtain ⟨d0, hd0, hx0⟩ := HBT.out 0 hn0
      have hs0 : 0 < s.size := by omega
      rw [← hd0] at HE
      clear hem h0 hd0
      cases ha : sml (d0 : Int) with
      | false =>
        rw [ha] at HE
        go_enter Try.func60, Try.ntmps60
        go_wp2_with fail
        refine Calls.mono (isSmall_ (d0 : Int) w) ?_
        rintro r W1 ⟨rfl, hw1⟩
        obtain rfl := hw1.symm
        clear hw1
        rw [ha]
        go_wp2_with fail
        rw [HPo.out, HE.out]
        exact ⟨rfl, rfl⟩
      | true =>
        rw [ha] at HE
        go_enter Try.func60, Try.ntmps60
        go_wp2_with fail
        refine Calls.mono (isSmall_ (d0 : Int) w) ?_
        rintro r W1 ⟨rfl, hw1⟩
        obtain rfl := hw1.symm
        clear hw1
        rw [ha]
        clear ha
        go_wp2_with fail
        go_loopw [19] (fun s9 W => ∃ i : Nat, i ≤ n ∧ s9 = .int .i64 i ∧ (l.take i).all prt = true ∧ W = w) (fun s9 _ => n - (intOf s9).toNat)
        case atStart => exact ⟨0, Nat.zero_le _, rfl, rfl, rfl⟩
        case round =>
          obtain ⟨i, hi, rfl, hal, rfl⟩ := hrel
          have HAL : Hid ((l.take i).all prt = true) := hal
          clear hal hx0
          by_cases hlt : i < n
          · have hlt2 : (i : Int) < (n : Int) := by omega
            have hlt3 : i < s.size := by omega
            obtain ⟨d, hd, hx⟩ := HBT.out i hlt
            have ei : IntKind.i64.wrap ((i : Int) + 1) = ((i + 1 : Nat) : Int) := by rw [IntKind.wrap_i64]; omega
            cases a1 : sml (d : Int) with
            | true =>
              have HT : Hid ((l.take (i + 1)).all prt = true) := all_step (by have := HN.out; omega) HAL.out (by rw [← hd]; unfold prt; rw [a1]; rfl)
              clear hd
              go_wp2_with fail
              refine Calls.mono (isSmall_ (d : Int) _) ?_
              rintro r W1 ⟨rfl, hw1⟩
              obtain rfl := hw1.symm
              clear hw1
              rw [a1]
              go_wp2_with fail
              go_roundw
              case rel => exact ⟨i + 1, by omega, by go_num, HT.out, by first | rfl | trivial⟩
              case measure => simp [intOf]; omega
            | false =>
              cases a2 : grt (d : Int) with
              | true =>
                have HT : Hid ((l.take (i + 1)).all prt = true) := all_step (by have := HN.out; omega) HAL.out (by rw [← hd]; unfold prt; rw [a1, a2]; rfl)
                clear hd
                go_wp2_with fail
                refine Calls.mono (isSmall_ (d : Int) _) ?_
                rintro r W1 ⟨rfl, hw1⟩
                obtain rfl := hw1.symm
                clear hw1
                rw [a1]
                go_wp2_with fail
                refine Calls.mono (isGreat_ (d : Int) _) ?_
                rintro r W1 ⟨rfl, hw1⟩
                obtain rfl := hw1.symm
                clear hw1
                rw [a2]
                go_wp2_with fail
                go_roundw
                case rel => exact ⟨i + 1, by omega, by go_num, HT.out, by first | rfl | trivial⟩
                case measure => simp [intOf]; omega
              | false =>
                cases a3 : dig (d : Int) with
                | true =>
                  have HT : Hid ((l.take (i + 1)).all prt = true) := all_step (by have := HN.out; omega) HAL.out (by rw [← hd]; unfold prt; rw [a1, a2, a3]; rfl)
                  clear hd
                  go_wp2_with fail
                  refine Calls.mono (isSmall_ (d : Int) _) ?_
                  rintro r W1 ⟨rfl, hw1⟩
                  obtain rfl := hw1.symm
                  clear hw1
                  rw [a1]
                  go_wp2_with fail
                  refine Calls.mono (isGreat_ (d : Int) _) ?_
                  rintro r W1 ⟨rfl, hw1⟩
                  obtain rfl := hw1.symm
                  clear hw1
                  rw [a2]
                  go_wp2_with fail
                  refine Calls.mono (isDigit_ (d : Int) _) ?_
                  rintro r W1 ⟨rfl, hw1⟩
                  obtain rfl := hw1.symm
                  clear hw1
                  rw [a3]
                  go_wp2_with fail
                  go_roundw
                  case rel => exact ⟨i + 1, by omega, by go_num, HT.out, by first | rfl | trivial⟩
                  case measure => simp [intOf]; omega
                | false =>
                  by_cases a4 : d = 95
                  · have a5 : ((d : Int) != 95) = false := by simp; omega
                    have HT : Hid ((l.take (i + 1)).all prt = true) := all_step (by have := HN.out; omega) HAL.out (by rw [← hd]; unfold prt; rw [a1, a2, a3, a4]; rfl)
                    clear hd
                    clear a1 a2 a3 a5
                    subst a4
                    have a1 : sml 95 = false := by decide
                    have a2 : grt 95 = false := by decide
                    have a3 : dig 95 = false := by decide
                    go_wp2_with fail
                    refine Calls.mono (isSmall_ 95 _) ?_
                    rintro r W1 ⟨rfl, hw1⟩
                    obtain rfl := hw1.symm
                    clear hw1
                    rw [a1]
                    go_wp2_with fail
                    refine Calls.mono (isGreat_ 95 _) ?_
                    rintro r W1 ⟨rfl, hw1⟩
                    obtain rfl := hw1.symm
                    clear hw1
                    rw [a2]
                    go_wp2_with fail
                    refine Calls.mono (isDigit_ 95 _) ?_
                    rintro r W1 ⟨rfl, hw1⟩
                    obtain rfl := hw1.symm
                    clear hw1
                    rw [a3]
                    go_wp2_with fail
                    go_roundw
                    case rel => exact ⟨i + 1, by omega, by go_num, HT.out, by first | rfl | trivial⟩
                    case measure => simp [intOf]; omega
                  · have a5 : ((d : Int) != 95) = true := by simp; omega
                    have a6 : ¬ (d : Int) = 95 := by omega
                    have HF : Hid (l.all prt = false) := all_stop (k := i) (by have := HN.out; omega) (by rw [← hd]; unfold prt; rw [a1, a2, a3]; simpa using a6)
                    clear hd
                    go_wp2_with fail
                    refine Calls.mono (isSmall_ (d : Int) _) ?_
                    rintro r W1 ⟨rfl, hw1⟩
                    obtain rfl := hw1.symm
                    clear hw1
                    rw [a1]
                    go_wp2_with fail
                    refine Calls.mono (isGreat_ (d : Int) _) ?_
                    rintro r W1 ⟨rfl, hw1⟩
                    obtain rfl := hw1.symm
                    clear hw1
                    rw [a2]
                    go_wp2_with fail
                    refine Calls.mono (isDigit_ (d : Int) _) ?_
                    rintro r W1 ⟨rfl, hw1⟩
                    obtain rfl := hw1.symm
                    clear hw1
                    rw [a3]
                    go_wp2_with fail
                    rw [HPo.out, HE.out, HF.out]
                    exact ⟨rfl, rfl⟩
          · have hlt2 : ¬ (i : Int) < (n : Int) := by omega
            obtain rfl : i = n := by omega
            have HT : Hid (l.all prt = true) := by
              have h9 := HAL.out
              rw [HN.out, List.take_length] at h9
              exact h9
            go_wp2_with fail
            rw [HPo.out, HE.out, HT.out]
            exact ⟨rfl, rfl⟩
end TR
end Go.Proofs.Ytgahdppcdeefaaa
