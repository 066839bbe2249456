
/-
  The document's texts, names, words.
-/
import Derived.Test.YtgahdppcdeefaaaKe9
import Derived.Test.YtgahdppcdeefaaaNa9
namespace Go.Proofs.Ytgahdppcdeefaaa
open Go.RowKit
attribute [local go_sem ↓] Go.wp_at_zero Go.wp_at_succ
namespace TR
set_option maxRecDepth 100000 in
set_option maxHeartbeats 16000000 in
theorem rtext_ (l : List Int) (w : World) (hl : Byt l) : Calls Try.prog 55 #[.string (strOfNums l)] w fun e w' => e = .returned (.bool (isT l)) ∧ w' = w := by
  obtain ⟨Post, hPost⟩ : ∃ P : Ending → World → Prop, P = fun e w' => e = .returned (.bool (isT l)) ∧ w' = w := ⟨_, rfl⟩
  rw [← hPost]
  have HPo : Hid (Post = fun e w' => e = .returned (.bool (isT l)) ∧ w' = w) := hPost
  clear hPost
  obtain ⟨s, hs⟩ : ∃ s, s = strOfNums l := ⟨_, rfl⟩
  have hsz : s.size = l.length := by rw [hs, strOfNums_size]
  have HBT : Hid (∀ i, i < l.length → ∃ d : Nat, (d : Int) = l.getD i 0 ∧ d < 256 ∧ ∀ h : i < s.size, (s[i]'h).toNat = d) := fun i hi => by
    have h1 := hl.at i
    refine ⟨(l.getD i 0).toNat, by omega, by omega, fun h => ?_⟩
    subst hs
    have h2 := nums_at hl hi h
    omega
  rw [← hs]
  obtain ⟨n, hN⟩ : ∃ n, n = l.length := ⟨_, rfl⟩
  have HN : Hid (n = l.length) := hN
  rw [← hN] at hsz HBT
  clear hs hN hl
  by_cases hbig : 64 < n
  · have hb2 : (64 : Int) < (n : Int) := by omega
    have HF : Hid (isT l = false) := by unfold Hid isT; rw [decide_eq_false (by have := HN.out; omega)]; rfl
    go_enter Try.func55, Try.ntmps55
    go_wp2_with fail
    rw [HPo.out, HF.out]
    exact ⟨rfl, rfl⟩
  · have hb2 : ¬ (64 : Int) < (n : Int) := by omega
    have HE : Hid (isT l = l.all pln) := by unfold Hid isT; rw [decide_eq_true (by have := HN.out; omega), Bool.true_and]
    go_enter Try.func55, Try.ntmps55
    go_wp2_with fail
    go_loopw [3] (fun s3 W => ∃ i : Nat, i ≤ n ∧ s3 = .int .i64 i ∧ (l.take i).all pln = true ∧ W = w) (fun s3 _ => n - (intOf s3).toNat)
    case atStart => exact ⟨0, Nat.zero_le _, rfl, rfl, rfl⟩
    case round =>
      obtain ⟨i, hi, rfl, hal, rfl⟩ := hrel
      have HAL : Hid ((l.take i).all pln = true) := hal
      clear hal
      by_cases hlt : i < n
      · have hlt2 : (i : Int) < (n : Int) := by omega
        have hlt3 : i < s.size := by omega
        obtain ⟨d, hd, hdb, hx⟩ := HBT.out i hlt
        have ei : IntKind.i64.wrap ((i : Int) + 1) = ((i + 1 : Nat) : Int) := by rw [IntKind.wrap_i64]; omega
        by_cases h1 : (d : Int) < 32
        · have HF : Hid (l.all pln = false) := all_stop (k := i) (by have := HN.out; omega) (by rw [← hd]; unfold pln; rw [decide_eq_false (by omega)]; rfl)
          have h1' : d < 32 := by omega
          clear hd
          go_wp2_with fail
          rw [HPo.out, HE.out, HF.out]
          exact ⟨rfl, rfl⟩
        · have h1' : ¬ d < 32 := by omega
          by_cases h2 : (126 : Int) < (d : Int)
          · have HF : Hid (l.all pln = false) := all_stop (k := i) (by have := HN.out; omega) (by rw [← hd]; unfold pln; rw [decide_eq_false (p := (d : Int) ≤ 126) (by omega)]; simp)
            have h2' : 126 < d := by omega
            clear hd
            go_wp2_with fail
            rw [HPo.out, HE.out, HF.out]
            exact ⟨rfl, rfl⟩
          · have HT : Hid ((l.take (i + 1)).all pln = true) := all_step (by have := HN.out; omega) HAL.out (by rw [← hd]; unfold pln; rw [decide_eq_true (p := (32 : Int) ≤ d) (by omega), decide_eq_true (by omega)]; rfl)
            have h2' : ¬ 126 < d := by omega
            clear hd
            go_wp2_with fail
            go_roundw
            case rel => exact ⟨i + 1, by omega, by go_num, HT.out, by first | rfl | trivial⟩
            case measure => simp [intOf]; omega
      · have hlt2 : ¬ (i : Int) < (n : Int) := by omega
        obtain rfl : i = n := by omega
        have HT : Hid (l.all pln = true) := by
          have h9 := HAL.out
          rw [HN.out, List.take_length] at h9
          exact h9
        go_wp2_with fail
        rw [HPo.out, HE.out, HT.out]
        exact ⟨rfl, rfl⟩
set_option maxRecDepth 100000 in
set_option maxHeartbeats 16000000 in
theorem rname_ (l : List Int) (w : World) (hl : Byt l) : Calls Try.prog 57 #[.string (strOfNums l)] w fun e w' => e = .returned (.bool (isN l)) ∧ w' = w := by
  obtain ⟨Post, hPost⟩ : ∃ P : Ending → World → Prop, P = fun e w' => e = .returned (.bool (isN l)) ∧ w' = w := ⟨_, rfl⟩
  rw [← hPost]
  have HPo : Hid (Post = fun e w' => e = .returned (.bool (isN l)) ∧ w' = w) := hPost
  clear hPost
  obtain ⟨s, hs⟩ : ∃ s, s = strOfNums l := ⟨_, rfl⟩
  have hsz : s.size = l.length := by rw [hs, strOfNums_size]
  have HBT : Hid (∀ i, i < l.length → ∃ d : Nat, (d : Int) = l.getD i 0 ∧ d < 256 ∧ ∀ h : i < s.size, (s[i]'h).toNat = d) := fun i hi => by
    have h1 := hl.at i
    refine ⟨(l.getD i 0).toNat, by omega, by omega, fun h => ?_⟩
    subst hs
    have h2 := nums_at hl hi h
    omega
  rw [← hs]
  obtain ⟨n, hN⟩ : ∃ n, n = l.length := ⟨_, rfl⟩
  have HN : Hid (n = l.length) := hN
  rw [← hN] at hsz HBT
  clear hs hN hl
  by_cases h0 : n = 0
  · have HF : Hid (isN l = false) := by
      unfold Hid isN
      rw [decide_eq_false (p := l ≠ []) (by have := HN.out; intro h9; exact h9 (List.eq_nil_of_length_eq_zero (by omega)))]
      rfl
    subst h0
    go_enter Try.func57, Try.ntmps57
    go_wp2_with fail
    rw [HPo.out, HF.out]
    exact ⟨rfl, rfl⟩
  · have hl0 : l ≠ [] := by have := HN.out; rintro rfl; exact h0 (by simpa using this)
    have h1n : ¬ n < 1 := by omega
    have h1i : ¬ (n : Int) < 1 := by omega
    have h1z : ¬ n = 0 := h0
    by_cases hbig : 32 < n
    · have hb2 : (32 : Int) < (n : Int) := by omega
      have HF : Hid (isN l = false) := by unfold Hid isN; rw [decide_eq_false (p := l.length ≤ 32) (by have := HN.out; omega)]; simp
      clear hl0
      go_enter Try.func57, Try.ntmps57
      go_wp2_with fail
      rw [HPo.out, HF.out]
      exact ⟨rfl, rfl⟩
    · have hb2 : ¬ (32 : Int) < (n : Int) := by omega
      have HE0 : Hid (isN l = (sml (l.getD 0 0) && l.all prt)) := by unfold Hid isN; rw [decide_eq_true hl0, decide_eq_true (by have := HN.out; omega), Bool.true_and, Bool.true_and]
      obtain ⟨d0, hd0, hdb0, hx0⟩ := HBT.out 0 (by omega)
      have hs0 : 0 < s.size := by omega
      rw [← hd0] at HE0
      clear hl0 hd0 hdb0
      by_cases a1 : d0 < 97
      · have HF : Hid (isN l = false) := by unfold Hid; rw [HE0.out]; unfold sml; rw [decide_eq_false (p := (97 : Int) ≤ d0) (by omega)]; rfl
        go_enter Try.func57, Try.ntmps57
        go_wp2_with fail
        rw [HPo.out, HF.out]
        exact ⟨rfl, rfl⟩
      · by_cases a2 : 122 < d0
        · have HF : Hid (isN l = false) := by unfold Hid; rw [HE0.out]; unfold sml; rw [decide_eq_false (p := (d0 : Int) ≤ 122) (by omega)]; simp
          go_enter Try.func57, Try.ntmps57
          go_wp2_with fail
          rw [HPo.out, HF.out]
          exact ⟨rfl, rfl⟩
        · have HE : Hid (isN l = l.all prt) := by unfold Hid; rw [HE0.out]; unfold sml; rw [decide_eq_true (p := (97 : Int) ≤ d0) (by omega), decide_eq_true (by omega)]; rfl
          clear HE0
          go_enter Try.func57, Try.ntmps57
          go_wp2_with fail
          clear hx0 hs0 a1 a2
          go_loopw [3] (fun s3 W => ∃ i : Nat, i ≤ n ∧ s3 = .int .i64 i ∧ (l.take i).all prt = true ∧ W = w) (fun s3 _ => n - (intOf s3).toNat)
          case atStart => exact ⟨0, Nat.zero_le _, rfl, rfl, rfl⟩
          case round =>
            obtain ⟨i, hi, rfl, hal, rfl⟩ := hrel
            have HAL : Hid ((l.take i).all prt = true) := hal
            clear hal
            by_cases hlt : i < n
            · have hlt2 : (i : Int) < (n : Int) := by omega
              have hlt3 : i < s.size := by omega
              obtain ⟨d, hd, hdb, hx⟩ := HBT.out i hlt
              have ei : IntKind.i64.wrap ((i : Int) + 1) = ((i + 1 : Nat) : Int) := by rw [IntKind.wrap_i64]; omega
              rcases (by omega : (0 ≤ d ∧ d ≤ 47) ∨ (48 ≤ d ∧ d ≤ 57) ∨ (58 ≤ d ∧ d ≤ 64) ∨ (65 ≤ d ∧ d ≤ 90) ∨ (91 ≤ d ∧ d ≤ 94) ∨ (95 ≤ d ∧ d ≤ 95) ∨ (96 ≤ d ∧ d ≤ 96) ∨ (97 ≤ d ∧ d ≤ 122) ∨ (123 ≤ d ∧ d ≤ 255)) with ⟨r1, r2⟩ | ⟨r1, r2⟩ | ⟨r1, r2⟩ | ⟨r1, r2⟩ | ⟨r1, r2⟩ | ⟨r1, r2⟩ | ⟨r1, r2⟩ | ⟨r1, r2⟩ | ⟨r1, r2⟩
              · have q0 : ¬ 97 ≤ d := by omega
                have p0 : ¬ (97 : Int) ≤ (d : Int) := by omega
                have q1 : d ≤ 122 := by omega
                have p1 : (d : Int) ≤ 122 := by omega
                have q2 : ¬ 65 ≤ d := by omega
                have p2 : ¬ (65 : Int) ≤ (d : Int) := by omega
                have q3 : d ≤ 90 := by omega
                have p3 : (d : Int) ≤ 90 := by omega
                have q4 : ¬ 48 ≤ d := by omega
                have p4 : ¬ (48 : Int) ≤ (d : Int) := by omega
                have q5 : d ≤ 57 := by omega
                have p5 : (d : Int) ≤ 57 := by omega
                have q6 : ¬ d = 95 := by omega
                have p6 : ((d : Int) == 95) = false := by simp; omega
                have hp : prt (d : Int) = false := by unfold prt sml grt dig; simp; omega
                have HF : Hid (l.all prt = false) := all_stop (k := i) (by have := HN.out; omega) (by rw [← hd]; exact hp)
                clear hd hp hdb
                go_wp2_with fail
                rw [HPo.out, HE.out, HF.out]
                exact ⟨by simp, rfl⟩
              · have q0 : ¬ 97 ≤ d := by omega
                have p0 : ¬ (97 : Int) ≤ (d : Int) := by omega
                have q1 : d ≤ 122 := by omega
                have p1 : (d : Int) ≤ 122 := by omega
                have q2 : ¬ 65 ≤ d := by omega
                have p2 : ¬ (65 : Int) ≤ (d : Int) := by omega
                have q3 : d ≤ 90 := by omega
                have p3 : (d : Int) ≤ 90 := by omega
                have q4 : 48 ≤ d := by omega
                have p4 : (48 : Int) ≤ (d : Int) := by omega
                have q5 : d ≤ 57 := by omega
                have p5 : (d : Int) ≤ 57 := by omega
                have q6 : ¬ d = 95 := by omega
                have p6 : ((d : Int) == 95) = false := by simp; omega
                have hp : prt (d : Int) = true := by unfold prt sml grt dig; simp; omega
                have HT : Hid ((l.take (i + 1)).all prt = true) := all_step (by have := HN.out; omega) HAL.out (by rw [← hd]; exact hp)
                clear hd hp hdb
                go_wp2_with fail
                go_roundw
                case rel => exact ⟨i + 1, by omega, by go_num, HT.out, by first | rfl | trivial⟩
                case measure => simp [intOf]; omega
              · have q0 : ¬ 97 ≤ d := by omega
                have p0 : ¬ (97 : Int) ≤ (d : Int) := by omega
                have q1 : d ≤ 122 := by omega
                have p1 : (d : Int) ≤ 122 := by omega
                have q2 : ¬ 65 ≤ d := by omega
                have p2 : ¬ (65 : Int) ≤ (d : Int) := by omega
                have q3 : d ≤ 90 := by omega
                have p3 : (d : Int) ≤ 90 := by omega
                have q4 : 48 ≤ d := by omega
                have p4 : (48 : Int) ≤ (d : Int) := by omega
                have q5 : ¬ d ≤ 57 := by omega
                have p5 : ¬ (d : Int) ≤ 57 := by omega
                have q6 : ¬ d = 95 := by omega
                have p6 : ((d : Int) == 95) = false := by simp; omega
                have hp : prt (d : Int) = false := by unfold prt sml grt dig; simp; omega
                have HF : Hid (l.all prt = false) := all_stop (k := i) (by have := HN.out; omega) (by rw [← hd]; exact hp)
                clear hd hp hdb
                go_wp2_with fail
                rw [HPo.out, HE.out, HF.out]
                exact ⟨by simp, rfl⟩
              · have q0 : ¬ 97 ≤ d := by omega
                have p0 : ¬ (97 : Int) ≤ (d : Int) := by omega
                have q1 : d ≤ 122 := by omega
                have p1 : (d : Int) ≤ 122 := by omega
                have q2 : 65 ≤ d := by omega
                have p2 : (65 : Int) ≤ (d : Int) := by omega
                have q3 : d ≤ 90 := by omega
                have p3 : (d : Int) ≤ 90 := by omega
                have q4 : 48 ≤ d := by omega
                have p4 : (48 : Int) ≤ (d : Int) := by omega
                have q5 : ¬ d ≤ 57 := by omega
                have p5 : ¬ (d : Int) ≤ 57 := by omega
                have q6 : ¬ d = 95 := by omega
                have p6 : ((d : Int) == 95) = false := by simp; omega
                have hp : prt (d : Int) = true := by unfold prt sml grt dig; simp; omega
                have HT : Hid ((l.take (i + 1)).all prt = true) := all_step (by have := HN.out; omega) HAL.out (by rw [← hd]; exact hp)
                clear hd hp hdb
                go_wp2_with fail
                go_roundw
                case rel => exact ⟨i + 1, by omega, by go_num, HT.out, by first | rfl | trivial⟩
                case measure => simp [intOf]; omega
              · have q0 : ¬ 97 ≤ d := by omega
                have p0 : ¬ (97 : Int) ≤ (d : Int) := by omega
                have q1 : d ≤ 122 := by omega
                have p1 : (d : Int) ≤ 122 := by omega
                have q2 : 65 ≤ d := by omega
                have p2 : (65 : Int) ≤ (d : Int) := by omega
                have q3 : ¬ d ≤ 90 := by omega
                have p3 : ¬ (d : Int) ≤ 90 := by omega
                have q4 : 48 ≤ d := by omega
                have p4 : (48 : Int) ≤ (d : Int) := by omega
                have q5 : ¬ d ≤ 57 := by omega
                have p5 : ¬ (d : Int) ≤ 57 := by omega
                have q6 : ¬ d = 95 := by omega
                have p6 : ((d : Int) == 95) = false := by simp; omega
                have hp : prt (d : Int) = false := by unfold prt sml grt dig; simp; omega
                have HF : Hid (l.all prt = false) := all_stop (k := i) (by have := HN.out; omega) (by rw [← hd]; exact hp)
                clear hd hp hdb
                go_wp2_with fail
                rw [HPo.out, HE.out, HF.out]
                exact ⟨by simp, rfl⟩
              · have q0 : ¬ 97 ≤ d := by omega
                have p0 : ¬ (97 : Int) ≤ (d : Int) := by omega
                have q1 : d ≤ 122 := by omega
                have p1 : (d : Int) ≤ 122 := by omega
                have q2 : 65 ≤ d := by omega
                have p2 : (65 : Int) ≤ (d : Int) := by omega
                have q3 : ¬ d ≤ 90 := by omega
                have p3 : ¬ (d : Int) ≤ 90 := by omega
                have q4 : 48 ≤ d := by omega
                have p4 : (48 : Int) ≤ (d : Int) := by omega
                have q5 : ¬ d ≤ 57 := by omega
                have p5 : ¬ (d : Int) ≤ 57 := by omega
                have q6 : d = 95 := by omega
                have p6 : ((d : Int) == 95) = true := by simp; omega
                have hp : prt (d : Int) = true := by unfold prt sml grt dig; simp; omega
                have HT : Hid ((l.take (i + 1)).all prt = true) := all_step (by have := HN.out; omega) HAL.out (by rw [← hd]; exact hp)
                clear hd hp hdb
                go_wp2_with fail
                go_roundw
                case rel => exact ⟨i + 1, by omega, by go_num, HT.out, by first | rfl | trivial⟩
                case measure => simp [intOf]; omega
              · have q0 : ¬ 97 ≤ d := by omega
                have p0 : ¬ (97 : Int) ≤ (d : Int) := by omega
                have q1 : d ≤ 122 := by omega
                have p1 : (d : Int) ≤ 122 := by omega
                have q2 : 65 ≤ d := by omega
                have p2 : (65 : Int) ≤ (d : Int) := by omega
                have q3 : ¬ d ≤ 90 := by omega
                have p3 : ¬ (d : Int) ≤ 90 := by omega
                have q4 : 48 ≤ d := by omega
                have p4 : (48 : Int) ≤ (d : Int) := by omega
                have q5 : ¬ d ≤ 57 := by omega
                have p5 : ¬ (d : Int) ≤ 57 := by omega
                have q6 : ¬ d = 95 := by omega
                have p6 : ((d : Int) == 95) = false := by simp; omega
                have hp : prt (d : Int) = false := by unfold prt sml grt dig; simp; omega
                have HF : Hid (l.all prt = false) := all_stop (k := i) (by have := HN.out; omega) (by rw [← hd]; exact hp)
                clear hd hp hdb
                go_wp2_with fail
                rw [HPo.out, HE.out, HF.out]
                exact ⟨by simp, rfl⟩
              · have q0 : 97 ≤ d := by omega
                have p0 : (97 : Int) ≤ (d : Int) := by omega
                have q1 : d ≤ 122 := by omega
                have p1 : (d : Int) ≤ 122 := by omega
                have q2 : 65 ≤ d := by omega
                have p2 : (65 : Int) ≤ (d : Int) := by omega
                have q3 : ¬ d ≤ 90 := by omega
                have p3 : ¬ (d : Int) ≤ 90 := by omega
                have q4 : 48 ≤ d := by omega
                have p4 : (48 : Int) ≤ (d : Int) := by omega
                have q5 : ¬ d ≤ 57 := by omega
                have p5 : ¬ (d : Int) ≤ 57 := by omega
                have q6 : ¬ d = 95 := by omega
                have p6 : ((d : Int) == 95) = false := by simp; omega
                have hp : prt (d : Int) = true := by unfold prt sml grt dig; simp; omega
                have HT : Hid ((l.take (i + 1)).all prt = true) := all_step (by have := HN.out; omega) HAL.out (by rw [← hd]; exact hp)
                clear hd hp hdb
                go_wp2_with fail
                go_roundw
                case rel => exact ⟨i + 1, by omega, by go_num, HT.out, by first | rfl | trivial⟩
                case measure => simp [intOf]; omega
              · have q0 : 97 ≤ d := by omega
                have p0 : (97 : Int) ≤ (d : Int) := by omega
                have q1 : ¬ d ≤ 122 := by omega
                have p1 : ¬ (d : Int) ≤ 122 := by omega
                have q2 : 65 ≤ d := by omega
                have p2 : (65 : Int) ≤ (d : Int) := by omega
                have q3 : ¬ d ≤ 90 := by omega
                have p3 : ¬ (d : Int) ≤ 90 := by omega
                have q4 : 48 ≤ d := by omega
                have p4 : (48 : Int) ≤ (d : Int) := by omega
                have q5 : ¬ d ≤ 57 := by omega
                have p5 : ¬ (d : Int) ≤ 57 := by omega
                have q6 : ¬ d = 95 := by omega
                have p6 : ((d : Int) == 95) = false := by simp; omega
                have hp : prt (d : Int) = false := by unfold prt sml grt dig; simp; omega
                have HF : Hid (l.all prt = false) := all_stop (k := i) (by have := HN.out; omega) (by rw [← hd]; exact hp)
                clear hd hp hdb
                go_wp2_with fail
                rw [HPo.out, HE.out, HF.out]
                exact ⟨by simp, rfl⟩
            · have hlt2 : ¬ (i : Int) < (n : Int) := by omega
              obtain rfl : i = n := by omega
              have HT : Hid (l.all prt = true) := by
                have h9 := HAL.out
                rw [HN.out, List.take_length] at h9
                exact h9
              go_wp2_with fail
              rw [HPo.out, HE.out, HT.out]
              exact ⟨rfl, rfl⟩
end TR
end Go.Proofs.Ytgahdppcdeefaaa
