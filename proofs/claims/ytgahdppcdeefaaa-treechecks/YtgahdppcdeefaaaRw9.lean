/-
  The document's words; free names.
-/
import Derived.Test.YtgahdppcdeefaaaKe9
import Derived.Test.YtgahdppcdeefaaaNa9
namespace Go.Proofs.Ytgahdppcdeefaaa
open Go.RowKit
attribute [local go_sem ↓] Go.wp_at_zero Go.wp_at_succ
namespace TR
set_option maxRecDepth 100000 in
set_option maxHeartbeats 16000000 in
theorem rtext_ (l : List Int) (w : World) (hl : Byt l) : Calls Try.prog 55 #[.string (strOfNums l)] w fun e w' => e = .returned (.bool (isT l)) ∧ w' = w := by
  obtain ⟨Post, hPost⟩ : ∃ P : Ending → World → Prop, P = fun e w' => e = .returned (.bool (isT l)) ∧ w' = w := ⟨_, rfl⟩
  rw [← hPost]
  have HPo : Hid (Post = fun e w' => e = .returned (.bool (isT l)) ∧ w' = w) := hPost
  clear hPost
  obtain ⟨s, hs⟩ : ∃ s, s = strOfNums l := ⟨_, rfl⟩
  have hsz : s.size = l.length := by rw [hs, strOfNums_size]
  have HBT : Hid (∀ i, i < l.length → ∃ d : Nat, (d : Int) = l.getD i 0 ∧ d < 256 ∧ ∀ h : i < s.size, (s[i]'h).toNat = d) := fun i hi => by
    have h1 := hl.at i
    refine ⟨(l.getD i 0).toNat, by omega, by omega, fun h => ?_⟩
    subst hs
    have h2 := nums_at hl hi h
    omega
  rw [← hs]
  obtain ⟨n, hN⟩ : ∃ n, n = l.length := ⟨_, rfl⟩
  have HN : Hid (n = l.length) := hN
  rw [← hN] at hsz HBT
  clear hs hN hl
  by_cases hbig : 64 < n
  · have hb2 : (64 : Int) < (n : Int) := by omega
    have HF : Hid (isT l = false) := by unfold Hid isT; rw [decide_eq_false (by have := HN.out; omega)]; rfl
    go_enter Try.func55, Try.ntmps55
    go_wp2_with fail
    rw [HPo.out, HF.out]
    exact ⟨rfl, rfl⟩
  · have hb2 : ¬ (64 : Int) < (n : Int) := by omega
    have HE : Hid (isT l = l.all pln) := by unfold Hid isT; rw [decide_eq_true (by have := HN.out; omega), Bool.true_and]
    go_enter Try.func55, Try.ntmps55
    go_wp2_with fail
    go_loopw [3] (fun s3 W => ∃ i : Nat, i ≤ n ∧ s3 = .int .i64 i ∧ (l.take i).all pln = true ∧ W = w) (fun s3 _ => n - (intOf s3).toNat)
    case atStart => exact ⟨0, Nat.zero_le _, rfl, rfl, rfl⟩
    case round =>
      obtain ⟨i, hi, rfl, hal, rfl⟩ := hrel
      have HAL : Hid ((l.take i).all pln = true) := hal
      clear hal
      by_cases hlt : i < n
      · have hlt2 : (i : Int) < (n : Int) := by omega
        have hlt3 : i < s.size := by omega
        obtain ⟨d, hd, hdb, hx⟩ := HBT.out i hlt
        have ei : IntKind.i64.wrap ((i : Int) + 1) = ((i + 1 : Nat) : Int) := by rw [IntKind.wrap_i64]; omega
        by_cases h1 : (d : Int) < 32
        · have HF : Hid (l.all pln = false) := all_stop (k := i) (by have := HN.out; omega) (by rw [← hd]; unfold pln; rw [decide_eq_false (by omega)]; rfl)
          have h1' : d < 32 := by omega
          clear hd
          go_wp2_with fail
          rw [HPo.out, HE.out, HF.out]
          exact ⟨rfl, rfl⟩
        · have h1' : ¬ d < 32 := by omega
          by_cases h2 : (126 : Int) < (d : Int)
          · have HF : Hid (l.all pln = false) := all_stop (k := i) (by have := HN.out; omega) (by rw [← hd]; unfold pln; rw [decide_eq_false (p := (d : Int) ≤ 126) (by omega)]; simp)
            have h2' : 126 < d := by omega
            clear hd
            go_wp2_with fail
            rw [HPo.out, HE.out, HF.out]
            exact ⟨rfl, rfl⟩
          · have HT : Hid ((l.take (i + 1)).all pln = true) := all_step (by have := HN.out; omega) HAL.out (by rw [← hd]; unfold pln; rw [decide_eq_true (p := (32 : Int) ≤ d) (by omega), decide_eq_true (by omega)]; rfl)
            have h2' : ¬ 126 < d := by omega
            clear hd
            go_wp2_with fail
            go_roundw
            case rel => exact ⟨i + 1, by omega, by go_num, HT.out, by first | rfl | trivial⟩
            case measure => simp [intOf]; omega
      · have hlt2 : ¬ (i : Int) < (n : Int) := by omega
        obtain rfl : i = n := by omega
        have HT : Hid (l.all pln = true) := by
          have h9 := HAL.out
          rw [HN.out, List.take_length] at h9
          exact h9
        go_wp2_with fail
        rw [HPo.out, HE.out, HT.out]
        exact ⟨rfl, rfl⟩
set_option maxRecDepth 100000 in
set_option maxHeartbeats 16000000 in
theorem rname_ (l : List Int) (w : World) (hl : Byt l) : Calls Try.prog 57 #[.string (strOfNums l)] w fun e w' => e = .returned (.bool (isN l)) ∧ w' = w := by
  obtain ⟨Post, hPost⟩ : ∃ P : Ending → World → Prop, P = fun e w' => e = .returned (.bool (isN l)) ∧ w' = w := ⟨_, rfl⟩
  rw [← hPost]
  have HPo : Hid (Post = fun e w' => e = .returned (.bool (isN l)) ∧ w' = w) := hPost
  clear hPost
  obtain ⟨s, hs⟩ : ∃ s, s = strOfNums l := ⟨_, rfl⟩
  have hsz : s.size = l.length := by rw [hs, strOfNums_size]
  have HBT : Hid (∀ i, i < l.length → ∃ d : Nat, (d : Int) = l.getD i 0 ∧ d < 256 ∧ ∀ h : i < s.size, (s[i]'h).toNat = d) := fun i hi => by
    have h1 := hl.at i
    refine ⟨(l.getD i 0).toNat, by omega, by omega, fun h => ?_⟩
    subst hs
    have h2 := nums_at hl hi h
    omega
  rw [← hs]
  obtain ⟨n, hN⟩ : ∃ n, n = l.length := ⟨_, rfl⟩
  have HN : Hid (n = l.length) := hN
  rw [← hN] at hsz HBT
  clear hs hN hl
  by_cases h0 : n = 0
  · have HF : Hid (isN l = false) := by
      unfold Hid isN
      rw [decide_eq_false (p := l ≠ []) (by have := HN.out; intro h9; exact h9 (List.eq_nil_of_length_eq_zero (by omega)))]
      rfl
    subst h0
    go_enter Try.func57, Try.ntmps57
    go_wp2_with fail
    rw [HPo.out, HF.out]
    exact ⟨rfl, rfl⟩
  · have hl0 : l ≠ [] := by have := HN.out; rintro rfl; exact h0 (by simpa using this)
    have h1n : ¬ n < 1 := by omega
    have h1i : ¬ (n : Int) < 1 := by omega
    have h1z : ¬ n = 0 := h0
    by_cases hbig : 32 < n
    · have hb2 : (32 : Int) < (n : Int) := by omega
      have HF : Hid (isN l = false) := by unfold Hid isN; rw [decide_eq_false (p := l.length ≤ 32) (by have := HN.out; omega)]; simp
      clear hl0
      go_enter Try.func57, Try.ntmps57
      go_wp2_with fail
      rw [HPo.out, HF.out]
      exact ⟨rfl, rfl⟩
    · have hb2 : ¬ (32 : Int) < (n : Int) := by omega
      have HE0 : Hid (isN l = (sml (l.getD 0 0) && l.all prt)) := by unfold Hid isN; rw [decide_eq_true hl0, decide_eq_true (by have := HN.out; omega), Bool.true_and, Bool.true_and]
      obtain ⟨d0, hd0, hdb0, hx0⟩ := HBT.out 0 (by omega)
      have hs0 : 0 < s.size := by omega
      rw [← hd0] at HE0
      clear hl0 hd0 hdb0
      by_cases a1 : d0 < 97
      · have HF : Hid (isN l = false) := by unfold Hid; rw [HE0.out]; unfold sml; rw [decide_eq_false (p := (97 : Int) ≤ d0) (by omega)]; rfl
        go_enter Try.func57, Try.ntmps57
        go_wp2_with fail
        rw [HPo.out, HF.out]
        exact ⟨rfl, rfl⟩
      · by_cases a2 : 122 < d0
        · have HF : Hid (isN l = false) := by unfold Hid; rw [HE0.out]; unfold sml; rw [decide_eq_false (p := (d0 : Int) ≤ 122) (by omega)]; simp
          go_enter Try.func57, Try.ntmps57
          go_wp2_with fail
          rw [HPo.out, HF.out]
          exact ⟨rfl, rfl⟩
        · have HE : Hid (isN l = l.all prt) := by unfold Hid; rw [HE0.out]; unfold sml; rw [decide_eq_true (p := (97 : Int) ≤ d0) (by omega), decide_eq_true (by omega)]; rfl
          clear HE0
          go_enter Try.func57, Try.ntmps57
          go_wp2_with fail
          clear hx0 hs0 a1 a2
          go_loopw [3] (fun s3 W => ∃ i : Nat, i ≤ n ∧ s3 = .int .i64 i ∧ (l.take i).all prt = true ∧ W = w) (fun s3 _ => n - (intOf s3).toNat)
          case atStart => exact ⟨0, Nat.zero_le _, rfl, rfl, rfl⟩
          case round =>
            obtain ⟨i, hi, rfl, hal, rfl⟩ := hrel
            have HAL : Hid ((l.take i).all prt = true) := hal
            clear hal
            by_cases hlt : i < n
            · have hlt2 : (i : Int) < (n : Int) := by omega
              have hlt3 : i < s.size := by omega
              obtain ⟨d, hd, hdb, hx⟩ := HBT.out i hlt
              have ei : IntKind.i64.wrap ((i : Int) + 1) = ((i + 1 : Nat) : Int) := by rw [IntKind.wrap_i64]; omega
              rcases (by omega : (0 ≤ d ∧ d ≤ 47) ∨ (48 ≤ d ∧ d ≤ 57) ∨ (58 ≤ d ∧ d ≤ 64) ∨ (65 ≤ d ∧ d ≤ 90) ∨ (91 ≤ d ∧ d ≤ 94) ∨ (95 ≤ d ∧ d ≤ 95) ∨ (96 ≤ d ∧ d ≤ 96) ∨ (97 ≤ d ∧ d ≤ 122) ∨ (123 ≤ d ∧ d ≤ 255)) with ⟨r1, r2⟩ | ⟨r1, r2⟩ | ⟨r1, r2⟩ | ⟨r1, r2⟩ | ⟨r1, r2⟩ | ⟨r1, r2⟩ | ⟨r1, r2⟩ | ⟨r1, r2⟩ | ⟨r1, r2⟩
              · have q0 : ¬ 97 ≤ d := by omega
                have p0 : ¬ (97 : Int) ≤ (d : Int) := by omega
                have q1 : d ≤ 122 := by omega
                have p1 : (d : Int) ≤ 122 := by omega
                have q2 : ¬ 65 ≤ d := by omega
                have p2 : ¬ (65 : Int) ≤ (d : Int) := by omega
                have q3 : d ≤ 90 := by omega
                have p3 : (d : Int) ≤ 90 := by omega
                have q4 : ¬ 48 ≤ d := by omega
                have p4 : ¬ (48 : Int) ≤ (d : Int) := by omega
                have q5 : d ≤ 57 := by omega
                have p5 : (d : Int) ≤ 57 := by omega
                have q6 : ¬ d = 95 := by omega
                have p6 : ((d : Int) == 95) = false := by simp; omega
                have hp : prt (d : Int) = false := by unfold prt sml grt dig; simp; omega
                have HF : Hid (l.all prt = false) := all_stop (k := i) (by have := HN.out; omega) (by rw [← hd]; exact hp)
                clear hd hp hdb
                go_wp2_with fail
                rw [HPo.out, HE.out, HF.out]
                exact ⟨by simp, rfl⟩
              · have q0 : ¬ 97 ≤ d := by omega
                have p0 : ¬ (97 : Int) ≤ (d : Int) := by omega
                have q1 : d ≤ 122 := by omega
                have p1 : (d : Int) ≤ 122 := by omega
                have q2 : ¬ 65 ≤ d := by omega
                have p2 : ¬ (65 : Int) ≤ (d : Int) := by omega
                have q3 : d ≤ 90 := by omega
                have p3 : (d : Int) ≤ 90 := by omega
                have q4 : 48 ≤ d := by omega
                have p4 : (48 : Int) ≤ (d : Int) := by omega
                have q5 : d ≤ 57 := by omega
                have p5 : (d : Int) ≤ 57 := by omega
                have q6 : ¬ d = 95 := by omega
                have p6 : ((d : Int) == 95) = false := by simp; omega
                have hp : prt (d : Int) = true := by unfold prt sml grt dig; simp; omega
                have HT : Hid ((l.take (i + 1)).all prt = true) := all_step (by have := HN.out; omega) HAL.out (by rw [← hd]; exact hp)
                clear hd hp hdb
                go_wp2_with fail
                go_roundw
                case rel => exact ⟨i + 1, by omega, by go_num, HT.out, by first | rfl | trivial⟩
                case measure => simp [intOf]; omega
              · have q0 : ¬ 97 ≤ d := by omega
                have p0 : ¬ (97 : Int) ≤ (d : Int) := by omega
                have q1 : d ≤ 122 := by omega
                have p1 : (d : Int) ≤ 122 := by omega
                have q2 : ¬ 65 ≤ d := by omega
                have p2 : ¬ (65 : Int) ≤ (d : Int) := by omega
                have q3 : d ≤ 90 := by omega
                have p3 : (d : Int) ≤ 90 := by omega
                have q4 : 48 ≤ d := by omega
                have p4 : (48 : Int) ≤ (d : Int) := by omega
                have q5 : ¬ d ≤ 57 := by omega
                have p5 : ¬ (d : Int) ≤ 57 := by omega
                have q6 : ¬ d = 95 := by omega
                have p6 : ((d : Int) == 95) = false := by simp; omega
                have hp : prt (d : Int) = false := by unfold prt sml grt dig; simp; omega
                have HF : Hid (l.all prt = false) := all_stop (k := i) (by have := HN.out; omega) (by rw [← hd]; exact hp)
                clear hd hp hdb
                go_wp2_with fail
                rw [HPo.out, HE.out, HF.out]
                exact ⟨by simp, rfl⟩
              · have q0 : ¬ 97 ≤ d := by omega
                have p0 : ¬ (97 : Int) ≤ (d : Int) := by omega
                have q1 : d ≤ 122 := by omega
                have p1 : (d : Int) ≤ 122 := by omega
                have q2 : 65 ≤ d := by omega
                have p2 : (65 : Int) ≤ (d : Int) := by omega
                have q3 : d ≤ 90 := by omega
                have p3 : (d : Int) ≤ 90 := by omega
                have q4 : 48 ≤ d := by omega
                have p4 : (48 : Int) ≤ (d : Int) := by omega
                have q5 : ¬ d ≤ 57 := by omega
                have p5 : ¬ (d : Int) ≤ 57 := by omega
                have q6 : ¬ d = 95 := by omega
                have p6 : ((d : Int) == 95) = false := by simp; omega
                have hp : prt (d : Int) = true := by unfold prt sml grt dig; simp; omega
                have HT : Hid ((l.take (i + 1)).all prt = true) := all_step (by have := HN.out; omega) HAL.out (by rw [← hd]; exact hp)
                clear hd hp hdb
                go_wp2_with fail
                go_roundw
                case rel => exact ⟨i + 1, by omega, by go_num, HT.out, by first | rfl | trivial⟩
                case measure => simp [intOf]; omega
              · have q0 : ¬ 97 ≤ d := by omega
                have p0 : ¬ (97 : Int) ≤ (d : Int) := by omega
                have q1 : d ≤ 122 := by omega
                have p1 : (d : Int) ≤ 122 := by omega
                have q2 : 65 ≤ d := by omega
                have p2 : (65 : Int) ≤ (d : Int) := by omega
                have q3 : ¬ d ≤ 90 := by omega
                have p3 : ¬ (d : Int) ≤ 90 := by omega
                have q4 : 48 ≤ d := by omega
                have p4 : (48 : Int) ≤ (d : Int) := by omega
                have q5 : ¬ d ≤ 57 := by omega
                have p5 : ¬ (d : Int) ≤ 57 := by omega
                have q6 : ¬ d = 95 := by omega
                have p6 : ((d : Int) == 95) = false := by simp; omega
                have hp : prt (d : Int) = false := by unfold prt sml grt dig; simp; omega
                have HF : Hid (l.all prt = false) := all_stop (k := i) (by have := HN.out; omega) (by rw [← hd]; exact hp)
                clear hd hp hdb
                go_wp2_with fail
                rw [HPo.out, HE.out, HF.out]
                exact ⟨by simp, rfl⟩
              · have q0 : ¬ 97 ≤ d := by omega
                have p0 : ¬ (97 : Int) ≤ (d : Int) := by omega
                have q1 : d ≤ 122 := by omega
                have p1 : (d : Int) ≤ 122 := by omega
                have q2 : 65 ≤ d := by omega
                have p2 : (65 : Int) ≤ (d : Int) := by omega
                have q3 : ¬ d ≤ 90 := by omega
                have p3 : ¬ (d : Int) ≤ 90 := by omega
                have q4 : 48 ≤ d := by omega
                have p4 : (48 : Int) ≤ (d : Int) := by omega
                have q5 : ¬ d ≤ 57 := by omega
                have p5 : ¬ (d : Int) ≤ 57 := by omega
                have q6 : d = 95 := by omega
                have p6 : ((d : Int) == 95) = true := by simp; omega
                have hp : prt (d : Int) = true := by unfold prt sml grt dig; simp; omega
                have HT : Hid ((l.take (i + 1)).all prt = true) := all_step (by have := HN.out; omega) HAL.out (by rw [← hd]; exact hp)
                clear hd hp hdb
                go_wp2_with fail
                go_roundw
                case rel => exact ⟨i + 1, by omega, by go_num, HT.out, by first | rfl | trivial⟩
                case measure => simp [intOf]; omega
              · have q0 : ¬ 97 ≤ d := by omega
                have p0 : ¬ (97 : Int) ≤ (d : Int) := by omega
                have q1 : d ≤ 122 := by omega
                have p1 : (d : Int) ≤ 122 := by omega
                have q2 : 65 ≤ d := by omega
                have p2 : (65 : Int) ≤ (d : Int) := by omega
                have q3 : ¬ d ≤ 90 := by omega
                have p3 : ¬ (d : Int) ≤ 90 := by omega
                have q4 : 48 ≤ d := by omega
                have p4 : (48 : Int) ≤ (d : Int) := by omega
                have q5 : ¬ d ≤ 57 := by omega
                have p5 : ¬ (d : Int) ≤ 57 := by omega
                have q6 : ¬ d = 95 := by omega
                have p6 : ((d : Int) == 95) = false := by simp; omega
                have hp : prt (d : Int) = false := by unfold prt sml grt dig; simp; omega
                have HF : Hid (l.all prt = false) := all_stop (k := i) (by have := HN.out; omega) (by rw [← hd]; exact hp)
                clear hd hp hdb
                go_wp2_with fail
                rw [HPo.out, HE.out, HF.out]
                exact ⟨by simp, rfl⟩
              · have q0 : 97 ≤ d := by omega
                have p0 : (97 : Int) ≤ (d : Int) := by omega
                have q1 : d ≤ 122 := by omega
                have p1 : (d : Int) ≤ 122 := by omega
                have q2 : 65 ≤ d := by omega
                have p2 : (65 : Int) ≤ (d : Int) := by omega
                have q3 : ¬ d ≤ 90 := by omega
                have p3 : ¬ (d : Int) ≤ 90 := by omega
                have q4 : 48 ≤ d := by omega
                have p4 : (48 : Int) ≤ (d : Int) := by omega
                have q5 : ¬ d ≤ 57 := by omega
                have p5 : ¬ (d : Int) ≤ 57 := by omega
                have q6 : ¬ d = 95 := by omega
                have p6 : ((d : Int) == 95) = false := by simp; omega
                have hp : prt (d : Int) = true := by unfold prt sml grt dig; simp; omega
                have HT : Hid ((l.take (i + 1)).all prt = true) := all_step (by have := HN.out; omega) HAL.out (by rw [← hd]; exact hp)
                clear hd hp hdb
                go_wp2_with fail
                go_roundw
                case rel => exact ⟨i + 1, by omega, by go_num, HT.out, by first | rfl | trivial⟩
                case measure => simp [intOf]; omega
              · have q0 : 97 ≤ d := by omega
                have p0 : (97 : Int) ≤ (d : Int) := by omega
                have q1 : ¬ d ≤ 122 := by omega
                have p1 : ¬ (d : Int) ≤ 122 := by omega
                have q2 : 65 ≤ d := by omega
                have p2 : (65 : Int) ≤ (d : Int) := by omega
                have q3 : ¬ d ≤ 90 := by omega
                have p3 : ¬ (d : Int) ≤ 90 := by omega
                have q4 : 48 ≤ d := by omega
                have p4 : (48 : Int) ≤ (d : Int) := by omega
                have q5 : ¬ d ≤ 57 := by omega
                have p5 : ¬ (d : Int) ≤ 57 := by omega
                have q6 : ¬ d = 95 := by omega
                have p6 : ((d : Int) == 95) = false := by simp; omega
                have hp : prt (d : Int) = false := by unfold prt sml grt dig; simp; omega
                have HF : Hid (l.all prt = false) := all_stop (k := i) (by have := HN.out; omega) (by rw [← hd]; exact hp)
                clear hd hp hdb
                go_wp2_with fail
                rw [HPo.out, HE.out, HF.out]
                exact ⟨by simp, rfl⟩
            · have hlt2 : ¬ (i : Int) < (n : Int) := by omega
              obtain rfl : i = n := by omega
              have HT : Hid (l.all prt = true) := by
                have h9 := HAL.out
                rw [HN.out, List.take_length] at h9
                exact h9
              go_wp2_with fail
              rw [HPo.out, HE.out, HT.out]
              exact ⟨rfl, rfl⟩
end TR
end Go.Proofs.Ytgahdppcdeefaaa
namespace Go.Proofs.Ytgahdppcdeefaaa
open Go.RowKit
attribute [local go_sem ↓] Go.wp_at_zero Go.wp_at_succ
namespace TR
theorem words_row : words.map (fun x => Value.string (strOfNums x)) = (#[.string ⟨#[99, 97, 114, 100]⟩, .string ⟨#[99, 111, 115, 116]⟩, .string ⟨#[112, 111, 119, 101, 114]⟩, .string ⟨#[104, 101, 97, 108, 116, 104]⟩, .string ⟨#[116, 97, 103]⟩, .string ⟨#[111, 110]⟩, .string ⟨#[119, 104, 101, 110]⟩, .string ⟨#[108, 101, 116]⟩, .string ⟨#[105, 102]⟩, .string ⟨#[101, 108, 115, 101]⟩, .string ⟨#[114, 101, 112, 101, 97, 116]⟩, .string ⟨#[97, 115]⟩, .string ⟨#[101, 97, 99, 104]⟩, .string ⟨#[105, 110]⟩, .string ⟨#[99, 104, 111, 111, 115, 101]⟩, .string ⟨#[115, 116, 111, 112]⟩, .string ⟨#[97, 98, 111, 114, 116]⟩, .string ⟨#[116, 114, 117, 101]⟩, .string ⟨#[102, 97, 108, 115, 101]⟩, .string ⟨#[115, 101, 108, 102]⟩, .string ⟨#[109, 101]⟩, .string ⟨#[100, 101, 99, 107]⟩, .string ⟨#[104, 97, 110, 100]⟩, .string ⟨#[98, 111, 97, 114, 100]⟩, .string ⟨#[103, 114, 97, 118, 101]⟩, .string ⟨#[112, 108, 97, 121]⟩, .string ⟨#[100, 105, 101]⟩, .string ⟨#[104, 105, 116]⟩, .string ⟨#[116, 117, 114, 110]⟩, .string ⟨#[100, 114, 97, 119]⟩] : Array Value).toList := by kernel_rfl
set_option maxRecDepth 100000 in
set_option maxHeartbeats 16000000 in
theorem rwords_ (w : World) : Calls Try.prog 71 #[] w fun e w' => e = .returned (.slice (some ⟨w.heap.size, 0, none⟩) 30 30) ∧ w' = w.alloc (.cells #[.string ⟨#[99, 97, 114, 100]⟩, .string ⟨#[99, 111, 115, 116]⟩, .string ⟨#[112, 111, 119, 101, 114]⟩, .string ⟨#[104, 101, 97, 108, 116, 104]⟩, .string ⟨#[116, 97, 103]⟩, .string ⟨#[111, 110]⟩, .string ⟨#[119, 104, 101, 110]⟩, .string ⟨#[108, 101, 116]⟩, .string ⟨#[105, 102]⟩, .string ⟨#[101, 108, 115, 101]⟩, .string ⟨#[114, 101, 112, 101, 97, 116]⟩, .string ⟨#[97, 115]⟩, .string ⟨#[101, 97, 99, 104]⟩, .string ⟨#[105, 110]⟩, .string ⟨#[99, 104, 111, 111, 115, 101]⟩, .string ⟨#[115, 116, 111, 112]⟩, .string ⟨#[97, 98, 111, 114, 116]⟩, .string ⟨#[116, 114, 117, 101]⟩, .string ⟨#[102, 97, 108, 115, 101]⟩, .string ⟨#[115, 101, 108, 102]⟩, .string ⟨#[109, 101]⟩, .string ⟨#[100, 101, 99, 107]⟩, .string ⟨#[104, 97, 110, 100]⟩, .string ⟨#[98, 111, 97, 114, 100]⟩, .string ⟨#[103, 114, 97, 118, 101]⟩, .string ⟨#[112, 108, 97, 121]⟩, .string ⟨#[100, 105, 101]⟩, .string ⟨#[104, 105, 116]⟩, .string ⟨#[116, 117, 114, 110]⟩, .string ⟨#[100, 114, 97, 119]⟩] 9) := by
  go_enter Try.func71, Try.ntmps71
  go_wp2
  go_ret
  exact ⟨rfl, rfl⟩
set_option maxRecDepth 100000 in
set_option maxHeartbeats 16000000 in
theorem dword_ (l : List Int) (w : World) (hl : Byt l) : Calls Try.prog 64 #[.string (strOfNums l)] w fun e w' => e = .returned (.bool (words.contains l)) ∧ Up w w' := by
  obtain ⟨Post, hPost⟩ : ∃ P : Ending → World → Prop, P = fun e w' => e = .returned (.bool (words.contains l)) ∧ Up w w' := ⟨_, rfl⟩
  rw [← hPost]
  have HPo : Hid (Post = fun e w' => e = .returned (.bool (words.contains l)) ∧ Up w w') := hPost
  clear hPost
  obtain ⟨s, hs⟩ : ∃ s, s = strOfNums l := ⟨_, rfl⟩
  have HIF : Hid (∀ i, i < 30 → ((strOfNums (words.getD i [])).toList = s.toList ↔ words.getD i [] = l)) := fun i hi => by
    have hw : ∀ x ∈ words, Byt x := by unfold Byt; decide
    have hm : words.getD i [] ∈ words := by
      rw [List.getD_eq_getElem?_getD, List.getElem?_eq_getElem (show i < words.length from hi)]
      exact List.getElem_mem _
    rw [hs]
    exact ⟨fun h => nums_inj (hw _ hm) hl h, fun h => by rw [h]⟩
  rw [← hs]
  clear hs
  go_enter Try.func64, Try.ntmps64
  go_wp2_with fail
  refine Calls.mono (rwords_ w) ?_
  rintro e w1 ⟨rfl, rfl⟩
  obtain ⟨W1, hW1⟩ : ∃ W1, w.alloc (.cells #[.string ⟨#[99, 97, 114, 100]⟩, .string ⟨#[99, 111, 115, 116]⟩, .string ⟨#[112, 111, 119, 101, 114]⟩, .string ⟨#[104, 101, 97, 108, 116, 104]⟩, .string ⟨#[116, 97, 103]⟩, .string ⟨#[111, 110]⟩, .string ⟨#[119, 104, 101, 110]⟩, .string ⟨#[108, 101, 116]⟩, .string ⟨#[105, 102]⟩, .string ⟨#[101, 108, 115, 101]⟩, .string ⟨#[114, 101, 112, 101, 97, 116]⟩, .string ⟨#[97, 115]⟩, .string ⟨#[101, 97, 99, 104]⟩, .string ⟨#[105, 110]⟩, .string ⟨#[99, 104, 111, 111, 115, 101]⟩, .string ⟨#[115, 116, 111, 112]⟩, .string ⟨#[97, 98, 111, 114, 116]⟩, .string ⟨#[116, 114, 117, 101]⟩, .string ⟨#[102, 97, 108, 115, 101]⟩, .string ⟨#[115, 101, 108, 102]⟩, .string ⟨#[109, 101]⟩, .string ⟨#[100, 101, 99, 107]⟩, .string ⟨#[104, 97, 110, 100]⟩, .string ⟨#[98, 111, 97, 114, 100]⟩, .string ⟨#[103, 114, 97, 118, 101]⟩, .string ⟨#[112, 108, 97, 121]⟩, .string ⟨#[100, 105, 101]⟩, .string ⟨#[104, 105, 116]⟩, .string ⟨#[116, 117, 114, 110]⟩, .string ⟨#[100, 114, 97, 119]⟩] 9) = W1 := ⟨_, rfl⟩
  have hr : W1.heap[w.heap.size]? = some (.cells #[.string ⟨#[99, 97, 114, 100]⟩, .string ⟨#[99, 111, 115, 116]⟩, .string ⟨#[112, 111, 119, 101, 114]⟩, .string ⟨#[104, 101, 97, 108, 116, 104]⟩, .string ⟨#[116, 97, 103]⟩, .string ⟨#[111, 110]⟩, .string ⟨#[119, 104, 101, 110]⟩, .string ⟨#[108, 101, 116]⟩, .string ⟨#[105, 102]⟩, .string ⟨#[101, 108, 115, 101]⟩, .string ⟨#[114, 101, 112, 101, 97, 116]⟩, .string ⟨#[97, 115]⟩, .string ⟨#[101, 97, 99, 104]⟩, .string ⟨#[105, 110]⟩, .string ⟨#[99, 104, 111, 111, 115, 101]⟩, .string ⟨#[115, 116, 111, 112]⟩, .string ⟨#[97, 98, 111, 114, 116]⟩, .string ⟨#[116, 114, 117, 101]⟩, .string ⟨#[102, 97, 108, 115, 101]⟩, .string ⟨#[115, 101, 108, 102]⟩, .string ⟨#[109, 101]⟩, .string ⟨#[100, 101, 99, 107]⟩, .string ⟨#[104, 97, 110, 100]⟩, .string ⟨#[98, 111, 97, 114, 100]⟩, .string ⟨#[103, 114, 97, 118, 101]⟩, .string ⟨#[112, 108, 97, 121]⟩, .string ⟨#[100, 105, 101]⟩, .string ⟨#[104, 105, 116]⟩, .string ⟨#[116, 117, 114, 110]⟩, .string ⟨#[100, 114, 97, 119]⟩] 9 (0, 0)) := by rw [← hW1]; exact heap_alloc_new _ _
  have HU : Hid (Up w W1) := by unfold Hid; rw [← hW1]; exact (Up.refl _).alloc _
  have HC : Hid (∀ i, i < 30 → W1.cell? ⟨w.heap.size, i, none⟩ = some (.string (strOfNums (words.getD i [])))) := fun i hi => by
    simp only [World.cell?, hr]
    rw [← Array.getElem?_toList, ← words_row, List.getElem?_map, List.getD_eq_getElem?_getD, List.getElem?_eq_getElem (show i < words.length from hi)]
    rfl
  rw [hW1]
  obtain ⟨g, hg⟩ : ∃ g, g = w.heap.size := ⟨_, rfl⟩
  rw [← hg] at HC ⊢
  clear hr hW1 hg
  go_wp2_with fail
  go_loopw [4] (fun s4 W => ∃ i : Nat, i ≤ 30 ∧ s4 = .int .i64 i ∧ (∀ j, j < i → words.getD j [] ≠ l) ∧ W = W1) (fun s4 _ => 30 - (intOf s4).toNat)
  case atStart => exact ⟨0, Nat.zero_le _, rfl, fun j hj => by omega, rfl⟩
  case round =>
    obtain ⟨i, hi, rfl, hj, rfl⟩ := hrel
    have HJ : Hid (∀ j, j < i → words.getD j [] ≠ l) := hj
    clear hj
    by_cases hlt : i < 30
    · have hlt2 : (i : Int) < 30 := by omega
      have x1 := HC.out i hlt
      have hif := HIF.out i hlt
      have ei : IntKind.i64.wrap ((i : Int) + 1) = ((i + 1 : Nat) : Int) := by rw [IntKind.wrap_i64]; omega
      by_cases he : words.getD i [] = l
      · have HE : Hid (words.contains l = true) := by
          unfold Hid
          rw [List.contains_iff_mem, ← he, List.getD_eq_getElem?_getD, List.getElem?_eq_getElem (show i < words.length from hlt)]
          exact List.getElem_mem _
        have q := hif.2 he
        generalize strOfNums (words.getD i []) = y at *
        clear hif he
        go_wp2_with fail
        rw [HPo.out, HE.out]
        exact ⟨rfl, HU.out⟩
      · have HS : Hid (∀ j, j < i + 1 → words.getD j [] ≠ l) := fun j hj => by
          by_cases h9 : j = i
          · rw [h9]; exact he
          · exact HJ.out j (by omega)
        have q : ¬ (strOfNums (words.getD i [])).toList = s.toList := fun h9 => he (hif.1 h9)
        have q2 : ((strOfNums (words.getD i [])).toList == s.toList) = false := by simpa using q
        have q3 : ¬ s.toList = (strOfNums (words.getD i [])).toList := fun h9 => q h9.symm
        generalize strOfNums (words.getD i []) = y at *
        clear hif he
        go_wp2_with fail
        go_roundw
        case rel => exact ⟨i + 1, hlt, by go_num, HS.out, by first | rfl | trivial⟩
        case measure => simp [intOf]; omega
    · have hlt2 : ¬ (i : Int) < 30 := by omega
      have HE : Hid (words.contains l = false) := by
        unfold Hid
        rw [Bool.eq_false_iff]
        intro h9
        rw [List.contains_iff_mem] at h9
        obtain ⟨j, hj, h8⟩ := List.getElem_of_mem h9
        have hj30 : j < 30 := hj
        refine HJ.out j (by omega) ?_
        rw [List.getD_eq_getElem?_getD, List.getElem?_eq_getElem hj]
        exact h8
      go_wp2_with fail
      rw [HPo.out, HE.out]
      exact ⟨rfl, HU.out⟩
set_option maxRecDepth 100000 in
set_option maxHeartbeats 16000000 in
theorem dfree_ (l : List Int) (w : World) (hl : Byt l) : Calls Try.prog 56 #[.string (strOfNums l)] w fun e w' => e = .returned (.bool (isN l && !words.contains l)) ∧ Up w w' := by
  obtain ⟨Post, hPost⟩ : ∃ P : Ending → World → Prop, P = fun e w' => e = .returned (.bool (isN l && !words.contains l)) ∧ Up w w' := ⟨_, rfl⟩
  rw [← hPost]
  have HPo : Hid (Post = fun e w' => e = .returned (.bool (isN l && !words.contains l)) ∧ Up w w') := hPost
  clear hPost
  have HN : Hid (Calls Try.prog 57 #[.string (strOfNums l)] w fun e w' => e = .returned (.bool (isN l)) ∧ w' = w) := rname_ l w hl
  have HW : Hid (∀ W, Calls Try.prog 64 #[.string (strOfNums l)] W fun e w' => e = .returned (.bool (words.contains l)) ∧ Up W w') := fun W => dword_ l W hl
  generalize strOfNums l = s at *
  cases hn : isN l with
  | false =>
    rw [hn] at HN HPo
    go_enter Try.func56, Try.ntmps56
    go_wp2_with fail
    refine Calls.mono HN.out ?_
    rintro e w1 ⟨rfl, hw⟩
    obtain rfl := hw.symm
    clear hw
    go_wp2_with fail
    rw [HPo.out]
    exact ⟨rfl, Up.refl _⟩
  | true =>
    rw [hn] at HN HPo
    go_enter Try.func56, Try.ntmps56
    go_wp2_with fail
    refine Calls.mono HN.out ?_
    rintro e w1 ⟨rfl, hw⟩
    obtain rfl := hw.symm
    clear hw
    go_wp2_with fail
    refine Calls.mono (HW.out _) ?_
    rintro e w1 ⟨rfl, u⟩
    go_wp2_with fail
    rw [HPo.out]
    exact ⟨by simp, u⟩
end TR
end Go.Proofs.Ytgahdppcdeefaaa
