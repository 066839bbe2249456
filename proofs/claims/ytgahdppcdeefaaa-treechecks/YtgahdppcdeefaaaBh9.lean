/-
  The place behind a tree.
-/
import Derived.Test.YtgahdppcdeefaaaKm9
namespace Go.Proofs.Ytgahdppcdeefaaa
open Go.RowKit
attribute [local go_sem ↓] Go.wp_at_zero Go.wp_at_succ
namespace TR
theorem bhn_short {N : Nat} : ∀ (l : List Nd) (k p : Nat), l.length < k → bhn N l k p = none
  | [], k + 1, p, _ => rfl
  | a :: r, k + 1, p, h => by
    unfold bhn
    split
    · exact bhn_short r _ _ (by simp at h; omega)
    · rfl
set_option maxRecDepth 100000 in
set_option maxHeartbeats 8000000 in
theorem behind_ (v : Value) (l : List Nd) (p : Int) (w : World) (hv : NLs w v l) (hn : l.length ≤ 1099511627776) (hp : p ≤ 9223372036854775807) : Calls Try.prog 22 #[v, .int .i64 p] w fun e w' => e = .returned (.int .i64 (bhd l p)) ∧ w' = w := by
  obtain ⟨Post, hPost⟩ : ∃ P : Ending → World → Prop, P = fun e w' => e = .returned (.int .i64 (bhd l p)) ∧ w' = w := ⟨_, rfl⟩
  rw [← hPost]
  have HPo : Hid (Post = fun e w' => e = .returned (.int .i64 (bhd l p)) ∧ w' = w) := hPost
  clear hPost
  obtain ⟨a, c, rfl, hc, hcell⟩ := nl_at hv
  obtain ⟨n, hN⟩ : ∃ n, n = l.length := ⟨_, rfl⟩
  have HN : Hid (n = l.length) := hN
  have HC : Hid (∀ i, i < n → ∃ b off, a = some ⟨b, off, none⟩ ∧ w.cell? ⟨b, off + i * 7 + 6, none⟩ = some (.int .i64 (l.getD i dn).kids)) := fun i hi => by
    obtain ⟨b, off, h1, h2⟩ := hcell (by omega)
    exact ⟨b, off, h1, h2 w (Up.refl _) i (by omega) 6 _ rfl⟩
  rw [← hN] at hc hn ⊢
  clear hv hcell hN
  by_cases h0 : p < 0
  · have HE : Hid (bhd l p = -1) := by unfold Hid bhd; rw [if_pos h0]
    go_enter Try.func22, Try.ntmps22
    go_wp2_with fail
    rw [HPo.out, HE.out]
    exact ⟨rfl, rfl⟩
  · obtain ⟨q0, rfl⟩ : ∃ q : Nat, p = (q : Int) := ⟨p.toNat, by omega⟩
    have HE : Hid (bhd l (q0 : Int) = match bhn n (l.drop q0) 1 q0 with | some q => (q : Int) | none => -1) := by
      unfold Hid bhd
      rw [if_neg h0, HN.out]
      rfl
    go_enter Try.func22, Try.ntmps22
    go_wp2_with fail
    go_loopw [1, 5] (fun s1 s5 W => ∃ (q k : Nat), s1 = .int .i64 (q : Int) ∧ s5 = .int .i64 (k : Int) ∧ (q ≤ n ∨ (q = q0 ∧ k = 1)) ∧ k ≤ 2 * n + 1 ∧ bhn n (l.drop q0) 1 q0 = bhn n (l.drop q) k q ∧ W = w) (fun s1 _ _ => n + 1 - (intOf s1).toNat)
    case atStart => exact ⟨q0, 1, rfl, rfl, .inr ⟨rfl, rfl⟩, by omega, rfl, rfl⟩
    case round =>
      obtain ⟨q, k, rfl, rfl, hq, hk, hb, rfl⟩ := hrel
      have HB : Hid (bhn n (l.drop q0) 1 q0 = bhn n (l.drop q) k q) := hb
      clear hb
      have hq9 : (q : Int) ≤ 9223372036854775807 := by omega
      by_cases hk0 : k = 0
      · have HR : Hid (bhd l (q0 : Int) = (q : Int)) := by
          unfold Hid
          rw [HE.out, HB.out, hk0]
          unfold bhn
          cases l.drop q <;> rfl
        have hk1 : ¬ (0 : Int) < (k : Int) := by omega
        subst hk0
        go_wp2_with fail
        rw [HPo.out, HR.out]
        exact ⟨rfl, rfl⟩
      · have hk1 : (0 : Int) < (k : Int) := by omega
        have ew : IntKind.i64.wrap ((n : Int) - (q : Int)) = (n : Int) - (q : Int) := by rw [IntKind.wrap_i64]; omega
        by_cases hs : (n : Int) - (q : Int) < (k : Int)
        · have HR : Hid (bhd l (q0 : Int) = -1) := by
            unfold Hid
            rw [HE.out, HB.out, bhn_short _ _ _ (by rw [List.length_drop, ← HN.out]; omega)]
          go_wp2_with fail
          rw [HPo.out, HR.out]
          exact ⟨rfl, rfl⟩
        · have hlt : q < n := by omega
          obtain ⟨b, off, rfl, x6⟩ := HC.out q hlt
          have HD : Hid (l.drop q = l.getD q dn :: l.drop (q + 1)) := by
            unfold Hid
            rw [List.drop_eq_getElem_cons (by have := HN.out; omega), List.getD_eq_getElem?_getD, List.getElem?_eq_getElem (by have := HN.out; omega)]
            rfl
          obtain ⟨k', rfl⟩ : ∃ k', k = k' + 1 := ⟨k - 1, by omega⟩
          have HS : Hid (bhn n (l.drop q) (k' + 1) q = if 0 ≤ (l.getD q dn).kids ∧ (l.getD q dn).kids ≤ n then bhn n (l.drop (q + 1)) (k' + (l.getD q dn).kids.toNat) (q + 1) else none) := by
            unfold Hid
            rw [HD.out]
            rfl
          clear HD
          generalize (l.getD q dn).kids = ks at *
          have ei : IntKind.i64.wrap ((q : Int) + 1) = ((q + 1 : Nat) : Int) := by rw [IntKind.wrap_i64]; omega
          by_cases hks : 0 ≤ ks ∧ ks ≤ (n : Int)
          · obtain ⟨t, rfl⟩ : ∃ t : Nat, ks = (t : Int) := ⟨ks.toNat, by omega⟩
            have z1 : ¬ (t : Int) < 0 := by omega
            have z2 : ¬ (n : Int) < (t : Int) := by omega
            have HNX : Hid (bhn n (l.drop q0) 1 q0 = bhn n (l.drop (q + 1)) (k' + t) (q + 1)) := by
              unfold Hid
              rw [HB.out, HS.out, if_pos hks]
              rfl
            have e3 : IntKind.i64.wrap ((t : Int) - 1) = (t : Int) - 1 := by rw [IntKind.wrap_i64]; omega
            have e4 : IntKind.i64.wrap (((k' + 1 : Nat) : Int) + ((t : Int) - 1)) = ((k' + t : Nat) : Int) := by rw [IntKind.wrap_i64]; omega
            have e5 : IntKind.i64.wrap ((k' : Int) + 1 + ((t : Int) - 1)) = ((k' + t : Nat) : Int) := by rw [IntKind.wrap_i64]; omega
            clear HS HB
            go_wp2_with fail
            go_roundw
            case rel => exact ⟨q + 1, k' + t, by go_num, by go_num, .inl (by omega), by omega, HNX.out, by first | rfl | trivial⟩
            case measure => simp [intOf]; omega
          · have HR : Hid (bhd l (q0 : Int) = -1) := by
              unfold Hid
              rw [HE.out, HB.out, HS.out, if_neg hks]
            by_cases z1 : ks < 0
            · go_wp2_with fail
              rw [HPo.out, HR.out]
              exact ⟨rfl, rfl⟩
            · have z2 : (n : Int) < ks := by omega
              go_wp2_with fail
              rw [HPo.out, HR.out]
              exact ⟨rfl, rfl⟩
end TR
end Go.Proofs.Ytgahdppcdeefaaa
