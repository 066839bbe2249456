/-
  The document's Behind and Kids; lists of ints that are the same.
-/
import Derived.Test.YtgahdppcdeefaaaNe9
import Derived.Deep.QuietTactic
import Derived.BigQuiet
namespace Go.Proofs.Ytgahdppcdeefaaa
open Go.RowKit
attribute [local go_sem ↓] Go.wp_at_zero Go.wp_at_succ
namespace TR
theorem bhn_nil {N k p : Nat} : bhn N [] (k + 1) p = none := rfl
set_option maxRecDepth 100000 in
set_option maxHeartbeats 8000000 in
theorem rbehind_ (v : Value) (l : List Nd) (p : Int) (w : World) (hv : NLs w v l) (hn : l.length ≤ 1000000) (hp : p ≤ 9223372036854775807) : Calls Try.prog 31 #[v, .int .i64 p] w fun e w' => e = .returned (.int .i64 (bhd l p)) ∧ w' = w := by
  obtain ⟨Post, hPost⟩ : ∃ P : Ending → World → Prop, P = fun e w' => e = .returned (.int .i64 (bhd l p)) ∧ w' = w := ⟨_, rfl⟩
  rw [← hPost]
  have HPo : Hid (Post = fun e w' => e = .returned (.int .i64 (bhd l p)) ∧ w' = w) := hPost
  clear hPost
  obtain ⟨a, c, rfl, hc, hcell⟩ := nl_at hv
  obtain ⟨n, hN⟩ : ∃ n, n = l.length := ⟨_, rfl⟩
  have HN : Hid (n = l.length) := hN
  have HC : Hid (∀ i, i < n → ∃ b off, a = some ⟨b, off, none⟩ ∧ w.cell? ⟨b, off + i * 7 + 6, none⟩ = some (.int .i64 (l.getD i dn).kids)) := fun i hi => by
    obtain ⟨b, off, h1, h2⟩ := hcell (by omega)
    exact ⟨b, off, h1, h2 w (Up.refl _) i (by omega) 6 _ rfl⟩
  rw [← hN] at hc hn ⊢
  clear hv hcell hN
  by_cases h0 : p < 0
  · have HE : Hid (bhd l p = -1) := by unfold Hid bhd; rw [if_pos h0]
    go_enter Try.func31, Try.ntmps31
    go_wp2_with fail
    rw [HPo.out, HE.out]
    exact ⟨rfl, rfl⟩
  · obtain ⟨q0, rfl⟩ : ∃ q : Nat, p = (q : Int) := ⟨p.toNat, by omega⟩
    have HE : Hid (bhd l (q0 : Int) = match bhn n (l.drop q0) 1 q0 with | some q => (q : Int) | none => -1) := by
      unfold Hid bhd
      rw [if_neg h0, HN.out]
      rfl
    go_enter Try.func31, Try.ntmps31
    go_wp2_with fail
    go_loopw [1, 5] (fun s1 s5 W => ∃ (q k : Nat), s1 = .int .i64 (q : Int) ∧ s5 = .int .i64 (k : Int) ∧ (q ≤ n ∨ (q = q0 ∧ k = 1)) ∧ (k ≤ 1 + q * n ∨ k = 1) ∧ bhn n (l.drop q0) 1 q0 = bhn n (l.drop q) k q ∧ W = w) (fun s1 _ _ => n + 1 - (intOf s1).toNat)
    case atStart => exact ⟨q0, 1, rfl, rfl, .inr ⟨rfl, rfl⟩, .inr rfl, rfl, rfl⟩
    case round =>
      obtain ⟨q, k, rfl, rfl, hq, hk, hb, rfl⟩ := hrel
      have HB : Hid (bhn n (l.drop q0) 1 q0 = bhn n (l.drop q) k q) := hb
      have HK9 : Hid (k ≤ 1 + q * n ∨ k = 1) := hk
      have HQ9 : Hid (q ≤ n ∨ (q = q0 ∧ k = 1)) := hq
      have hq9 : (q : Int) ≤ 9223372036854775807 := by omega
      have hk9 : k ≤ 1000000000001 := by
        rcases hk with h | h
        · rcases hq with h2 | ⟨-, h2⟩
          · have h3 : q * n ≤ 1000000 * 1000000 := Nat.mul_le_mul (Nat.le_trans h2 hn) hn
            omega
          · omega
        · omega
      clear hb hk hq
      by_cases hk0 : k = 0
      · have HR : Hid (bhd l (q0 : Int) = (q : Int)) := by
          unfold Hid
          rw [HE.out, HB.out, hk0]
          unfold bhn
          cases l.drop q <;> rfl
        have hk1 : ¬ (0 : Int) < (k : Int) := by omega
        subst hk0
        clear HK9 HQ9
        go_wp2_with fail
        rw [HPo.out, HR.out]
        exact ⟨rfl, rfl⟩
      · have hk1 : (0 : Int) < (k : Int) := by omega
        obtain ⟨k', rfl⟩ : ∃ k', k = k' + 1 := ⟨k - 1, by omega⟩
        by_cases hlt : q < n
        · have hlt2 : ¬ (n : Int) ≤ (q : Int) := by omega
          have hlt3 : (q : Int) < (n : Int) := by omega
          obtain ⟨b, off, rfl, x6⟩ := HC.out q hlt
          have HD : Hid (l.drop q = l.getD q dn :: l.drop (q + 1)) := by
            unfold Hid
            rw [List.drop_eq_getElem_cons (by have := HN.out; omega), List.getD_eq_getElem?_getD, List.getElem?_eq_getElem (by have := HN.out; omega)]
            rfl
          have HS : Hid (bhn n (l.drop q) (k' + 1) q = if 0 ≤ (l.getD q dn).kids ∧ (l.getD q dn).kids ≤ n then bhn n (l.drop (q + 1)) (k' + (l.getD q dn).kids.toNat) (q + 1) else none) := by
            unfold Hid
            rw [HD.out]
            rfl
          clear HD
          generalize (l.getD q dn).kids = ks at *
          have ei : IntKind.i64.wrap ((q : Int) + 1) = ((q + 1 : Nat) : Int) := by rw [IntKind.wrap_i64]; omega
          have ek : IntKind.i64.wrap (((k' + 1 : Nat) : Int) - 1) = (k' : Int) := by rw [IntKind.wrap_i64]; omega
          have ek2 : IntKind.i64.wrap ((k' : Int) + 1 - 1) = (k' : Int) := by rw [IntKind.wrap_i64]; omega
          have ek3 : wrap64 (k' : Int) = (k' : Int) := by first | (unfold wrap64; omega) | (show IntKind.i64.wrap (k' : Int) = _; rw [IntKind.wrap_i64]; omega)
          by_cases hks : 0 ≤ ks ∧ ks ≤ (n : Int)
          · obtain ⟨t, rfl⟩ : ∃ t : Nat, ks = (t : Int) := ⟨ks.toNat, by omega⟩
            have z1 : ¬ (t : Int) < 0 := by omega
            have z2 : ¬ (n : Int) < (t : Int) := by omega
            have htn : t ≤ n := by omega
            have HNX : Hid (bhn n (l.drop q0) 1 q0 = bhn n (l.drop (q + 1)) (k' + t) (q + 1)) := by
              unfold Hid
              rw [HB.out, HS.out, if_pos hks]
              rfl
            have HKN : Hid (k' + t ≤ 1 + (q + 1) * n ∨ k' + t = 1) := by
              unfold Hid
              rw [Nat.succ_mul]
              rcases HK9.out with h | h
              · exact .inl (by omega)
              · exact .inl (by omega)
            have e4 : IntKind.i64.wrap ((k' : Int) + (t : Int)) = ((k' + t : Nat) : Int) := by rw [IntKind.wrap_i64]; omega
            clear HS HB hks HK9 HQ9
            go_wp2_with fail
            go_roundw
            case rel => exact ⟨q + 1, k' + t, by go_num, by go_num, .inl hlt, HKN.out, HNX.out, by first | rfl | trivial⟩
            case measure => simp [intOf]; omega
          · have HR : Hid (bhd l (q0 : Int) = -1) := by
              unfold Hid
              rw [HE.out, HB.out, HS.out, if_neg hks]
            clear HK9 HQ9 HS HB
            by_cases z1 : ks < 0
            · go_wp2_with fail
              rw [HPo.out, HR.out]
              exact ⟨rfl, rfl⟩
            · have z2 : (n : Int) < ks := by omega
              go_wp2_with fail
              rw [HPo.out, HR.out]
              exact ⟨rfl, rfl⟩
        · have hlt2 : (n : Int) ≤ (q : Int) := by omega
          have HR : Hid (bhd l (q0 : Int) = -1) := by
            unfold Hid
            rw [HE.out, HB.out, List.drop_eq_nil_of_le (by have := HN.out; omega)]
            rfl
          clear HK9 HQ9
          go_wp2_with fail
          rw [HPo.out, HR.out]
          exact ⟨rfl, rfl⟩
set_option maxRecDepth 100000 in
set_option maxHeartbeats 8000000 in
theorem rkids_ (v : Value) (l : List Nd) (p : Int) (w : World) (hv : NLs w v l) (hn : l.length ≤ 1000000) (hp : p ≤ 9223372036854775807) : Calls Try.prog 40 #[v, .int .i64 p] w (CpN w fun W v' => W.ownsRow w.heap.size 3 1 v' (kds l p).length (ivn (kds l p))) := by
  obtain ⟨iT, hiT, z0, z1, z2⟩ := info_parts infoIn
  obtain ⟨Post, hPost⟩ : ∃ P : Ending → World → Prop, P = (CpN w fun W v' => W.ownsRow w.heap.size 3 1 v' (kds l p).length (ivn (kds l p))) := ⟨_, rfl⟩
  rw [← hPost]
  have HPo : Hid (Post = (CpN w fun W v' => W.ownsRow w.heap.size 3 1 v' (kds l p).length (ivn (kds l p)))) := hPost
  clear hPost
  have HBH : Hid (∀ (p : Int) W, Up w W → p ≤ 9223372036854775807 → Calls Try.prog 31 #[v, .int .i64 p] W fun e w' => e = .returned (.int .i64 (bhd l p)) ∧ w' = W) := fun p W u hp => rbehind_ v l p W (hv.up u) hn hp
  obtain ⟨a1, k1, rfl, hc, h1⟩ := nl_at hv
  obtain ⟨n, hn0⟩ : ∃ n, n = l.length := ⟨_, rfl⟩
  have HN : Hid (n = l.length) := hn0
  rw [← hn0] at hn h1 HBH hc ⊢
  by_cases hb : bhd l p = -1
  · have HK : Hid (kds l p = []) := by unfold Hid kds; rw [if_pos hb]
    have HB1 : Hid (Calls Try.prog 31 #[.slice a1 n k1, .int .i64 p] w fun e w' => e = .returned (.int .i64 (-1)) ∧ w' = w) := by
      have h9 := HBH.out p w (Up.refl _) hp
      rw [hb] at h9
      exact h9
    clear hv h1 hn0 HBH hb
    go_enter Try.func40, Try.ntmps40
    go_wp2_with fail
    refine Calls.mono HB1.out ?_
    rintro e w1 ⟨rfl, rfl⟩
    go_wp2_with fail
    rw [HPo.out, HK.out]
    exact ⟨_, rfl, World.ownsRow_nil _ _ _ _, Up.refl _⟩
  · have hb2 := bhd_le l p
    obtain ⟨q0, rfl, hq0, hk0, hk1⟩ := bhd_in hb
    rw [← hn0] at hq0 hk1
    obtain ⟨b1, o1, rfl, c1⟩ := h1 (by omega)
    have x6 : ∀ W, Up w W → W.cell? ⟨b1, o1 + q0 * 7 + 6, none⟩ = some (.int .i64 (l.getD q0 dn).kids) := fun W u => c1 W u q0 hq0 6 _ rfl
    obtain ⟨k, hk⟩ : ∃ k : Nat, (l.getD q0 dn).kids = (k : Int) := ⟨_, (Int.toNat_of_nonneg hk0).symm⟩
    have HK : Hid (kds l (q0 : Int) = kdsF l k ((q0 : Int) + 1)) := by
      unfold Hid kds
      rw [if_neg hb]
      show kdsF l (l.getD ((q0 : Int)).toNat dn).kids.toNat _ = _
      rw [Int.toNat_natCast, hk]
      rfl
    rw [hk] at x6 hk1
    have HX6 : Hid (∀ W, Up w W → W.cell? ⟨b1, o1 + q0 * 7 + 6, none⟩ = some (.int .i64 (k : Int))) := x6
    have hkn : k ≤ n := by omega
    have HB1 : Hid (Calls Try.prog 31 #[.slice (some ⟨b1, o1, none⟩) n k1, .int .i64 (q0 : Int)] w fun e w' => e = .returned (.int .i64 (bhd l (q0 : Int))) ∧ w' = w) := HBH.out _ w (Up.refl _) hp
    have HBD : Hid (∀ q : Int, -1 ≤ bhd l q ∧ bhd l q ≤ n) := fun q => by have := bhd_le l q; have := HN.out; omega
    have hbf : ¬ bhd l (q0 : Int) < 0 := by omega
    generalize bhd l (q0 : Int) = zb at HB1 hbf
    have hq1 : IntKind.i64.wrap ((q0 : Int) + 1) = (q0 : Int) + 1 := by rw [IntKind.wrap_i64]; omega
    have hi0 : 0 ≤ (q0 : Int) ∧ (q0 : Int) < (n : Int) := by omega
    clear hv h1 hn0 hb c1 hk hk0 hk1 x6 hb2
    go_enter Try.func40, Try.ntmps40
    go_wp2_with fail
    refine Calls.mono HB1.out ?_
    rintro e w1 ⟨rfl, rfl⟩
    clear HB1
    go_wp2_with fail
    go_loopw [5, 6, 7] (fun s5 s6 s18 W => ∃ (j : Nat) (q : Int) (acc : List Int), j ≤ k ∧ s6 = .int .i64 q ∧ s18 = .int .i64 j ∧ W.ownsRow w1.heap.size 3 1 s5 j (ivn acc) ∧ acc.length = j ∧ acc ++ kdsF l (k - j) q = kdsF l k ((q0 : Int) + 1) ∧ q ≤ n ∧ Up w1 W) (fun _ _ s18 _ => k - (intOf s18).toNat)
    case atStart => exact ⟨0, (q0 : Int) + 1, [], Nat.zero_le _, rfl, rfl, World.ownsRow_nil _ _ _ _, rfl, rfl, by omega, Up.refl _⟩
    case round =>
      obtain ⟨j, q, acc, hj, rfl, rfl, hrow, hal, hacc, hqn, hu⟩ := hrel
      obtain ⟨oad, ocap, hov⟩ := row_val hrow
      subst hov
      have HROW : Hid (wr.ownsRow w1.heap.size 3 1 (.slice oad j ocap) j (ivn acc)) := hrow
      have HU : Hid (Up w1 wr) := hu
      have HACC : Hid (acc ++ kdsF l (k - j) q = kdsF l k ((q0 : Int) + 1)) := hacc
      have HAL : Hid (acc.length = j) := hal
      have hzw : w1.heap.size ≤ wr.heap.size := hu.size
      have x6 := HX6.out wr hu
      clear hrow hu hacc hal
      by_cases hlt : j < k
      · have hlt2 : (j : Int) < (k : Int) := by omega
        have ei : IntKind.i64.wrap ((j : Int) + 1) = ((j + 1 : Nat) : Int) := by rw [IntKind.wrap_i64]; omega
        have HOA : Hid ((wr.alloc (.cells #[.int .i64 q] 3)).ownsRow w1.heap.size 3 1 (.slice oad j ocap) j (ivn acc)) := HROW.out.alloc _
        have hq9 : q ≤ 9223372036854775807 := by omega
        go_wp2_with (at_builtin; refine wpList_append_own _ rfl (.tmp 23) (.tmp 25) 35 rfl w1.heap.size 3 iT (.int .i64 0) 1 8 Try.underlying35 hiT z0 z1 z2 rfl (by decide) _ _ _ rfl HOA.out ⟨wr.heap.size, 0, none⟩ 1 1 [.int .i64 q] rfl rfl (World.news_of_block (cs := #[.int .i64 q]) (heap_alloc_new wr _)) (by simp [Value.oneCell']) (by unfold maxLen; omega) (by omega) (by simp; omega) ?_; intro v' W4 hown hgrow hkeep)
        have HU4 : Hid (Up w1 W4) := Below.grown (HU.out.alloc _) hgrow (by simp; omega) (fun k9 hk9 => (World.ownsRow.lt HOA.out k9 hk9).1)
        have HOW : Hid (W4.ownsRow w1.heap.size 3 1 v' (j + 1) (ivn (acc ++ [q]))) := by unfold Hid ivn at *; rw [List.map_append]; exact hown
        have HBQ : Hid (Calls Try.prog 31 #[.slice (some ⟨b1, o1, none⟩) n k1, .int .i64 q] W4 fun e w' => e = .returned (.int .i64 (bhd l q)) ∧ w' = W4) := HBH.out q W4 HU4.out hq9
        have HNX : Hid ((acc ++ [q]) ++ kdsF l (k - (j + 1)) (bhd l q) = kdsF l k ((q0 : Int) + 1)) := by unfold Hid; rw [← HACC.out, kd_step hlt, List.append_assoc]; rfl
        have HBN : Hid (bhd l q ≤ n) := (HBD.out q).2
        generalize bhd l q = zq at HBQ HNX HBN
        clear hown hgrow hkeep x6
        go_wp2_with fail
        refine Calls.mono HBQ.out ?_
        rintro e w2 ⟨rfl, rfl⟩
        go_wp2_with fail
        go_roundw
        case rel => exact ⟨j + 1, zq, acc ++ [q], by omega, rfl, by go_num, HOW.out, by rw [List.length_append, HAL.out]; rfl, HNX.out, HBN.out, HU4.out⟩
        case measure => simp [intOf]; omega
      · have hlt2 : ¬ (j : Int) < (k : Int) := by omega
        have HE : Hid (kds l (q0 : Int) = acc) := by
          unfold Hid
          rw [HK.out, ← HACC.out, show k - j = 0 by omega]
          simp [kdsF]
        go_wp2_with fail
        rw [HPo.out, HE.out]
        exact ⟨_, rfl, by rw [HAL.out]; exact HROW.out, HU.out⟩
/- ints in memory -/
def IvL (W : World) (v : Value) (l : List Int) : Prop := LC W v 1 l.length (ivn l)
theorem IvL.up {W W' : World} {v : Value} {l : List Int} (h : IvL W v l) (u : Up W W') : IvL W' v l := LC.up h u
theorem own_ivl {W : World} {base : Nat} {v : Value} {l : List Int} (h : W.ownsRow base 3 1 v l.length (ivn l)) : IvL W v l := by
  refine ⟨h.1, ?_⟩
  rcases h.2 with ⟨rfl, h0⟩ | ⟨g, cap, cur, rfl, _, _, hnc, _⟩
  · rw [h0]
    exact ⟨none, 0, rfl, Nat.le_refl _, fun h => absurd rfl h⟩
  · exact ⟨some ⟨g, 0, none⟩, cap, rfl, hnc, fun _ => ⟨g, 0, rfl, fun j hj => by rw [Nat.zero_add]; exact h.cellAt j hj⟩⟩
theorem ivl_at {w : World} {v : Value} {l : List Int} (h : IvL w v l) : ∃ a cap, v = .slice a l.length cap ∧ (l.length ≠ 0 → ∃ b off, a = some ⟨b, off, none⟩ ∧ ∀ W, Up w W → ∀ i, i < l.length → W.cell? ⟨b, off + i, none⟩ = some (.int .i64 (l.getD i 0))) := by
  obtain ⟨h0, a, cap, hv, hc, h⟩ := h
  refine ⟨a, cap, hv, fun hn => ?_⟩
  obtain ⟨b, off, ha, hcell⟩ := h hn
  refine ⟨b, off, ha, fun W hu i hi => ?_⟩
  have h9 := hcell i (by omega)
  refine hu.cell (h9.trans ?_)
  unfold ivn
  rw [List.getElem?_map, List.getD_eq_getElem?_getD, List.getElem?_eq_getElem hi]
  rfl
end TR
end Go.Proofs.Ytgahdppcdeefaaa
