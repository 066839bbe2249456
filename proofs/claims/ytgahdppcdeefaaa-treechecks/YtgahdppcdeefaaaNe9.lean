/-
  The places of a node's kids.
-/
import Derived.Test.YtgahdppcdeefaaaNd9
import Derived.Laws.AppendOwn
import Derived.Deep.Cut
namespace Go.Proofs.Ytgahdppcdeefaaa
open Go.RowKit
attribute [local go_sem ↓] Go.wp_at_zero Go.wp_at_succ
namespace TR
def ivn (l : List Int) : List Value := l.map (Value.int .i64)
theorem bhd_in {l : List Nd} {p : Int} (h : bhd l p ≠ -1) : ∃ q : Nat, p = (q : Int) ∧ q < l.length ∧ 0 ≤ (l.getD q dn).kids ∧ (l.getD q dn).kids ≤ l.length := by
  unfold bhd at h
  split at h
  · exact absurd rfl h
  · refine ⟨p.toNat, by omega, ?_⟩
    by_cases h9 : p.toNat < l.length
    · refine ⟨h9, ?_⟩
      rw [List.drop_eq_getElem_cons h9] at h
      rw [List.getD_eq_getElem?_getD, List.getElem?_eq_getElem h9]
      simp only [Option.getD_some]
      unfold bhn at h
      by_cases hk : 0 ≤ (l[p.toNat]).kids ∧ (l[p.toNat]).kids ≤ (l.length : Int)
      · exact hk
      · rw [if_neg hk] at h
        exact absurd rfl h
    · rw [List.drop_eq_nil_of_le (by omega)] at h
      exact absurd rfl h
theorem kd_step {l : List Nd} {k j : Nat} {q : Int} (h : j < k) : kdsF l (k - j) q = q :: kdsF l (k - (j + 1)) (bhd l q) := by
  obtain ⟨m, hm⟩ : ∃ m, k - j = m + 1 := ⟨k - j - 1, by omega⟩
  rw [hm, show k - (j + 1) = m by omega]
  rfl
theorem kdsF_len (l : List Nd) : ∀ (k : Nat) (q : Int), (kdsF l k q).length = k
  | 0, _ => rfl
  | k + 1, q => by rw [kdsF, List.length_cons, kdsF_len l k]
theorem infoIn : (Try.prog.info? 3).map (fun i => (i.zero, i.size, i.bytes)) = some (some (.int .i64 0), 1, 8) := by kernel_rfl
set_option maxRecDepth 100000 in
set_option maxHeartbeats 8000000 in
theorem kids_ (v : Value) (l : List Nd) (p : Int) (w : World) (hv : NLs w v l) (hn : l.length ≤ 1000000) (hp : p ≤ 9223372036854775807) : Calls Try.prog 23 #[v, .int .i64 p] w (CpN w fun W v' => W.ownsRow w.heap.size 3 1 v' (kds l p).length (ivn (kds l p))) := by
  obtain ⟨iT, hiT, z0, z1, z2⟩ := info_parts infoIn
  obtain ⟨Post, hPost⟩ : ∃ P : Ending → World → Prop, P = (CpN w fun W v' => W.ownsRow w.heap.size 3 1 v' (kds l p).length (ivn (kds l p))) := ⟨_, rfl⟩
  rw [← hPost]
  have HPo : Hid (Post = (CpN w fun W v' => W.ownsRow w.heap.size 3 1 v' (kds l p).length (ivn (kds l p)))) := hPost
  clear hPost
  have HBH : Hid (∀ (p : Int) W, Up w W → p ≤ 9223372036854775807 → Calls Try.prog 22 #[v, .int .i64 p] W fun e w' => e = .returned (.int .i64 (bhd l p)) ∧ w' = W) := fun p W u hp => behind_ v l p W (hv.up u) (by omega) hp
  obtain ⟨a1, k1, rfl, hc, h1⟩ := nl_at hv
  obtain ⟨n, hn0⟩ : ∃ n, n = l.length := ⟨_, rfl⟩
  have HN : Hid (n = l.length) := hn0
  rw [← hn0] at hn h1 HBH hc ⊢
  by_cases hb : bhd l p = -1
  · have HK : Hid (kds l p = []) := by unfold Hid kds; rw [if_pos hb]
    have HB1 : Hid (Calls Try.prog 22 #[.slice a1 n k1, .int .i64 p] w fun e w' => e = .returned (.int .i64 (-1)) ∧ w' = w) := by
      have h9 := HBH.out p w (Up.refl _) hp
      rw [hb] at h9
      exact h9
    clear hv h1 hn0 HBH hb
    go_enter Try.func23, Try.ntmps23
    go_wp2_with fail
    refine Calls.mono HB1.out ?_
    rintro e w1 ⟨rfl, rfl⟩
    go_wp2_with fail
    rw [HPo.out, HK.out]
    exact ⟨_, rfl, World.ownsRow_nil _ _ _ _, Up.refl _⟩
  · obtain ⟨q0, rfl, hq0, hk0, hk1⟩ := bhd_in hb
    rw [← hn0] at hq0 hk1
    obtain ⟨b1, o1, rfl, c1⟩ := h1 (by omega)
    have x6 : w.cell? ⟨b1, o1 + q0 * 7 + 6, none⟩ = some (.int .i64 (l.getD q0 dn).kids) := c1 w (Up.refl _) q0 hq0 6 _ rfl
    obtain ⟨k, hk⟩ : ∃ k : Nat, (l.getD q0 dn).kids = (k : Int) := ⟨_, (Int.toNat_of_nonneg hk0).symm⟩
    have HK : Hid (kds l (q0 : Int) = kdsF l k ((q0 : Int) + 1)) := by
      unfold Hid kds
      rw [if_neg hb]
      show kdsF l (l.getD ((q0 : Int)).toNat dn).kids.toNat _ = _
      rw [Int.toNat_natCast, hk]
      rfl
    rw [hk] at x6 hk1
    have hkn : k ≤ n := by omega
    have HB1 : Hid (Calls Try.prog 22 #[.slice (some ⟨b1, o1, none⟩) n k1, .int .i64 (q0 : Int)] w fun e w' => e = .returned (.int .i64 (bhd l (q0 : Int))) ∧ w' = w) := HBH.out _ w (Up.refl _) hp
    have HBD : Hid (∀ q : Int, -1 ≤ bhd l q ∧ bhd l q ≤ n) := fun q => by have := bhd_le l q; have := HN.out; omega
    have hbf : (bhd l (q0 : Int) == -1) = false := by simpa using hb
    generalize bhd l (q0 : Int) = zb at HB1 hbf
    have hq1 : IntKind.i64.wrap ((q0 : Int) + 1) = (q0 : Int) + 1 := by rw [IntKind.wrap_i64]; omega
    have HQ0 : Hid (q0 < n) := hq0
    have hi0 : 0 ≤ (q0 : Int) ∧ (q0 : Int) < (n : Int) := by omega
    clear hv h1 hn0 hb c1 hk hk0 hk1
    go_enter Try.func23, Try.ntmps23
    go_wp2_with fail
    refine Calls.mono HB1.out ?_
    rintro e w1 ⟨rfl, rfl⟩
    clear HB1
    go_wp2_with fail
    go_loopw [5, 6, 18] (fun s5 s6 s18 W => ∃ (j : Nat) (q : Int) (acc : List Int), j ≤ k ∧ s6 = .int .i64 q ∧ s18 = .int .i64 j ∧ W.ownsRow w1.heap.size 3 1 s5 j (ivn acc) ∧ acc.length = j ∧ acc ++ kdsF l (k - j) q = kdsF l k ((q0 : Int) + 1) ∧ q ≤ n ∧ Up w1 W) (fun _ _ s18 _ => k - (intOf s18).toNat)
    case atStart => exact ⟨0, (q0 : Int) + 1, [], Nat.zero_le _, rfl, rfl, World.ownsRow_nil _ _ _ _, rfl, rfl, by omega, Up.refl _⟩
    case round =>
      obtain ⟨j, q, acc, hj, rfl, rfl, hrow, hal, hacc, hqn, hu⟩ := hrel
      obtain ⟨oad, ocap, hov⟩ := row_val hrow
      subst hov
      have HROW : Hid (wr.ownsRow w1.heap.size 3 1 (.slice oad j ocap) j (ivn acc)) := hrow
      have HU : Hid (Up w1 wr) := hu
      have HACC : Hid (acc ++ kdsF l (k - j) q = kdsF l k ((q0 : Int) + 1)) := hacc
      have HAL : Hid (acc.length = j) := hal
      have hzw : w1.heap.size ≤ wr.heap.size := hu.size
      clear hrow hu hacc hal x6
      by_cases hlt : j < k
      · have hlt2 : (j : Int) < (k : Int) := by omega
        have ei : IntKind.i64.wrap ((j : Int) + 1) = ((j + 1 : Nat) : Int) := by rw [IntKind.wrap_i64]; omega
        have HOA : Hid ((wr.alloc (.cells #[.int .i64 q] 3)).ownsRow w1.heap.size 3 1 (.slice oad j ocap) j (ivn acc)) := HROW.out.alloc _
        have hq9 : q ≤ 9223372036854775807 := by omega
        go_wp2_with (at_builtin; refine wpList_append_own _ rfl (.tmp 20) (.tmp 22) 35 rfl w1.heap.size 3 iT (.int .i64 0) 1 8 Try.underlying35 hiT z0 z1 z2 rfl (by decide) _ _ _ rfl HOA.out ⟨wr.heap.size, 0, none⟩ 1 1 [.int .i64 q] rfl rfl (World.news_of_block (cs := #[.int .i64 q]) (heap_alloc_new wr _)) (by simp [Value.oneCell']) (by unfold maxLen; omega) (by omega) (by simp; omega) ?_; intro v' W4 hown hgrow hkeep)
        have HU4 : Hid (Up w1 W4) := Below.grown (HU.out.alloc _) hgrow (by simp; omega) (fun k9 hk9 => (World.ownsRow.lt HOA.out k9 hk9).1)
        have HOW : Hid (W4.ownsRow w1.heap.size 3 1 v' (j + 1) (ivn (acc ++ [q]))) := by unfold Hid ivn at *; rw [List.map_append]; exact hown
        have HBQ : Hid (Calls Try.prog 22 #[.slice (some ⟨b1, o1, none⟩) n k1, .int .i64 q] W4 fun e w' => e = .returned (.int .i64 (bhd l q)) ∧ w' = W4) := HBH.out q W4 HU4.out hq9
        have HNX : Hid ((acc ++ [q]) ++ kdsF l (k - (j + 1)) (bhd l q) = kdsF l k ((q0 : Int) + 1)) := by unfold Hid; rw [← HACC.out, kd_step hlt, List.append_assoc]; rfl
        have HBN : Hid (bhd l q ≤ n) := (HBD.out q).2
        generalize bhd l q = zq at HBQ HNX HBN
        clear hown hgrow hkeep
        go_wp2_with fail
        refine Calls.mono HBQ.out ?_
        rintro e w2 ⟨rfl, rfl⟩
        go_wp2_with fail
        go_roundw
        case rel => exact ⟨j + 1, zq, acc ++ [q], by omega, rfl, by go_num, HOW.out, by rw [List.length_append, HAL.out]; rfl, HNX.out, HBN.out, HU4.out⟩
        case measure => simp [intOf]; omega
      · have hlt2 : ¬ (j : Int) < (k : Int) := by omega
        have HE : Hid (kds l (q0 : Int) = acc) := by
          unfold Hid
          rw [HK.out, ← HACC.out, show k - j = 0 by omega]
          simp [kdsF]
        go_wp2_with fail
        rw [HPo.out, HE.out]
        exact ⟨_, rfl, by rw [HAL.out]; exact HROW.out, HU.out⟩
end TR
end Go.Proofs.Ytgahdppcdeefaaa
