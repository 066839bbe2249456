
/-
  The bag's lists of instructions lie apart.
-/
import Derived.Test.YtoaaehgnbapibaaDoorBks
namespace Go.Proofs.YtoaaehgnbapibaaDoor.BG
open Go.RowKit
attribute [local go_sem ↓] Go.wp_at_zero Go.wp_at_succ

def mkOp (q i : Nat) : List Value := [.int .i64 (bnum q i), .int .u8 0, .int .i64 0, .int .i64 0, .int .i64 0]
theorem mkOp_len (q i : Nat) : (mkOp q i).length = 5 := rfl
theorem infoOp : (Tryd.prog.info? 28).map (fun i => (i.zero, i.size, i.bytes)) = some (some (.agg #[.int .i64 0, .int .u8 0, .int .i64 0, .int .i64 0, .int .i64 0]), 5, 40) := by kernel_rfl
theorem infoROp : (Tryd.prog.info? 32).map (fun i => (i.zero, i.size, i.bytes)) = some (some (.slice none 0 0), 1, 24) := by kernel_rfl
set_option maxRecDepth 100000 in
set_option maxHeartbeats 8000000 in
theorem apartOp_ (gb : Nat) (a : Option Addr) (K cap base : Nat) (L : VL) (w : World) (hbag : Bag1 11 61 32 w gb a K cap L) (hK : K ≤ 400) (h1 : Rows1 mkOp base 28 5 w L 0) (hd : Apart L) (hn : ∀ p, p < K → (L.getD p dv).2 ≤ 4294967296) (hbs : base ≤ w.heap.size) :
    Calls Tryd.prog 49 #[.pointer (some ⟨gb, 0, none⟩)] w fun e w' => e = .returned (.bool true) ∧ Exc (Blks L) w w' := by
  obtain ⟨iT, hiT, z0, z1, z2⟩ := info_parts infoOp
  obtain ⟨iS, hiS, y0, y1, y2⟩ := info_parts infoROp
  obtain ⟨Post, hPost⟩ : ∃ P : Ending → World → Prop, P = fun e w' => e = .returned (.bool true) ∧ Exc (Blks L) w w' := ⟨_, rfl⟩
  rw [← hPost]
  have HPost : Hid (Post = fun e w' => e = .returned (.bool true) ∧ Exc (Blks L) w w') := hPost
  have HKL : Hid (K = L.length) := hbag.2.1
  have HCe : Hid (∀ W, Exc (Blks L) w W → W.cell? ⟨gb, 11, none⟩ = some (.slice a K cap) ∧ (K ≠ 0 → ∃ lb, a = some ⟨lb, 0, none⟩ ∧ ∀ p, p < K → W.cell? ⟨lb, p, none⟩ = some (L.getD p dv).1)) := fun W x => hbag.cells x h1.ty (by decide) (by decide)
  have HD : Hid (Apart L) := hd
  have HN : Hid (∀ p, p < K → (L.getD p dv).2 ≤ 4294967296) := hn
  have H1 : Hid (Rows1 mkOp base 28 5 w L 0) := h1
  have HBs : Hid (base ≤ w.heap.size) := hbs
  have HS : Hid (∀ p g, p < K → (L.getD p dv).1.ownBlock = some g → Blks L g) := fun p g hp hg => ⟨p, by rw [← HKL.out]; exact hp, hg⟩
  clear hPost hbag h1 hd hn hbs
  go_enter Tryd.func49, Tryd.ntmps49
  go_wp2_with fail
  go_loopw [3, 4] (fun s3 s4 W => ∃ p : Nat, p ≤ K ∧ s3 = .int .i64 p ∧ Rows1 mkOp base 28 5 W L p ∧ Exc (Blks L) w W) (fun s3 _ _ => K - (intOf s3).toNat)
  case atStart => exact ⟨0, Nat.zero_le _, rfl, H1.out, Exc.refl _ _⟩
  case round =>
    obtain ⟨p, hp, rfl, hr, hx⟩ := hrel
    have HR : Hid (Rows1 mkOp base 28 5 wr L p) := hr
    have HX : Hid (Exc (Blks L) w wr) := hx
    obtain ⟨q0, q1⟩ := HCe.out wr hx
    clear hr hx
    by_cases hlt : p < K
    · have hlt2 : (p : Int) < (K : Int) := by omega
      obtain ⟨lb, rfl, qc⟩ := q1 (by omega)
      obtain ⟨xs0, ho0, -⟩ := HR.out p (by rw [← HKL.out]; exact hlt)
      obtain ⟨xa, xk, hv⟩ := row_val ho0
      obtain ⟨n, hnn⟩ : ∃ n, n = (L.getD p dv).2 := ⟨_, rfl⟩
      have hnb : n ≤ 4294967296 := by rw [hnn]; exact HN.out p hlt
      rw [← hnn] at hv
      have HV : Hid ((L.getD p dv).1 = .slice xa n xk ∧ n = (L.getD p dv).2) := ⟨hv, hnn⟩
      have HLc : Hid (∀ W, Exc (Blks L) w W → W.cell? ⟨gb, 11, none⟩ = some (.slice (some ⟨lb, 0, none⟩) K cap) ∧ W.cell? ⟨lb, p, none⟩ = some (.slice xa n xk)) := fun W x => by
        obtain ⟨c0, c1⟩ := HCe.out W x
        obtain ⟨lb', e, c2⟩ := c1 (by omega)
        cases e
        exact ⟨c0, by rw [c2 p hlt, hv]⟩
      clear q1 qc ho0 hv hnn
      go_wp2_with fail
      go_loopw [4] (fun s4 W => ∃ i : Nat, i ≤ n ∧ s4 = .int .i64 i ∧ Row2 mkOp base 28 5 W L p i ∧ Exc (Blks L) w W) (fun s4 _ => n - (intOf s4).toNat)
      case atStart => exact ⟨0, Nat.zero_le _, rfl, HR.out.start, HX.out⟩
      case round =>
        clear HR HX q0
        obtain ⟨i, hi, rfl, hr, hx⟩ := hrel
        have HR : Hid (Row2 mkOp base 28 5 wr L p i) := hr
        have HX : Hid (Exc (Blks L) w wr) := hx
        obtain ⟨q0, q1⟩ := HLc.out wr hx
        clear hr hx
        by_cases hlt3 : i < n
        · have hlt4 : (i : Int) < (n : Int) := by omega
          obtain ⟨xs, ho, -, -⟩ := HR.out p (by rw [← HKL.out]; exact hlt)
          rw [HV.out.1, ← HV.out.2] at ho
          obtain ⟨g, cur, rfl, hgc, hil⟩ : ∃ g cur, xa = some ⟨g, 0, none⟩ ∧ wr.heap[g]? = some (.cells cur 28 (0, 0)) ∧ i * 5 + 5 ≤ cur.size := by
            rcases ho.2 with ⟨e, -⟩ | ⟨g, c, cur, e, _, b3, b4, _, b6, _⟩
            · cases e; omega
            · cases e; exact ⟨g, cur, rfl, b3, by omega⟩
          have c0 : wr.cell? ⟨g, i * 5, none⟩ = some (cur[i * 5]'(by omega)) := by simp [World.cell?, hgc]
          generalize cur[i * 5]'(by omega) = old0 at c0
          have c1 : wr.cell? ⟨g, i * 5 + 1, none⟩ = some (cur[i * 5 + 1]'(by omega)) := by simp [World.cell?, hgc]
          generalize cur[i * 5 + 1]'(by omega) = old1 at c1
          have c2 : wr.cell? ⟨g, i * 5 + 2, none⟩ = some (cur[i * 5 + 2]'(by omega)) := by simp [World.cell?, hgc]
          generalize cur[i * 5 + 2]'(by omega) = old2 at c2
          have c3 : wr.cell? ⟨g, i * 5 + 3, none⟩ = some (cur[i * 5 + 3]'(by omega)) := by simp [World.cell?, hgc]
          generalize cur[i * 5 + 3]'(by omega) = old3 at c3
          have c4 : wr.cell? ⟨g, i * 5 + 4, none⟩ = some (cur[i * 5 + 4]'(by omega)) := by simp [World.cell?, hgc]
          generalize cur[i * 5 + 4]'(by omega) = old4 at c4
          have cf : ∀ j, wr.frozen? ⟨g, j, none⟩ = false := seven_f hgc
          have HPut : Hid (∀ nq, Row2 mkOp base 28 5 ((((((wr.drewN nq).setCell ⟨g, i * 5, none⟩ (.int .i64 (bnum p i))).setCell ⟨g, i * 5 + 1, none⟩ (.int .u8 0)).setCell ⟨g, i * 5 + 2, none⟩ (.int .i64 0)).setCell ⟨g, i * 5 + 3, none⟩ (.int .i64 0)).setCell ⟨g, i * 5 + 4, none⟩ (.int .i64 0)) L p (i + 1) ∧ Exc (Blks L) w ((((((wr.drewN nq).setCell ⟨g, i * 5, none⟩ (.int .i64 (bnum p i))).setCell ⟨g, i * 5 + 1, none⟩ (.int .u8 0)).setCell ⟨g, i * 5 + 2, none⟩ (.int .i64 0)).setCell ⟨g, i * 5 + 3, none⟩ (.int .i64 0)).setCell ⟨g, i * 5 + 4, none⟩ (.int .i64 0))) := fun nq => by
            have ob : (L.getD p dv).1.ownBlock = some g := by rw [HV.out.1]; rfl
            have hh := setsW_heap (W := wr.drewN nq) (g := g) (cur := cur) (t := 28) (mkOp p i) (i * 5) (show (wr.drewN nq).heap[g]? = _ from hgc) (by rw [mkOp_len]; exact hil)
            rw [mkOp_len] at hh
            exact ⟨Row2.put mkOp_len (cur := cur) (g := g) HR.out (by rw [← HKL.out]; exact hlt) (by rw [← HV.out.2]; exact hlt3) HD.out ob hgc hh (fun b hb => setsW_other (mkOp p i) (i * 5) hb), setsW_exc (mkOp p i) (i * 5) (Exc.up HX.out ((Up.refl _).drewN nq)) (.inl (HS.out p g hlt ob))⟩
          have HNm : Hid _ := bnum_ p i (by omega) (by omega)
          clear ho HR HX hgc hil
          generalize bnum p i = z at HPut HNm
          go_wp2_with fail
          refine TailR.wp_region_seq 12 (by kernel_rfl) (by kernel_rfl) ?_
          simp only [List.take_succ_cons, List.take_zero, List.drop_succ_cons, List.drop_zero]
          repeat (go_big_quiet_step (exact Calls.quiet_of_same (HNm.out _)))
          refine wpQuiet_nil ?_
          intro _ hw'
          obtain ⟨nq, hw''⟩ := hw'
          subst hw''
          go_wp2_with fail
          go_roundw
          case rel => exact ⟨i + 1, by omega, by go_num, (HPut.out nq).1, (HPut.out nq).2⟩
          case measure => simp [intOf] <;> omega
        · have hlt4 : ¬ (i : Int) < (n : Int) := by omega
          have hin : i = n := by omega
          subst hin
          have HR2 : Hid (Rows1 mkOp base 28 5 wr L (p + 1)) := by
            have := HR.out
            rw [HV.out.2] at this
            exact this.finish
          go_wp2_with fail
          go_roundw
          case rel => exact ⟨p + 1, by omega, by go_num, HR2.out, HX.out⟩
          case measure => simp [intOf] <;> omega
    · have hlt2 : ¬ (p : Int) < (K : Int) := by omega
      have hpK : p = L.length := by rw [← HKL.out]; omega
      have HPh : Hid (Ph mkOp base w.heap.size 28 32 5 wr L 0 (.slice none 0 0) (.slice none 0 0) [] []) := by
        have h := HR.out
        rw [hpK] at h
        exact Ph.start h HX.out.2.1 (Nat.le_trans HBs.out HX.out.2.1)
      clear HR hpK q1
      go_wp2_with fail
      clear q0
      go_loopw [5, 6, 7, 8, 9] (fun s5 s6 s7 s8 s9 W => ∃ (p : Nat) (oa ma : Option Addr) (ok mk9 : Nat) (os ms : List Value), p ≤ K ∧ s7 = .int .i64 p ∧ s5 = .slice oa p ok ∧ s6 = .slice ma p mk9 ∧ Ph mkOp base w.heap.size 28 32 5 W L p (.slice oa p ok) (.slice ma p mk9) os ms ∧ Exc (Blks L) w W) (fun _ _ s7 _ _ _ => K - (intOf s7).toNat)
      case atStart => exact ⟨0, none, none, 0, 0, [], [], Nat.zero_le _, rfl, rfl, rfl, HPh.out, HX.out⟩
      case round =>
        clear HPh HX hlt2 hlt hp
        obtain ⟨p, oa, ma, ok, mk9, os, ms, hp, rfl, rfl, rfl, hph, hx⟩ := hrel
        have HPh : Hid (Ph mkOp base w.heap.size 28 32 5 wr L p (.slice oa p ok) (.slice ma p mk9) os ms) := hph
        have HX : Hid (Exc (Blks L) w wr) := hx
        obtain ⟨q0, q1⟩ := HCe.out wr hx
        clear hph hx
        by_cases hlt : p < K
        · have hlt2 : (p : Int) < (K : Int) := by omega
          have hpL : p < L.length := by rw [← HKL.out]; exact hlt
          obtain ⟨lb, rfl, qc⟩ := q1 (by omega)
          obtain ⟨xa, xk, hv⟩ := row_val (HPh.out.A p (Nat.le_refl _) hpL)
          obtain ⟨n, hnn⟩ : ∃ n, n = (L.getD p dv).2 := ⟨_, rfl⟩
          have hnb : n ≤ 4294967296 := by rw [hnn]; exact HN.out p hlt
          rw [← hnn] at hv
          have HV : Hid ((L.getD p dv).1 = .slice xa n xk ∧ n = (L.getD p dv).2) := ⟨hv, hnn⟩
          have HLc : Hid (∀ W, Exc (Blks L) w W → W.cell? ⟨gb, 11, none⟩ = some (.slice (some ⟨lb, 0, none⟩) K cap) ∧ W.cell? ⟨lb, p, none⟩ = some (.slice xa n xk)) := fun W x => by
            obtain ⟨c0, c1⟩ := HCe.out W x
            obtain ⟨lb', e, c2⟩ := c1 (by omega)
            cases e
            exact ⟨c0, by rw [c2 p hlt, hv]⟩
          have HI0 : Hid (In mkOp base w.heap.size 28 32 5 wr L p (.slice oa p ok) (.slice ma p mk9) os ms (.slice xa n xk) n p) := by
            have h := Ph.inn mkOp_len HPh.out hpL HD.out
            rw [hv, ← hnn] at h
            exact h
          have HBk : Hid (∀ b, Blks L b → b < w.heap.size ∨ True) := fun _ _ => .inr trivial
          obtain ⟨qc1, qc2⟩ := HLc.out wr HX.out
          clear q0 q1 qc hv hnn HPh HBk
          go_wp2_with fail
          go_loopw [5, 8, 9] (fun s5 s8 s9 W => ∃ (i k : Nat) (la oa : Option Addr) (lk ok : Nat) (os : List Value), n ≤ i ∧ i ≤ n + 70 ∧ s9 = .int .i64 i ∧ s8 = .slice la i lk ∧ s5 = .slice oa k ok ∧ In mkOp base w.heap.size 28 32 5 W L p (.slice oa k ok) (.slice ma p mk9) os ms (.slice la i lk) i k ∧ Exc (Blks L) w W ∧ (n < i → k = p + 1) ∧ (i = n → k = p) ∧ (∀ b, (Value.slice la i lk).ownBlock = some b → Blks L b ∨ w.heap.size ≤ b)) (fun _ _ s9 _ => n + 70 - (intOf s9).toNat)
          case atStart => exact ⟨n, p, xa, oa, xk, ok, os, Nat.le_refl _, by omega, rfl, rfl, rfl, HI0.out, HX.out, fun h => by omega, fun _ => rfl, fun b hb => .inl (HS.out p b hlt (by rw [HV.out.1]; exact hb))⟩
          case round =>
            clear HI0 HX qc1 qc2
            obtain ⟨i, k, la, oa, lk, ok, os, hi1, hi2, rfl, rfl, rfl, hin, hx, hk1, hk2, hsep⟩ := hrel
            have HI : Hid (In mkOp base w.heap.size 28 32 5 wr L p (.slice oa k ok) (.slice ma p mk9) os ms (.slice la i lk) i k) := hin
            have HX : Hid (Exc (Blks L) w wr) := hx
            have HSp : Hid (∀ b, (Value.slice la i lk).ownBlock = some b → Blks L b ∨ w.heap.size ≤ b) := hsep
            have HK1 : Hid ((n < i → k = p + 1) ∧ (i = n → k = p)) := ⟨hk1, hk2⟩
            obtain ⟨qc1, qc2⟩ := HLc.out wr hx
            clear hin hx hsep hk1 hk2
            by_cases hlt3 : i < n + 70
            · have hlt4 : (i : Int) < (n : Int) + 70 := by omega
              have HNm : Hid (∀ W, Calls Tryd.prog 59 #[.int .i64 p, .int .i64 i] W fun e w' => e = .returned (.int .i64 (bnum p i)) ∧ w' = W) := bnum_ p i (by omega) (by omega)
              have HIa : Hid (In mkOp base w.heap.size 28 32 5 (wr.alloc (.cells #[.int .i64 (bnum p i), .int .u8 0, .int .i64 0, .int .i64 0, .int .i64 0] 28)) L p (.slice oa k ok) (.slice ma p mk9) os ms (.slice la i lk) i k) := HI.out.up ((Up.refl _).alloc _)
              have HXa : Hid (Exc (Blks L) w (wr.alloc (.cells #[.int .i64 (bnum p i), .int .u8 0, .int .i64 0, .int .i64 0, .int .i64 0] 28))) := HX.out.up ((Up.refl _).alloc _)
              have HG : Hid (∀ v5 w5, w5.ownsRow base 28 5 v5 (i + 1) (mks mkOp p i ++ [.int .i64 (bnum p i), .int .u8 0, .int .i64 0, .int .i64 0, .int .i64 0]) → (wr.alloc (.cells #[.int .i64 (bnum p i), .int .u8 0, .int .i64 0, .int .i64 0, .int .i64 0] 28)).grownBy w5 (Value.slice la i lk).ownBlock → KeptS (.slice la i lk) (i * 5) (wr.alloc (.cells #[.int .i64 (bnum p i), .int .u8 0, .int .i64 0, .int .i64 0, .int .i64 0] 28)) w5 → LiesNew (.slice la i lk) v5 (wr.alloc (.cells #[.int .i64 (bnum p i), .int .u8 0, .int .i64 0, .int .i64 0, .int .i64 0] 28)) → TyK (wr.alloc (.cells #[.int .i64 (bnum p i), .int .u8 0, .int .i64 0, .int .i64 0, .int .i64 0] 28)) w5 → In mkOp base w.heap.size 28 32 5 w5 L p (.slice oa k ok) (.slice ma p mk9) os ms v5 (i + 1) k ∧ Exc (Blks L) w w5 ∧ ∀ b, v5.ownBlock = some b → Blks L b ∨ w.heap.size ≤ b) := fun v5 w5 a1 a2 a3 a4 a5 => by
                refine ⟨In.grow mkOp_len HIa.out (fun h => HK1.out.1 (by rw [HV.out.2]; omega)) (by decide) (by rw [mks_more]; exact a1) a2 a3 a4 a5, HXa.out.grown a2 HSp.out, fun b hb => ?_⟩
                rcases a4 with a4 | ⟨g, a4, a6⟩
                · rw [a4] at hb; exact HSp.out b hb
                · rw [a4] at hb
                  have : g = b := by simpa using hb
                  subst this
                  exact .inr (Nat.le_trans HXa.out.2.1 a6)
              have HNw : Hid (∀ j u, [(.int .i64 (bnum p i) : Value), .int .u8 0, .int .i64 0, .int .i64 0, .int .i64 0][j]? = some u → (wr.alloc (.cells #[.int .i64 (bnum p i), .int .u8 0, .int .i64 0, .int .i64 0, .int .i64 0] 28)).cell? ((⟨wr.heap.size, 0, none⟩ : Addr).add j) = some u) := newCells wr [.int .i64 (bnum p i), .int .u8 0, .int .i64 0, .int .i64 0, .int .i64 0] 28
              clear HX HI
              generalize bnum p i = z at HNm HIa HXa HG HNw
              go_wp2_with fail
              refine Calls.mono (HNm.out _) ?_
              rintro e w1 ⟨rfl, hw1⟩
              obtain rfl := hw1.symm
              have HOn : Hid (∀ u ∈ [(.int .i64 z : Value), .int .u8 0, .int .i64 0, .int .i64 0, .int .i64 0], u.oneCell' = true) := by intro u hu; simp only [List.mem_cons, List.not_mem_nil, or_false] at hu; rcases hu with rfl | rfl | rfl | rfl | rfl <;> rfl
              have hpk : k ≤ 1000 := by
                rcases Nat.lt_or_ge n i with h | h
                · have := HK1.out.1 h; omega
                · have := HK1.out.2 (by omega); omega
              by_cases hin : i = n
              · have hkp : k = p := HK1.out.2 hin
                have hnn2 : n = (L.getD p dv).2 := HV.out.2
                have HKp : Hid (∀ (xa5 : Option Addr) (xk5 : Nat) (w5 : World) (v7 : Value) (w7 : World), In mkOp base w.heap.size 28 32 5 (w5.alloc (.cells #[.slice xa5 (i + 1) xk5] 32)) L p (.slice oa k ok) (.slice ma p mk9) os ms (.slice xa5 (i + 1) xk5) (i + 1) k → Exc (Blks L) w w5 → w7.ownsRow w.heap.size 32 1 v7 (k + 1) (os ++ [.slice xa5 (i + 1) xk5]) → (w5.alloc (.cells #[.slice xa5 (i + 1) xk5] 32)).grownBy w7 (Value.slice oa k ok).ownBlock → LiesNew (.slice oa k ok) v7 (w5.alloc (.cells #[.slice xa5 (i + 1) xk5] 32)) → In mkOp base w.heap.size 28 32 5 w7 L p v7 (.slice ma p mk9) (os ++ [.slice xa5 (i + 1) xk5]) ms (.slice xa5 (i + 1) xk5) (i + 1) (k + 1) ∧ Exc (Blks L) w w7) := fun xa5 xk5 w5 v7 w7 h hx a1 a2 a4 => by
                  rw [hkp] at h a1 a2 a4 ⊢
                  refine ⟨In.keep mkOp_len h (by rw [hin, hnn2]) (by decide) a1 a2 a4, Exc.grown (hx.up ((Up.refl _).alloc _)) a2 (fun c hc => .inr ?_)⟩
                  rcases h.C.1.2 with ⟨e0, -⟩ | ⟨g', cap', cur', e0, b2, _⟩
                  · rw [e0] at hc; cases hc
                  · rw [e0] at hc
                    have : g' = c := by simpa [Value.ownBlock] using hc
                    subst this
                    exact b2
                have hbe : ((i : Int) == (n : Int)) = true := by rw [beq_iff_eq]; omega
                clear hin hnn2
                have HKk : Hid (k = p) := hkp
                clear hkp
                go_wp2_with (at_builtin; first | (refine wpList_append_apart _ (by rfl) (.tmp 79) (.tmp 84) 32 (by rfl) base 28 iT (.agg #[.int .i64 0, .int .u8 0, .int .i64 0, .int .i64 0, .int .i64 0]) 5 40 Tryd.underlying32 hiT z0 z1 z2 (by rfl) (by decide) (.slice la i lk) i (mks mkOp p i) (by rfl) HIa.out.R ⟨wr.heap.size, 0, none⟩ 1 [.int .i64 z, .int .u8 0, .int .i64 0, .int .i64 0, .int .i64 0] (by rfl) (by rfl) HNw.out HOn.out (by unfold maxLen; omega) (by omega) HIa.out.Z.2 ?_; intro v5 w5 a1 a2 a3 a4 a5; have HI5 : Hid _ := HG.out v5 w5 a1 a2 a3 a4 a5; obtain ⟨xa5, xk5, hx5⟩ := row_val a1; subst hx5; clear a1 a2 a3 a4 a5 qc1 qc2; obtain ⟨qc1, qc2⟩ := HLc.out w5 HI5.out.2.1; have HI6 : Hid (In mkOp base w.heap.size 28 32 5 (w5.alloc (.cells #[.slice xa5 (i + 1) xk5] 32)) L p (.slice oa k ok) (.slice ma p mk9) os ms (.slice xa5 (i + 1) xk5) (i + 1) k) := (In.up HI5.out.1 ((Up.refl _).alloc _)); have HNw2 : Hid _ := newCell w5 (.slice xa5 (i + 1) xk5) 32) | (refine wpList_append_apart _ (by rfl) (.tmp 96) (.tmp 98) 50 (by rfl) w.heap.size 32 iS (.slice none 0 0) 1 24 Tryd.underlying50 hiS y0 y1 y2 (by rfl) (by decide) (.slice oa k ok) k os (by rfl) HI6.out.C.1 ⟨w5.heap.size, 0, none⟩ 1 [.slice xa5 (i + 1) xk5] (by rfl) (by rfl) HNw2.out (oneSl _ _ _) (by unfold maxLen; omega) (by omega) HI6.out.Z.1 ?_; intro v7 w7 a1 a2 a3 a4 a5; have HI7 : Hid _ := HKp.out _ _ _ v7 w7 HI6.out HI5.out.2.1 a1 a2 a4; obtain ⟨xa7, xk7, hx7⟩ := row_val a1; subst hx7; clear a1 a2 a3 a4 a5))
                go_roundw
                case rel => exact ⟨i + 1, k + 1, xa5, xa7, xk5, xk7, _, by omega, by omega, by go_num, rfl, rfl, HI7.out.1, HI7.out.2, fun _ => by rw [HKk.out], fun h => by omega, HI5.out.2.2⟩
                case measure => simp [intOf] <;> omega
              · have hbe : ((i : Int) == (n : Int)) = false := beq_eq_false_iff_ne.2 (by omega)
                have HKk : Hid (k = p + 1) := HK1.out.1 (by omega)
                go_wp2_with (at_builtin; (refine wpList_append_apart _ (by rfl) (.tmp 79) (.tmp 84) 32 (by rfl) base 28 iT (.agg #[.int .i64 0, .int .u8 0, .int .i64 0, .int .i64 0, .int .i64 0]) 5 40 Tryd.underlying32 hiT z0 z1 z2 (by rfl) (by decide) (.slice la i lk) i (mks mkOp p i) (by rfl) HIa.out.R ⟨wr.heap.size, 0, none⟩ 1 [.int .i64 z, .int .u8 0, .int .i64 0, .int .i64 0, .int .i64 0] (by rfl) (by rfl) HNw.out HOn.out (by unfold maxLen; omega) (by omega) HIa.out.Z.2 ?_; intro v5 w5 a1 a2 a3 a4 a5; have HI5 : Hid _ := HG.out v5 w5 a1 a2 a3 a4 a5; obtain ⟨xa5, xk5, hx5⟩ := row_val a1; subst hx5; clear a1 a2 a3 a4 a5 qc1 qc2; obtain ⟨qc1, qc2⟩ := HLc.out w5 HI5.out.2.1))
                go_roundw
                case rel => exact ⟨i + 1, k, xa5, oa, xk5, ok, os, by omega, by omega, by go_num, rfl, rfl, HI5.out.1, HI5.out.2.1, fun _ => HKk.out, fun h => by omega, HI5.out.2.2⟩
                case measure => simp [intOf] <;> omega
            · have hlt4 : ¬ (i : Int) < (n : Int) + 70 := by omega
              have HKk : Hid (k = p + 1) := HK1.out.1 (by omega)
              have hin : i = n + 70 := by omega
              have HI6 : Hid (In mkOp base w.heap.size 28 32 5 (wr.alloc (.cells #[.slice la i lk] 32)) L p (.slice oa k ok) (.slice ma p mk9) os ms (.slice la i lk) i k) := HI.out.up ((Up.refl _).alloc _)
              have HNw2 : Hid _ := newCell wr (.slice la i lk) 32
              have HDn : Hid (∀ (v7 : Value) (w7 : World), w7.ownsRow w.heap.size 32 1 v7 (p + 1) (ms ++ [.slice la i lk]) → (wr.alloc (.cells #[.slice la i lk] 32)).grownBy w7 (Value.slice ma p mk9).ownBlock → LiesNew (.slice ma p mk9) v7 (wr.alloc (.cells #[.slice la i lk] 32)) → Ph mkOp base w.heap.size 28 32 5 w7 L (p + 1) (.slice oa (p + 1) ok) v7 os (ms ++ [.slice la i lk]) ∧ Exc (Blks L) w w7) := fun v7 w7 a1 a2 a4 => by
                have h := HI6.out
                rw [HKk.out] at h
                refine ⟨In.done mkOp_len h (by rw [hin, HV.out.2]) (by decide) a1 a2 a4, Exc.grown (HX.out.up ((Up.refl _).alloc _)) a2 (fun c hc => .inr ?_)⟩
                rcases h.D.1.2 with ⟨e0, -⟩ | ⟨g', cap', cur', e0, b2, _⟩
                · rw [e0] at hc; cases hc
                · rw [e0] at hc
                  have : g' = c := by simpa [Value.ownBlock] using hc
                  subst this
                  exact b2
              clear hin HX HI
              go_wp2_with (at_builtin; (refine wpList_append_apart _ (by rfl) (.tmp 100) (.tmp 102) 50 (by rfl) w.heap.size 32 iS (.slice none 0 0) 1 24 Tryd.underlying50 hiS y0 y1 y2 (by rfl) (by decide) (.slice ma p mk9) p ms (by rfl) HI6.out.D.1 ⟨wr.heap.size, 0, none⟩ 1 [.slice la i lk] (by rfl) (by rfl) HNw2.out (oneSl _ _ _) (by unfold maxLen; omega) (by omega) HI6.out.Z.1 ?_; intro v7 w7 a1 a2 a3 a4 a5; have HI7 : Hid _ := HDn.out v7 w7 a1 a2 a4; obtain ⟨xa7, xk7, hx7⟩ := row_val a1; subst hx7; clear a1 a2 a3 a4 a5))
              go_roundw
              case rel => exact ⟨p + 1, oa, xa7, ok, xk7, os, _, by omega, by go_num, by rw [HKk.out], rfl, HI7.out.1, HI7.out.2⟩
              case measure => simp [intOf] <;> omega
        · have hlt2 : ¬ (p : Int) < (K : Int) := by omega
          have hpK : p = K := by omega
          subst hpK
          obtain ⟨w9, hw9⟩ : ∃ w9, w9 = wr := ⟨_, rfl⟩
          subst hw9
          have HFin : Hid (∀ W, Up w9 W → Post (.returned (.bool true)) W) := fun W u => by rw [HPost.out]; exact ⟨rfl, HX.out.up u⟩
          have HQ0 : Hid _ := q0
          have HQ1 : Hid _ := q1
          clear q1
          have HM : Hid (∀ q, q < p → ∃ mb o c, ma = some ⟨mb, 0, none⟩ ∧ w9.cell? ⟨mb, q, none⟩ = some (.slice (some ⟨o, 0, none⟩) ((L.getD q dv).2 + 70) c) ∧ (L.getD q dv).2 + 70 ≤ (L.getD q dv).2 + 70 ∧ ∀ i, i < (L.getD q dv).2 + 70 → (w9.cell? ⟨o, i * 5, none⟩ = some (.int .i64 (bnum q i)) ∧ w9.cell? ⟨o, i * 5 + 1, none⟩ = some (.int .u8 0) ∧ w9.cell? ⟨o, i * 5 + 2, none⟩ = some (.int .i64 0) ∧ w9.cell? ⟨o, i * 5 + 3, none⟩ = some (.int .i64 0) ∧ w9.cell? ⟨o, i * 5 + 4, none⟩ = some (.int .i64 0))) := fun q hq => by
            obtain ⟨mb, c0, -, -, e⟩ := row_some HPh.out.D.1 (by omega)
            obtain ⟨o, c, h1, h2⟩ := HPh.out.D.2 q hq
            simp only [Value.slice.injEq] at e
            have hd := HPh.out.D.1
            rw [e.1] at hd
            have hc := World.ownsRow.cellAt hd q (by omega)
            have hl : ms.length = p := by have := HPh.out.D.1.1; omega
            refine ⟨mb, o, c, e.1, ?_, Nat.le_refl _, fun i hi => ?_⟩
            · rw [hc, List.getElem?_eq_getElem (by omega), ← h1, List.getD_eq_getElem?_getD, List.getElem?_eq_getElem (by omega)]
              rfl
            · have := fun j hj => h2.2 i j hi hj
              exact ⟨this 0 (by decide), this 1 (by decide), this 2 (by decide), this 3 (by decide), this 4 (by decide)⟩
          have HO : Hid (∀ q, q < p → ∃ ob o c, oa = some ⟨ob, 0, none⟩ ∧ w9.cell? ⟨ob, q, none⟩ = some (.slice (some ⟨o, 0, none⟩) ((L.getD q dv).2 + 1) c) ∧ (w9.cell? ⟨o, (L.getD q dv).2 * 5, none⟩ = some (.int .i64 (bnum q (L.getD q dv).2)) ∧ w9.cell? ⟨o, (L.getD q dv).2 * 5 + 1, none⟩ = some (.int .u8 0) ∧ w9.cell? ⟨o, (L.getD q dv).2 * 5 + 2, none⟩ = some (.int .i64 0) ∧ w9.cell? ⟨o, (L.getD q dv).2 * 5 + 3, none⟩ = some (.int .i64 0) ∧ w9.cell? ⟨o, (L.getD q dv).2 * 5 + 4, none⟩ = some (.int .i64 0))) := fun q hq => by
            obtain ⟨mb, c0, -, -, e⟩ := row_some HPh.out.C.1 (by omega)
            obtain ⟨o, c, h1, h2⟩ := HPh.out.C.2 q hq
            simp only [Value.slice.injEq] at e
            have hd := HPh.out.C.1
            rw [e.1] at hd
            have hc := World.ownsRow.cellAt hd q (by omega)
            have hl : os.length = p := by have := HPh.out.C.1.1; omega
            refine ⟨mb, o, c, e.1, ?_, ?_⟩
            · rw [hc, List.getElem?_eq_getElem (by omega), ← h1, List.getD_eq_getElem?_getD, List.getElem?_eq_getElem (by omega)]
              rfl
            · have := fun j hj => h2.2 (L.getD q dv).2 j (by omega) hj
              exact ⟨this 0 (by decide), this 1 (by decide), this 2 (by decide), this 3 (by decide), this 4 (by decide)⟩
          have HB : Hid (∀ q, q < p → ∃ xa xk, (L.getD q dv).1 = .slice xa (L.getD q dv).2 xk ∧ ∀ i, i < (L.getD q dv).2 → ∃ g, xa = some ⟨g, 0, none⟩ ∧ (w9.cell? ⟨g, i * 5, none⟩ = some (.int .i64 (bnum q i)) ∧ w9.cell? ⟨g, i * 5 + 1, none⟩ = some (.int .u8 0) ∧ w9.cell? ⟨g, i * 5 + 2, none⟩ = some (.int .i64 0) ∧ w9.cell? ⟨g, i * 5 + 3, none⟩ = some (.int .i64 0) ∧ w9.cell? ⟨g, i * 5 + 4, none⟩ = some (.int .i64 0))) := fun q hq => by
            obtain ⟨xs, h3, -⟩ := H1.out q (by rw [← HKL.out]; exact hq)
            obtain ⟨xa, xk, hv⟩ := row_val h3
            refine ⟨xa, xk, hv, fun i hi => ?_⟩
            obtain ⟨g, c0, -, -, e⟩ := row_some h3 (by omega)
            have h4 := HPh.out.B q hq g (by rw [e]; rfl)
            have h5 := fun j hj => h4.2 i j hi hj
            rw [hv] at e
            simp only [Value.slice.injEq] at e
            exact ⟨g, e.1, ⟨h5 0 (by decide), h5 1 (by decide), h5 2 (by decide), h5 3 (by decide), h5 4 (by decide)⟩⟩
          clear HPh
          go_wp2_with fail
          clear q0
          go_loopw [10, 11, 12, 13] (fun s10 s11 s12 s13 W => ∃ q : Nat, q ≤ p ∧ s10 = .int .i64 q ∧ Up w9 W) (fun s10 _ _ _ _ => p - (intOf s10).toNat)
          case atStart => exact ⟨0, Nat.zero_le _, rfl, by first | exact Up.refl _ | (simp only [World.drewN]; exact Up.refl _)⟩
          case round =>
            obtain ⟨q, hq, rfl, hu0⟩ := hrel
            have HU0 : Hid (Up w9 wr) := hu0
            clear hu0
            by_cases hqp : q < p
            · have hqp2 : (q : Int) < (p : Int) := by omega
              obtain ⟨mb, o, c, rfl, m1, -, m2⟩ := HM.out q hqp
              obtain ⟨ob, o1, c1, rfl, n1, n2⟩ := HO.out q hqp
              have HN3 : Hid _ := n2
              clear n2
              obtain ⟨xa, xk, hv, hb⟩ := HB.out q hqp
              obtain ⟨lb, rfl, qc⟩ := HQ1.out (by omega)
              have qv := qc q hqp
              rw [hv] at qv
              have hnb := HN.out q hqp
              have HM2 : Hid _ := m2
              have HB2 : Hid _ := hb
              generalize (L.getD q dv).2 = n at m1 HM2 n1 HN3 qv HB2 hnb
              have HNm : Hid (∀ i : Nat, i ≤ 8589934592 → ∀ W, Calls Tryd.prog 59 #[.int .i64 q, .int .i64 i] W fun e w' => e = .returned (.int .i64 (bnum q i)) ∧ w' = W) := fun i hi => bnum_ q i (by omega) hi
              have HC : Hid (∀ W, Up w9 W → W.cell? ⟨gb, 11, none⟩ = some (.slice (some ⟨lb, 0, none⟩) p cap) ∧ W.cell? ⟨lb, q, none⟩ = some (.slice xa n xk) ∧ W.cell? ⟨mb, q, none⟩ = some (.slice (some ⟨o, 0, none⟩) (n + 70) c) ∧ W.cell? ⟨ob, q, none⟩ = some (.slice (some ⟨o1, 0, none⟩) (n + 1) c1)) := fun W u => ⟨u.cell HQ0.out, u.cell qv, u.cell m1, u.cell n1⟩
              clear m2 hb hv qc qv m1 n1
              obtain ⟨r0, r1, r2, r3⟩ := HC.out _ HU0.out
              go_wp2_with fail
              go_loopw [11, 12, 13] (fun s11 s12 s13 W => ∃ i : Nat, i ≤ n + 70 ∧ s11 = .int .i64 i ∧ Up w9 W) (fun s11 _ _ _ => n + 70 - (intOf s11).toNat)
              case atStart => exact ⟨0, Nat.zero_le _, rfl, HU0.out⟩
              case round =>
                clear r0 r1 r2 r3
                obtain ⟨i, hi, rfl, hu⟩ := hrel
                have HU : Hid (Up w9 wr) := hu
                clear hu
                obtain ⟨r0, r1, r2, r3⟩ := HC.out _ HU.out
                have l0 : gb < wr.heap.size := World.block_lt_of_cell? _ _ r0
                have l1 : lb < wr.heap.size := World.block_lt_of_cell? _ _ r1
                have l2 : mb < wr.heap.size := World.block_lt_of_cell? _ _ r2
                have l3 : ob < wr.heap.size := World.block_lt_of_cell? _ _ r3
                by_cases hi7 : i < n + 70
                · have hi8 : (i : Int) < (n : Int) + 70 := by omega
                  obtain ⟨k1_0, k1_1, k1_2, k1_3, k1_4⟩ := HM2.out i hi7
                  have k1_0 := HU.out.cell k1_0
                  have k1_1 := HU.out.cell k1_1
                  have k1_2 := HU.out.cell k1_2
                  have k1_3 := HU.out.cell k1_3
                  have k1_4 := HU.out.cell k1_4
                  have l4 : o < wr.heap.size := World.block_lt_of_cell? _ _ k1_0
                  have HN2 : Hid _ := HNm.out i (by omega)
                  rcases Nat.lt_trichotomy i n with hin | hin | hin
                  · obtain ⟨g, rfl, k2_0, k2_1, k2_2, k2_3, k2_4⟩ := HB2.out i hin
                    have k2_0 := HU.out.cell k2_0
                    have k2_1 := HU.out.cell k2_1
                    have k2_2 := HU.out.cell k2_2
                    have k2_3 := HU.out.cell k2_3
                    have k2_4 := HU.out.cell k2_4
                    have l5 : g < wr.heap.size := World.block_lt_of_cell? _ _ k2_0
                    have hin2 : (i : Int) < (n : Int) := by omega
                    have hbe : ((i : Int) == (n : Int)) = false := beq_eq_false_iff_ne.2 (by omega)
                    generalize bnum q i = z at k1_0 k2_0 HN2
                    go_wp2_with fail
                    go_quiet (exact Calls.quiet_of_same (HN2.out _))
                    go_wp2_with fail
                    go_quiet (exact Calls.quiet_of_same (HN2.out _))
                    go_wp2
                    go_roundw
                    case rel => exact ⟨i + 1, by omega, by go_num, (HU.out.trans (by repeat (first | with_reducible exact Up.refl _ | with_reducible apply Up.alloc | with_reducible apply Up.drewN | with_reducible apply Up.drew | with_reducible refine Up.setB ?_ _ _ (by first | exact Nat.le_refl _ | exact Nat.le_succ _ | (simp; omega)))))⟩
                    case measure => simp [intOf] <;> omega
                  · subst hin
                    obtain ⟨n2_0, n2_1, n2_2, n2_3, n2_4⟩ := HN3.out
                    have n2_0 := HU.out.cell n2_0
                    have n2_1 := HU.out.cell n2_1
                    have n2_2 := HU.out.cell n2_2
                    have n2_3 := HU.out.cell n2_3
                    have n2_4 := HU.out.cell n2_4
                    have l5 : o1 < wr.heap.size := World.block_lt_of_cell? _ _ n2_0
                    have hin2 : ¬ (i : Int) < (i : Int) := by omega
                    generalize bnum q i = z at k1_0 n2_0 HN2
                    go_wp2_with fail
                    go_quiet (exact Calls.quiet_of_same (HN2.out _))
                    go_wp2_with fail
                    go_quiet (exact Calls.quiet_of_same (HN2.out _))
                    go_wp2
                    go_roundw
                    case rel => exact ⟨i + 1, by omega, by go_num, (HU.out.trans (by repeat (first | with_reducible exact Up.refl _ | with_reducible apply Up.alloc | with_reducible apply Up.drewN | with_reducible apply Up.drew | with_reducible refine Up.setB ?_ _ _ (by first | exact Nat.le_refl _ | exact Nat.le_succ _ | (simp; omega)))))⟩
                    case measure => simp [intOf] <;> omega
                  · have hin2 : ¬ (i : Int) < (n : Int) := by omega
                    have hbe : ((i : Int) == (n : Int)) = false := beq_eq_false_iff_ne.2 (by omega)
                    generalize bnum q i = z at k1_0 HN2
                    go_wp2_with fail
                    go_quiet (exact Calls.quiet_of_same (HN2.out _))
                    go_wp2_with fail
                    go_quiet (exact Calls.quiet_of_same (HN2.out _))
                    go_wp2
                    go_roundw
                    case rel => exact ⟨i + 1, by omega, by go_num, (HU.out.trans (by repeat (first | with_reducible exact Up.refl _ | with_reducible apply Up.alloc | with_reducible apply Up.drewN | with_reducible apply Up.drew | with_reducible refine Up.setB ?_ _ _ (by first | exact Nat.le_refl _ | exact Nat.le_succ _ | (simp; omega)))))⟩
                    case measure => simp [intOf] <;> omega
                · have hi8 : ¬ (i : Int) < (n : Int) + 70 := by omega
                  go_wp2_with fail
                  go_roundw
                  case rel => exact ⟨q + 1, by omega, by go_num, HU.out⟩
                  case measure => simp [intOf] <;> omega
            · have hqp2 : ¬ (q : Int) < (p : Int) := by omega
              go_wp2
              exact HFin.out _ HU0.out
end Go.Proofs.YtoaaehgnbapibaaDoor.BG
