
/-
  The bag's lists of ints lie apart.
-/
import Derived.Test.YtoaaehgnbapibaaDoorBkh
import Derived.Test.YtoaaehgnbapibaaDoorBt
namespace Go.Proofs.YtoaaehgnbapibaaDoor.BG
open Go.RowKit
attribute [local go_sem ↓] Go.wp_at_zero Go.wp_at_succ

def bnum (q i : Nat) : Int := 1048576 * (q : Int) + (i : Int) + 1
theorem bnum_ (q i : Nat) (hq : q ≤ 1000) (hi : i ≤ 8589934592) (w : World) : Calls Tryd.prog 59 #[.int .i64 q, .int .i64 i] w fun e w' => e = .returned (.int .i64 (bnum q i)) ∧ w' = w := by
  go_enter Tryd.func59, Tryd.ntmps59
  go_wp2
  go_ret
  refine ⟨ret_int ?_, rfl⟩
  unfold bnum
  omega
def mkI (q i : Nat) : List Value := [.int .i64 (bnum q i)]
theorem mkI_len (q i : Nat) : (mkI q i).length = 1 := rfl
theorem infoI : (Tryd.prog.info? 3).map (fun i => (i.zero, i.size, i.bytes)) = some (some (.int .i64 0), 1, 8) := by kernel_rfl
theorem infoR : (Tryd.prog.info? 72).map (fun i => (i.zero, i.size, i.bytes)) = some (some (.slice none 0 0), 1, 24) := by kernel_rfl
theorem set_one (cur : Array Value) (i : Nat) (x : Value) (hi : i < cur.size) : cur.setIfInBounds i x = (cur.toList.take (i * 1) ++ [x] ++ cur.toList.drop (i * 1 + 1)).toArray := by
  apply Array.ext'
  rw [Array.toList_setIfInBounds, Nat.mul_one, List.set_eq_take_append_cons_drop, if_pos (by simpa using hi)]
  simp
theorem newCell (W : World) (x : Value) (t : Nat) : ∀ j u, [x][j]? = some u → (W.alloc (.cells #[x] t)).cell? ((⟨W.heap.size, 0, none⟩ : Addr).add j) = some u := by
  intro j u hj
  cases j with
  | zero => simp at hj; subst hj; simp [Addr.add]
  | succ j => simp at hj
theorem oneSl (a : Option Addr) (n c : Nat) : ∀ u ∈ [Value.slice a n c], u.oneCell' = true := by intro u hu; simp at hu; subst hu; rfl
/- the bag's list of lists -/
def Bag1 (fld tb t1 : Nat) (w : World) (gb : Nat) (a : Option Addr) (K cap : Nat) (L : VL) : Prop := (∃ bc : Array Value, w.heap[gb]? = some (.cells bc tb (0, 0)) ∧ bc[fld]? = some (.slice a K cap)) ∧ K = L.length ∧ (K ≠ 0 → ∃ lb cs, a = some ⟨lb, 0, none⟩ ∧ w.heap[lb]? = some (.cells cs t1 (0, 0)) ∧ ∀ p, p < K → cs[p]? = some (L.getD p dv).1)
theorem Bag1.cells {fld tb t1 e : Nat} {w W : World} {gb : Nat} {a : Option Addr} {K cap : Nat} {L : VL} (h : Bag1 fld tb t1 w gb a K cap L) (x : Exc (Blks L) w W) (hL : ∀ b, Blks L b → ∃ cur, w.heap[b]? = some (.cells cur e (0, 0))) (h1 : e ≠ tb) (h2 : e ≠ t1) : W.cell? ⟨gb, fld, none⟩ = some (.slice a K cap) ∧ (K ≠ 0 → ∃ lb, a = some ⟨lb, 0, none⟩ ∧ ∀ p, p < K → W.cell? ⟨lb, p, none⟩ = some (L.getD p dv).1) := by
  obtain ⟨⟨bc, h3, h4⟩, -, h6⟩ := h
  have nb : ∀ (b : Nat) (c : Array Value) (t : Nat), w.heap[b]? = some (.cells c t (0, 0)) → e ≠ t → W.heap[b]? = some (.cells c t (0, 0)) := fun b c t hb ht => x.heap hb (fun hc => by
    obtain ⟨cur, h7⟩ := hL b hc
    rw [hb] at h7
    cases h7
    exact ht rfl)
  refine ⟨by simp [World.cell?, nb gb bc tb h3 h1, h4], fun hK => ?_⟩
  obtain ⟨lb, cs, ha, h7, h8⟩ := h6 hK
  exact ⟨lb, ha, fun p hp => by simp [World.cell?, nb lb cs t1 h7 h2, h8 p hp]⟩
theorem Rows1.ty {mk : Nat → Nat → List Value} {base e s : Nat} {W : World} {L : VL} {i : Nat} (h : Rows1 mk base e s W L i) : ∀ b, Blks L b → ∃ cur, W.heap[b]? = some (.cells cur e (0, 0)) := fun b ⟨p, hp, hb⟩ => by
  obtain ⟨xs, h1, -⟩ := h p hp
  exact own_ty h1 hb
set_option maxRecDepth 100000 in
set_option maxHeartbeats 8000000 in
theorem apartI_ (gb : Nat) (a : Option Addr) (K cap base : Nat) (L : VL) (w : World) (hbag : Bag1 1 61 72 w gb a K cap L) (hK : K ≤ 400) (h1 : Rows1 mkI base 3 1 w L 0) (hd : Apart L) (hn : ∀ p, p < K → (L.getD p dv).2 ≤ 4294967296) (hbs : base ≤ w.heap.size) :
    Calls Tryd.prog 39 #[.pointer (some ⟨gb, 0, none⟩)] w fun e w' => e = .returned (.bool true) ∧ Exc (Blks L) w w' := by
  obtain ⟨iT, hiT, z0, z1, z2⟩ := info_parts infoI
  obtain ⟨iS, hiS, y0, y1, y2⟩ := info_parts infoR
  obtain ⟨Post, hPost⟩ : ∃ P : Ending → World → Prop, P = fun e w' => e = .returned (.bool true) ∧ Exc (Blks L) w w' := ⟨_, rfl⟩
  rw [← hPost]
  have HPost : Hid (Post = fun e w' => e = .returned (.bool true) ∧ Exc (Blks L) w w') := hPost
  have HKL : Hid (K = L.length) := hbag.2.1
  have HCe : Hid (∀ W, Exc (Blks L) w W → W.cell? ⟨gb, 1, none⟩ = some (.slice a K cap) ∧ (K ≠ 0 → ∃ lb, a = some ⟨lb, 0, none⟩ ∧ ∀ p, p < K → W.cell? ⟨lb, p, none⟩ = some (L.getD p dv).1)) := fun W x => hbag.cells x h1.ty (by decide) (by decide)
  have HD : Hid (Apart L) := hd
  have HN : Hid (∀ p, p < K → (L.getD p dv).2 ≤ 4294967296) := hn
  have H1 : Hid (Rows1 mkI base 3 1 w L 0) := h1
  have HBs : Hid (base ≤ w.heap.size) := hbs
  have HS : Hid (∀ p g, p < K → (L.getD p dv).1.ownBlock = some g → Blks L g) := fun p g hp hg => ⟨p, by rw [← HKL.out]; exact hp, hg⟩
  clear hPost hbag h1 hd hn hbs
  go_enter Tryd.func39, Tryd.ntmps39
  go_wp2_with fail
  go_loopw [3, 4] (fun s3 s4 W => ∃ p : Nat, p ≤ K ∧ s3 = .int .i64 p ∧ Rows1 mkI base 3 1 W L p ∧ Exc (Blks L) w W) (fun s3 _ _ => K - (intOf s3).toNat)
  case atStart => exact ⟨0, Nat.zero_le _, rfl, H1.out, Exc.refl _ _⟩
  case round =>
    obtain ⟨p, hp, rfl, hr, hx⟩ := hrel
    have HR : Hid (Rows1 mkI base 3 1 wr L p) := hr
    have HX : Hid (Exc (Blks L) w wr) := hx
    obtain ⟨q0, q1⟩ := HCe.out wr hx
    clear hr hx
    by_cases hlt : p < K
    · have hlt2 : (p : Int) < (K : Int) := by omega
      obtain ⟨lb, rfl, qc⟩ := q1 (by omega)
      obtain ⟨xs0, ho0, -⟩ := HR.out p (by rw [← HKL.out]; exact hlt)
      obtain ⟨xa, xk, hv⟩ := row_val ho0
      obtain ⟨n, hnn⟩ : ∃ n, n = (L.getD p dv).2 := ⟨_, rfl⟩
      have hnb : n ≤ 4294967296 := by rw [hnn]; exact HN.out p hlt
      rw [← hnn] at hv
      have HV : Hid ((L.getD p dv).1 = .slice xa n xk ∧ n = (L.getD p dv).2) := ⟨hv, hnn⟩
      have HLc : Hid (∀ W, Exc (Blks L) w W → W.cell? ⟨gb, 1, none⟩ = some (.slice (some ⟨lb, 0, none⟩) K cap) ∧ W.cell? ⟨lb, p, none⟩ = some (.slice xa n xk)) := fun W x => by
        obtain ⟨c0, c1⟩ := HCe.out W x
        obtain ⟨lb', e, c2⟩ := c1 (by omega)
        cases e
        exact ⟨c0, by rw [c2 p hlt, hv]⟩
      clear q1 qc ho0 hv hnn
      go_wp2_with fail
      go_loopw [4] (fun s4 W => ∃ i : Nat, i ≤ n ∧ s4 = .int .i64 i ∧ Row2 mkI base 3 1 W L p i ∧ Exc (Blks L) w W) (fun s4 _ => n - (intOf s4).toNat)
      case atStart => exact ⟨0, Nat.zero_le _, rfl, HR.out.start, HX.out⟩
      case round =>
        clear HR HX q0
        obtain ⟨i, hi, rfl, hr, hx⟩ := hrel
        have HR : Hid (Row2 mkI base 3 1 wr L p i) := hr
        have HX : Hid (Exc (Blks L) w wr) := hx
        obtain ⟨q0, q1⟩ := HLc.out wr hx
        clear hr hx
        by_cases hlt3 : i < n
        · have hlt4 : (i : Int) < (n : Int) := by omega
          obtain ⟨xs, ho, -, -⟩ := HR.out p (by rw [← HKL.out]; exact hlt)
          rw [HV.out.1, ← HV.out.2] at ho
          obtain ⟨g, cur, rfl, hgc, hil⟩ : ∃ g cur, xa = some ⟨g, 0, none⟩ ∧ wr.heap[g]? = some (.cells cur 3 (0, 0)) ∧ i < cur.size := by
            rcases ho.2 with ⟨e, -⟩ | ⟨g, c, cur, e, _, b3, b4, _, b6, _⟩
            · cases e; omega
            · cases e; exact ⟨g, cur, rfl, b3, by omega⟩
          have c1 : wr.cell? ⟨g, i, none⟩ = some cur[i] := by simp [World.cell?, hgc]
          have c2 : wr.frozen? ⟨g, i, none⟩ = false := seven_f hgc i
          have HPut : Hid (∀ nq, Row2 mkI base 3 1 ((wr.drewN nq).setCell ⟨g, i, none⟩ (.int .i64 (bnum p i))) L p (i + 1) ∧ Exc (Blks L) w ((wr.drewN nq).setCell ⟨g, i, none⟩ (.int .i64 (bnum p i)))) := fun nq => by
            have ob : (L.getD p dv).1.ownBlock = some g := by rw [HV.out.1]; rfl
            refine ⟨Row2.put mkI_len (cur := cur) (g := g) HR.out (by rw [← HKL.out]; exact hlt) (by rw [← HV.out.2]; exact hlt3) HD.out ob hgc ?_ (fun b hb => ?_), Exc.set (Exc.up HX.out ((Up.refl _).drewN nq)) g i _ (.inl (HS.out p g hlt ob))⟩
            · have h := set_cells (W := wr.drewN nq) (j := i) (x := .int .i64 (bnum p i)) (show (wr.drewN nq).heap[g]? = _ from hgc)
              rw [h, set_one cur i _ hil]
              rfl
            · exact Below.heap_setCell _ _ _ _ hb
          have HNm : Hid _ := bnum_ p i (by omega) (by omega)
          clear ho HR HX hgc
          generalize cur[i] = old at c1
          generalize bnum p i = z at HPut HNm
          go_wp2_with fail
          refine TailR.wp_region_seq 12 (by kernel_rfl) (by kernel_rfl) ?_
          simp only [List.take_succ_cons, List.take_zero, List.drop_succ_cons, List.drop_zero]
          repeat (go_big_quiet_step (exact Calls.quiet_of_same (HNm.out _)))
          refine wpQuiet_nil ?_
          intro _ hw'
          obtain ⟨nq, hw''⟩ := hw'
          subst hw''
          go_wp2_with fail
          go_roundw
          case rel => exact ⟨i + 1, by omega, by go_num, (HPut.out nq).1, (HPut.out nq).2⟩
          case measure => simp [intOf] <;> omega
        · have hlt4 : ¬ (i : Int) < (n : Int) := by omega
          have hin : i = n := by omega
          subst hin
          have HR2 : Hid (Rows1 mkI base 3 1 wr L (p + 1)) := by
            have := HR.out
            rw [HV.out.2] at this
            exact this.finish
          go_wp2_with fail
          go_roundw
          case rel => exact ⟨p + 1, by omega, by go_num, HR2.out, HX.out⟩
          case measure => simp [intOf] <;> omega
    · have hlt2 : ¬ (p : Int) < (K : Int) := by omega
      have hpK : p = L.length := by rw [← HKL.out]; omega
      have HPh : Hid (Ph mkI base w.heap.size 3 72 1 wr L 0 (.slice none 0 0) (.slice none 0 0) [] []) := by
        have h := HR.out
        rw [hpK] at h
        exact Ph.start h HX.out.2.1 (Nat.le_trans HBs.out HX.out.2.1)
      clear HR hpK q1
      go_wp2_with fail
      clear q0
      go_loopw [5, 6, 7, 8, 9] (fun s5 s6 s7 s8 s9 W => ∃ (p : Nat) (oa ma : Option Addr) (ok mk9 : Nat) (os ms : List Value), p ≤ K ∧ s7 = .int .i64 p ∧ s5 = .slice oa p ok ∧ s6 = .slice ma p mk9 ∧ Ph mkI base w.heap.size 3 72 1 W L p (.slice oa p ok) (.slice ma p mk9) os ms ∧ Exc (Blks L) w W) (fun _ _ s7 _ _ _ => K - (intOf s7).toNat)
      case atStart => exact ⟨0, none, none, 0, 0, [], [], Nat.zero_le _, rfl, rfl, rfl, HPh.out, HX.out⟩
      case round =>
        clear HPh HX hlt2 hlt hp
        obtain ⟨p, oa, ma, ok, mk9, os, ms, hp, rfl, rfl, rfl, hph, hx⟩ := hrel
        have HPh : Hid (Ph mkI base w.heap.size 3 72 1 wr L p (.slice oa p ok) (.slice ma p mk9) os ms) := hph
        have HX : Hid (Exc (Blks L) w wr) := hx
        obtain ⟨q0, q1⟩ := HCe.out wr hx
        clear hph hx
        by_cases hlt : p < K
        · have hlt2 : (p : Int) < (K : Int) := by omega
          have hpL : p < L.length := by rw [← HKL.out]; exact hlt
          obtain ⟨lb, rfl, qc⟩ := q1 (by omega)
          obtain ⟨xa, xk, hv⟩ := row_val (HPh.out.A p (Nat.le_refl _) hpL)
          obtain ⟨n, hnn⟩ : ∃ n, n = (L.getD p dv).2 := ⟨_, rfl⟩
          have hnb : n ≤ 4294967296 := by rw [hnn]; exact HN.out p hlt
          rw [← hnn] at hv
          have HV : Hid ((L.getD p dv).1 = .slice xa n xk ∧ n = (L.getD p dv).2) := ⟨hv, hnn⟩
          have HLc : Hid (∀ W, Exc (Blks L) w W → W.cell? ⟨gb, 1, none⟩ = some (.slice (some ⟨lb, 0, none⟩) K cap) ∧ W.cell? ⟨lb, p, none⟩ = some (.slice xa n xk)) := fun W x => by
            obtain ⟨c0, c1⟩ := HCe.out W x
            obtain ⟨lb', e, c2⟩ := c1 (by omega)
            cases e
            exact ⟨c0, by rw [c2 p hlt, hv]⟩
          have HI0 : Hid (In mkI base w.heap.size 3 72 1 wr L p (.slice oa p ok) (.slice ma p mk9) os ms (.slice xa n xk) n p) := by
            have h := Ph.inn mkI_len HPh.out hpL HD.out
            rw [hv, ← hnn] at h
            exact h
          have HBk : Hid (∀ b, Blks L b → b < w.heap.size ∨ True) := fun _ _ => .inr trivial
          obtain ⟨qc1, qc2⟩ := HLc.out wr HX.out
          clear q0 q1 qc hv hnn HPh HBk
          go_wp2_with fail
          go_loopw [5, 8, 9] (fun s5 s8 s9 W => ∃ (i k : Nat) (la oa : Option Addr) (lk ok : Nat) (os : List Value), n ≤ i ∧ i ≤ n + 70 ∧ s9 = .int .i64 i ∧ s8 = .slice la i lk ∧ s5 = .slice oa k ok ∧ In mkI base w.heap.size 3 72 1 W L p (.slice oa k ok) (.slice ma p mk9) os ms (.slice la i lk) i k ∧ Exc (Blks L) w W ∧ (n < i → k = p + 1) ∧ (i = n → k = p) ∧ (∀ b, (Value.slice la i lk).ownBlock = some b → Blks L b ∨ w.heap.size ≤ b)) (fun _ _ s9 _ => n + 70 - (intOf s9).toNat)
          case atStart => exact ⟨n, p, xa, oa, xk, ok, os, Nat.le_refl _, by omega, rfl, rfl, rfl, HI0.out, HX.out, fun h => by omega, fun _ => rfl, fun b hb => .inl (HS.out p b hlt (by rw [HV.out.1]; exact hb))⟩
          case round =>
            clear HI0 HX qc1 qc2
            obtain ⟨i, k, la, oa, lk, ok, os, hi1, hi2, rfl, rfl, rfl, hin, hx, hk1, hk2, hsep⟩ := hrel
            have HI : Hid (In mkI base w.heap.size 3 72 1 wr L p (.slice oa k ok) (.slice ma p mk9) os ms (.slice la i lk) i k) := hin
            have HX : Hid (Exc (Blks L) w wr) := hx
            have HSp : Hid (∀ b, (Value.slice la i lk).ownBlock = some b → Blks L b ∨ w.heap.size ≤ b) := hsep
            have HK1 : Hid ((n < i → k = p + 1) ∧ (i = n → k = p)) := ⟨hk1, hk2⟩
            obtain ⟨qc1, qc2⟩ := HLc.out wr hx
            clear hin hx hsep hk1 hk2
            by_cases hlt3 : i < n + 70
            · have hlt4 : (i : Int) < (n : Int) + 70 := by omega
              have HNm : Hid (∀ W, Calls Tryd.prog 59 #[.int .i64 p, .int .i64 i] W fun e w' => e = .returned (.int .i64 (bnum p i)) ∧ w' = W) := bnum_ p i (by omega) (by omega)
              have HIa : Hid (In mkI base w.heap.size 3 72 1 (wr.alloc (.cells #[.int .i64 (bnum p i)] 3)) L p (.slice oa k ok) (.slice ma p mk9) os ms (.slice la i lk) i k) := HI.out.up ((Up.refl _).alloc _)
              have HXa : Hid (Exc (Blks L) w (wr.alloc (.cells #[.int .i64 (bnum p i)] 3))) := HX.out.up ((Up.refl _).alloc _)
              have HG : Hid (∀ v5 w5, w5.ownsRow base 3 1 v5 (i + 1) (mks mkI p i ++ [.int .i64 (bnum p i)]) → (wr.alloc (.cells #[.int .i64 (bnum p i)] 3)).grownBy w5 (Value.slice la i lk).ownBlock → KeptS (.slice la i lk) (i * 1) (wr.alloc (.cells #[.int .i64 (bnum p i)] 3)) w5 → LiesNew (.slice la i lk) v5 (wr.alloc (.cells #[.int .i64 (bnum p i)] 3)) → TyK (wr.alloc (.cells #[.int .i64 (bnum p i)] 3)) w5 → In mkI base w.heap.size 3 72 1 w5 L p (.slice oa k ok) (.slice ma p mk9) os ms v5 (i + 1) k ∧ Exc (Blks L) w w5 ∧ ∀ b, v5.ownBlock = some b → Blks L b ∨ w.heap.size ≤ b) := fun v5 w5 a1 a2 a3 a4 a5 => by
                refine ⟨In.grow mkI_len HIa.out (fun h => HK1.out.1 (by rw [HV.out.2]; omega)) (by decide) (by rw [mks_more]; exact a1) a2 a3 a4 a5, HXa.out.grown a2 HSp.out, fun b hb => ?_⟩
                rcases a4 with a4 | ⟨g, a4, a6⟩
                · rw [a4] at hb; exact HSp.out b hb
                · rw [a4] at hb
                  have : g = b := by simpa using hb
                  subst this
                  exact .inr (Nat.le_trans HXa.out.2.1 a6)
              have HNw : Hid (∀ j u, [Value.int .i64 (bnum p i)][j]? = some u → (wr.alloc (.cells #[.int .i64 (bnum p i)] 3)).cell? ((⟨wr.heap.size, 0, none⟩ : Addr).add j) = some u) := by
                intro j u hj
                cases j with
                | zero => simp at hj; subst hj; simp [Addr.add]
                | succ j => simp at hj
              clear HX HI
              generalize bnum p i = z at HNm HIa HXa HG HNw
              go_wp2_with fail
              refine Calls.mono (HNm.out _) ?_
              rintro e w1 ⟨rfl, hw1⟩
              obtain rfl := hw1.symm
              have HOn : Hid (∀ u ∈ [Value.int .i64 z], u.oneCell' = true) := by intro u hu; simp at hu; subst hu; rfl
              have hpk : k ≤ 1000 := by
                rcases Nat.lt_or_ge n i with h | h
                · have := HK1.out.1 h; omega
                · have := HK1.out.2 (by omega); omega
              by_cases hin : i = n
              · have hkp : k = p := HK1.out.2 hin
                have hnn2 : n = (L.getD p dv).2 := HV.out.2
                have HKp : Hid (∀ (xa5 : Option Addr) (xk5 : Nat) (w5 : World) (v7 : Value) (w7 : World), In mkI base w.heap.size 3 72 1 (w5.alloc (.cells #[.slice xa5 (i + 1) xk5] 72)) L p (.slice oa k ok) (.slice ma p mk9) os ms (.slice xa5 (i + 1) xk5) (i + 1) k → Exc (Blks L) w w5 → w7.ownsRow w.heap.size 72 1 v7 (k + 1) (os ++ [.slice xa5 (i + 1) xk5]) → (w5.alloc (.cells #[.slice xa5 (i + 1) xk5] 72)).grownBy w7 (Value.slice oa k ok).ownBlock → LiesNew (.slice oa k ok) v7 (w5.alloc (.cells #[.slice xa5 (i + 1) xk5] 72)) → In mkI base w.heap.size 3 72 1 w7 L p v7 (.slice ma p mk9) (os ++ [.slice xa5 (i + 1) xk5]) ms (.slice xa5 (i + 1) xk5) (i + 1) (k + 1) ∧ Exc (Blks L) w w7) := fun xa5 xk5 w5 v7 w7 h hx a1 a2 a4 => by
                  rw [hkp] at h a1 a2 a4 ⊢
                  refine ⟨In.keep mkI_len h (by rw [hin, hnn2]) (by decide) a1 a2 a4, Exc.grown (hx.up ((Up.refl _).alloc _)) a2 (fun c hc => .inr ?_)⟩
                  rcases h.C.1.2 with ⟨e0, -⟩ | ⟨g', cap', cur', e0, b2, _⟩
                  · rw [e0] at hc; cases hc
                  · rw [e0] at hc
                    have : g' = c := by simpa [Value.ownBlock] using hc
                    subst this
                    exact b2
                have hbe : ((i : Int) == (n : Int)) = true := by rw [beq_iff_eq]; omega
                clear hin hnn2
                have HKk : Hid (k = p) := hkp
                clear hkp
                go_wp2_with (at_builtin; first | (refine wpList_append_apart _ (by rfl) (.tmp 78) (.tmp 82) 72 (by rfl) base 3 iT (.int .i64 0) 1 8 Tryd.underlying72 hiT z0 z1 z2 (by rfl) (by decide) (.slice la i lk) i (mks mkI p i) (by rfl) HIa.out.R ⟨wr.heap.size, 0, none⟩ 1 [.int .i64 z] (by rfl) (by rfl) HNw.out HOn.out (by unfold maxLen; omega) (by omega) HIa.out.Z.2 ?_; intro v5 w5 a1 a2 a3 a4 a5; have HI5 : Hid _ := HG.out v5 w5 a1 a2 a3 a4 a5; obtain ⟨xa5, xk5, hx5⟩ := row_val a1; subst hx5; clear a1 a2 a3 a4 a5 qc1 qc2; obtain ⟨qc1, qc2⟩ := HLc.out w5 HI5.out.2.1; have HI6 : Hid (In mkI base w.heap.size 3 72 1 (w5.alloc (.cells #[.slice xa5 (i + 1) xk5] 72)) L p (.slice oa k ok) (.slice ma p mk9) os ms (.slice xa5 (i + 1) xk5) (i + 1) k) := (In.up HI5.out.1 ((Up.refl _).alloc _)); have HNw2 : Hid _ := newCell w5 (.slice xa5 (i + 1) xk5) 72) | (refine wpList_append_apart _ (by rfl) (.tmp 94) (.tmp 96) 40 (by rfl) w.heap.size 72 iS (.slice none 0 0) 1 24 Tryd.underlying40 hiS y0 y1 y2 (by rfl) (by decide) (.slice oa k ok) k os (by rfl) HI6.out.C.1 ⟨w5.heap.size, 0, none⟩ 1 [.slice xa5 (i + 1) xk5] (by rfl) (by rfl) HNw2.out (oneSl _ _ _) (by unfold maxLen; omega) (by omega) HI6.out.Z.1 ?_; intro v7 w7 a1 a2 a3 a4 a5; have HI7 : Hid _ := HKp.out _ _ _ v7 w7 HI6.out HI5.out.2.1 a1 a2 a4; obtain ⟨xa7, xk7, hx7⟩ := row_val a1; subst hx7; clear a1 a2 a3 a4 a5))
                go_roundw
                case rel => exact ⟨i + 1, k + 1, xa5, xa7, xk5, xk7, _, by omega, by omega, by go_num, rfl, rfl, HI7.out.1, HI7.out.2, fun _ => by rw [HKk.out], fun h => by omega, HI5.out.2.2⟩
                case measure => simp [intOf] <;> omega
              · have hbe : ((i : Int) == (n : Int)) = false := beq_eq_false_iff_ne.2 (by omega)
                have HKk : Hid (k = p + 1) := HK1.out.1 (by omega)
                go_wp2_with (at_builtin; (refine wpList_append_apart _ (by rfl) (.tmp 78) (.tmp 82) 72 (by rfl) base 3 iT (.int .i64 0) 1 8 Tryd.underlying72 hiT z0 z1 z2 (by rfl) (by decide) (.slice la i lk) i (mks mkI p i) (by rfl) HIa.out.R ⟨wr.heap.size, 0, none⟩ 1 [.int .i64 z] (by rfl) (by rfl) HNw.out HOn.out (by unfold maxLen; omega) (by omega) HIa.out.Z.2 ?_; intro v5 w5 a1 a2 a3 a4 a5; have HI5 : Hid _ := HG.out v5 w5 a1 a2 a3 a4 a5; obtain ⟨xa5, xk5, hx5⟩ := row_val a1; subst hx5; clear a1 a2 a3 a4 a5 qc1 qc2; obtain ⟨qc1, qc2⟩ := HLc.out w5 HI5.out.2.1))
                go_roundw
                case rel => exact ⟨i + 1, k, xa5, oa, xk5, ok, os, by omega, by omega, by go_num, rfl, rfl, HI5.out.1, HI5.out.2.1, fun _ => HKk.out, fun h => by omega, HI5.out.2.2⟩
                case measure => simp [intOf] <;> omega
            · have hlt4 : ¬ (i : Int) < (n : Int) + 70 := by omega
              have HKk : Hid (k = p + 1) := HK1.out.1 (by omega)
              have hin : i = n + 70 := by omega
              have HI6 : Hid (In mkI base w.heap.size 3 72 1 (wr.alloc (.cells #[.slice la i lk] 72)) L p (.slice oa k ok) (.slice ma p mk9) os ms (.slice la i lk) i k) := HI.out.up ((Up.refl _).alloc _)
              have HNw2 : Hid _ := newCell wr (.slice la i lk) 72
              have HDn : Hid (∀ (v7 : Value) (w7 : World), w7.ownsRow w.heap.size 72 1 v7 (p + 1) (ms ++ [.slice la i lk]) → (wr.alloc (.cells #[.slice la i lk] 72)).grownBy w7 (Value.slice ma p mk9).ownBlock → LiesNew (.slice ma p mk9) v7 (wr.alloc (.cells #[.slice la i lk] 72)) → Ph mkI base w.heap.size 3 72 1 w7 L (p + 1) (.slice oa (p + 1) ok) v7 os (ms ++ [.slice la i lk]) ∧ Exc (Blks L) w w7) := fun v7 w7 a1 a2 a4 => by
                have h := HI6.out
                rw [HKk.out] at h
                refine ⟨In.done mkI_len h (by rw [hin, HV.out.2]) (by decide) a1 a2 a4, Exc.grown (HX.out.up ((Up.refl _).alloc _)) a2 (fun c hc => .inr ?_)⟩
                rcases h.D.1.2 with ⟨e0, -⟩ | ⟨g', cap', cur', e0, b2, _⟩
                · rw [e0] at hc; cases hc
                · rw [e0] at hc
                  have : g' = c := by simpa [Value.ownBlock] using hc
                  subst this
                  exact b2
              clear hin HX HI
              go_wp2_with (at_builtin; (refine wpList_append_apart _ (by rfl) (.tmp 98) (.tmp 100) 40 (by rfl) w.heap.size 72 iS (.slice none 0 0) 1 24 Tryd.underlying40 hiS y0 y1 y2 (by rfl) (by decide) (.slice ma p mk9) p ms (by rfl) HI6.out.D.1 ⟨wr.heap.size, 0, none⟩ 1 [.slice la i lk] (by rfl) (by rfl) HNw2.out (oneSl _ _ _) (by unfold maxLen; omega) (by omega) HI6.out.Z.1 ?_; intro v7 w7 a1 a2 a3 a4 a5; have HI7 : Hid _ := HDn.out v7 w7 a1 a2 a4; obtain ⟨xa7, xk7, hx7⟩ := row_val a1; subst hx7; clear a1 a2 a3 a4 a5))
              go_roundw
              case rel => exact ⟨p + 1, oa, xa7, ok, xk7, os, _, by omega, by go_num, by rw [HKk.out], rfl, HI7.out.1, HI7.out.2⟩
              case measure => simp [intOf] <;> omega
        · have hlt2 : ¬ (p : Int) < (K : Int) := by omega
          have hpK : p = K := by omega
          subst hpK
          have HFin : Hid (Post (.returned (.bool true)) wr) := by unfold Hid; rw [HPost.out]; exact ⟨rfl, HX.out⟩
          have HM : Hid (∀ q, q < p → ∃ mb o c, ma = some ⟨mb, 0, none⟩ ∧ wr.cell? ⟨mb, q, none⟩ = some (.slice (some ⟨o, 0, none⟩) ((L.getD q dv).2 + 70) c) ∧ (L.getD q dv).2 + 70 ≤ (L.getD q dv).2 + 70 ∧ ∀ i, i < (L.getD q dv).2 + 70 → wr.cell? ⟨o, i, none⟩ = some (.int .i64 (bnum q i))) := fun q hq => by
            obtain ⟨mb, c0, -, -, e⟩ := row_some HPh.out.D.1 (by omega)
            obtain ⟨o, c, h1, h2⟩ := HPh.out.D.2 q hq
            simp only [Value.slice.injEq] at e
            have hd := HPh.out.D.1
            rw [e.1] at hd
            have hc := World.ownsRow.cellAt hd q (by omega)
            have hl : ms.length = p := by have := HPh.out.D.1.1; omega
            refine ⟨mb, o, c, e.1, ?_, Nat.le_refl _, fun i hi => ?_⟩
            · rw [hc, List.getElem?_eq_getElem (by omega), ← h1, List.getD_eq_getElem?_getD, List.getElem?_eq_getElem (by omega)]
              rfl
            · have := h2.2 i 0 hi (by decide)
              rw [Nat.mul_one, Nat.add_zero] at this
              rw [this]; rfl
          have HO : Hid (∀ q, q < p → ∃ ob o c, oa = some ⟨ob, 0, none⟩ ∧ wr.cell? ⟨ob, q, none⟩ = some (.slice (some ⟨o, 0, none⟩) ((L.getD q dv).2 + 1) c) ∧ wr.cell? ⟨o, (L.getD q dv).2, none⟩ = some (.int .i64 (bnum q (L.getD q dv).2))) := fun q hq => by
            obtain ⟨mb, c0, -, -, e⟩ := row_some HPh.out.C.1 (by omega)
            obtain ⟨o, c, h1, h2⟩ := HPh.out.C.2 q hq
            simp only [Value.slice.injEq] at e
            have hd := HPh.out.C.1
            rw [e.1] at hd
            have hc := World.ownsRow.cellAt hd q (by omega)
            have hl : os.length = p := by have := HPh.out.C.1.1; omega
            refine ⟨mb, o, c, e.1, ?_, ?_⟩
            · rw [hc, List.getElem?_eq_getElem (by omega), ← h1, List.getD_eq_getElem?_getD, List.getElem?_eq_getElem (by omega)]
              rfl
            · have := h2.2 (L.getD q dv).2 0 (by omega) (by decide)
              rw [Nat.mul_one, Nat.add_zero] at this
              rw [this]; rfl
          have HB : Hid (∀ q, q < p → ∃ xa xk, (L.getD q dv).1 = .slice xa (L.getD q dv).2 xk ∧ ∀ i, i < (L.getD q dv).2 → ∃ g, xa = some ⟨g, 0, none⟩ ∧ wr.cell? ⟨g, i, none⟩ = some (.int .i64 (bnum q i))) := fun q hq => by
            obtain ⟨xs, h3, -⟩ := H1.out q (by rw [← HKL.out]; exact hq)
            obtain ⟨xa, xk, hv⟩ := row_val h3
            refine ⟨xa, xk, hv, fun i hi => ?_⟩
            obtain ⟨g, c0, -, -, e⟩ := row_some h3 (by omega)
            have h4 := HPh.out.B q hq g (by rw [e]; rfl)
            have h5 := h4.2 i 0 hi (by decide)
            rw [Nat.mul_one, Nat.add_zero] at h5
            rw [hv] at e
            simp only [Value.slice.injEq] at e
            exact ⟨g, e.1, by rw [h5]; rfl⟩
          clear HPh
          go_wp2_with fail
          go_loopw [10, 11, 12, 13] (fun s10 s11 s12 s13 W => ∃ q : Nat, q ≤ p ∧ s10 = .int .i64 q ∧ W = wr) (fun s10 _ _ _ _ => p - (intOf s10).toNat)
          case atStart => exact ⟨0, Nat.zero_le _, rfl, rfl⟩
          case round =>
            obtain ⟨q, hq, rfl, hwr⟩ := hrel
            obtain rfl := hwr.symm
            by_cases hqp : q < p
            · have hqp2 : (q : Int) < (p : Int) := by omega
              obtain ⟨mb, o, c, rfl, m1, -, m2⟩ := HM.out q hqp
              obtain ⟨ob, o1, c1, rfl, n1, n2⟩ := HO.out q hqp
              obtain ⟨xa, xk, hv, hb⟩ := HB.out q hqp
              obtain ⟨lb, rfl, qc⟩ := q1 (by omega)
              have qv := qc q hqp
              rw [hv] at qv
              have hnb := HN.out q hqp
              have HM2 : Hid _ := m2
              have HB2 : Hid _ := hb
              generalize (L.getD q dv).2 = n at m1 HM2 n1 n2 qv HB2 hnb
              have HNm : Hid (∀ i : Nat, i ≤ 8589934592 → ∀ W, Calls Tryd.prog 59 #[.int .i64 q, .int .i64 i] W fun e w' => e = .returned (.int .i64 (bnum q i)) ∧ w' = W) := fun i hi => bnum_ q i (by omega) hi
              clear m2 hb hv qc
              go_wp2_with fail
              go_loopw [11, 12, 13] (fun s11 s12 s13 W => ∃ i : Nat, i ≤ n + 70 ∧ s11 = .int .i64 i ∧ W = wr) (fun s11 _ _ _ => n + 70 - (intOf s11).toNat)
              case atStart => exact ⟨0, Nat.zero_le _, rfl, rfl⟩
              case round =>
                obtain ⟨i, hi, rfl, hwr⟩ := hrel
                obtain rfl := hwr.symm
                by_cases hi7 : i < n + 70
                · have hi8 : (i : Int) < (n : Int) + 70 := by omega
                  have k1 := HM2.out i hi7
                  have HN2 : Hid _ := HNm.out i (by omega)
                  rcases Nat.lt_trichotomy i n with hin | hin | hin
                  · obtain ⟨g, rfl, k2⟩ := HB2.out i hin
                    have hin2 : (i : Int) < (n : Int) := by omega
                    have hbe : ((i : Int) == (n : Int)) = false := beq_eq_false_iff_ne.2 (by omega)
                    generalize bnum q i = z at k1 k2 HN2
                    go_wp2_with fail
                    refine Calls.mono (HN2.out _) ?_
                    rintro e w1 ⟨rfl, hw1⟩
                    obtain rfl := hw1.symm
                    go_wp2_with fail
                    refine Calls.mono (HN2.out _) ?_
                    rintro e w1 ⟨rfl, hw1⟩
                    obtain rfl := hw1.symm
                    go_wp2_with fail
                    go_roundw
                    case rel => exact ⟨i + 1, by omega, by go_num, by first | rfl | trivial⟩
                    case measure => simp [intOf] <;> omega
                  · subst hin
                    have hin2 : ¬ (i : Int) < (i : Int) := by omega
                    generalize bnum q i = z at k1 n2 HN2
                    go_wp2_with fail
                    refine Calls.mono (HN2.out _) ?_
                    rintro e w1 ⟨rfl, hw1⟩
                    obtain rfl := hw1.symm
                    go_wp2_with fail
                    refine Calls.mono (HN2.out _) ?_
                    rintro e w1 ⟨rfl, hw1⟩
                    obtain rfl := hw1.symm
                    go_wp2_with fail
                    go_roundw
                    case rel => exact ⟨i + 1, by omega, by go_num, by first | rfl | trivial⟩
                    case measure => simp [intOf] <;> omega
                  · have hin2 : ¬ (i : Int) < (n : Int) := by omega
                    have hbe : ((i : Int) == (n : Int)) = false := beq_eq_false_iff_ne.2 (by omega)
                    generalize bnum q i = z at k1 HN2
                    go_wp2_with fail
                    refine Calls.mono (HN2.out _) ?_
                    rintro e w1 ⟨rfl, hw1⟩
                    obtain rfl := hw1.symm
                    go_wp2_with fail
                    refine Calls.mono (HN2.out _) ?_
                    rintro e w1 ⟨rfl, hw1⟩
                    obtain rfl := hw1.symm
                    go_wp2_with fail
                    go_roundw
                    case rel => exact ⟨i + 1, by omega, by go_num, by first | rfl | trivial⟩
                    case measure => simp [intOf] <;> omega
                · have hi8 : ¬ (i : Int) < (n : Int) + 70 := by omega
                  go_wp2_with fail
                  go_roundw
                  case rel => exact ⟨q + 1, by omega, by go_num, by first | rfl | trivial⟩
                  case measure => simp [intOf] <;> omega
            · have hqp2 : ¬ (q : Int) < (p : Int) := by omega
              go_wp2
              exact HFin.out
end Go.Proofs.YtoaaehgnbapibaaDoor.BG
