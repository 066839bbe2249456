/-
  The bag's lists of lists lie apart.
-/
import Derived.Test.YtmpamcdobhiipaaGreatDoorBkmQ
namespace Go.Proofs.YtmpamcdobhiipaaGreatDoor.BG
open Go.RowKit
attribute [local go_sem ↓] Go.wp_at_zero Go.wp_at_succ

theorem infoRR : (Tryz.prog.info? 27).map (fun i => (i.zero, i.size, i.bytes)) = some (some (.slice none 0 0), 1, 24) := by kernel_rfl
set_option maxRecDepth 100000 in
set_option maxHeartbeats 8000000 in
theorem apartR_ (gb : Nat) (a : Option Addr) (K cap base : Nat) (L : VL) (w : World) (hbag : Bag1 12 59 27 w gb a K cap L) (hK : K ≤ 400) (h1 : ∀ mm, Rows1 mm base 84 1 w L 0) (hd : Apart L) (hn : ∀ p, p < K → (L.getD p dv).2 ≤ 4294967296) (hbs : base ≤ w.heap.size) :
    Calls Tryz.prog 38 #[.pointer (some ⟨gb, 0, none⟩)] w fun e w' => e = .returned (.bool true) ∧ Exc (Blks L) w w' := by
  obtain ⟨iT, hiT, z0, z1, z2⟩ := info_parts infoR
  obtain ⟨iS, hiS, y0, y1, y2⟩ := info_parts infoRR
  obtain ⟨Post, hPost⟩ : ∃ P : Ending → World → Prop, P = fun e w' => e = .returned (.bool true) ∧ Exc (Blks L) w w' := ⟨_, rfl⟩
  rw [← hPost]
  have HPost : Hid (Post = fun e w' => e = .returned (.bool true) ∧ Exc (Blks L) w w') := hPost
  have HKL : Hid (K = L.length) := hbag.2.1
  have HCe : Hid (∀ W, Exc (Blks L) w W → W.cell? ⟨gb, 12, none⟩ = some (.slice a K cap) ∧ (K ≠ 0 → ∃ lb, a = some ⟨lb, 0, none⟩ ∧ ∀ p, p < K → W.cell? ⟨lb, p, none⟩ = some (L.getD p dv).1)) := fun W x => hbag.cells x (h1 (fun _ _ => [])).ty (by decide) (by decide)
  have HD : Hid (Apart L) := hd
  have HN : Hid (∀ p, p < K → (L.getD p dv).2 ≤ 4294967296) := hn
  have H1 : Hid (∀ mm, Rows1 mm base 84 1 w L 0) := h1
  have HBs : Hid (base ≤ w.heap.size) := hbs
  have HS : Hid (∀ p g, p < K → (L.getD p dv).1.ownBlock = some g → Blks L g) := fun p g hp hg => ⟨p, by rw [← HKL.out]; exact hp, hg⟩
  clear hPost hbag h1 hd hn hbs
  go_enter Tryz.func38, Tryz.ntmps38
  go_wp2_with fail
  go_loopw [3, 4] (fun s3 s4 W => ∃ (p : Nat) (mm : Nat → Nat → List Value), p ≤ K ∧ s3 = .int .i64 p ∧ (∀ q i, (mm q i).length = 1) ∧ MkOk 3 mm (S1 L p 0) W ∧ Rows1 mm base 84 1 W L p ∧ Exc (Blks L) w W) (fun s3 _ _ => K - (intOf s3).toNat)
  case atStart => exact ⟨0, fun _ _ => [.slice none 0 0], Nat.zero_le _, rfl, fun _ _ => rfl, fun q x h => by unfold S1 at h; omega, H1.out _, Exc.refl _ _⟩
  case round =>
    obtain ⟨p, mm, hp, rfl, hml, hmo, hr, hx⟩ := hrel
    have HML : Hid (∀ q i, (mm q i).length = 1) := hml
    have HMO : Hid (MkOk 3 mm (S1 L p 0) wr) := hmo
    have HR : Hid (Rows1 mm base 84 1 wr L p) := hr
    clear hml hmo
    have HX : Hid (Exc (Blks L) w wr) := hx
    obtain ⟨q0, q1⟩ := HCe.out wr hx
    clear hr hx
    by_cases hlt : p < K
    · have hlt2 : (p : Int) < (K : Int) := by omega
      obtain ⟨lb, rfl, qc⟩ := q1 (by omega)
      obtain ⟨xs0, ho0, -⟩ := HR.out p (by rw [← HKL.out]; exact hlt)
      obtain ⟨xa, xk, hv⟩ := row_val ho0
      obtain ⟨n, hnn⟩ : ∃ n, n = (L.getD p dv).2 := ⟨_, rfl⟩
      have hnb : n ≤ 4294967296 := by rw [hnn]; exact HN.out p hlt
      rw [← hnn] at hv
      have HV : Hid ((L.getD p dv).1 = .slice xa n xk ∧ n = (L.getD p dv).2) := ⟨hv, hnn⟩
      have HLc : Hid (∀ W, Exc (Blks L) w W → W.cell? ⟨gb, 12, none⟩ = some (.slice (some ⟨lb, 0, none⟩) K cap) ∧ W.cell? ⟨lb, p, none⟩ = some (.slice xa n xk)) := fun W x => by
        obtain ⟨c0, c1⟩ := HCe.out W x
        obtain ⟨lb', e, c2⟩ := c1 (by omega)
        cases e
        exact ⟨c0, by rw [c2 p hlt, hv]⟩
      clear q1 qc ho0 hv hnn
      go_wp2_with fail
      go_loopw [4] (fun s4 W => ∃ (i : Nat) (mm : Nat → Nat → List Value), i ≤ n ∧ s4 = .int .i64 i ∧ (∀ q i, (mm q i).length = 1) ∧ MkOk 3 mm (S1 L p i) W ∧ Row2 mm base 84 1 W L p i ∧ Exc (Blks L) w W) (fun s4 _ => n - (intOf s4).toNat)
      case atStart => exact ⟨0, mm, Nat.zero_le _, rfl, HML.out, HMO.out, HR.out.start, HX.out⟩
      case round =>
        clear HR HX q0 HML HMO mm
        obtain ⟨i, mm, hi, rfl, hml, hmo, hr, hx⟩ := hrel
        have HML : Hid (∀ q i, (mm q i).length = 1) := hml
        have HMO : Hid (MkOk 3 mm (S1 L p i) wr) := hmo
        clear hml hmo
        have HR : Hid (Row2 mm base 84 1 wr L p i) := hr
        have HX : Hid (Exc (Blks L) w wr) := hx
        obtain ⟨q0, q1⟩ := HLc.out wr hx
        clear hr hx
        by_cases hlt3 : i < n
        · have hlt4 : (i : Int) < (n : Int) := by omega
          obtain ⟨xs, ho, -, -⟩ := HR.out p (by rw [← HKL.out]; exact hlt)
          rw [HV.out.1, ← HV.out.2] at ho
          obtain ⟨g, cur, rfl, hgc, hil⟩ : ∃ g cur, xa = some ⟨g, 0, none⟩ ∧ wr.heap[g]? = some (.cells cur 84 (0, 0)) ∧ i < cur.size := by
            rcases ho.2 with ⟨e, -⟩ | ⟨g, c, cur, e, _, b3, b4, _, b6, _⟩
            · cases e; omega
            · cases e; exact ⟨g, cur, rfl, b3, by omega⟩
          have HCf : Hid (∀ W, Up wr W → W.cell? ⟨g, i, none⟩ = some cur[i] ∧ W.frozen? ⟨g, i, none⟩ = false) := fun W u => by
            have h := u.heap hgc
            exact ⟨by simp [World.cell?, h], seven_f h i⟩
          have hgl : g < wr.heap.size := (Array.getElem?_eq_some_iff.1 hgc).1
          have HPut : Hid (∀ (g9 : Nat) W, Up wr W → W.heap[g9]? = some (.cells #[.int .i64 (bnum p i)] 3 (0, 0)) → ∃ mm' : Nat → Nat → List Value, (∀ q i, (mm' q i).length = 1) ∧ MkOk 3 mm' (S1 L p (i + 1)) (W.setCell ⟨g, i, none⟩ (.slice (some ⟨g9, 0, none⟩) 1 1)) ∧ Row2 mm' base 84 1 (W.setCell ⟨g, i, none⟩ (.slice (some ⟨g9, 0, none⟩) 1 1)) L p (i + 1) ∧ Exc (Blks L) w (W.setCell ⟨g, i, none⟩ (.slice (some ⟨g9, 0, none⟩) 1 1))) := fun g9 W u h9 => by
            have ob : (L.getD p dv).1.ownBlock = some g := by rw [HV.out.1]; rfl
            have hgW := u.heap hgc
            refine ⟨mkU mm p i (.slice (some ⟨g9, 0, none⟩) 1 1), mkU_len HML.out _ _ _, MkOk.put (HMO.out.keep (fun g' cs h => keep_set hgW (by decide) g' cs (u.heap h)) (fun _ _ h => h)) (keep_set hgW (by decide) g9 _ h9) (fun _ _ h => s1_next h), Row2.put (mkU_len HML.out _ _ _) (cur := cur) (g := g) (W := W) (fun q hq => ?_) (by rw [← HKL.out]; exact hlt) (by rw [← HV.out.2]; exact hlt3) HD.out ob hgW ?_ (fun b hb => Below.heap_setCell _ _ _ _ hb), Exc.set (Exc.up HX.out u) g i _ (.inl (HS.out p g hlt ob))⟩
            · obtain ⟨xs, h1, h2, h3⟩ := (HR.out.chg (.slice (some ⟨g9, 0, none⟩) 1 1)) q hq
              exact ⟨xs, row_up h1 u, h2, h3⟩
            · rw [set_cells hgW, set_one cur i _ hil, mkU_self]
          have HNm : Hid (∀ W, Calls Tryz.prog 57 #[.int .i64 p, .int .i64 i] W fun e w' => e = .returned (.int .i64 (bnum p i)) ∧ w' = W) := bnum_ p i (by omega) (by omega)
          clear ho HR HX hgc HML HMO
          generalize cur[i] = old at HCf
          generalize bnum p i = z at HPut HNm
          obtain ⟨c1, c2⟩ := HCf.out wr (Up.refl _)
          have c3 : ∀ o, (wr.drew.alloc o).cell? ⟨g, i, none⟩ = some old := fun o => (HCf.out _ (((Up.refl _).drew).alloc o)).1
          have c4 : ∀ o, (wr.drew.alloc o).frozen? ⟨g, i, none⟩ = false := fun o => (HCf.out _ (((Up.refl _).drew).alloc o)).2
          have l0 : gb < wr.heap.size := World.block_lt_of_cell? _ _ q0
          have l1 : lb < wr.heap.size := World.block_lt_of_cell? _ _ q1
          have HP2 : Hid (∃ mm' : Nat → Nat → List Value, (∀ q i, (mm' q i).length = 1) ∧ MkOk 3 mm' (S1 L p (i + 1)) ((wr.drew.alloc (.cells #[.int .i64 z] 3)).setCell ⟨g, i, none⟩ (.slice (some ⟨wr.heap.size, 0, none⟩) 1 1)) ∧ Row2 mm' base 84 1 ((wr.drew.alloc (.cells #[.int .i64 z] 3)).setCell ⟨g, i, none⟩ (.slice (some ⟨wr.heap.size, 0, none⟩) 1 1)) L p (i + 1) ∧ Exc (Blks L) w ((wr.drew.alloc (.cells #[.int .i64 z] 3)).setCell ⟨g, i, none⟩ (.slice (some ⟨wr.heap.size, 0, none⟩) 1 1))) := HPut.out wr.heap.size _ (((Up.refl _).drew).alloc _) Array.getElem?_push_size
          have hE : ∀ x, (wr.drew.alloc (.cells #[.int .i64 z] 3)).setCell ⟨g, i, none⟩ x = ((wr.setCell ⟨g, i, none⟩ x).alloc (.cells #[.int .i64 z] 3)).drew := fun x => by rw [World.alloc_drew, World.setCell_drew, World.setCell_alloc_past _ _ _ _ hgl]
          rw [hE] at HP2
          clear HPut HCf hE
          go_wp2_with fail
          refine (fun key : ∀ W3, (∃ mm' : Nat → Nat → List Value, (∀ q i, (mm' q i).length = 1) ∧ MkOk 3 mm' (S1 L p (i + 1)) W3 ∧ Row2 mm' base 84 1 W3 L p (i + 1) ∧ Exc (Blks L) w W3) → (?G : World → Prop) W3 => ?main) ?kp
          case main =>
            go_region_with (go_at_call 57; refine Calls.mono (HNm.out _) ?_; rintro e w1 ⟨rfl, hw1⟩; obtain rfl := hw1.symm)
            all_goals exact key _ HP2.out
          case kp =>
            intro W3 hk
            have HK3 : Hid _ := hk
            clear hk HP2 c1 c2 c3 c4 q0 q1 l0 l1
            go_wp2_with fail
            go_roundw
            case rel => obtain ⟨mm', k1, k2, k3, k4⟩ := HK3.out; exact ⟨i + 1, mm', by omega, by go_num, k1, k2, k3, k4⟩
            case measure => simp [intOf] <;> omega
        · have hlt4 : ¬ (i : Int) < (n : Int) := by omega
          have hin : i = n := by omega
          subst hin
          have HR2 : Hid (Rows1 mm base 84 1 wr L (p + 1)) := by
            have := HR.out
            rw [HV.out.2] at this
            exact this.finish
          have HMO2 : Hid (MkOk 3 mm (S1 L (p + 1) 0) wr) := HMO.out.keep (fun _ _ h => h) (fun q x h => by have := s1_done h; rw [← HV.out.2] at this; exact this)
          go_wp2_with fail
          go_roundw
          case rel => exact ⟨p + 1, mm, by omega, by go_num, HML.out, HMO2.out, HR2.out, HX.out⟩
          case measure => simp [intOf] <;> omega
    · have hlt2 : ¬ (p : Int) < (K : Int) := by omega
      have hpK : p = L.length := by rw [← HKL.out]; omega
      have HMO2 : Hid (MkOk 3 mm (SP L 0) wr) := HMO.out.keep (fun _ _ h => h) (fun q x h => by have := sp_start h; rw [hpK]; exact this)
      clear HMO
      have HPh : Hid (Ph mm base w.heap.size 84 27 1 wr L 0 (.slice none 0 0) (.slice none 0 0) [] []) := by
        have h := HR.out
        rw [hpK] at h
        exact Ph.start h HX.out.2.1 (Nat.le_trans HBs.out HX.out.2.1)
      clear HR hpK q1
      go_wp2_with fail
      clear q0
      go_loopw [5, 6, 7, 8, 9] (fun s5 s6 s7 s8 s9 W => ∃ (p : Nat) (oa ma : Option Addr) (ok mk9 : Nat) (os ms : List Value) (mm : Nat → Nat → List Value), p ≤ K ∧ s7 = .int .i64 p ∧ s5 = .slice oa p ok ∧ s6 = .slice ma p mk9 ∧ (∀ q i, (mm q i).length = 1) ∧ MkOk 3 mm (SP L p) W ∧ Ph mm base w.heap.size 84 27 1 W L p (.slice oa p ok) (.slice ma p mk9) os ms ∧ Exc (Blks L) w W) (fun _ _ s7 _ _ _ => K - (intOf s7).toNat)
      case atStart => exact ⟨0, none, none, 0, 0, [], [], mm, Nat.zero_le _, rfl, rfl, rfl, HML.out, HMO2.out, HPh.out, HX.out⟩
      case round =>
        clear HPh HX hlt2 hlt hp HML HMO2 mm
        obtain ⟨p, oa, ma, ok, mk9, os, ms, mm, hp, rfl, rfl, rfl, hml, hmo, hph, hx⟩ := hrel
        have HML : Hid (∀ q i, (mm q i).length = 1) := hml
        have HMO : Hid (MkOk 3 mm (SP L p) wr) := hmo
        clear hml hmo
        have HPh : Hid (Ph mm base w.heap.size 84 27 1 wr L p (.slice oa p ok) (.slice ma p mk9) os ms) := hph
        have HX : Hid (Exc (Blks L) w wr) := hx
        obtain ⟨q0, q1⟩ := HCe.out wr hx
        clear hph hx
        by_cases hlt : p < K
        · have hlt2 : (p : Int) < (K : Int) := by omega
          have hpL : p < L.length := by rw [← HKL.out]; exact hlt
          obtain ⟨lb, rfl, qc⟩ := q1 (by omega)
          obtain ⟨xa, xk, hv⟩ := row_val (HPh.out.A p (Nat.le_refl _) hpL)
          obtain ⟨n, hnn⟩ : ∃ n, n = (L.getD p dv).2 := ⟨_, rfl⟩
          have hnb : n ≤ 4294967296 := by rw [hnn]; exact HN.out p hlt
          rw [← hnn] at hv
          have HV : Hid ((L.getD p dv).1 = .slice xa n xk ∧ n = (L.getD p dv).2) := ⟨hv, hnn⟩
          have HLc : Hid (∀ W, Exc (Blks L) w W → W.cell? ⟨gb, 12, none⟩ = some (.slice (some ⟨lb, 0, none⟩) K cap) ∧ W.cell? ⟨lb, p, none⟩ = some (.slice xa n xk)) := fun W x => by
            obtain ⟨c0, c1⟩ := HCe.out W x
            obtain ⟨lb', e, c2⟩ := c1 (by omega)
            cases e
            exact ⟨c0, by rw [c2 p hlt, hv]⟩
          have HMO2 : Hid (MkOk 3 mm (S2 L p n) wr) := HMO.out.keep (fun _ _ h => h) (fun q x h => s2_start hpL (by rw [← hnn]; exact h))
          clear HMO
          have HI0 : Hid (In mm base w.heap.size 84 27 1 wr L p (.slice oa p ok) (.slice ma p mk9) os ms (.slice xa n xk) n p) := by
            have h := Ph.inn HML.out HPh.out hpL HD.out
            rw [hv, ← hnn] at h
            exact h
          have HBk : Hid (∀ b, Blks L b → b < w.heap.size ∨ True) := fun _ _ => .inr trivial
          obtain ⟨qc1, qc2⟩ := HLc.out wr HX.out
          clear q0 q1 qc hv hnn HPh HBk
          go_wp2_with fail
          go_loopw [5, 8, 9] (fun s5 s8 s9 W => ∃ (i k : Nat) (la oa : Option Addr) (lk ok : Nat) (os : List Value) (mm : Nat → Nat → List Value), n ≤ i ∧ i ≤ n + 70 ∧ s9 = .int .i64 i ∧ s8 = .slice la i lk ∧ s5 = .slice oa k ok ∧ (∀ q i, (mm q i).length = 1) ∧ MkOk 3 mm (S2 L p i) W ∧ In mm base w.heap.size 84 27 1 W L p (.slice oa k ok) (.slice ma p mk9) os ms (.slice la i lk) i k ∧ Exc (Blks L) w W ∧ (n < i → k = p + 1) ∧ (i = n → k = p) ∧ (∀ b, (Value.slice la i lk).ownBlock = some b → Blks L b ∨ w.heap.size ≤ b)) (fun _ _ s9 _ => n + 70 - (intOf s9).toNat)
          case atStart => exact ⟨n, p, xa, oa, xk, ok, os, mm, Nat.le_refl _, by omega, rfl, rfl, rfl, HML.out, HMO2.out, HI0.out, HX.out, fun h => by omega, fun _ => rfl, fun b hb => .inl (HS.out p b hlt (by rw [HV.out.1]; exact hb))⟩
          case round =>
            clear HI0 HX qc1 qc2 HML HMO2 mm
            obtain ⟨i, k, la, oa, lk, ok, os, mm, hi1, hi2, rfl, rfl, rfl, hml, hmo, hin, hx, hk1, hk2, hsep⟩ := hrel
            have HML : Hid (∀ q i, (mm q i).length = 1) := hml
            have HMO : Hid (MkOk 3 mm (S2 L p i) wr) := hmo
            clear hml hmo
            have HI : Hid (In mm base w.heap.size 84 27 1 wr L p (.slice oa k ok) (.slice ma p mk9) os ms (.slice la i lk) i k) := hin
            have HX : Hid (Exc (Blks L) w wr) := hx
            have HSp : Hid (∀ b, (Value.slice la i lk).ownBlock = some b → Blks L b ∨ w.heap.size ≤ b) := hsep
            have HK1 : Hid ((n < i → k = p + 1) ∧ (i = n → k = p)) := ⟨hk1, hk2⟩
            obtain ⟨qc1, qc2⟩ := HLc.out wr hx
            clear hin hx hsep hk1 hk2
            by_cases hlt3 : i < n + 70
            · have hlt4 : (i : Int) < (n : Int) + 70 := by omega
              have HNm : Hid (∀ W, Calls Tryz.prog 57 #[.int .i64 p, .int .i64 i] W fun e w' => e = .returned (.int .i64 (bnum p i)) ∧ w' = W) := bnum_ p i (by omega) (by omega)
              have HIa : Hid (In mm base w.heap.size 84 27 1 ((wr.alloc (.cells #[.int .i64 (bnum p i)] 3)).alloc (.cells #[.slice (some ⟨wr.heap.size, 0, none⟩) 1 1] 84)) L p (.slice oa k ok) (.slice ma p mk9) os ms (.slice la i lk) i k) := HI.out.up (((Up.refl _).alloc _).alloc _)
              have HXa : Hid (Exc (Blks L) w ((wr.alloc (.cells #[.int .i64 (bnum p i)] 3)).alloc (.cells #[.slice (some ⟨wr.heap.size, 0, none⟩) 1 1] 84))) := HX.out.up (((Up.refl _).alloc _).alloc _)
              have hA : ((wr.alloc (.cells #[.int .i64 (bnum p i)] 3)).alloc (.cells #[.slice (some ⟨wr.heap.size, 0, none⟩) 1 1] 84)).heap[wr.heap.size]? = some (.cells #[.int .i64 (bnum p i)] 3 (0, 0)) := ((Up.refl _).alloc _).heap Array.getElem?_push_size
              have HG : Hid (∀ v5 w5, w5.ownsRow base 84 1 v5 (i + 1) (mks mm p i ++ [.slice (some ⟨wr.heap.size, 0, none⟩) 1 1]) → ((wr.alloc (.cells #[.int .i64 (bnum p i)] 3)).alloc (.cells #[.slice (some ⟨wr.heap.size, 0, none⟩) 1 1] 84)).grownBy w5 (Value.slice la i lk).ownBlock → KeptS (.slice la i lk) (i * 1) ((wr.alloc (.cells #[.int .i64 (bnum p i)] 3)).alloc (.cells #[.slice (some ⟨wr.heap.size, 0, none⟩) 1 1] 84)) w5 → LiesNew (.slice la i lk) v5 ((wr.alloc (.cells #[.int .i64 (bnum p i)] 3)).alloc (.cells #[.slice (some ⟨wr.heap.size, 0, none⟩) 1 1] 84)) → TyK ((wr.alloc (.cells #[.int .i64 (bnum p i)] 3)).alloc (.cells #[.slice (some ⟨wr.heap.size, 0, none⟩) 1 1] 84)) w5 → ∃ mm' : Nat → Nat → List Value, (∀ q i, (mm' q i).length = 1) ∧ MkOk 3 mm' (S2 L p (i + 1)) w5 ∧ In mm' base w.heap.size 84 27 1 w5 L p (.slice oa k ok) (.slice ma p mk9) os ms v5 (i + 1) k ∧ Exc (Blks L) w w5 ∧ ∀ b, v5.ownBlock = some b → Blks L b ∨ w.heap.size ≤ b) := fun v5 w5 a1 a2 a3 a4 a5 => by
                refine ⟨mkU mm p i (.slice (some ⟨wr.heap.size, 0, none⟩) 1 1), mkU_len HML.out _ _ _, MkOk.put ((HMO.out.up (((Up.refl _).alloc _).alloc _)).keep (keep_grown HIa.out.R a2 (by decide)) (fun _ _ h => h)) (keep_grown HIa.out.R a2 (by decide) _ _ hA) (fun _ _ h => s2_next h), In.grow (mkU_len HML.out _ _ _) (HIa.out.chg (.slice (some ⟨wr.heap.size, 0, none⟩) 1 1)) (fun h => HK1.out.1 (by rw [HV.out.2]; omega)) (by decide) (by rw [mks_more, mkU_self, ← mks_U _ (fun _ => Nat.le_refl _)]; exact a1) a2 a3 a4 a5, HXa.out.grown a2 HSp.out, fun b hb => ?_⟩
                rcases a4 with a4 | ⟨g, a4, a6⟩
                · rw [a4] at hb; exact HSp.out b hb
                · rw [a4] at hb
                  have : g = b := by simpa using hb
                  subst this
                  exact .inr (Nat.le_trans HXa.out.2.1 a6)
              have HNw : Hid (∀ j u, [(.slice (some ⟨wr.heap.size, 0, none⟩) 1 1 : Value)][j]? = some u → ((wr.alloc (.cells #[.int .i64 (bnum p i)] 3)).alloc (.cells #[.slice (some ⟨wr.heap.size, 0, none⟩) 1 1] 84)).cell? ((⟨wr.heap.size + 1, 0, none⟩ : Addr).add j) = some u) := by
                have := newCell (wr.alloc (.cells #[.int .i64 (bnum p i)] 3)) (.slice (some ⟨wr.heap.size, 0, none⟩) 1 1) 84
                unfold Hid
                simpa using this
              clear hA HML HMO
              clear HX HI
              generalize bnum p i = z at HNm HIa HXa HG HNw
              go_wp2_with fail
              refine Calls.mono (HNm.out _) ?_
              rintro e w1 ⟨rfl, hw1⟩
              obtain rfl := hw1.symm
              have HOn : Hid (∀ u ∈ [(.slice (some ⟨wr.heap.size, 0, none⟩) 1 1 : Value)], u.oneCell' = true) := oneSl _ _ _
              have hpk : k ≤ 1000 := by
                rcases Nat.lt_or_ge n i with h | h
                · have := HK1.out.1 h; omega
                · have := HK1.out.2 (by omega); omega
              by_cases hin : i = n
              · have hkp : k = p := HK1.out.2 hin
                have hnn2 : n = (L.getD p dv).2 := HV.out.2
                have HKp : Hid (∀ (mm : Nat → Nat → List Value) (xa5 : Option Addr) (xk5 : Nat) (w5 : World) (v7 : Value) (w7 : World), (∀ q i, (mm q i).length = 1) → MkOk 3 mm (S2 L p (i + 1)) w5 → In mm base w.heap.size 84 27 1 (w5.alloc (.cells #[.slice xa5 (i + 1) xk5] 27)) L p (.slice oa k ok) (.slice ma p mk9) os ms (.slice xa5 (i + 1) xk5) (i + 1) k → Exc (Blks L) w w5 → w7.ownsRow w.heap.size 27 1 v7 (k + 1) (os ++ [.slice xa5 (i + 1) xk5]) → (w5.alloc (.cells #[.slice xa5 (i + 1) xk5] 27)).grownBy w7 (Value.slice oa k ok).ownBlock → LiesNew (.slice oa k ok) v7 (w5.alloc (.cells #[.slice xa5 (i + 1) xk5] 27)) → MkOk 3 mm (S2 L p (i + 1)) w7 ∧ In mm base w.heap.size 84 27 1 w7 L p v7 (.slice ma p mk9) (os ++ [.slice xa5 (i + 1) xk5]) ms (.slice xa5 (i + 1) xk5) (i + 1) (k + 1) ∧ Exc (Blks L) w w7) := fun mm xa5 xk5 w5 v7 w7 hml hmo h hx a1 a2 a4 => by
                  rw [hkp] at h a1 a2 a4 ⊢
                  refine ⟨(hmo.up ((Up.refl _).alloc _)).keep (keep_grown h.C.1 a2 (by decide)) (fun _ _ h => h), In.keep hml h (by rw [hin, hnn2]) (by decide) a1 a2 a4, Exc.grown (hx.up ((Up.refl _).alloc _)) a2 (fun c hc => .inr ?_)⟩
                  rcases h.C.1.2 with ⟨e0, -⟩ | ⟨g', cap', cur', e0, b2, _⟩
                  · rw [e0] at hc; cases hc
                  · rw [e0] at hc
                    have : g' = c := by simpa [Value.ownBlock] using hc
                    subst this
                    exact b2
                have hbe : ((i : Int) == (n : Int)) = true := by rw [beq_iff_eq]; omega
                clear hin hnn2
                have HKk : Hid (k = p) := hkp
                clear hkp
                go_wp2_with (at_builtin; first | (refine wpList_append_apart _ (by rfl) (.tmp 79) (.tmp 84) 27 (by rfl) base 84 iT (.slice none 0 0) 1 24 Tryz.underlying27 hiT z0 z1 z2 (by rfl) (by decide) (.slice la i lk) i (mks mm p i) (by rfl) HIa.out.R ⟨wr.heap.size + 1, 0, none⟩ 1 [.slice (some ⟨wr.heap.size, 0, none⟩) 1 1] (by rfl) (by rfl) HNw.out HOn.out (by unfold maxLen; omega) (by omega) HIa.out.Z.2 ?_; intro v5 w5 a1 a2 a3 a4 a5; obtain ⟨mm5, hml5, hmo5, hi5⟩ := HG.out v5 w5 a1 a2 a3 a4 a5; have HML5 : Hid (∀ q i, (mm5 q i).length = 1) := hml5; have HMO5 : Hid (MkOk 3 mm5 (S2 L p (i + 1)) w5) := hmo5; have HI5 : Hid _ := hi5; clear hml5 hmo5 hi5; obtain ⟨xa5, xk5, hx5⟩ := row_val a1; subst hx5; clear a1 a2 a3 a4 a5 qc1 qc2; obtain ⟨qc1, qc2⟩ := HLc.out w5 HI5.out.2.1; have HI6 : Hid (In mm5 base w.heap.size 84 27 1 (w5.alloc (.cells #[.slice xa5 (i + 1) xk5] 27)) L p (.slice oa k ok) (.slice ma p mk9) os ms (.slice xa5 (i + 1) xk5) (i + 1) k) := (In.up HI5.out.1 ((Up.refl _).alloc _)); have HNw2 : Hid _ := newCell w5 (.slice xa5 (i + 1) xk5) 27) | (refine wpList_append_apart _ (by rfl) (.tmp 96) (.tmp 98) 49 (by rfl) w.heap.size 27 iS (.slice none 0 0) 1 24 Tryz.underlying49 hiS y0 y1 y2 (by rfl) (by decide) (.slice oa k ok) k os (by rfl) HI6.out.C.1 ⟨w5.heap.size, 0, none⟩ 1 [.slice xa5 (i + 1) xk5] (by rfl) (by rfl) HNw2.out (oneSl _ _ _) (by unfold maxLen; omega) (by omega) HI6.out.Z.1 ?_; intro v7 w7 a1 a2 a3 a4 a5; have HI7 : Hid _ := HKp.out mm5 _ _ _ v7 w7 HML5.out HMO5.out HI6.out HI5.out.2.1 a1 a2 a4; obtain ⟨xa7, xk7, hx7⟩ := row_val a1; subst hx7; clear a1 a2 a3 a4 a5))
                go_roundw
                case rel => exact ⟨i + 1, k + 1, xa5, xa7, xk5, xk7, _, mm5, by omega, by omega, by go_num, rfl, rfl, HML5.out, HI7.out.1, HI7.out.2.1, HI7.out.2.2, fun _ => by rw [HKk.out], fun h => by omega, HI5.out.2.2⟩
                case measure => simp [intOf] <;> omega
              · have hbe : ((i : Int) == (n : Int)) = false := beq_eq_false_iff_ne.2 (by omega)
                have HKk : Hid (k = p + 1) := HK1.out.1 (by omega)
                go_wp2_with (at_builtin; (refine wpList_append_apart _ (by rfl) (.tmp 79) (.tmp 84) 27 (by rfl) base 84 iT (.slice none 0 0) 1 24 Tryz.underlying27 hiT z0 z1 z2 (by rfl) (by decide) (.slice la i lk) i (mks mm p i) (by rfl) HIa.out.R ⟨wr.heap.size + 1, 0, none⟩ 1 [.slice (some ⟨wr.heap.size, 0, none⟩) 1 1] (by rfl) (by rfl) HNw.out HOn.out (by unfold maxLen; omega) (by omega) HIa.out.Z.2 ?_; intro v5 w5 a1 a2 a3 a4 a5; obtain ⟨mm5, hml5, hmo5, hi5⟩ := HG.out v5 w5 a1 a2 a3 a4 a5; have HML5 : Hid (∀ q i, (mm5 q i).length = 1) := hml5; have HMO5 : Hid (MkOk 3 mm5 (S2 L p (i + 1)) w5) := hmo5; have HI5 : Hid _ := hi5; clear hml5 hmo5 hi5; obtain ⟨xa5, xk5, hx5⟩ := row_val a1; subst hx5; clear a1 a2 a3 a4 a5 qc1 qc2; obtain ⟨qc1, qc2⟩ := HLc.out w5 HI5.out.2.1))
                go_roundw
                case rel => exact ⟨i + 1, k, xa5, oa, xk5, ok, os, mm5, by omega, by omega, by go_num, rfl, rfl, HML5.out, HMO5.out, HI5.out.1, HI5.out.2.1, fun _ => HKk.out, fun h => by omega, HI5.out.2.2⟩
                case measure => simp [intOf] <;> omega
            · have hlt4 : ¬ (i : Int) < (n : Int) + 70 := by omega
              have HKk : Hid (k = p + 1) := HK1.out.1 (by omega)
              have hin : i = n + 70 := by omega
              have HI6 : Hid (In mm base w.heap.size 84 27 1 (wr.alloc (.cells #[.slice la i lk] 27)) L p (.slice oa k ok) (.slice ma p mk9) os ms (.slice la i lk) i k) := HI.out.up ((Up.refl _).alloc _)
              have HNw2 : Hid _ := newCell wr (.slice la i lk) 27
              have HDn : Hid (∀ (v7 : Value) (w7 : World), w7.ownsRow w.heap.size 27 1 v7 (p + 1) (ms ++ [.slice la i lk]) → (wr.alloc (.cells #[.slice la i lk] 27)).grownBy w7 (Value.slice ma p mk9).ownBlock → LiesNew (.slice ma p mk9) v7 (wr.alloc (.cells #[.slice la i lk] 27)) → MkOk 3 mm (SP L (p + 1)) w7 ∧ Ph mm base w.heap.size 84 27 1 w7 L (p + 1) (.slice oa (p + 1) ok) v7 os (ms ++ [.slice la i lk]) ∧ Exc (Blks L) w w7) := fun v7 w7 a1 a2 a4 => by
                have h := HI6.out
                rw [HKk.out] at h
                refine ⟨(HMO.out.up ((Up.refl _).alloc _)).keep (keep_grown h.D.1 a2 (by decide)) (fun q x hq => by have := s2_done hq; rw [← HV.out.2, ← hin] at this; exact this), In.done HML.out h (by rw [hin, HV.out.2]) (by decide) a1 a2 a4, Exc.grown (HX.out.up ((Up.refl _).alloc _)) a2 (fun c hc => .inr ?_)⟩
                rcases h.D.1.2 with ⟨e0, -⟩ | ⟨g', cap', cur', e0, b2, _⟩
                · rw [e0] at hc; cases hc
                · rw [e0] at hc
                  have : g' = c := by simpa [Value.ownBlock] using hc
                  subst this
                  exact b2
              clear hin HX HI
              go_wp2_with (at_builtin; (refine wpList_append_apart _ (by rfl) (.tmp 100) (.tmp 102) 49 (by rfl) w.heap.size 27 iS (.slice none 0 0) 1 24 Tryz.underlying49 hiS y0 y1 y2 (by rfl) (by decide) (.slice ma p mk9) p ms (by rfl) HI6.out.D.1 ⟨wr.heap.size, 0, none⟩ 1 [.slice la i lk] (by rfl) (by rfl) HNw2.out (oneSl _ _ _) (by unfold maxLen; omega) (by omega) HI6.out.Z.1 ?_; intro v7 w7 a1 a2 a3 a4 a5; have HI7 : Hid _ := HDn.out v7 w7 a1 a2 a4; obtain ⟨xa7, xk7, hx7⟩ := row_val a1; subst hx7; clear a1 a2 a3 a4 a5))
              go_roundw
              case rel => exact ⟨p + 1, oa, xa7, ok, xk7, os, _, mm, by omega, by go_num, by rw [HKk.out], rfl, HML.out, HI7.out.1, HI7.out.2.1, HI7.out.2.2⟩
              case measure => simp [intOf] <;> omega
        · have hlt2 : ¬ (p : Int) < (K : Int) := by omega
          have hpK : p = K := by omega
          subst hpK
          obtain ⟨w9, hw9⟩ : ∃ w9, w9 = wr := ⟨_, rfl⟩
          subst hw9
          have HFin : Hid (∀ W, Up w9 W → Post (.returned (.bool true)) W) := fun W u => by rw [HPost.out]; exact ⟨rfl, HX.out.up u⟩
          have HQ0 : Hid _ := q0
          have HQ1 : Hid _ := q1
          clear q1
          have HM : Hid (∀ q, q < p → ∃ mb o c, ma = some ⟨mb, 0, none⟩ ∧ w9.cell? ⟨mb, q, none⟩ = some (.slice (some ⟨o, 0, none⟩) ((L.getD q dv).2 + 70) c) ∧ (L.getD q dv).2 + 70 ≤ (L.getD q dv).2 + 70 ∧ ∀ i, i < (L.getD q dv).2 + 70 → ∃ g9, w9.cell? ⟨o, i, none⟩ = some (.slice (some ⟨g9, 0, none⟩) 1 1) ∧ w9.cell? ⟨g9, 0, none⟩ = some (.int .i64 (bnum q i))) := fun q hq => by
            obtain ⟨mb, c0, -, -, e⟩ := row_some HPh.out.D.1 (by omega)
            obtain ⟨o, c, h1, h2⟩ := HPh.out.D.2 q hq
            simp only [Value.slice.injEq] at e
            have hd := HPh.out.D.1
            rw [e.1] at hd
            have hc := World.ownsRow.cellAt hd q (by omega)
            have hl : ms.length = p := by have := HPh.out.D.1.1; omega
            refine ⟨mb, o, c, e.1, ?_, Nat.le_refl _, fun i hi => ?_⟩
            · rw [hc, List.getElem?_eq_getElem (by omega), ← h1, List.getD_eq_getElem?_getD, List.getElem?_eq_getElem (by omega)]
              rfl
            · have := h2.2 i 0 hi (by decide)
              rw [Nat.mul_one, Nat.add_zero] at this
              obtain ⟨g9, m1, m2⟩ := HMO.out q i (.inl ⟨hq, hi⟩)
              exact ⟨g9, by rw [this, m1]; rfl, by simp [World.cell?, m2]⟩
          have HO : Hid (∀ q, q < p → ∃ ob o c, oa = some ⟨ob, 0, none⟩ ∧ w9.cell? ⟨ob, q, none⟩ = some (.slice (some ⟨o, 0, none⟩) ((L.getD q dv).2 + 1) c) ∧ ∃ g9, w9.cell? ⟨o, (L.getD q dv).2, none⟩ = some (.slice (some ⟨g9, 0, none⟩) 1 1) ∧ w9.cell? ⟨g9, 0, none⟩ = some (.int .i64 (bnum q (L.getD q dv).2))) := fun q hq => by
            obtain ⟨mb, c0, -, -, e⟩ := row_some HPh.out.C.1 (by omega)
            obtain ⟨o, c, h1, h2⟩ := HPh.out.C.2 q hq
            simp only [Value.slice.injEq] at e
            have hd := HPh.out.C.1
            rw [e.1] at hd
            have hc := World.ownsRow.cellAt hd q (by omega)
            have hl : os.length = p := by have := HPh.out.C.1.1; omega
            refine ⟨mb, o, c, e.1, ?_, ?_⟩
            · rw [hc, List.getElem?_eq_getElem (by omega), ← h1, List.getD_eq_getElem?_getD, List.getElem?_eq_getElem (by omega)]
              rfl
            · have := h2.2 (L.getD q dv).2 0 (by omega) (by decide)
              rw [Nat.mul_one, Nat.add_zero] at this
              obtain ⟨g9, m1, m2⟩ := HMO.out q (L.getD q dv).2 (.inl ⟨hq, by omega⟩)
              exact ⟨g9, by rw [this, m1]; rfl, by simp [World.cell?, m2]⟩
          have HB : Hid (∀ q, q < p → ∃ xa xk, (L.getD q dv).1 = .slice xa (L.getD q dv).2 xk ∧ ∀ i, i < (L.getD q dv).2 → ∃ g g9, xa = some ⟨g, 0, none⟩ ∧ w9.cell? ⟨g, i, none⟩ = some (.slice (some ⟨g9, 0, none⟩) 1 1) ∧ w9.cell? ⟨g9, 0, none⟩ = some (.int .i64 (bnum q i))) := fun q hq => by
            obtain ⟨xs, h3, -⟩ := H1.out mm q (by rw [← HKL.out]; exact hq)
            obtain ⟨xa, xk, hv⟩ := row_val h3
            refine ⟨xa, xk, hv, fun i hi => ?_⟩
            obtain ⟨g, c0, -, -, e⟩ := row_some h3 (by omega)
            have h4 := HPh.out.B q hq g (by rw [e]; rfl)
            have h5 := h4.2 i 0 hi (by decide)
            rw [Nat.mul_one, Nat.add_zero] at h5
            rw [hv] at e
            simp only [Value.slice.injEq] at e
            obtain ⟨g9, m1, m2⟩ := HMO.out q i (.inl ⟨hq, by omega⟩)
            exact ⟨g, g9, e.1, by rw [h5, m1]; rfl, by simp [World.cell?, m2]⟩
          clear HPh
          go_wp2_with fail
          clear q0
          go_loopw [10, 11, 12, 13] (fun s10 s11 s12 s13 W => ∃ q : Nat, q ≤ p ∧ s10 = .int .i64 q ∧ Up w9 W) (fun s10 _ _ _ _ => p - (intOf s10).toNat)
          case atStart => exact ⟨0, Nat.zero_le _, rfl, Up.refl _⟩
          case round =>
            obtain ⟨q, hq, rfl, hu0⟩ := hrel
            have HU0 : Hid (Up w9 wr) := hu0
            clear hu0
            by_cases hqp : q < p
            · have hqp2 : (q : Int) < (p : Int) := by omega
              obtain ⟨mb, o, c, rfl, m1, -, m2⟩ := HM.out q hqp
              obtain ⟨ob, o1, c1, rfl, n1, n2⟩ := HO.out q hqp
              have HN3 : Hid _ := n2
              clear n2
              obtain ⟨xa, xk, hv, hb⟩ := HB.out q hqp
              obtain ⟨lb, rfl, qc⟩ := HQ1.out (by omega)
              have qv := qc q hqp
              rw [hv] at qv
              have hnb := HN.out q hqp
              have HM2 : Hid _ := m2
              have HB2 : Hid _ := hb
              generalize (L.getD q dv).2 = n at m1 HM2 n1 HN3 qv HB2 hnb
              have HNm : Hid (∀ i : Nat, i ≤ 8589934592 → ∀ W, Calls Tryz.prog 57 #[.int .i64 q, .int .i64 i] W fun e w' => e = .returned (.int .i64 (bnum q i)) ∧ w' = W) := fun i hi => bnum_ q i (by omega) hi
              have HC : Hid (∀ W, Up w9 W → W.cell? ⟨gb, 12, none⟩ = some (.slice (some ⟨lb, 0, none⟩) p cap) ∧ W.cell? ⟨lb, q, none⟩ = some (.slice xa n xk) ∧ W.cell? ⟨mb, q, none⟩ = some (.slice (some ⟨o, 0, none⟩) (n + 70) c) ∧ W.cell? ⟨ob, q, none⟩ = some (.slice (some ⟨o1, 0, none⟩) (n + 1) c1)) := fun W u => ⟨u.cell HQ0.out, u.cell qv, u.cell m1, u.cell n1⟩
              clear m2 hb hv qc qv m1 n1
              obtain ⟨r0, r1, r2, r3⟩ := HC.out _ HU0.out
              go_wp2_with fail
              go_loopw [11, 12, 13] (fun s11 s12 s13 W => ∃ i : Nat, i ≤ n + 70 ∧ s11 = .int .i64 i ∧ Up w9 W) (fun s11 _ _ _ => n + 70 - (intOf s11).toNat)
              case atStart => exact ⟨0, Nat.zero_le _, rfl, HU0.out⟩
              case round =>
                clear r0 r1 r2 r3
                obtain ⟨i, hi, rfl, hu⟩ := hrel
                have HU : Hid (Up w9 wr) := hu
                clear hu
                obtain ⟨r0, r1, r2, r3⟩ := HC.out _ HU.out
                by_cases hi7 : i < n + 70
                · have hi8 : (i : Int) < (n : Int) + 70 := by omega
                  obtain ⟨ga, k1, k1b⟩ := HM2.out i hi7
                  have k1 := HU.out.cell k1
                  have k1b := HU.out.cell k1b
                  have HN2 : Hid _ := HNm.out i (by omega)
                  rcases Nat.lt_trichotomy i n with hin | hin | hin
                  · obtain ⟨g, gc, rfl, k2, k2b⟩ := HB2.out i hin
                    have k2 := HU.out.cell k2
                    have k2b := HU.out.cell k2b
                    have hin2 : (i : Int) < (n : Int) := by omega
                    have hbe : ((i : Int) == (n : Int)) = false := beq_eq_false_iff_ne.2 (by omega)
                    generalize bnum q i = z at k1b k2b HN2
                    go_wp2_with fail
                    go_quiet (exact Calls.quiet_of_same (HN2.out _))
                    go_wp2_with fail
                    go_quiet (refine Calls.mono (HN2.out _) (fun e w1 h1 => ⟨h1.1, _, h1.2⟩))
                    go_wp2
                    go_roundw
                    case rel => exact ⟨i + 1, by omega, by go_num, (HU.out.trans (by repeat (first | with_reducible exact Up.refl _ | with_reducible apply Up.alloc | with_reducible apply Up.drewN | with_reducible apply Up.drew)))⟩
                    case measure => simp [intOf] <;> omega
                  · subst hin
                    obtain ⟨gc, n2, n2b⟩ := HN3.out
                    have n2 := HU.out.cell n2
                    have n2b := HU.out.cell n2b
                    have hin2 : ¬ (i : Int) < (i : Int) := by omega
                    generalize bnum q i = z at k1b n2b HN2
                    go_wp2_with fail
                    go_quiet (exact Calls.quiet_of_same (HN2.out _))
                    go_wp2_with fail
                    go_quiet (refine Calls.mono (HN2.out _) (fun e w1 h1 => ⟨h1.1, _, h1.2⟩))
                    go_wp2
                    go_roundw
                    case rel => exact ⟨i + 1, by omega, by go_num, (HU.out.trans (by repeat (first | with_reducible exact Up.refl _ | with_reducible apply Up.alloc | with_reducible apply Up.drewN | with_reducible apply Up.drew)))⟩
                    case measure => simp [intOf] <;> omega
                  · have hin2 : ¬ (i : Int) < (n : Int) := by omega
                    have hbe : ((i : Int) == (n : Int)) = false := beq_eq_false_iff_ne.2 (by omega)
                    generalize bnum q i = z at k1b HN2
                    go_wp2_with fail
                    go_quiet (exact Calls.quiet_of_same (HN2.out _))
                    go_wp2_with fail
                    go_quiet (refine Calls.mono (HN2.out _) (fun e w1 h1 => ⟨h1.1, _, h1.2⟩))
                    go_wp2
                    go_roundw
                    case rel => exact ⟨i + 1, by omega, by go_num, (HU.out.trans (by repeat (first | with_reducible exact Up.refl _ | with_reducible apply Up.alloc | with_reducible apply Up.drewN | with_reducible apply Up.drew)))⟩
                    case measure => simp [intOf] <;> omega
                · have hi8 : ¬ (i : Int) < (n : Int) + 70 := by omega
                  go_wp2_with fail
                  go_roundw
                  case rel => exact ⟨q + 1, by omega, by go_num, HU.out⟩
                  case measure => simp [intOf] <;> omega
            · have hqp2 : ¬ (q : Int) < (p : Int) := by omega
              go_wp2
              exact HFin.out _ HU0.out
end Go.Proofs.YtmpamcdobhiipaaGreatDoor.BG
