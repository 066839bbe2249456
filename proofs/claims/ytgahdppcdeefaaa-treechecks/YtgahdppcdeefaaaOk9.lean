/-
  The document's open at all other Ops, given what open and placed answer at its kids.
-/
import Derived.Test.YtgahdppcdeefaaaOn9
import Derived.Test.YtgahdppcdeefaaaOg9
namespace Go.Proofs.Ytgahdppcdeefaaa
open Go.RowKit
attribute [local go_sem ↓] Go.wp_at_zero Go.wp_at_succ
namespace TR
set_option maxRecDepth 100000 in
set_option maxHeartbeats 16000000 in
theorem open_at10 (v : Value) (l : List Nd) (p d N : Nat) (K A : Nat → Nat) (w : World) (a : Nd) (hv : NLs w v l) (hp : p < l.length) (ha : l.getD p dn = a) (hop : a.op = 10) (hn : l.length ≤ 1000000) (hd : d ≤ 100000000000) (hN : N ≤ 1000000)
    (hk : kds l (p : Int) = (List.range N).map fun i => ((K i : Nat) : Int)) (hK : ∀ i, i < N → K i < l.length) (hA : ∀ i, i < N → A i ≤ 1000000000000)
    (HA : ∀ i, i < N → ∀ W, Up w W → Calls Try.prog 45 #[v, .int .i64 (K i : Int), .int .i64 ((d + 1 : Nat) : Int), .int .i64 (rWants a.op (i : Int))] W (fun e w' => e = .returned (.int .i64 (A i : Int)) ∧ Up W w')) :
    Calls Try.prog 30 #[v, .int .i64 (p : Int), .int .i64 (d : Int)] w (fun e w' => e = .returned (.int .i64 ((mxA A (d + dopn a.op) N : Nat) : Int)) ∧ Up w w') := by
  have hdo : dopn a.op = 1 := by rw [hop]; decide
  rw [hdo]
  clear hdo
  obtain ⟨Post, hPost⟩ : ∃ P : Ending → World → Prop, P = fun e w' => e = .returned (.int .i64 ((mxA A (d + 1) N : Nat) : Int)) ∧ Up w w' := ⟨_, rfl⟩
  rw [← hPost]
  have HPo : Hid (Post = fun e w' => e = .returned (.int .i64 ((mxA A (d + 1) N : Nat) : Int)) ∧ Up w w') := hPost
  clear hPost
  have HKD : Hid (∀ W, Up w W → Calls Try.prog 40 #[v, .int .i64 (p : Int)] W (CpN W fun W' v' => W'.ownsRow W.heap.size 3 1 v' (kds l p).length (ivn (kds l p)))) := fun W hu => rkids_ v l p W (hv.up hu) hn (by omega)
  rw [hk] at HKD
  have HKL : Hid (((List.range N).map fun i => ((K i : Nat) : Int)).length = N) := by unfold Hid; rw [List.length_map, List.length_range]
  rw [HKL.out] at HKD
  have HKC : Hid (∀ i, i < N → (ivn ((List.range N).map fun i => ((K i : Nat) : Int)))[i]? = some (.int .i64 ((K i : Nat) : Int))) := fun i hi => by
    unfold ivn
    rw [List.getElem?_map, List.getElem?_map, List.getElem?_range hi]
    rfl
  obtain ⟨ad, c, rfl, hc, hcell⟩ := nl_at hv
  obtain ⟨bk, off, rfl, hce⟩ := hcell (by omega)
  have xs : ∀ j x, (ndc a)[j]? = some x → w.cell? ⟨bk, off + p * 7 + j, none⟩ = some x := fun j x hj => hce w (Up.refl _) p hp j x (by rw [ha]; exact hj)
  have HB : Hid (∀ i, i < N → ∀ W, Up w W → W.cell? ⟨bk, off + (K i) * 7, none⟩ = some (.int .i8 (l.getD (K i) dn).op)) := fun i hi W hu => hce W hu (K i) (hK i hi) 0 _ rfl
  obtain ⟨aop, akd, an, am, at_, aps, aks⟩ := a
  simp only at hop HA
  subst hop
  have x0 : w.cell? ⟨bk, off + p * 7, none⟩ = some (.int .i8 10) := xs 0 _ rfl
  have x1 : w.cell? ⟨bk, off + p * 7 + 1, none⟩ = some (.int .i8 akd) := xs 1 _ rfl
  have x2 : w.cell? ⟨bk, off + p * 7 + 2, none⟩ = some (.int .i64 an) := xs 2 _ rfl
  have x3 : w.cell? ⟨bk, off + p * 7 + 3, none⟩ = some (.int .i64 am) := xs 3 _ rfl
  have x4 : w.cell? ⟨bk, off + p * 7 + 4, none⟩ = some (.string (strOfNums at_)) := xs 4 _ rfl
  have x5 : w.cell? ⟨bk, off + p * 7 + 5, none⟩ = some (.int .i64 aps) := xs 5 _ rfl
  have x6 : w.cell? ⟨bk, off + p * 7 + 6, none⟩ = some (.int .i64 aks) := xs 6 _ rfl
  obtain ⟨n, hNl⟩ : ∃ n, n = l.length := ⟨_, rfl⟩
  have HKn : Hid (∀ i, i < N → K i < n) := fun i hi => by rw [hNl]; exact hK i hi
  rw [← hNl] at hp hn hc HKD HA ⊢
  have hp2 : (p : Int) < (n : Int) := by omega
  have HAO : Hid (∀ i, i < N → ∀ W, Up w W → Calls Try.prog 45 #[.slice (some ⟨bk, off, none⟩) n c, .int .i64 (K i : Int), .int .i64 ((d + 1 : Nat) : Int), .int .i64 (rWants 10 (i : Int))] W (fun e w' => e = .returned (.int .i64 (A i : Int)) ∧ Up W w')) := HA
  have HAl : Hid (∀ i, i < N → A i ≤ 1000000000000) := hA
  have HNh : Hid (N ≤ 1000000) := hN
  clear hcell hce hv hNl ha xs HA hK hA hk hN
  generalize strOfNums at_ = st at *
  obtain ⟨E, hE⟩ : ∃ E : Nat, E = d + 1 := ⟨_, rfl⟩
  have HEd : Hid (E = d + 1) := hE
  rw [← hE] at HPo HAO
  have eE : IntKind.i64.wrap ((d : Int) + 1) = (E : Int) := by rw [IntKind.wrap_i64]; omega
  have eE2 : wrap64 ((d : Int) + 1) = (E : Int) := by first | (unfold wrap64; omega) | (show IntKind.i64.wrap _ = _; exact eE)
  have hmd : ¬ (E : Int) ≤ (d : Int) := by omega
  have hmd2 : (d : Int) < (E : Int) := by omega
  have hmd3 : ¬ E ≤ d := by omega
  clear hE
  go_enter Try.func30, Try.ntmps30
  go_wp2_with fail
  refine Calls.mono (HKD.out _ ((Up.refl _).alloc _)) ?_
  rintro e w1 ⟨vk, rfl, hrow, hu1⟩
  have HU1 : Hid (Up w w1) := ((Up.refl _).alloc _).trans hu1
  have y0 : w1.cell? ⟨w.heap.size, 0, none⟩ = some (.int .i8 10) := hu1.cell (by simp only [World.cell?, heap_alloc_new]; rfl)
  obtain ⟨ak, ck, rfl⟩ := row_val hrow
  have HKR : Hid (∀ i, i < N → ∃ g, ak = some ⟨g, 0, none⟩ ∧ ∀ W, Up w1 W → W.cell? ⟨g, i, none⟩ = some (.int .i64 ((K i : Nat) : Int))) := fun i hi => by
    obtain ⟨g, c2, -, -, h9⟩ := row_some hrow (by omega)
    cases h9
    exact ⟨g, rfl, fun W hu => hu.cell ((hrow.cellAt i (by omega)).trans (HKC.out i hi))⟩
  clear hu1 x0 x1 x2 x3 x4 x5 x6 HKD hrow
  go_wp2_with fail
  refine Calls.mono (rank_ 10 w1) ?_
  rintro e w2 ⟨rfl, hw⟩
  obtain rfl := hw.symm
  clear hw
  rw [show rRank 10 = 8 by decide]
  go_wp2_with fail
  refine Calls.mono (expr_ 10 w1) ?_
  rintro e w2 ⟨rfl, hw⟩
  obtain rfl := hw.symm
  clear hw
  rw [show rExpr 10 = false by decide]
  go_wp2_with fail
  go_loopw [9, 13] (fun s9 s13 W => ∃ i : Nat, i ≤ N ∧ s9 = .int .i64 ((mxA A E i : Nat) : Int) ∧ s13 = .int .i64 (i : Int) ∧ Up w1 W) (fun _ s13 _ => N - (intOf s13).toNat)
  case atStart => exact ⟨0, Nat.zero_le _, rfl, rfl, Up.refl _⟩
  case round =>
    obtain ⟨i, hi, rfl, rfl, hW⟩ := hrel
    have HW1 : Hid (Up w1 wr) := hW
    have HUr : Hid (Up w wr) := HU1.out.trans hW
    have z0 : wr.cell? ⟨w.heap.size, 0, none⟩ = some (.int .i8 10) := hW.cell y0
    clear hW
    have hN9 : N ≤ 1000000 := HNh.out
    by_cases hlt : i < N
    · have hlt2 : (i : Int) < (N : Int) := by omega
      have hi9 : (i : Int) ≤ 1000000 := by omega
      obtain ⟨g, rfl, hg⟩ := HKR.out i hlt
      have yk := hg wr HW1.out
      clear hg
      have hkn : ((K i : Nat) : Int) < (n : Int) := by have := HKn.out i hlt; omega
      have e1 : IntKind.i64.wrap ((i : Int) + 1) = ((i + 1 : Nat) : Int) := by rw [IntKind.wrap_i64]; omega
      obtain ⟨x, hx⟩ : ∃ x, x = mxA A E i := ⟨_, rfl⟩
      obtain ⟨y, hy⟩ : ∃ y, y = A i := ⟨_, rfl⟩
      have HX1 : Hid (mxA A E (i + 1) = max x y) := by unfold Hid; rw [mxA, hx, hy]
      have HB9 := HB.out i hlt wr HUr.out
      have HAO : Hid (∀ W, Up w W → Calls Try.prog 45 #[.slice (some ⟨bk, off, none⟩) n c, .int .i64 (K i : Int), .int .i64 (E : Int), .int .i64 (rWants 10 (i : Int))] W (fun e w' => e = .returned (.int .i64 (y : Int)) ∧ Up W w')) := by unfold Hid; rw [hy]; exact HAO.out i hlt
      rw [← hx]
      clear hx hy
      obtain ⟨kp, hkp⟩ : ∃ kp, kp = K i := ⟨_, rfl⟩
      rw [← hkp] at hkn HAO yk HB9
      clear hkp
      have HA9 : Hid (Calls Try.prog 45 #[.slice (some ⟨bk, off, none⟩) n c, .int .i64 (kp : Int), .int .i64 (E : Int), .int .i64 (rWants 10 (i : Int))] wr fun e w' => e = .returned (.int .i64 (y : Int)) ∧ Up wr w') := HAO.out wr HUr.out
      go_wp2_with fail
      refine Calls.mono (wants_ 10 (i : Int) wr (by omega) (by omega)) ?_
      rintro e w2 ⟨rfl, hw⟩
      obtain rfl := hw.symm
      clear hw
      go_wp2_with fail
      refine Calls.mono HA9.out ?_
      rintro e w2 ⟨rfl, hu2⟩
      have HU2 : Hid (Up w1 w2) := HW1.out.trans hu2
      clear hu2
      by_cases hmx : (y : Int) ≤ (x : Int)
      · go_wp2_with fail
        go_roundw
        case rel => exact ⟨i + 1, by omega, by rw [HX1.out, show max x y = x by omega] <;> rfl, by go_num, HU2.out⟩
        case measure => simp [intOf]; omega
      · go_wp2_with fail
        go_roundw
        case rel => exact ⟨i + 1, by omega, by rw [HX1.out, show max x y = y by omega] <;> rfl, by go_num, HU2.out⟩
        case measure => simp [intOf]; omega
    · obtain rfl : i = N := by omega
      go_wp2_with fail
      rw [HPo.out]
      exact ⟨rfl, HUr.out⟩
set_option maxRecDepth 100000 in
set_option maxHeartbeats 16000000 in
theorem open_at19 (v : Value) (l : List Nd) (p d N : Nat) (K A : Nat → Nat) (w : World) (a : Nd) (hv : NLs w v l) (hp : p < l.length) (ha : l.getD p dn = a) (hop : a.op = 19) (hn : l.length ≤ 1000000) (hd : d ≤ 100000000000) (hN : N ≤ 1000000)
    (hk : kds l (p : Int) = (List.range N).map fun i => ((K i : Nat) : Int)) (hK : ∀ i, i < N → K i < l.length) (hA : ∀ i, i < N → A i ≤ 1000000000000)
    (HA : ∀ i, i < N → ∀ W, Up w W → Calls Try.prog 45 #[v, .int .i64 (K i : Int), .int .i64 ((d + 1 : Nat) : Int), .int .i64 (rWants a.op (i : Int))] W (fun e w' => e = .returned (.int .i64 (A i : Int)) ∧ Up W w')) :
    Calls Try.prog 30 #[v, .int .i64 (p : Int), .int .i64 (d : Int)] w (fun e w' => e = .returned (.int .i64 ((mxA A (d + dopn a.op) N : Nat) : Int)) ∧ Up w w') := by
  have hdo : dopn a.op = 1 := by rw [hop]; decide
  rw [hdo]
  clear hdo
  obtain ⟨Post, hPost⟩ : ∃ P : Ending → World → Prop, P = fun e w' => e = .returned (.int .i64 ((mxA A (d + 1) N : Nat) : Int)) ∧ Up w w' := ⟨_, rfl⟩
  rw [← hPost]
  have HPo : Hid (Post = fun e w' => e = .returned (.int .i64 ((mxA A (d + 1) N : Nat) : Int)) ∧ Up w w') := hPost
  clear hPost
  have HKD : Hid (∀ W, Up w W → Calls Try.prog 40 #[v, .int .i64 (p : Int)] W (CpN W fun W' v' => W'.ownsRow W.heap.size 3 1 v' (kds l p).length (ivn (kds l p)))) := fun W hu => rkids_ v l p W (hv.up hu) hn (by omega)
  rw [hk] at HKD
  have HKL : Hid (((List.range N).map fun i => ((K i : Nat) : Int)).length = N) := by unfold Hid; rw [List.length_map, List.length_range]
  rw [HKL.out] at HKD
  have HKC : Hid (∀ i, i < N → (ivn ((List.range N).map fun i => ((K i : Nat) : Int)))[i]? = some (.int .i64 ((K i : Nat) : Int))) := fun i hi => by
    unfold ivn
    rw [List.getElem?_map, List.getElem?_map, List.getElem?_range hi]
    rfl
  obtain ⟨ad, c, rfl, hc, hcell⟩ := nl_at hv
  obtain ⟨bk, off, rfl, hce⟩ := hcell (by omega)
  have xs : ∀ j x, (ndc a)[j]? = some x → w.cell? ⟨bk, off + p * 7 + j, none⟩ = some x := fun j x hj => hce w (Up.refl _) p hp j x (by rw [ha]; exact hj)
  have HB : Hid (∀ i, i < N → ∀ W, Up w W → W.cell? ⟨bk, off + (K i) * 7, none⟩ = some (.int .i8 (l.getD (K i) dn).op)) := fun i hi W hu => hce W hu (K i) (hK i hi) 0 _ rfl
  obtain ⟨aop, akd, an, am, at_, aps, aks⟩ := a
  simp only at hop HA
  subst hop
  have x0 : w.cell? ⟨bk, off + p * 7, none⟩ = some (.int .i8 19) := xs 0 _ rfl
  have x1 : w.cell? ⟨bk, off + p * 7 + 1, none⟩ = some (.int .i8 akd) := xs 1 _ rfl
  have x2 : w.cell? ⟨bk, off + p * 7 + 2, none⟩ = some (.int .i64 an) := xs 2 _ rfl
  have x3 : w.cell? ⟨bk, off + p * 7 + 3, none⟩ = some (.int .i64 am) := xs 3 _ rfl
  have x4 : w.cell? ⟨bk, off + p * 7 + 4, none⟩ = some (.string (strOfNums at_)) := xs 4 _ rfl
  have x5 : w.cell? ⟨bk, off + p * 7 + 5, none⟩ = some (.int .i64 aps) := xs 5 _ rfl
  have x6 : w.cell? ⟨bk, off + p * 7 + 6, none⟩ = some (.int .i64 aks) := xs 6 _ rfl
  obtain ⟨n, hNl⟩ : ∃ n, n = l.length := ⟨_, rfl⟩
  have HKn : Hid (∀ i, i < N → K i < n) := fun i hi => by rw [hNl]; exact hK i hi
  rw [← hNl] at hp hn hc HKD HA ⊢
  have hp2 : (p : Int) < (n : Int) := by omega
  have HAO : Hid (∀ i, i < N → ∀ W, Up w W → Calls Try.prog 45 #[.slice (some ⟨bk, off, none⟩) n c, .int .i64 (K i : Int), .int .i64 ((d + 1 : Nat) : Int), .int .i64 (rWants 19 (i : Int))] W (fun e w' => e = .returned (.int .i64 (A i : Int)) ∧ Up W w')) := HA
  have HAl : Hid (∀ i, i < N → A i ≤ 1000000000000) := hA
  have HNh : Hid (N ≤ 1000000) := hN
  clear hcell hce hv hNl ha xs HA hK hA hk hN
  generalize strOfNums at_ = st at *
  obtain ⟨E, hE⟩ : ∃ E : Nat, E = d + 1 := ⟨_, rfl⟩
  have HEd : Hid (E = d + 1) := hE
  rw [← hE] at HPo HAO
  have eE : IntKind.i64.wrap ((d : Int) + 1) = (E : Int) := by rw [IntKind.wrap_i64]; omega
  have eE2 : wrap64 ((d : Int) + 1) = (E : Int) := by first | (unfold wrap64; omega) | (show IntKind.i64.wrap _ = _; exact eE)
  have hmd : ¬ (E : Int) ≤ (d : Int) := by omega
  have hmd2 : (d : Int) < (E : Int) := by omega
  have hmd3 : ¬ E ≤ d := by omega
  clear hE
  go_enter Try.func30, Try.ntmps30
  go_wp2_with fail
  refine Calls.mono (HKD.out _ ((Up.refl _).alloc _)) ?_
  rintro e w1 ⟨vk, rfl, hrow, hu1⟩
  have HU1 : Hid (Up w w1) := ((Up.refl _).alloc _).trans hu1
  have y0 : w1.cell? ⟨w.heap.size, 0, none⟩ = some (.int .i8 19) := hu1.cell (by simp only [World.cell?, heap_alloc_new]; rfl)
  obtain ⟨ak, ck, rfl⟩ := row_val hrow
  have HKR : Hid (∀ i, i < N → ∃ g, ak = some ⟨g, 0, none⟩ ∧ ∀ W, Up w1 W → W.cell? ⟨g, i, none⟩ = some (.int .i64 ((K i : Nat) : Int))) := fun i hi => by
    obtain ⟨g, c2, -, -, h9⟩ := row_some hrow (by omega)
    cases h9
    exact ⟨g, rfl, fun W hu => hu.cell ((hrow.cellAt i (by omega)).trans (HKC.out i hi))⟩
  clear hu1 x0 x1 x2 x3 x4 x5 x6 HKD hrow
  go_wp2_with fail
  refine Calls.mono (rank_ 19 w1) ?_
  rintro e w2 ⟨rfl, hw⟩
  obtain rfl := hw.symm
  clear hw
  rw [show rRank 19 = 8 by decide]
  go_wp2_with fail
  refine Calls.mono (expr_ 19 w1) ?_
  rintro e w2 ⟨rfl, hw⟩
  obtain rfl := hw.symm
  clear hw
  rw [show rExpr 19 = false by decide]
  go_wp2_with fail
  go_loopw [9, 13] (fun s9 s13 W => ∃ i : Nat, i ≤ N ∧ s9 = .int .i64 ((mxA A E i : Nat) : Int) ∧ s13 = .int .i64 (i : Int) ∧ Up w1 W) (fun _ s13 _ => N - (intOf s13).toNat)
  case atStart => exact ⟨0, Nat.zero_le _, rfl, rfl, Up.refl _⟩
  case round =>
    obtain ⟨i, hi, rfl, rfl, hW⟩ := hrel
    have HW1 : Hid (Up w1 wr) := hW
    have HUr : Hid (Up w wr) := HU1.out.trans hW
    have z0 : wr.cell? ⟨w.heap.size, 0, none⟩ = some (.int .i8 19) := hW.cell y0
    clear hW
    have hN9 : N ≤ 1000000 := HNh.out
    by_cases hlt : i < N
    · have hlt2 : (i : Int) < (N : Int) := by omega
      have hi9 : (i : Int) ≤ 1000000 := by omega
      obtain ⟨g, rfl, hg⟩ := HKR.out i hlt
      have yk := hg wr HW1.out
      clear hg
      have hkn : ((K i : Nat) : Int) < (n : Int) := by have := HKn.out i hlt; omega
      have e1 : IntKind.i64.wrap ((i : Int) + 1) = ((i + 1 : Nat) : Int) := by rw [IntKind.wrap_i64]; omega
      obtain ⟨x, hx⟩ : ∃ x, x = mxA A E i := ⟨_, rfl⟩
      obtain ⟨y, hy⟩ : ∃ y, y = A i := ⟨_, rfl⟩
      have HX1 : Hid (mxA A E (i + 1) = max x y) := by unfold Hid; rw [mxA, hx, hy]
      have HB9 := HB.out i hlt wr HUr.out
      have HAO : Hid (∀ W, Up w W → Calls Try.prog 45 #[.slice (some ⟨bk, off, none⟩) n c, .int .i64 (K i : Int), .int .i64 (E : Int), .int .i64 (rWants 19 (i : Int))] W (fun e w' => e = .returned (.int .i64 (y : Int)) ∧ Up W w')) := by unfold Hid; rw [hy]; exact HAO.out i hlt
      rw [← hx]
      clear hx hy
      obtain ⟨kp, hkp⟩ : ∃ kp, kp = K i := ⟨_, rfl⟩
      rw [← hkp] at hkn HAO yk HB9
      clear hkp
      have HA9 : Hid (Calls Try.prog 45 #[.slice (some ⟨bk, off, none⟩) n c, .int .i64 (kp : Int), .int .i64 (E : Int), .int .i64 (rWants 19 (i : Int))] wr fun e w' => e = .returned (.int .i64 (y : Int)) ∧ Up wr w') := HAO.out wr HUr.out
      go_wp2_with fail
      refine Calls.mono (wants_ 19 (i : Int) wr (by omega) (by omega)) ?_
      rintro e w2 ⟨rfl, hw⟩
      obtain rfl := hw.symm
      clear hw
      go_wp2_with fail
      refine Calls.mono HA9.out ?_
      rintro e w2 ⟨rfl, hu2⟩
      have HU2 : Hid (Up w1 w2) := HW1.out.trans hu2
      clear hu2
      by_cases hmx : (y : Int) ≤ (x : Int)
      · go_wp2_with fail
        go_roundw
        case rel => exact ⟨i + 1, by omega, by rw [HX1.out, show max x y = x by omega] <;> rfl, by go_num, HU2.out⟩
        case measure => simp [intOf]; omega
      · go_wp2_with fail
        go_roundw
        case rel => exact ⟨i + 1, by omega, by rw [HX1.out, show max x y = y by omega] <;> rfl, by go_num, HU2.out⟩
        case measure => simp [intOf]; omega
    · obtain rfl : i = N := by omega
      go_wp2_with fail
      rw [HPo.out]
      exact ⟨rfl, HUr.out⟩
set_option maxRecDepth 100000 in
set_option maxHeartbeats 16000000 in
theorem open_at50 (v : Value) (l : List Nd) (p d N : Nat) (K A : Nat → Nat) (w : World) (a : Nd) (hv : NLs w v l) (hp : p < l.length) (ha : l.getD p dn = a) (hop : a.op = 50) (hn : l.length ≤ 1000000) (hd : d ≤ 100000000000) (hN : N ≤ 1000000)
    (hk : kds l (p : Int) = (List.range N).map fun i => ((K i : Nat) : Int)) (hK : ∀ i, i < N → K i < l.length) (hA : ∀ i, i < N → A i ≤ 1000000000000)
    (HA : ∀ i, i < N → ∀ W, Up w W → Calls Try.prog 45 #[v, .int .i64 (K i : Int), .int .i64 ((d + 1 : Nat) : Int), .int .i64 (rWants a.op (i : Int))] W (fun e w' => e = .returned (.int .i64 (A i : Int)) ∧ Up W w')) :
    Calls Try.prog 30 #[v, .int .i64 (p : Int), .int .i64 (d : Int)] w (fun e w' => e = .returned (.int .i64 ((mxA A (d + dopn a.op) N : Nat) : Int)) ∧ Up w w') := by
  have hdo : dopn a.op = 1 := by rw [hop]; decide
  rw [hdo]
  clear hdo
  obtain ⟨Post, hPost⟩ : ∃ P : Ending → World → Prop, P = fun e w' => e = .returned (.int .i64 ((mxA A (d + 1) N : Nat) : Int)) ∧ Up w w' := ⟨_, rfl⟩
  rw [← hPost]
  have HPo : Hid (Post = fun e w' => e = .returned (.int .i64 ((mxA A (d + 1) N : Nat) : Int)) ∧ Up w w') := hPost
  clear hPost
  have HKD : Hid (∀ W, Up w W → Calls Try.prog 40 #[v, .int .i64 (p : Int)] W (CpN W fun W' v' => W'.ownsRow W.heap.size 3 1 v' (kds l p).length (ivn (kds l p)))) := fun W hu => rkids_ v l p W (hv.up hu) hn (by omega)
  rw [hk] at HKD
  have HKL : Hid (((List.range N).map fun i => ((K i : Nat) : Int)).length = N) := by unfold Hid; rw [List.length_map, List.length_range]
  rw [HKL.out] at HKD
  have HKC : Hid (∀ i, i < N → (ivn ((List.range N).map fun i => ((K i : Nat) : Int)))[i]? = some (.int .i64 ((K i : Nat) : Int))) := fun i hi => by
    unfold ivn
    rw [List.getElem?_map, List.getElem?_map, List.getElem?_range hi]
    rfl
  obtain ⟨ad, c, rfl, hc, hcell⟩ := nl_at hv
  obtain ⟨bk, off, rfl, hce⟩ := hcell (by omega)
  have xs : ∀ j x, (ndc a)[j]? = some x → w.cell? ⟨bk, off + p * 7 + j, none⟩ = some x := fun j x hj => hce w (Up.refl _) p hp j x (by rw [ha]; exact hj)
  have HB : Hid (∀ i, i < N → ∀ W, Up w W → W.cell? ⟨bk, off + (K i) * 7, none⟩ = some (.int .i8 (l.getD (K i) dn).op)) := fun i hi W hu => hce W hu (K i) (hK i hi) 0 _ rfl
  obtain ⟨aop, akd, an, am, at_, aps, aks⟩ := a
  simp only at hop HA
  subst hop
  have x0 : w.cell? ⟨bk, off + p * 7, none⟩ = some (.int .i8 50) := xs 0 _ rfl
  have x1 : w.cell? ⟨bk, off + p * 7 + 1, none⟩ = some (.int .i8 akd) := xs 1 _ rfl
  have x2 : w.cell? ⟨bk, off + p * 7 + 2, none⟩ = some (.int .i64 an) := xs 2 _ rfl
  have x3 : w.cell? ⟨bk, off + p * 7 + 3, none⟩ = some (.int .i64 am) := xs 3 _ rfl
  have x4 : w.cell? ⟨bk, off + p * 7 + 4, none⟩ = some (.string (strOfNums at_)) := xs 4 _ rfl
  have x5 : w.cell? ⟨bk, off + p * 7 + 5, none⟩ = some (.int .i64 aps) := xs 5 _ rfl
  have x6 : w.cell? ⟨bk, off + p * 7 + 6, none⟩ = some (.int .i64 aks) := xs 6 _ rfl
  obtain ⟨n, hNl⟩ : ∃ n, n = l.length := ⟨_, rfl⟩
  have HKn : Hid (∀ i, i < N → K i < n) := fun i hi => by rw [hNl]; exact hK i hi
  rw [← hNl] at hp hn hc HKD HA ⊢
  have hp2 : (p : Int) < (n : Int) := by omega
  have HAO : Hid (∀ i, i < N → ∀ W, Up w W → Calls Try.prog 45 #[.slice (some ⟨bk, off, none⟩) n c, .int .i64 (K i : Int), .int .i64 ((d + 1 : Nat) : Int), .int .i64 (rWants 50 (i : Int))] W (fun e w' => e = .returned (.int .i64 (A i : Int)) ∧ Up W w')) := HA
  have HAl : Hid (∀ i, i < N → A i ≤ 1000000000000) := hA
  have HNh : Hid (N ≤ 1000000) := hN
  clear hcell hce hv hNl ha xs HA hK hA hk hN
  generalize strOfNums at_ = st at *
  obtain ⟨E, hE⟩ : ∃ E : Nat, E = d + 1 := ⟨_, rfl⟩
  have HEd : Hid (E = d + 1) := hE
  rw [← hE] at HPo HAO
  have eE : IntKind.i64.wrap ((d : Int) + 1) = (E : Int) := by rw [IntKind.wrap_i64]; omega
  have eE2 : wrap64 ((d : Int) + 1) = (E : Int) := by first | (unfold wrap64; omega) | (show IntKind.i64.wrap _ = _; exact eE)
  have hmd : ¬ (E : Int) ≤ (d : Int) := by omega
  have hmd2 : (d : Int) < (E : Int) := by omega
  have hmd3 : ¬ E ≤ d := by omega
  clear hE
  go_enter Try.func30, Try.ntmps30
  go_wp2_with fail
  refine Calls.mono (HKD.out _ ((Up.refl _).alloc _)) ?_
  rintro e w1 ⟨vk, rfl, hrow, hu1⟩
  have HU1 : Hid (Up w w1) := ((Up.refl _).alloc _).trans hu1
  have y0 : w1.cell? ⟨w.heap.size, 0, none⟩ = some (.int .i8 50) := hu1.cell (by simp only [World.cell?, heap_alloc_new]; rfl)
  obtain ⟨ak, ck, rfl⟩ := row_val hrow
  have HKR : Hid (∀ i, i < N → ∃ g, ak = some ⟨g, 0, none⟩ ∧ ∀ W, Up w1 W → W.cell? ⟨g, i, none⟩ = some (.int .i64 ((K i : Nat) : Int))) := fun i hi => by
    obtain ⟨g, c2, -, -, h9⟩ := row_some hrow (by omega)
    cases h9
    exact ⟨g, rfl, fun W hu => hu.cell ((hrow.cellAt i (by omega)).trans (HKC.out i hi))⟩
  clear hu1 x0 x1 x2 x3 x4 x5 x6 HKD hrow
  go_wp2_with fail
  refine Calls.mono (rank_ 50 w1) ?_
  rintro e w2 ⟨rfl, hw⟩
  obtain rfl := hw.symm
  clear hw
  rw [show rRank 50 = 8 by decide]
  go_wp2_with fail
  refine Calls.mono (expr_ 50 w1) ?_
  rintro e w2 ⟨rfl, hw⟩
  obtain rfl := hw.symm
  clear hw
  rw [show rExpr 50 = true by decide]
  go_wp2_with fail
  go_loopw [9, 13] (fun s9 s13 W => ∃ i : Nat, i ≤ N ∧ s9 = .int .i64 ((mxA A E i : Nat) : Int) ∧ s13 = .int .i64 (i : Int) ∧ Up w1 W) (fun _ s13 _ => N - (intOf s13).toNat)
  case atStart => exact ⟨0, Nat.zero_le _, rfl, rfl, Up.refl _⟩
  case round =>
    obtain ⟨i, hi, rfl, rfl, hW⟩ := hrel
    have HW1 : Hid (Up w1 wr) := hW
    have HUr : Hid (Up w wr) := HU1.out.trans hW
    have z0 : wr.cell? ⟨w.heap.size, 0, none⟩ = some (.int .i8 50) := hW.cell y0
    clear hW
    have hN9 : N ≤ 1000000 := HNh.out
    by_cases hlt : i < N
    · have hlt2 : (i : Int) < (N : Int) := by omega
      have hi9 : (i : Int) ≤ 1000000 := by omega
      obtain ⟨g, rfl, hg⟩ := HKR.out i hlt
      have yk := hg wr HW1.out
      clear hg
      have hkn : ((K i : Nat) : Int) < (n : Int) := by have := HKn.out i hlt; omega
      have e1 : IntKind.i64.wrap ((i : Int) + 1) = ((i + 1 : Nat) : Int) := by rw [IntKind.wrap_i64]; omega
      obtain ⟨x, hx⟩ : ∃ x, x = mxA A E i := ⟨_, rfl⟩
      obtain ⟨y, hy⟩ : ∃ y, y = A i := ⟨_, rfl⟩
      have HX1 : Hid (mxA A E (i + 1) = max x y) := by unfold Hid; rw [mxA, hx, hy]
      have HB9 := HB.out i hlt wr HUr.out
      have HAO : Hid (∀ W, Up w W → Calls Try.prog 45 #[.slice (some ⟨bk, off, none⟩) n c, .int .i64 (K i : Int), .int .i64 (E : Int), .int .i64 (rWants 50 (i : Int))] W (fun e w' => e = .returned (.int .i64 (y : Int)) ∧ Up W w')) := by unfold Hid; rw [hy]; exact HAO.out i hlt
      rw [← hx]
      clear hx hy
      obtain ⟨kp, hkp⟩ : ∃ kp, kp = K i := ⟨_, rfl⟩
      rw [← hkp] at hkn HAO yk HB9
      clear hkp
      have HA9 : Hid (Calls Try.prog 45 #[.slice (some ⟨bk, off, none⟩) n c, .int .i64 (kp : Int), .int .i64 (E : Int), .int .i64 (rWants 50 (i : Int))] wr fun e w' => e = .returned (.int .i64 (y : Int)) ∧ Up wr w') := HAO.out wr HUr.out
      go_wp2_with fail
      refine Calls.mono (wants_ 50 (i : Int) wr (by omega) (by omega)) ?_
      rintro e w2 ⟨rfl, hw⟩
      obtain rfl := hw.symm
      clear hw
      go_wp2_with fail
      refine Calls.mono HA9.out ?_
      rintro e w2 ⟨rfl, hu2⟩
      have HU2 : Hid (Up w1 w2) := HW1.out.trans hu2
      clear hu2
      by_cases hmx : (y : Int) ≤ (x : Int)
      · go_wp2_with fail
        go_roundw
        case rel => exact ⟨i + 1, by omega, by rw [HX1.out, show max x y = x by omega] <;> rfl, by go_num, HU2.out⟩
        case measure => simp [intOf]; omega
      · go_wp2_with fail
        go_roundw
        case rel => exact ⟨i + 1, by omega, by rw [HX1.out, show max x y = y by omega] <;> rfl, by go_num, HU2.out⟩
        case measure => simp [intOf]; omega
    · obtain rfl : i = N := by omega
      go_wp2_with fail
      rw [HPo.out]
      exact ⟨rfl, HUr.out⟩
set_option maxRecDepth 100000 in
set_option maxHeartbeats 16000000 in
theorem open_at34 (v : Value) (l : List Nd) (p d N : Nat) (K A : Nat → Nat) (w : World) (a : Nd) (hv : NLs w v l) (hp : p < l.length) (ha : l.getD p dn = a) (hop : a.op = 34) (hn : l.length ≤ 1000000) (hd : d ≤ 100000000000) (hN : N ≤ 1000000)
    (hk : kds l (p : Int) = (List.range N).map fun i => ((K i : Nat) : Int)) (hK : ∀ i, i < N → K i < l.length) (hA : ∀ i, i < N → A i ≤ 1000000000000)
    (HA : ∀ i, i < N → ∀ W, Up w W → Calls Try.prog 45 #[v, .int .i64 (K i : Int), .int .i64 ((d + 1 : Nat) : Int), .int .i64 (rWants a.op (i : Int))] W (fun e w' => e = .returned (.int .i64 (A i : Int)) ∧ Up W w')) :
    Calls Try.prog 30 #[v, .int .i64 (p : Int), .int .i64 (d : Int)] w (fun e w' => e = .returned (.int .i64 ((mxA A (d + dopn a.op) N : Nat) : Int)) ∧ Up w w') := by
  have hdo : dopn a.op = 1 := by rw [hop]; decide
  rw [hdo]
  clear hdo
  obtain ⟨Post, hPost⟩ : ∃ P : Ending → World → Prop, P = fun e w' => e = .returned (.int .i64 ((mxA A (d + 1) N : Nat) : Int)) ∧ Up w w' := ⟨_, rfl⟩
  rw [← hPost]
  have HPo : Hid (Post = fun e w' => e = .returned (.int .i64 ((mxA A (d + 1) N : Nat) : Int)) ∧ Up w w') := hPost
  clear hPost
  have HKD : Hid (∀ W, Up w W → Calls Try.prog 40 #[v, .int .i64 (p : Int)] W (CpN W fun W' v' => W'.ownsRow W.heap.size 3 1 v' (kds l p).length (ivn (kds l p)))) := fun W hu => rkids_ v l p W (hv.up hu) hn (by omega)
  rw [hk] at HKD
  have HKL : Hid (((List.range N).map fun i => ((K i : Nat) : Int)).length = N) := by unfold Hid; rw [List.length_map, List.length_range]
  rw [HKL.out] at HKD
  have HKC : Hid (∀ i, i < N → (ivn ((List.range N).map fun i => ((K i : Nat) : Int)))[i]? = some (.int .i64 ((K i : Nat) : Int))) := fun i hi => by
    unfold ivn
    rw [List.getElem?_map, List.getElem?_map, List.getElem?_range hi]
    rfl
  obtain ⟨ad, c, rfl, hc, hcell⟩ := nl_at hv
  obtain ⟨bk, off, rfl, hce⟩ := hcell (by omega)
  have xs : ∀ j x, (ndc a)[j]? = some x → w.cell? ⟨bk, off + p * 7 + j, none⟩ = some x := fun j x hj => hce w (Up.refl _) p hp j x (by rw [ha]; exact hj)
  have HB : Hid (∀ i, i < N → ∀ W, Up w W → W.cell? ⟨bk, off + (K i) * 7, none⟩ = some (.int .i8 (l.getD (K i) dn).op)) := fun i hi W hu => hce W hu (K i) (hK i hi) 0 _ rfl
  obtain ⟨aop, akd, an, am, at_, aps, aks⟩ := a
  simp only at hop HA
  subst hop
  have x0 : w.cell? ⟨bk, off + p * 7, none⟩ = some (.int .i8 34) := xs 0 _ rfl
  have x1 : w.cell? ⟨bk, off + p * 7 + 1, none⟩ = some (.int .i8 akd) := xs 1 _ rfl
  have x2 : w.cell? ⟨bk, off + p * 7 + 2, none⟩ = some (.int .i64 an) := xs 2 _ rfl
  have x3 : w.cell? ⟨bk, off + p * 7 + 3, none⟩ = some (.int .i64 am) := xs 3 _ rfl
  have x4 : w.cell? ⟨bk, off + p * 7 + 4, none⟩ = some (.string (strOfNums at_)) := xs 4 _ rfl
  have x5 : w.cell? ⟨bk, off + p * 7 + 5, none⟩ = some (.int .i64 aps) := xs 5 _ rfl
  have x6 : w.cell? ⟨bk, off + p * 7 + 6, none⟩ = some (.int .i64 aks) := xs 6 _ rfl
  obtain ⟨n, hNl⟩ : ∃ n, n = l.length := ⟨_, rfl⟩
  have HKn : Hid (∀ i, i < N → K i < n) := fun i hi => by rw [hNl]; exact hK i hi
  rw [← hNl] at hp hn hc HKD HA ⊢
  have hp2 : (p : Int) < (n : Int) := by omega
  have HAO : Hid (∀ i, i < N → ∀ W, Up w W → Calls Try.prog 45 #[.slice (some ⟨bk, off, none⟩) n c, .int .i64 (K i : Int), .int .i64 ((d + 1 : Nat) : Int), .int .i64 (rWants 34 (i : Int))] W (fun e w' => e = .returned (.int .i64 (A i : Int)) ∧ Up W w')) := HA
  have HAl : Hid (∀ i, i < N → A i ≤ 1000000000000) := hA
  have HNh : Hid (N ≤ 1000000) := hN
  clear hcell hce hv hNl ha xs HA hK hA hk hN
  generalize strOfNums at_ = st at *
  obtain ⟨E, hE⟩ : ∃ E : Nat, E = d + 1 := ⟨_, rfl⟩
  have HEd : Hid (E = d + 1) := hE
  rw [← hE] at HPo HAO
  have eE : IntKind.i64.wrap ((d : Int) + 1) = (E : Int) := by rw [IntKind.wrap_i64]; omega
  have eE2 : wrap64 ((d : Int) + 1) = (E : Int) := by first | (unfold wrap64; omega) | (show IntKind.i64.wrap _ = _; exact eE)
  have hmd : ¬ (E : Int) ≤ (d : Int) := by omega
  have hmd2 : (d : Int) < (E : Int) := by omega
  have hmd3 : ¬ E ≤ d := by omega
  clear hE
  go_enter Try.func30, Try.ntmps30
  go_wp2_with fail
  refine Calls.mono (HKD.out _ ((Up.refl _).alloc _)) ?_
  rintro e w1 ⟨vk, rfl, hrow, hu1⟩
  have HU1 : Hid (Up w w1) := ((Up.refl _).alloc _).trans hu1
  have y0 : w1.cell? ⟨w.heap.size, 0, none⟩ = some (.int .i8 34) := hu1.cell (by simp only [World.cell?, heap_alloc_new]; rfl)
  obtain ⟨ak, ck, rfl⟩ := row_val hrow
  have HKR : Hid (∀ i, i < N → ∃ g, ak = some ⟨g, 0, none⟩ ∧ ∀ W, Up w1 W → W.cell? ⟨g, i, none⟩ = some (.int .i64 ((K i : Nat) : Int))) := fun i hi => by
    obtain ⟨g, c2, -, -, h9⟩ := row_some hrow (by omega)
    cases h9
    exact ⟨g, rfl, fun W hu => hu.cell ((hrow.cellAt i (by omega)).trans (HKC.out i hi))⟩
  clear hu1 x0 x1 x2 x3 x4 x5 x6 HKD hrow
  go_wp2_with fail
  refine Calls.mono (rank_ 34 w1) ?_
  rintro e w2 ⟨rfl, hw⟩
  obtain rfl := hw.symm
  clear hw
  rw [show rRank 34 = 3 by decide]
  go_wp2_with fail
  refine Calls.mono (expr_ 34 w1) ?_
  rintro e w2 ⟨rfl, hw⟩
  obtain rfl := hw.symm
  clear hw
  rw [show rExpr 34 = true by decide]
  go_wp2_with fail
  go_loopw [9, 13] (fun s9 s13 W => ∃ i : Nat, i ≤ N ∧ s9 = .int .i64 ((mxA A E i : Nat) : Int) ∧ s13 = .int .i64 (i : Int) ∧ Up w1 W) (fun _ s13 _ => N - (intOf s13).toNat)
  case atStart => exact ⟨0, Nat.zero_le _, rfl, rfl, Up.refl _⟩
  case round =>
    obtain ⟨i, hi, rfl, rfl, hW⟩ := hrel
    have HW1 : Hid (Up w1 wr) := hW
    have HUr : Hid (Up w wr) := HU1.out.trans hW
    have z0 : wr.cell? ⟨w.heap.size, 0, none⟩ = some (.int .i8 34) := hW.cell y0
    clear hW
    have hN9 : N ≤ 1000000 := HNh.out
    by_cases hlt : i < N
    · have hlt2 : (i : Int) < (N : Int) := by omega
      have hi9 : (i : Int) ≤ 1000000 := by omega
      obtain ⟨g, rfl, hg⟩ := HKR.out i hlt
      have yk := hg wr HW1.out
      clear hg
      have hkn : ((K i : Nat) : Int) < (n : Int) := by have := HKn.out i hlt; omega
      have e1 : IntKind.i64.wrap ((i : Int) + 1) = ((i + 1 : Nat) : Int) := by rw [IntKind.wrap_i64]; omega
      obtain ⟨x, hx⟩ : ∃ x, x = mxA A E i := ⟨_, rfl⟩
      obtain ⟨y, hy⟩ : ∃ y, y = A i := ⟨_, rfl⟩
      have HX1 : Hid (mxA A E (i + 1) = max x y) := by unfold Hid; rw [mxA, hx, hy]
      have HB9 := HB.out i hlt wr HUr.out
      have HAO : Hid (∀ W, Up w W → Calls Try.prog 45 #[.slice (some ⟨bk, off, none⟩) n c, .int .i64 (K i : Int), .int .i64 (E : Int), .int .i64 (rWants 34 (i : Int))] W (fun e w' => e = .returned (.int .i64 (y : Int)) ∧ Up W w')) := by unfold Hid; rw [hy]; exact HAO.out i hlt
      rw [← hx]
      clear hx hy
      obtain ⟨kp, hkp⟩ : ∃ kp, kp = K i := ⟨_, rfl⟩
      rw [← hkp] at hkn HAO yk HB9
      clear hkp
      have HA9 : Hid (Calls Try.prog 45 #[.slice (some ⟨bk, off, none⟩) n c, .int .i64 (kp : Int), .int .i64 (E : Int), .int .i64 (rWants 34 (i : Int))] wr fun e w' => e = .returned (.int .i64 (y : Int)) ∧ Up wr w') := HAO.out wr HUr.out
      go_wp2_with fail
      refine Calls.mono (wants_ 34 (i : Int) wr (by omega) (by omega)) ?_
      rintro e w2 ⟨rfl, hw⟩
      obtain rfl := hw.symm
      clear hw
      go_wp2_with fail
      refine Calls.mono HA9.out ?_
      rintro e w2 ⟨rfl, hu2⟩
      have HU2 : Hid (Up w1 w2) := HW1.out.trans hu2
      clear hu2
      by_cases hmx : (y : Int) ≤ (x : Int)
      · go_wp2_with fail
        go_roundw
        case rel => exact ⟨i + 1, by omega, by rw [HX1.out, show max x y = x by omega] <;> rfl, by go_num, HU2.out⟩
        case measure => simp [intOf]; omega
      · go_wp2_with fail
        go_roundw
        case rel => exact ⟨i + 1, by omega, by rw [HX1.out, show max x y = y by omega] <;> rfl, by go_num, HU2.out⟩
        case measure => simp [intOf]; omega
    · obtain rfl : i = N := by omega
      go_wp2_with fail
      rw [HPo.out]
      exact ⟨rfl, HUr.out⟩
set_option maxRecDepth 100000 in
set_option maxHeartbeats 16000000 in
theorem open_at35 (v : Value) (l : List Nd) (p d N : Nat) (K A : Nat → Nat) (w : World) (a : Nd) (hv : NLs w v l) (hp : p < l.length) (ha : l.getD p dn = a) (hop : a.op = 35) (hn : l.length ≤ 1000000) (hd : d ≤ 100000000000) (hN : N ≤ 1000000)
    (hk : kds l (p : Int) = (List.range N).map fun i => ((K i : Nat) : Int)) (hK : ∀ i, i < N → K i < l.length) (hA : ∀ i, i < N → A i ≤ 1000000000000)
    (HA : ∀ i, i < N → ∀ W, Up w W → Calls Try.prog 45 #[v, .int .i64 (K i : Int), .int .i64 ((d + 1 : Nat) : Int), .int .i64 (rWants a.op (i : Int))] W (fun e w' => e = .returned (.int .i64 (A i : Int)) ∧ Up W w')) :
    Calls Try.prog 30 #[v, .int .i64 (p : Int), .int .i64 (d : Int)] w (fun e w' => e = .returned (.int .i64 ((mxA A (d + dopn a.op) N : Nat) : Int)) ∧ Up w w') := by
  have hdo : dopn a.op = 1 := by rw [hop]; decide
  rw [hdo]
  clear hdo
  obtain ⟨Post, hPost⟩ : ∃ P : Ending → World → Prop, P = fun e w' => e = .returned (.int .i64 ((mxA A (d + 1) N : Nat) : Int)) ∧ Up w w' := ⟨_, rfl⟩
  rw [← hPost]
  have HPo : Hid (Post = fun e w' => e = .returned (.int .i64 ((mxA A (d + 1) N : Nat) : Int)) ∧ Up w w') := hPost
  clear hPost
  have HKD : Hid (∀ W, Up w W → Calls Try.prog 40 #[v, .int .i64 (p : Int)] W (CpN W fun W' v' => W'.ownsRow W.heap.size 3 1 v' (kds l p).length (ivn (kds l p)))) := fun W hu => rkids_ v l p W (hv.up hu) hn (by omega)
  rw [hk] at HKD
  have HKL : Hid (((List.range N).map fun i => ((K i : Nat) : Int)).length = N) := by unfold Hid; rw [List.length_map, List.length_range]
  rw [HKL.out] at HKD
  have HKC : Hid (∀ i, i < N → (ivn ((List.range N).map fun i => ((K i : Nat) : Int)))[i]? = some (.int .i64 ((K i : Nat) : Int))) := fun i hi => by
    unfold ivn
    rw [List.getElem?_map, List.getElem?_map, List.getElem?_range hi]
    rfl
  obtain ⟨ad, c, rfl, hc, hcell⟩ := nl_at hv
  obtain ⟨bk, off, rfl, hce⟩ := hcell (by omega)
  have xs : ∀ j x, (ndc a)[j]? = some x → w.cell? ⟨bk, off + p * 7 + j, none⟩ = some x := fun j x hj => hce w (Up.refl _) p hp j x (by rw [ha]; exact hj)
  have HB : Hid (∀ i, i < N → ∀ W, Up w W → W.cell? ⟨bk, off + (K i) * 7, none⟩ = some (.int .i8 (l.getD (K i) dn).op)) := fun i hi W hu => hce W hu (K i) (hK i hi) 0 _ rfl
  obtain ⟨aop, akd, an, am, at_, aps, aks⟩ := a
  simp only at hop HA
  subst hop
  have x0 : w.cell? ⟨bk, off + p * 7, none⟩ = some (.int .i8 35) := xs 0 _ rfl
  have x1 : w.cell? ⟨bk, off + p * 7 + 1, none⟩ = some (.int .i8 akd) := xs 1 _ rfl
  have x2 : w.cell? ⟨bk, off + p * 7 + 2, none⟩ = some (.int .i64 an) := xs 2 _ rfl
  have x3 : w.cell? ⟨bk, off + p * 7 + 3, none⟩ = some (.int .i64 am) := xs 3 _ rfl
  have x4 : w.cell? ⟨bk, off + p * 7 + 4, none⟩ = some (.string (strOfNums at_)) := xs 4 _ rfl
  have x5 : w.cell? ⟨bk, off + p * 7 + 5, none⟩ = some (.int .i64 aps) := xs 5 _ rfl
  have x6 : w.cell? ⟨bk, off + p * 7 + 6, none⟩ = some (.int .i64 aks) := xs 6 _ rfl
  obtain ⟨n, hNl⟩ : ∃ n, n = l.length := ⟨_, rfl⟩
  have HKn : Hid (∀ i, i < N → K i < n) := fun i hi => by rw [hNl]; exact hK i hi
  rw [← hNl] at hp hn hc HKD HA ⊢
  have hp2 : (p : Int) < (n : Int) := by omega
  have HAO : Hid (∀ i, i < N → ∀ W, Up w W → Calls Try.prog 45 #[.slice (some ⟨bk, off, none⟩) n c, .int .i64 (K i : Int), .int .i64 ((d + 1 : Nat) : Int), .int .i64 (rWants 35 (i : Int))] W (fun e w' => e = .returned (.int .i64 (A i : Int)) ∧ Up W w')) := HA
  have HAl : Hid (∀ i, i < N → A i ≤ 1000000000000) := hA
  have HNh : Hid (N ≤ 1000000) := hN
  clear hcell hce hv hNl ha xs HA hK hA hk hN
  generalize strOfNums at_ = st at *
  obtain ⟨E, hE⟩ : ∃ E : Nat, E = d + 1 := ⟨_, rfl⟩
  have HEd : Hid (E = d + 1) := hE
  rw [← hE] at HPo HAO
  have eE : IntKind.i64.wrap ((d : Int) + 1) = (E : Int) := by rw [IntKind.wrap_i64]; omega
  have eE2 : wrap64 ((d : Int) + 1) = (E : Int) := by first | (unfold wrap64; omega) | (show IntKind.i64.wrap _ = _; exact eE)
  have hmd : ¬ (E : Int) ≤ (d : Int) := by omega
  have hmd2 : (d : Int) < (E : Int) := by omega
  have hmd3 : ¬ E ≤ d := by omega
  clear hE
  go_enter Try.func30, Try.ntmps30
  go_wp2_with fail
  refine Calls.mono (HKD.out _ ((Up.refl _).alloc _)) ?_
  rintro e w1 ⟨vk, rfl, hrow, hu1⟩
  have HU1 : Hid (Up w w1) := ((Up.refl _).alloc _).trans hu1
  have y0 : w1.cell? ⟨w.heap.size, 0, none⟩ = some (.int .i8 35) := hu1.cell (by simp only [World.cell?, heap_alloc_new]; rfl)
  obtain ⟨ak, ck, rfl⟩ := row_val hrow
  have HKR : Hid (∀ i, i < N → ∃ g, ak = some ⟨g, 0, none⟩ ∧ ∀ W, Up w1 W → W.cell? ⟨g, i, none⟩ = some (.int .i64 ((K i : Nat) : Int))) := fun i hi => by
    obtain ⟨g, c2, -, -, h9⟩ := row_some hrow (by omega)
    cases h9
    exact ⟨g, rfl, fun W hu => hu.cell ((hrow.cellAt i (by omega)).trans (HKC.out i hi))⟩
  clear hu1 x0 x1 x2 x3 x4 x5 x6 HKD hrow
  go_wp2_with fail
  refine Calls.mono (rank_ 35 w1) ?_
  rintro e w2 ⟨rfl, hw⟩
  obtain rfl := hw.symm
  clear hw
  rw [show rRank 35 = 7 by decide]
  go_wp2_with fail
  refine Calls.mono (expr_ 35 w1) ?_
  rintro e w2 ⟨rfl, hw⟩
  obtain rfl := hw.symm
  clear hw
  rw [show rExpr 35 = true by decide]
  go_wp2_with fail
  go_loopw [9, 13] (fun s9 s13 W => ∃ i : Nat, i ≤ N ∧ s9 = .int .i64 ((mxA A E i : Nat) : Int) ∧ s13 = .int .i64 (i : Int) ∧ Up w1 W) (fun _ s13 _ => N - (intOf s13).toNat)
  case atStart => exact ⟨0, Nat.zero_le _, rfl, rfl, Up.refl _⟩
  case round =>
    obtain ⟨i, hi, rfl, rfl, hW⟩ := hrel
    have HW1 : Hid (Up w1 wr) := hW
    have HUr : Hid (Up w wr) := HU1.out.trans hW
    have z0 : wr.cell? ⟨w.heap.size, 0, none⟩ = some (.int .i8 35) := hW.cell y0
    clear hW
    have hN9 : N ≤ 1000000 := HNh.out
    by_cases hlt : i < N
    · have hlt2 : (i : Int) < (N : Int) := by omega
      have hi9 : (i : Int) ≤ 1000000 := by omega
      obtain ⟨g, rfl, hg⟩ := HKR.out i hlt
      have yk := hg wr HW1.out
      clear hg
      have hkn : ((K i : Nat) : Int) < (n : Int) := by have := HKn.out i hlt; omega
      have e1 : IntKind.i64.wrap ((i : Int) + 1) = ((i + 1 : Nat) : Int) := by rw [IntKind.wrap_i64]; omega
      obtain ⟨x, hx⟩ : ∃ x, x = mxA A E i := ⟨_, rfl⟩
      obtain ⟨y, hy⟩ : ∃ y, y = A i := ⟨_, rfl⟩
      have HX1 : Hid (mxA A E (i + 1) = max x y) := by unfold Hid; rw [mxA, hx, hy]
      have HB9 := HB.out i hlt wr HUr.out
      have HAO : Hid (∀ W, Up w W → Calls Try.prog 45 #[.slice (some ⟨bk, off, none⟩) n c, .int .i64 (K i : Int), .int .i64 (E : Int), .int .i64 (rWants 35 (i : Int))] W (fun e w' => e = .returned (.int .i64 (y : Int)) ∧ Up W w')) := by unfold Hid; rw [hy]; exact HAO.out i hlt
      rw [← hx]
      clear hx hy
      obtain ⟨kp, hkp⟩ : ∃ kp, kp = K i := ⟨_, rfl⟩
      rw [← hkp] at hkn HAO yk HB9
      clear hkp
      have HA9 : Hid (Calls Try.prog 45 #[.slice (some ⟨bk, off, none⟩) n c, .int .i64 (kp : Int), .int .i64 (E : Int), .int .i64 (rWants 35 (i : Int))] wr fun e w' => e = .returned (.int .i64 (y : Int)) ∧ Up wr w') := HAO.out wr HUr.out
      go_wp2_with fail
      refine Calls.mono (wants_ 35 (i : Int) wr (by omega) (by omega)) ?_
      rintro e w2 ⟨rfl, hw⟩
      obtain rfl := hw.symm
      clear hw
      go_wp2_with fail
      refine Calls.mono HA9.out ?_
      rintro e w2 ⟨rfl, hu2⟩
      have HU2 : Hid (Up w1 w2) := HW1.out.trans hu2
      clear hu2
      by_cases hmx : (y : Int) ≤ (x : Int)
      · go_wp2_with fail
        go_roundw
        case rel => exact ⟨i + 1, by omega, by rw [HX1.out, show max x y = x by omega] <;> rfl, by go_num, HU2.out⟩
        case measure => simp [intOf]; omega
      · go_wp2_with fail
        go_roundw
        case rel => exact ⟨i + 1, by omega, by rw [HX1.out, show max x y = y by omega] <;> rfl, by go_num, HU2.out⟩
        case measure => simp [intOf]; omega
    · obtain rfl : i = N := by omega
      go_wp2_with fail
      rw [HPo.out]
      exact ⟨rfl, HUr.out⟩
set_option maxRecDepth 100000 in
set_option maxHeartbeats 16000000 in
theorem open_at13 (v : Value) (l : List Nd) (p d N : Nat) (K A : Nat → Nat) (w : World) (a : Nd) (hv : NLs w v l) (hp : p < l.length) (ha : l.getD p dn = a) (hop : a.op = 13) (hn : l.length ≤ 1000000) (hd : d ≤ 100000000000) (hN : N ≤ 1000000)
    (hk : kds l (p : Int) = (List.range N).map fun i => ((K i : Nat) : Int)) (hK : ∀ i, i < N → K i < l.length) (hA : ∀ i, i < N → A i ≤ 1000000000000)
    (HA : ∀ i, i < N → ∀ W, Up w W → if i = 2 ∧ (l.getD (K i) dn).op = 13 then Calls Try.prog 30 #[v, .int .i64 (K i : Int), .int .i64 ((d + 1 : Nat) : Int)] W (fun e w' => e = .returned (.int .i64 (A i : Int)) ∧ Up W w') else Calls Try.prog 45 #[v, .int .i64 (K i : Int), .int .i64 (d : Int), .int .i64 (rWants 13 (i : Int))] W (fun e w' => e = .returned (.int .i64 (A i : Int)) ∧ Up W w')) :
    Calls Try.prog 30 #[v, .int .i64 (p : Int), .int .i64 (d : Int)] w (fun e w' => e = .returned (.int .i64 ((mxA A (d + dopn a.op) N : Nat) : Int)) ∧ Up w w') := by
  have hdo : dopn a.op = 0 := by rw [hop]; decide
  rw [hdo]
  clear hdo
  obtain ⟨Post, hPost⟩ : ∃ P : Ending → World → Prop, P = fun e w' => e = .returned (.int .i64 ((mxA A (d + 0) N : Nat) : Int)) ∧ Up w w' := ⟨_, rfl⟩
  rw [← hPost]
  have HPo : Hid (Post = fun e w' => e = .returned (.int .i64 ((mxA A (d + 0) N : Nat) : Int)) ∧ Up w w') := hPost
  clear hPost
  have HKD : Hid (∀ W, Up w W → Calls Try.prog 40 #[v, .int .i64 (p : Int)] W (CpN W fun W' v' => W'.ownsRow W.heap.size 3 1 v' (kds l p).length (ivn (kds l p)))) := fun W hu => rkids_ v l p W (hv.up hu) hn (by omega)
  rw [hk] at HKD
  have HKL : Hid (((List.range N).map fun i => ((K i : Nat) : Int)).length = N) := by unfold Hid; rw [List.length_map, List.length_range]
  rw [HKL.out] at HKD
  have HKC : Hid (∀ i, i < N → (ivn ((List.range N).map fun i => ((K i : Nat) : Int)))[i]? = some (.int .i64 ((K i : Nat) : Int))) := fun i hi => by
    unfold ivn
    rw [List.getElem?_map, List.getElem?_map, List.getElem?_range hi]
    rfl
  obtain ⟨ad, c, rfl, hc, hcell⟩ := nl_at hv
  obtain ⟨bk, off, rfl, hce⟩ := hcell (by omega)
  have xs : ∀ j x, (ndc a)[j]? = some x → w.cell? ⟨bk, off + p * 7 + j, none⟩ = some x := fun j x hj => hce w (Up.refl _) p hp j x (by rw [ha]; exact hj)
  have HB : Hid (∀ i, i < N → ∀ W, Up w W → W.cell? ⟨bk, off + (K i) * 7, none⟩ = some (.int .i8 (l.getD (K i) dn).op)) := fun i hi W hu => hce W hu (K i) (hK i hi) 0 _ rfl
  obtain ⟨aop, akd, an, am, at_, aps, aks⟩ := a
  simp only at hop HA
  subst hop
  have x0 : w.cell? ⟨bk, off + p * 7, none⟩ = some (.int .i8 13) := xs 0 _ rfl
  have x1 : w.cell? ⟨bk, off + p * 7 + 1, none⟩ = some (.int .i8 akd) := xs 1 _ rfl
  have x2 : w.cell? ⟨bk, off + p * 7 + 2, none⟩ = some (.int .i64 an) := xs 2 _ rfl
  have x3 : w.cell? ⟨bk, off + p * 7 + 3, none⟩ = some (.int .i64 am) := xs 3 _ rfl
  have x4 : w.cell? ⟨bk, off + p * 7 + 4, none⟩ = some (.string (strOfNums at_)) := xs 4 _ rfl
  have x5 : w.cell? ⟨bk, off + p * 7 + 5, none⟩ = some (.int .i64 aps) := xs 5 _ rfl
  have x6 : w.cell? ⟨bk, off + p * 7 + 6, none⟩ = some (.int .i64 aks) := xs 6 _ rfl
  obtain ⟨n, hNl⟩ : ∃ n, n = l.length := ⟨_, rfl⟩
  have HKn : Hid (∀ i, i < N → K i < n) := fun i hi => by rw [hNl]; exact hK i hi
  rw [← hNl] at hp hn hc HKD HA ⊢
  have hp2 : (p : Int) < (n : Int) := by omega
  have HAO : Hid (∀ i, i < N → ∀ W, Up w W → if i = 2 ∧ (l.getD (K i) dn).op = 13 then Calls Try.prog 30 #[.slice (some ⟨bk, off, none⟩) n c, .int .i64 (K i : Int), .int .i64 ((d + 1 : Nat) : Int)] W (fun e w' => e = .returned (.int .i64 (A i : Int)) ∧ Up W w') else Calls Try.prog 45 #[.slice (some ⟨bk, off, none⟩) n c, .int .i64 (K i : Int), .int .i64 (d : Int), .int .i64 (rWants 13 (i : Int))] W (fun e w' => e = .returned (.int .i64 (A i : Int)) ∧ Up W w')) := HA
  have HAl : Hid (∀ i, i < N → A i ≤ 1000000000000) := hA
  have HNh : Hid (N ≤ 1000000) := hN
  clear hcell hce hv hNl ha xs HA hK hA hk hN
  generalize strOfNums at_ = st at *
  obtain ⟨E, hE⟩ : ∃ E : Nat, E = d + 0 := ⟨_, rfl⟩
  have HEd : Hid (E = d + 0) := hE
  rw [← hE] at HPo
  obtain rfl : E = d := by omega
  clear hE
  have hEb : (E : Int) ≤ 100000000000 := by omega
  obtain ⟨E1, hE1⟩ : ∃ E1 : Nat, E1 = E + 1 := ⟨_, rfl⟩
  rw [← hE1] at HAO
  have eE : IntKind.i64.wrap ((E : Int) + 1) = (E1 : Int) := by rw [IntKind.wrap_i64]; omega
  have eE2 : wrap64 ((E : Int) + 1) = (E1 : Int) := by first | (unfold wrap64; omega) | (show IntKind.i64.wrap _ = _; exact eE)
  clear hE1
  go_enter Try.func30, Try.ntmps30
  go_wp2_with fail
  refine Calls.mono (HKD.out _ ((Up.refl _).alloc _)) ?_
  rintro e w1 ⟨vk, rfl, hrow, hu1⟩
  have HU1 : Hid (Up w w1) := ((Up.refl _).alloc _).trans hu1
  have y0 : w1.cell? ⟨w.heap.size, 0, none⟩ = some (.int .i8 13) := hu1.cell (by simp only [World.cell?, heap_alloc_new]; rfl)
  obtain ⟨ak, ck, rfl⟩ := row_val hrow
  have HKR : Hid (∀ i, i < N → ∃ g, ak = some ⟨g, 0, none⟩ ∧ ∀ W, Up w1 W → W.cell? ⟨g, i, none⟩ = some (.int .i64 ((K i : Nat) : Int))) := fun i hi => by
    obtain ⟨g, c2, -, -, h9⟩ := row_some hrow (by omega)
    cases h9
    exact ⟨g, rfl, fun W hu => hu.cell ((hrow.cellAt i (by omega)).trans (HKC.out i hi))⟩
  clear hu1 x0 x1 x2 x3 x4 x5 x6 HKD hrow
  go_wp2_with fail
  refine Calls.mono (rank_ 13 w1) ?_
  rintro e w2 ⟨rfl, hw⟩
  obtain rfl := hw.symm
  clear hw
  rw [show rRank 13 = 8 by decide]
  go_wp2_with fail
  refine Calls.mono (expr_ 13 w1) ?_
  rintro e w2 ⟨rfl, hw⟩
  obtain rfl := hw.symm
  clear hw
  rw [show rExpr 13 = false by decide]
  go_wp2_with fail
  go_loopw [9, 13] (fun s9 s13 W => ∃ i : Nat, i ≤ N ∧ s9 = .int .i64 ((mxA A E i : Nat) : Int) ∧ s13 = .int .i64 (i : Int) ∧ Up w1 W) (fun _ s13 _ => N - (intOf s13).toNat)
  case atStart => exact ⟨0, Nat.zero_le _, rfl, rfl, Up.refl _⟩
  case round =>
    obtain ⟨i, hi, rfl, rfl, hW⟩ := hrel
    have HW1 : Hid (Up w1 wr) := hW
    have HUr : Hid (Up w wr) := HU1.out.trans hW
    have z0 : wr.cell? ⟨w.heap.size, 0, none⟩ = some (.int .i8 13) := hW.cell y0
    clear hW
    have hN9 : N ≤ 1000000 := HNh.out
    by_cases hlt : i < N
    · have hlt2 : (i : Int) < (N : Int) := by omega
      have hi9 : (i : Int) ≤ 1000000 := by omega
      obtain ⟨g, rfl, hg⟩ := HKR.out i hlt
      have yk := hg wr HW1.out
      clear hg
      have hkn : ((K i : Nat) : Int) < (n : Int) := by have := HKn.out i hlt; omega
      have e1 : IntKind.i64.wrap ((i : Int) + 1) = ((i + 1 : Nat) : Int) := by rw [IntKind.wrap_i64]; omega
      obtain ⟨x, hx⟩ : ∃ x, x = mxA A E i := ⟨_, rfl⟩
      obtain ⟨y, hy⟩ : ∃ y, y = A i := ⟨_, rfl⟩
      have HX1 : Hid (mxA A E (i + 1) = max x y) := by unfold Hid; rw [mxA, hx, hy]
      have HB9 := HB.out i hlt wr HUr.out
      have HAO : Hid (∀ W, Up w W → if i = 2 ∧ (l.getD (K i) dn).op = 13 then Calls Try.prog 30 #[.slice (some ⟨bk, off, none⟩) n c, .int .i64 (K i : Int), .int .i64 (E1 : Int)] W (fun e w' => e = .returned (.int .i64 (y : Int)) ∧ Up W w') else Calls Try.prog 45 #[.slice (some ⟨bk, off, none⟩) n c, .int .i64 (K i : Int), .int .i64 (E : Int), .int .i64 (rWants 13 (i : Int))] W (fun e w' => e = .returned (.int .i64 (y : Int)) ∧ Up W w')) := by unfold Hid; rw [hy]; exact HAO.out i hlt
      rw [← hx]
      clear hx hy
      obtain ⟨kp, hkp⟩ : ∃ kp, kp = K i := ⟨_, rfl⟩
      rw [← hkp] at hkn HAO yk HB9
      clear hkp
      have HA9 := HAO.out wr HUr.out
      generalize (l.getD kp dn).op = ko at HB9 HA9
      by_cases h2 : i = 2
      · subst h2
        by_cases hko : ko = 13
        · rw [if_pos ⟨rfl, hko⟩] at HA9
          subst hko
          have HA8 : Hid (Calls Try.prog 30 #[.slice (some ⟨bk, off, none⟩) n c, .int .i64 (kp : Int), .int .i64 (E1 : Int)] wr fun e w' => e = .returned (.int .i64 (y : Int)) ∧ Up wr w') := HA9
          clear HA9
          go_wp2_with fail
          refine Calls.mono HA8.out ?_
          rintro e w2 ⟨rfl, hu2⟩
          have HU2 : Hid (Up w1 w2) := HW1.out.trans hu2
          clear hu2
          by_cases hmx : (y : Int) ≤ (x : Int)
          · go_wp2_with fail
            go_roundw
            case rel => exact ⟨2 + 1, by omega, by rw [HX1.out, show max x y = x by omega] <;> rfl, by go_num, HU2.out⟩
            case measure => simp [intOf]; omega
          · go_wp2_with fail
            go_roundw
            case rel => exact ⟨2 + 1, by omega, by rw [HX1.out, show max x y = y by omega] <;> rfl, by go_num, HU2.out⟩
            case measure => simp [intOf]; omega
        · rw [if_neg (fun h => hko h.2)] at HA9
          have tk : (ko == 13) = false := by simpa using hko
          clear hko
          have HA8 : Hid (Calls Try.prog 45 #[.slice (some ⟨bk, off, none⟩) n c, .int .i64 (kp : Int), .int .i64 (E : Int), .int .i64 (rWants 13 ((2 : Nat) : Int))] wr fun e w' => e = .returned (.int .i64 (y : Int)) ∧ Up wr w') := HA9
          clear HA9
          go_wp2_with fail
          refine Calls.mono (wants_ 13 2 wr (by omega) (by omega)) ?_
          rintro e w2 ⟨rfl, hw⟩
          obtain rfl := hw.symm
          clear hw
          go_wp2_with fail
          refine Calls.mono HA8.out ?_
          rintro e w2 ⟨rfl, hu2⟩
          have HU2 : Hid (Up w1 w2) := HW1.out.trans hu2
          clear hu2
          by_cases hmx : (y : Int) ≤ (x : Int)
          · go_wp2_with fail
            go_roundw
            case rel => exact ⟨2 + 1, by omega, by rw [HX1.out, show max x y = x by omega] <;> rfl, by go_num, HU2.out⟩
            case measure => simp [intOf]; omega
          · go_wp2_with fail
            go_roundw
            case rel => exact ⟨2 + 1, by omega, by rw [HX1.out, show max x y = y by omega] <;> rfl, by go_num, HU2.out⟩
            case measure => simp [intOf]; omega
      · rw [if_neg (fun h => h2 h.1)] at HA9
        have ti : ((i : Int) == 2) = false := by simp; omega
        have ti2 : ¬ i = 2 := h2
        clear h2
        have HA8 : Hid (Calls Try.prog 45 #[.slice (some ⟨bk, off, none⟩) n c, .int .i64 (kp : Int), .int .i64 (E : Int), .int .i64 (rWants 13 (i : Int))] wr fun e w' => e = .returned (.int .i64 (y : Int)) ∧ Up wr w') := HA9
        clear HA9
        go_wp2_with fail
        refine Calls.mono (wants_ 13 (i : Int) wr (by omega) (by omega)) ?_
        rintro e w2 ⟨rfl, hw⟩
        obtain rfl := hw.symm
        clear hw
        go_wp2_with fail
        refine Calls.mono HA8.out ?_
        rintro e w2 ⟨rfl, hu2⟩
        have HU2 : Hid (Up w1 w2) := HW1.out.trans hu2
        clear hu2
        by_cases hmx : (y : Int) ≤ (x : Int)
        · go_wp2_with fail
          go_roundw
          case rel => exact ⟨i + 1, by omega, by rw [HX1.out, show max x y = x by omega] <;> rfl, by go_num, HU2.out⟩
          case measure => simp [intOf]; omega
        · go_wp2_with fail
          go_roundw
          case rel => exact ⟨i + 1, by omega, by rw [HX1.out, show max x y = y by omega] <;> rfl, by go_num, HU2.out⟩
          case measure => simp [intOf]; omega
    · obtain rfl : i = N := by omega
      go_wp2_with fail
      rw [HPo.out]
      exact ⟨rfl, HUr.out⟩
set_option maxRecDepth 100000 in
set_option maxHeartbeats 16000000 in
theorem open_other (v : Value) (l : List Nd) (p d N : Nat) (K A : Nat → Nat) (w : World) (a : Nd) (hv : NLs w v l) (hp : p < l.length) (ha : l.getD p dn = a) (h49 : a.op ≠ 49) (h10 : a.op ≠ 10) (h19 : a.op ≠ 19) (h50 : a.op ≠ 50) (h34 : a.op ≠ 34) (h35 : a.op ≠ 35) (h13 : a.op ≠ 13) (hrow : rrow a.op = false) (hn : l.length ≤ 1000000) (hd : d ≤ 100000000000) (hN : N ≤ 1000000)
    (hk : kds l (p : Int) = (List.range N).map fun i => ((K i : Nat) : Int)) (hK : ∀ i, i < N → K i < l.length) (hA : ∀ i, i < N → A i ≤ 1000000000000)
    (HA : ∀ i, i < N → ∀ W, Up w W → Calls Try.prog 45 #[v, .int .i64 (K i : Int), .int .i64 ((d + 0 : Nat) : Int), .int .i64 (rWants a.op (i : Int))] W (fun e w' => e = .returned (.int .i64 (A i : Int)) ∧ Up W w')) :
    Calls Try.prog 30 #[v, .int .i64 (p : Int), .int .i64 (d : Int)] w (fun e w' => e = .returned (.int .i64 ((mxA A (d + dopn a.op) N : Nat) : Int)) ∧ Up w w') := by
  have hdo : dopn a.op = 0 := by unfold dopn; rw [if_neg (by omega)]
  rw [hdo]
  clear hdo
  obtain ⟨Post, hPost⟩ : ∃ P : Ending → World → Prop, P = fun e w' => e = .returned (.int .i64 ((mxA A (d + 0) N : Nat) : Int)) ∧ Up w w' := ⟨_, rfl⟩
  rw [← hPost]
  have HPo : Hid (Post = fun e w' => e = .returned (.int .i64 ((mxA A (d + 0) N : Nat) : Int)) ∧ Up w w') := hPost
  clear hPost
  have HKD : Hid (∀ W, Up w W → Calls Try.prog 40 #[v, .int .i64 (p : Int)] W (CpN W fun W' v' => W'.ownsRow W.heap.size 3 1 v' (kds l p).length (ivn (kds l p)))) := fun W hu => rkids_ v l p W (hv.up hu) hn (by omega)
  rw [hk] at HKD
  have HKL : Hid (((List.range N).map fun i => ((K i : Nat) : Int)).length = N) := by unfold Hid; rw [List.length_map, List.length_range]
  rw [HKL.out] at HKD
  have HKC : Hid (∀ i, i < N → (ivn ((List.range N).map fun i => ((K i : Nat) : Int)))[i]? = some (.int .i64 ((K i : Nat) : Int))) := fun i hi => by
    unfold ivn
    rw [List.getElem?_map, List.getElem?_map, List.getElem?_range hi]
    rfl
  obtain ⟨ad, c, rfl, hc, hcell⟩ := nl_at hv
  obtain ⟨bk, off, rfl, hce⟩ := hcell (by omega)
  have xs : ∀ j x, (ndc a)[j]? = some x → w.cell? ⟨bk, off + p * 7 + j, none⟩ = some x := fun j x hj => hce w (Up.refl _) p hp j x (by rw [ha]; exact hj)
  have HB : Hid (∀ i, i < N → ∀ W, Up w W → W.cell? ⟨bk, off + (K i) * 7, none⟩ = some (.int .i8 (l.getD (K i) dn).op)) := fun i hi W hu => hce W hu (K i) (hK i hi) 0 _ rfl
  obtain ⟨aop, akd, an, am, at_, aps, aks⟩ := a
  simp only at h49 h10 h19 h50 h34 h35 h13 hrow HA
  have x0 : w.cell? ⟨bk, off + p * 7, none⟩ = some (.int .i8 aop) := xs 0 _ rfl
  have x1 : w.cell? ⟨bk, off + p * 7 + 1, none⟩ = some (.int .i8 akd) := xs 1 _ rfl
  have x2 : w.cell? ⟨bk, off + p * 7 + 2, none⟩ = some (.int .i64 an) := xs 2 _ rfl
  have x3 : w.cell? ⟨bk, off + p * 7 + 3, none⟩ = some (.int .i64 am) := xs 3 _ rfl
  have x4 : w.cell? ⟨bk, off + p * 7 + 4, none⟩ = some (.string (strOfNums at_)) := xs 4 _ rfl
  have x5 : w.cell? ⟨bk, off + p * 7 + 5, none⟩ = some (.int .i64 aps) := xs 5 _ rfl
  have x6 : w.cell? ⟨bk, off + p * 7 + 6, none⟩ = some (.int .i64 aks) := xs 6 _ rfl
  obtain ⟨n, hNl⟩ : ∃ n, n = l.length := ⟨_, rfl⟩
  have HKn : Hid (∀ i, i < N → K i < n) := fun i hi => by rw [hNl]; exact hK i hi
  rw [← hNl] at hp hn hc HKD HA ⊢
  have hp2 : (p : Int) < (n : Int) := by omega
  have HAO : Hid (∀ i, i < N → ∀ W, Up w W → Calls Try.prog 45 #[.slice (some ⟨bk, off, none⟩) n c, .int .i64 (K i : Int), .int .i64 ((d + 0 : Nat) : Int), .int .i64 (rWants aop (i : Int))] W (fun e w' => e = .returned (.int .i64 (A i : Int)) ∧ Up W w')) := HA
  have HAl : Hid (∀ i, i < N → A i ≤ 1000000000000) := hA
  have HNh : Hid (N ≤ 1000000) := hN
  clear hcell hce hv hNl ha xs HA hK hA hk hN
  generalize strOfNums at_ = st at *
  obtain ⟨E, hE⟩ : ∃ E : Nat, E = d + 0 := ⟨_, rfl⟩
  have HEd : Hid (E = d + 0) := hE
  rw [← hE] at HPo HAO
  obtain rfl : E = d := by omega
  clear hE
  have hEb : (E : Int) ≤ 100000000000 := by omega
  have t49 : (aop == 49) = false := by simpa using h49
  have t10 : (aop == 10) = false := by simpa using h10
  have t19 : (aop == 19) = false := by simpa using h19
  have t50 : (aop == 50) = false := by simpa using h50
  have t34 : (aop == 34) = false := by simpa using h34
  have t35 : (aop == 35) = false := by simpa using h35
  have t13 : (aop == 13) = false := by simpa using h13
  have HRW : Hid (rrow aop = false) := hrow
  clear h49 h10 h19 h50 h34 h35 h13 hrow
  go_enter Try.func30, Try.ntmps30
  go_wp2_with fail
  refine Calls.mono (HKD.out _ ((Up.refl _).alloc _)) ?_
  rintro e w1 ⟨vk, rfl, hrow, hu1⟩
  have HU1 : Hid (Up w w1) := ((Up.refl _).alloc _).trans hu1
  have y0 : w1.cell? ⟨w.heap.size, 0, none⟩ = some (.int .i8 aop) := hu1.cell (by simp only [World.cell?, heap_alloc_new]; rfl)
  obtain ⟨ak, ck, rfl⟩ := row_val hrow
  have HKR : Hid (∀ i, i < N → ∃ g, ak = some ⟨g, 0, none⟩ ∧ ∀ W, Up w1 W → W.cell? ⟨g, i, none⟩ = some (.int .i64 ((K i : Nat) : Int))) := fun i hi => by
    obtain ⟨g, c2, -, -, h9⟩ := row_some hrow (by omega)
    cases h9
    exact ⟨g, rfl, fun W hu => hu.cell ((hrow.cellAt i (by omega)).trans (HKC.out i hi))⟩
  clear hu1 x0 x1 x2 x3 x4 x5 x6 HKD hrow
  go_wp2_with fail
  refine Calls.mono (rank_ aop w1) ?_
  rintro e w2 ⟨rfl, hw⟩
  obtain rfl := hw.symm
  clear hw
  have hrx : rExpr aop = false ∨ (rExpr aop = true ∧ (rRank aop == 1) = false ∧ (rRank aop == 2) = false ∧ (rRank aop == 5) = false ∧ (rRank aop == 6) = false) := by
    have h := HRW.out
    unfold rrow at h
    cases hx : rExpr aop with
    | false => exact .inl rfl
    | true =>
      rw [hx] at h
      simp only [Bool.true_and, Bool.or_eq_false_iff] at h
      exact .inr ⟨rfl, h.1, h.2.1, h.2.2.1, h.2.2.2⟩
  generalize rRank aop = rr at *
  go_wp2_with fail
  refine Calls.mono (expr_ aop w1) ?_
  rintro e w2 ⟨rfl, hw⟩
  obtain rfl := hw.symm
  clear hw
  rcases hrx with hx | ⟨hx, hr1, hr2, hr5, hr6⟩
  · rw [hx]
    clear hx
    go_wp2_with fail
    go_loopw [9, 13] (fun s9 s13 W => ∃ i : Nat, i ≤ N ∧ s9 = .int .i64 ((mxA A E i : Nat) : Int) ∧ s13 = .int .i64 (i : Int) ∧ Up w1 W) (fun _ s13 _ => N - (intOf s13).toNat)
    case atStart => exact ⟨0, Nat.zero_le _, rfl, rfl, Up.refl _⟩
    case round =>
      obtain ⟨i, hi, rfl, rfl, hW⟩ := hrel
      have HW1 : Hid (Up w1 wr) := hW
      have HUr : Hid (Up w wr) := HU1.out.trans hW
      have z0 : wr.cell? ⟨w.heap.size, 0, none⟩ = some (.int .i8 aop) := hW.cell y0
      clear hW
      have hN9 : N ≤ 1000000 := HNh.out
      by_cases hlt : i < N
      · have hlt2 : (i : Int) < (N : Int) := by omega
        have hi9 : (i : Int) ≤ 1000000 := by omega
        obtain ⟨g, rfl, hg⟩ := HKR.out i hlt
        have yk := hg wr HW1.out
        clear hg
        have hkn : ((K i : Nat) : Int) < (n : Int) := by have := HKn.out i hlt; omega
        have e1 : IntKind.i64.wrap ((i : Int) + 1) = ((i + 1 : Nat) : Int) := by rw [IntKind.wrap_i64]; omega
        obtain ⟨x, hx⟩ : ∃ x, x = mxA A E i := ⟨_, rfl⟩
        obtain ⟨y, hy⟩ : ∃ y, y = A i := ⟨_, rfl⟩
        have HX1 : Hid (mxA A E (i + 1) = max x y) := by unfold Hid; rw [mxA, hx, hy]
        have HB9 := HB.out i hlt wr HUr.out
        have HAO : Hid (∀ W, Up w W → Calls Try.prog 45 #[.slice (some ⟨bk, off, none⟩) n c, .int .i64 (K i : Int), .int .i64 (E : Int), .int .i64 (rWants aop (i : Int))] W (fun e w' => e = .returned (.int .i64 (y : Int)) ∧ Up W w')) := by unfold Hid; rw [hy]; exact HAO.out i hlt
        rw [← hx]
        clear hx hy
        obtain ⟨kp, hkp⟩ : ∃ kp, kp = K i := ⟨_, rfl⟩
        rw [← hkp] at hkn HAO yk HB9
        clear hkp
        have HA9 : Hid (Calls Try.prog 45 #[.slice (some ⟨bk, off, none⟩) n c, .int .i64 (kp : Int), .int .i64 (E : Int), .int .i64 (rWants aop (i : Int))] wr fun e w' => e = .returned (.int .i64 (y : Int)) ∧ Up wr w') := HAO.out wr HUr.out
        go_wp2_with fail
        refine Calls.mono (wants_ aop (i : Int) wr (by omega) (by omega)) ?_
        rintro e w2 ⟨rfl, hw⟩
        obtain rfl := hw.symm
        clear hw
        go_wp2_with fail
        refine Calls.mono HA9.out ?_
        rintro e w2 ⟨rfl, hu2⟩
        have HU2 : Hid (Up w1 w2) := HW1.out.trans hu2
        clear hu2
        by_cases hmx : (y : Int) ≤ (x : Int)
        · go_wp2_with fail
          go_roundw
          case rel => exact ⟨i + 1, by omega, by rw [HX1.out, show max x y = x by omega] <;> rfl, by go_num, HU2.out⟩
          case measure => simp [intOf]; omega
        · go_wp2_with fail
          go_roundw
          case rel => exact ⟨i + 1, by omega, by rw [HX1.out, show max x y = y by omega] <;> rfl, by go_num, HU2.out⟩
          case measure => simp [intOf]; omega
      · obtain rfl : i = N := by omega
        go_wp2_with fail
        rw [HPo.out]
        exact ⟨rfl, HUr.out⟩
  · rw [hx]
    clear hx
    go_wp2_with fail
    go_loopw [9, 13] (fun s9 s13 W => ∃ i : Nat, i ≤ N ∧ s9 = .int .i64 ((mxA A E i : Nat) : Int) ∧ s13 = .int .i64 (i : Int) ∧ Up w1 W) (fun _ s13 _ => N - (intOf s13).toNat)
    case atStart => exact ⟨0, Nat.zero_le _, rfl, rfl, Up.refl _⟩
    case round =>
      obtain ⟨i, hi, rfl, rfl, hW⟩ := hrel
      have HW1 : Hid (Up w1 wr) := hW
      have HUr : Hid (Up w wr) := HU1.out.trans hW
      have z0 : wr.cell? ⟨w.heap.size, 0, none⟩ = some (.int .i8 aop) := hW.cell y0
      clear hW
      have hN9 : N ≤ 1000000 := HNh.out
      by_cases hlt : i < N
      · have hlt2 : (i : Int) < (N : Int) := by omega
        have hi9 : (i : Int) ≤ 1000000 := by omega
        obtain ⟨g, rfl, hg⟩ := HKR.out i hlt
        have yk := hg wr HW1.out
        clear hg
        have hkn : ((K i : Nat) : Int) < (n : Int) := by have := HKn.out i hlt; omega
        have e1 : IntKind.i64.wrap ((i : Int) + 1) = ((i + 1 : Nat) : Int) := by rw [IntKind.wrap_i64]; omega
        obtain ⟨x, hx⟩ : ∃ x, x = mxA A E i := ⟨_, rfl⟩
        obtain ⟨y, hy⟩ : ∃ y, y = A i := ⟨_, rfl⟩
        have HX1 : Hid (mxA A E (i + 1) = max x y) := by unfold Hid; rw [mxA, hx, hy]
        have HB9 := HB.out i hlt wr HUr.out
        have HAO : Hid (∀ W, Up w W → Calls Try.prog 45 #[.slice (some ⟨bk, off, none⟩) n c, .int .i64 (K i : Int), .int .i64 (E : Int), .int .i64 (rWants aop (i : Int))] W (fun e w' => e = .returned (.int .i64 (y : Int)) ∧ Up W w')) := by unfold Hid; rw [hy]; exact HAO.out i hlt
        rw [← hx]
        clear hx hy
        obtain ⟨kp, hkp⟩ : ∃ kp, kp = K i := ⟨_, rfl⟩
        rw [← hkp] at hkn HAO yk HB9
        clear hkp
        have HA9 : Hid (Calls Try.prog 45 #[.slice (some ⟨bk, off, none⟩) n c, .int .i64 (kp : Int), .int .i64 (E : Int), .int .i64 (rWants aop (i : Int))] wr fun e w' => e = .returned (.int .i64 (y : Int)) ∧ Up wr w') := HAO.out wr HUr.out
        go_wp2_with fail
        refine Calls.mono (wants_ aop (i : Int) wr (by omega) (by omega)) ?_
        rintro e w2 ⟨rfl, hw⟩
        obtain rfl := hw.symm
        clear hw
        go_wp2_with fail
        refine Calls.mono HA9.out ?_
        rintro e w2 ⟨rfl, hu2⟩
        have HU2 : Hid (Up w1 w2) := HW1.out.trans hu2
        clear hu2
        by_cases hmx : (y : Int) ≤ (x : Int)
        · go_wp2_with fail
          go_roundw
          case rel => exact ⟨i + 1, by omega, by rw [HX1.out, show max x y = x by omega] <;> rfl, by go_num, HU2.out⟩
          case measure => simp [intOf]; omega
        · go_wp2_with fail
          go_roundw
          case rel => exact ⟨i + 1, by omega, by rw [HX1.out, show max x y = y by omega] <;> rfl, by go_num, HU2.out⟩
          case measure => simp [intOf]; omega
      · obtain rfl : i = N := by omega
        go_wp2_with fail
        rw [HPo.out]
        exact ⟨rfl, HUr.out⟩
end TR
end Go.Proofs.Ytgahdppcdeefaaa
