/-
  ImageDecodes: the law's walk.
-/
import Derived.Test.YtmpamcdobhiipaaGreatDoorRwToWb7
import Derived.Test.YtmpamcdobhiipaaGreatDoorLb7ToRpt7
import Derived.Test.YtmpamcdobhiipaaGreatDoorBbToCb
import Derived.Test.YtmpamcdobhiipaaGreatDoorBxQ
namespace Go.Proofs.YtmpamcdobhiipaaGreatDoor
open Go.RowKit
attribute [local go_sem ↓] Go.wp_at_zero Go.wp_at_succ

namespace IM
open Go.Proofs.YtmpamcdobhiipaaGreatDoor.ST
theorem stin_set {W : World} {lo hi k j : Nat} {v u : Value} (h : BG.StIn W lo hi v) (hk : k < lo) : BG.StIn (W.setCell ⟨k, j, none⟩ u) lo hi v := by
  obtain ⟨vp, vc, vz, t0, t1, t2, t3, np, nc, nz, vs, ns, hv, ⟨⟨x1, p1⟩, p2⟩, ⟨⟨x2, q1⟩, q2⟩, ⟨r1, r2⟩, h6, h7⟩ := h
  exact ⟨vp, vc, vz, t0, t1, t2, t3, np, nc, nz, vs, ns, hv, ⟨⟨x1, row_set p1 hk⟩, p2⟩, ⟨⟨x2, row_set q1 hk⟩, q2⟩, ⟨row_set r1 hk, r2⟩, fun i hi => by
    obtain ⟨⟨x3, z1⟩, z2⟩ := h6 i hi
    exact ⟨⟨x3, row_set z1 hk⟩, z2⟩, h7⟩
theorem small_de {B : List Int} (hB : Byt B) : Small (deS B) := by
  have h0 : Small noS := ⟨by decide, by decide, by decide, fun r hr => absurd hr (Nat.not_lt_zero r)⟩
  unfold deS
  cases hd : decR B with
  | error r => exact h0
  | ok s =>
    show Small (if ff s = none then s else noS)
    split
    · exact small_rs (dec_back hB hd).2
    · exact h0
theorem bts_at {B : List Int} (hB : Byt B) {j : Nat} (hj : j < B.length) : (((bts B).getD j 0 : Nat) : Int) = B.getD j 0 := by
  have h1 : (bts B).getD j 0 = (B.getD j 0).toNat := by
    unfold bts
    simp [List.getD, hj]
  have h2 : 0 ≤ B.getD j 0 := by
    rw [List.getD_eq_getElem?_getD, List.getElem?_eq_getElem hj]
    exact (hB _ (List.getElem_mem hj)).1
  rw [h1]
  omega
theorem bys_bts {B : List Int} (hB : Byt B) : SM.Bys (bts B) := fun i => by
  by_cases hi : i < B.length
  · have h1 := bts_at hB hi
    have h2 : B.getD i 0 < 256 := by
      rw [List.getD_eq_getElem?_getD, List.getElem?_eq_getElem hi]
      exact (hB _ (List.getElem_mem hi)).2
    omega
  · rw [List.getD_eq_getElem?_getD, List.getElem?_eq_none (by rw [bts_len]; omega)]
    decide
theorem bl_row {W : World} {base g : Nat} {B : List Int} (hB : Byt B) (h : SM.Row W base g (SM.fillL (bts B) (B.length + 64) (B.length + 64))) : BL W (.slice (some ⟨g, 0, none⟩) B.length (B.length + 64)) B := by
  refine ⟨by simp [bvs], some ⟨g, 0, none⟩, B.length + 64, rfl, by omega, fun hn => ⟨g, 0, rfl, fun j hj => ?_⟩⟩
  rw [Nat.zero_add, h.cell j (by rw [SM.fillL_len]; omega), SM.fillL_at _ _ _ _ (by omega), if_pos (by omega), if_pos (by rw [bts_len]; omega), bvs_at (by omega), bts_at hB (by omega)]
/- what stands while the bytes are written over -/
structure JD (w : World) (g n q1 q2 q3 b1 h1 b2 h2 b3 : Nat) (A1 A2 A3 : Array Value) (S : Stt) (W : World) : Prop where
  g1 : W.heap[q1]? = some (.cells A1 30 (0, 0))
  g2 : W.heap[q2]? = some (.cells A2 30 (0, 0))
  g3 : W.heap[q3]? = some (.cells A3 30 (0, 0))
  s1 : SOA b1 W (.agg A1) S
  s2 : SOA b2 W (.agg A2) S
  s3 : SOA b3 W (.agg A3) S
  i1 : BG.StIn W b1 h1 (.agg A1)
  i2 : BG.StIn W b2 h2 (.agg A2)
  up : Up w W
  z1 : h1 ≤ W.heap.size
  z2 : h2 ≤ W.heap.size
  row : ∃ L, L.length = n + 64 ∧ SM.Row W w.heap.size g L
structure JO (w : World) (g q1 q2 q3 b1 h1 b2 h2 b3 : Nat) : Prop where
  le : w.heap.size ≤ g
  e1 : g < b1
  e2 : b1 ≤ h1
  e3 : h1 ≤ b2
  e4 : b2 ≤ h2
  e5 : g < b3
  n1 : q1 ≠ g
  n2 : q2 ≠ g
  n3 : q3 ≠ g
theorem JD.to {w : World} {g n q1 q2 q3 b1 h1 b2 h2 b3 : Nat} {A1 A2 A3 : Array Value} {S : Stt} {W W' : World} (h : JD w g n q1 q2 q3 b1 h1 b2 h2 b3 A1 A2 A3 S W) (u : Up W W') : JD w g n q1 q2 q3 b1 h1 b2 h2 b3 A1 A2 A3 S W' :=
  ⟨u.heap h.g1, u.heap h.g2, u.heap h.g3, h.s1.up u, h.s2.up u, h.s3.up u, h.i1.below u h.z1, h.i2.below u h.z2, h.up.trans u, Nat.le_trans h.z1 u.size, Nat.le_trans h.z2 u.size, by obtain ⟨L, l1, l2⟩ := h.row; exact ⟨L, l1, l2.up u⟩⟩
theorem JD.put {w : World} {g n q1 q2 q3 b1 h1 b2 h2 b3 : Nat} {A1 A2 A3 : Array Value} {S : Stt} {W : World} (h : JD w g n q1 q2 q3 b1 h1 b2 h2 b3 A1 A2 A3 S W) (o : JO w g q1 q2 q3 b1 h1 b2 h2 b3) (j : Nat) : JD w g n q1 q2 q3 b1 h1 b2 h2 b3 A1 A2 A3 S (W.setCell ⟨g, j, none⟩ (.int .u8 7)) := by
  have hs : (W.setCell ⟨g, j, none⟩ (.int .u8 7)).heap.size = W.heap.size := by simp [World.setCell]
  refine ⟨set_other h.g1 o.n1, set_other h.g2 o.n2, set_other h.g3 o.n3, soa_set h.s1 o.e1, soa_set h.s2 (by have := o.e1; have := o.e2; have := o.e3; omega), soa_set h.s3 o.e5, stin_set h.i1 o.e1, stin_set h.i2 (by have := o.e1; have := o.e2; have := o.e3; omega), Up.set h.up _ _ o.le, by rw [hs]; exact h.z1, by rw [hs]; exact h.z2, ?_⟩
  obtain ⟨L, l1, l2⟩ := h.row
  exact ⟨L.set j 7, by rw [List.length_set]; exact l1, l2.set j 7⟩
set_option maxRecDepth 100000 in
set_option maxHeartbeats 16000000 in
theorem idecodes (hst : RstOk) (vb : Value) (B : List Int) (w : World) (hB : BL w vb B) (hby : Byt B) (hz : ∀ cap, vb ≠ .slice none 0 (cap + 1)) :
    Calls Tryz.prog 3 #[vb] w fun x w' => x = .returned (.bool true) ∧ Up w w' := by
  obtain ⟨Post, hPost⟩ : ∃ P : Ending → World → Prop, P = fun x w' => x = .returned (.bool true) ∧ Up w w' := ⟨_, rfl⟩
  rw [← hPost]
  have HPo : Hid (Post = fun x w' => x = .returned (.bool true) ∧ Up w w') := hPost
  clear hPost
  have hsm := small_de hby
  obtain ⟨S, hS⟩ : ∃ S, S = deS B := ⟨_, rfl⟩
  obtain ⟨E, hE⟩ : ∃ E, E = deE B := ⟨_, rfl⟩
  obtain ⟨T, hT⟩ : ∃ T, T = deA B := ⟨_, rfl⟩
  have HDI : Hid (∀ v W, BL W v B → B.length ≤ 4194304 → Calls Tryz.prog 6 #[v] W fun x w' => ∃ v, x = .returned (.tuple #[v, .int .i64 E, .int .i64 T]) ∧ SOA W.heap.size w' v S ∧ Up W w') := by rw [hS, hE, hT]; exact fun v W h hl => decode_ v B W h hby (by omega)
  have HDR : Hid (∀ v W, BL W v B → B.length ≤ 4194304 → Calls Tryz.prog 7 #[v] W fun x w' => ∃ v, x = .returned (.tuple #[v, .int .i64 E, .int .i64 T]) ∧ SOA W.heap.size w' v S ∧ Up W w') := by rw [hS, hE, hT]; exact fun v W h hl => rdecode_ hst v B W h hby (by omega)
  have HSM : Hid (Small S) := by rw [hS]; exact hsm
  have HBY : Hid (Byt B) := hby
  have HBW : Hid (∀ W, Up w W → BL W vb B) := fun W u => hB.up u
  have HLI : Hid (∀ W, Up w W → SM.Lies W vb (bts B)) := fun W u => (hB.up u).lies hby hz
  obtain ⟨ba, bc, hvb, -⟩ := byte_at hB
  obtain ⟨n, hn⟩ : ∃ n, n = B.length := ⟨_, rfl⟩
  rw [← hn] at hvb
  have HN : Hid (n = B.length) := hn
  subst hvb
  have f1 : (E != E) = false := by simp
  have f2 : (T != T) = false := by simp
  clear hsm hS hE hT hn hB hby hz hst
  go_enter Tryz.func3, Tryz.ntmps3
  go_wp2_with fail
  refine Calls.mono (works_ w) ?_
  rintro r W1 ⟨rfl, u⟩
  have HU : Hid (Up w W1) := u
  clear u
  by_cases hbig : 4194304 < n
  · have e2 : (4194304 : Int) < (n : Int) := by omega
    go_wp2_with fail
    rw [HPo.out]
    exact ⟨rfl, HU.out⟩
  · have e2 : ¬ (4194304 : Int) < (n : Int) := by omega
    have hbl : B.length ≤ 4194304 := by have := HN.out; omega
    have HWB : Hid (Calls Tryz.prog 5 #[.slice ba n bc] W1 fun e w' => ∃ g, e = .returned (.slice (some ⟨g, 0, none⟩) n (n + 64)) ∧ SM.Row w' W1.heap.size g (SM.fillL (bts B) (n + 64) (n + 64)) ∧ Up W1 w') := by
      have h9 := SM.wideB _ (bts B) W1 (HLI.out W1 HU.out) (bys_bts HBY.out) (by rw [bts_len]; omega)
      rw [bts_len, ← HN.out] at h9
      exact h9
    have HBL : Hid (B.length ≤ 4194304) := hbl
    clear hbl
    go_wp2_with fail
    refine Calls.mono HWB.out ?_
    rintro r W2 ⟨g, rfl, hrow, u⟩
    have HW1 : Hid (w.heap.size ≤ W1.heap.size) := HU.out.size
    have HG : Hid (w.heap.size ≤ g ∧ g < W2.heap.size) := by
      have h1 := hrow.base_le
      have h2 := HU.out.size
      exact ⟨by omega, h1.2⟩
    have HU : Hid (Up w W2) := HU.out.trans u
    have HRW : Hid (∀ W, Up W2 W → SM.Row W w.heap.size g (SM.fillL (bts B) (n + 64) (n + 64))) := fun W x => by
      have h1 : SM.Row W2 w.heap.size g (SM.fillL (bts B) (n + 64) (n + 64)) := own_less hrow HW1.out
      exact h1.up x
    have HBI : Hid (∀ W, Up W2 W → BL W (.slice (some ⟨g, 0, none⟩) n (n + 64)) B) := fun W x => by
      have h9 := HRW.out W x
      rw [HN.out] at h9 ⊢
      exact bl_row HBY.out h9
    have HLJ : Hid (∀ W, Up W2 W → SM.Lies W (.slice (some ⟨g, 0, none⟩) n (n + 64)) (bts B)) := fun W x => (HBI.out W x).lies HBY.out (fun cap h => by cases h)
    have HSP : Hid (∀ W, Up W2 W → ∀ j, n ≤ j → j < n + 64 → W.cell? ⟨g, j, none⟩ = some (.int .u8 (SM.mark j : Nat))) := fun W x j h1 h2 => by
      rw [(HRW.out W x).cell j (by rw [SM.fillL_len]; omega), SM.fillL_at _ _ _ _ h2, if_pos h2, if_neg (by rw [bts_len, ← HN.out]; omega)]
    clear hrow u HWB hbig
    go_wp2_with fail
    refine Calls.mono (HDI.out _ W2 (HBI.out W2 (Up.refl _)) HBL.out) ?_
    rintro r W3 ⟨v, rfl, hso, u⟩
    obtain ⟨a1, k1, b1, l1, c1, m1, hv⟩ := soa_val hso
    obtain ⟨A1, hA1⟩ : ∃ A : Array Value, A = #[.slice a1 S.ps.length k1, .slice b1 S.cs.length l1, .slice c1 S.zs.length m1, .int .i32 S.turn, .int .i64 S.whose, .int .i8 S.fin, .int .i64 S.winner] := ⟨_, rfl⟩
    have hA11 : A1.size = 7 := by rw [hA1]; rfl
    have HS1 : Hid (SOA W2.heap.size W3 (.agg A1) S) := by rw [hA1, ← hv]; exact hso
    have HI1 : Hid (BG.StIn W3 W2.heap.size W3.heap.size (.agg A1)) := HS1.out.stIn HSM.out
    subst hv
    obtain ⟨W4, hW4⟩ : ∃ W, W3.alloc (.cells A1 30) = W := ⟨_, rfl⟩
    have HX1 : Hid (Up W2 W3 ∧ Up W3 W4 ∧ W4.heap[W3.heap.size]? = some (.cells A1 30 (0, 0))) := ⟨u, by rw [← hW4]; exact (Up.refl _).alloc _, by rw [← hW4]; exact heap_alloc_new _ _⟩
    have HU : Hid (Up w W4) := (HU.out.trans u).trans HX1.out.2.1
    rw [hA1] at hW4
    have HA1 : Hid (A1 = #[.slice a1 S.ps.length k1, .slice b1 S.cs.length l1, .slice c1 S.zs.length m1, .int .i32 S.turn, .int .i64 S.whose, .int .i8 S.fin, .int .i64 S.winner]) := hA1
    clear hso u hA1
    have HY4 : Hid (Up W2 W4) := HX1.out.1.trans HX1.out.2.1
    go_wp2_with fail
    first | refine calls_world hW4 ?_ | skip
    clear hW4
    refine Calls.mono (HDI.out _ W4 (HBI.out W4 HY4.out) HBL.out) ?_
    rintro r W5 ⟨v, rfl, hso, u⟩
    obtain ⟨a2, k2, b2, l2, c2, m2, hv⟩ := soa_val hso
    obtain ⟨A2, hA2⟩ : ∃ A : Array Value, A = #[.slice a2 S.ps.length k2, .slice b2 S.cs.length l2, .slice c2 S.zs.length m2, .int .i32 S.turn, .int .i64 S.whose, .int .i8 S.fin, .int .i64 S.winner] := ⟨_, rfl⟩
    have hA21 : A2.size = 7 := by rw [hA2]; rfl
    have HS2 : Hid (SOA W4.heap.size W5 (.agg A2) S) := by rw [hA2, ← hv]; exact hso
    have HI2 : Hid (BG.StIn W5 W4.heap.size W5.heap.size (.agg A2)) := HS2.out.stIn HSM.out
    subst hv
    obtain ⟨W6, hW6⟩ : ∃ W, W5.alloc (.cells A2 30) = W := ⟨_, rfl⟩
    have HX2 : Hid (Up W4 W5 ∧ Up W5 W6 ∧ W6.heap[W5.heap.size]? = some (.cells A2 30 (0, 0))) := ⟨u, by rw [← hW6]; exact (Up.refl _).alloc _, by rw [← hW6]; exact heap_alloc_new _ _⟩
    have HU : Hid (Up w W6) := (HU.out.trans u).trans HX2.out.2.1
    rw [hA2] at hW6
    have HA2 : Hid (A2 = #[.slice a2 S.ps.length k2, .slice b2 S.cs.length l2, .slice c2 S.zs.length m2, .int .i32 S.turn, .int .i64 S.whose, .int .i8 S.fin, .int .i64 S.winner]) := hA2
    clear hso u hA2
    have HY6 : Hid (Up W2 W6) := HY4.out.trans (HX2.out.1.trans HX2.out.2.1)
    go_wp2_with fail
    first | refine calls_world hW6 ?_ | skip
    clear hW6
    refine Calls.mono (HDR.out _ W6 (HBW.out W6 HU.out) HBL.out) ?_
    rintro r W7 ⟨v, rfl, hso, u⟩
    obtain ⟨a3, k3, b3, l3, c3, m3, hv⟩ := soa_val hso
    obtain ⟨A3, hA3⟩ : ∃ A : Array Value, A = #[.slice a3 S.ps.length k3, .slice b3 S.cs.length l3, .slice c3 S.zs.length m3, .int .i32 S.turn, .int .i64 S.whose, .int .i8 S.fin, .int .i64 S.winner] := ⟨_, rfl⟩
    have hA31 : A3.size = 7 := by rw [hA3]; rfl
    have HS3 : Hid (SOA W6.heap.size W7 (.agg A3) S) := by rw [hA3, ← hv]; exact hso
    have HI3 : Hid (BG.StIn W7 W6.heap.size W7.heap.size (.agg A3)) := HS3.out.stIn HSM.out
    subst hv
    obtain ⟨W8, hW8⟩ : ∃ W, W7.alloc (.cells A3 30) = W := ⟨_, rfl⟩
    have HX3 : Hid (Up W6 W7 ∧ Up W7 W8 ∧ W8.heap[W7.heap.size]? = some (.cells A3 30 (0, 0))) := ⟨u, by rw [← hW8]; exact (Up.refl _).alloc _, by rw [← hW8]; exact heap_alloc_new _ _⟩
    have HU : Hid (Up w W8) := (HU.out.trans u).trans HX3.out.2.1
    rw [hA3] at hW8
    have HA3 : Hid (A3 = #[.slice a3 S.ps.length k3, .slice b3 S.cs.length l3, .slice c3 S.zs.length m3, .int .i32 S.turn, .int .i64 S.whose, .int .i8 S.fin, .int .i64 S.winner]) := hA3
    clear hso u hA3
    have HY8 : Hid (Up W2 W8) := HY6.out.trans (HX3.out.1.trans HX3.out.2.1)
    have HEQ : Hid (∀ W, Up W2 W → Up w W → Calls Tryz.prog 8 #[.slice (some ⟨g, 0, none⟩) n (n + 64), .slice ba n bc] W fun e w' => e = .returned (.bool true) ∧ Up W w') := fun W x y => by
      have h8 := SM.eqB _ _ (bts B) (bts B) W (HLJ.out W x) (HLI.out W y) (by rw [bts_len]; have := HBL.out; omega)
      rw [decide_eq_true rfl] at h8
      exact h8
    have HSB : Hid (∀ W, Up W2 W → Calls Tryz.prog 9 #[.slice (some ⟨g, 0, none⟩) n (n + 64)] W fun e w' => e = .returned (.bool true) ∧ w' = W) := fun W x => SM.spareB g n W (by have := HBL.out; have := HN.out; omega) (HSP.out W x)
    go_wp2_with fail
    first | refine calls_world hW8 ?_ | skip
    clear hW8
    refine Calls.mono (HEQ.out _ HY8.out HU.out) ?_
    rintro r W9 ⟨rfl, u⟩
    have HY9 : Hid (Up W2 W9) := HY8.out.trans u
    have HU : Hid (Up w W9) := HU.out.trans u
    have HZ9 : Hid (Up W8 W9) := u
    clear u
    go_wp2_with fail
    refine Calls.mono (HSB.out _ HY9.out) ?_
    rintro r W10 ⟨rfl, hw⟩
    obtain rfl := hw.symm
    have HJO : Hid (JO w g W3.heap.size W5.heap.size W7.heap.size W2.heap.size W3.heap.size W4.heap.size W5.heap.size W6.heap.size) := by
      have h1 := HG.out
      have h2 := HX1.out.1.size
      have h3 := HX1.out.2.1.size
      have h4 := HX2.out.1.size
      have h5 := HX2.out.2.1.size
      have h6 := HX3.out.1.size
      exact ⟨by omega, by omega, by omega, by omega, by omega, by omega, by omega, by omega, by omega⟩
    have HJ : Hid (JD w g n W3.heap.size W5.heap.size W7.heap.size W2.heap.size W3.heap.size W4.heap.size W5.heap.size W6.heap.size A1 A2 A3 S W9) := by
      have y1 : Up W3 W9 := HX1.out.2.1.trans ((HX2.out.1.trans HX2.out.2.1).trans ((HX3.out.1.trans HX3.out.2.1).trans HZ9.out))
      have y2 : Up W5 W9 := HX2.out.2.1.trans ((HX3.out.1.trans HX3.out.2.1).trans HZ9.out)
      have y3 : Up W7 W9 := HX3.out.2.1.trans HZ9.out
      have y4 : Up W4 W9 := (HX2.out.1.trans HX2.out.2.1).trans ((HX3.out.1.trans HX3.out.2.1).trans HZ9.out)
      have y6 : Up W6 W9 := (HX3.out.1.trans HX3.out.2.1).trans HZ9.out
      exact ⟨y4.heap HX1.out.2.2, y6.heap HX2.out.2.2, HZ9.out.heap HX3.out.2.2, HS1.out.up y1, HS2.out.up y2, HS3.out.up y3, HI1.out.below y1 (Nat.le_refl _), HI2.out.below y2 (Nat.le_refl _), HU.out, y1.size, y2.size, ⟨_, SM.fillL_len _ _ _, HRW.out W9 HY9.out⟩⟩
    clear HX1 HX2 HX3 HS1 HS2 HS3 HI1 HI2 HU HY4 HY6 HY8 HY9 HZ9 HRW HBI HLJ HSP HEQ HSB HDI HDR HBW HLI HG hw
    generalize W2.heap.size = d1 at *
    generalize W3.heap.size = d2 at *
    generalize W4.heap.size = d3 at *
    generalize W5.heap.size = d4 at *
    generalize W6.heap.size = d5 at *
    generalize W7.heap.size = d6 at *
    go_wp2_with fail
    go_loopw [15] (fun s15 W => ∃ i : Nat, i ≤ n ∧ s15 = .int .i64 i ∧ JD w g n d2 d4 d6 d1 d2 d3 d4 d5 A1 A2 A3 S W) (fun s15 _ => n - (intOf s15).toNat)
    case atStart => exact ⟨0, Nat.zero_le _, rfl, HJ.out⟩
    case round =>
      obtain ⟨i, hi, rfl, hj⟩ := hrel
      clear HJ
      have HJ : Hid (JD w g n d2 d4 d6 d1 d2 d3 d4 d5 A1 A2 A3 S wr) := hj
      clear hj
      by_cases hlt : i < n
      · have hlt2 : (i : Int) < (n : Int) := by omega
        have ei : IntKind.i64.wrap ((i : Int) + 1) = ((i + 1 : Nat) : Int) := by rw [IntKind.wrap_i64]; omega
        obtain ⟨L, hL1, hL2⟩ := HJ.out.row
        have x1 := hL2.cell i (by omega)
        have x2 := hL2.frozen i
        have HP : Hid (JD w g n d2 d4 d6 d1 d2 d3 d4 d5 A1 A2 A3 S (wr.setCell ⟨g, i, none⟩ (.int .u8 7))) := HJ.out.put HJO.out i
        generalize L.getD i 0 = c at x1
        clear hL1 hL2 HJ
        go_wp2_with fail
        go_roundw
        case rel => exact ⟨i + 1, by omega, by go_num, HP.out⟩
        case measure => simp [intOf]; omega
      · have hlt2 : ¬ (i : Int) < (n : Int) := by omega
        obtain ⟨g1, g2, g3, hs1, hs2, hs3, hi1, hi2, hu, hz1, hz2, hr⟩ := HJ.out
        have HE1 : Hid (∀ W, Up wr W → Calls Tryz.prog 10 #[.agg A1, .agg A3] W fun e w' => e = .returned (.bool true) ∧ Up W w') := fun W x => eqState_ _ _ S S W (hs1.up x).so.sl (hs3.up x).so.sl HSM.out ((eqS_iff S S).2 rfl)
        have HE2 : Hid (∀ W, Up wr W → Calls Tryz.prog 10 #[.agg A2, .agg A3] W fun e w' => e = .returned (.bool true) ∧ Up W w') := fun W x => eqState_ _ _ S S W (hs2.up x).so.sl (hs3.up x).so.sl HSM.out ((eqS_iff S S).2 rfl)
        have HII : Hid (∀ W, Up wr W → BG.StIn W d1 d2 (.agg A1) ∧ BG.StIn W d3 d4 (.agg A2)) := fun W x => ⟨hi1.below x hz1, hi2.below x hz2⟩
        have HU : Hid (Up w wr) := hu
        have HZ : Hid (d2 ≤ wr.heap.size ∧ d4 ≤ wr.heap.size) := ⟨hz1, hz2⟩
        clear hs1 hs2 hs3 hi1 hi2 hu hz1 hz2 hr HJ hi
        go_wp2_with (first | (refine wpList_load_rowG (by rfl) 30 (.tmp 5) (by rfl) d2 (by rfl) 30 A1 (0, 0) _ g1 Tryz.underlying30 (by rfl) (by rw [hA11]; exact infoSt) ?_) | (refine wpList_load_rowG (by rfl) 30 (.tmp 8) (by rfl) d4 (by rfl) 30 A2 (0, 0) _ g2 Tryz.underlying30 (by rfl) (by rw [hA21]; exact infoSt) ?_) | (refine wpList_load_rowG (by rfl) 30 (.tmp 11) (by rfl) d6 (by rfl) 30 A3 (0, 0) _ g3 Tryz.underlying30 (by rfl) (by rw [hA31]; exact infoSt) ?_))
        refine Calls.mono (HE1.out _ (Up.refl _)) ?_
        rintro r V1 ⟨rfl, u⟩
        have g1 := u.heap g1
        have g2 := u.heap g2
        have g3 := u.heap g3
        have HY : Hid (Up wr V1) := u
        clear u HE1
        go_wp2_with (first | (refine wpList_load_rowG (by rfl) 30 (.tmp 5) (by rfl) d2 (by rfl) 30 A1 (0, 0) _ g1 Tryz.underlying30 (by rfl) (by rw [hA11]; exact infoSt) ?_) | (refine wpList_load_rowG (by rfl) 30 (.tmp 8) (by rfl) d4 (by rfl) 30 A2 (0, 0) _ g2 Tryz.underlying30 (by rfl) (by rw [hA21]; exact infoSt) ?_) | (refine wpList_load_rowG (by rfl) 30 (.tmp 11) (by rfl) d6 (by rfl) 30 A3 (0, 0) _ g3 Tryz.underlying30 (by rfl) (by rw [hA31]; exact infoSt) ?_))
        refine Calls.mono (HE2.out _ HY.out) ?_
        rintro r V2 ⟨rfl, u⟩
        have g1 := u.heap g1
        have g2 := u.heap g2
        have HY : Hid (Up wr V2) := HY.out.trans u
        have HU : Hid (Up w V2) := HU.out.trans HY.out
        clear u g3 HE2
        obtain ⟨gb, hgb⟩ : ∃ g, g = V2.heap.size := ⟨_, rfl⟩
        obtain ⟨V3, hV3⟩ : ∃ W, V2.alloc (.cells #[.slice none 0 0, .slice none 0 0, .slice none 0 0, .slice none 0 0, .slice none 0 0, .slice none 0 0, .slice none 0 0, .slice none 0 0, .slice none 0 0, .slice none 0 0, .slice none 0 0, .slice none 0 0, .slice none 0 0, .slice none 0 0, .slice none 0 0, .slice none 0 0, .slice none 0 0, .slice none 0 0, .slice none 0 0, .slice none 0 0, .slice none 0 0] 59) = W := ⟨_, rfl⟩
        have HB0 : Hid (BG.BagG V3 w.heap.size gb (gb + 1) (fun _ => .slice none 0 0) (fun _ => [])) := by
          unfold Hid
          rw [hgb, ← hV3]
          exact BG.bagG_start _ _
        have u3 : Up V2 V3 := by rw [← hV3]; exact (Up.refl _).alloc _
        have gg1 := g1
        have gg2 := g2
        have g1 := u3.heap g1
        have g2 := u3.heap g2
        have HGB : Hid (w.heap.size ≤ gb ∧ d2 ≤ gb ∧ d4 ≤ gb ∧ d2 < gb ∧ d4 < gb) := by
          have h1 := HY.out.size
          have h2 := HZ.out
          have h3 := HU.out.size
          have h4 := (Array.getElem?_eq_some_iff.1 gg1).1
          have h5 := (Array.getElem?_eq_some_iff.1 gg2).1
          rw [hgb]
          exact ⟨h3, by omega, by omega, h4, h5⟩
        have HI3 : Hid (∀ W, Below gb V3 W → BG.StIn W d1 d2 (.agg A1) ∧ BG.StIn W d3 d4 (.agg A2)) := fun W x => by
          obtain ⟨q1, q2⟩ := HII.out V3 (HY.out.trans u3)
          exact ⟨q1.below x HGB.out.2.1, q2.below x HGB.out.2.2.1⟩
        have HU6 : Hid (Up w V3) := HU.out.trans u3
        clear u3 HII HU HY HZ gg1 gg2
        go_wp2_with (first | (refine wpList_world hV3 ?_; (first | (refine wpList_load_rowG (by rfl) 30 (.tmp 5) (by rfl) d2 (by rfl) 30 A1 (0, 0) _ g1 Tryz.underlying30 (by rfl) (by rw [hA11]; exact infoSt) ?_))) | (first | (refine wpList_load_rowG (by rfl) 30 (.tmp 5) (by rfl) d2 (by rfl) 30 A1 (0, 0) _ g1 Tryz.underlying30 (by rfl) (by rw [hA11]; exact infoSt) ?_)))
        try rw [← hgb]
        clear hV3 hgb
        refine Calls.mono (BG.addState_ gb (gb + 1) w.heap.size d1 d2 _ _ _ V3 HB0.out (HI3.out V3 (Below.refl _ _)).1 (by have := HJO.out.le; have := HJO.out.e1; omega) HGB.out.2.1 (fun j g hg => by obtain ⟨p, hp, -⟩ := hg; exact absurd hp (Nat.not_lt_zero _))) ?_
        rintro e V4 ⟨rfl, f4, L4, d1', d2', d3', -, d5'⟩
        have HB4 : Hid (BG.BagG V4 w.heap.size gb (gb + 1) f4 L4) := d1'
        have HD4 : Hid (Below gb V3 V4) := d2'
        have HK4 : Hid (∀ j g, BG.Blks (L4 j) g → g < d2) := fun j g hg => by
          rcases d3' j g hg with h | h
          · obtain ⟨p, hp, -⟩ := h; exact absurd hp (Nat.not_lt_zero _)
          · exact h.2
        have HJ4 : Hid (∀ j, j ∉ [7, 8, 12, 1] → L4 j = []) := d5'
        have g2 : V4.heap[d4]? = some (.cells A2 30 (0, 0)) := by rw [HD4.out.block d4 HGB.out.2.2.2.2]; exact g2
        clear d1' d2' d3' d5' HB0 g1
        go_wp2_with (first | (refine wpList_load_rowG (by rfl) 30 (.tmp 8) (by rfl) d4 (by rfl) 30 A2 (0, 0) _ g2 Tryz.underlying30 (by rfl) (by rw [hA21]; exact infoSt) ?_))
        refine Calls.mono (BG.addState_ gb (gb + 1) w.heap.size d3 d4 _ _ _ V4 HB4.out (HI3.out V4 HD4.out).2 (by have := HJO.out; have := this.le; have := HJO.out.e1; have := HJO.out.e2; have := HJO.out.e3; omega) HGB.out.2.2.1 (fun j g hg => .inl (by have := HK4.out j g hg; have := HJO.out.e3; omega))) ?_
        rintro e V5 ⟨rfl, f5, L5, d1', d2', -, -, d5'⟩
        have HB5 : Hid (BG.BagG V5 w.heap.size gb (gb + 1) f5 L5) := d1'
        have HD5 : Hid (Below w.heap.size w V5) := Below.trans HU6.out ((Below.trans HD4.out d2').mono HGB.out.1)
        have HJ5 : Hid (∀ k, k < 21 → k ≠ 1 → k ≠ 7 → k ≠ 8 → k ≠ 12 → L5 k = []) := fun k _ n1 n7 n8 n12 => (d5' k (by simp; omega)).trans (HJ4.out k (by simp; omega))
        clear d1' d2' d5' HB4 HD4 HK4 HJ4 g2
        go_wp2_with fail
        refine Calls.mono (BG.apartS_ V5 w.heap.size gb (gb + 1) f5 L5 HB5.out HGB.out.1 HJ5.out) ?_
        rintro e V6 ⟨rfl, d1'⟩
        have HD6 : Hid (Below w.heap.size w V6) := Below.trans HD5.out d1'
        clear d1' HD5 HB5 HJ5
        go_wp2_with fail
        rw [HPo.out]
        exact ⟨rfl, HD6.out⟩
end IM
end Go.Proofs.YtmpamcdobhiipaaGreatDoor
