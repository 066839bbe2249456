/-
  The stage's theorem, walked: what is put into a heap comes out rising, those alike in the order in which they came.
-/
import Derived.Test.YtnmoaebmopjmhaaWorks
import Derived.Test.YtnmoaebmopjmhaaTakeP
import Derived.Test.YtnmoaebmopjmhaaSortsP
import Derived.Test.YtnmoaebmopjmhaaPl
namespace Go.Proofs.Ytnmoaebmopjmhaa
open Go.RowKit
attribute [local go_sem ↓] Go.wp_at_zero Go.wp_at_succ

theorem sizeP : (Try.prog.info? 82).map (·.size) = some 2 := by kernel_rfl
theorem pairS : Try.prog.underlying 82 = some (.struct (Try.prog.fieldsOf 82)) := by kernel_rfl
theorem pairH : Try.prog.stoodInHeld 82 = false := by kernel_rfl
theorem pairG : Try.prog.eqGuardType Try.prog.depth 82 = false := by kernel_rfl
theorem pairEq (x y : PX) (W : World) : (Op.equalIn 10000 82 (.agg #[.int .i8 x.1, .string x.2]) (.agg #[.int .i8 y.1, .string y.2])).run Try.prog W = .ok (x.1 == y.1 && x.2.toList == y.2.toList) W := by
  have u3 := Try.underlying80
  have a3 := Try.isAgg80
  have z3 := Try.sizeOf80
  have u4 := Try.underlying9
  have a4 := Try.isAgg9
  have z4 := Try.sizeOf9
  rw [show (10000 : Nat) = 9999 + 1 from rfl, run_equalIn_agg W 9999 82 _ _ pairS pairH]
  simp only [Program.fieldsOf, Try.underlying82]
  go_simp
  by_cases h1 : x.fst = y.fst <;> by_cases h2 : x.snd.toList = y.snd.toList <;> simp [h1, h2]
theorem pairNeq (x : PX) (W : World) : (binOp .neq 82 (.agg #[.int .i8 x.1, .string x.2]) (.agg #[.int .i8 x.1, .string x.2])).run Try.prog W = .ok (.bool false) W := by
  rw [run_neq_struct, pairEq x x W]
  simp [Result.andThen]
set_option maxHeartbeats 1000000 in
theorem sortsLong (v u : Value) (n m : Nat) (a1 a2 : Option Addr) (k1 k2 : Nat) (w : World) (hv : v = .slice a1 n k1) (hu : u = .slice a2 m k2) (h : 1024 < n ∨ 1024 < m) (hn : n ≤ 9223372036854775807) (hm : m ≤ 9223372036854775807) :
    Calls Try.prog 8 #[v, u] w fun e w' => e = .returned (.bool true) ∧ Up w w' := by
  subst hv hu
  have h' : 1024 < n ∨ (¬ 1024 < n ∧ 1024 < m) := by omega
  rcases h' with h1 | ⟨h1, h2⟩
  · have h1' : (1024 : Int) < (n : Int) := by omega
    go_enter Try.func8, Try.ntmps8
    go_wp2_with fail
    refine (works _).mono ?_
    rintro e w1 ⟨rfl, u1⟩
    go_wp2
    go_ret
    exact ⟨rfl, u1⟩
  · have h1' : ¬ (1024 : Int) < (n : Int) := by omega
    have h2' : (1024 : Int) < (m : Int) := by omega
    go_enter Try.func8, Try.ntmps8
    go_wp2_with fail
    refine (works _).mono ?_
    rintro e w1 ⟨rfl, u1⟩
    go_wp2
    go_ret
    exact ⟨rfl, u1⟩
/- a piece of a list, as the heap's calls ask for it -/
theorem piece {W : World} {b off cap hb base n k : Nat} {ps : List PX} (hb1 : b < hb) (hb2 : hb < base) (hc : ∀ i, i < ps.length → W.cell? ⟨b, off + i * 2, none⟩ = some (.int .i8 (ps.getD i pdx).1) ∧ W.cell? ⟨b, off + i * 2 + 1, none⟩ = some (.string (ps.getD i pdx).2)) (hk : k + n ≤ ps.length) : HQ.Lst hb base W (.slice (some ⟨b, off + k * 2, none⟩) n cap) ((ps.drop k).take n) := by
  have hl : ((ps.drop k).take n).length = n := by simp; omega
  refine ⟨_, cap, by rw [hl], fun _ => ⟨b, off + k * 2, rfl, ⟨by omega, .inl (by omega)⟩, fun i hi => ?_⟩⟩
  rw [hl] at hi
  have e : ((ps.drop k).take n).getD i HQ.dx = ps.getD (k + i) pdx := by
    rw [List.getD_eq_getElem?_getD, List.getElem?_take, if_pos hi, List.getElem?_drop]; rfl
  have := hc (k + i) (by omega)
  rw [e, show off + k * 2 + i * 2 = off + (k + i) * 2 by omega]
  exact this
theorem pieceNone {W : World} {hb base cap : Nat} {a : Option Addr} : HQ.Lst hb base W (.slice a 0 cap) [] := ⟨a, cap, rfl, fun h => absurd rfl h⟩
set_option maxRecDepth 100000 in
set_option maxHeartbeats 8000000 in
theorem sortsMain (v u : Value) (ps : List PX) (zs : List Int) (w : World) (hv : PL w v ps) (hu : LiesI w u zs) (hn : ps.length ≤ 1024) (hm : zs.length ≤ 1024) (hr : ∀ x ∈ ps, -128 ≤ x.1 ∧ x.1 ≤ 127) (hz : ∀ i, i < zs.length → -9223372036854775808 ≤ zs.getD i 0 ∧ zs.getD i 0 ≤ 9223372036854775807) :
    Calls Try.prog 8 #[v, u] w fun e w' => e = .returned (.bool true) ∧ Up w w' := by
  have HV : Hid (PL w v ps) := hv
  have HU : Hid (LiesI w u zs) := hu
  obtain ⟨va, vcap, rfl, hvc, -⟩ := hv
  obtain ⟨ua, ucap, rfl, -⟩ := hu
  have HR : Hid (∀ x ∈ ps, -128 ≤ x.1 ∧ x.1 ≤ 127) := hr
  have HZ : Hid (∀ i, i < zs.length → -9223372036854775808 ≤ zs.getD i 0 ∧ zs.getD i 0 ≤ 9223372036854775807) := hz
  clear hr hz
  obtain ⟨n, hn0⟩ : ∃ n, n = ps.length := ⟨_, rfl⟩
  obtain ⟨m, hm0⟩ : ∃ m, m = zs.length := ⟨_, rfl⟩
  have HN : Hid (n = ps.length) := hn0
  have HM : Hid (m = zs.length) := hm0
  rw [← hn0] at hn hvc HV ⊢
  rw [← hm0] at hm HU ⊢
  clear hn0 hm0
  have h1 : ¬ (1024 : Int) < (n : Int) := by omega
  have h2 : ¬ (1024 : Int) < (m : Int) := by omega
  go_enter Try.func8, Try.ntmps8
  go_wp2_with fail
  refine (works _).mono ?_
  rintro e w1 ⟨rfl, u1⟩
  have hs1 : w.heap.size ≤ w1.heap.size := u1.size
  have HU1 : Hid (Up w w1) := u1
  clear u1
  go_wp2_with fail
  refine (HQ.newHeap 46 w1).mono ?_
  rintro e w2 ⟨rfl, hh2, u2, hz2⟩
  obtain ⟨hb, hhb⟩ : ∃ hb, hb = w1.heap.size := ⟨_, rfl⟩
  rw [← hhb] at hh2 hz2 hs1 ⊢
  have H2 : Hid (HQ.HeapOf w2 hb 46 (hb + 1) [] 0) := hh2
  have HZ2 : Hid (w2.heap.size = hb + 1) := hz2
  have HU2 : Hid (Up w w2) := HU1.out.trans u2
  clear hh2 hz2 hhb u2 HU1
  -- what is known of every world behind
  have HPL : Hid (∀ W, Fr HQ.tE hb (hb + 1) w2 W → n ≠ 0 → ∃ b off, va = some ⟨b, off, none⟩ ∧ b < hb ∧ ∀ i, i < ps.length → W.cell? ⟨b, off + i * 2, none⟩ = some (.int .i8 (ps.getD i pdx).1) ∧ W.cell? ⟨b, off + i * 2 + 1, none⟩ = some (.string (ps.getD i pdx).2)) := by
    intro W hf hn'
    obtain ⟨a, cap, he, -, hc⟩ := HV.out
    simp only [Value.slice.injEq] at he
    obtain ⟨rfl, -, rfl⟩ := he
    obtain ⟨b, off, rfl, hcell⟩ := hc (by rw [← HN.out]; exact hn')
    have hbl : b < w.heap.size := World.block_lt_of_cell? w _ (hcell 0 (by have := HN.out; omega)).1
    have hsf : Safe HQ.tE hb (hb + 1) w2 b := ⟨by omega, .inl (by omega)⟩
    exact ⟨b, off, rfl, by omega, fun i hi => ⟨hsf.cell hf (HU2.out.cell (hcell i hi).1), hsf.cell hf (HU2.out.cell (hcell i hi).2)⟩⟩
  have HIL : Hid (∀ W, Fr HQ.tE hb (hb + 1) w2 W → ∀ i, i < m → ∃ b off, ua = some ⟨b, off, none⟩ ∧ W.cell? ⟨b, off + i, none⟩ = some (.int .i64 (zs.getD i 0))) := by
    intro W hf i hi
    obtain ⟨a, cap, he, hc⟩ := HU.out
    simp only [Value.slice.injEq] at he
    obtain ⟨rfl, -, rfl⟩ := he
    obtain ⟨b, off, rfl, hcell⟩ := hc (by rw [← HM.out]; omega)
    have h9 := hcell i (by rw [← HM.out]; exact hi)
    have hbl : b < w.heap.size := World.block_lt_of_cell? w _ h9
    have hsf : Safe HQ.tE hb (hb + 1) w2 b := ⟨by omega, .inl (by omega)⟩
    exact ⟨b, off, rfl, hsf.cell hf (HU2.out.cell h9)⟩
  have HB : Hid (∀ W, Fr HQ.tE hb (hb + 1) w2 W → hb + 1 ≤ W.heap.size) := fun W hf => by have := hf.2.1; rw [HZ2.out] at this; exact this
  clear HV HU
  go_wp2_with fail
  go_loopw [7, 8] (fun s7 s8 wr => ∃ (k i : Nat), k ≤ n ∧ i ≤ m ∧ s7 = .int .i64 k ∧ s8 = .int .i64 i ∧ HQ.HeapOf wr hb 46 (hb + 1) (ps.take k) k ∧ Fr HQ.tE hb (hb + 1) w2 wr) (fun _ s8 _ => m - (intOf s8).toNat)
  case atStart => exact ⟨0, 0, Nat.zero_le _, Nat.zero_le _, rfl, rfl, H2.out, Fr.refl _ _ _ _⟩
  case round =>
    obtain ⟨k, i, hk, hi, rfl, rfl, hof, hfr⟩ := hrel
    clear H2
    have HOF : Hid (HQ.HeapOf wr hb 46 (hb + 1) (ps.take k) k) := hof
    have HFR : Hid (Fr HQ.tE hb (hb + 1) w2 wr) := hfr
    clear hof hfr
    have HNEXT : Hid (∀ q, k + q ≤ n → ∀ W a c, HQ.HeapOf W hb 46 (hb + 1) (ps.take k) k → Fr HQ.tE hb (hb + 1) w2 W → HQ.Lst hb (hb + 1) W (.slice a q c) ((ps.drop k).take q) → Calls Try.prog 47 #[.pointer (some ⟨hb, 0, none⟩), .slice a q c] W fun e W' => e = .returned (.bool true) ∧ HQ.HeapOf W' hb 46 (hb + 1) (ps.take (k + q)) (k + q) ∧ Fr HQ.tE hb (hb + 1) w2 W') := by
      intro q hq W a c h9 hf9 hl9
      have hlen : ((ps.drop k).take q).length = q := by have := HN.out; simp; omega
      refine (HQ.put_ hb 46 (hb + 1) _ (ps.take k) ((ps.drop k).take q) k W h9 hl9 HQ.less1 (HB.out W hf9) (by have := HN.out; rw [hlen, List.length_take]; omega) (by rw [hlen]; omega)).mono ?_
      rintro e W' ⟨he, hh, hf⟩
      rw [hlen, ← List.take_add] at hh
      exact ⟨he, hh, hf9.trans hf⟩
    by_cases hgo : i < m ∧ k < n
    · obtain ⟨hi1, hk1⟩ := hgo
      have hi2 : (i : Int) < (m : Int) := by omega
      have hk2 : (k : Int) < (n : Int) := by omega
      obtain ⟨ub, uoff, rfl, cu⟩ := HIL.out wr HFR.out i hi1
      obtain ⟨z, hz⟩ : ∃ z, z = zs.getD i 0 := ⟨_, rfl⟩
      obtain ⟨z1, z2⟩ := HZ.out i (by have := HM.out; omega)
      rw [← hz] at cu z1 z2
      clear hz
      obtain ⟨b, off, rfl, hbl, hcell⟩ := HPL.out wr HFR.out (by omega)
      have HC : Hid (∀ i, i < ps.length → wr.cell? ⟨b, off + i * 2, none⟩ = some (.int .i8 (ps.getD i pdx).1) ∧ wr.cell? ⟨b, off + i * 2 + 1, none⟩ = some (.string (ps.getD i pdx).2)) := hcell
      clear hcell
      by_cases hbad : z < 0 ∨ (0 ≤ z ∧ (n : Int) - (k : Int) < z)
      · obtain ⟨q, hq0⟩ : ∃ q : Nat, (n : Int) - (k : Int) = (q : Int) := ⟨n - k, by omega⟩
        have hq1 : k + q ≤ n := by omega
        have b1 : (k : Int) ≤ (k : Int) + (q : Int) := by omega
        have b2 : (k : Int) + (q : Int) ≤ (vcap : Int) := by omega
        have b3 : ((k : Int) + (q : Int)).toNat = k + q := by omega
        have b4 : ¬ vcap = k := by omega
        have b5 : k + q - k = q := by omega
        rcases hbad with hb1 | ⟨hb1, hb2⟩
        · go_wp2_with fail
          refine (HNEXT.out q hq1 wr _ _ HOF.out HFR.out (piece hbl (Nat.lt_succ_self _) HC.out (by have := HN.out; omega))).mono ?_
          rintro e W3 ⟨rfl, hh3, hf3⟩
          go_wp2
          go_roundw
          case rel => exact ⟨k + q, i + 1, hq1, by omega, by go_num, by go_num, hh3, hf3⟩
          case measure => simp [intOf]; omega
        · have hb3 : ¬ z < 0 := by omega
          go_wp2_with fail
          refine (HNEXT.out q hq1 wr _ _ HOF.out HFR.out (piece hbl (Nat.lt_succ_self _) HC.out (by have := HN.out; omega))).mono ?_
          rintro e W3 ⟨rfl, hh3, hf3⟩
          go_wp2
          go_roundw
          case rel => exact ⟨k + q, i + 1, hq1, by omega, by go_num, by go_num, hh3, hf3⟩
          case measure => simp [intOf]; omega
      · obtain ⟨q, rfl⟩ := Int.eq_ofNat_of_zero_le (show 0 ≤ z by omega)
        have hq : ¬ (n : Int) - (k : Int) < (q : Int) := by omega
        have hq1 : k + q ≤ n := by omega
        have b1 : (k : Int) ≤ (k : Int) + (q : Int) := by omega
        have b2 : (k : Int) + (q : Int) ≤ (vcap : Int) := by omega
        have b3 : ((k : Int) + (q : Int)).toNat = k + q := by omega
        have b4 : ¬ vcap = k := by omega
        have b5 : k + q - k = q := by omega
        clear hbad
        go_wp2_with fail
        refine (HNEXT.out q hq1 wr _ _ HOF.out HFR.out (piece hbl (Nat.lt_succ_self _) HC.out (by have := HN.out; omega))).mono ?_
        rintro e W3 ⟨rfl, hh3, hf3⟩
        go_wp2
        go_roundw
        case rel => exact ⟨k + q, i + 1, hq1, by omega, by go_num, by go_num, hh3, hf3⟩
        case measure => simp [intOf]; omega
    · have hk3 : (k : Int) ≤ (n : Int) := by omega
      have hx : ((i : Int) < (m : Int) ∧ ¬ (k : Int) < (n : Int)) ∨ ¬ (i : Int) < (m : Int) := by omega
      clear hgo
      have HTL : Hid (∀ ad', (k < n → ad' = va.map (·.add (k * 2))) → HQ.Lst hb (hb + 1) wr (.slice ad' (n - k) (vcap - k)) ((ps.drop k).take (n - k))) := by
        intro ad' had
        by_cases hkn : k < n
        · rw [had hkn]
          obtain ⟨b, off, hva, hbl, hcell⟩ := HPL.out wr HFR.out (by omega)
          rw [hva, Option.map_some, Addr.add_mid]
          exact piece hbl (Nat.lt_succ_self _) hcell (by have := HN.out; omega)
        · rw [show n - k = 0 by omega, List.take_zero]
          exact pieceNone
      rcases hx with ⟨hx1, hx2⟩ | hx1
      · go_wp2_with (refine wpList_slice_l (by rfl) 79 (.tmp 69) (.tmp 70) (by rfl) 82 2 Try.underlying79 sizeP va n vcap k (by rfl) (by rfl) (by omega) hvc ?_; intro ad' had)
        have HLL : Hid (HQ.Lst hb (hb + 1) wr (.slice ad' (n - k) (vcap - k)) ((ps.drop k).take (n - k))) := HTL.out ad' had
        refine (HNEXT.out (n - k) (by omega) wr _ _ HOF.out HFR.out HLL.out).mono ?_
        rintro e W3 ⟨rfl, hh3, hf3⟩
        rw [show k + (n - k) = n by omega, show ps.take n = ps from List.take_of_length_le (by have := HN.out; omega)] at hh3
        have H3 : Hid (HQ.HeapOf W3 hb 46 (hb + 1) ps n) := hh3
        have HF3 : Hid (Fr HQ.tE hb (hb + 1) w2 W3) := hf3
        clear hh3 hf3 HLL HTL HNEXT HOF HFR had
        go_wp2_with fail
        refine (HQ.len_ hb 46 (hb + 1) ps n W3 H3.out).mono ?_
        rintro e W4 ⟨rfl, rfl⟩
        rw [← HN.out]
        have e0 : ((n : Int) == (n : Int)) = true := by simp
        go_wp2_with fail
        go_loopw [10] (fun s10 wr => ∃ r : Nat, r ≤ 256 ∧ s10 = .int .i64 ((r : Int) - 128) ∧ HQ.HeapOf wr hb 46 (hb + 1) (rem HQ.rk ((r : Int) - 128) 0 ps) n ∧ Fr HQ.tE hb (hb + 1) w2 wr) (fun s10 _ => (128 - intOf s10).toNat)
        case atStart => exact ⟨0, Nat.zero_le _, rfl, by rw [rem_all HQ.rk (((0 : Nat) : Int) - 128) ps (fun x hx => by have h9 := (HR.out x hx).1; show _ ≤ x.1; omega)]; exact H3.out, HF3.out⟩
        case round =>
          obtain ⟨r, hr, rfl, hof4, hfr4⟩ := hrel
          clear H3 HF3
          have HOF4 : Hid (HQ.HeapOf wr hb 46 (hb + 1) (rem HQ.rk ((r : Int) - 128) 0 ps) n) := hof4
          have HFR4 : Hid (Fr HQ.tE hb (hb + 1) w2 wr) := hfr4
          clear hof4 hfr4
          by_cases hr1 : r < 256
          · have hr2 : (r : Int) - 128 < 128 := by omega
            go_wp2_with fail
            go_loopw [11] (fun s11 wr => ∃ j : Nat, j ≤ n ∧ s11 = .int .i64 j ∧ HQ.HeapOf wr hb 46 (hb + 1) (rem HQ.rk ((r : Int) - 128) j ps) n ∧ Fr HQ.tE hb (hb + 1) w2 wr) (fun s11 _ => n - (intOf s11).toNat)
            case atStart => exact ⟨0, Nat.zero_le _, rfl, HOF4.out, HFR4.out⟩
            case round =>
              obtain ⟨j, hj, rfl, hof5, hfr5⟩ := hrel
              clear HOF4 HFR4
              have HOF5 : Hid (HQ.HeapOf wr hb 46 (hb + 1) (rem HQ.rk ((r : Int) - 128) j ps) n) := hof5
              have HFR5 : Hid (Fr HQ.tE hb (hb + 1) w2 wr) := hfr5
              clear hof5 hfr5
              by_cases hj1 : j < n
              · have hj2 : (j : Int) < (n : Int) := by omega
                obtain ⟨b, off, hva, hbl, hcell⟩ := HPL.out wr HFR5.out (by omega)
                obtain ⟨x, hx⟩ : ∃ x, x = ps.getD j pdx := ⟨_, rfl⟩
                have hxm : x ∈ ps := by rw [hx, List.getD_eq_getElem?_getD, List.getElem?_eq_getElem (by have := HN.out; omega)]; exact List.getElem_mem _
                obtain ⟨x1, x2⟩ := HR.out x hxm
                have HX : Hid (x = ps.getD j pdx) := hx
                obtain ⟨cx1, cx2⟩ := hcell j (by have := HN.out; omega)
                rw [← hx] at cx1 cx2
                have HC2 : Hid (∀ W, Fr HQ.tE hb (hb + 1) w2 W → W.cell? ⟨b, off + j * 2, none⟩ = some (.int .i8 x.1) ∧ W.cell? ⟨b, off + j * 2 + 1, none⟩ = some (.string x.2)) := by
                  intro W hf
                  obtain ⟨b', off', hva', -, hcell'⟩ := HPL.out W hf (by omega)
                  rw [hva] at hva'
                  cases hva'
                  have := hcell' j (by have := HN.out; omega)
                  rw [← hx] at this
                  exact this
                subst hva
                clear hx hcell hxm
                by_cases hxr : x.1 = (r : Int) - 128
                · have HT := rem_take HQ.rk pdx ((r : Int) - 128) j ps (by have := HN.out; omega) (by rw [← HX.out]; exact hxr)
                  rw [← HX.out] at HT
                  have HT2 : Hid _ := HT
                  have hlen : (rem HQ.rk ((r : Int) - 128) j ps).length ≤ 100000 := by
                    obtain ⟨v9, es9, -, hrep9⟩ := HOF5.out
                    unfold rem
                    rw [List.length_append]
                    have l1 := List.length_filter_le (fun x => decide ((r : Int) - 128 < HQ.rk x)) (ps.take j)
                    have l2 := List.length_filter_le (fun x => decide ((r : Int) - 128 ≤ HQ.rk x)) (ps.drop j)
                    rw [List.length_take] at l1
                    rw [List.length_drop] at l2
                    have := HN.out
                    omega
                  have HLN : Hid _ := hlen
                  have e1 : (x.1 == (r : Int) - 128) = true := by simpa using hxr
                  have HXR : Hid (x.1 = (r : Int) - 128) := hxr
                  clear HT hlen hxr
                  go_wp2_with fail
                  refine (HQ.take_ hb 46 (hb + 1) _ n wr HOF5.out HT2.out.1 HQ.less1 (HB.out wr HFR5.out) HLN.out).mono ?_
                  rintro e W5 ⟨rfl, hh5, hf5⟩
                  rw [show (rem HQ.rk ((r : Int) - 128) j ps).getD (least HQ.rk HQ.dx (rem HQ.rk ((r : Int) - 128) j ps)) HQ.dx = x from HT2.out.2.1]
                  have HH5 : Hid (HQ.HeapOf W5 hb 46 (hb + 1) (rem HQ.rk ((r : Int) - 128) (j + 1) ps) n) := by unfold Hid; rw [← HT2.out.2.2]; exact hh5
                  have HF5 : Hid (Fr HQ.tE hb (hb + 1) w2 W5) := HFR5.out.trans hf5
                  clear hh5 hf5 HT2 HLN HOF5 HFR5 cx1 cx2
                  go_wp2_with fail
                  obtain ⟨W6, hW6⟩ : ∃ W, W = W5.alloc (.cells #[.int .i8 x.1, .string x.2] 82) := ⟨_, rfl⟩
                  have u6 : Up W5 W6 := by rw [hW6]; exact (Up.refl _).alloc _
                  have d1 : W6.cell? ⟨W5.heap.size, 0, none⟩ = some (.int .i8 x.1) := by rw [hW6]; simp
                  have d2 : W6.cell? ⟨W5.heap.size, 1, none⟩ = some (.string x.2) := by rw [hW6]; simp
                  have HF6 : Hid (Fr HQ.tE hb (hb + 1) w2 W6) := HF5.out.trans (Fr.up u6)
                  have HH6 : Hid (HQ.HeapOf W6 hb 46 (hb + 1) (rem HQ.rk ((r : Int) - 128) (j + 1) ps) n) := HH5.out.fr u6
                  obtain ⟨d3, d4⟩ := HC2.out W6 HF6.out
                  rw [← hW6]
                  clear hW6 u6 HH5 HF5
                  have hnq := pairNeq
                  have hgq := pairG
                  have hsq := pairS
                  generalize W5.heap.size = xb at *
                  go_quiet (fail)
                  go_wp2
                  go_roundw
                  case rel => exact ⟨j + 1, by omega, by go_num, HH6.out.fr ((Up.refl _).drewN _), HF6.out.trans (Fr.up ((Up.refl _).drewN _))⟩
                  case measure => simp [intOf]; omega
                · have e1 : (x.1 == (r : Int) - 128) = false := by simpa using hxr
                  have HS : Hid (rem HQ.rk ((r : Int) - 128) (j + 1) ps = rem HQ.rk ((r : Int) - 128) j ps) := rem_skip HQ.rk pdx _ j ps (by have := HN.out; omega) (by rw [← HX.out]; exact hxr)
                  go_wp2
                  go_roundw
                  case rel => exact ⟨j + 1, by omega, by go_num, by rw [HS.out]; exact HOF5.out, HFR5.out⟩
                  case measure => simp [intOf]; omega
              · obtain rfl : j = n := by omega
                have HE : Hid (rem HQ.rk ((r : Int) - 128) j ps = rem HQ.rk (((r + 1 : Nat) : Int) - 128) 0 ps) := by
                  unfold Hid
                  have := rem_end HQ.rk ((r : Int) - 128) ps
                  rw [← HN.out] at this
                  rw [this]
                  congr 1
                  omega
                go_wp2
                go_roundw
                case rel => exact ⟨r + 1, by omega, by go_num, by rw [← HE.out]; exact HOF5.out, HFR5.out⟩
                case measure => simp [intOf]; omega
          · obtain rfl : r = 256 := by omega
            have hr2 : ¬ ((256 : Nat) : Int) - 128 < 128 := by omega
            have HE : Hid (HQ.HeapOf wr hb 46 (hb + 1) [] n) := by
              unfold Hid
              rw [← rem_none HQ.rk (((256 : Nat) : Int) - 128) ps (fun x hx => by have h9 := (HR.out x hx).2; show x.1 < _; omega)]
              exact HOF4.out
            clear HOF4
            go_wp2_with fail
            refine (HQ.take_none hb 46 (hb + 1) n wr HE.out).mono ?_
            rintro e W5 ⟨rfl, u5⟩
            have HE5 : Hid (HQ.HeapOf (W5.alloc (.cells #[.int .i8 0, .string ⟨#[]⟩] 82)) hb 46 (hb + 1) [] n) := HE.out.fr (u5.alloc _)
            have HU5 : Hid (Up wr (W5.alloc (.cells #[.int .i8 0, .string ⟨#[]⟩] 82))) := u5.alloc _
            clear u5 HE
            go_wp2_with fail
            refine (HQ.len_ hb 46 (hb + 1) [] n _ HE5.out).mono ?_
            rintro e W6 ⟨rfl, rfl⟩
            go_wp2
            go_ret
            refine ⟨rfl, ?_⟩
            exact (Below.trans HU2.out (Below.mono (HFR4.out.below (Nat.lt_succ_self _) (by have := HZ2.out; omega)) hs1)).trans (Below.mono HU5.out (Nat.le_trans hs1 (by have := HB.out wr HFR4.out; omega)))
      · go_wp2_with (refine wpList_slice_l (by rfl) 79 (.tmp 69) (.tmp 70) (by rfl) 82 2 Try.underlying79 sizeP va n vcap k (by rfl) (by rfl) (by omega) hvc ?_; intro ad' had)
        have HLL : Hid (HQ.Lst hb (hb + 1) wr (.slice ad' (n - k) (vcap - k)) ((ps.drop k).take (n - k))) := HTL.out ad' had
        refine (HNEXT.out (n - k) (by omega) wr _ _ HOF.out HFR.out HLL.out).mono ?_
        rintro e W3 ⟨rfl, hh3, hf3⟩
        rw [show k + (n - k) = n by omega, show ps.take n = ps from List.take_of_length_le (by have := HN.out; omega)] at hh3
        have H3 : Hid (HQ.HeapOf W3 hb 46 (hb + 1) ps n) := hh3
        have HF3 : Hid (Fr HQ.tE hb (hb + 1) w2 W3) := hf3
        clear hh3 hf3 HLL HTL HNEXT HOF HFR had
        go_wp2_with fail
        refine (HQ.len_ hb 46 (hb + 1) ps n W3 H3.out).mono ?_
        rintro e W4 ⟨rfl, rfl⟩
        rw [← HN.out]
        have e0 : ((n : Int) == (n : Int)) = true := by simp
        go_wp2_with fail
        go_loopw [10] (fun s10 wr => ∃ r : Nat, r ≤ 256 ∧ s10 = .int .i64 ((r : Int) - 128) ∧ HQ.HeapOf wr hb 46 (hb + 1) (rem HQ.rk ((r : Int) - 128) 0 ps) n ∧ Fr HQ.tE hb (hb + 1) w2 wr) (fun s10 _ => (128 - intOf s10).toNat)
        case atStart => exact ⟨0, Nat.zero_le _, rfl, by rw [rem_all HQ.rk (((0 : Nat) : Int) - 128) ps (fun x hx => by have h9 := (HR.out x hx).1; show _ ≤ x.1; omega)]; exact H3.out, HF3.out⟩
        case round =>
          obtain ⟨r, hr, rfl, hof4, hfr4⟩ := hrel
          clear H3 HF3
          have HOF4 : Hid (HQ.HeapOf wr hb 46 (hb + 1) (rem HQ.rk ((r : Int) - 128) 0 ps) n) := hof4
          have HFR4 : Hid (Fr HQ.tE hb (hb + 1) w2 wr) := hfr4
          clear hof4 hfr4
          by_cases hr1 : r < 256
          · have hr2 : (r : Int) - 128 < 128 := by omega
            go_wp2_with fail
            go_loopw [11] (fun s11 wr => ∃ j : Nat, j ≤ n ∧ s11 = .int .i64 j ∧ HQ.HeapOf wr hb 46 (hb + 1) (rem HQ.rk ((r : Int) - 128) j ps) n ∧ Fr HQ.tE hb (hb + 1) w2 wr) (fun s11 _ => n - (intOf s11).toNat)
            case atStart => exact ⟨0, Nat.zero_le _, rfl, HOF4.out, HFR4.out⟩
            case round =>
              obtain ⟨j, hj, rfl, hof5, hfr5⟩ := hrel
              clear HOF4 HFR4
              have HOF5 : Hid (HQ.HeapOf wr hb 46 (hb + 1) (rem HQ.rk ((r : Int) - 128) j ps) n) := hof5
              have HFR5 : Hid (Fr HQ.tE hb (hb + 1) w2 wr) := hfr5
              clear hof5 hfr5
              by_cases hj1 : j < n
              · have hj2 : (j : Int) < (n : Int) := by omega
                obtain ⟨b, off, hva, hbl, hcell⟩ := HPL.out wr HFR5.out (by omega)
                obtain ⟨x, hx⟩ : ∃ x, x = ps.getD j pdx := ⟨_, rfl⟩
                have hxm : x ∈ ps := by rw [hx, List.getD_eq_getElem?_getD, List.getElem?_eq_getElem (by have := HN.out; omega)]; exact List.getElem_mem _
                obtain ⟨x1, x2⟩ := HR.out x hxm
                have HX : Hid (x = ps.getD j pdx) := hx
                obtain ⟨cx1, cx2⟩ := hcell j (by have := HN.out; omega)
                rw [← hx] at cx1 cx2
                have HC2 : Hid (∀ W, Fr HQ.tE hb (hb + 1) w2 W → W.cell? ⟨b, off + j * 2, none⟩ = some (.int .i8 x.1) ∧ W.cell? ⟨b, off + j * 2 + 1, none⟩ = some (.string x.2)) := by
                  intro W hf
                  obtain ⟨b', off', hva', -, hcell'⟩ := HPL.out W hf (by omega)
                  rw [hva] at hva'
                  cases hva'
                  have := hcell' j (by have := HN.out; omega)
                  rw [← hx] at this
                  exact this
                subst hva
                clear hx hcell hxm
                by_cases hxr : x.1 = (r : Int) - 128
                · have HT := rem_take HQ.rk pdx ((r : Int) - 128) j ps (by have := HN.out; omega) (by rw [← HX.out]; exact hxr)
                  rw [← HX.out] at HT
                  have HT2 : Hid _ := HT
                  have hlen : (rem HQ.rk ((r : Int) - 128) j ps).length ≤ 100000 := by
                    obtain ⟨v9, es9, -, hrep9⟩ := HOF5.out
                    unfold rem
                    rw [List.length_append]
                    have l1 := List.length_filter_le (fun x => decide ((r : Int) - 128 < HQ.rk x)) (ps.take j)
                    have l2 := List.length_filter_le (fun x => decide ((r : Int) - 128 ≤ HQ.rk x)) (ps.drop j)
                    rw [List.length_take] at l1
                    rw [List.length_drop] at l2
                    have := HN.out
                    omega
                  have HLN : Hid _ := hlen
                  have e1 : (x.1 == (r : Int) - 128) = true := by simpa using hxr
                  have HXR : Hid (x.1 = (r : Int) - 128) := hxr
                  clear HT hlen hxr
                  go_wp2_with fail
                  refine (HQ.take_ hb 46 (hb + 1) _ n wr HOF5.out HT2.out.1 HQ.less1 (HB.out wr HFR5.out) HLN.out).mono ?_
                  rintro e W5 ⟨rfl, hh5, hf5⟩
                  rw [show (rem HQ.rk ((r : Int) - 128) j ps).getD (least HQ.rk HQ.dx (rem HQ.rk ((r : Int) - 128) j ps)) HQ.dx = x from HT2.out.2.1]
                  have HH5 : Hid (HQ.HeapOf W5 hb 46 (hb + 1) (rem HQ.rk ((r : Int) - 128) (j + 1) ps) n) := by unfold Hid; rw [← HT2.out.2.2]; exact hh5
                  have HF5 : Hid (Fr HQ.tE hb (hb + 1) w2 W5) := HFR5.out.trans hf5
                  clear hh5 hf5 HT2 HLN HOF5 HFR5 cx1 cx2
                  go_wp2_with fail
                  obtain ⟨W6, hW6⟩ : ∃ W, W = W5.alloc (.cells #[.int .i8 x.1, .string x.2] 82) := ⟨_, rfl⟩
                  have u6 : Up W5 W6 := by rw [hW6]; exact (Up.refl _).alloc _
                  have d1 : W6.cell? ⟨W5.heap.size, 0, none⟩ = some (.int .i8 x.1) := by rw [hW6]; simp
                  have d2 : W6.cell? ⟨W5.heap.size, 1, none⟩ = some (.string x.2) := by rw [hW6]; simp
                  have HF6 : Hid (Fr HQ.tE hb (hb + 1) w2 W6) := HF5.out.trans (Fr.up u6)
                  have HH6 : Hid (HQ.HeapOf W6 hb 46 (hb + 1) (rem HQ.rk ((r : Int) - 128) (j + 1) ps) n) := HH5.out.fr u6
                  obtain ⟨d3, d4⟩ := HC2.out W6 HF6.out
                  rw [← hW6]
                  clear hW6 u6 HH5 HF5
                  have hnq := pairNeq
                  have hgq := pairG
                  have hsq := pairS
                  generalize W5.heap.size = xb at *
                  go_quiet (fail)
                  go_wp2
                  go_roundw
                  case rel => exact ⟨j + 1, by omega, by go_num, HH6.out.fr ((Up.refl _).drewN _), HF6.out.trans (Fr.up ((Up.refl _).drewN _))⟩
                  case measure => simp [intOf]; omega
                · have e1 : (x.1 == (r : Int) - 128) = false := by simpa using hxr
                  have HS : Hid (rem HQ.rk ((r : Int) - 128) (j + 1) ps = rem HQ.rk ((r : Int) - 128) j ps) := rem_skip HQ.rk pdx _ j ps (by have := HN.out; omega) (by rw [← HX.out]; exact hxr)
                  go_wp2
                  go_roundw
                  case rel => exact ⟨j + 1, by omega, by go_num, by rw [HS.out]; exact HOF5.out, HFR5.out⟩
                  case measure => simp [intOf]; omega
              · obtain rfl : j = n := by omega
                have HE : Hid (rem HQ.rk ((r : Int) - 128) j ps = rem HQ.rk (((r + 1 : Nat) : Int) - 128) 0 ps) := by
                  unfold Hid
                  have := rem_end HQ.rk ((r : Int) - 128) ps
                  rw [← HN.out] at this
                  rw [this]
                  congr 1
                  omega
                go_wp2
                go_roundw
                case rel => exact ⟨r + 1, by omega, by go_num, by rw [← HE.out]; exact HOF5.out, HFR5.out⟩
                case measure => simp [intOf]; omega
          · obtain rfl : r = 256 := by omega
            have hr2 : ¬ ((256 : Nat) : Int) - 128 < 128 := by omega
            have HE : Hid (HQ.HeapOf wr hb 46 (hb + 1) [] n) := by
              unfold Hid
              rw [← rem_none HQ.rk (((256 : Nat) : Int) - 128) ps (fun x hx => by have h9 := (HR.out x hx).2; show x.1 < _; omega)]
              exact HOF4.out
            clear HOF4
            go_wp2_with fail
            refine (HQ.take_none hb 46 (hb + 1) n wr HE.out).mono ?_
            rintro e W5 ⟨rfl, u5⟩
            have HE5 : Hid (HQ.HeapOf (W5.alloc (.cells #[.int .i8 0, .string ⟨#[]⟩] 82)) hb 46 (hb + 1) [] n) := HE.out.fr (u5.alloc _)
            have HU5 : Hid (Up wr (W5.alloc (.cells #[.int .i8 0, .string ⟨#[]⟩] 82))) := u5.alloc _
            clear u5 HE
            go_wp2_with fail
            refine (HQ.len_ hb 46 (hb + 1) [] n _ HE5.out).mono ?_
            rintro e W6 ⟨rfl, rfl⟩
            go_wp2
            go_ret
            refine ⟨rfl, ?_⟩
            exact (Below.trans HU2.out (Below.mono (HFR4.out.below (Nat.lt_succ_self _) (by have := HZ2.out; omega)) hs1)).trans (Below.mono HU5.out (Nat.le_trans hs1 (by have := HB.out wr HFR4.out; omega)))
end Go.Proofs.Ytnmoaebmopjmhaa
