/-
  ParseNests: the law's walk.
-/
import Derived.Test.YtkldllnnocdhbaaGreatDoorNy10
import Derived.Test.YtkldllnnocdhbaaGreatDoorNk0
import Derived.Test.YtkldllnnocdhbaaGreatDoorNk1
import Derived.Test.YtkldllnnocdhbaaGreatDoorNk2
import Derived.Test.YtkldllnnocdhbaaGreatDoorNk3
import Derived.Test.YtkldllnnocdhbaaGreatDoorWo10
import Derived.Lib.ConvBytes
namespace Go.Proofs.YtkldllnnocdhbaaGreatDoor
open Go.RowKit
attribute [local go_sem ↓] Go.wp_at_zero Go.wp_at_succ
namespace TP
open TR (Nd Byt nums_inj nums_nil)
open TK (Tok tex TabP CuP BL)
theorem rep_app : ∀ (k : Nat) (u t : List Int), rep k u t = rep k u [] ++ t
  | 0, _, _ => rfl
  | k + 1, u, t => by
    show u ++ rep k u t = u ++ rep k u [] ++ t
    rw [rep_app k u t, List.append_assoc]
theorem rep_snoc : ∀ (k : Nat) (u : List Int), rep k u [] ++ u = rep (k + 1) u []
  | 0, u => by show [] ++ u = u ++ []; rw [List.nil_append, List.append_nil]
  | k + 1, u => by
    show u ++ rep k u [] ++ u = u ++ (u ++ rep k u [])
    rw [List.append_assoc, rep_snoc k u]
    rfl
theorem rep_len : ∀ (k : Nat) (u : List Int), (rep k u []).length = k * u.length
  | 0, _ => by rw [Nat.zero_mul]; rfl
  | k + 1, u => by
    show (u ++ rep k u []).length = _
    rw [List.length_append, rep_len k u, Nat.succ_mul]
    omega
theorem and3 (z : Int) (h0 : -128 ≤ z) (h1 : z ≤ 127) : ∃ q : Nat, q < 4 ∧ bits .and .i8 z 3 = (q : Int) := by
  have h : ∀ j : Fin 256, ∃ q : Fin 4, bits .and .i8 ((j : Int) - 128) 3 = ((q : Nat) : Int) := by decide +kernel
  obtain ⟨q, hq⟩ := h ⟨(z + 128).toNat, by omega⟩
  refine ⟨q, q.2, ?_⟩
  rw [← hq]
  congr 1
  show z = ((z + 128).toNat : Int) - 128
  omega
theorem tk1_ok (c : Int) (p : Nat) (h0 : 0 ≤ c) (h1 : c ≤ 255) : TkO (TK.tk1 c p) := by
  have hb : Byt [c] := fun x hx => by
    have e := List.mem_singleton.1 hx
    subst e
    exact ⟨h0, by omega⟩
  unfold TK.tk1
  split
  · exact ⟨fun x hx => (by cases hx), by show 0 ≤ 281474976710656; omega, by show -9223372036854775808 ≤ (1 : Int); omega, by show (1 : Int) ≤ 9223372036854775807; omega⟩
  · split
    · exact ⟨hb, by show 1 ≤ 281474976710656; omega, by show -9223372036854775808 ≤ (0 : Int); omega, by show (0 : Int) ≤ 9223372036854775807; omega⟩
    · exact ⟨hb, by show 1 ≤ 281474976710656; omega, by show -9223372036854775808 ≤ (0 : Int); omega, by show (0 : Int) ≤ 9223372036854775807; omega⟩
theorem ntk_len : ∀ (p : Nat) (B : List Int), (TK.ntk p B).length = B.length + 1
  | _, [] => rfl
  | p, c :: r => by show (TK.ntk (p + 1) r).length + 1 = _; rw [ntk_len]; rfl
theorem ntk_ok : ∀ (p : Nat) (B : List Int), (∀ c ∈ B, 0 ≤ c ∧ c ≤ 255) → ∀ t ∈ TK.ntk p B, TkO t
  | p, [], _, t, ht => by
    obtain rfl : t = ⟨0, [], 0, p⟩ := List.mem_singleton.1 ht
    exact ⟨fun x hx => (by cases hx), by show 0 ≤ 281474976710656; omega, by show -9223372036854775808 ≤ (0 : Int); omega, by show (0 : Int) ≤ 9223372036854775807; omega⟩
  | p, c :: r, h, t, ht => by
    rcases List.mem_cons.1 ht with rfl | ht
    · exact tk1_ok c p (h c (List.mem_cons_self ..)).1 (h c (List.mem_cons_self ..)).2
    · exact ntk_ok (p + 1) r (fun x hx => h x (List.mem_cons_of_mem _ hx)) t ht
theorem tk1_tex {c : Int} {p : Nat} (h : TK.wnB c = true ∨ TK.mnB c = true) : tex (TK.tk1 c p) ≠ [] := by
  have hp : ∀ n : Int, 0 ≤ n → ¬ n < 0 := fun n h => by omega
  have hz : ¬ ((p : Int) < 0) := by omega
  rcases h with h | h
  · rcases TK.wnB_is h with rfl | rfl | rfl
    · show tex ⟨2, [], 1, p⟩ ≠ []
      unfold tex
      rw [if_neg (by simp), if_pos (by simp), TK.dcm_small (show (0 : Int) ≤ 1 by omega) (show (1 : Int) < 10 by omega)]
      simp
    · show tex ⟨1, [97], 0, p⟩ ≠ []
      unfold tex
      rw [if_neg (by simp), if_neg (by simp), if_neg (by simp), if_pos (by simp; decide)]
      simp
    · show tex ⟨1, [98], 0, p⟩ ≠ []
      unfold tex
      rw [if_neg (by simp), if_neg (by simp), if_neg (by simp), if_pos (by simp; decide)]
      simp
  · have e : TK.tk1 c p = ⟨4, [c], 0, p⟩ := by rcases TK.mnB_is h with rfl | rfl | rfl | rfl | rfl <;> rfl
    have hm : TK.mrk [c] = true := by rcases TK.mnB_is h with rfl | rfl | rfl | rfl | rfl <;> decide
    rw [e]
    unfold tex
    rw [if_neg (by simp), if_neg (by simp), if_neg (by simp), if_pos (by simp [hm])]
    simp
theorem ntk_may : ∀ (p : Nat) (B : List Int), (∀ c ∈ B, TK.wnB c = true ∨ TK.mnB c = true) → (∀ i, i + 1 < (TK.ntk p B).length → tex (tk (TK.ntk p B) i) ≠ []) ∧ tk (TK.ntk p B) B.length = ⟨0, [], 0, ((p + B.length : Nat) : Int)⟩
  | p, [], _ => ⟨fun i hi => absurd hi (by show ¬ i + 1 < 1; omega), rfl⟩
  | p, c :: r, h => by
    obtain ⟨h1, h2⟩ := ntk_may (p + 1) r (fun x hx => h x (List.mem_cons_of_mem _ hx))
    refine ⟨fun i hi => ?_, ?_⟩
    · cases i with
      | zero => exact tk1_tex (h c (List.mem_cons_self ..))
      | succ i => exact h1 i (Nat.lt_of_succ_lt_succ hi)
    · show tk (TK.ntk (p + 1) r) r.length = _
      rw [h2, show p + (c :: r).length = p + 1 + r.length by rw [List.length_cons]; omega]
theorem one_mem {B : List Int} (h : TK.one1 B = true) : ∀ c ∈ B, TK.wnB c = true ∨ TK.mnB c = true := fun c hc => by
  obtain ⟨i, hi, rfl⟩ := List.getElem_of_mem hc
  have h1 := (TK.one1_is B h).all i hi
  rw [List.getD_eq_getElem?_getD, List.getElem?_eq_getElem hi] at h1
  exact h1
theorem src_byt {B : List Int} (h : TK.one1 B = true) : ∀ c ∈ B, 0 ≤ c ∧ c ≤ 255 := fun c hc => by
  rcases one_mem h c hc with h1 | h1
  · have := TK.wnB_is h1; omega
  · have := TK.mnB_is h1; omega
theorem nk (kd k : Nat) (h : kd < 4) (hk : k < 128) : nok kd k = true := by
  rcases (by omega : kd = 0 ∨ kd = 1 ∨ kd = 2 ∨ kd = 3) with rfl | rfl | rfl | rfl
  · exact nk0 hk
  · exact nk1 hk
  · exact nk2 hk
  · exact nk3 hk
/- a source's tokens, and what is told of them -/
structure NS (kd k : Nat) : Prop where
  cut : TK.cuL (nsrc kd k) = TK.ntk 0 (nsrc kd k)
  byt : ∀ c ∈ nsrc kd k, 0 ≤ c ∧ c ≤ 255
  may : MayT (TK.ntk 0 (nsrc kd k))
  said : ∀ R, ans false (TK.ntk 0 (nsrc kd k)) (fuel (TK.ntk 0 (nsrc kd k))) = some R → told R = if k ≤ 64 then (0, 0) else (23, npl kd)
theorem ns_is {kd k : Nat} (h : kd < 4) (hk : k < 128) (hl : (nsrc kd k).length ≤ 1000) : NS kd k := by
  have h1 := nk kd k h hk
  unfold nok at h1
  simp only [Bool.and_eq_true, decide_eq_true_eq] at h1
  obtain ⟨h2, h3⟩ := h1
  have hm := ntk_may 0 (nsrc kd k) (one_mem h2)
  have hl2 : (TK.ntk 0 (nsrc kd k)).length - 1 = (nsrc kd k).length := by rw [ntk_len]; rfl
  refine ⟨TK.cut_ntk h2 (by omega), src_byt h2, ⟨hm.1, ?_, ?_⟩, fun R hR => ?_⟩
  · rw [hl2, hm.2]
    show (0 : Int) ≤ ((0 + _ : Nat) : Int)
    omega
  · rw [hl2, hm.2]
  · rw [hR] at h3
    exact Option.some.inj h3
theorem bl_string (w : World) (B : List Int) (hb : ∀ c ∈ B, 0 ≤ c ∧ c ≤ 255) : BL (Lib.bytesWorld w 5 (strOfNums B)) (.slice (some ⟨w.heap.size, 0, none⟩) (strOfNums B).size (grownCap w (strOfNums B).size 0 5)) B := by
  have hs : (strOfNums B).size = B.length := strOfNums_size _
  refine ⟨by simp [TK.bvs], some ⟨w.heap.size, 0, none⟩, _, by rw [hs], by rw [← hs]; exact grownCap_ge _ _ _ _, fun _ => ⟨w.heap.size, 0, rfl, fun j hj => ?_⟩⟩
  have hj2 : j < B.length := by omega
  rw [Nat.zero_add, Lib.bytesWorld_cell w _ _ j (by omega)]
  have e : (TK.bvs B)[j]? = some (.int .u8 (B[j]'hj2)) := by
    unfold TK.bvs
    rw [List.getElem?_map, List.getElem?_eq_getElem hj2]
    rfl
  rw [e]
  congr 2
  have h9 := hb _ (List.getElem_mem hj2)
  have e2 : (strOfNums B).data.toList.getD j 0 = UInt8.ofNat (B[j]'hj2).toNat := by
    rw [strOfNums_data, List.getD_eq_getElem?_getD, List.getElem?_map, List.getElem?_eq_getElem hj2]
    rfl
  rw [e2, UInt8.toNat_ofNat']
  omega
theorem up_string (w : World) (s : ByteArray) : Up w (Lib.bytesWorld w 5 s) := by
  refine ⟨rfl, ?_, rfl, ?_, fun j hj => Lib.bytesWorld_at_old w _ s j hj⟩
  · trivial
  · rw [Lib.bytesWorld_size]; omega

set_option maxRecDepth 100000 in
set_option maxHeartbeats 16000000 in
theorem nests_ (z kz : Int) (hz0 : -128 ≤ z) (hz1 : z ≤ 127) (hk0 : -128 ≤ kz) (hk1 : kz ≤ 127) (w : World) (hT : TabP w) (hRT : w.cell? ⟨0, 0, none⟩ = some (.iface 181 (.agg #[.pointer (some ⟨4, 93, none⟩)]))) :
    Calls Tryz.prog 7 #[.int .i8 z, .int .i8 kz] w fun e w' => e = .returned (.bool true) ∧ Up w w' := by
  obtain ⟨Post, hPost⟩ : ∃ P : Ending → World → Prop, P = fun e w' => e = .returned (.bool true) ∧ Up w w' := ⟨_, rfl⟩
  rw [← hPost]
  have HPo : Hid (Post = fun e w' => e = .returned (.bool true) ∧ Up w w') := hPost
  clear hPost
  have HTB : Hid (TabP w) := hT
  have HRT : Hid _ := hRT
  have HWK : Hid _ := works_ w hT hRT
  have HAD : Hid (∀ a b : List Int, a.length + b.length ≤ 10000 → ¬ 9223372036854775807 < (strOfNums a).size + (strOfNums b).size ∧ strOfNums a ++ strOfNums b = strOfNums (a ++ b)) := fun a b h => ⟨by rw [strOfNums_size, strOfNums_size]; omega, nums_app a b⟩
  obtain ⟨q, hq4, hq⟩ := and3 kz hk0 hk1
  have e0 : IntKind.i64.wrap z = z := by rw [IntKind.wrap_i64]; omega
  have e1 : IntKind.i64.wrap (-z) = -z := by rw [IntKind.wrap_i64]; omega
  clear hT hRT
  go_enter Tryz.func7, Tryz.ntmps7
  go_wp2_with fail
  refine Calls.mono HWK.out ?_
  rintro r w1 ⟨rfl, u1⟩
  have HU1 : Hid (Up w w1) := u1
  clear u1 HWK
  obtain ⟨k, hkz⟩ : ∃ k : Nat, (k : Int) = if z < 0 then -z - 1 else z := ⟨(if z < 0 then -z - 1 else z).toNat, by split <;> omega⟩
  have e2 : z < 0 → IntKind.i64.wrap (-z - 1) = (k : Int) := fun h => by rw [IntKind.wrap_i64]; rw [if_pos h] at hkz; omega
  have hk128 : k < 128 := by split at hkz <;> omega
  have hq' : q = 0 ∨ q = 1 ∨ q = 2 ∨ q = 3 := by omega
  have HKZ : Hid ((k : Int) = if z < 0 then -z - 1 else z) := hkz
  by_cases hneg : z < 0
  · have e3 := e2 hneg
    clear e2 hkz
    go_upto_region 7 with fail
    clear e0 e1 e3 hneg
    rcases hq' with rfl | rfl | rfl | rfl
    · have hq : bits .and .i8 kz 3 = 0 := hq
      go_upto_region 10 with fail

      go_loopw [7, 9] (fun s7 s9 W => ∃ i : Nat, i ≤ k ∧ s9 = .int .i64 (i : Int) ∧ s7 = .string (strOfNums (([] : List Int) ++ rep i [40] [])) ∧ w1 = W) (fun _ s9 _ => k - (intOf s9).toNat)
      case atStart => exact ⟨0, Nat.zero_le _, rfl, by first | rfl | (rw [HQ1.out]; simp [rep]; done) | (simp [rep]; done), rfl⟩
      case round =>
        obtain ⟨i, hi, rfl, rfl, rfl⟩ := hrel
        by_cases hlt : i < k
        · have hlt2 : (i : Int) < (k : Int) := by omega
          have ei : IntKind.i64.wrap ((i : Int) + 1) = ((i + 1 : Nat) : Int) := by rw [IntKind.wrap_i64]; omega
          have hrl := rep_len i [40]
          have hpl9 : (([] : List Int)).length ≤ 1 := (by simp)
          obtain ⟨a1, f1⟩ := HAD.out (([] : List Int) ++ rep i [40] []) [40] (by rw [List.length_append, hrl]; show _ + i * 1 + 1 ≤ 10000; omega)
          rw [show (strOfNums [40]).size = 1 from by rw [strOfNums_size]; rfl] at a1
          rw [show strOfNums [40] = ⟨#[40]⟩ from rfl] at f1
          have HNX : Hid (strOfNums (([] : List Int) ++ rep i [40] [] ++ [40]) = strOfNums (([] : List Int) ++ rep (i + 1) [40] [])) := by unfold Hid; rw [List.append_assoc, rep_snoc]
          generalize strOfNums (([] : List Int) ++ rep i [40] []) = q0 at a1 f1 ⊢
          generalize strOfNums (([] : List Int) ++ rep i [40] [] ++ [40]) = q1 at f1 HNX
          clear hpl9 hrl
          go_wp2_with fail
          go_roundw
          case rel => exact ⟨i + 1, by omega, by go_num, by rw [HNX.out], by first | trivial | rfl⟩
          case measure => simp [intOf]; omega
        · have hlt2 : ¬ (i : Int) < (k : Int) := by omega
          obtain rfl : k = i := by omega
          obtain ⟨a1, f1⟩ := HAD.out ([] ++ rep k [40] []) [49] (by rw [List.length_append, rep_len]; show 0 + k * 1 + 1 ≤ 10000; omega)
          rw [show (strOfNums [49]).size = 1 from by rw [strOfNums_size]; rfl] at a1
          rw [show strOfNums [49] = ⟨#[49]⟩ from rfl] at f1
          have HPL : Hid (([] ++ rep k [40] [] ++ [49] : List Int).length ≤ 200) := by unfold Hid; rw [List.length_append, List.length_append, rep_len]; show 0 + k * 1 + 1 ≤ 200; omega
          obtain ⟨pre, hpre⟩ : ∃ p : List Int, p = [] ++ rep k [40] [] ++ [49] := ⟨_, rfl⟩
          have HPRE : Hid (pre = [] ++ rep k [40] [] ++ [49]) := hpre
          rw [← hpre] at f1 HPL
          clear hpre
          generalize strOfNums ([] ++ rep k [40] []) = q0 at a1 f1 ⊢
          obtain ⟨q1, hq1⟩ : ∃ q, q = strOfNums pre := ⟨_, rfl⟩
          have HQ1 : Hid (q1 = strOfNums pre) := hq1
          rw [← hq1] at f1
          clear hq1
          go_upto_region 14 with fail
          go_upto_region 15 with fail

          go_loopw [7, 10] (fun s7 s10 W => ∃ i : Nat, i ≤ k ∧ s10 = .int .i64 (i : Int) ∧ s7 = .string (strOfNums (pre ++ rep i [41] [])) ∧ w1 = W) (fun _ s10 _ => k - (intOf s10).toNat)
          case atStart => exact ⟨0, Nat.zero_le _, rfl, by first | rfl | (rw [HQ1.out]; simp [rep]; done) | (simp [rep]; done), rfl⟩
          case round =>
            obtain ⟨i, hi, rfl, rfl, rfl⟩ := hrel
            by_cases hlt : i < k
            · have hlt2 : (i : Int) < (k : Int) := by omega
              have ei : IntKind.i64.wrap ((i : Int) + 1) = ((i + 1 : Nat) : Int) := by rw [IntKind.wrap_i64]; omega
              have hrl := rep_len i [41]
              have hpl9 : (pre).length ≤ 200 := HPL.out
              obtain ⟨a1, f1⟩ := HAD.out (pre ++ rep i [41] []) [41] (by rw [List.length_append, hrl]; show _ + i * 1 + 1 ≤ 10000; omega)
              rw [show (strOfNums [41]).size = 1 from by rw [strOfNums_size]; rfl] at a1
              rw [show strOfNums [41] = ⟨#[41]⟩ from rfl] at f1
              have HNX : Hid (strOfNums (pre ++ rep i [41] [] ++ [41]) = strOfNums (pre ++ rep (i + 1) [41] [])) := by unfold Hid; rw [List.append_assoc, rep_snoc]
              generalize strOfNums (pre ++ rep i [41] []) = q0 at a1 f1 ⊢
              generalize strOfNums (pre ++ rep i [41] [] ++ [41]) = q1 at f1 HNX
              clear hpl9 hrl
              go_wp2_with fail
              go_roundw
              case rel => exact ⟨i + 1, by omega, by go_num, by rw [HNX.out], by first | trivial | rfl⟩
              case measure => simp [intOf]; omega
            · have hlt2 : ¬ (i : Int) < (k : Int) := by omega
              obtain rfl : k = i := by omega
              have HSR : Hid (strOfNums (pre ++ rep k [41] []) = strOfNums (nsrc 0 k) ∧ (nsrc 0 k).length ≤ 1000) := by
                have e : pre ++ rep k [41] [] = nsrc 0 k := by
                  rw [HPRE.out]
                  show [] ++ rep k [40] [] ++ [49] ++ rep k [41] [] = rep k [40] (49 :: rep k [41] [])
                  rw [rep_app k [40] (49 :: rep k [41] []), List.nil_append, List.append_assoc]
                  rfl
                refine ⟨by rw [e], ?_⟩
                rw [← e, List.length_append, rep_len]
                have := HPL.out
                show _ + k * 1 ≤ 1000
                omega
              go_upto_region 40 with fail

              have HNS : Hid (NS 0 k) := ns_is (by omega) (by omega) HSR.out.2
              have HCB : Hid _ := bl_string w1 (nsrc 0 k) HNS.out.byt
              have HUS : Hid (Up w1 _) := up_string w1 (strOfNums (nsrc 0 k))
              have hcv := Lib.run_convert_string_bytes (P := Tryz.prog) w1 9 26 5 (strOfNums (nsrc 0 k)) Tryz.underlying9 Tryz.underlying26 Tryz.underlying5
              rw [HSR.out.1]
              generalize (strOfNums (nsrc 0 k)).size = z1 at HCB hcv
              generalize grownCap w1 z1 0 5 = z2 at HCB hcv
              generalize Lib.bytesWorld w1 5 (strOfNums (nsrc 0 k)) = w2 at HCB HUS hcv
              generalize strOfNums (nsrc 0 k) = src at hcv ⊢
              have HCT : Hid _ := TK.rcut_ _ (nsrc 0 k) w2 HCB.out (fun c hc => ⟨(HNS.out.byt c hc).1, by have := (HNS.out.byt c hc).2; omega⟩)
              go_wp2_with fail
              refine Calls.mono HCT.out ?_
              rintro r9 w3 ⟨v, rfl, hown, u9⟩
              rw [HNS.out.cut] at hown
              have hln := ntk_len 0 (nsrc 0 k)
              have hokt := ntk_ok 0 (nsrc 0 k) HNS.out.byt
              have hgt : ∀ i, i < (TK.ntk 0 (nsrc 0 k)).length → TkO (tk (TK.ntk 0 (nsrc 0 k)) i) := fun i hi => hokt _ (by unfold tk; rw [List.getD_eq_getElem?_getD, List.getElem?_eq_getElem hi]; exact List.getElem_mem hi)
              have HU3 : Hid (Up w w3) := HU1.out.trans (HUS.out.trans u9)
              obtain ⟨bt, off, c1, rfl, htm⟩ := tm_row hown (by omega) (by rw [hln]; have := HSR.out.2; omega) (fun i hi => (hgt i hi).1) (fun i hi => (hgt i hi).2.1) (fun i hi => (hgt i hi).2.2) (HTB.out.up HU3.out)
              have HEX : Hid (Calls Tryz.prog 13 #[.slice (some ⟨bt, off, none⟩) (TK.ntk 0 (nsrc 0 k)).length c1] w3 (QT3 false (TK.ntk 0 (nsrc 0 k)) w3)) := (expr_any w3 bt off _ c1 _ htm (HU3.out.cell HRT.out)).mono fun e w' h9 => an_told (pk := false) HNS.out.may h9
              clear hown u9 HCT hcv HCB HUS htm hgt hokt hln
              generalize (TK.ntk 0 (nsrc 0 k)).length = zl at HEX ⊢
              generalize TK.cuE (nsrc 0 k) = ze
              generalize TK.cuA (nsrc 0 k) = za
              go_wp2_with fail
              refine Calls.mono HEX.out ?_
              rintro r w4 ⟨R, v, hR, rfl, u4⟩
              have hsd := HNS.out.said R hR
              have HU4 : Hid (Up w w4) := HU3.out.trans u4
              by_cases hk : k ≤ 64
              · rw [if_pos hk] at hsd
                rw [hsd]
                have hk2 : (k : Int) ≤ 64 := by omega
                clear hR u4 HEX hsd
                go_wp2_with fail
                rw [HPo.out]
                exact ⟨rfl, HU4.out⟩
              · rw [if_neg hk] at hsd
                rw [hsd]
                have hk2 : ¬ (k : Int) ≤ 64 := by omega
                clear hR u4 HEX hsd
                have hpl : npl 0 = 64 := rfl
                rw [hpl]
                go_wp2_with fail
                rw [HPo.out]
                exact ⟨rfl, HU4.out⟩
    · have hq : bits .and .i8 kz 3 = 1 := hq
      go_upto_region 21 with fail

      go_loopw [7, 11] (fun s7 s11 W => ∃ i : Nat, i ≤ k ∧ s11 = .int .i64 (i : Int) ∧ s7 = .string (strOfNums (([] : List Int) ++ rep i [33] [])) ∧ w1 = W) (fun _ s11 _ => k - (intOf s11).toNat)
      case atStart => exact ⟨0, Nat.zero_le _, rfl, by first | rfl | (rw [HQ1.out]; simp [rep]; done) | (simp [rep]; done), rfl⟩
      case round =>
        obtain ⟨i, hi, rfl, rfl, rfl⟩ := hrel
        by_cases hlt : i < k
        · have hlt2 : (i : Int) < (k : Int) := by omega
          have ei : IntKind.i64.wrap ((i : Int) + 1) = ((i + 1 : Nat) : Int) := by rw [IntKind.wrap_i64]; omega
          have hrl := rep_len i [33]
          have hpl9 : (([] : List Int)).length ≤ 1 := (by simp)
          obtain ⟨a1, f1⟩ := HAD.out (([] : List Int) ++ rep i [33] []) [33] (by rw [List.length_append, hrl]; show _ + i * 1 + 1 ≤ 10000; omega)
          rw [show (strOfNums [33]).size = 1 from by rw [strOfNums_size]; rfl] at a1
          rw [show strOfNums [33] = ⟨#[33]⟩ from rfl] at f1
          have HNX : Hid (strOfNums (([] : List Int) ++ rep i [33] [] ++ [33]) = strOfNums (([] : List Int) ++ rep (i + 1) [33] [])) := by unfold Hid; rw [List.append_assoc, rep_snoc]
          generalize strOfNums (([] : List Int) ++ rep i [33] []) = q0 at a1 f1 ⊢
          generalize strOfNums (([] : List Int) ++ rep i [33] [] ++ [33]) = q1 at f1 HNX
          clear hpl9 hrl
          go_wp2_with fail
          go_roundw
          case rel => exact ⟨i + 1, by omega, by go_num, by rw [HNX.out], by first | trivial | rfl⟩
          case measure => simp [intOf]; omega
        · have hlt2 : ¬ (i : Int) < (k : Int) := by omega
          obtain rfl : k = i := by omega
          obtain ⟨a1, f1⟩ := HAD.out ([] ++ rep k [33] []) [97] (by rw [List.length_append, rep_len]; show 0 + k * 1 + 1 ≤ 10000; omega)
          rw [show (strOfNums [97]).size = 1 from by rw [strOfNums_size]; rfl] at a1
          rw [show strOfNums [97] = ⟨#[97]⟩ from rfl] at f1
          have HSR : Hid (strOfNums ([] ++ rep k [33] [] ++ [97]) = strOfNums (nsrc 1 k) ∧ (nsrc 1 k).length ≤ 1000) := by
            have e : [] ++ rep k [33] [] ++ [97] = nsrc 1 k := by
              show [] ++ rep k [33] [] ++ [97] = rep k [33] [97]
              rw [rep_app k [33] [97], List.nil_append]
            refine ⟨by rw [e], ?_⟩
            rw [← e, List.length_append, List.length_append, rep_len]
            show 0 + k * 1 + 1 ≤ 1000
            omega
          generalize strOfNums ([] ++ rep k [33] []) = q0 at a1 f1 ⊢
          generalize strOfNums ([] ++ rep k [33] [] ++ [97]) = q1 at f1 HSR
          go_upto_region 40 with fail

          have HNS : Hid (NS 1 k) := ns_is (by omega) (by omega) HSR.out.2
          have HCB : Hid _ := bl_string w1 (nsrc 1 k) HNS.out.byt
          have HUS : Hid (Up w1 _) := up_string w1 (strOfNums (nsrc 1 k))
          have hcv := Lib.run_convert_string_bytes (P := Tryz.prog) w1 9 26 5 (strOfNums (nsrc 1 k)) Tryz.underlying9 Tryz.underlying26 Tryz.underlying5
          rw [HSR.out.1]
          generalize (strOfNums (nsrc 1 k)).size = z1 at HCB hcv
          generalize grownCap w1 z1 0 5 = z2 at HCB hcv
          generalize Lib.bytesWorld w1 5 (strOfNums (nsrc 1 k)) = w2 at HCB HUS hcv
          generalize strOfNums (nsrc 1 k) = src at hcv ⊢
          have HCT : Hid _ := TK.rcut_ _ (nsrc 1 k) w2 HCB.out (fun c hc => ⟨(HNS.out.byt c hc).1, by have := (HNS.out.byt c hc).2; omega⟩)
          go_wp2_with fail
          refine Calls.mono HCT.out ?_
          rintro r9 w3 ⟨v, rfl, hown, u9⟩
          rw [HNS.out.cut] at hown
          have hln := ntk_len 0 (nsrc 1 k)
          have hokt := ntk_ok 0 (nsrc 1 k) HNS.out.byt
          have hgt : ∀ i, i < (TK.ntk 0 (nsrc 1 k)).length → TkO (tk (TK.ntk 0 (nsrc 1 k)) i) := fun i hi => hokt _ (by unfold tk; rw [List.getD_eq_getElem?_getD, List.getElem?_eq_getElem hi]; exact List.getElem_mem hi)
          have HU3 : Hid (Up w w3) := HU1.out.trans (HUS.out.trans u9)
          obtain ⟨bt, off, c1, rfl, htm⟩ := tm_row hown (by omega) (by rw [hln]; have := HSR.out.2; omega) (fun i hi => (hgt i hi).1) (fun i hi => (hgt i hi).2.1) (fun i hi => (hgt i hi).2.2) (HTB.out.up HU3.out)
          have HEX : Hid (Calls Tryz.prog 13 #[.slice (some ⟨bt, off, none⟩) (TK.ntk 0 (nsrc 1 k)).length c1] w3 (QT3 false (TK.ntk 0 (nsrc 1 k)) w3)) := (expr_any w3 bt off _ c1 _ htm (HU3.out.cell HRT.out)).mono fun e w' h9 => an_told (pk := false) HNS.out.may h9
          clear hown u9 HCT hcv HCB HUS htm hgt hokt hln
          generalize (TK.ntk 0 (nsrc 1 k)).length = zl at HEX ⊢
          generalize TK.cuE (nsrc 1 k) = ze
          generalize TK.cuA (nsrc 1 k) = za
          go_wp2_with fail
          refine Calls.mono HEX.out ?_
          rintro r w4 ⟨R, v, hR, rfl, u4⟩
          have hsd := HNS.out.said R hR
          have HU4 : Hid (Up w w4) := HU3.out.trans u4
          by_cases hk : k ≤ 64
          · rw [if_pos hk] at hsd
            rw [hsd]
            have hk2 : (k : Int) ≤ 64 := by omega
            clear hR u4 HEX hsd
            go_wp2_with fail
            rw [HPo.out]
            exact ⟨rfl, HU4.out⟩
          · rw [if_neg hk] at hsd
            rw [hsd]
            have hk2 : ¬ (k : Int) ≤ 64 := by omega
            clear hR u4 HEX hsd
            have hpl : npl 1 = 64 := rfl
            rw [hpl]
            go_wp2_with fail
            rw [HPo.out]
            exact ⟨rfl, HU4.out⟩
    · have hq : bits .and .i8 kz 3 = 2 := hq
      go_upto_region 29 with fail

      go_loopw [7, 12] (fun s7 s12 W => ∃ i : Nat, i ≤ k + 1 ∧ s12 = .int .i64 (i : Int) ∧ s7 = .string (strOfNums ([49] ++ rep i [43, 49] [])) ∧ w1 = W) (fun _ s12 _ => k + 1 - (intOf s12).toNat)
      case atStart => exact ⟨0, Nat.zero_le _, rfl, by first | rfl | (rw [HQ1.out]; simp [rep]; done) | (simp [rep]; done), rfl⟩
      case round =>
        obtain ⟨i, hi, rfl, rfl, rfl⟩ := hrel
        by_cases hlt : i < k + 1
        · have hlt2 : (i : Int) ≤ (k : Int) := by omega
          have ei : IntKind.i64.wrap ((i : Int) + 1) = ((i + 1 : Nat) : Int) := by rw [IntKind.wrap_i64]; omega
          have hrl := rep_len i [43, 49]
          have hpl9 : ([49]).length ≤ 1 := (by simp)
          obtain ⟨a1, f1⟩ := HAD.out ([49] ++ rep i [43, 49] []) [43, 49] (by rw [List.length_append, hrl]; show _ + i * 2 + 2 ≤ 10000; omega)
          rw [show (strOfNums [43, 49]).size = 2 from by rw [strOfNums_size]; rfl] at a1
          rw [show strOfNums [43, 49] = ⟨#[43, 49]⟩ from rfl] at f1
          have HNX : Hid (strOfNums ([49] ++ rep i [43, 49] [] ++ [43, 49]) = strOfNums ([49] ++ rep (i + 1) [43, 49] [])) := by unfold Hid; rw [List.append_assoc, rep_snoc]
          generalize strOfNums ([49] ++ rep i [43, 49] []) = q0 at a1 f1 ⊢
          generalize strOfNums ([49] ++ rep i [43, 49] [] ++ [43, 49]) = q1 at f1 HNX
          clear hpl9 hrl
          go_wp2_with fail
          go_roundw
          case rel => exact ⟨i + 1, by omega, by go_num, by rw [HNX.out], by first | trivial | rfl⟩
          case measure => simp [intOf]; omega
        · have hlt2 : ¬ (i : Int) ≤ (k : Int) := by omega
          obtain rfl : i = k + 1 := by omega
          have HSR : Hid (strOfNums ([49] ++ rep (k + 1) [43, 49] []) = strOfNums (nsrc 2 k) ∧ (nsrc 2 k).length ≤ 1000) := by
            refine ⟨rfl, ?_⟩
            show (49 :: rep (k + 1) [43, 49] []).length ≤ 1000
            rw [List.length_cons, rep_len]
            show (k + 1) * 2 + 1 ≤ 1000
            omega
          go_upto_region 40 with fail

          have HNS : Hid (NS 2 k) := ns_is (by omega) (by omega) HSR.out.2
          have HCB : Hid _ := bl_string w1 (nsrc 2 k) HNS.out.byt
          have HUS : Hid (Up w1 _) := up_string w1 (strOfNums (nsrc 2 k))
          have hcv := Lib.run_convert_string_bytes (P := Tryz.prog) w1 9 26 5 (strOfNums (nsrc 2 k)) Tryz.underlying9 Tryz.underlying26 Tryz.underlying5
          rw [HSR.out.1]
          generalize (strOfNums (nsrc 2 k)).size = z1 at HCB hcv
          generalize grownCap w1 z1 0 5 = z2 at HCB hcv
          generalize Lib.bytesWorld w1 5 (strOfNums (nsrc 2 k)) = w2 at HCB HUS hcv
          generalize strOfNums (nsrc 2 k) = src at hcv ⊢
          have HCT : Hid _ := TK.rcut_ _ (nsrc 2 k) w2 HCB.out (fun c hc => ⟨(HNS.out.byt c hc).1, by have := (HNS.out.byt c hc).2; omega⟩)
          go_wp2_with fail
          refine Calls.mono HCT.out ?_
          rintro r9 w3 ⟨v, rfl, hown, u9⟩
          rw [HNS.out.cut] at hown
          have hln := ntk_len 0 (nsrc 2 k)
          have hokt := ntk_ok 0 (nsrc 2 k) HNS.out.byt
          have hgt : ∀ i, i < (TK.ntk 0 (nsrc 2 k)).length → TkO (tk (TK.ntk 0 (nsrc 2 k)) i) := fun i hi => hokt _ (by unfold tk; rw [List.getD_eq_getElem?_getD, List.getElem?_eq_getElem hi]; exact List.getElem_mem hi)
          have HU3 : Hid (Up w w3) := HU1.out.trans (HUS.out.trans u9)
          obtain ⟨bt, off, c1, rfl, htm⟩ := tm_row hown (by omega) (by rw [hln]; have := HSR.out.2; omega) (fun i hi => (hgt i hi).1) (fun i hi => (hgt i hi).2.1) (fun i hi => (hgt i hi).2.2) (HTB.out.up HU3.out)
          have HEX : Hid (Calls Tryz.prog 13 #[.slice (some ⟨bt, off, none⟩) (TK.ntk 0 (nsrc 2 k)).length c1] w3 (QT3 false (TK.ntk 0 (nsrc 2 k)) w3)) := (expr_any w3 bt off _ c1 _ htm (HU3.out.cell HRT.out)).mono fun e w' h9 => an_told (pk := false) HNS.out.may h9
          clear hown u9 HCT hcv HCB HUS htm hgt hokt hln
          generalize (TK.ntk 0 (nsrc 2 k)).length = zl at HEX ⊢
          generalize TK.cuE (nsrc 2 k) = ze
          generalize TK.cuA (nsrc 2 k) = za
          go_wp2_with fail
          refine Calls.mono HEX.out ?_
          rintro r w4 ⟨R, v, hR, rfl, u4⟩
          have hsd := HNS.out.said R hR
          have HU4 : Hid (Up w w4) := HU3.out.trans u4
          by_cases hk : k ≤ 64
          · rw [if_pos hk] at hsd
            rw [hsd]
            have hk2 : (k : Int) ≤ 64 := by omega
            clear hR u4 HEX hsd
            go_wp2_with fail
            rw [HPo.out]
            exact ⟨rfl, HU4.out⟩
          · rw [if_neg hk] at hsd
            rw [hsd]
            have hk2 : ¬ (k : Int) ≤ 64 := by omega
            clear hR u4 HEX hsd
            have hpl : npl 2 = 131 := rfl
            rw [hpl]
            go_wp2_with fail
            rw [HPo.out]
            exact ⟨rfl, HU4.out⟩
    · have hq : bits .and .i8 kz 3 = 3 := hq
      go_upto_region 36 with fail

      go_loopw [7, 13] (fun s7 s13 W => ∃ i : Nat, i ≤ k + 1 ∧ s13 = .int .i64 (i : Int) ∧ s7 = .string (strOfNums ([97] ++ rep i [46, 98] [])) ∧ w1 = W) (fun _ s13 _ => k + 1 - (intOf s13).toNat)
      case atStart => exact ⟨0, Nat.zero_le _, rfl, by first | rfl | (rw [HQ1.out]; simp [rep]; done) | (simp [rep]; done), rfl⟩
      case round =>
        obtain ⟨i, hi, rfl, rfl, rfl⟩ := hrel
        by_cases hlt : i < k + 1
        · have hlt2 : (i : Int) ≤ (k : Int) := by omega
          have ei : IntKind.i64.wrap ((i : Int) + 1) = ((i + 1 : Nat) : Int) := by rw [IntKind.wrap_i64]; omega
          have hrl := rep_len i [46, 98]
          have hpl9 : ([97]).length ≤ 1 := (by simp)
          obtain ⟨a1, f1⟩ := HAD.out ([97] ++ rep i [46, 98] []) [46, 98] (by rw [List.length_append, hrl]; show _ + i * 2 + 2 ≤ 10000; omega)
          rw [show (strOfNums [46, 98]).size = 2 from by rw [strOfNums_size]; rfl] at a1
          rw [show strOfNums [46, 98] = ⟨#[46, 98]⟩ from rfl] at f1
          have HNX : Hid (strOfNums ([97] ++ rep i [46, 98] [] ++ [46, 98]) = strOfNums ([97] ++ rep (i + 1) [46, 98] [])) := by unfold Hid; rw [List.append_assoc, rep_snoc]
          generalize strOfNums ([97] ++ rep i [46, 98] []) = q0 at a1 f1 ⊢
          generalize strOfNums ([97] ++ rep i [46, 98] [] ++ [46, 98]) = q1 at f1 HNX
          clear hpl9 hrl
          go_wp2_with fail
          go_roundw
          case rel => exact ⟨i + 1, by omega, by go_num, by rw [HNX.out], by first | trivial | rfl⟩
          case measure => simp [intOf]; omega
        · have hlt2 : ¬ (i : Int) ≤ (k : Int) := by omega
          obtain rfl : i = k + 1 := by omega
          have HSR : Hid (strOfNums ([97] ++ rep (k + 1) [46, 98] []) = strOfNums (nsrc 3 k) ∧ (nsrc 3 k).length ≤ 1000) := by
            refine ⟨rfl, ?_⟩
            show (97 :: rep (k + 1) [46, 98] []).length ≤ 1000
            rw [List.length_cons, rep_len]
            show (k + 1) * 2 + 1 ≤ 1000
            omega
          go_upto_region 40 with fail

          have HNS : Hid (NS 3 k) := ns_is (by omega) (by omega) HSR.out.2
          have HCB : Hid _ := bl_string w1 (nsrc 3 k) HNS.out.byt
          have HUS : Hid (Up w1 _) := up_string w1 (strOfNums (nsrc 3 k))
          have hcv := Lib.run_convert_string_bytes (P := Tryz.prog) w1 9 26 5 (strOfNums (nsrc 3 k)) Tryz.underlying9 Tryz.underlying26 Tryz.underlying5
          rw [HSR.out.1]
          generalize (strOfNums (nsrc 3 k)).size = z1 at HCB hcv
          generalize grownCap w1 z1 0 5 = z2 at HCB hcv
          generalize Lib.bytesWorld w1 5 (strOfNums (nsrc 3 k)) = w2 at HCB HUS hcv
          generalize strOfNums (nsrc 3 k) = src at hcv ⊢
          have HCT : Hid _ := TK.rcut_ _ (nsrc 3 k) w2 HCB.out (fun c hc => ⟨(HNS.out.byt c hc).1, by have := (HNS.out.byt c hc).2; omega⟩)
          go_wp2_with fail
          refine Calls.mono HCT.out ?_
          rintro r9 w3 ⟨v, rfl, hown, u9⟩
          rw [HNS.out.cut] at hown
          have hln := ntk_len 0 (nsrc 3 k)
          have hokt := ntk_ok 0 (nsrc 3 k) HNS.out.byt
          have hgt : ∀ i, i < (TK.ntk 0 (nsrc 3 k)).length → TkO (tk (TK.ntk 0 (nsrc 3 k)) i) := fun i hi => hokt _ (by unfold tk; rw [List.getD_eq_getElem?_getD, List.getElem?_eq_getElem hi]; exact List.getElem_mem hi)
          have HU3 : Hid (Up w w3) := HU1.out.trans (HUS.out.trans u9)
          obtain ⟨bt, off, c1, rfl, htm⟩ := tm_row hown (by omega) (by rw [hln]; have := HSR.out.2; omega) (fun i hi => (hgt i hi).1) (fun i hi => (hgt i hi).2.1) (fun i hi => (hgt i hi).2.2) (HTB.out.up HU3.out)
          have HEX : Hid (Calls Tryz.prog 13 #[.slice (some ⟨bt, off, none⟩) (TK.ntk 0 (nsrc 3 k)).length c1] w3 (QT3 false (TK.ntk 0 (nsrc 3 k)) w3)) := (expr_any w3 bt off _ c1 _ htm (HU3.out.cell HRT.out)).mono fun e w' h9 => an_told (pk := false) HNS.out.may h9
          clear hown u9 HCT hcv HCB HUS htm hgt hokt hln
          generalize (TK.ntk 0 (nsrc 3 k)).length = zl at HEX ⊢
          generalize TK.cuE (nsrc 3 k) = ze
          generalize TK.cuA (nsrc 3 k) = za
          go_wp2_with fail
          refine Calls.mono HEX.out ?_
          rintro r w4 ⟨R, v, hR, rfl, u4⟩
          have hsd := HNS.out.said R hR
          have HU4 : Hid (Up w w4) := HU3.out.trans u4
          by_cases hk : k ≤ 64
          · rw [if_pos hk] at hsd
            rw [hsd]
            have hk2 : (k : Int) ≤ 64 := by omega
            clear hR u4 HEX hsd
            go_wp2_with fail
            rw [HPo.out]
            exact ⟨rfl, HU4.out⟩
          · rw [if_neg hk] at hsd
            rw [hsd]
            have hk2 : ¬ (k : Int) ≤ 64 := by omega
            clear hR u4 HEX hsd
            have hpl : npl 3 = 131 := rfl
            rw [hpl]
            go_wp2_with fail
            rw [HPo.out]
            exact ⟨rfl, HU4.out⟩

  · have e3 : z = (k : Int) := by rw [HKZ.out, if_neg hneg]
    clear e2 hkz
    subst e3
    go_upto_region 7 with fail
    clear e0 e1 hneg
    rcases hq' with rfl | rfl | rfl | rfl
    · have hq : bits .and .i8 kz 3 = 0 := hq
      go_upto_region 10 with fail

      go_loopw [7, 9] (fun s7 s9 W => ∃ i : Nat, i ≤ k ∧ s9 = .int .i64 (i : Int) ∧ s7 = .string (strOfNums (([] : List Int) ++ rep i [40] [])) ∧ w1 = W) (fun _ s9 _ => k - (intOf s9).toNat)
      case atStart => exact ⟨0, Nat.zero_le _, rfl, by first | rfl | (rw [HQ1.out]; simp [rep]; done) | (simp [rep]; done), rfl⟩
      case round =>
        obtain ⟨i, hi, rfl, rfl, rfl⟩ := hrel
        by_cases hlt : i < k
        · have hlt2 : (i : Int) < (k : Int) := by omega
          have ei : IntKind.i64.wrap ((i : Int) + 1) = ((i + 1 : Nat) : Int) := by rw [IntKind.wrap_i64]; omega
          have hrl := rep_len i [40]
          have hpl9 : (([] : List Int)).length ≤ 1 := (by simp)
          obtain ⟨a1, f1⟩ := HAD.out (([] : List Int) ++ rep i [40] []) [40] (by rw [List.length_append, hrl]; show _ + i * 1 + 1 ≤ 10000; omega)
          rw [show (strOfNums [40]).size = 1 from by rw [strOfNums_size]; rfl] at a1
          rw [show strOfNums [40] = ⟨#[40]⟩ from rfl] at f1
          have HNX : Hid (strOfNums (([] : List Int) ++ rep i [40] [] ++ [40]) = strOfNums (([] : List Int) ++ rep (i + 1) [40] [])) := by unfold Hid; rw [List.append_assoc, rep_snoc]
          generalize strOfNums (([] : List Int) ++ rep i [40] []) = q0 at a1 f1 ⊢
          generalize strOfNums (([] : List Int) ++ rep i [40] [] ++ [40]) = q1 at f1 HNX
          clear hpl9 hrl
          go_wp2_with fail
          go_roundw
          case rel => exact ⟨i + 1, by omega, by go_num, by rw [HNX.out], by first | trivial | rfl⟩
          case measure => simp [intOf]; omega
        · have hlt2 : ¬ (i : Int) < (k : Int) := by omega
          obtain rfl : k = i := by omega
          obtain ⟨a1, f1⟩ := HAD.out ([] ++ rep k [40] []) [49] (by rw [List.length_append, rep_len]; show 0 + k * 1 + 1 ≤ 10000; omega)
          rw [show (strOfNums [49]).size = 1 from by rw [strOfNums_size]; rfl] at a1
          rw [show strOfNums [49] = ⟨#[49]⟩ from rfl] at f1
          have HPL : Hid (([] ++ rep k [40] [] ++ [49] : List Int).length ≤ 200) := by unfold Hid; rw [List.length_append, List.length_append, rep_len]; show 0 + k * 1 + 1 ≤ 200; omega
          obtain ⟨pre, hpre⟩ : ∃ p : List Int, p = [] ++ rep k [40] [] ++ [49] := ⟨_, rfl⟩
          have HPRE : Hid (pre = [] ++ rep k [40] [] ++ [49]) := hpre
          rw [← hpre] at f1 HPL
          clear hpre
          generalize strOfNums ([] ++ rep k [40] []) = q0 at a1 f1 ⊢
          obtain ⟨q1, hq1⟩ : ∃ q, q = strOfNums pre := ⟨_, rfl⟩
          have HQ1 : Hid (q1 = strOfNums pre) := hq1
          rw [← hq1] at f1
          clear hq1
          go_upto_region 14 with fail
          go_upto_region 15 with fail

          go_loopw [7, 10] (fun s7 s10 W => ∃ i : Nat, i ≤ k ∧ s10 = .int .i64 (i : Int) ∧ s7 = .string (strOfNums (pre ++ rep i [41] [])) ∧ w1 = W) (fun _ s10 _ => k - (intOf s10).toNat)
          case atStart => exact ⟨0, Nat.zero_le _, rfl, by first | rfl | (rw [HQ1.out]; simp [rep]; done) | (simp [rep]; done), rfl⟩
          case round =>
            obtain ⟨i, hi, rfl, rfl, rfl⟩ := hrel
            by_cases hlt : i < k
            · have hlt2 : (i : Int) < (k : Int) := by omega
              have ei : IntKind.i64.wrap ((i : Int) + 1) = ((i + 1 : Nat) : Int) := by rw [IntKind.wrap_i64]; omega
              have hrl := rep_len i [41]
              have hpl9 : (pre).length ≤ 200 := HPL.out
              obtain ⟨a1, f1⟩ := HAD.out (pre ++ rep i [41] []) [41] (by rw [List.length_append, hrl]; show _ + i * 1 + 1 ≤ 10000; omega)
              rw [show (strOfNums [41]).size = 1 from by rw [strOfNums_size]; rfl] at a1
              rw [show strOfNums [41] = ⟨#[41]⟩ from rfl] at f1
              have HNX : Hid (strOfNums (pre ++ rep i [41] [] ++ [41]) = strOfNums (pre ++ rep (i + 1) [41] [])) := by unfold Hid; rw [List.append_assoc, rep_snoc]
              generalize strOfNums (pre ++ rep i [41] []) = q0 at a1 f1 ⊢
              generalize strOfNums (pre ++ rep i [41] [] ++ [41]) = q1 at f1 HNX
              clear hpl9 hrl
              go_wp2_with fail
              go_roundw
              case rel => exact ⟨i + 1, by omega, by go_num, by rw [HNX.out], by first | trivial | rfl⟩
              case measure => simp [intOf]; omega
            · have hlt2 : ¬ (i : Int) < (k : Int) := by omega
              obtain rfl : k = i := by omega
              have HSR : Hid (strOfNums (pre ++ rep k [41] []) = strOfNums (nsrc 0 k) ∧ (nsrc 0 k).length ≤ 1000) := by
                have e : pre ++ rep k [41] [] = nsrc 0 k := by
                  rw [HPRE.out]
                  show [] ++ rep k [40] [] ++ [49] ++ rep k [41] [] = rep k [40] (49 :: rep k [41] [])
                  rw [rep_app k [40] (49 :: rep k [41] []), List.nil_append, List.append_assoc]
                  rfl
                refine ⟨by rw [e], ?_⟩
                rw [← e, List.length_append, rep_len]
                have := HPL.out
                show _ + k * 1 ≤ 1000
                omega
              go_upto_region 40 with fail

              have HNS : Hid (NS 0 k) := ns_is (by omega) (by omega) HSR.out.2
              have HCB : Hid _ := bl_string w1 (nsrc 0 k) HNS.out.byt
              have HUS : Hid (Up w1 _) := up_string w1 (strOfNums (nsrc 0 k))
              have hcv := Lib.run_convert_string_bytes (P := Tryz.prog) w1 9 26 5 (strOfNums (nsrc 0 k)) Tryz.underlying9 Tryz.underlying26 Tryz.underlying5
              rw [HSR.out.1]
              generalize (strOfNums (nsrc 0 k)).size = z1 at HCB hcv
              generalize grownCap w1 z1 0 5 = z2 at HCB hcv
              generalize Lib.bytesWorld w1 5 (strOfNums (nsrc 0 k)) = w2 at HCB HUS hcv
              generalize strOfNums (nsrc 0 k) = src at hcv ⊢
              have HCT : Hid _ := TK.rcut_ _ (nsrc 0 k) w2 HCB.out (fun c hc => ⟨(HNS.out.byt c hc).1, by have := (HNS.out.byt c hc).2; omega⟩)
              go_wp2_with fail
              refine Calls.mono HCT.out ?_
              rintro r9 w3 ⟨v, rfl, hown, u9⟩
              rw [HNS.out.cut] at hown
              have hln := ntk_len 0 (nsrc 0 k)
              have hokt := ntk_ok 0 (nsrc 0 k) HNS.out.byt
              have hgt : ∀ i, i < (TK.ntk 0 (nsrc 0 k)).length → TkO (tk (TK.ntk 0 (nsrc 0 k)) i) := fun i hi => hokt _ (by unfold tk; rw [List.getD_eq_getElem?_getD, List.getElem?_eq_getElem hi]; exact List.getElem_mem hi)
              have HU3 : Hid (Up w w3) := HU1.out.trans (HUS.out.trans u9)
              obtain ⟨bt, off, c1, rfl, htm⟩ := tm_row hown (by omega) (by rw [hln]; have := HSR.out.2; omega) (fun i hi => (hgt i hi).1) (fun i hi => (hgt i hi).2.1) (fun i hi => (hgt i hi).2.2) (HTB.out.up HU3.out)
              have HEX : Hid (Calls Tryz.prog 13 #[.slice (some ⟨bt, off, none⟩) (TK.ntk 0 (nsrc 0 k)).length c1] w3 (QT3 false (TK.ntk 0 (nsrc 0 k)) w3)) := (expr_any w3 bt off _ c1 _ htm (HU3.out.cell HRT.out)).mono fun e w' h9 => an_told (pk := false) HNS.out.may h9
              clear hown u9 HCT hcv HCB HUS htm hgt hokt hln
              generalize (TK.ntk 0 (nsrc 0 k)).length = zl at HEX ⊢
              generalize TK.cuE (nsrc 0 k) = ze
              generalize TK.cuA (nsrc 0 k) = za
              go_wp2_with fail
              refine Calls.mono HEX.out ?_
              rintro r w4 ⟨R, v, hR, rfl, u4⟩
              have hsd := HNS.out.said R hR
              have HU4 : Hid (Up w w4) := HU3.out.trans u4
              by_cases hk : k ≤ 64
              · rw [if_pos hk] at hsd
                rw [hsd]
                have hk2 : (k : Int) ≤ 64 := by omega
                clear hR u4 HEX hsd
                go_wp2_with fail
                rw [HPo.out]
                exact ⟨rfl, HU4.out⟩
              · rw [if_neg hk] at hsd
                rw [hsd]
                have hk2 : ¬ (k : Int) ≤ 64 := by omega
                clear hR u4 HEX hsd
                have hpl : npl 0 = 64 := rfl
                rw [hpl]
                go_wp2_with fail
                rw [HPo.out]
                exact ⟨rfl, HU4.out⟩
    · have hq : bits .and .i8 kz 3 = 1 := hq
      go_upto_region 21 with fail

      go_loopw [7, 11] (fun s7 s11 W => ∃ i : Nat, i ≤ k ∧ s11 = .int .i64 (i : Int) ∧ s7 = .string (strOfNums (([] : List Int) ++ rep i [33] [])) ∧ w1 = W) (fun _ s11 _ => k - (intOf s11).toNat)
      case atStart => exact ⟨0, Nat.zero_le _, rfl, by first | rfl | (rw [HQ1.out]; simp [rep]; done) | (simp [rep]; done), rfl⟩
      case round =>
        obtain ⟨i, hi, rfl, rfl, rfl⟩ := hrel
        by_cases hlt : i < k
        · have hlt2 : (i : Int) < (k : Int) := by omega
          have ei : IntKind.i64.wrap ((i : Int) + 1) = ((i + 1 : Nat) : Int) := by rw [IntKind.wrap_i64]; omega
          have hrl := rep_len i [33]
          have hpl9 : (([] : List Int)).length ≤ 1 := (by simp)
          obtain ⟨a1, f1⟩ := HAD.out (([] : List Int) ++ rep i [33] []) [33] (by rw [List.length_append, hrl]; show _ + i * 1 + 1 ≤ 10000; omega)
          rw [show (strOfNums [33]).size = 1 from by rw [strOfNums_size]; rfl] at a1
          rw [show strOfNums [33] = ⟨#[33]⟩ from rfl] at f1
          have HNX : Hid (strOfNums (([] : List Int) ++ rep i [33] [] ++ [33]) = strOfNums (([] : List Int) ++ rep (i + 1) [33] [])) := by unfold Hid; rw [List.append_assoc, rep_snoc]
          generalize strOfNums (([] : List Int) ++ rep i [33] []) = q0 at a1 f1 ⊢
          generalize strOfNums (([] : List Int) ++ rep i [33] [] ++ [33]) = q1 at f1 HNX
          clear hpl9 hrl
          go_wp2_with fail
          go_roundw
          case rel => exact ⟨i + 1, by omega, by go_num, by rw [HNX.out], by first | trivial | rfl⟩
          case measure => simp [intOf]; omega
        · have hlt2 : ¬ (i : Int) < (k : Int) := by omega
          obtain rfl : k = i := by omega
          obtain ⟨a1, f1⟩ := HAD.out ([] ++ rep k [33] []) [97] (by rw [List.length_append, rep_len]; show 0 + k * 1 + 1 ≤ 10000; omega)
          rw [show (strOfNums [97]).size = 1 from by rw [strOfNums_size]; rfl] at a1
          rw [show strOfNums [97] = ⟨#[97]⟩ from rfl] at f1
          have HSR : Hid (strOfNums ([] ++ rep k [33] [] ++ [97]) = strOfNums (nsrc 1 k) ∧ (nsrc 1 k).length ≤ 1000) := by
            have e : [] ++ rep k [33] [] ++ [97] = nsrc 1 k := by
              show [] ++ rep k [33] [] ++ [97] = rep k [33] [97]
              rw [rep_app k [33] [97], List.nil_append]
            refine ⟨by rw [e], ?_⟩
            rw [← e, List.length_append, List.length_append, rep_len]
            show 0 + k * 1 + 1 ≤ 1000
            omega
          generalize strOfNums ([] ++ rep k [33] []) = q0 at a1 f1 ⊢
          generalize strOfNums ([] ++ rep k [33] [] ++ [97]) = q1 at f1 HSR
          go_upto_region 40 with fail

          have HNS : Hid (NS 1 k) := ns_is (by omega) (by omega) HSR.out.2
          have HCB : Hid _ := bl_string w1 (nsrc 1 k) HNS.out.byt
          have HUS : Hid (Up w1 _) := up_string w1 (strOfNums (nsrc 1 k))
          have hcv := Lib.run_convert_string_bytes (P := Tryz.prog) w1 9 26 5 (strOfNums (nsrc 1 k)) Tryz.underlying9 Tryz.underlying26 Tryz.underlying5
          rw [HSR.out.1]
          generalize (strOfNums (nsrc 1 k)).size = z1 at HCB hcv
          generalize grownCap w1 z1 0 5 = z2 at HCB hcv
          generalize Lib.bytesWorld w1 5 (strOfNums (nsrc 1 k)) = w2 at HCB HUS hcv
          generalize strOfNums (nsrc 1 k) = src at hcv ⊢
          have HCT : Hid _ := TK.rcut_ _ (nsrc 1 k) w2 HCB.out (fun c hc => ⟨(HNS.out.byt c hc).1, by have := (HNS.out.byt c hc).2; omega⟩)
          go_wp2_with fail
          refine Calls.mono HCT.out ?_
          rintro r9 w3 ⟨v, rfl, hown, u9⟩
          rw [HNS.out.cut] at hown
          have hln := ntk_len 0 (nsrc 1 k)
          have hokt := ntk_ok 0 (nsrc 1 k) HNS.out.byt
          have hgt : ∀ i, i < (TK.ntk 0 (nsrc 1 k)).length → TkO (tk (TK.ntk 0 (nsrc 1 k)) i) := fun i hi => hokt _ (by unfold tk; rw [List.getD_eq_getElem?_getD, List.getElem?_eq_getElem hi]; exact List.getElem_mem hi)
          have HU3 : Hid (Up w w3) := HU1.out.trans (HUS.out.trans u9)
          obtain ⟨bt, off, c1, rfl, htm⟩ := tm_row hown (by omega) (by rw [hln]; have := HSR.out.2; omega) (fun i hi => (hgt i hi).1) (fun i hi => (hgt i hi).2.1) (fun i hi => (hgt i hi).2.2) (HTB.out.up HU3.out)
          have HEX : Hid (Calls Tryz.prog 13 #[.slice (some ⟨bt, off, none⟩) (TK.ntk 0 (nsrc 1 k)).length c1] w3 (QT3 false (TK.ntk 0 (nsrc 1 k)) w3)) := (expr_any w3 bt off _ c1 _ htm (HU3.out.cell HRT.out)).mono fun e w' h9 => an_told (pk := false) HNS.out.may h9
          clear hown u9 HCT hcv HCB HUS htm hgt hokt hln
          generalize (TK.ntk 0 (nsrc 1 k)).length = zl at HEX ⊢
          generalize TK.cuE (nsrc 1 k) = ze
          generalize TK.cuA (nsrc 1 k) = za
          go_wp2_with fail
          refine Calls.mono HEX.out ?_
          rintro r w4 ⟨R, v, hR, rfl, u4⟩
          have hsd := HNS.out.said R hR
          have HU4 : Hid (Up w w4) := HU3.out.trans u4
          by_cases hk : k ≤ 64
          · rw [if_pos hk] at hsd
            rw [hsd]
            have hk2 : (k : Int) ≤ 64 := by omega
            clear hR u4 HEX hsd
            go_wp2_with fail
            rw [HPo.out]
            exact ⟨rfl, HU4.out⟩
          · rw [if_neg hk] at hsd
            rw [hsd]
            have hk2 : ¬ (k : Int) ≤ 64 := by omega
            clear hR u4 HEX hsd
            have hpl : npl 1 = 64 := rfl
            rw [hpl]
            go_wp2_with fail
            rw [HPo.out]
            exact ⟨rfl, HU4.out⟩
    · have hq : bits .and .i8 kz 3 = 2 := hq
      go_upto_region 29 with fail

      go_loopw [7, 12] (fun s7 s12 W => ∃ i : Nat, i ≤ k + 1 ∧ s12 = .int .i64 (i : Int) ∧ s7 = .string (strOfNums ([49] ++ rep i [43, 49] [])) ∧ w1 = W) (fun _ s12 _ => k + 1 - (intOf s12).toNat)
      case atStart => exact ⟨0, Nat.zero_le _, rfl, by first | rfl | (rw [HQ1.out]; simp [rep]; done) | (simp [rep]; done), rfl⟩
      case round =>
        obtain ⟨i, hi, rfl, rfl, rfl⟩ := hrel
        by_cases hlt : i < k + 1
        · have hlt2 : (i : Int) ≤ (k : Int) := by omega
          have ei : IntKind.i64.wrap ((i : Int) + 1) = ((i + 1 : Nat) : Int) := by rw [IntKind.wrap_i64]; omega
          have hrl := rep_len i [43, 49]
          have hpl9 : ([49]).length ≤ 1 := (by simp)
          obtain ⟨a1, f1⟩ := HAD.out ([49] ++ rep i [43, 49] []) [43, 49] (by rw [List.length_append, hrl]; show _ + i * 2 + 2 ≤ 10000; omega)
          rw [show (strOfNums [43, 49]).size = 2 from by rw [strOfNums_size]; rfl] at a1
          rw [show strOfNums [43, 49] = ⟨#[43, 49]⟩ from rfl] at f1
          have HNX : Hid (strOfNums ([49] ++ rep i [43, 49] [] ++ [43, 49]) = strOfNums ([49] ++ rep (i + 1) [43, 49] [])) := by unfold Hid; rw [List.append_assoc, rep_snoc]
          generalize strOfNums ([49] ++ rep i [43, 49] []) = q0 at a1 f1 ⊢
          generalize strOfNums ([49] ++ rep i [43, 49] [] ++ [43, 49]) = q1 at f1 HNX
          clear hpl9 hrl
          go_wp2_with fail
          go_roundw
          case rel => exact ⟨i + 1, by omega, by go_num, by rw [HNX.out], by first | trivial | rfl⟩
          case measure => simp [intOf]; omega
        · have hlt2 : ¬ (i : Int) ≤ (k : Int) := by omega
          obtain rfl : i = k + 1 := by omega
          have HSR : Hid (strOfNums ([49] ++ rep (k + 1) [43, 49] []) = strOfNums (nsrc 2 k) ∧ (nsrc 2 k).length ≤ 1000) := by
            refine ⟨rfl, ?_⟩
            show (49 :: rep (k + 1) [43, 49] []).length ≤ 1000
            rw [List.length_cons, rep_len]
            show (k + 1) * 2 + 1 ≤ 1000
            omega
          go_upto_region 40 with fail

          have HNS : Hid (NS 2 k) := ns_is (by omega) (by omega) HSR.out.2
          have HCB : Hid _ := bl_string w1 (nsrc 2 k) HNS.out.byt
          have HUS : Hid (Up w1 _) := up_string w1 (strOfNums (nsrc 2 k))
          have hcv := Lib.run_convert_string_bytes (P := Tryz.prog) w1 9 26 5 (strOfNums (nsrc 2 k)) Tryz.underlying9 Tryz.underlying26 Tryz.underlying5
          rw [HSR.out.1]
          generalize (strOfNums (nsrc 2 k)).size = z1 at HCB hcv
          generalize grownCap w1 z1 0 5 = z2 at HCB hcv
          generalize Lib.bytesWorld w1 5 (strOfNums (nsrc 2 k)) = w2 at HCB HUS hcv
          generalize strOfNums (nsrc 2 k) = src at hcv ⊢
          have HCT : Hid _ := TK.rcut_ _ (nsrc 2 k) w2 HCB.out (fun c hc => ⟨(HNS.out.byt c hc).1, by have := (HNS.out.byt c hc).2; omega⟩)
          go_wp2_with fail
          refine Calls.mono HCT.out ?_
          rintro r9 w3 ⟨v, rfl, hown, u9⟩
          rw [HNS.out.cut] at hown
          have hln := ntk_len 0 (nsrc 2 k)
          have hokt := ntk_ok 0 (nsrc 2 k) HNS.out.byt
          have hgt : ∀ i, i < (TK.ntk 0 (nsrc 2 k)).length → TkO (tk (TK.ntk 0 (nsrc 2 k)) i) := fun i hi => hokt _ (by unfold tk; rw [List.getD_eq_getElem?_getD, List.getElem?_eq_getElem hi]; exact List.getElem_mem hi)
          have HU3 : Hid (Up w w3) := HU1.out.trans (HUS.out.trans u9)
          obtain ⟨bt, off, c1, rfl, htm⟩ := tm_row hown (by omega) (by rw [hln]; have := HSR.out.2; omega) (fun i hi => (hgt i hi).1) (fun i hi => (hgt i hi).2.1) (fun i hi => (hgt i hi).2.2) (HTB.out.up HU3.out)
          have HEX : Hid (Calls Tryz.prog 13 #[.slice (some ⟨bt, off, none⟩) (TK.ntk 0 (nsrc 2 k)).length c1] w3 (QT3 false (TK.ntk 0 (nsrc 2 k)) w3)) := (expr_any w3 bt off _ c1 _ htm (HU3.out.cell HRT.out)).mono fun e w' h9 => an_told (pk := false) HNS.out.may h9
          clear hown u9 HCT hcv HCB HUS htm hgt hokt hln
          generalize (TK.ntk 0 (nsrc 2 k)).length = zl at HEX ⊢
          generalize TK.cuE (nsrc 2 k) = ze
          generalize TK.cuA (nsrc 2 k) = za
          go_wp2_with fail
          refine Calls.mono HEX.out ?_
          rintro r w4 ⟨R, v, hR, rfl, u4⟩
          have hsd := HNS.out.said R hR
          have HU4 : Hid (Up w w4) := HU3.out.trans u4
          by_cases hk : k ≤ 64
          · rw [if_pos hk] at hsd
            rw [hsd]
            have hk2 : (k : Int) ≤ 64 := by omega
            clear hR u4 HEX hsd
            go_wp2_with fail
            rw [HPo.out]
            exact ⟨rfl, HU4.out⟩
          · rw [if_neg hk] at hsd
            rw [hsd]
            have hk2 : ¬ (k : Int) ≤ 64 := by omega
            clear hR u4 HEX hsd
            have hpl : npl 2 = 131 := rfl
            rw [hpl]
            go_wp2_with fail
            rw [HPo.out]
            exact ⟨rfl, HU4.out⟩
    · have hq : bits .and .i8 kz 3 = 3 := hq
      go_upto_region 36 with fail

      go_loopw [7, 13] (fun s7 s13 W => ∃ i : Nat, i ≤ k + 1 ∧ s13 = .int .i64 (i : Int) ∧ s7 = .string (strOfNums ([97] ++ rep i [46, 98] [])) ∧ w1 = W) (fun _ s13 _ => k + 1 - (intOf s13).toNat)
      case atStart => exact ⟨0, Nat.zero_le _, rfl, by first | rfl | (rw [HQ1.out]; simp [rep]; done) | (simp [rep]; done), rfl⟩
      case round =>
        obtain ⟨i, hi, rfl, rfl, rfl⟩ := hrel
        by_cases hlt : i < k + 1
        · have hlt2 : (i : Int) ≤ (k : Int) := by omega
          have ei : IntKind.i64.wrap ((i : Int) + 1) = ((i + 1 : Nat) : Int) := by rw [IntKind.wrap_i64]; omega
          have hrl := rep_len i [46, 98]
          have hpl9 : ([97]).length ≤ 1 := (by simp)
          obtain ⟨a1, f1⟩ := HAD.out ([97] ++ rep i [46, 98] []) [46, 98] (by rw [List.length_append, hrl]; show _ + i * 2 + 2 ≤ 10000; omega)
          rw [show (strOfNums [46, 98]).size = 2 from by rw [strOfNums_size]; rfl] at a1
          rw [show strOfNums [46, 98] = ⟨#[46, 98]⟩ from rfl] at f1
          have HNX : Hid (strOfNums ([97] ++ rep i [46, 98] [] ++ [46, 98]) = strOfNums ([97] ++ rep (i + 1) [46, 98] [])) := by unfold Hid; rw [List.append_assoc, rep_snoc]
          generalize strOfNums ([97] ++ rep i [46, 98] []) = q0 at a1 f1 ⊢
          generalize strOfNums ([97] ++ rep i [46, 98] [] ++ [46, 98]) = q1 at f1 HNX
          clear hpl9 hrl
          go_wp2_with fail
          go_roundw
          case rel => exact ⟨i + 1, by omega, by go_num, by rw [HNX.out], by first | trivial | rfl⟩
          case measure => simp [intOf]; omega
        · have hlt2 : ¬ (i : Int) ≤ (k : Int) := by omega
          obtain rfl : i = k + 1 := by omega
          have HSR : Hid (strOfNums ([97] ++ rep (k + 1) [46, 98] []) = strOfNums (nsrc 3 k) ∧ (nsrc 3 k).length ≤ 1000) := by
            refine ⟨rfl, ?_⟩
            show (97 :: rep (k + 1) [46, 98] []).length ≤ 1000
            rw [List.length_cons, rep_len]
            show (k + 1) * 2 + 1 ≤ 1000
            omega
          go_upto_region 40 with fail

          have HNS : Hid (NS 3 k) := ns_is (by omega) (by omega) HSR.out.2
          have HCB : Hid _ := bl_string w1 (nsrc 3 k) HNS.out.byt
          have HUS : Hid (Up w1 _) := up_string w1 (strOfNums (nsrc 3 k))
          have hcv := Lib.run_convert_string_bytes (P := Tryz.prog) w1 9 26 5 (strOfNums (nsrc 3 k)) Tryz.underlying9 Tryz.underlying26 Tryz.underlying5
          rw [HSR.out.1]
          generalize (strOfNums (nsrc 3 k)).size = z1 at HCB hcv
          generalize grownCap w1 z1 0 5 = z2 at HCB hcv
          generalize Lib.bytesWorld w1 5 (strOfNums (nsrc 3 k)) = w2 at HCB HUS hcv
          generalize strOfNums (nsrc 3 k) = src at hcv ⊢
          have HCT : Hid _ := TK.rcut_ _ (nsrc 3 k) w2 HCB.out (fun c hc => ⟨(HNS.out.byt c hc).1, by have := (HNS.out.byt c hc).2; omega⟩)
          go_wp2_with fail
          refine Calls.mono HCT.out ?_
          rintro r9 w3 ⟨v, rfl, hown, u9⟩
          rw [HNS.out.cut] at hown
          have hln := ntk_len 0 (nsrc 3 k)
          have hokt := ntk_ok 0 (nsrc 3 k) HNS.out.byt
          have hgt : ∀ i, i < (TK.ntk 0 (nsrc 3 k)).length → TkO (tk (TK.ntk 0 (nsrc 3 k)) i) := fun i hi => hokt _ (by unfold tk; rw [List.getD_eq_getElem?_getD, List.getElem?_eq_getElem hi]; exact List.getElem_mem hi)
          have HU3 : Hid (Up w w3) := HU1.out.trans (HUS.out.trans u9)
          obtain ⟨bt, off, c1, rfl, htm⟩ := tm_row hown (by omega) (by rw [hln]; have := HSR.out.2; omega) (fun i hi => (hgt i hi).1) (fun i hi => (hgt i hi).2.1) (fun i hi => (hgt i hi).2.2) (HTB.out.up HU3.out)
          have HEX : Hid (Calls Tryz.prog 13 #[.slice (some ⟨bt, off, none⟩) (TK.ntk 0 (nsrc 3 k)).length c1] w3 (QT3 false (TK.ntk 0 (nsrc 3 k)) w3)) := (expr_any w3 bt off _ c1 _ htm (HU3.out.cell HRT.out)).mono fun e w' h9 => an_told (pk := false) HNS.out.may h9
          clear hown u9 HCT hcv HCB HUS htm hgt hokt hln
          generalize (TK.ntk 0 (nsrc 3 k)).length = zl at HEX ⊢
          generalize TK.cuE (nsrc 3 k) = ze
          generalize TK.cuA (nsrc 3 k) = za
          go_wp2_with fail
          refine Calls.mono HEX.out ?_
          rintro r w4 ⟨R, v, hR, rfl, u4⟩
          have hsd := HNS.out.said R hR
          have HU4 : Hid (Up w w4) := HU3.out.trans u4
          by_cases hk : k ≤ 64
          · rw [if_pos hk] at hsd
            rw [hsd]
            have hk2 : (k : Int) ≤ 64 := by omega
            clear hR u4 HEX hsd
            go_wp2_with fail
            rw [HPo.out]
            exact ⟨rfl, HU4.out⟩
          · rw [if_neg hk] at hsd
            rw [hsd]
            have hk2 : ¬ (k : Int) ≤ 64 := by omega
            clear hR u4 HEX hsd
            have hpl : npl 3 = 131 := rfl
            rw [hpl]
            go_wp2_with fail
            rw [HPo.out]
            exact ⟨rfl, HU4.out⟩
end TP
end Go.Proofs.YtkldllnnocdhbaaGreatDoor
