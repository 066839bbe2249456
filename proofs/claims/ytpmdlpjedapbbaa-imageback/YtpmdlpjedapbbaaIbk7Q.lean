/-
  ImageBack: the law's walk.
-/
import Derived.Test.YtpmdlpjedapbbaaEgToOpenS
namespace Go.Proofs.Ytpmdlpjedapbbaa
open Go.RowKit
attribute [local go_sem ↓] Go.wp_at_zero Go.wp_at_succ

namespace IM
open Go.Proofs.Ytpmdlpjedapbbaa.ST
theorem de_cases {B : List Int} (hB : Byt B) : (deE B = 0 ∧ ff (deS B) = none ∧ RS (deS B) ∧ img (deS B) = B) ∨ (deS B = noS ∧ ∃ p : Nat, deA B = (p : Int) ∧ (deE B = 10 ∨ (deE B = 12 ∧ p ≤ B.length))) := by
  cases hd : decR B with
  | error r =>
    right
    unfold deS deA deE
    rw [hd]
    exact ⟨rfl, _, rfl, .inr ⟨rfl, by omega⟩⟩
  | ok s =>
    obtain ⟨h1, h2⟩ := dec_back hB hd
    by_cases hf : ff s = none
    · left
      unfold deS deE
      rw [hd]
      simp only [hf, ↓reduceIte]
      exact ⟨trivial, trivial, h2, h1⟩
    · right
      obtain ⟨k, hk⟩ : ∃ k, ff s = some k := by
        cases h : ff s with
        | none => exact absurd h hf
        | some k => exact ⟨k, rfl⟩
      unfold deS deE deA
      rw [hd]
      simp only [hk]
      exact ⟨rfl, k, rfl, .inl rfl⟩
set_option maxRecDepth 100000 in
set_option maxHeartbeats 8000000 in
theorem iback (v : Value) (s : Stt) (vm : Value) (B : List Int) (w : World) (hv : StL w v s) (fs : Far s) (ts : R4 s.turn) (hm : BL w vm B) (hbm : Byt B) (hz : ∀ cap, vm ≠ .slice none 0 (cap + 1)) :
    Calls Try.prog 3 #[v, vm] w fun x w' => x = .returned (.bool true) ∧ Up w w' := by
  obtain ⟨Post, hPost⟩ : ∃ P : Ending → World → Prop, P = fun x w' => x = .returned (.bool true) ∧ Up w w' := ⟨_, rfl⟩
  rw [← hPost]
  have HPo : Hid (Post = fun x w' => x = .returned (.bool true) ∧ Up w w') := hPost
  clear hPost
  have HV : Hid (∀ W, Up w W → StL W v s) := fun W x => hv.up x
  obtain ⟨a1, k1, b1, l1, c1, m1, hvv⟩ := stl_val hv
  have HLB : Hid (∀ W, Up w W → SM.Lies W vm (bts B)) := fun W x => SM.Lies.up (hm.lies hbm hz) x
  have HBB : Hid (∀ W, Up w W → BL W vm B) := fun W x => hm.up x
  have HBY : Hid (Byt B) := hbm
  obtain ⟨ba, bc, hvm⟩ : ∃ a c, vm = .slice a B.length c := by
    obtain ⟨-, a, c, h2, -, -⟩ := hm
    exact ⟨_, _, h2⟩
  obtain ⟨M, hM⟩ : ∃ M, M = B.length := ⟨_, rfl⟩
  rw [← hM] at hvm
  have hls := szS_le fs
  have HSA : Hid (∀ W, Up w W → Calls Try.prog 7 #[v] W fun e w' => e = .returned (.int .i64 (szS s : Nat)) ∧ Up W w') := fun W x => sizeS_ _ s W (HV.out W x) fs
  have HSM : Hid (szS s ≤ 4194304 → Small s) := fun h => small_sz h
  have HMM : Hid (M = B.length) := hM
  obtain ⟨A, hA⟩ : ∃ A : Array Value, A = #[.slice a1 s.ps.length k1, .slice b1 s.cs.length l1, .slice c1 s.zs.length m1, .int .i32 s.turn, .int .i64 s.whose, .int .i8 s.fin, .int .i64 s.winner] := ⟨_, rfl⟩
  have hA1 : A.size = 7 := by rw [hA]; rfl
  rw [← hA] at hvv
  subst hvv hvm
  obtain ⟨W0, hW0⟩ : ∃ W0, w.alloc (.cells A 27) = W0 := ⟨_, rfl⟩
  have gA : W0.heap[w.heap.size]? = some (.cells A 27 (0, 0)) := by rw [← hW0]; exact heap_alloc_new _ _
  have u0 : Up w W0 := by rw [← hW0]; exact (Up.refl _).alloc _
  rw [hA] at hW0
  have HAA : Hid (Value.agg A = .agg #[.slice a1 s.ps.length k1, .slice b1 s.cs.length l1, .slice c1 s.zs.length m1, .int .i32 s.turn, .int .i64 s.whose, .int .i8 s.fin, .int .i64 s.winner]) := by unfold Hid; rw [hA]
  rw [HAA.out]
  clear hA hv hm fs hM hbm hz
  generalize szS s = x at *
  go_enter Try.func3, Try.ntmps3
  go_wp2_with fail
  first | (refine calls_world hW0 (Calls.mono (works_ W0) ?_)) | (refine Calls.mono (works_ W0) ?_)
  rintro r W1 ⟨rfl, u1⟩
  have gA := u1.heap gA
  have HU : Hid (Up w W1) := u0.trans u1
  clear hW0 u0 u1
  go_wp2_with (first | (refine wpList_load_rowG (by rfl) 27 (.tmp 2) (by rfl) w.heap.size (by rfl) 27 A (0, 0) _ gA Try.underlying27 (by rfl) (by rw [hA1]; exact infoSt) ?_))
  refine Calls.mono (HSA.out _ HU.out) ?_
  rintro r W2 ⟨rfl, u2⟩
  have gA := u2.heap gA
  have HU : Hid (Up w W2) := HU.out.trans u2
  clear u2 HSA
  by_cases hbig : 4194304 < x
  · have e2 : (4194304 : Int) < (x : Int) := by omega
    go_wp2_with fail
    rw [HPo.out]
    exact ⟨rfl, HU.out⟩
  · have e2 : ¬ (4194304 : Int) < (x : Int) := by omega
    by_cases hbm : 4194304 < M
    · have e3 : (4194304 : Int) < (M : Int) := by omega
      go_wp2_with fail
      rw [HPo.out]
      exact ⟨rfl, HU.out⟩
    · have e3 : ¬ (4194304 : Int) < (M : Int) := by omega
      have HML : Hid (M ≤ 4194304 ∧ M = B.length) := ⟨by omega, HMM.out⟩
      have ss := HSM.out (by omega)
      have HCK : Hid (∀ W, Up w W → Calls Try.prog 8 #[.agg A] W fun e w' => e = .returned (ckV (ff s)) ∧ Up W w') := fun W x => check_ _ s W (HV.out W x) ss
      have HEA : Hid (∀ W, Up w W → Calls Try.prog 9 #[.agg A] W fun x w' => ∃ vb, x = .returned (.tuple #[vb, .int .i64 (okI s)]) ∧ w'.ownsRow W.heap.size 5 1 vb (encB s).length (bvs (encB s)) ∧ Up W w') := fun W x => encode_ _ s W (HV.out W x) ss ts
      have HTA : Hid (∀ W, Up w W → Calls Try.prog 10 #[.agg A] W fun x w' => x = .returned (.tuple #[.int .u32 (sumN s : Nat), .int .i64 (okI s)]) ∧ Up W w') := fun W x => sum_ _ s W (HV.out W x) ss ts (by have := enc_le ts; omega)
      have HQ : Hid (∀ W u, Up w W → StL W u s → Calls Try.prog 12 #[u, .agg A] W fun e w' => e = .returned (.bool true) ∧ Up W w') := fun W u x h => eqState_ _ _ s s W h (HV.out W x) ss ((eqS_iff s s).2 rfl)
      have HDB : Hid (∀ W, Up w W → Calls Try.prog 11 #[.slice ba M bc] W (DeP W B)) := fun W x => decode_ _ B W (HBB.out W x) HBY.out (by have := HML.out; omega)
      clear hbig hbm ss HSM HMM HV hls HBB
      by_cases hs : ff s = none
      · obtain ⟨hen, hok⟩ := enc_img hs
        rw [hok] at HEA HTA
        rw [hen] at HEA
        rw [hs] at HCK
        unfold ckV at HCK
        have HSN : Hid (sumN s = SM.crc 0 (bts (img s))) := by unfold Hid sumN; rw [if_pos hs]
        have hle := img_le (rs_of hs ts)
        obtain ⟨hd1, hd2, hd3⟩ := de_img hs ts
        have HDI : Hid (deS (img s) = s ∧ deE (img s) = 0 ∧ deA (img s) = 0 ∧ (img s).length ≤ 200000000) := ⟨hd1, hd2, hd3, hle⟩
        rw [HSN.out] at HTA
        clear hen hok hd1 hd2 hd3 hle hs ts HSN
        go_wp2_with (first | (refine wpList_load_rowG (by rfl) 27 (.tmp 2) (by rfl) w.heap.size (by rfl) 27 A (0, 0) _ gA Try.underlying27 (by rfl) (by rw [hA1]; exact infoSt) ?_))
        refine Calls.mono (HCK.out _ HU.out) ?_
        rintro r W3 ⟨rfl, u3⟩
        have gA := u3.heap gA
        have HU : Hid (Up w W3) := HU.out.trans u3
        clear u3 HCK
        go_wp2_with (first | (refine wpList_load_rowG (by rfl) 27 (.tmp 2) (by rfl) w.heap.size (by rfl) 27 A (0, 0) _ gA Try.underlying27 (by rfl) (by rw [hA1]; exact infoSt) ?_))
        refine Calls.mono (HEA.out _ HU.out) ?_
        rintro r W4 ⟨vx, rfl, hx, u4⟩
        have gA := u4.heap gA
        have HU : Hid (Up w W4) := HU.out.trans u4
        have HLX : Hid (∀ W, Up W4 W → SM.Lies W vx (bts (img s))) := fun W x => SM.Lies.up (own_lies hx (byt_img s)) x
        have HBX : Hid (BL W4 vx (img s)) := own_bl hx
        obtain ⟨xa, xc, hvx⟩ := row_val hx
        generalize (img s).length = nx at hvx
        subst hvx
        clear u4 hx HEA
        go_wp2_with (first | (refine wpList_load_rowG (by rfl) 27 (.tmp 2) (by rfl) w.heap.size (by rfl) 27 A (0, 0) _ gA Try.underlying27 (by rfl) (by rw [hA1]; exact infoSt) ?_))
        refine Calls.mono (HTA.out _ HU.out) ?_
        rintro r W4' ⟨rfl, u4⟩
        have gA := u4.heap gA
        have HU : Hid (Up w W4') := HU.out.trans u4
        have HLX : Hid (∀ W, Up W4' W → SM.Lies W (.slice xa nx xc) (bts (img s))) := fun W x => HLX.out W (u4.trans x)
        have HDC : Hid (Calls Try.prog 11 #[.slice xa nx xc] W4' (DeP W4' (img s))) := decode_ _ _ W4' (BL.up HBX.out u4) (byt_img s) (by have := HDI.out; omega)
        clear u4 HTA HBX
        obtain ⟨cN, hcN⟩ : ∃ n : Nat, n = SM.crc 0 (bts (img s)) := ⟨_, rfl⟩
        have HCR : Hid (∀ W, Up W4' W → Calls Try.prog 13 #[.slice xa nx xc] W fun x w' => x = .returned (.int .u32 (cN : Nat)) ∧ Up W w') := fun W x => by
          rw [hcN]
          exact SM.crcs _ _ W (HLX.out W x) (by rw [bts_len]; have := HDI.out; omega) (bts_bys (byt_img s))
        rw [← hcN]
        clear hcN HLX
        go_wp2_with fail
        refine Calls.mono HDC.out ?_
        rintro r W5 ⟨vd, rfl, hS, u5⟩
        rw [HDI.out.1] at hS
        rw [HDI.out.2.1, HDI.out.2.2.1]
        have gA := u5.heap gA
        obtain ⟨p8, q8, r8, s8, t8, v8, hv⟩ := soa_val hS
        obtain ⟨D, hD⟩ : ∃ A : Array Value, A = #[.slice p8 s.ps.length q8, .slice r8 s.cs.length s8, .slice t8 s.zs.length v8, .int .i32 s.turn, .int .i64 s.whose, .int .i8 s.fin, .int .i64 s.winner] := ⟨_, rfl⟩
        have hD1 : D.size = 7 := by rw [hD]; rfl
        rw [← hD] at hv
        subst hv
        obtain ⟨W6, hW6⟩ : ∃ We, W5.alloc (.cells D 27) = We := ⟨_, rfl⟩
        have gD : W6.heap[W5.heap.size]? = some (.cells D 27 (0, 0)) := by rw [← hW6]; exact heap_alloc_new _ _
        have u6 : Up W5 W6 := by rw [← hW6]; exact (Up.refl _).alloc _
        have gA := u6.heap gA
        have HU : Hid (Up w W6) := (HU.out.trans u5).trans u6
        have HQD : Hid (Calls Try.prog 12 #[.agg D, .agg A] W6 fun e w' => e = .returned (.bool true) ∧ Up W6 w') := HQ.out W6 _ HU.out (soa_sl (hS.up u6))
        have HCR : Hid (∀ W, Up W6 W → Calls Try.prog 13 #[.slice xa nx xc] W fun x w' => x = .returned (.int .u32 (cN : Nat)) ∧ Up W w') := fun W x => HCR.out W ((u5.trans u6).trans x)
        have HDD : Hid (Value.agg D = .agg #[.slice p8 s.ps.length q8, .slice r8 s.cs.length s8, .slice t8 s.zs.length v8, .int .i32 s.turn, .int .i64 s.whose, .int .i8 s.fin, .int .i64 s.winner]) := by unfold Hid; rw [hD]
        rw [HDD.out]
        rw [hD] at hW6
        clear hD HDD hS u5 u6 HDC HQ HDI
        go_wp2_with (first | (refine wpList_world hW6 ?_; (first | (refine wpList_load_rowG (by rfl) 27 (.tmp 12) (by rfl) W5.heap.size (by rfl) 27 D (0, 0) _ gD Try.underlying27 (by rfl) (by rw [hD1]; exact infoSt) ?_) | (refine wpList_load_rowG (by rfl) 27 (.tmp 2) (by rfl) w.heap.size (by rfl) 27 A (0, 0) _ gA Try.underlying27 (by rfl) (by rw [hA1]; exact infoSt) ?_))) | (refine wpList_load_rowG (by rfl) 27 (.tmp 12) (by rfl) W5.heap.size (by rfl) 27 D (0, 0) _ gD Try.underlying27 (by rfl) (by rw [hD1]; exact infoSt) ?_) | (refine wpList_load_rowG (by rfl) 27 (.tmp 2) (by rfl) w.heap.size (by rfl) 27 A (0, 0) _ gA Try.underlying27 (by rfl) (by rw [hA1]; exact infoSt) ?_))
        refine Calls.mono HQD.out ?_
        rintro r W7 ⟨rfl, u7⟩
        have HU : Hid (Up w W7) := HU.out.trans u7
        have HCR : Hid (Calls Try.prog 13 #[.slice xa nx xc] W7 fun x w' => x = .returned (.int .u32 (cN : Nat)) ∧ Up W7 w') := HCR.out W7 u7
        clear u7 HQD gA gD hW6
        go_wp2_with fail
        refine Calls.mono HCR.out ?_
        rintro r W8 ⟨rfl, u8⟩
        have HU : Hid (Up w W8) := HU.out.trans u8
        clear u8 HCR
        go_wp2_with fail
        refine Calls.mono (HDB.out _ HU.out) ?_
        rintro r Wd ⟨vd, rfl, hS, ud⟩
        have HSE : Hid (SOA W8.heap.size Wd vd (deS B)) := hS
        obtain ⟨p9, q9, r9, s9, t9, v9, hv⟩ := soa_val hS
        obtain ⟨E, hE⟩ : ∃ A : Array Value, A = #[.slice p9 (deS B).ps.length q9, .slice r9 (deS B).cs.length s9, .slice t9 (deS B).zs.length v9, .int .i32 (deS B).turn, .int .i64 (deS B).whose, .int .i8 (deS B).fin, .int .i64 (deS B).winner] := ⟨_, rfl⟩
        have hE1 : E.size = 7 := by rw [hE]; rfl
        rw [← hE] at hv
        subst hv
        obtain ⟨We, hWe⟩ : ∃ We, Wd.alloc (.cells E 27) = We := ⟨_, rfl⟩
        have gE : We.heap[Wd.heap.size]? = some (.cells E 27 (0, 0)) := by rw [← hWe]; exact heap_alloc_new _ _
        have ue : Up Wd We := by rw [← hWe]; exact (Up.refl _).alloc _
        have HU : Hid (Up w We) := (HU.out.trans ud).trans ue
        have HEL : Hid (∀ W', Up We W' → StL W' (.agg E) (deS B)) := fun W' x => soa_sl ((HSE.out.up ue).up x)
        have HEE : Hid (Value.agg E = .agg #[.slice p9 (deS B).ps.length q9, .slice r9 (deS B).cs.length s9, .slice t9 (deS B).zs.length v9, .int .i32 (deS B).turn, .int .i64 (deS B).whose, .int .i8 (deS B).fin, .int .i64 (deS B).winner]) := by unfold Hid; rw [hE]
        rw [HEE.out]
        rw [hE] at hWe
        have hr9 := de_cases HBY.out
        generalize deA B = dA at *
        generalize deE B = dE at *
        rcases hr9 with ⟨hd0, hd1, hd2, hd3⟩ | ⟨hd1, p, hd2, hd3⟩
        · subst hd0
          have HCE : Hid (∀ W', Up We W' → Calls Try.prog 8 #[.agg E] W' fun e w' => e = .returned (ckV none) ∧ Up W' w') := fun W' x => by
            have := check_ _ (deS B) W' (HEL.out W' x) (small_rs hd2)
            rw [hd1] at this
            exact this
          have HEN : Hid (∀ W', Up We W' → Calls Try.prog 9 #[.agg E] W' fun x w' => ∃ vb, x = .returned (.tuple #[vb, .int .i64 0]) ∧ w'.ownsRow W'.heap.size 5 1 vb B.length (bvs B) ∧ Up W' w') := fun W' x => by
            have := encode_ _ (deS B) W' (HEL.out W' x) (small_rs hd2) hd2.turn
            rw [(enc_img hd1).1, (enc_img hd1).2, hd3] at this
            exact this
          clear hd1 hd2 hd3 HSE ue ud hS HEL HEE hE
          generalize deS B = sd at *
          unfold ckV at HCE
          obtain ⟨wo, hwo⟩ : ∃ wo : World, wo = We := ⟨_, rfl⟩
          go_wp2_with (first | (refine wpList_world hWe ?_; (refine wpList_load_rowG (by rfl) 27 (.tmp 15) (by rfl) Wd.heap.size (by rfl) 27 E (0, 0) _ gE Try.underlying27 (by rfl) (by rw [hE1]; exact infoSt) ?_)) | (refine wpList_load_rowG (by rfl) 27 (.tmp 15) (by rfl) Wd.heap.size (by rfl) 27 E (0, 0) _ gE Try.underlying27 (by rfl) (by rw [hE1]; exact infoSt) ?_))
          refine Calls.mono (HCE.out _ (Up.refl _)) ?_
          rintro r Wf ⟨rfl, uf⟩
          have gE := uf.heap gE
          have HU : Hid (Up w Wf) := HU.out.trans uf
          clear hWe hwo
          go_wp2_with (first | (refine wpList_load_rowG (by rfl) 27 (.tmp 15) (by rfl) Wd.heap.size (by rfl) 27 E (0, 0) _ gE Try.underlying27 (by rfl) (by rw [hE1]; exact infoSt) ?_))
          refine Calls.mono (HEN.out _ uf) ?_
          rintro r Wg ⟨vy, rfl, hy, ug⟩
          have HU : Hid (Up w Wg) := HU.out.trans ug
          have HLE : Hid (Calls Try.prog 14 #[vy, .slice ba M bc] Wg fun e w' => e = .returned (.bool true) ∧ Up Wg w') := by
            have := SM.eqB vy (.slice ba M bc) (bts B) (bts B) Wg (own_lies hy HBY.out) (HLB.out Wg HU.out) (by rw [bts_len]; have := HML.out; omega)
            rw [decide_eq_true rfl] at this
            exact this
          obtain ⟨ya, yc, hvy⟩ := row_val hy
          generalize B.length = ny at hvy
          subst hvy
          clear uf ug hy gE HEN HCE
          go_wp2_with fail
          refine Calls.mono HLE.out ?_
          rintro r Wh ⟨rfl, uh⟩
          have HU : Hid (Up w Wh) := HU.out.trans uh
          clear uh HLE
          go_wp2_with fail
          rw [HPo.out]
          exact ⟨rfl, HU.out⟩
        · have HQE : Hid (∀ W', Up We W' → Calls Try.prog 12 #[.agg E, .agg #[.slice none 0 0, .slice none 0 0, .slice none 0 0, .int .i32 0, .int .i64 0, .int .i8 0, .int .i64 0]] W' fun e w' => e = .returned (.bool true) ∧ Up W' w') := fun W' x => by
            have h9 := HEL.out W' x
            rw [hd1] at h9
            exact eqState_ _ _ noS noS W' h9 (soa_sl (soa_no W'.heap.size W')) (by refine ⟨by decide, by decide, by decide, fun r hr => by simp [noS] at hr⟩) (by decide)
          subst hd2
          have e5 : (0 : Int) ≤ (p : Int) := by omega
          clear hd1 HSE ue ud hS HEL HEE hE
          generalize deS B = sd at *
          rcases hd3 with rfl | ⟨rfl, hd4⟩
          · go_wp2_with (first | (refine wpList_world hWe ?_; (refine wpList_load_rowG (by rfl) 27 (.tmp 15) (by rfl) Wd.heap.size (by rfl) 27 E (0, 0) _ gE Try.underlying27 (by rfl) (by rw [hE1]; exact infoSt) ?_)) | (refine wpList_load_rowG (by rfl) 27 (.tmp 15) (by rfl) Wd.heap.size (by rfl) 27 E (0, 0) _ gE Try.underlying27 (by rfl) (by rw [hE1]; exact infoSt) ?_))
            refine Calls.mono (HQE.out _ (Up.refl _)) ?_
            rintro r Wf ⟨rfl, uf⟩
            have HU : Hid (Up w Wf) := HU.out.trans uf
            clear uf hWe gE HQE
            go_wp2_with fail
            rw [HPo.out]
            exact ⟨rfl, HU.out⟩
          · have e6 : (p : Int) ≤ (M : Int) := by have := HML.out; omega
            go_wp2_with (first | (refine wpList_world hWe ?_; (refine wpList_load_rowG (by rfl) 27 (.tmp 15) (by rfl) Wd.heap.size (by rfl) 27 E (0, 0) _ gE Try.underlying27 (by rfl) (by rw [hE1]; exact infoSt) ?_)) | (refine wpList_load_rowG (by rfl) 27 (.tmp 15) (by rfl) Wd.heap.size (by rfl) 27 E (0, 0) _ gE Try.underlying27 (by rfl) (by rw [hE1]; exact infoSt) ?_))
            refine Calls.mono (HQE.out _ (Up.refl _)) ?_
            rintro r Wf ⟨rfl, uf⟩
            have HU : Hid (Up w Wf) := HU.out.trans uf
            clear uf hWe gE HQE hd4
            go_wp2_with fail
            rw [HPo.out]
            exact ⟨rfl, HU.out⟩
      · have HSN : Hid (sumN s = 0 ∧ encB s = [] ∧ okI s = 10) := by unfold Hid sumN encB okI; rw [if_neg hs, if_neg hs, if_neg hs]; exact ⟨rfl, rfl, rfl⟩
        rw [HSN.out.2.2] at HEA HTA
        rw [HSN.out.2.1] at HEA
        rw [HSN.out.1] at HTA
        obtain ⟨kf, hkf⟩ : ∃ k, ff s = some k := by
          cases h : ff s with
          | none => exact absurd h hs
          | some k => exact ⟨k, rfl⟩
        rw [hkf] at HCK
        unfold ckV at HCK
        clear hs ts HSN hkf HQ
        go_wp2_with (first | (refine wpList_load_rowG (by rfl) 27 (.tmp 2) (by rfl) w.heap.size (by rfl) 27 A (0, 0) _ gA Try.underlying27 (by rfl) (by rw [hA1]; exact infoSt) ?_))
        refine Calls.mono (HCK.out _ HU.out) ?_
        rintro r W3 ⟨rfl, u3⟩
        have gA := u3.heap gA
        have HU : Hid (Up w W3) := HU.out.trans u3
        clear u3 HCK
        go_wp2_with (first | (refine wpList_load_rowG (by rfl) 27 (.tmp 2) (by rfl) w.heap.size (by rfl) 27 A (0, 0) _ gA Try.underlying27 (by rfl) (by rw [hA1]; exact infoSt) ?_))
        refine Calls.mono (HEA.out _ HU.out) ?_
        rintro r W4 ⟨vx, rfl, hx, u4⟩
        have gA := u4.heap gA
        have HU : Hid (Up w W4) := HU.out.trans u4
        obtain ⟨xa, xc, hvx⟩ : ∃ a c, vx = .slice a 0 c := row_val hx
        subst hvx
        clear u4 hx HEA
        go_wp2_with (first | (refine wpList_load_rowG (by rfl) 27 (.tmp 2) (by rfl) w.heap.size (by rfl) 27 A (0, 0) _ gA Try.underlying27 (by rfl) (by rw [hA1]; exact infoSt) ?_))
        refine Calls.mono (HTA.out _ HU.out) ?_
        rintro r W8 ⟨rfl, u4⟩
        have HU : Hid (Up w W8) := HU.out.trans u4
        clear u4 HTA gA
        go_wp2_with fail
        refine Calls.mono (HDB.out _ HU.out) ?_
        rintro r Wd ⟨vd, rfl, hS, ud⟩
        have HSE : Hid (SOA W8.heap.size Wd vd (deS B)) := hS
        obtain ⟨p9, q9, r9, s9, t9, v9, hv⟩ := soa_val hS
        obtain ⟨E, hE⟩ : ∃ A : Array Value, A = #[.slice p9 (deS B).ps.length q9, .slice r9 (deS B).cs.length s9, .slice t9 (deS B).zs.length v9, .int .i32 (deS B).turn, .int .i64 (deS B).whose, .int .i8 (deS B).fin, .int .i64 (deS B).winner] := ⟨_, rfl⟩
        have hE1 : E.size = 7 := by rw [hE]; rfl
        rw [← hE] at hv
        subst hv
        obtain ⟨We, hWe⟩ : ∃ We, Wd.alloc (.cells E 27) = We := ⟨_, rfl⟩
        have gE : We.heap[Wd.heap.size]? = some (.cells E 27 (0, 0)) := by rw [← hWe]; exact heap_alloc_new _ _
        have ue : Up Wd We := by rw [← hWe]; exact (Up.refl _).alloc _
        have HU : Hid (Up w We) := (HU.out.trans ud).trans ue
        have HEL : Hid (∀ W', Up We W' → StL W' (.agg E) (deS B)) := fun W' x => soa_sl ((HSE.out.up ue).up x)
        have HEE : Hid (Value.agg E = .agg #[.slice p9 (deS B).ps.length q9, .slice r9 (deS B).cs.length s9, .slice t9 (deS B).zs.length v9, .int .i32 (deS B).turn, .int .i64 (deS B).whose, .int .i8 (deS B).fin, .int .i64 (deS B).winner]) := by unfold Hid; rw [hE]
        rw [HEE.out]
        rw [hE] at hWe
        have hr9 := de_cases HBY.out
        generalize deA B = dA at *
        generalize deE B = dE at *
        rcases hr9 with ⟨hd0, hd1, hd2, hd3⟩ | ⟨hd1, p, hd2, hd3⟩
        · subst hd0
          have HCE : Hid (∀ W', Up We W' → Calls Try.prog 8 #[.agg E] W' fun e w' => e = .returned (ckV none) ∧ Up W' w') := fun W' x => by
            have := check_ _ (deS B) W' (HEL.out W' x) (small_rs hd2)
            rw [hd1] at this
            exact this
          have HEN : Hid (∀ W', Up We W' → Calls Try.prog 9 #[.agg E] W' fun x w' => ∃ vb, x = .returned (.tuple #[vb, .int .i64 0]) ∧ w'.ownsRow W'.heap.size 5 1 vb B.length (bvs B) ∧ Up W' w') := fun W' x => by
            have := encode_ _ (deS B) W' (HEL.out W' x) (small_rs hd2) hd2.turn
            rw [(enc_img hd1).1, (enc_img hd1).2, hd3] at this
            exact this
          clear hd1 hd2 hd3 HSE ue ud hS HEL HEE hE
          generalize deS B = sd at *
          unfold ckV at HCE
          obtain ⟨wo, hwo⟩ : ∃ wo : World, wo = We := ⟨_, rfl⟩
          go_wp2_with (first | (refine wpList_world hWe ?_; (refine wpList_load_rowG (by rfl) 27 (.tmp 15) (by rfl) Wd.heap.size (by rfl) 27 E (0, 0) _ gE Try.underlying27 (by rfl) (by rw [hE1]; exact infoSt) ?_)) | (refine wpList_load_rowG (by rfl) 27 (.tmp 15) (by rfl) Wd.heap.size (by rfl) 27 E (0, 0) _ gE Try.underlying27 (by rfl) (by rw [hE1]; exact infoSt) ?_))
          refine Calls.mono (HCE.out _ (Up.refl _)) ?_
          rintro r Wf ⟨rfl, uf⟩
          have gE := uf.heap gE
          have HU : Hid (Up w Wf) := HU.out.trans uf
          clear hWe hwo
          go_wp2_with (first | (refine wpList_load_rowG (by rfl) 27 (.tmp 15) (by rfl) Wd.heap.size (by rfl) 27 E (0, 0) _ gE Try.underlying27 (by rfl) (by rw [hE1]; exact infoSt) ?_))
          refine Calls.mono (HEN.out _ uf) ?_
          rintro r Wg ⟨vy, rfl, hy, ug⟩
          have HU : Hid (Up w Wg) := HU.out.trans ug
          have HLE : Hid (Calls Try.prog 14 #[vy, .slice ba M bc] Wg fun e w' => e = .returned (.bool true) ∧ Up Wg w') := by
            have := SM.eqB vy (.slice ba M bc) (bts B) (bts B) Wg (own_lies hy HBY.out) (HLB.out Wg HU.out) (by rw [bts_len]; have := HML.out; omega)
            rw [decide_eq_true rfl] at this
            exact this
          obtain ⟨ya, yc, hvy⟩ := row_val hy
          generalize B.length = ny at hvy
          subst hvy
          clear uf ug hy gE HEN HCE
          go_wp2_with fail
          refine Calls.mono HLE.out ?_
          rintro r Wh ⟨rfl, uh⟩
          have HU : Hid (Up w Wh) := HU.out.trans uh
          clear uh HLE
          go_wp2_with fail
          rw [HPo.out]
          exact ⟨rfl, HU.out⟩
        · have HQE : Hid (∀ W', Up We W' → Calls Try.prog 12 #[.agg E, .agg #[.slice none 0 0, .slice none 0 0, .slice none 0 0, .int .i32 0, .int .i64 0, .int .i8 0, .int .i64 0]] W' fun e w' => e = .returned (.bool true) ∧ Up W' w') := fun W' x => by
            have h9 := HEL.out W' x
            rw [hd1] at h9
            exact eqState_ _ _ noS noS W' h9 (soa_sl (soa_no W'.heap.size W')) (by refine ⟨by decide, by decide, by decide, fun r hr => by simp [noS] at hr⟩) (by decide)
          subst hd2
          have e5 : (0 : Int) ≤ (p : Int) := by omega
          clear hd1 HSE ue ud hS HEL HEE hE
          generalize deS B = sd at *
          rcases hd3 with rfl | ⟨rfl, hd4⟩
          · go_wp2_with (first | (refine wpList_world hWe ?_; (refine wpList_load_rowG (by rfl) 27 (.tmp 15) (by rfl) Wd.heap.size (by rfl) 27 E (0, 0) _ gE Try.underlying27 (by rfl) (by rw [hE1]; exact infoSt) ?_)) | (refine wpList_load_rowG (by rfl) 27 (.tmp 15) (by rfl) Wd.heap.size (by rfl) 27 E (0, 0) _ gE Try.underlying27 (by rfl) (by rw [hE1]; exact infoSt) ?_))
            refine Calls.mono (HQE.out _ (Up.refl _)) ?_
            rintro r Wf ⟨rfl, uf⟩
            have HU : Hid (Up w Wf) := HU.out.trans uf
            clear uf hWe gE HQE
            go_wp2_with fail
            rw [HPo.out]
            exact ⟨rfl, HU.out⟩
          · have e6 : (p : Int) ≤ (M : Int) := by have := HML.out; omega
            go_wp2_with (first | (refine wpList_world hWe ?_; (refine wpList_load_rowG (by rfl) 27 (.tmp 15) (by rfl) Wd.heap.size (by rfl) 27 E (0, 0) _ gE Try.underlying27 (by rfl) (by rw [hE1]; exact infoSt) ?_)) | (refine wpList_load_rowG (by rfl) 27 (.tmp 15) (by rfl) Wd.heap.size (by rfl) 27 E (0, 0) _ gE Try.underlying27 (by rfl) (by rw [hE1]; exact infoSt) ?_))
            refine Calls.mono (HQE.out _ (Up.refl _)) ?_
            rintro r Wf ⟨rfl, uf⟩
            have HU : Hid (Up w Wf) := HU.out.trans uf
            clear uf hWe gE HQE hd4
            go_wp2_with fail
            rw [HPo.out]
            exact ⟨rfl, HU.out⟩
end IM
end Go.Proofs.Ytpmdlpjedapbbaa
