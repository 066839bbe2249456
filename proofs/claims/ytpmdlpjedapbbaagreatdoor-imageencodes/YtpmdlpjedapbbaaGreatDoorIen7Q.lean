/-
  ImageEncodes: the law's walk.
-/
import Derived.Test.YtpmdlpjedapbbaaGreatDoorRwToWn
import Derived.Test.YtpmdlpjedapbbaaGreatDoorWq7ToBz
import Derived.Test.YtpmdlpjedapbbaaGreatDoorBbToBab
import Derived.Test.YtpmdlpjedapbbaaGreatDoorBxbQ
import Derived.Test.YtpmdlpjedapbbaaGreatDoorTailToWr7
namespace Go.Proofs.YtpmdlpjedapbbaaGreatDoor
open Go.RowKit
attribute [local go_sem ↓] Go.wp_at_zero Go.wp_at_succ

namespace IM
open Go.Proofs.YtpmdlpjedapbbaaGreatDoor.ST
theorem row_ty {W : World} {base e s n gz j t : Nat} {v u : Value} {xs : List Value} {c : Array Value} (h : W.ownsRow base e s v n xs) (hz : W.heap[gz]? = some (.cells c t (0, 0))) (ht : t ≠ e) : (W.setCell ⟨gz, j, none⟩ u).ownsRow base e s v n xs := own_rb h hz ht
theorem so_val {base : Nat} {W : World} {v : Value} {s : Stt} (h : SO base W v s) : ∃ a1 k1 a2 k2 a3 k3, v = .agg #[.slice a1 s.ps.length k1, .slice a2 s.cs.length k2, .slice a3 s.zs.length k3, .int .i32 s.turn, .int .i64 s.whose, .int .i8 s.fin, .int .i64 s.winner] := stl_val h.sl
theorem things_sz {s : Stt} (h : szS s ≤ 4194304) : ThingsOk s ∧ (flat s).length ≤ 4294967296 := by
  have hsz := szF_is s.zs s.zs.length
  have hf : (flat s).length ≤ 4194304 := by unfold szS at h; unfold flat; omega
  exact ⟨thingsOk s (small_sz h) (by omega), by omega⟩
set_option maxRecDepth 100000 in
set_option maxHeartbeats 16000000 in
theorem iencodes (v : Value) (s : Stt) (w : World) (hv : StL w v s) (fs : Far s) (ts : R4 s.turn) :
    Calls Tryz.prog 3 #[v] w fun x w' => x = .returned (.bool true) ∧ Up w w' := by
  obtain ⟨Post, hPost⟩ : ∃ P : Ending → World → Prop, P = fun x w' => x = .returned (.bool true) ∧ Up w w' := ⟨_, rfl⟩
  rw [← hPost]
  have HPo : Hid (Post = fun x w' => x = .returned (.bool true) ∧ Up w w') := hPost
  clear hPost
  have HV : Hid (∀ W, Up w W → StL W v s) := fun W x => hv.up x
  obtain ⟨a1, k1, b1, l1, c1, m1, hvv⟩ := stl_val hv
  have hls := szS_le fs
  have HSA : Hid (∀ W, Up w W → Calls Tryz.prog 6 #[v] W fun e w' => e = .returned (.int .i64 (szS s : Nat)) ∧ Up W w') := fun W x => sizeS_ _ s W (HV.out W x) fs
  have HSM : Hid (szS s ≤ 4194304 → Small s ∧ ThingsOk s ∧ (flat s).length ≤ 4294967296) := fun h => ⟨small_sz h, things_sz h⟩
  have HT : Hid (R4 s.turn) := ts
  obtain ⟨np, hnp⟩ : ∃ m, m = s.ps.length := ⟨_, rfl⟩
  obtain ⟨nc, hnc⟩ : ∃ m, m = s.cs.length := ⟨_, rfl⟩
  obtain ⟨nz, hnz⟩ : ∃ m, m = s.zs.length := ⟨_, rfl⟩
  have HN : Hid (np = s.ps.length ∧ nc = s.cs.length ∧ nz = s.zs.length) := ⟨hnp, hnc, hnz⟩
  rw [← hnp, ← hnc, ← hnz] at hvv
  have HSV : Hid (∀ x y z, sv x y z s = .agg #[x, y, z, .int .i32 s.turn, .int .i64 s.whose, .int .i8 s.fin, .int .i64 s.winner]) := fun _ _ _ => rfl
  generalize s.turn = tu at hvv HSV
  generalize s.whose = wo at hvv HSV
  generalize s.fin = fi at hvv HSV
  generalize s.winner = wi at hvv HSV
  obtain ⟨A, hA⟩ : ∃ A : Array Value, A = #[.slice a1 np k1, .slice b1 nc l1, .slice c1 nz m1, .int .i32 tu, .int .i64 wo, .int .i8 fi, .int .i64 wi] := ⟨_, rfl⟩
  have hA1 : A.size = 7 := by rw [hA]; rfl
  rw [← hA] at hvv
  subst hvv
  obtain ⟨W0, hW0⟩ : ∃ W0, w.alloc (.cells A 27) = W0 := ⟨_, rfl⟩
  have gA : W0.heap[w.heap.size]? = some (.cells A 27 (0, 0)) := by rw [← hW0]; exact heap_alloc_new _ _
  have u0 : Up w W0 := by rw [← hW0]; exact (Up.refl _).alloc _
  rw [hA] at hW0
  have HAA : Hid (Value.agg A = .agg #[.slice a1 np k1, .slice b1 nc l1, .slice c1 nz m1, .int .i32 tu, .int .i64 wo, .int .i8 fi, .int .i64 wi]) := by unfold Hid; rw [hA]
  rw [HAA.out]
  clear hA hv fs ts hnp hnc hnz
  generalize szS s = x at *
  go_enter Tryz.func3, Tryz.ntmps3
  go_wp2_with fail
  first | (refine calls_world hW0 (Calls.mono (works_ W0) ?_)) | (refine Calls.mono (works_ W0) ?_)
  rintro r W1 ⟨rfl, u1⟩
  have gA := u1.heap gA
  have HU : Hid (Up w W1) := u0.trans u1
  clear hW0 u0 u1
  go_wp2_with (first | (refine wpList_load_rowG (by rfl) 27 (.tmp 1) (by rfl) w.heap.size (by rfl) 27 A (0, 0) _ gA Tryz.underlying27 (by rfl) (by rw [hA1]; exact infoSt) ?_))
  refine Calls.mono (HSA.out _ HU.out) ?_
  rintro r W2 ⟨rfl, u⟩
  have gA := u.heap gA
  have HU : Hid (Up w W2) := HU.out.trans u
  clear u HSA
  by_cases hbig : 4194304 < x
  · have e2 : (4194304 : Int) < (x : Int) := by omega
    go_wp2_with fail
    rw [HPo.out]
    exact ⟨rfl, HU.out⟩
  · have e2 : ¬ (4194304 : Int) < (x : Int) := by omega
    obtain ⟨ss, sth, sfl⟩ := HSM.out (by omega)
    have HSS : Hid (Small s ∧ ThingsOk s ∧ (flat s).length ≤ 4294967296) := ⟨ss, sth, sfl⟩
    have hcn : nc ≤ 4294967296 := by rw [HN.out.2.1]; exact ss.2.1
    have hpn : np ≤ 4294967296 := by rw [HN.out.1]; exact ss.1
    have hw23 : w.heap.size ≤ W2.heap.size := HU.out.size
    clear hbig HSM hls sth sfl
    go_wp2_with (first | (refine wpList_load_rowG (by rfl) 27 (.tmp 1) (by rfl) w.heap.size (by rfl) 27 A (0, 0) _ gA Tryz.underlying27 (by rfl) (by rw [hA1]; exact infoSt) ?_))
    refine Calls.mono (wideState_ _ s W2 (HV.out W2 HU.out) ss) ?_
    rintro r W3 ⟨vI, rfl, hws, u⟩
    have gA := u.heap gA
    have HU : Hid (Up w W3) := HU.out.trans u
    have hw2 := u.size
    obtain ⟨gP, gC, gZ, vs, hxv, hks⟩ := kt_of hws gA HU.out hw23
    rw [HSV.out, ← HN.out.1, ← HN.out.2.1, ← HN.out.2.2] at hxv
    obtain ⟨I, hI⟩ : ∃ A : Array Value, A = #[.slice (some ⟨gP, 0, none⟩) np (np + 64), .slice (some ⟨gC, 0, none⟩) nc (nc + 64), .slice (some ⟨gZ, 0, none⟩) nz (nz + 64), .int .i32 tu, .int .i64 wo, .int .i8 fi, .int .i64 wi] := ⟨_, rfl⟩
    have hI1 : I.size = 7 := by rw [hI]; rfl
    rw [← hI] at hxv
    subst hxv
    obtain ⟨W4, hW4⟩ : ∃ W, W3.alloc (.cells I 27) = W := ⟨_, rfl⟩
    have gI : W4.heap[W3.heap.size]? = some (.cells I 27 (0, 0)) := by rw [← hW4]; exact heap_alloc_new _ _
    have u4 : Up W3 W4 := by rw [← hW4]; exact (Up.refl _).alloc _
    have gA := u4.heap gA
    have HU : Hid (Up w W4) := HU.out.trans u4
    have HS4 : Hid (w.heap.size ≤ W4.heap.size) := HU.out.size
    have HWS : Hid (∀ W, Up W4 W → WS W2.heap.size W (.agg I) s) := fun W x => hws.up (u4.trans x)
    have HKS : Hid (∀ W, Up W4 W → W.heap[W3.heap.size]? = some (.cells I 27 (0, 0)) → KT w W W3.heap.size I gP gC gZ vs s) := fun W x h => ⟨h, (KT.up hks (u4.trans x)).2⟩
    have HST : Hid (∀ W, KT w W W3.heap.size I gP gC gZ vs s → ∃ s3, s3.turn = s.turn ∧ StL W (.agg I) s3 ∧ Small s3 ∧ (flat s3).length = (flat s).length) := fun W h => by
      have h9 := h.state ss
      rw [HSV.out, ← HN.out.1, ← HN.out.2.1, ← HN.out.2.2, ← hI] at h9
      exact h9
    have HIX : Hid (I[0]? = some (.slice (some ⟨gP, 0, none⟩) np (np + 64)) ∧ I[1]? = some (.slice (some ⟨gC, 0, none⟩) nc (nc + 64))) := by rw [hI]; exact ⟨rfl, rfl⟩
    have HII : Hid (Value.agg I = .agg #[.slice (some ⟨gP, 0, none⟩) np (np + 64), .slice (some ⟨gC, 0, none⟩) nc (nc + 64), .slice (some ⟨gZ, 0, none⟩) nz (nz + 64), .int .i32 tu, .int .i64 wo, .int .i8 fi, .int .i64 wi]) := by unfold Hid; rw [hI]
    rw [HII.out]
    rw [hI] at hW4
    clear hI HII u u4 hws hks ss
    have HEI : Hid (∀ W, Up W4 W → Calls Tryz.prog 8 #[.agg I] W fun x w' => ∃ vb, x = .returned (.tuple #[vb, .int .i64 (okI s)]) ∧ w'.ownsRow W.heap.size 5 1 vb (encB s).length (bvs (encB s)) ∧ Up W w') := fun W x => encode_ _ s W (HWS.out W x).sl HSS.out.1 HT.out
    have HTI : Hid (∀ W, Up W4 W → Calls Tryz.prog 9 #[.agg I] W fun x w' => x = .returned (.tuple #[.int .u32 (sumN s : Nat), .int .i64 (okI s)]) ∧ Up W w') := fun W x => sum_ _ s W (HWS.out W x).sl HSS.out.1 HT.out (by have := enc_le HT.out; omega)
    have HEA : Hid (∀ W, Up w W → Calls Tryz.prog 10 #[.agg A] W fun x w' => ∃ vb, x = .returned (.tuple #[vb, .int .i64 (okI s)]) ∧ w'.ownsRow W.heap.size 5 1 vb (encB s).length (bvs (encB s)) ∧ Up W w') := fun W x => rencode_ _ s W (HV.out W x) HSS.out.2.1 HT.out
    have HTA : Hid (∀ W, Up w W → Calls Tryz.prog 11 #[.agg A] W fun x w' => x = .returned (.tuple #[.int .u32 (sumN s : Nat), .int .i64 (okI s)]) ∧ Up W w') := fun W x => rsum_ _ s W (HV.out W x) HSS.out.2.1 HT.out
    have HQI : Hid (∀ W, Up W4 W → Up w W → Calls Tryz.prog 12 #[.agg I, .agg A] W fun e w' => e = .returned (.bool true) ∧ Up W w') := fun W x y => eqState_ _ _ s s W (HWS.out W x).sl (HV.out W y) HSS.out.1 ((eqS_iff s s).2 rfl)
    have HPI : Hid (∀ W, Up W4 W → Calls Tryz.prog 13 #[.agg I] W fun e w' => e = .returned (.bool true) ∧ Up W w') := fun W x => spareState_ W2.heap.size _ s W (HWS.out W x) HSS.out.1
    have HLN : Hid ((encB s).length ≤ 200000000) := enc_le HT.out
    clear HWS hw2 hw23
    go_wp2_with (first | (refine wpList_world hW4 ?_; (first | (refine wpList_load_rowG (by rfl) 27 (.tmp 1) (by rfl) w.heap.size (by rfl) 27 A (0, 0) _ gA Tryz.underlying27 (by rfl) (by rw [hA1]; exact infoSt) ?_) | (refine wpList_load_rowG (by rfl) 27 (.tmp 4) (by rfl) W3.heap.size (by rfl) 27 I (0, 0) _ gI Tryz.underlying27 (by rfl) (by rw [hI1]; exact infoSt) ?_))) | (first | (refine wpList_load_rowG (by rfl) 27 (.tmp 1) (by rfl) w.heap.size (by rfl) 27 A (0, 0) _ gA Tryz.underlying27 (by rfl) (by rw [hA1]; exact infoSt) ?_) | (refine wpList_load_rowG (by rfl) 27 (.tmp 4) (by rfl) W3.heap.size (by rfl) 27 I (0, 0) _ gI Tryz.underlying27 (by rfl) (by rw [hI1]; exact infoSt) ?_)))
    refine Calls.mono (HEI.out _ (Up.refl _)) ?_
    rintro r W5 ⟨vx, rfl, hx, u⟩
    have gA := u.heap gA
    have gI := u.heap gI
    have HU : Hid (Up w W5) := HU.out.trans u
    have HX : Hid (Up W4 W5) := u
    obtain ⟨xl, hxl⟩ : ∃ l, l = bvs (encB s) := ⟨_, rfl⟩
    obtain ⟨xn, hxn⟩ : ∃ l, l = (encB s).length := ⟨_, rfl⟩
    have HXB : Hid (xn = (encB s).length ∧ xl = bvs (encB s)) := ⟨hxn, hxl⟩
    obtain ⟨xa, xc, hvx⟩ := row_val hx
    rw [← hxn] at hvx
    subst hvx
    have HRX : Hid (∀ W, Up W5 W → W.ownsRow W4.heap.size 5 1 (.slice xa xn xc) xn xl) := fun W x => by
      have h9 := row_up hx x
      rw [← hxn, ← hxl] at h9
      exact h9
    have HBX : Hid (∀ g, (Value.slice xa xn xc).ownBlock = some g → w.heap.size ≤ g ∧ g < W5.heap.size) := fun g hg => by
      have h8 := (HRX.out W5 (Up.refl _)).lt g hg
      have := HS4.out
      omega
    clear hx hxl hxn u hW4
    go_wp2_with (first | (refine wpList_load_rowG (by rfl) 27 (.tmp 1) (by rfl) w.heap.size (by rfl) 27 A (0, 0) _ gA Tryz.underlying27 (by rfl) (by rw [hA1]; exact infoSt) ?_) | (refine wpList_load_rowG (by rfl) 27 (.tmp 4) (by rfl) W3.heap.size (by rfl) 27 I (0, 0) _ gI Tryz.underlying27 (by rfl) (by rw [hI1]; exact infoSt) ?_))
    refine Calls.mono (HEI.out _ HX.out) ?_
    rintro r W6 ⟨vy, rfl, hy, u⟩
    have gA := u.heap gA
    have gI := u.heap gI
    have HU : Hid (Up w W6) := HU.out.trans u
    have HX6 : Hid (Up W4 W6) := HX.out.trans u
    obtain ⟨yn, hyn⟩ : ∃ l, l = (encB s).length := ⟨_, rfl⟩
    obtain ⟨yl, hyl⟩ : ∃ l, l = bvs (encB s) := ⟨_, rfl⟩
    have HYB : Hid (yn = (encB s).length ∧ yl = bvs (encB s)) := ⟨hyn, hyl⟩
    obtain ⟨ya, yc, hvy⟩ := row_val hy
    rw [← hyn] at hvy
    subst hvy
    have HRX : Hid (∀ W, Up W6 W → W.ownsRow W4.heap.size 5 1 (.slice xa xn xc) xn xl) := fun W x => HRX.out W (u.trans x)
    have HRY : Hid (∀ W, Up W6 W → W.ownsRow W5.heap.size 5 1 (.slice ya yn yc) yn yl) := fun W x => by
      have h9 := row_up hy x
      rw [← hyn, ← hyl] at h9
      exact h9
    have HS5 : Hid (W4.heap.size ≤ W5.heap.size) := HX.out.size
    have HS56 : Hid (W5.heap.size ≤ W6.heap.size) := u.size
    have HBY : Hid (∀ g, (Value.slice ya yn yc).ownBlock = some g → W5.heap.size ≤ g ∧ g < W6.heap.size) := fun g hg => (HRY.out W6 (Up.refl _)).lt g hg
    clear hy hyn hyl u HX HEI
    go_wp2_with (first | (refine wpList_load_rowG (by rfl) 27 (.tmp 1) (by rfl) w.heap.size (by rfl) 27 A (0, 0) _ gA Tryz.underlying27 (by rfl) (by rw [hA1]; exact infoSt) ?_) | (refine wpList_load_rowG (by rfl) 27 (.tmp 4) (by rfl) W3.heap.size (by rfl) 27 I (0, 0) _ gI Tryz.underlying27 (by rfl) (by rw [hI1]; exact infoSt) ?_))
    refine Calls.mono (HTI.out _ HX6.out) ?_
    rintro r W7 ⟨rfl, u⟩
    have gA := u.heap gA
    have gI := u.heap gI
    have HU : Hid (Up w W7) := HU.out.trans u
    have HY7 : Hid (Up W6 W7) := u
    have HX7 : Hid (Up W4 W7) := HX6.out.trans u
    clear u HTI
    go_wp2_with (first | (refine wpList_load_rowG (by rfl) 27 (.tmp 1) (by rfl) w.heap.size (by rfl) 27 A (0, 0) _ gA Tryz.underlying27 (by rfl) (by rw [hA1]; exact infoSt) ?_) | (refine wpList_load_rowG (by rfl) 27 (.tmp 4) (by rfl) W3.heap.size (by rfl) 27 I (0, 0) _ gI Tryz.underlying27 (by rfl) (by rw [hI1]; exact infoSt) ?_))
    refine Calls.mono (HEA.out _ HU.out) ?_
    rintro r W8 ⟨vw, rfl, hw, u⟩
    have gA := u.heap gA
    have gI := u.heap gI
    have HU : Hid (Up w W8) := HU.out.trans u
    have HY8 : Hid (Up W6 W8) := HY7.out.trans u
    have HX8 : Hid (Up W4 W8) := HX7.out.trans u
    have HLW : Hid (∀ W, Up W8 W → SM.Lies W vw (bts (encB s))) := fun W x => SM.Lies.up (own_lies hw (byt_encB s)) x
    obtain ⟨qa, qc, hvw⟩ := row_val hw
    generalize (encB s).length = qn at hvw
    subst hvw
    clear hw u HY7 HX7 HEA
    go_wp2_with (first | (refine wpList_load_rowG (by rfl) 27 (.tmp 1) (by rfl) w.heap.size (by rfl) 27 A (0, 0) _ gA Tryz.underlying27 (by rfl) (by rw [hA1]; exact infoSt) ?_) | (refine wpList_load_rowG (by rfl) 27 (.tmp 4) (by rfl) W3.heap.size (by rfl) 27 I (0, 0) _ gI Tryz.underlying27 (by rfl) (by rw [hI1]; exact infoSt) ?_))
    refine Calls.mono (HTA.out _ HU.out) ?_
    rintro r W9 ⟨rfl, u⟩
    have gA := u.heap gA
    have gI := u.heap gI
    have HU : Hid (Up w W9) := HU.out.trans u
    have HZ9 : Hid (Up W8 W9) := u
    have HY9 : Hid (Up W6 W9) := HY8.out.trans u
    have HX9 : Hid (Up W4 W9) := HX8.out.trans u
    clear u HTA
    go_wp2_with (first | (refine wpList_load_rowG (by rfl) 27 (.tmp 1) (by rfl) w.heap.size (by rfl) 27 A (0, 0) _ gA Tryz.underlying27 (by rfl) (by rw [hA1]; exact infoSt) ?_) | (refine wpList_load_rowG (by rfl) 27 (.tmp 4) (by rfl) W3.heap.size (by rfl) 27 I (0, 0) _ gI Tryz.underlying27 (by rfl) (by rw [hI1]; exact infoSt) ?_))
    refine Calls.mono (HQI.out _ HX9.out HU.out) ?_
    rintro r W10 ⟨rfl, u⟩
    have gA := u.heap gA
    have gI := u.heap gI
    have HU : Hid (Up w W10) := HU.out.trans u
    have HZ10 : Hid (Up W8 W10) := HZ9.out.trans u
    have HY10 : Hid (Up W6 W10) := HY9.out.trans u
    have HX10 : Hid (Up W4 W10) := HX9.out.trans u
    clear u HQI
    go_wp2_with (first | (refine wpList_load_rowG (by rfl) 27 (.tmp 1) (by rfl) w.heap.size (by rfl) 27 A (0, 0) _ gA Tryz.underlying27 (by rfl) (by rw [hA1]; exact infoSt) ?_) | (refine wpList_load_rowG (by rfl) 27 (.tmp 4) (by rfl) W3.heap.size (by rfl) 27 I (0, 0) _ gI Tryz.underlying27 (by rfl) (by rw [hI1]; exact infoSt) ?_))
    refine Calls.mono (HPI.out _ HX10.out) ?_
    rintro r W11 ⟨rfl, u⟩
    have gA := u.heap gA
    have gI := u.heap gI
    have HU : Hid (Up w W11) := HU.out.trans u
    have HZ11 : Hid (Up W8 W11) := HZ10.out.trans u
    have HY11 : Hid (Up W6 W11) := HY10.out.trans u
    have HX11 : Hid (Up W4 W11) := HX10.out.trans u
    clear u HPI HX8 HX9 HX10 HY8 HY9 HY10 HZ9 HZ10
    have HE1 : Hid (∀ W, Up W8 W → Up W6 W → Calls Tryz.prog 14 #[.slice xa xn xc, .slice qa qn qc] W fun e w' => e = .returned (.bool true) ∧ Up W w') := fun W x y => by
      have h9 := HRX.out W y
      rw [HXB.out.1, HXB.out.2] at h9
      have h8 := SM.eqB _ _ (bts (encB s)) (bts (encB s)) W (own_lies h9 (byt_encB s)) (HLW.out W x) (by rw [bts_len]; have := HLN.out; omega)
      rw [decide_eq_true rfl, ← HXB.out.1] at h8
      exact h8
    have HE2 : Hid (∀ W, Up W8 W → Up W6 W → Calls Tryz.prog 14 #[.slice ya yn yc, .slice qa qn qc] W fun e w' => e = .returned (.bool true) ∧ Up W w') := fun W x y => by
      have h9 := HRY.out W y
      rw [HYB.out.1, HYB.out.2] at h9
      have h8 := SM.eqB _ _ (bts (encB s)) (bts (encB s)) W (own_lies h9 (byt_encB s)) (HLW.out W x) (by rw [bts_len]; have := HLN.out; omega)
      rw [decide_eq_true rfl, ← HYB.out.1] at h8
      exact h8
    generalize okI s = oo at *
    generalize sumN s = sn at *
    have f1 : (oo != oo) = false := by simp
    have f2 : ((sn : Int) != (sn : Int)) = false := by simp
    go_wp2_with fail
    refine Calls.mono (HE1.out _ HZ11.out HY11.out) ?_
    rintro r W12 ⟨rfl, u⟩
    have gI := u.heap gI
    have HU : Hid (Up w W12) := HU.out.trans u
    have HZ12 : Hid (Up W8 W12) := HZ11.out.trans u
    have HY12 : Hid (Up W6 W12) := HY11.out.trans u
    have HX12 : Hid (Up W4 W12) := HX11.out.trans u
    clear u HE1 HZ11 HY11 HX11
    go_wp2_with fail
    refine Calls.mono (HE2.out _ HZ12.out HY12.out) ?_
    rintro r W13 ⟨rfl, u⟩
    have gI := u.heap gI
    have HK0 : Hid (KT w W13 W3.heap.size I gP gC gZ vs s ∧ W13.ownsRow w.heap.size 5 1 (.slice xa xn xc) xn xl ∧ W13.ownsRow w.heap.size 5 1 (.slice ya yn yc) yn yl) := ⟨HKS.out W13 (HX12.out.trans u) gI, own_less (HRX.out W13 (HY12.out.trans u)) HS4.out, own_less (HRY.out W13 (HY12.out.trans u)) (Nat.le_trans HS4.out HS5.out)⟩
    have HS6 : Hid (W5.heap.size ≤ W6.heap.size ∧ W6.heap.size ≤ W13.heap.size) := ⟨HS56.out, (HY12.out.trans u).size⟩
    clear u HE2 HZ12 HY12 HX12 HRX HRY HLW f1 f2 gA gI HKS HS56
    obtain ⟨h5, hh5⟩ : ∃ n, n = W5.heap.size := ⟨_, rfl⟩
    obtain ⟨h6, hh6⟩ : ∃ n, n = W6.heap.size := ⟨_, rfl⟩
    obtain ⟨b0, hb0⟩ : ∃ n, n = W3.heap.size := ⟨_, rfl⟩
    rw [← hh5] at HBX HBY HS6
    rw [← hh6] at HBY HS6
    rw [← hb0] at HK0 HST ⊢
    clear hh5 hh6 hb0 HS5
    have HH6 : Hid (∀ W, Up w W → KT w W b0 I gP gC gZ vs s → True) := fun _ _ _ => trivial
    clear HH6
    go_wp2_with fail
    go_loopw [16] (fun s16 W => ∃ i : Nat, i ≤ nc ∧ s16 = .int .i64 i ∧ (KT w W b0 I gP gC gZ vs s ∧ W.ownsRow w.heap.size 5 1 (.slice xa xn xc) xn xl ∧ W.ownsRow w.heap.size 5 1 (.slice ya yn yc) yn yl) ∧ h6 ≤ W.heap.size) (fun s16 _ => nc - (intOf s16).toNat)
    case atStart => exact ⟨0, Nat.zero_le _, rfl, HK0.out, HS6.out.2⟩
    case round =>
      obtain ⟨i, hi, rfl, hk, h6w⟩ := hrel
      clear HK0
      have HK : Hid (KT w wr b0 I gP gC gZ vs s ∧ wr.ownsRow w.heap.size 5 1 (.slice xa xn xc) xn xl ∧ wr.ownsRow w.heap.size 5 1 (.slice ya yn yc) yn yl) := hk
      have x1 : wr.cell? ⟨b0, 1, none⟩ = some (.slice (some ⟨gC, 0, none⟩) nc (nc + 64)) := by simp only [World.cell?, hk.1.1]; exact HIX.out.2
      clear hk
      by_cases hlt : i < nc
      · have hlt2 : (i : Int) < (nc : Int) := by omega
        have ei : IntKind.i64.wrap ((i : Int) + 1) = ((i + 1 : Nat) : Int) := by rw [IntKind.wrap_i64]; omega
        obtain ⟨cs, hcs⟩ := HK.out.1.2.2.1
        obtain ⟨q1, q2⟩ := ck_at hcs i (by rw [← HN.out.2.1]; exact hlt)
        generalize (cs.getD i dc).power = ow at q1
        have HPut : Hid (∀ nq y, (KT w ((wr.drewN nq).setCell ⟨gC, i * 6 + 2, none⟩ (.int .i32 y)) b0 I gP gC gZ vs s ∧ ((wr.drewN nq).setCell ⟨gC, i * 6 + 2, none⟩ (.int .i32 y)).ownsRow w.heap.size 5 1 (.slice xa xn xc) xn xl ∧ ((wr.drewN nq).setCell ⟨gC, i * 6 + 2, none⟩ (.int .i32 y)).ownsRow w.heap.size 5 1 (.slice ya yn yc) yn yl) ∧ h6 ≤ ((wr.drewN nq).setCell ⟨gC, i * 6 + 2, none⟩ (.int .i32 y)).heap.size) := fun nq y => by
          obtain ⟨-, cc, hcc, -⟩ := hcs
          have hd : Up wr (wr.drewN nq) := (Up.refl _).drewN nq
          exact ⟨⟨(HK.out.1.up hd).card i (by rw [← HN.out.2.1]; exact hlt) y, row_ty (row_up HK.out.2.1 hd) (hd.heap hcc) (by decide), row_ty (row_up HK.out.2.2 hd) (hd.heap hcc) (by decide)⟩, by simpa [World.setCell] using h6w⟩
        clear hcs HK
        go_wp2_with fail
        refine TailR.wp_region_seq 12 (by kernel_rfl) (by kernel_rfl) ?_
        simp only [List.take_succ_cons, List.take_zero, List.drop_succ_cons, List.drop_zero]
        repeat (go_big_quiet_step (fail))
        refine wpQuiet_nil ?_
        intro _ hw'
        obtain ⟨nq, hw''⟩ := hw'
        subst hw''
        go_wp2_with fail
        go_roundw
        case rel => exact ⟨i + 1, by omega, by go_num, HPut.out _ _⟩
        case measure => simp [intOf]; omega
      · have hlt2 : ¬ (i : Int) < (nc : Int) := by omega
        have HK0 : Hid ((KT w wr b0 I gP gC gZ vs s ∧ wr.ownsRow w.heap.size 5 1 (.slice xa xn xc) xn xl ∧ wr.ownsRow w.heap.size 5 1 (.slice ya yn yc) yn yl) ∧ h6 ≤ wr.heap.size) := ⟨HK.out, h6w⟩
        clear HK
        go_wp2_with fail
        clear x1 hlt2 hlt hi h6w
        go_loopw [17] (fun s17 W => ∃ i : Nat, i ≤ np ∧ s17 = .int .i64 i ∧ (KT w W b0 I gP gC gZ vs s ∧ W.ownsRow w.heap.size 5 1 (.slice xa xn xc) xn xl ∧ W.ownsRow w.heap.size 5 1 (.slice ya yn yc) yn yl) ∧ h6 ≤ W.heap.size) (fun s17 _ => np - (intOf s17).toNat)
        case atStart => exact ⟨0, Nat.zero_le _, rfl, HK0.out⟩
        case round =>
          obtain ⟨i, hi, rfl, hk, h6w⟩ := hrel
          clear HK0
          have HK : Hid (KT w wr b0 I gP gC gZ vs s ∧ wr.ownsRow w.heap.size 5 1 (.slice xa xn xc) xn xl ∧ wr.ownsRow w.heap.size 5 1 (.slice ya yn yc) yn yl) := hk
          have x0 : wr.cell? ⟨b0, 0, none⟩ = some (.slice (some ⟨gP, 0, none⟩) np (np + 64)) := by simp only [World.cell?, hk.1.1]; exact HIX.out.1
          clear hk
          by_cases hlt : i < np
          · have hlt2 : (i : Int) < (np : Int) := by omega
            have ei : IntKind.i64.wrap ((i : Int) + 1) = ((i + 1 : Nat) : Int) := by rw [IntKind.wrap_i64]; omega
            obtain ⟨h20, ps, hps⟩ := HK.out.1.2.1
            obtain ⟨q1, q2⟩ := hps.own i (by rw [← HN.out.1]; exact hlt)
            generalize (ps.getD i dp).out = ow at q1
            have HPut : Hid (∀ nq y, (KT w ((wr.drewN nq).setCell ⟨gP, i * 3 + 2, none⟩ (.bool y)) b0 I gP gC gZ vs s ∧ ((wr.drewN nq).setCell ⟨gP, i * 3 + 2, none⟩ (.bool y)).ownsRow w.heap.size 5 1 (.slice xa xn xc) xn xl ∧ ((wr.drewN nq).setCell ⟨gP, i * 3 + 2, none⟩ (.bool y)).ownsRow w.heap.size 5 1 (.slice ya yn yc) yn yl) ∧ h6 ≤ ((wr.drewN nq).setCell ⟨gP, i * 3 + 2, none⟩ (.bool y)).heap.size) := fun nq y => by
              obtain ⟨-, cc, hcc, -⟩ := hps
              have hd : Up wr (wr.drewN nq) := (Up.refl _).drewN nq
              exact ⟨⟨(HK.out.1.up hd).ply i (by rw [← HN.out.1]; exact hlt) y, row_ty (row_up HK.out.2.1 hd) (hd.heap hcc) (by decide), row_ty (row_up HK.out.2.2 hd) (hd.heap hcc) (by decide)⟩, by simpa [World.setCell] using h6w⟩
            clear hps HK h20
            go_wp2_with fail
            refine TailR.wp_region_seq 12 (by kernel_rfl) (by kernel_rfl) ?_
            simp only [List.take_succ_cons, List.take_zero, List.drop_succ_cons, List.drop_zero]
            repeat (go_big_quiet_step (fail))
            refine wpQuiet_nil ?_
            intro _ hw'
            obtain ⟨nq, hw''⟩ := hw'
            subst hw''
            go_wp2_with fail
            go_roundw
            case rel => exact ⟨i + 1, by omega, by go_num, HPut.out _ _⟩
            case measure => simp [intOf]; omega
          · have hlt2 : ¬ (i : Int) < (np : Int) := by omega
            obtain ⟨s3, ht3, hs3, hsm3, hfl3⟩ := HST.out wr HK.out.1
            have HM3 : Hid (Small s3 ∧ ThingsOk s3 ∧ R4 s3.turn) := ⟨hsm3, thingsOk s3 hsm3 (by rw [hfl3]; exact HSS.out.2.2), by rw [ht3]; exact HT.out⟩
            have HS3 : Hid (∀ W, Up wr W → StL W (.agg I) s3) := fun W x => hs3.up x
            have gI := HK.out.1.1
            have HU : Hid (Up w wr) := HK.out.1.2.2.2.2.2.1
            have HR : Hid (∀ W, Up wr W → W.ownsRow w.heap.size 5 1 (.slice xa xn xc) xn xl ∧ W.ownsRow w.heap.size 5 1 (.slice ya yn yc) yn yl) := fun W x => ⟨row_up HK.out.2.1 x, row_up HK.out.2.2 x⟩
            clear ht3 hs3 hsm3 hfl3 HK HST
            go_wp2_with (first | (refine wpList_load_rowG (by rfl) 27 (.tmp 4) (by rfl) b0 (by rfl) 27 I (0, 0) _ gI Tryz.underlying27 (by rfl) (by rw [hI1]; exact infoSt) ?_))
            refine Calls.mono (copyState_ _ s3 wr (HS3.out wr (Up.refl _)) HM3.out.1) ?_
            rintro r V1 ⟨vO, rfl, hso, u⟩
            have gI := u.heap gI
            obtain ⟨a7, k7, b7, l7, c7, m7, hvO⟩ := so_val hso
            obtain ⟨O, hO⟩ : ∃ A : Array Value, A = #[.slice a7 s3.ps.length k7, .slice b7 s3.cs.length l7, .slice c7 s3.zs.length m7, .int .i32 s3.turn, .int .i64 s3.whose, .int .i8 s3.fin, .int .i64 s3.winner] := ⟨_, rfl⟩
            have hO1 : O.size = 7 := by rw [hO]; rfl
            rw [← hO] at hvO
            subst hvO
            obtain ⟨V2, hV2⟩ : ∃ W, V1.alloc (.cells O 27) = W := ⟨_, rfl⟩
            have gO : V2.heap[V1.heap.size]? = some (.cells O 27 (0, 0)) := by rw [← hV2]; exact heap_alloc_new _ _
            have u2 : Up V1 V2 := by rw [← hV2]; exact (Up.refl _).alloc _
            have gI := u2.heap gI
            have HX2 : Hid (Up wr V2) := u.trans u2
            have HSO : Hid (∀ W, Up V2 W → StL W (.agg O) s3) := fun W x => (hso.sl.up u2).up x
            have HOO : Hid (Value.agg O = .agg #[.slice a7 s3.ps.length k7, .slice b7 s3.cs.length l7, .slice c7 s3.zs.length m7, .int .i32 s3.turn, .int .i64 s3.whose, .int .i8 s3.fin, .int .i64 s3.winner]) := by unfold Hid; rw [hO]
            rw [HOO.out]
            rw [hO] at hV2
            clear hO HOO u u2 hso
            obtain ⟨bO, hbO⟩ : ∃ n, n = V1.heap.size := ⟨_, rfl⟩
            have HE3 : Hid (Calls Tryz.prog 8 #[.agg I] V2 fun x w' => ∃ vb, x = .returned (.tuple #[vb, .int .i64 (okI s3)]) ∧ w'.ownsRow V2.heap.size 5 1 vb (encB s3).length (bvs (encB s3)) ∧ Up V2 w') := encode_ _ s3 V2 (HS3.out V2 HX2.out) HM3.out.1 HM3.out.2.2
            have HEO : Hid (∀ W, Up V2 W → Calls Tryz.prog 10 #[.agg O] W fun x w' => ∃ vb, x = .returned (.tuple #[vb, .int .i64 (okI s3)]) ∧ w'.ownsRow W.heap.size 5 1 vb (encB s3).length (bvs (encB s3)) ∧ Up W w') := fun W x => rencode_ _ s3 W (HSO.out W x) HM3.out.2.1 HM3.out.2.2
            have HLN3 : Hid ((encB s3).length ≤ 200000000) := enc_le HM3.out.2.2
            have h6v : h6 ≤ V2.heap.size := by have := HX2.out.size; omega
            go_wp2_with (first | (refine wpList_world hV2 ?_; (first | (refine wpList_load_rowG (by rfl) 27 (.tmp 4) (by rfl) b0 (by rfl) 27 I (0, 0) _ gI Tryz.underlying27 (by rfl) (by rw [hI1]; exact infoSt) ?_))) | (first | (refine wpList_load_rowG (by rfl) 27 (.tmp 4) (by rfl) b0 (by rfl) 27 I (0, 0) _ gI Tryz.underlying27 (by rfl) (by rw [hI1]; exact infoSt) ?_)))
            refine Calls.mono HE3.out ?_
            rintro r V3 ⟨vz, rfl, hz, u⟩
            have gO := u.heap gO
            have HX3 : Hid (Up wr V3) := HX2.out.trans u
            obtain ⟨zn, hzn⟩ : ∃ l, l = (encB s3).length := ⟨_, rfl⟩
            obtain ⟨za, zc, hvz⟩ := row_val hz
            rw [← hzn] at hvz
            subst hvz
            have HRZ : Hid (∀ W, Up V3 W → W.ownsRow V2.heap.size 5 1 (.slice za zn zc) (encB s3).length (bvs (encB s3))) := fun W x => row_up hz x
            have HZN : Hid (zn = (encB s3).length) := hzn
            have HBZ : Hid (∀ g, (Value.slice za zn zc).ownBlock = some g → h6 ≤ g ∧ g < V3.heap.size) := fun g hg => by
              have h8 := (HRZ.out V3 (Up.refl _)).lt g hg
              omega
            have HV23 : Hid (Up V2 V3) := u
            clear hz hzn u hV2 HE3 gI
            go_wp2_with (first | (refine wpList_load_rowG (by rfl) 27 (.tmp 18) (by rfl) V1.heap.size (by rfl) 27 O (0, 0) _ gO Tryz.underlying27 (by rfl) (by rw [hO1]; exact infoSt) ?_))
            refine Calls.mono (HEO.out _ HV23.out) ?_
            rintro r V4 ⟨vq, rfl, hq, u⟩
            have HX4 : Hid (Up wr V4) := HX3.out.trans u
            have HQ4 : Hid (Up V3 V4) := u
            have HE4 : Hid (Calls Tryz.prog 14 #[.slice za zn zc, vq] V4 fun e w' => e = .returned (.bool true) ∧ Up V4 w') := by
              have h9 := HRZ.out V4 u
              have h8 := SM.eqB _ _ (bts (encB s3)) (bts (encB s3)) V4 (own_lies h9 (byt_encB s3)) (own_lies hq (byt_encB s3)) (by rw [bts_len]; have := HLN3.out; omega)
              rw [decide_eq_true rfl] at h8
              exact h8
            obtain ⟨qa2, qc2, hvq⟩ := row_val hq
            generalize (encB s3).length = qn2 at hvq
            subst hvq
            clear hq u HEO gO hbO
            generalize okI s3 = o3 at *
            have f3 : (o3 == o3) = true := by simp
            go_wp2_with fail
            refine Calls.mono HE4.out ?_
            rintro r V5 ⟨rfl, u⟩
            have HX5 : Hid (Up wr V5) := HX4.out.trans u
            have HR5 : Hid (∀ W, Up V5 W → W.ownsRow w.heap.size 5 1 (.slice xa xn xc) xn xl ∧ W.ownsRow w.heap.size 5 1 (.slice ya yn yc) yn yl ∧ W.ownsRow w.heap.size 5 1 (.slice za zn zc) zn (bvs (encB s3))) := fun W x => by
              refine ⟨(HR.out W (HX5.out.trans x)).1, (HR.out W (HX5.out.trans x)).2, ?_⟩
              have h9 := own_less (HRZ.out W ((HQ4.out.trans u).trans x)) (show w.heap.size ≤ V2.heap.size from (HU.out.trans HX2.out).size)
              rw [← HZN.out] at h9
              exact h9
            have HU : Hid (Up w V5) := HU.out.trans HX5.out
            have hv35 : V3.heap.size ≤ V5.heap.size := (HQ4.out.trans u).size
            have hxz : xn ≤ 4294967296 ∧ yn ≤ 4294967296 ∧ zn ≤ 4294967296 := by
              have := HLN.out
              have := HLN3.out
              have := HXB.out.1
              have := HYB.out.1
              have := HZN.out
              omega
            have HXZ : Hid (xn ≤ 4294967296 ∧ yn ≤ 4294967296 ∧ zn ≤ 4294967296) := hxz
            have HBX : Hid (∀ g, (Value.slice xa xn xc).ownBlock = some g → w.heap.size ≤ g ∧ g < h5 ∧ g < V5.heap.size) := fun g hg => by
              have h7 := HBX.out g hg
              have h8 := ((HR5.out V5 (Up.refl _)).1.lt g hg).2
              exact ⟨h7.1, h7.2, h8⟩
            have HBY : Hid (∀ g, (Value.slice ya yn yc).ownBlock = some g → h5 ≤ g ∧ g < h6 ∧ g < V5.heap.size) := fun g hg => by
              have h7 := HBY.out g hg
              have h8 := ((HR5.out V5 (Up.refl _)).2.1.lt g hg).2
              exact ⟨h7.1, h7.2, h8⟩
            have HBZ : Hid (∀ g, (Value.slice za zn zc).ownBlock = some g → h6 ≤ g ∧ g < V5.heap.size) := fun g hg => by
              have h7 := HBZ.out g hg
              omega
            have h56 := HS6.out.1
            clear u HE4 f3 HR HRZ HX2 HX3 HX4 HX5 HQ4 HV23 hv35 hxz h6v h6w
            obtain ⟨gb, hgb⟩ : ∃ g, g = V5.heap.size := ⟨_, rfl⟩
            obtain ⟨V6, hV6⟩ : ∃ W, W = V5.alloc (.cells #[.slice none 0 0, .slice none 0 0, .slice none 0 0, .slice none 0 0, .slice none 0 0, .slice none 0 0, .slice none 0 0, .slice none 0 0, .slice none 0 0, .slice none 0 0, .slice none 0 0, .slice none 0 0, .slice none 0 0, .slice none 0 0, .slice none 0 0, .slice none 0 0, .slice none 0 0, .slice none 0 0, .slice none 0 0, .slice none 0 0, .slice none 0 0] 67) := ⟨_, rfl⟩
            have HB0 : Hid (BG.BagG V6 w.heap.size gb (gb + 1) (fun _ => .slice none 0 0) (fun _ => [])) := by
              unfold Hid
              rw [hgb, hV6]
              exact BG.bagG_start _ _
            have u6 : Up V5 V6 := by rw [hV6]; exact (Up.refl _).alloc _
            have HR6 : Hid (∀ W, Below gb V6 W → W.ownsRow w.heap.size 5 1 (.slice xa xn xc) xn xl ∧ W.ownsRow w.heap.size 5 1 (.slice ya yn yc) yn yl ∧ W.ownsRow w.heap.size 5 1 (.slice za zn zc) zn (bvs (encB s3))) := fun W x => by
              obtain ⟨r1, r2, r3⟩ := HR5.out V6 u6
              refine ⟨BG.own_block r1 fun g hg => x.block g ?_, BG.own_block r2 fun g hg => x.block g ?_, BG.own_block r3 fun g hg => x.block g ?_⟩
              · have := HBX.out g hg; omega
              · have := HBY.out g hg; omega
              · have := HBZ.out g hg; omega
            have HG : Hid (w.heap.size ≤ gb ∧ ∀ g, ((Value.slice xa xn xc).ownBlock = some g → g < h5 ∧ g < gb) ∧ ((Value.slice ya yn yc).ownBlock = some g → h5 ≤ g ∧ g < h6 ∧ g < gb) ∧ ((Value.slice za zn zc).ownBlock = some g → h6 ≤ g ∧ g < gb)) := by
              rw [hgb]
              exact ⟨HU.out.size, fun g => ⟨fun h => (HBX.out g h).2, HBY.out g, HBZ.out g⟩⟩
            have HU6 : Hid (Up w V6) := HU.out.trans u6
            clear u6 HR5 HU HBX HBY HBZ
            go_wp2_with fail
            rw [← hV6, ← hgb]
            clear hV6 hgb
            refine Calls.mono (BG.addBytes_ gb (gb + 1) w.heap.size _ _ _ xn V6 HB0.out ⟨⟨_, (HR6.out V6 (Below.refl _ _)).1⟩, HXZ.out.1, fun g hg => ⟨((HG.out.2 g).1 hg).2, fun h => by obtain ⟨p, hp, -⟩ := h; exact absurd hp (Nat.not_lt_zero _)⟩⟩) ?_
            rintro e V7 ⟨rfl, f7, L7, d1, d2, d3, -, d5⟩
            have HB7 : Hid (BG.BagG V7 w.heap.size gb (gb + 1) f7 L7) := d1
            have HD7 : Hid (Below gb V6 V7) := d2
            have HK7 : Hid (∀ g, BG.Blks (L7 0) g → g < h5) := fun g hg => by
              rcases d3 0 g hg with h | h
              · obtain ⟨p, hp, -⟩ := h; exact absurd hp (Nat.not_lt_zero _)
              · exact ((HG.out.2 g).1 h.2).1
            have HJ7 : Hid (∀ j, j ∉ [0] → L7 j = []) := d5
            clear d1 d2 d3 d5 HB0
            go_wp2_with fail
            refine Calls.mono (BG.addBytes_ gb (gb + 1) w.heap.size _ _ _ yn V7 HB7.out ⟨⟨_, (HR6.out V7 HD7.out).2.1⟩, HXZ.out.2.1, fun g hg => ⟨((HG.out.2 g).2.1 hg).2.2, fun h => by have := HK7.out g h; have := (HG.out.2 g).2.1 hg; omega⟩⟩) ?_
            rintro e V8 ⟨rfl, f8, L8, d1, d2, d3, -, d5⟩
            have HB8 : Hid (BG.BagG V8 w.heap.size gb (gb + 1) f8 L8) := d1
            have HD8 : Hid (Below gb V6 V8) := Below.trans HD7.out d2
            have HK8 : Hid (∀ g, BG.Blks (L8 0) g → g < h6) := fun g hg => by
              rcases d3 0 g hg with h | h
              · have := HK7.out g h; omega
              · have := (HG.out.2 g).2.1 h.2; omega
            have HJ8 : Hid (∀ j, j ∉ [0] → L8 j = []) := fun j hj => (d5 j hj).trans (HJ7.out j hj)
            clear d1 d2 d3 d5 HB7 HD7 HK7 HJ7
            go_wp2_with fail
            refine Calls.mono (BG.addBytes_ gb (gb + 1) w.heap.size _ _ _ zn V8 HB8.out ⟨⟨_, (HR6.out V8 HD8.out).2.2⟩, HXZ.out.2.2, fun g hg => ⟨((HG.out.2 g).2.2 hg).2, fun h => by have := HK8.out g h; have := (HG.out.2 g).2.2 hg; omega⟩⟩) ?_
            rintro e V9 ⟨rfl, f9, L9, d1, d2, -, -, d5⟩
            have HB9 : Hid (BG.BagG V9 w.heap.size gb (gb + 1) f9 L9) := d1
            have HD9 : Hid (Below w.heap.size w V9) := Below.trans HU6.out ((Below.trans HD8.out d2).mono HG.out.1)
            have HJ9 : Hid (∀ k, k < 21 → k ≠ 0 → L9 k = []) := fun j _ h1 => (d5 j (by simp; omega)).trans (HJ8.out j (by simp; omega))
            clear d1 d2 d5 HB8 HD8 HK8 HJ8
            go_wp2_with fail
            refine Calls.mono (BG.apartBxb_ V9 w.heap.size gb (gb + 1) f9 L9 HB9.out HG.out.1 HJ9.out) ?_
            rintro e V10 ⟨rfl, d1⟩
            have HD10 : Hid (Below w.heap.size w V10) := Below.trans HD9.out d1
            clear d1 HD9 HB9 HJ9
            go_wp2_with fail
            rw [HPo.out]
            exact ⟨rfl, HD10.out⟩
end IM
end Go.Proofs.YtpmdlpjedapbbaaGreatDoor
