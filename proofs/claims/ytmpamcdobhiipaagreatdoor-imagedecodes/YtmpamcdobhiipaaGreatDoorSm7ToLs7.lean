/-
  The small state, and that a state may be.
-/
import Derived.Test.YtmpamcdobhiipaaGreatDoorWsToRa
import Derived.Test.YtmpamcdobhiipaaGreatDoorCyaQ
import Derived.Test.YtmpamcdobhiipaaGreatDoorPa7ToWl7
import Derived.Test.YtmpamcdobhiipaaGreatDoorEc7ToFl7
import Derived.Test.YtmpamcdobhiipaaGreatDoorDd7ToCy
import Derived.Test.YtmpamcdobhiipaaGreatDoorPoly7ToThr7
namespace Go.Proofs.YtmpamcdobhiipaaGreatDoor
open Go.RowKit
attribute [local go_sem ↓] Go.wp_at_zero Go.wp_at_succ

namespace IM
open Go.Proofs.YtmpamcdobhiipaaGreatDoor.ST
def smS : Stt := ⟨[⟨0, 0, false⟩, ⟨0, 0, false⟩], [⟨3, 0, 0, 0, 0, 0⟩, ⟨0, 1, 0, 0, 0, 0⟩], [[0], [], [], [], [], [], [1], []], 1, 0, 0, 0⟩
theorem sm_ok : ff smS = none := by decide
theorem six_blocks (w : World) (o0 o1 o2 o3 o4 o5 : Obj) : ∀ W, W = (((((w.alloc o0).alloc o1).alloc o2).alloc o3).alloc o4).alloc o5 → W.heap[w.heap.size]? = some o0 ∧ W.heap[w.heap.size + 1]? = some o1 ∧ W.heap[w.heap.size + 1 + 1]? = some o2 ∧ W.heap[w.heap.size + 1 + 1 + 1]? = some o3 ∧ W.heap[w.heap.size + 1 + 1 + 1 + 1]? = some o4 ∧ W.heap[w.heap.size + 1 + 1 + 1 + 1 + 1]? = some o5 ∧ Up w W := by
  intro W h
  subst h
  have g0 := heap_alloc_new w o0
  have u0 : Up (w.alloc o0) ((((((w.alloc o0).alloc o1).alloc o2).alloc o3).alloc o4).alloc o5) := ((((((Up.refl _).alloc _).alloc _).alloc _).alloc _).alloc _)
  have s1 : (w.alloc o0).heap.size = w.heap.size + 1 := by simp
  have g1 := heap_alloc_new (w.alloc o0) o1
  rw [s1] at g1
  have u1 : Up ((w.alloc o0).alloc o1) ((((((w.alloc o0).alloc o1).alloc o2).alloc o3).alloc o4).alloc o5) := (((((Up.refl _).alloc _).alloc _).alloc _).alloc _)
  have s2 : ((w.alloc o0).alloc o1).heap.size = w.heap.size + 1 + 1 := by simp
  have g2 := heap_alloc_new ((w.alloc o0).alloc o1) o2
  rw [s2] at g2
  have u2 : Up (((w.alloc o0).alloc o1).alloc o2) ((((((w.alloc o0).alloc o1).alloc o2).alloc o3).alloc o4).alloc o5) := ((((Up.refl _).alloc _).alloc _).alloc _)
  have s3 : (((w.alloc o0).alloc o1).alloc o2).heap.size = w.heap.size + 1 + 1 + 1 := by simp
  have g3 := heap_alloc_new (((w.alloc o0).alloc o1).alloc o2) o3
  rw [s3] at g3
  have u3 : Up ((((w.alloc o0).alloc o1).alloc o2).alloc o3) ((((((w.alloc o0).alloc o1).alloc o2).alloc o3).alloc o4).alloc o5) := (((Up.refl _).alloc _).alloc _)
  have s4 : ((((w.alloc o0).alloc o1).alloc o2).alloc o3).heap.size = w.heap.size + 1 + 1 + 1 + 1 := by simp
  have g4 := heap_alloc_new ((((w.alloc o0).alloc o1).alloc o2).alloc o3) o4
  rw [s4] at g4
  have u4 : Up (((((w.alloc o0).alloc o1).alloc o2).alloc o3).alloc o4) ((((((w.alloc o0).alloc o1).alloc o2).alloc o3).alloc o4).alloc o5) := ((Up.refl _).alloc _)
  have s5 : (((((w.alloc o0).alloc o1).alloc o2).alloc o3).alloc o4).heap.size = w.heap.size + 1 + 1 + 1 + 1 + 1 := by simp
  have g5 := heap_alloc_new (((((w.alloc o0).alloc o1).alloc o2).alloc o3).alloc o4) o5
  rw [s5] at g5
  have u5 : Up ((((((w.alloc o0).alloc o1).alloc o2).alloc o3).alloc o4).alloc o5) ((((((w.alloc o0).alloc o1).alloc o2).alloc o3).alloc o4).alloc o5) := (Up.refl _)
  exact ⟨u0.heap g0, u1.heap g1, u2.heap g2, u3.heap g3, u4.heap g4, u5.heap g5, ((((((Up.refl _).alloc _).alloc _).alloc _).alloc _).alloc _).alloc _⟩
theorem makeP2 (W : World) : (Instr.makeSlice 25 (.int .i64 2) (.int .i64 2)).run Tryz.prog W = .ok (.slice (some ⟨W.heap.size, 0, none⟩) 2 2) (W.alloc (.cells #[.int .i32 0, .int .i32 0, .bool false, .int .i32 0, .int .i32 0, .bool false] 95)) := by kernel_rfl
set_option maxRecDepth 100000 in
set_option maxHeartbeats 4000000 in
theorem small_ (w : World) : Calls Tryz.prog 14 #[] w (CpPost w fun W v => SOA w.heap.size W v smS) := by
  obtain ⟨Post, hPost⟩ : ∃ P : Ending → World → Prop, P = CpPost w fun W v => SOA w.heap.size W v smS := ⟨_, rfl⟩
  rw [← hPost]
  have HP : Hid _ := hPost
  clear hPost
  have hms : ∀ W : World, (Instr.makeSlice 25 (.int .i64 2) (.int .i64 2)).run Tryz.prog W = .ok (.slice (some ⟨W.heap.size, 0, none⟩) 2 2) (W.alloc (.cells #[.int .i32 0, .int .i32 0, .bool false, .int .i32 0, .int .i32 0, .bool false] 95)) := makeP2
  go_enter Tryz.func14, Tryz.ntmps14
  go_wp2
  obtain ⟨W6, hW6⟩ : ∃ W6, W6 = (((((w.alloc (.cells #[.slice (some ⟨w.heap.size + 1, 0, none⟩) 2 2, .slice (some ⟨w.heap.size + 1 + 1, 0, none⟩) 2 2, .slice (some ⟨w.heap.size + 1 + 1 + 1 + 1 + 1, 0, none⟩) 8 8, .int .i32 1, .int .i64 0, .int .i8 0, .int .i64 0] 30)).alloc (.cells #[.int .i32 0, .int .i32 0, .bool false, .int .i32 0, .int .i32 0, .bool false] 95)).alloc (.cells #[.int .i64 3, .int .i64 0, .int .i32 0, .int .i32 0, .int .i32 0, .int .i32 0, .int .i64 0, .int .i64 1, .int .i32 0, .int .i32 0, .int .i32 0, .int .i32 0] 83)).alloc (.cells #[.int .i64 0] 3)).alloc (.cells #[.int .i64 1] 3)).alloc (.cells #[.slice (some ⟨w.heap.size + 1 + 1 + 1, 0, none⟩) 1 1, .slice none 0 0, .slice none 0 0, .slice none 0 0, .slice none 0 0, .slice none 0 0, .slice (some ⟨w.heap.size + 1 + 1 + 1 + 1, 0, none⟩) 1 1, .slice none 0 0] 84) := ⟨_, rfl⟩
  obtain ⟨g0, g1, g2, g3, g4, g5, gu⟩ := six_blocks w _ _ _ _ _ _ W6 hW6
  rw [← hW6]
  refine bodyPost_ret (v := .agg #[.slice (some ⟨w.heap.size + 1, 0, none⟩) 2 2, .slice (some ⟨w.heap.size + 1 + 1, 0, none⟩) 2 2, .slice (some ⟨w.heap.size + 1 + 1 + 1 + 1 + 1, 0, none⟩) 8 8, .int .i32 1, .int .i64 0, .int .i8 0, .int .i64 0]) (results_cell_row (p := 0) (ty := 30) rfl _ _ w.heap.size 30 _ (0, 0) _ rfl g0 Tryz.underlying30 rfl infoSt) rfl ?_
  rw [HP.out]
  refine ⟨_, rfl, ⟨_, _, _, rfl, own_made (xs := pvs smS.ps) g1 rfl (by omega) (by unfold maxLen; decide), own_made (xs := cvs smS.cs) g2 rfl (by omega) (by unfold maxLen; decide), _, own_made (xs := [.slice (some ⟨w.heap.size + 1 + 1 + 1, 0, none⟩) 1 1, .slice none 0 0, .slice none 0 0, .slice none 0 0, .slice none 0 0, .slice none 0 0, .slice (some ⟨w.heap.size + 1 + 1 + 1 + 1, 0, none⟩) 1 1, .slice none 0 0]) g5 rfl (by omega) (by unfold maxLen; decide), fun i hi => ?_, fun p q g hp hq hpq h1 h2 => ?_⟩, gu⟩
  · have o0 : IRow w.heap.size W6 (.slice (some ⟨w.heap.size + 1 + 1 + 1, 0, none⟩) 1 1) [0] := own_made (xs := ivs [0]) g3 rfl (by omega) (by unfold maxLen; decide)
    have o1 : IRow w.heap.size W6 (.slice (some ⟨w.heap.size + 1 + 1 + 1 + 1, 0, none⟩) 1 1) [1] := own_made (xs := ivs [1]) g4 rfl (by omega) (by unfold maxLen; decide)
    have on : IRow w.heap.size W6 (.slice none 0 0) [] := World.ownsRow_nil _ _ _ _
    have hi : i < 8 := hi
    match i, hi with
    | 0, _ => exact o0
    | 1, _ => exact on
    | 2, _ => exact on
    | 3, _ => exact on
    | 4, _ => exact on
    | 5, _ => exact on
    | 6, _ => exact o1
    | 7, _ => exact on
  · have hp : p < 8 := hp
    have hq : q < 8 := hq
    have key : ∀ k, k < 8 → ∀ g, (([.slice (some ⟨w.heap.size + 1 + 1 + 1, 0, none⟩) 1 1, .slice none 0 0, .slice none 0 0, .slice none 0 0, .slice none 0 0, .slice none 0 0, .slice (some ⟨w.heap.size + 1 + 1 + 1 + 1, 0, none⟩) 1 1, .slice none 0 0] : List Value).getD k nl).ownBlock = some g → (k = 0 ∧ g = w.heap.size + 1 + 1 + 1) ∨ (k = 6 ∧ g = w.heap.size + 1 + 1 + 1 + 1) := by
      intro k hk g hg
      match k, hk with
      | 0, _ => simp [Value.ownBlock] at hg; omega
      | 1, _ => simp [Value.ownBlock] at hg
      | 2, _ => simp [Value.ownBlock] at hg
      | 3, _ => simp [Value.ownBlock] at hg
      | 4, _ => simp [Value.ownBlock] at hg
      | 5, _ => simp [Value.ownBlock] at hg
      | 6, _ => simp [Value.ownBlock] at hg; omega
      | 7, _ => simp [Value.ownBlock] at hg
    rcases key p hp g h1 with h | h <;> rcases key q hq g h2 with h' | h' <;> omega
end IM
end Go.Proofs.YtmpamcdobhiipaaGreatDoor
/-
  Sum.
-/
namespace Go.Proofs.YtmpamcdobhiipaaGreatDoor
open Go.RowKit
attribute [local go_sem ↓] Go.wp_at_zero Go.wp_at_succ

namespace IM
open Go.Proofs.YtmpamcdobhiipaaGreatDoor.ST
def sumN (s : Stt) : Nat := if ff s = none then SM.crc 0 (bts (img s)) else 0
theorem byt_enc (s : Stt) : Byt (encB s) := by
  unfold encB
  split
  · exact byt_img s
  · exact fun c hc => absurd hc List.not_mem_nil
set_option maxRecDepth 100000 in
set_option maxHeartbeats 4000000 in
theorem sum_ (v : Value) (s : Stt) (w : World) (hv : StL w v s) (hsm : Small s) (ht : R4 s.turn) (hlen : (encB s).length ≤ 9223372036854775807) :
    Calls Tryz.prog 15 #[v] w fun x w' => x = .returned (.tuple #[.int .u32 (sumN s : Nat), .int .i64 (okI s)]) ∧ Up w w' := by
  obtain ⟨Post, hPost⟩ : ∃ P : Ending → World → Prop, P = fun x w' => x = .returned (.tuple #[.int .u32 (sumN s : Nat), .int .i64 (okI s)]) ∧ Up w w' := ⟨_, rfl⟩
  rw [← hPost]
  have HP : Hid (Post = _) := hPost
  have HEN : Hid (∀ W, Up w W → Calls Tryz.prog 13 #[v] W fun x w' => ∃ vb, x = .returned (.tuple #[vb, .int .i64 (okI s)]) ∧ w'.ownsRow W.heap.size 5 1 vb (encB s).length (bvs (encB s)) ∧ Up W w') := fun W u => encode_ v s W (hv.up u) hsm ht
  obtain ⟨vp, vc, vz, hvv, h1, h2, h3⟩ := hv
  obtain ⟨a1, k1, rfl, -, -⟩ := lc_at h1
  obtain ⟨a2, k2, rfl, -, -⟩ := lc_at h2
  obtain ⟨a3, k3, rfl, -, -⟩ := zl_at h3
  unfold sv at hvv
  clear h1 h2 h3 hPost hsm ht
  obtain ⟨A, hA⟩ : ∃ A : Array Value, A = #[.slice a1 s.ps.length k1, .slice a2 s.cs.length k2, .slice a3 s.zs.length k3, .int .i32 s.turn, .int .i64 s.whose, .int .i8 s.fin, .int .i64 s.winner] := ⟨_, rfl⟩
  have hA1 : A.size = 7 := by rw [hA]; rfl
  rw [← hA] at hvv
  subst hvv
  obtain ⟨W0, hW0⟩ : ∃ W0, w.alloc (.cells A 30) = W0 := ⟨_, rfl⟩
  have g0 : W0.heap[w.heap.size]? = some (.cells A 30 (0, 0)) := by rw [← hW0]; exact heap_alloc_new _ _
  have HU : Up w W0 := by rw [← hW0]; exact (Up.refl _).alloc _
  rw [hA] at hW0
  have HAA : Hid (Value.agg A = .agg #[.slice a1 s.ps.length k1, .slice a2 s.cs.length k2, .slice a3 s.zs.length k3, .int .i32 s.turn, .int .i64 s.whose, .int .i8 s.fin, .int .i64 s.winner]) := by unfold Hid; rw [hA]
  rw [HAA.out]
  clear hA
  go_enter Tryz.func15, Tryz.ntmps15
  go_wp2_with (first | (refine wpList_world hW0 ?_; refine wpList_load_row (by rfl) 30 (.tmp 1) (by rfl) w.heap.size (by rfl) 30 A (0, 0) _ g0 Tryz.underlying30 (by rfl) (by rw [hA1]; exact infoSt) ?_) | (refine wpList_load_row (by rfl) 30 (.tmp 1) (by rfl) w.heap.size (by rfl) 30 A (0, 0) _ g0 Tryz.underlying30 (by rfl) (by rw [hA1]; exact infoSt) ?_))
  refine Calls.mono (HEN.out _ HU) ?_
  rintro r W1 ⟨vb, rfl, ho, u⟩
  have HU := HU.trans u
  have HLI : Hid (SM.Lies W1 vb (bts (encB s))) := own_lies ho (byt_enc s)
  obtain ⟨fa, fn, fc, hvs⟩ : ∃ a n c, vb = Value.slice a n c := by
    rcases ho.2 with ⟨hv, _⟩ | ⟨g, cap, cur, hv, _⟩ <;> exact ⟨_, _, _, hv⟩
  subst hvs
  clear ho u g0 hW0 HEN
  by_cases hf : ff s = none
  · have HF : Hid (encB s = img s ∧ okI s = 0 ∧ sumN s = SM.crc 0 (bts (img s))) := by unfold Hid encB okI sumN; rw [if_pos hf, if_pos hf, if_pos hf]; exact ⟨rfl, rfl, rfl⟩
    have HCR : Hid _ := SM.crcs _ _ W1 HLI.out (by simpa [bts] using hlen) (bts_bys (byt_enc s))
    rw [HF.out.2.1]
    go_wp2_with fail
    refine Calls.mono HCR.out ?_
    rintro r W2 ⟨rfl, u⟩
    have HZ : Hid _ := HU.trans u
    clear u HU HCR
    go_wp2
    rw [HP.out, HF.out.2.2, HF.out.2.1]
    exact ⟨by rw [HF.out.1]; rfl, HZ.out⟩
  · have HF : Hid (okI s = 10 ∧ sumN s = 0) := by unfold Hid okI sumN; rw [if_neg hf, if_neg hf]; exact ⟨rfl, rfl⟩
    have HZ : Hid _ := HU
    rw [HF.out.1]
    clear HU HLI
    go_wp2
    rw [HP.out, HF.out.1, HF.out.2]
    exact ⟨rfl, HZ.out⟩
end IM
end Go.Proofs.YtmpamcdobhiipaaGreatDoor
/-
  A small state is written and read.
-/
namespace Go.Proofs.YtmpamcdobhiipaaGreatDoor
open Go.RowKit
attribute [local go_sem ↓] Go.wp_at_zero Go.wp_at_succ

namespace IM
open Go.Proofs.YtmpamcdobhiipaaGreatDoor.ST
theorem sm_r4 : R4 smS.turn := by unfold R4; decide
theorem sm_small : Small smS := small_rs (rs_of sm_ok sm_r4)
theorem sm_len : (encB smS).length = 91 := by rw [(enc_img sm_ok).1]; decide
set_option maxRecDepth 100000 in
set_option maxHeartbeats 8000000 in
theorem works_ (w : World) : Calls Tryz.prog 4 #[] w fun x w' => x = .returned (.bool true) ∧ Up w w' := by
  obtain ⟨Post, hPost⟩ : ∃ P : Ending → World → Prop, P = fun x w' => x = .returned (.bool true) ∧ Up w w' := ⟨_, rfl⟩
  rw [← hPost]
  have HPo : Hid (Post = fun x w' => x = .returned (.bool true) ∧ Up w w') := hPost
  clear hPost
  have HSm : Hid (∀ W, Calls Tryz.prog 14 #[] W (CpPost W fun W' v => SOA W.heap.size W' v smS)) := small_
  have HS : Hid (Small smS) := sm_small
  have hlen := sm_len
  obtain ⟨hen, hok⟩ := enc_img sm_ok
  obtain ⟨hd1, hd2, hd3⟩ := de_img sm_ok sm_r4
  have HE : Hid (deS (encB smS) = smS ∧ deE (encB smS) = 0 ∧ deA (encB smS) = 0 ∧ okI smS = 0 ∧ (encB smS).length = 91 ∧ Byt (encB smS)) := ⟨by rw [hen]; exact hd1, by rw [hen]; exact hd2, by rw [hen]; exact hd3, hok, hlen, by rw [hen]; exact byt_img _⟩
  clear hen hok hd1 hd2 hd3 hlen
  go_enter Tryz.func4, Tryz.ntmps4
  go_wp2_with fail
  refine Calls.mono (HSm.out _) ?_
  rintro r W1 ⟨v9, rfl, f9, u1⟩
  have HEN : Hid (Calls Tryz.prog 13 #[v9] W1 fun x w' => ∃ vb, x = .returned (.tuple #[vb, .int .i64 (okI smS)]) ∧ w'.ownsRow W1.heap.size 5 1 vb (encB smS).length (bvs (encB smS)) ∧ Up W1 w') := encode_ v9 smS W1 (soa_sl f9) HS.out sm_r4
  clear f9
  go_wp2_with fail
  refine Calls.mono HEN.out ?_
  rintro r W2 ⟨vb, rfl, hb, u2⟩
  have HDE : Hid (Calls Tryz.prog 6 #[vb] W2 (DeP W2 (encB smS))) := decode_ vb (encB smS) W2 (own_bl hb) HE.out.2.2.2.2.2 (by rw [HE.out.2.2.2.2.1]; decide)
  obtain ⟨ba, bc, hvb⟩ := row_val hb
  rw [HE.out.2.2.2.2.1] at hvb
  subst hvb
  rw [HE.out.2.2.2.1]
  have HU : Hid (Up w W2) := u1.trans u2
  clear HEN u1 u2 hb
  go_wp2_with fail
  refine Calls.mono HDE.out ?_
  rintro r W3 ⟨v, rfl, hS, u3⟩
  rw [HE.out.1] at hS
  rw [HE.out.2.1, HE.out.2.2.1]
  have HU : Hid (Up w W3) := HU.out.trans u3
  have HSO : Hid (SOA W2.heap.size W3 v smS) := hS
  obtain ⟨a1, k1, a2, k2, a3, k3, hv⟩ := soa_val hS
  subst hv
  have hp0 : (W3.alloc (.cells #[.slice a1 smS.ps.length k1, .slice a2 smS.cs.length k2, .slice a3 smS.zs.length k3, .int .i32 smS.turn, .int .i64 smS.whose, .int .i8 smS.fin, .int .i64 smS.winner] 30)).heap[W3.heap.size]? = some (.cells #[.slice a1 smS.ps.length k1, .slice a2 smS.cs.length k2, .slice a3 smS.zs.length k3, .int .i32 smS.turn, .int .i64 smS.whose, .int .i8 smS.fin, .int .i64 smS.winner] 30 (0, 0)) := heap_alloc_new _ _
  obtain ⟨W4, hW4⟩ : ∃ W4, W3.alloc (.cells #[.slice a1 smS.ps.length k1, .slice a2 smS.cs.length k2, .slice a3 smS.zs.length k3, .int .i32 smS.turn, .int .i64 smS.whose, .int .i8 smS.fin, .int .i64 smS.winner] 30) = W4 := ⟨_, rfl⟩
  have u4 : Up W3 W4 := by rw [← hW4]; exact (Up.refl _).alloc _
  rw [hW4] at hp0
  have HP0 : Hid _ := hp0
  have HU4 : Hid (Up W3 W4) := u4
  clear hS u3 hp0 u4 HDE
  go_wp2_with fail
  try rw [hW4]
  refine Calls.mono (HSm.out _) ?_
  rintro r W5 ⟨v20, rfl, f20, u5⟩
  have HSU : Hid (Calls Tryz.prog 15 #[v20] W5 fun x w' => x = .returned (.tuple #[.int .u32 (sumN smS : Nat), .int .i64 (okI smS)]) ∧ Up W5 w') := sum_ v20 smS W5 (soa_sl f20) HS.out sm_r4 (by rw [HE.out.2.2.2.2.1]; decide)
  have HP5 : Hid (W5.heap[W3.heap.size]? = some (.cells #[.slice a1 smS.ps.length k1, .slice a2 smS.cs.length k2, .slice a3 smS.zs.length k3, .int .i32 smS.turn, .int .i64 smS.whose, .int .i8 smS.fin, .int .i64 smS.winner] 30 (0, 0)) ∧ Up W3 W5) := ⟨u5.heap HP0.out, HU4.out.trans u5⟩
  clear f20 u5 hW4 HP0 HU4
  go_wp2_with fail
  refine Calls.mono HSU.out ?_
  rintro r W6 ⟨rfl, u6⟩
  rw [HE.out.2.2.2.1]
  obtain ⟨p, hp9⟩ : ∃ p, p = W3.heap.size := ⟨_, rfl⟩
  obtain ⟨C, hC⟩ : ∃ C : Array Value, C = #[.slice a1 smS.ps.length k1, .slice a2 smS.cs.length k2, .slice a3 smS.zs.length k3, .int .i32 smS.turn, .int .i64 smS.whose, .int .i8 smS.fin, .int .i64 smS.winner] := ⟨_, rfl⟩
  have hC1 : C.size = 7 := by rw [hC]; rfl
  have hp : W6.heap[p]? = some (.cells C 30 (0, 0)) := by rw [hp9, hC]; exact u6.heap HP5.out.1
  have fC : SOA W2.heap.size W6 (.agg C) smS := by rw [hC]; exact (HSO.out.up HP5.out.2).up u6
  have HU : Hid (Up w W6) := (HU.out.trans HP5.out.2).trans u6
  rw [← hp9]
  rw [← hC]
  clear hp9 hC HSU u6 HP5 HSO
  generalize sumN smS = sn
  go_wp2_with fail
  refine (fun key : ∀ (W : World) (v41 : Value), Up W6 W → (?G4 : World → Value → Prop) W v41 => ?main4) ?kp4
  case main4 =>
    refine wp_region_held_drew (S := fun W9 => Up W6 W9) (by kernel_rfl) (Up.drew (Up.refl _)) (fun hHeld => ?_)
    have Uc0 : Up W6 W6.drew := Up.drew (Up.refl _)
    refine wpAnyH_take (i := 0) (v := ?_) rfl (by kernel_rfl) (by kernel_rfl) (by kernel_rfl) (fun _ _ _ h => h) (Or.inl ⟨by rfl, ?_⟩) (by assumption) ?_
    rotate_left
    · intro w9 hSw
      go_simp
      try with_reducible rfl
    simp only [Act.put, List.setIfInBounds_toArray, List.set_cons_zero, List.set_cons_succ, List.getElem_toArray, List.getElem_cons_zero]
    refine wpAnyH_take (i := 1) (v := ?_) rfl (by kernel_rfl) (by kernel_rfl) (by kernel_rfl) (fun _ _ _ h => h) (Or.inl ⟨by rfl, ?_⟩) (by assumption) ?_
    rotate_left
    · intro w9 hSw
      go_simp
      try with_reducible rfl
    simp only [Act.put, List.setIfInBounds_toArray, List.set_cons_zero, List.set_cons_succ, List.getElem_toArray, List.getElem_cons_zero, List.getElem_cons_succ]
    refine wpAnyH_take (i := 2) (v := ?_) rfl (by kernel_rfl) (by kernel_rfl) (by kernel_rfl) (fun _ _ _ h => h) (Or.inl ⟨by rfl, ?_⟩) (by assumption) ?_
    rotate_left
    · intro w9 hSw
      go_simp
      try with_reducible rfl
    simp only [Act.put, List.setIfInBounds_toArray, List.set_cons_zero, List.set_cons_succ, List.getElem_toArray, List.getElem_cons_zero, List.getElem_cons_succ]
    refine wpAnyH_take (i := 3) (v := ?_) rfl (by kernel_rfl) (by kernel_rfl) (by kernel_rfl) (fun _ _ _ h => h) (Or.inl ⟨by rfl, ?_⟩) (by assumption) ?_
    rotate_left
    · intro w9 hSw
      go_simp
      try with_reducible rfl
    simp only [Act.put, List.setIfInBounds_toArray, List.set_cons_zero, List.set_cons_succ, List.getElem_toArray, List.getElem_cons_zero, List.getElem_cons_succ]
    refine wpAnyH_take (i := 4) (v := ?_) rfl (by kernel_rfl) (by kernel_rfl) (by kernel_rfl) (fun _ _ _ h => h) (Or.inl ⟨by rfl, ?_⟩) (by assumption) ?_
    rotate_left
    · intro w9 hSw
      go_simp
      try with_reducible rfl
    simp only [Act.put, List.setIfInBounds_toArray, List.set_cons_zero, List.set_cons_succ, List.getElem_toArray, List.getElem_cons_zero, List.getElem_cons_succ]
    refine wpAnyH_take (i := 5) (v := ?_) rfl (by kernel_rfl) (by kernel_rfl) (by kernel_rfl) (fun _ _ _ h => h) (Or.inl ⟨by rfl, ?_⟩) (by assumption) ?_
    rotate_left
    · intro w9 hSw
      go_simp
      try with_reducible rfl
    simp only [Act.put, List.setIfInBounds_toArray, List.set_cons_zero, List.set_cons_succ, List.getElem_toArray, List.getElem_cons_zero, List.getElem_cons_succ]
    refine wpAnyH_take (i := 6) (v := ?_) rfl (by kernel_rfl) (by kernel_rfl) (by kernel_rfl) (fun _ _ _ h => h) (Or.inl ⟨by rfl, ?_⟩) (by assumption) ?_
    rotate_left
    · intro w9 hSw
      go_simp
      try with_reducible rfl
    simp only [Act.put, List.setIfInBounds_toArray, List.set_cons_zero, List.set_cons_succ, List.getElem_toArray, List.getElem_cons_zero, List.getElem_cons_succ]
    refine wpAnyH_take (i := 7) (v := ?_) rfl (by kernel_rfl) (by kernel_rfl) (by kernel_rfl) (fun _ _ _ h => h) (Or.inl ⟨by rfl, ?_⟩) (by assumption) ?_
    rotate_left
    · intro w9 hSw
      go_simp
      try with_reducible rfl
    simp only [Act.put, List.setIfInBounds_toArray, List.set_cons_zero, List.set_cons_succ, List.getElem_toArray, List.getElem_cons_zero, List.getElem_cons_succ]
    refine wpAnyH_take (i := 8) (v := ?_) rfl (by kernel_rfl) (by kernel_rfl) (by kernel_rfl) (fun _ _ _ h => h) (Or.inl ⟨by rfl, ?_⟩) (by assumption) ?_
    rotate_left
    · intro w9 hSw
      go_simp
      try with_reducible rfl
    simp only [Act.put, List.setIfInBounds_toArray, List.set_cons_zero, List.set_cons_succ, List.getElem_toArray, List.getElem_cons_zero, List.getElem_cons_succ]
    refine wpAnyH_take (i := 9) (v := ?_) rfl (by kernel_rfl) (by kernel_rfl) (by kernel_rfl) (fun _ _ _ h => h) (Or.inl ⟨by rfl, ?_⟩) (by assumption) ?_
    rotate_left
    · intro w9 hSw
      go_simp
      try with_reducible rfl
    simp only [Act.put, List.setIfInBounds_toArray, List.set_cons_zero, List.set_cons_succ, List.getElem_toArray, List.getElem_cons_zero, List.getElem_cons_succ]
    refine wpAnyH_take (i := 10) (v := ?_) rfl (by kernel_rfl) (by kernel_rfl) (by kernel_rfl) (fun _ _ _ h => h) (Or.inl ⟨by rfl, ?_⟩) (by assumption) ?_
    rotate_left
    · intro w9 hSw
      go_simp
      try with_reducible rfl
    simp only [Act.put, List.setIfInBounds_toArray, List.set_cons_zero, List.set_cons_succ, List.getElem_toArray, List.getElem_cons_zero, List.getElem_cons_succ]
    refine wpAnyH_take (i := 11) (v := ?_) rfl (by kernel_rfl) (by kernel_rfl) (by kernel_rfl) (fun _ _ _ h => h) (Or.inl ⟨by rfl, ?_⟩) (by assumption) ?_
    rotate_left
    · intro w9 hSw
      go_simp
      try with_reducible rfl
    simp only [Act.put, List.setIfInBounds_toArray, List.set_cons_zero, List.set_cons_succ, List.getElem_toArray, List.getElem_cons_zero, List.getElem_cons_succ]
    refine wpAnyH_take (i := 12) (v := ?_) rfl (by kernel_rfl) (by kernel_rfl) (by kernel_rfl) (fun _ _ _ h => h) (Or.inl ⟨by rfl, ?_⟩) (by assumption) ?_
    rotate_left
    · intro w9 hSw
      go_simp
      try with_reducible rfl
    simp only [Act.put, List.setIfInBounds_toArray, List.set_cons_zero, List.set_cons_succ, List.getElem_toArray, List.getElem_cons_zero, List.getElem_cons_succ]
    refine wpAnyH_take (i := 13) (v := ?_) rfl (by kernel_rfl) (by kernel_rfl) (by kernel_rfl) (fun _ _ _ h => h) (Or.inl ⟨by rfl, ?_⟩) (by assumption) ?_
    rotate_left
    · intro w9 hSw
      go_simp
      try with_reducible rfl
    simp only [Act.put, List.setIfInBounds_toArray, List.set_cons_zero, List.set_cons_succ, List.getElem_toArray, List.getElem_cons_zero, List.getElem_cons_succ]
    refine wpAnyH_take (i := 14) (v := ?_) rfl (by kernel_rfl) (by kernel_rfl) (by kernel_rfl) (fun _ _ _ h => h) (Or.inl ⟨by rfl, ?_⟩) (by assumption) ?_
    rotate_left
    · intro w9 hSw
      go_simp
      try with_reducible rfl
    simp only [Act.put, List.setIfInBounds_toArray, List.set_cons_zero, List.set_cons_succ, List.getElem_toArray, List.getElem_cons_zero, List.getElem_cons_succ]
    refine wpAnyH_take (i := 15) (v := ?_) rfl (by kernel_rfl) (by kernel_rfl) (by kernel_rfl) (fun _ _ _ h => h) (Or.inl ⟨by rfl, ?_⟩) (by assumption) ?_
    rotate_left
    · intro w9 hSw
      go_simp
      try with_reducible rfl
    simp only [Act.put, List.setIfInBounds_toArray, List.set_cons_zero, List.set_cons_succ, List.getElem_toArray, List.getElem_cons_zero, List.getElem_cons_succ]
    refine wpAnyH_take (i := 16) (v := ?_) rfl (by kernel_rfl) (by kernel_rfl) (by kernel_rfl) (fun _ _ _ h => h) (Or.inl ⟨by rfl, ?_⟩) (by assumption) ?_
    rotate_left
    · intro w9 hSw
      refine (exec_load_row 30 (.tmp 3) (by rfl) p (by rfl) 30 C (0, 0) _ Tryz.underlying30 (by rfl) (by rw [hC1]; exact infoSt) w9 (hSw.heap hp)).trans ?_
      with_reducible rfl
    simp only [Act.put, List.setIfInBounds_toArray, List.set_cons_zero, List.set_cons_succ, List.getElem_toArray, List.getElem_cons_zero, List.getElem_cons_succ]
    refine wpAnyH_ready (rs := [17]) (by kernel_rfl) (by simp) ?_
    refine AllReadyH.cons rfl (fun K hK => ?_) AllReadyH.nil
    simp only [List.getElem_toArray, List.getElem_cons_zero, List.getElem_cons_succ]
    go_simp
    refine Calls.mono (HSm.out _) ?_
    rintro r9 Wc1 ⟨v41, rfl, f41, uc1⟩
    go_simp
    have Uc1 := Uc0.trans uc1
    refine hK.out _ _ ?_ (fun hHeld => ?_)
    · exact Uc1
    clear hK K
    try simp only [Act.put, List.setIfInBounds_toArray, List.set_cons_zero, List.set_cons_succ]
    have hSS := Uc1
    refine wpAnyH_ready (rs := [18]) (by kernel_rfl) (by simp) ?_
    refine AllReadyH.cons rfl (fun K hK => ?_) AllReadyH.nil
    simp only [List.getElem_toArray, List.getElem_cons_zero, List.getElem_cons_succ]
    go_simp
    refine Calls.mono (eqState_ (.agg C) v41 smS smS _ (soa_sl (fC.up Uc1)) (soa_sl f41) HS.out (by decide)) ?_
    rintro r9 Wc2 ⟨rfl, uc2⟩
    go_simp
    have Uc2 := Uc1.trans uc2
    have f41 := f41.up uc2
    refine hK.out _ _ ?_ (fun hHeld => ?_)
    · exact Uc2
    clear hK K
    try simp only [Act.put, List.setIfInBounds_toArray, List.set_cons_zero, List.set_cons_succ]
    have hSS := Uc2
    refine wpAnyH_take (i := 19) (v := ?_) rfl (by kernel_rfl) (by kernel_rfl) (by kernel_rfl) (fun _ _ _ h => h) (Or.inl ⟨by rfl, ?_⟩) (by assumption) ?_
    rotate_left
    · intro w9 hSw
      go_simp
      try with_reducible rfl
    simp only [Act.put, List.setIfInBounds_toArray, List.set_cons_zero, List.set_cons_succ, List.getElem_toArray, List.getElem_cons_zero, List.getElem_cons_succ]
    refine wpAnyH_take (i := 20) (v := ?_) rfl (by kernel_rfl) (by kernel_rfl) (by kernel_rfl) (fun _ _ _ h => h) (Or.inl ⟨by rfl, ?_⟩) (by assumption) ?_
    rotate_left
    · intro w9 hSw
      go_simp
      try with_reducible rfl
    simp only [Act.put, List.setIfInBounds_toArray, List.set_cons_zero, List.getElem_toArray, List.getElem_cons_zero, List.getElem_cons_succ]
    refine wpAnyH_done (by kernel_rfl) ?_ _
    exact key Wc2 v41 Uc2
  case kp4 =>
    intro W7 v41 U7
    have HU : Hid (Up w W7) := HU.out.trans U7
    clear U7 hp fC
    go_wp2_with fail
    rw [HPo.out]
    exact ⟨rfl, HU.out⟩
end IM
end Go.Proofs.YtmpamcdobhiipaaGreatDoor
/-
  Lists of bytes: copies, and whether two are the same.
-/
namespace Go.Proofs.YtmpamcdobhiipaaGreatDoor
namespace SM
open Go.RowKit

def bv (c : Nat) : Value := .int .u8 (c : Int)
def Owns (w : World) (base : Nat) (v : Value) (zs : List Nat) : Prop := w.ownsRow base 5 1 v zs.length (zs.map bv)
theorem Owns.lies {w : World} {base : Nat} {v : Value} {zs : List Nat} (h : Owns w base v zs) : Lies w v zs := by
  have hs : w.ownsRow base 5 1 v zs.length (zs.map bv) := h
  rcases hs.2 with ⟨rfl, hn⟩ | ⟨g, cap, cur, rfl, _⟩
  · exact ⟨none, 0, by rw [hn], fun _ => rfl, fun hz => absurd hn hz⟩
  · refine ⟨_, cap, rfl, (fun h => by cases h), fun _ => ⟨g, 0, rfl, fun i hi => ?_⟩⟩
    rw [Nat.zero_add, hs.cellAt i (by omega)]
    simp [List.getD, List.getElem?_eq_getElem hi, bv]
theorem bv_one (zs : List Nat) : ∀ u ∈ zs.map bv, u.oneCell' = true := by
  intro u hu
  obtain ⟨c, _, rfl⟩ := List.mem_map.1 hu
  rfl
theorem info5 : (Tryz.prog.info? 5).map (fun i => (i.zero, i.size, i.bytes)) = some (some (.int .u8 0), 1, 1) := by kernel_rfl
theorem lies_cells {w : World} {ad : Addr} {cap : Nat} {zs : List Nat} (h : Lies w (.slice (some ad) zs.length cap) zs) : ∀ j u, (zs.map bv)[j]? = some u → w.cell? (ad.add j) = some u := by
  intro j u hj
  have hjl : j < zs.length := by have := (List.getElem?_eq_some_iff.1 hj).1; simpa using this
  obtain ⟨a', cap', hv, _, h⟩ := h
  simp only [Value.slice.injEq] at hv
  obtain ⟨b, off, ha, hc⟩ := h (by omega)
  obtain ⟨e, _, _⟩ := hv
  rw [ha] at e
  simp only [Option.some.injEq] at e
  subst e
  rw [Addr.add_mid, hc j hjl, ← hj]
  simp [List.getD, List.getElem?_eq_getElem hjl, bv]
theorem lies_none {w : World} {len cap : Nat} {zs : List Nat} (h : Lies w (.slice none len cap) zs) : zs = [] := by
  obtain ⟨a', cap', hv, _, h⟩ := h
  simp only [Value.slice.injEq] at hv
  obtain ⟨e, _, _⟩ := hv
  apply List.eq_nil_of_length_eq_zero
  apply Classical.byContradiction
  intro hn
  obtain ⟨b, off, ha, _⟩ := h hn
  rw [← e] at ha
  cases ha
theorem lies_nocap {w : World} {len cap : Nat} {zs : List Nat} (h : Lies w (.slice none len cap) zs) : cap = 0 := by
  obtain ⟨a', cap', hv, hz, _⟩ := h
  simp only [Value.slice.injEq] at hv
  obtain ⟨e, _, e3⟩ := hv
  rw [e3]; exact hz e.symm
theorem up_grown {w W w' : World} {m base : Nat} {va : Value} {ys : List Value} (hO : W.ownsRow base 5 1 va m ys) (hU : Up w W) (hb : w.heap.size ≤ base)
    (hgrow : W.grownBy w' va.ownBlock) : Up w w' := by
  refine Below.grown hU hgrow hU.size ?_
  intro k hk
  have := hO.lt k hk
  omega
theorem ret_bool {a b : Bool} (h : a = b) : Ending.returned (.bool a) = .returned (.bool b) := by rw [h]
theorem take_ne (zs ys : List Nat) (k : Nat) (h : zs.getD k 0 ≠ ys.getD k 0) : zs ≠ ys := by
  intro e; subst e; exact h rfl
theorem take_eq_snoc (zs ys : List Nat) (k : Nat) (h1 : k < zs.length) (h2 : k < ys.length) (h : zs.take k = ys.take k) (e : zs.getD k 0 = ys.getD k 0) : zs.take (k + 1) = ys.take (k + 1) := by
  rw [take_snoc' zs k h1, take_snoc' ys k h2, h, e]
set_option maxHeartbeats 400000 in
theorem eq_len (a b : Option Addr) (n m c1 c2 : Nat) (w : World) (h : n ≠ m) :
    Calls Tryz.prog 8 #[.slice a n c1, .slice b m c2] w fun e w' => e = .returned (.bool false) ∧ Up w w' := by
  have hd : ((n : Int) != (m : Int)) = true := by simp; omega
  go_enter Tryz.func8, Tryz.ntmps8
  go_wp2
  go_ret
  exact ⟨rfl, Up.refl _⟩
set_option maxHeartbeats 400000 in
theorem eq_zero (a b : Option Addr) (c1 c2 : Nat) (w : World) :
    Calls Tryz.prog 8 #[.slice a 0 c1, .slice b 0 c2] w fun e w' => e = .returned (.bool true) ∧ Up w w' := by
  go_enter Tryz.func8, Tryz.ntmps8
  go_wp2
  go_rounds 1
  go_ret
  exact ⟨rfl, Up.refl _⟩
set_option maxHeartbeats 1000000 in
theorem eq_some (b1 o1 b2 o2 n c1 c2 : Nat) (zs ys : List Nat) (w : World) (h1 : zs.length = n) (h2 : ys.length = n) (hm : n ≤ 9223372036854775807)
    (hc1 : ∀ i, i < n → w.cell? ⟨b1, o1 + i, none⟩ = some (.int .u8 (zs.getD i 0 : Nat))) (hc2 : ∀ i, i < n → w.cell? ⟨b2, o2 + i, none⟩ = some (.int .u8 (ys.getD i 0 : Nat))) :
    Calls Tryz.prog 8 #[.slice (some ⟨b1, o1, none⟩) n c1, .slice (some ⟨b2, o2, none⟩) n c2] w fun e w' => e = .returned (.bool (decide (zs = ys))) ∧ Up w w' := by
  have HC1 : Hid (∀ i, i < n → w.cell? ⟨b1, o1 + i, none⟩ = some (.int .u8 (zs.getD i 0 : Nat))) := hc1
  have HC2 : Hid (∀ i, i < n → w.cell? ⟨b2, o2 + i, none⟩ = some (.int .u8 (ys.getD i 0 : Nat))) := hc2
  have L1 : Hid (zs.length = n) := h1
  have L2 : Hid (ys.length = n) := h2
  obtain ⟨B, hB⟩ : ∃ B, B = decide (zs = ys) := ⟨_, rfl⟩
  rw [← hB]
  have HB : Hid (B = decide (zs = ys)) := hB
  clear hc1 hc2 h1 h2 hB
  go_enter Tryz.func8, Tryz.ntmps8
  go_wp2_with fail
  go_loopw [5] (fun s5 wr => ∃ k : Nat, k ≤ n ∧ s5 = .int .i64 k ∧ zs.take k = ys.take k ∧ Up w wr) (fun i _ => n - (intOf i).toNat)
  case atStart => exact ⟨0, Nat.zero_le _, rfl, rfl, Up.refl _⟩
  case round =>
    obtain ⟨k, hk, rfl, ht, hu⟩ := hrel
    have HT : Hid (zs.take k = ys.take k) := ht
    clear ht
    by_cases hlt : k < n
    · have hki : (k : Int) < (n : Int) := by omega
      have d0 := hu.cell (HC1.out k hlt)
      have d1 := hu.cell (HC2.out k hlt)
      by_cases hz : zs.getD k 0 = ys.getD k 0
      · have HN : Hid (zs.take (k + 1) = ys.take (k + 1)) := take_eq_snoc zs ys k (by rw [L1.out]; exact hlt) (by rw [L2.out]; exact hlt) HT.out hz
        rw [hz] at d0
        generalize ys.getD k 0 = y at *
        have hzz : ((y : Int) != (y : Int)) = false := by simp
        clear hz HT
        go_wp2_with fail
        go_quiet (fail)
        go_wp2
        go_roundw
        case rel => first | exact ⟨k + 1, by omega, by go_num, HN.out, Up.drewN hu _⟩ | ((repeat apply Exists.intro); exact ⟨⟨k + 1, by omega, by go_num, HN.out, Up.drewN hu _⟩, rfl⟩)
        case measure => simp [intOf]; omega
      · have HN : Hid (B = false) := by
          unfold Hid
          rw [HB.out]
          exact decide_eq_false (take_ne zs ys k hz)
        have hzz : ((zs.getD k 0 : Int) != (ys.getD k 0 : Int)) = true := bne_iff_ne.2 (by omega)
        generalize zs.getD k 0 = z at *
        generalize ys.getD k 0 = y at *
        clear hz HT
        go_wp2_with fail
        go_quiet (fail)
        go_wp2
        go_ret
        exact ⟨ret_bool HN.out.symm, Up.drewN hu _⟩
    · obtain rfl : k = n := by omega
      have HN : Hid (B = true) := by
        have := HT.out
        rw [List.take_of_length_le (by rw [L1.out]; exact Nat.le_refl _), List.take_of_length_le (by rw [L2.out]; exact Nat.le_refl _)] at this
        unfold Hid
        rw [HB.out]
        exact decide_eq_true this
      go_wp2
      go_ret
      exact ⟨ret_bool HN.out.symm, hu⟩
theorem eqB (v u : Value) (zs ys : List Nat) (w : World) (hv : Lies w v zs) (hu : Lies w u ys) (hm : zs.length ≤ 9223372036854775807) :
    Calls Tryz.prog 8 #[v, u] w fun e w' => e = .returned (.bool (decide (zs = ys))) ∧ Up w w' := by
  obtain ⟨a, c1, rfl, _, h1⟩ := hv
  obtain ⟨b, c2, rfl, _, h2⟩ := hu
  by_cases hl : zs.length = ys.length
  · by_cases h0 : zs.length = 0
    · obtain rfl := List.eq_nil_of_length_eq_zero h0
      obtain rfl := List.eq_nil_of_length_eq_zero (l := ys) (by rw [← hl]; rfl)
      exact eq_zero a b c1 c2 w
    · obtain ⟨b1, o1, rfl, hc1⟩ := h1 h0
      obtain ⟨b2, o2, rfl, hc2⟩ := h2 (by rw [← hl]; exact h0)
      rw [← hl] at hc2 ⊢
      exact eq_some b1 o1 b2 o2 zs.length c1 c2 zs ys w rfl hl.symm hm hc1 hc2
  · rw [show decide (zs = ys) = false from decide_eq_false (fun e => hl (by rw [e]))]
    exact eq_len a b _ _ c1 c2 w hl
end SM
end Go.Proofs.YtmpamcdobhiipaaGreatDoor
