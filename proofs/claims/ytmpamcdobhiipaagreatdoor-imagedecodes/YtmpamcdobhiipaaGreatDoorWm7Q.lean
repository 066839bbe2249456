/-
  Decode: the whole.
-/
import Derived.Test.YtmpamcdobhiipaaGreatDoorPa7ToWl7
namespace Go.Proofs.YtmpamcdobhiipaaGreatDoor
open Go.RowKit
attribute [local go_sem ↓] Go.wp_at_zero Go.wp_at_succ

namespace IM
open Go.Proofs.YtmpamcdobhiipaaGreatDoor.ST
def lenS : Value → Nat
  | .slice _ n _ => n
  | _ => 0
def WhP (w0 : World) (rb : Nat) (vb : Value) (B : List Int) (x : Ending) (w' : World) : Prop := match decR B with
  | .ok s => x = .returned (.bool true) ∧ ∃ pb, RW w0 rb vb B pb B.length s.ps s.cs s.zs s.turn s.whose s.fin s.winner w'
  | .error r => x = .returned (.bool false) ∧ ∃ C, RD w0 rb vb B (B.length - r) C w'
theorem wh_fault {w0 : World} {rb : Nat} {vb : Value} {B : List Int} {W : World} (h : FW w0 rb vb B W) (k : Nat) : WhP w0 rb vb B (.returned (.bool false)) (W.drewN k) := by
  obtain ⟨r, C, h1, h2⟩ := h
  have h3 : decR B = .error r := by unfold decR; rw [h2]
  unfold WhP
  rw [h3]
  exact ⟨rfl, C, h1.drew k⟩
theorem wh_more {w0 : World} {rb : Nat} {vb : Value} {B : List Int} {pb p : Nat} {s : Stt} {W : World} (h : RW w0 rb vb B pb p s.ps s.cs s.zs s.turn s.whose s.fin s.winner W) (hr : rdS B = .ok (s, B.drop p)) (hp : p ≠ B.length) (k : Nat) : WhP w0 rb vb B (.returned (.bool false)) (W.drewN k) := by
  have hle := h.le
  obtain ⟨C, h1⟩ := h.rd
  have h3 : decR B = .error (B.length - p) := by
    unfold decR
    rw [hr, drop_cons (B := B) (i := p) (by omega)]
    simp only [List.length_cons, List.length_drop]
    congr 1
    omega
  unfold WhP
  rw [h3]
  refine ⟨rfl, C, ?_⟩
  rw [show B.length - (B.length - p) = p by omega]
  exact h1.drew k
theorem wh_end {w0 : World} {rb : Nat} {vb : Value} {B : List Int} {pb : Nat} {s : Stt} {W : World} (h : RW w0 rb vb B pb B.length s.ps s.cs s.zs s.turn s.whose s.fin s.winner W) (hr : rdS B = .ok (s, B.drop B.length)) (k : Nat) : WhP w0 rb vb B (.returned (.bool true)) (W.drewN k) := by
  have h3 : decR B = .ok s := by
    unfold decR
    rw [hr, List.drop_length]
  unfold WhP
  rw [h3]
  exact ⟨rfl, pb, h.drew k⟩
theorem iw_begin {w0 : World} {rb : Nat} {vb : Value} {B : List Int} {C : Array Value} {w : World} (h : RD w0 rb vb B 0 C w) (h2 : C[2]? = some (.slice none 0 0)) (h3 : C[3]? = some (.slice none 0 0)) (h4 : C[4]? = some (.slice none 0 0)) (h5 : C[5]? = some (.int .i32 0) ∧ C[6]? = some (.int .i64 0) ∧ C[7]? = some (.int .i8 0) ∧ C[8]? = some (.int .i64 0)) :
    IW w0 rb vb B w.heap.size 0 ((w.alloc (.cells #[.pointer (some ⟨rb, 0, none⟩)] 67)).alloc (.cells (ptC rb w.heap.size) 91)) := by
  refine ⟨C, _, _, _, (h.alloc _).alloc _, ⟨h2, h3, h4⟩, h5, World.ownsRow_nil _ _ _ _, World.ownsRow_nil _ _ _ _, ⟨[], rfl, World.ownsRow_nil _ _ _ _, fun i hi => absurd hi (Nat.not_lt_zero i), RA.nil _⟩, ?_, ?_⟩
  · rw [Below.heap_alloc _ _ _ (by simp)]; exact heap_alloc_new w _
  · have := heap_alloc_new (w.alloc (.cells #[.pointer (some ⟨rb, 0, none⟩)] 67)) (.cells (ptC rb w.heap.size) 91)
    simpa using this
set_option maxRecDepth 100000 in
set_option maxHeartbeats 4000000 in
theorem whole_ (w0 : World) (rb : Nat) (vb : Value) (B : List Int) (C : Array Value) (w : World) (h : RD w0 rb vb B 0 C w) (h2 : C[2]? = some (.slice none 0 0)) (h3 : C[3]? = some (.slice none 0 0)) (h4 : C[4]? = some (.slice none 0 0)) (h5 : C[5]? = some (.int .i32 0) ∧ C[6]? = some (.int .i64 0) ∧ C[7]? = some (.int .i8 0) ∧ C[8]? = some (.int .i64 0)) :
    Calls Tryz.prog 16 #[.pointer (some ⟨rb, 0, none⟩)] w (WhP w0 rb vb B) := by
  obtain ⟨Post, hPost⟩ : ∃ P : Ending → World → Prop, P = WhP w0 rb vb B := ⟨_, rfl⟩
  rw [← hPost]
  have HPo : Hid (Post = _) := hPost
  have HI0 : Hid _ := iw_begin h h2 h3 h4 h5
  have HPA : Hid _ := parts_ rb w
  clear hPost h h2 h3 h4 h5
  obtain ⟨pb, hpb⟩ : ∃ pb, pb = w.heap.size := ⟨_, rfl⟩
  rw [← hpb] at HI0 HPA
  have HCM : Hid (∀ j W, j < 5 → IW w0 rb vb B pb j W → Calls Tryz.prog (fm j) (cm pb j) W (CmP w0 rb vb B pb j)) := fun j W hj h => cm_ w0 rb vb B pb W j hj h
  have HCO : Hid (∀ j m i W, j < 5 → i < m → JW w0 rb vb B pb j m i W → Calls Tryz.prog (fo j) #[.pointer (some ⟨rb, 0, none⟩)] W (CoP w0 rb vb B pb j m i)) := fun j m i W hj hi h => co_ w0 rb vb B pb m i W j hj hi h
  go_enter Tryz.func16, Tryz.ntmps16
  go_wp2_with fail
  go_step3
  go_wp2_with fail
  refine Calls.mono HPA.out ?_
  rintro r V ⟨rfl, hV⟩
  rw [← hV] at HI0
  clear hV HPA hpb
  go_wp2_with fail
  go_step3
  go_wp2_with fail
  go_loopw [3] (fun s3 W => ∃ j ad, j ≤ 5 ∧ s3 = .slice ad (5 - j) (5 - j) ∧ (j < 5 → ad = some ⟨pb + 1, 2 * j, none⟩) ∧ IW w0 rb vb B pb j W) (fun s3 _ => lenS s3)
  case atStart => exact ⟨0, some ⟨pb + 1, 0, none⟩, by decide, rfl, fun _ => rfl, HI0.out⟩
  case round =>
    obtain ⟨j, ad, hj5, rfl, had, hI⟩ := hrel
    clear HI0
    by_cases hj : j < 5
    · obtain rfl := had hj
      clear had
      have e1 : (0 : Int) < ((5 - j : Nat) : Int) := by omega
      have e2 : 0 < 5 - j := by omega
      obtain ⟨p, ps, cs, zs, a, b, c, d, C, vp, vc, vz, q⟩ := iw_rd j hI
      have x1 : wr.cell? ⟨pb + 1, 2 * j, none⟩ = some (.func (.func (fm j)) #[] (cm pb j)) := by
        simp only [World.cell?, q.2.2.2.2.2.2.2]; exact (pt_cells rb pb j hj).1
      have en1 := fm_enters j hj
      have en2 := fo_enters j hj
      have HC1 : Hid (Calls Tryz.prog (fm j) (cm pb j) wr (CmP w0 rb vb B pb j)) := HCM.out j wr hj hI
      clear q
      have HI : Hid (IW w0 rb vb B pb j wr) := hI
      clear hI
      obtain ⟨F, hF⟩ : ∃ F, F = fm j := ⟨_, rfl⟩
      obtain ⟨CA, hCA⟩ : ∃ F, F = cm pb j := ⟨_, rfl⟩
      rw [← hF] at x1 en1 HC1
      rw [← hCA] at x1 HC1
      clear hF hCA
      go_wp2_with fail
      refine Calls.mono HC1.out ?_
      rintro r W1 ⟨m, o, rfl, hm, hif⟩
      clear HC1 x1 en1
      have e3 : (((5 - j : Nat) : Int) == 0) = false := by simp; omega
      cases o with
      | false =>
        have HF : Hid (FW w0 rb vb B W1) := (by rw [if_neg (by decide)] at hif; exact hif)
        clear hif en2
        go_wp2_with fail
        refine TailR.wp_region_seq 14 (by kernel_rfl) (by kernel_rfl) ?_
        simp only [List.take_succ_cons, List.take_zero, List.drop_succ_cons, List.drop_zero]
        repeat (go_big_quiet_step (fail))
        refine wpQuiet_nil ?_
        intro _ hw'
        obtain ⟨nq, hw''⟩ := hw'
        subst hw''
        go_wp2
        rw [HPo.out]
        exact wh_fault HF.out nq
      | true =>
        have HJ : Hid (JW w0 rb vb B pb j m 0 W1) := (by rw [if_pos rfl] at hif; exact hif)
        clear hif
        obtain ⟨wo, hwo⟩ : ∃ wo : World, wo = wr := ⟨_, rfl⟩
        obtain ⟨G, hG⟩ : ∃ F, F = fo j := ⟨_, rfl⟩
        have HG : Hid (∀ m i W, i < m → JW w0 rb vb B pb j m i W → W.cell? ⟨pb + 1, 2 * j + 1, none⟩ = some (.func (.func G) #[.pointer (some ⟨rb, 0, none⟩)] #[]) ∧ Calls Tryz.prog G #[.pointer (some ⟨rb, 0, none⟩)] W (CoP w0 rb vb B pb j m i)) := fun m i W hi hJ => by
          rw [hG]
          obtain ⟨p, ps, cs, zs, a, b, c, d, C, vp, vc, vz, q⟩ := jw_rd j hJ
          exact ⟨by simp only [World.cell?, q.2.2.2.2.2.2.2]; exact (pt_cells rb pb j hj).2, HCO.out j m i W hj hi hJ⟩
        rw [← hG] at en2
        clear hG hwo
        go_wp2_with fail
        go_loopw [22] (fun s22 W => ∃ i : Nat, i ≤ m ∧ s22 = .int .i64 i ∧ JW w0 rb vb B pb j m i W) (fun s22 _ => m - (intOf s22).toNat)
        case atStart => exact ⟨0, Nat.zero_le _, rfl, HJ.out⟩
        case round =>
          obtain ⟨i, him, rfl, hJi⟩ := hrel
          clear HJ
          by_cases hi : i < m
          · have e4 : (i : Int) < (m : Int) := by omega
            have e5 : IntKind.i64.wrap ((i : Int) + 1) = ((i + 1 : Nat) : Int) := by rw [IntKind.wrap_i64]; omega
            obtain ⟨x2, hc⟩ := HG.out m i wr hi hJi
            have HC2 : Hid (Calls Tryz.prog G #[.pointer (some ⟨rb, 0, none⟩)] wr (CoP w0 rb vb B pb j m i)) := hc
            clear hc hJi
            go_wp2_with fail
            refine Calls.mono HC2.out ?_
            rintro r W2 ⟨o, rfl, hif⟩
            clear HC2 x2
            cases o with
            | false =>
              have HF : Hid (FW w0 rb vb B W2) := (by rw [if_neg (by decide)] at hif; exact hif)
              clear hif
              go_wp2_with fail
              refine TailR.wp_region_seq 14 (by kernel_rfl) (by kernel_rfl) ?_
              simp only [List.take_succ_cons, List.take_zero, List.drop_succ_cons, List.drop_zero]
              repeat (go_big_quiet_step (fail))
              refine wpQuiet_nil ?_
              intro _ hw'
              obtain ⟨nq, hw''⟩ := hw'
              subst hw''
              go_wp2
              rw [HPo.out]
              exact wh_fault HF.out nq
            | true =>
              have HJ2 : Hid (JW w0 rb vb B pb j m (i + 1) W2) := (by rw [if_pos rfl] at hif; exact hif)
              clear hif
              go_wp2_with fail
              go_roundw
              case rel => exact ⟨i + 1, hi, by go_num, HJ2.out⟩
              case measure => simp [intOf]; omega
          · obtain rfl : i = m := by omega
            have HN : Hid (IW w0 rb vb B pb (j + 1) wr) := jw_next j hJi
            clear hJi
            have e6 : 1 ≤ 5 - j := by omega
            go_wp2_with fail
            go_roundw
            case rel => exact ⟨j + 1, _, by omega, by rw [show 5 - (j + 1) = 5 - j - 1 by omega], fun h5 => by rw [if_neg (by omega), show 2 * (j + 1) = 2 * j + 2 by omega], HN.out⟩
            case measure => simp [lenS]; omega
    · clear had
      obtain rfl : j = 5 := by omega
      obtain ⟨p, s, hR, hr⟩ := hI
      obtain ⟨C, q⟩ := hR.rd
      obtain ⟨ba, bn, bc, hvb⟩ : ∃ a n c, vb = Value.slice a n c := by
        obtain ⟨-, a, cap, hv, -⟩ := q.bl
        exact ⟨_, _, _, hv⟩
      have hbn : bn = B.length := by
        obtain ⟨-, a, cap, hv, -⟩ := q.bl
        rw [hvb] at hv
        cases hv
        rfl
      subst hvb
      subst hbn
      have x1 : wr.cell? ⟨rb, 0, none⟩ = some (.slice ba B.length bc) := by simp only [World.cell?, q.hp]; exact q.v0
      have x2 : wr.cell? ⟨rb, 1, none⟩ = some (.int .i64 p) := by simp only [World.cell?, q.hp]; exact q.v1
      have HR : Hid (RW w0 rb (.slice ba B.length bc) B pb p s.ps s.cs s.zs s.turn s.whose s.fin s.winner wr ∧ rdS B = .ok (s, B.drop p)) := ⟨hR, hr⟩
      clear hR hr q HCM HCO
      by_cases hp : p = B.length
      · subst hp
        have e1 : ((B.length : Int) == (B.length : Int)) = true := by simp
        go_wp2_with fail
        refine TailR.wp_region_seq 14 (by kernel_rfl) (by kernel_rfl) ?_
        simp only [List.take_succ_cons, List.take_zero, List.drop_succ_cons, List.drop_zero]
        repeat (go_big_quiet_step (fail))
        refine wpQuiet_nil ?_
        intro _ hw'
        obtain ⟨nq, hw''⟩ := hw'
        subst hw''
        go_wp2
        rw [HPo.out]
        exact wh_end HR.out.1 HR.out.2 nq
      · have e1 : ((p : Int) == (B.length : Int)) = false := by simp; omega
        go_wp2_with fail
        refine TailR.wp_region_seq 14 (by kernel_rfl) (by kernel_rfl) ?_
        simp only [List.take_succ_cons, List.take_zero, List.drop_succ_cons, List.drop_zero]
        repeat (go_big_quiet_step (fail))
        refine wpQuiet_nil ?_
        intro _ hw'
        obtain ⟨nq, hw''⟩ := hw'
        subst hw''
        go_wp2
        rw [HPo.out]
        exact wh_more HR.out.1 HR.out.2 hp nq
end IM
end Go.Proofs.YtmpamcdobhiipaaGreatDoor
