/-
  The document's reader: a whole state.
-/
import Derived.Test.YtmpamcdobhiipaaGreatDoorRsr7Q
import Derived.Deep.Cut
import Derived.Handy
namespace Go.Proofs.YtmpamcdobhiipaaGreatDoor
open Go.RowKit
attribute [local go_sem ↓] Go.wp_at_zero Go.wp_at_succ

namespace IM
open Go.Proofs.YtmpamcdobhiipaaGreatDoor.ST
set_option maxRecDepth 100000 in
set_option maxHeartbeats 16000000 in
theorem rstate_ (w0 : World) (rb : Nat) (vb : Value) (B : List Int) (w : World) (h : RX w0 rb vb B 0 false w) :
    Calls Tryz.prog 18 #[.pointer (some ⟨rb, 0, none⟩)] w (RsQ w0 rb vb B w) := by
  obtain ⟨Post, hPost⟩ : ∃ P : Ending → World → Prop, P = RsQ w0 rb vb B w := ⟨_, rfl⟩
  rw [← hPost]
  have HPo : Hid (Post = RsQ w0 rb vb B w) := hPost
  clear hPost
  obtain ⟨iP, hiP, a0, a1, a2⟩ := info_parts infoPly
  obtain ⟨iC, hiC, b0, b1, b2⟩ := info_parts infoCrd
  obtain ⟨iI, hiI, c0, c1, c2⟩ := info_parts infoInt
  obtain ⟨iR, hiR, d0, d1, d2⟩ := info_parts infoRow
  have HBY : Hid (Byt B) := h.byt
  have HRL : Hid (rb < w.heap.size ∧ w0.heap.size ≤ w.heap.size) := ⟨(Array.getElem?_eq_some_iff.1 h.hp).1, h.up.size⟩
  obtain ⟨sb, hsb⟩ : ∃ sb, sb = w.heap.size + 1 := ⟨_, rfl⟩
  obtain ⟨W0, hW0⟩ : ∃ W0, (w.alloc (.cells zA 30)).alloc (.cells zA 30) = W0 := ⟨_, rfl⟩
  have u0 : Up w W0 := by rw [← hW0]; exact ((Up.refl _).alloc _).alloc _
  have hq0 : SQ w rb sb [] [] [] (.int .i32 0) (.int .i64 0) (.int .i8 0) (.int .i64 0) W0 := by
    refine ⟨.slice none 0 0, .slice none 0 0, .slice none 0 0, ?_, World.ownsRow_nil _ _ _ _, World.ownsRow_nil _ _ _ _, ⟨[], rfl, World.ownsRow_nil _ _ _ _, fun i hi => absurd hi (Nat.not_lt_zero i), RA.nil _⟩, ?_, Kb.of_up u0⟩
    · have := heap_alloc_new (w.alloc (.cells zA 30)) (.cells zA 30)
      rw [← hW0, hsb]
      have h9 : ((w.alloc (.cells zA 30)).alloc (.cells zA 30)).heap[w.heap.size + 1]? = some (.cells zA 30 (0, 0)) := by simpa using this
      exact h9
    · rw [← hW0, Below.heap_alloc _ _ _ (by simp)]
      exact heap_alloc_new _ _
  have HHD : Hid (Calls Tryz.prog 51 #[.pointer (some ⟨rb, 0, none⟩)] W0 fun x w' => x = .returned (.tuple #[]) ∧ HdI w0 rb vb B 5 w' ∧ Kb (fun x => x = rb) W0 w') := rheadR_ w0 rb vb B W0 (h.kb u0)
  have HQ0 : Hid (SQ w rb sb [] [] [] (.int .i32 0) (.int .i64 0) (.int .i8 0) (.int .i64 0) W0 ∧ RX w0 rb vb B 0 false W0) := ⟨hq0, h.kb u0⟩
  have HSB : Hid (sb = w.heap.size + 1) := hsb
  have hsz : w.heap.size ≤ W0.heap.size := u0.size
  unfold zA at hW0
  clear h hq0 u0 hsb
  go_enter Tryz.func18, Tryz.ntmps18
  go_wp2_with fail
  first | (refine calls_world hW0 (Calls.mono HHD.out ?_)) | (refine Calls.mono HHD.out ?_)
  rintro r U0 ⟨rfl, ⟨p0, bd0, hr, hb⟩, hk⟩
  have HX : Hid (RX w0 rb vb B p0 bd0 U0 ∧ SQ w rb sb [] [] [] (.int .i32 0) (.int .i64 0) (.int .i8 0) (.int .i64 0) U0 ∧ Sx B p0 bd0 k2) := ⟨hr, HQ0.out.1.kb hk HQ0.out.2.hp, by
    unfold Sx
    cases bd0 with
    | true => exact hb
    | false =>
      rw [if_neg (by decide)] at hb ⊢
      obtain ⟨rfl, hb⟩ := hb
      rw [hb]
      rfl⟩
  have hsz : w.heap.size ≤ U0.heap.size := Nat.le_trans hsz hk.2
  clear hr hb hk hW0 HHD HQ0
  try go_end0
  go_wp2_with fail
  rw [← HSB.out]
  unfold k2 at HX
  refine Calls.mono (rnumber_ w0 rb vb B p0 bd0 1 U0 HX.out.1 (by decide)) ?_
  rintro r U1 ⟨rfl, hr, hk⟩
  have hq := HX.out.2.1.kb hk HX.out.1.hp
  have hs := sx1 HX.out.2.2
  have hy1 := nv1_in HBY.out p0 bd0
  have hsz : w.heap.size ≤ U1.heap.size := Nat.le_trans hsz hk.2
  generalize na B p0 bd0 1 = p1 at hr hs
  generalize nb B p0 bd0 1 = bd1 at hr hs
  generalize nv B p0 bd0 1 = y1 at *
  have HX : Hid (RX w0 rb vb B p1 bd1 U1 ∧ SQ w rb sb [] [] [] (.int .i32 0) (.int .i64 0) (.int .i8 0) (.int .i64 0) U1 ∧ Sx B p1 bd1 _) := ⟨hr, hq, hs⟩
  clear hr hq hs hk
  obtain ⟨N, hN⟩ : ∃ N : Nat, y1 = (N : Int) := ⟨(y1).toNat, by omega⟩
  subst hN
  rw [Int.toNat_natCast] at HX
  have hN : N < 256 := by omega
  clear hy1
  have hsz0 := hsz
  clear hsz
  go_wp2_with fail
  go_loopw [5] (fun s5 W => ∃ (i p : Nat) (bad : Bool) (ps : List Ply), i ≤ N ∧ s5 = .int .i64 i ∧ ps.length = i ∧ w.heap.size ≤ W.heap.size ∧ RX w0 rb vb B p bad W ∧ SQ w rb sb ps [] [] (.int .i32 0) (.int .i64 0) (.int .i8 0) (.int .i64 0) W ∧ Sx B p bad (bnd (rep rdP (N - i)) fun qs => k3 N (ps ++ qs))) (fun s5 _ => N - (intOf s5).toNat)
  case atStart => exact ⟨0, p1, bd1, [], Nat.zero_le _, rfl, rfl, hsz0, HX.out⟩
  case round =>
    obtain ⟨i, q0, bq0, ps, hi, rfl, hpl, hsz, h1, h2, h3⟩ := hrel
    clear HX hsz0
    have HX : Hid (RX w0 rb vb B q0 bq0 wr ∧ SQ w rb sb ps [] [] (.int .i32 0) (.int .i64 0) (.int .i8 0) (.int .i64 0) wr ∧ Sx B q0 bq0 (bnd (rep rdP (N - i)) fun qs => k3 N (ps ++ qs))) := ⟨h1, h2, h3⟩
    have x2 := h1.cells.2.2.1
    clear h1 h2 h3
    by_cases hgo : i < N ∧ bq0 = false
    · obtain ⟨hlt, rfl⟩ := hgo
      have hlt2 : (i : Int) < (N : Int) := by omega
      have ei : IntKind.i64.wrap ((i : Int) + 1) = ((i + 1 : Nat) : Int) := by rw [IntKind.wrap_i64]; omega
      obtain ⟨m, hm⟩ : ∃ m, N - i = m + 1 := ⟨N - i - 1, by omega⟩
      have HM : Hid (m = N - (i + 1)) := by unfold Hid; omega
      rw [hm, rdP_more] at HX
      clear hm
      go_wp2_with fail
      refine Calls.mono (rnumber_ w0 rb vb B q0 false 4 wr HX.out.1 (by decide)) ?_
      rintro r U2 ⟨rfl, hr, hk⟩
      have hq := HX.out.2.1.kb hk HX.out.1.hp
      have hs := sx4 HX.out.2.2
      have hy2 := nv4_in HBY.out q0 false
      have hsz : w.heap.size ≤ U2.heap.size := Nat.le_trans hsz hk.2
      generalize na B q0 false 4 = p2 at hr hs
      generalize nb B q0 false 4 = bd2 at hr hs
      generalize nv B q0 false 4 = y2 at *
      have HX : Hid (RX w0 rb vb B p2 bd2 U2 ∧ SQ w rb sb ps [] [] (.int .i32 0) (.int .i64 0) (.int .i8 0) (.int .i64 0) U2 ∧ Sx B p2 bd2 _) := ⟨hr, hq, hs⟩
      clear hr hq hs hk
      have cv2 := w32_sg hy2
      have cw2 := (w32e y2).symm.trans cv2
      obtain ⟨s2, hs2⟩ : ∃ z, z = sg y2 := ⟨_, rfl⟩
      rw [← hs2] at cv2 cw2 HX
      clear hs2
      clear x2
      obtain ⟨pk, hpk⟩ : ∃ n, n = U2.heap.size := ⟨_, rfl⟩
      have HQ : Hid (SQ w rb sb ps [] [] (.int .i32 0) (.int .i64 0) (.int .i8 0) (.int .i64 0) U2 ∧ pk = U2.heap.size ∧ w.heap.size ≤ U2.heap.size ∧ RX w0 rb vb B p2 bd2 U2) := ⟨HX.out.2.1, hpk, hsz, HX.out.1⟩
      have hpw : w.heap.size ≤ pk := by omega
      obtain ⟨VP, hVP⟩ : ∃ V, U2.alloc (.cells #[.int .i32 s2, .int .i32 0, .bool false] 95) = V := ⟨_, rfl⟩
      have gP : VP.heap[pk]? = some (.cells #[.int .i32 s2, .int .i32 0, .bool false] 95 (0, 0)) := by rw [← hVP, hpk]; exact heap_alloc_new _ _
      have uP : Up U2 VP := by rw [← hVP]; exact (Up.refl _).alloc _
      have HX : Hid (RX w0 rb vb B p2 bd2 VP ∧ Kb (fun x => x = rb ∨ pk ≤ x) U2 VP ∧ Sx B p2 bd2 _) := ⟨HX.out.1.kb uP, Kb.of_up uP, HX.out.2.2⟩
      have hsz : w.heap.size ≤ VP.heap.size := Nat.le_trans hsz uP.size
      have HVP : Hid (_ = VP) := hVP
      have HPK : Hid (pk = U2.heap.size) := hpk
      clear uP hVP hpk
      go_wp2_with fail
      rw [← HPK.out]
      refine calls_world HVP.out ?_
      refine Calls.mono (rnumber_ w0 rb vb B p2 bd2 4 VP HX.out.1 (by decide)) ?_
      rintro r U3 ⟨rfl, hr, hk⟩
      have gP : U3.heap[pk]? = some (.cells #[.int .i32 s2, .int .i32 0, .bool false] 95 (0, 0)) := hk.1 _ _ gP (by have := HRL.out; omega)
      have hq := HX.out.2.1.trans (hk.more (fun _ h => .inl h))
      have hs := sx4 HX.out.2.2
      have hy3 := nv4_in HBY.out p2 bd2
      have hsz : w.heap.size ≤ U3.heap.size := Nat.le_trans hsz hk.2
      generalize na B p2 bd2 4 = p3 at hr hs
      generalize nb B p2 bd2 4 = bd3 at hr hs
      generalize nv B p2 bd2 4 = y3 at *
      have HX : Hid (RX w0 rb vb B p3 bd3 U3 ∧ Kb (fun x => x = rb ∨ pk ≤ x) U2 U3 ∧ Sx B p3 bd3 _) := ⟨hr, hq, hs⟩
      clear hr hq hs hk
      have cv3 := w32_sg hy3
      have cw3 := (w32e y3).symm.trans cv3
      obtain ⟨s3, hs3⟩ : ∃ z, z = sg y3 := ⟨_, rfl⟩
      rw [← hs3] at cv3 cw3 HX
      clear hs3
      clear HVP
      obtain ⟨S4, hS4⟩ : ∃ V, U3.setCell ⟨pk, 1, none⟩ (.int .i32 s3) = V := ⟨_, rfl⟩
      have hx4 : U3.cell? ⟨pk, 1, none⟩ = some (.int .i32 0) := by simp only [World.cell?, gP]; rfl
      have hf4 := seven_f gP 1
      have gP : S4.heap[pk]? = some (.cells #[.int .i32 s2, .int .i32 s3, .bool false] 95 (0, 0)) := by rw [← hS4, set_cells gP]; simp
      have HX : Hid (RX w0 rb vb B p3 bd3 S4 ∧ Kb (fun x => x = rb ∨ pk ≤ x) U2 S4 ∧ Sx B p3 bd3 _) := ⟨by rw [← hS4]; exact HX.out.1.other _ _ _ (by have := HRL.out; omega) (by have := HRL.out; omega), by rw [← hS4]; exact HX.out.2.1.trans (Kb.set (w := U3) 0 (.inr (Nat.le_refl _))), HX.out.2.2⟩
      have hsz : w.heap.size ≤ S4.heap.size := by rw [← hS4]; simpa [World.setCell] using hsz
      have HS4 : Hid (_ = S4) := hS4
      clear hS4
      go_wp2_with fail
      refine calls_world HS4.out ?_
      refine Calls.mono (rout_ w0 rb vb B p3 bd3 S4 HX.out.1) ?_
      rintro r U5 ⟨rfl, hr, hk⟩
      have gP : U5.heap[pk]? = some (.cells #[.int .i32 s2, .int .i32 s3, .bool false] 95 (0, 0)) := hk.1 _ _ gP (by have := HRL.out; omega)
      have hq := HX.out.2.1.trans (hk.more (fun _ h => .inl h))
      have hs := sxf HX.out.1.at_le HX.out.2.2
      have hsz : w.heap.size ≤ U5.heap.size := Nat.le_trans hsz hk.2
      generalize na B p3 (ob B p3 bd3) 1 = p5 at hr hs
      generalize nb B p3 (ob B p3 bd3) 1 = bd5 at hr hs
      obtain ⟨y5, hyy⟩ : ∃ y : Bool, y = (nv B p3 (ob B p3 bd3) 1 == 1) := ⟨_, rfl⟩
      rw [← hyy] at hs ⊢
      clear hyy
      have HX : Hid (RX w0 rb vb B p5 bd5 U5 ∧ Kb (fun x => x = rb ∨ pk ≤ x) U2 U5 ∧ Sx B p5 bd5 _) := ⟨hr, hq, hs⟩
      clear hr hq hs hk
      clear HS4 hx4 hf4
      obtain ⟨S6, hS6⟩ : ∃ V, U5.setCell ⟨pk, 2, none⟩ (.bool y5) = V := ⟨_, rfl⟩
      have hx6 : U5.cell? ⟨pk, 2, none⟩ = some (.bool false) := by simp only [World.cell?, gP]; rfl
      have hf6 := seven_f gP 2
      have gP : S6.heap[pk]? = some (.cells #[.int .i32 s2, .int .i32 s3, .bool y5] 95 (0, 0)) := by rw [← hS6, set_cells gP]; simp
      have HX : Hid (RX w0 rb vb B p5 bd5 S6 ∧ Kb (fun x => x = rb ∨ pk ≤ x) U2 S6 ∧ Sx B p5 bd5 _) := ⟨by rw [← hS6]; exact HX.out.1.other _ _ _ (by have := HRL.out; omega) (by have := HRL.out; omega), by rw [← hS6]; exact HX.out.2.1.trans (Kb.set (w := U5) 0 (.inr (Nat.le_refl _))), HX.out.2.2⟩
      have hsz : w.heap.size ≤ S6.heap.size := by rw [← hS6]; simpa [World.setCell] using hsz
      have HS6 : Hid (_ = S6) := hS6
      clear hS6
      obtain ⟨vp, vc, vz, g1, g2, g3, g4, g5, g6⟩ := HQ.out.1.kb2 HQ.out.2.1 HX.out.2.1 HQ.out.2.2.2.hp HQ.out.2.2.1
      obtain ⟨ja, jc, hvp⟩ := row_val g2
      rw [hpl] at hvp
      subst hvp
      have xs0 : S6.cell? ⟨sb, 0, none⟩ = some (.slice ja i jc) := by simp only [World.cell?, g1]; rfl
      obtain ⟨w5a, w5b, w5c⟩ : S6.cell? ⟨pk, 0, none⟩ = some (.int .i32 s2) ∧ S6.cell? ⟨pk, 1, none⟩ = some (.int .i32 s3) ∧ S6.cell? ⟨pk, 2, none⟩ = some (.bool y5) := by simp only [World.cell?, gP]; exact ⟨rfl, rfl, rfl⟩
      have HV : Hid ((S6.alloc (.cells #[.int .i32 s2, .int .i32 s3, .bool y5] 95)).ownsRow w.heap.size 95 3 (.slice ja i jc) i (pvs ps)) := by have h9 := World.ownsRow.alloc g2 (.cells #[.int .i32 s2, .int .i32 s3, .bool y5] 95); rw [hpl] at h9; exact h9
      have HMW : Hid (∀ j u, [Value.int .i32 s2, .int .i32 s3, .bool y5][j]? = some u → (S6.alloc (.cells #[.int .i32 s2, .int .i32 s3, .bool y5] 95)).cell? ((⟨S6.heap.size, 0, none⟩ : Addr).add j) = some u) := World.news_of_block (cs := #[.int .i32 s2, .int .i32 s3, .bool y5]) (t := 95) (fr := (0, 0)) (heap_alloc_new S6 _)
      have HSZ : Hid (w.heap.size ≤ (S6.alloc (.cells #[.int .i32 s2, .int .i32 s3, .bool y5] 95)).heap.size) := by unfold Hid; simp; omega
      have HF : Hid (∀ v' V, V.ownsRow w.heap.size 95 3 v' (i + 1) (pvs ps ++ [Value.int .i32 s2, .int .i32 s3, .bool y5]) → (S6.alloc (.cells #[.int .i32 s2, .int .i32 s3, .bool y5] 95)).grownBy V (Value.slice ja i jc).ownBlock → (SQ w rb sb (ps ++ [⟨s2, s3, y5⟩]) [] [] (.int .i32 0) (.int .i64 0) (.int .i8 0) (.int .i64 0) (V.setCell ⟨sb, 0, none⟩ v') ∧ RX w0 rb vb B p5 bd5 (V.setCell ⟨sb, 0, none⟩ v') ∧ w.heap.size ≤ (V.setCell ⟨sb, 0, none⟩ v').heap.size) ∧ V.cell? ⟨sb, 0, none⟩ = some (.slice ja i jc) ∧ V.frozen? ⟨sb, 0, none⟩ = false) := fun v' V n1 n2 => by
        have n3 : V.ownsRow w.heap.size 95 3 v' (ps.length + 1) (pvs (ps ++ [⟨s2, s3, y5⟩])) := by rw [hpl, show pvs (ps ++ [⟨s2, s3, y5⟩]) = pvs ps ++ [Value.int .i32 s2, .int .i32 s3, .bool y5] by simp [pvs, pv]]; exact n1
        obtain ⟨o1, o2, o3⟩ := SQ.appP (vb := vb) (B := B) HSB.out HRL.out.2 HRL.out.1 g1 g2 g3 g4 g5 g6 n2 n3
        exact ⟨⟨o1, o3 _ _ HX.out.1, o1.kbsz⟩, o2⟩
      have HSX : Hid (Sx B p5 bd5 (bnd (rep rdP (N - (i + 1))) fun qs => k3 N (ps ++ [⟨s2, s3, y5⟩] ++ qs))) := by
        unfold Hid
        rw [← HM.out]
        simpa only [List.append_assoc, List.cons_append, List.nil_append] using HX.out.2.2
      clear g1 g2 g3 g4 g5 g6 gP
      go_upto_region 10 with fail
      rw [HS6.out]
      clear HS6 hx6 hf6
      go_wp2_with (at_builtin; go_loud (refine wpList_append_own _ (by rfl) (.tmp 42) (.tmp 44) 25 (by rfl) w.heap.size 95 iP _ 3 12 Tryz.underlying25 hiP a0 a1 a2 (by rfl) (by decide) (.slice ja i jc) i (pvs ps) (by rfl) HV.out ⟨S6.heap.size, 0, none⟩ 1 1 [Value.int .i32 s2, .int .i32 s3, .bool y5] (by rfl) (by rfl) HMW.out (by simp [Value.oneCell']) (by unfold maxLen; omega) (by omega) HSZ.out ?_; intro v' V hin hg1 _; obtain ⟨o9, z1, z2⟩ := HF.out v' V hin hg1; have HG : Hid (SQ w rb sb (ps ++ [⟨s2, s3, y5⟩]) [] [] (.int .i32 0) (.int .i64 0) (.int .i8 0) (.int .i64 0) (V.setCell ⟨sb, 0, none⟩ v') ∧ RX w0 rb vb B p5 bd5 (V.setCell ⟨sb, 0, none⟩ v') ∧ w.heap.size ≤ (V.setCell ⟨sb, 0, none⟩ v').heap.size) := o9; obtain ⟨fa, fc, hva⟩ : ∃ a c, v' = Value.slice a (i + 1) c := row_val hin; subst hva; clear hin hg1 o9))
      go_roundw
      case rel =>
        have r1 := HG.out.1
        have r2 := HG.out.2.1
        have r3 := HG.out.2.2
        have r4 := HSX.out
        refine ⟨i + 1, p5, bd5, ps ++ [⟨s2, s3, y5⟩], by omega, by go_num, by rw [List.length_append, hpl]; rfl, ?_, ?_, ?_, ?_⟩
        · exact r3
        · exact r2
        · exact r1
        · exact r4
      case measure => simp [intOf]; omega
    · by_cases hlt : i < N
      · obtain rfl : bq0 = true := by
          cases bq0 with
          | true => rfl
          | false => exact absurd ⟨hlt, rfl⟩ hgo
        have hlt2 : (i : Int) < (N : Int) := by omega
        clear hgo
        go_wp2_with fail
        refine Calls.mono (rnumber_ w0 rb vb B q0 true 2 wr HX.out.1 (by decide)) ?_
        rintro r U7 ⟨rfl, hr, hk⟩
        rw [na_bad, nb_bad] at hr
        rw [nv_bad]
        have hsz : w.heap.size ≤ U7.heap.size := Nat.le_trans hsz hk.2
        have HX : Hid (RX w0 rb vb B q0 true U7 ∧ SQ w rb sb ps [] [] (.int .i32 0) (.int .i64 0) (.int .i8 0) (.int .i64 0) U7 ∧ Sx B q0 true _) := ⟨hr, HX.out.2.1.kb hk HX.out.1.hp, HX.out.2.2⟩
        have x2 := hr.cells.2.2.1
        clear hr hk
        go_wp2_with fail
        refine wp_loop_rounds 1 ?_
        rw [rounds_succ]
        have e4n : IntKind.i64.wrap (4 * (N : Int)) = ((4 * N : Nat) : Int) := by rw [IntKind.wrap_i64]; omega
        have e4p : (0 : Int) < ((4 * N : Nat) : Int) := by omega
        go_wp2_with fail
        refine wp_loop_rounds 1 ?_
        rw [rounds_succ]
        have HX : Hid (RX w0 rb vb B q0 true U7 ∧ SQ w rb sb ps [] [] (.int .i32 0) (.int .i64 0) (.int .i8 0) (.int .i64 0) U7 ∧ Sx B q0 true (rdT ps [] [])) := ⟨HX.out.1, HX.out.2.1, HX.out.2.2.as (fun h => by cases h)⟩
        go_upto_region 32 with fail
        exact rrest_ w0 rb vb B w Post HPo HBY HRL sb HSB U7 q0 true ps [] [] HX hsz _ _ _ _ _ _ _ _ _ _ _ _ _ _ _ _ _ _ _ _ _ _ _ _ _ _ _ _ _ _ _ _ _ _ _ _ _ _ _ _ _ _ _ _ _ _ _ _ _ _ _ _ _ _ _ _ _ _ _ _ _ _ _ _ _ _ _ _ _ _ _ _ _ _ _ _ _ _ _ _ _ _ _ _ _ _ _ _ _ _ _ _ _ _ _ _ _ _ _ _ _ _ _ _ _ _ _ _ _ _ _ _ _ _ _ _ _ _ _ _ _ _ _ _ _ _ _ _ _ _ _ _ _ _ _ _ _ _ _ _ _ _ _ _ _ _ _ _ _ _ _ _ _ _ _ _ _ _ _ _ (by assumption)
      · have hlt2 : ¬ (i : Int) < (N : Int) := by omega
        obtain rfl : i = N := by omega
        have HX : Hid (RX w0 rb vb B q0 bq0 wr ∧ SQ w rb sb ps [] [] (.int .i32 0) (.int .i64 0) (.int .i8 0) (.int .i64 0) wr ∧ Sx B q0 bq0 (k3 i ps)) := ⟨HX.out.1, HX.out.2.1, HX.out.2.2.as (fun _ => by rw [Nat.sub_self, rep0, List.append_nil])⟩
        unfold k3 at HX
        clear hgo hlt
        go_wp2_with fail
        clear x2
        refine Calls.mono (rnumber_ w0 rb vb B q0 bq0 2 wr HX.out.1 (by decide)) ?_
        rintro r U8 ⟨rfl, hr, hk⟩
        have hq := HX.out.2.1.kb hk HX.out.1.hp
        have hs := sx2 HX.out.2.2
        have hy8 := nv2_in HBY.out q0 bq0
        have hsz : w.heap.size ≤ U8.heap.size := Nat.le_trans hsz hk.2
        generalize na B q0 bq0 2 = p8 at hr hs
        generalize nb B q0 bq0 2 = bd8 at hr hs
        generalize nv B q0 bq0 2 = y8 at *
        have HX : Hid (RX w0 rb vb B p8 bd8 U8 ∧ SQ w rb sb ps [] [] (.int .i32 0) (.int .i64 0) (.int .i8 0) (.int .i64 0) U8 ∧ Sx B p8 bd8 _) := ⟨hr, hq, hs⟩
        clear hr hq hs hk
        obtain ⟨M, hM⟩ : ∃ M : Nat, y8 = (M : Int) := ⟨(y8).toNat, by omega⟩
        subst hM
        rw [Int.toNat_natCast] at HX
        have hM : M < 65536 := by omega
        clear hy8
        have hsz0 := hsz
        clear hsz hi
        obtain ⟨N, hNi⟩ : ∃ N, N = i := ⟨_, rfl⟩
        subst hNi
        go_wp2_with fail
        go_loopw [8] (fun s8 W => ∃ (j p : Nat) (bad : Bool) (cs : List Crd), j ≤ M ∧ s8 = .int .i64 j ∧ cs.length = j ∧ w.heap.size ≤ W.heap.size ∧ RX w0 rb vb B p bad W ∧ SQ w rb sb ps cs [] (.int .i32 0) (.int .i64 0) (.int .i8 0) (.int .i64 0) W ∧ Sx B p bad (bnd (rep rdC (M - j)) fun qs => k4 N ps (cs ++ qs))) (fun s8 _ => M - (intOf s8).toNat)
        case atStart => exact ⟨0, p8, bd8, [], Nat.zero_le _, rfl, rfl, hsz0, HX.out⟩
        case round =>
          obtain ⟨j, q0, bq0, cs, hj, rfl, hcl, hsz, h1, h2, h3⟩ := hrel
          clear HX hsz0
          have HX : Hid (RX w0 rb vb B q0 bq0 wr ∧ SQ w rb sb ps cs [] (.int .i32 0) (.int .i64 0) (.int .i8 0) (.int .i64 0) wr ∧ Sx B q0 bq0 (bnd (rep rdC (M - j)) fun qs => k4 N ps (cs ++ qs))) := ⟨h1, h2, h3⟩
          have x2 := h1.cells.2.2.1
          clear h1 h2 h3
          by_cases hgo : j < M ∧ bq0 = false
          · obtain ⟨hlt, rfl⟩ := hgo
            have hlt3 : (j : Int) < (M : Int) := by omega
            have ei : IntKind.i64.wrap ((j : Int) + 1) = ((j + 1 : Nat) : Int) := by rw [IntKind.wrap_i64]; omega
            obtain ⟨m, hm⟩ : ∃ m, M - j = m + 1 := ⟨M - j - 1, by omega⟩
            have HM : Hid (m = M - (j + 1)) := by unfold Hid; omega
            rw [hm, rdC_more] at HX
            clear hm
            go_wp2_with fail
            refine Calls.mono (rnumber_ w0 rb vb B q0 false 2 wr HX.out.1 (by decide)) ?_
            rintro r U9 ⟨rfl, hr, hk⟩
            have hq := HX.out.2.1.kb hk HX.out.1.hp
            have hs := sx2 HX.out.2.2
            have hy9 := nv2_in HBY.out q0 false
            have hsz : w.heap.size ≤ U9.heap.size := Nat.le_trans hsz hk.2
            generalize na B q0 false 2 = p9 at hr hs
            generalize nb B q0 false 2 = bd9 at hr hs
            generalize nv B q0 false 2 = y9 at *
            have HX : Hid (RX w0 rb vb B p9 bd9 U9 ∧ SQ w rb sb ps cs [] (.int .i32 0) (.int .i64 0) (.int .i8 0) (.int .i64 0) U9 ∧ Sx B p9 bd9 _) := ⟨hr, hq, hs⟩
            clear hr hq hs hk
            clear x2
            obtain ⟨pk, hpk⟩ : ∃ n, n = U9.heap.size := ⟨_, rfl⟩
            have HQ : Hid (SQ w rb sb ps cs [] (.int .i32 0) (.int .i64 0) (.int .i8 0) (.int .i64 0) U9 ∧ pk = U9.heap.size ∧ w.heap.size ≤ U9.heap.size ∧ RX w0 rb vb B p9 bd9 U9) := ⟨HX.out.2.1, hpk, hsz, HX.out.1⟩
            have hpw : w.heap.size ≤ pk := by omega
            obtain ⟨VP, hVP⟩ : ∃ V, U9.alloc (.cells #[.int .i64 y9, .int .i64 0, .int .i32 0, .int .i32 0, .int .i32 0, .int .i32 0] 83) = V := ⟨_, rfl⟩
            have gP : VP.heap[pk]? = some (.cells #[.int .i64 y9, .int .i64 0, .int .i32 0, .int .i32 0, .int .i32 0, .int .i32 0] 83 (0, 0)) := by rw [← hVP, hpk]; exact heap_alloc_new _ _
            have uP : Up U9 VP := by rw [← hVP]; exact (Up.refl _).alloc _
            have HX : Hid (RX w0 rb vb B p9 bd9 VP ∧ Kb (fun x => x = rb ∨ pk ≤ x) U9 VP ∧ Sx B p9 bd9 _) := ⟨HX.out.1.kb uP, Kb.of_up uP, HX.out.2.2⟩
            have hsz : w.heap.size ≤ VP.heap.size := Nat.le_trans hsz uP.size
            have HVP : Hid (_ = VP) := hVP
            have HPK : Hid (pk = U9.heap.size) := hpk
            clear uP hVP hpk
            go_wp2_with fail
            rw [← HPK.out]
            refine calls_world HVP.out ?_
            refine Calls.mono (rnumber_ w0 rb vb B p9 bd9 1 VP HX.out.1 (by decide)) ?_
            rintro r U10 ⟨rfl, hr, hk⟩
            have gP : U10.heap[pk]? = some (.cells #[.int .i64 y9, .int .i64 0, .int .i32 0, .int .i32 0, .int .i32 0, .int .i32 0] 83 (0, 0)) := hk.1 _ _ gP (by have := HRL.out; omega)
            have hq := HX.out.2.1.trans (hk.more (fun _ h => .inl h))
            have hs := sx1 HX.out.2.2
            have hy10 := nv1_in HBY.out p9 bd9
            have hsz : w.heap.size ≤ U10.heap.size := Nat.le_trans hsz hk.2
            generalize na B p9 bd9 1 = p10 at hr hs
            generalize nb B p9 bd9 1 = bd10 at hr hs
            generalize nv B p9 bd9 1 = y10 at *
            have HX : Hid (RX w0 rb vb B p10 bd10 U10 ∧ Kb (fun x => x = rb ∨ pk ≤ x) U9 U10 ∧ Sx B p10 bd10 _) := ⟨hr, hq, hs⟩
            clear hr hq hs hk
            clear HVP
            obtain ⟨S11, hS11⟩ : ∃ V, U10.setCell ⟨pk, 1, none⟩ (.int .i64 y10) = V := ⟨_, rfl⟩
            have hx11 : U10.cell? ⟨pk, 1, none⟩ = some (.int .i64 0) := by simp only [World.cell?, gP]; rfl
            have hf11 := seven_f gP 1
            have gP : S11.heap[pk]? = some (.cells #[.int .i64 y9, .int .i64 y10, .int .i32 0, .int .i32 0, .int .i32 0, .int .i32 0] 83 (0, 0)) := by rw [← hS11, set_cells gP]; simp
            have HX : Hid (RX w0 rb vb B p10 bd10 S11 ∧ Kb (fun x => x = rb ∨ pk ≤ x) U9 S11 ∧ Sx B p10 bd10 _) := ⟨by rw [← hS11]; exact HX.out.1.other _ _ _ (by have := HRL.out; omega) (by have := HRL.out; omega), by rw [← hS11]; exact HX.out.2.1.trans (Kb.set (w := U10) 0 (.inr (Nat.le_refl _))), HX.out.2.2⟩
            have hsz : w.heap.size ≤ S11.heap.size := by rw [← hS11]; simpa [World.setCell] using hsz
            have HS11 : Hid (_ = S11) := hS11
            clear hS11
            go_wp2_with fail
            refine calls_world HS11.out ?_
            refine Calls.mono (rnumber_ w0 rb vb B p10 bd10 4 S11 HX.out.1 (by decide)) ?_
            rintro r U12 ⟨rfl, hr, hk⟩
            have gP : U12.heap[pk]? = some (.cells #[.int .i64 y9, .int .i64 y10, .int .i32 0, .int .i32 0, .int .i32 0, .int .i32 0] 83 (0, 0)) := hk.1 _ _ gP (by have := HRL.out; omega)
            have hq := HX.out.2.1.trans (hk.more (fun _ h => .inl h))
            have hs := sx4 HX.out.2.2
            have hy12 := nv4_in HBY.out p10 bd10
            have hsz : w.heap.size ≤ U12.heap.size := Nat.le_trans hsz hk.2
            generalize na B p10 bd10 4 = p12 at hr hs
            generalize nb B p10 bd10 4 = bd12 at hr hs
            generalize nv B p10 bd10 4 = y12 at *
            have HX : Hid (RX w0 rb vb B p12 bd12 U12 ∧ Kb (fun x => x = rb ∨ pk ≤ x) U9 U12 ∧ Sx B p12 bd12 _) := ⟨hr, hq, hs⟩
            clear hr hq hs hk
            have cv12 := w32_sg hy12
            have cw12 := (w32e y12).symm.trans cv12
            obtain ⟨s12, hs12⟩ : ∃ z, z = sg y12 := ⟨_, rfl⟩
            rw [← hs12] at cv12 cw12 HX
            clear hs12
            clear HS11 hx11 hf11
            obtain ⟨S13, hS13⟩ : ∃ V, U12.setCell ⟨pk, 2, none⟩ (.int .i32 s12) = V := ⟨_, rfl⟩
            have hx13 : U12.cell? ⟨pk, 2, none⟩ = some (.int .i32 0) := by simp only [World.cell?, gP]; rfl
            have hf13 := seven_f gP 2
            have gP : S13.heap[pk]? = some (.cells #[.int .i64 y9, .int .i64 y10, .int .i32 s12, .int .i32 0, .int .i32 0, .int .i32 0] 83 (0, 0)) := by rw [← hS13, set_cells gP]; simp
            have HX : Hid (RX w0 rb vb B p12 bd12 S13 ∧ Kb (fun x => x = rb ∨ pk ≤ x) U9 S13 ∧ Sx B p12 bd12 _) := ⟨by rw [← hS13]; exact HX.out.1.other _ _ _ (by have := HRL.out; omega) (by have := HRL.out; omega), by rw [← hS13]; exact HX.out.2.1.trans (Kb.set (w := U12) 0 (.inr (Nat.le_refl _))), HX.out.2.2⟩
            have hsz : w.heap.size ≤ S13.heap.size := by rw [← hS13]; simpa [World.setCell] using hsz
            have HS13 : Hid (_ = S13) := hS13
            clear hS13
            go_wp2_with fail
            refine calls_world HS13.out ?_
            refine Calls.mono (rnumber_ w0 rb vb B p12 bd12 4 S13 HX.out.1 (by decide)) ?_
            rintro r U14 ⟨rfl, hr, hk⟩
            have gP : U14.heap[pk]? = some (.cells #[.int .i64 y9, .int .i64 y10, .int .i32 s12, .int .i32 0, .int .i32 0, .int .i32 0] 83 (0, 0)) := hk.1 _ _ gP (by have := HRL.out; omega)
            have hq := HX.out.2.1.trans (hk.more (fun _ h => .inl h))
            have hs := sx4 HX.out.2.2
            have hy14 := nv4_in HBY.out p12 bd12
            have hsz : w.heap.size ≤ U14.heap.size := Nat.le_trans hsz hk.2
            generalize na B p12 bd12 4 = p14 at hr hs
            generalize nb B p12 bd12 4 = bd14 at hr hs
            generalize nv B p12 bd12 4 = y14 at *
            have HX : Hid (RX w0 rb vb B p14 bd14 U14 ∧ Kb (fun x => x = rb ∨ pk ≤ x) U9 U14 ∧ Sx B p14 bd14 _) := ⟨hr, hq, hs⟩
            clear hr hq hs hk
            have cv14 := w32_sg hy14
            have cw14 := (w32e y14).symm.trans cv14
            obtain ⟨s14, hs14⟩ : ∃ z, z = sg y14 := ⟨_, rfl⟩
            rw [← hs14] at cv14 cw14 HX
            clear hs14
            clear HS13 hx13 hf13
            obtain ⟨S15, hS15⟩ : ∃ V, U14.setCell ⟨pk, 3, none⟩ (.int .i32 s14) = V := ⟨_, rfl⟩
            have hx15 : U14.cell? ⟨pk, 3, none⟩ = some (.int .i32 0) := by simp only [World.cell?, gP]; rfl
            have hf15 := seven_f gP 3
            have gP : S15.heap[pk]? = some (.cells #[.int .i64 y9, .int .i64 y10, .int .i32 s12, .int .i32 s14, .int .i32 0, .int .i32 0] 83 (0, 0)) := by rw [← hS15, set_cells gP]; simp
            have HX : Hid (RX w0 rb vb B p14 bd14 S15 ∧ Kb (fun x => x = rb ∨ pk ≤ x) U9 S15 ∧ Sx B p14 bd14 _) := ⟨by rw [← hS15]; exact HX.out.1.other _ _ _ (by have := HRL.out; omega) (by have := HRL.out; omega), by rw [← hS15]; exact HX.out.2.1.trans (Kb.set (w := U14) 0 (.inr (Nat.le_refl _))), HX.out.2.2⟩
            have hsz : w.heap.size ≤ S15.heap.size := by rw [← hS15]; simpa [World.setCell] using hsz
            have HS15 : Hid (_ = S15) := hS15
            clear hS15
            go_wp2_with fail
            refine calls_world HS15.out ?_
            refine Calls.mono (rnumber_ w0 rb vb B p14 bd14 4 S15 HX.out.1 (by decide)) ?_
            rintro r U16 ⟨rfl, hr, hk⟩
            have gP : U16.heap[pk]? = some (.cells #[.int .i64 y9, .int .i64 y10, .int .i32 s12, .int .i32 s14, .int .i32 0, .int .i32 0] 83 (0, 0)) := hk.1 _ _ gP (by have := HRL.out; omega)
            have hq := HX.out.2.1.trans (hk.more (fun _ h => .inl h))
            have hs := sx4 HX.out.2.2
            have hy16 := nv4_in HBY.out p14 bd14
            have hsz : w.heap.size ≤ U16.heap.size := Nat.le_trans hsz hk.2
            generalize na B p14 bd14 4 = p16 at hr hs
            generalize nb B p14 bd14 4 = bd16 at hr hs
            generalize nv B p14 bd14 4 = y16 at *
            have HX : Hid (RX w0 rb vb B p16 bd16 U16 ∧ Kb (fun x => x = rb ∨ pk ≤ x) U9 U16 ∧ Sx B p16 bd16 _) := ⟨hr, hq, hs⟩
            clear hr hq hs hk
            have cv16 := w32_sg hy16
            have cw16 := (w32e y16).symm.trans cv16
            obtain ⟨s16, hs16⟩ : ∃ z, z = sg y16 := ⟨_, rfl⟩
            rw [← hs16] at cv16 cw16 HX
            clear hs16
            clear HS15 hx15 hf15
            obtain ⟨S17, hS17⟩ : ∃ V, U16.setCell ⟨pk, 4, none⟩ (.int .i32 s16) = V := ⟨_, rfl⟩
            have hx17 : U16.cell? ⟨pk, 4, none⟩ = some (.int .i32 0) := by simp only [World.cell?, gP]; rfl
            have hf17 := seven_f gP 4
            have gP : S17.heap[pk]? = some (.cells #[.int .i64 y9, .int .i64 y10, .int .i32 s12, .int .i32 s14, .int .i32 s16, .int .i32 0] 83 (0, 0)) := by rw [← hS17, set_cells gP]; simp
            have HX : Hid (RX w0 rb vb B p16 bd16 S17 ∧ Kb (fun x => x = rb ∨ pk ≤ x) U9 S17 ∧ Sx B p16 bd16 _) := ⟨by rw [← hS17]; exact HX.out.1.other _ _ _ (by have := HRL.out; omega) (by have := HRL.out; omega), by rw [← hS17]; exact HX.out.2.1.trans (Kb.set (w := U16) 0 (.inr (Nat.le_refl _))), HX.out.2.2⟩
            have hsz : w.heap.size ≤ S17.heap.size := by rw [← hS17]; simpa [World.setCell] using hsz
            have HS17 : Hid (_ = S17) := hS17
            clear hS17
            go_wp2_with fail
            refine calls_world HS17.out ?_
            refine Calls.mono (rnumber_ w0 rb vb B p16 bd16 4 S17 HX.out.1 (by decide)) ?_
            rintro r U18 ⟨rfl, hr, hk⟩
            have gP : U18.heap[pk]? = some (.cells #[.int .i64 y9, .int .i64 y10, .int .i32 s12, .int .i32 s14, .int .i32 s16, .int .i32 0] 83 (0, 0)) := hk.1 _ _ gP (by have := HRL.out; omega)
            have hq := HX.out.2.1.trans (hk.more (fun _ h => .inl h))
            have hs := sx4 HX.out.2.2
            have hy18 := nv4_in HBY.out p16 bd16
            have hsz : w.heap.size ≤ U18.heap.size := Nat.le_trans hsz hk.2
            generalize na B p16 bd16 4 = p18 at hr hs
            generalize nb B p16 bd16 4 = bd18 at hr hs
            generalize nv B p16 bd16 4 = y18 at *
            have HX : Hid (RX w0 rb vb B p18 bd18 U18 ∧ Kb (fun x => x = rb ∨ pk ≤ x) U9 U18 ∧ Sx B p18 bd18 _) := ⟨hr, hq, hs⟩
            clear hr hq hs hk
            have cv18 := w32_sg hy18
            have cw18 := (w32e y18).symm.trans cv18
            obtain ⟨s18, hs18⟩ : ∃ z, z = sg y18 := ⟨_, rfl⟩
            rw [← hs18] at cv18 cw18 HX
            clear hs18
            clear HS17 hx17 hf17
            obtain ⟨S19, hS19⟩ : ∃ V, U18.setCell ⟨pk, 5, none⟩ (.int .i32 s18) = V := ⟨_, rfl⟩
            have hx19 : U18.cell? ⟨pk, 5, none⟩ = some (.int .i32 0) := by simp only [World.cell?, gP]; rfl
            have hf19 := seven_f gP 5
            have gP : S19.heap[pk]? = some (.cells #[.int .i64 y9, .int .i64 y10, .int .i32 s12, .int .i32 s14, .int .i32 s16, .int .i32 s18] 83 (0, 0)) := by rw [← hS19, set_cells gP]; simp
            have HX : Hid (RX w0 rb vb B p18 bd18 S19 ∧ Kb (fun x => x = rb ∨ pk ≤ x) U9 S19 ∧ Sx B p18 bd18 _) := ⟨by rw [← hS19]; exact HX.out.1.other _ _ _ (by have := HRL.out; omega) (by have := HRL.out; omega), by rw [← hS19]; exact HX.out.2.1.trans (Kb.set (w := U18) 0 (.inr (Nat.le_refl _))), HX.out.2.2⟩
            have hsz : w.heap.size ≤ S19.heap.size := by rw [← hS19]; simpa [World.setCell] using hsz
            have HS19 : Hid (_ = S19) := hS19
            clear hS19
            obtain ⟨vp, vc, vz, g1, g2, g3, g4, g5, g6⟩ := HQ.out.1.kb2 HQ.out.2.1 HX.out.2.1 HQ.out.2.2.2.hp HQ.out.2.2.1
            obtain ⟨ja, jc, hvp⟩ := row_val g3
            rw [hcl] at hvp
            subst hvp
            have xs0 : S19.cell? ⟨sb, 1, none⟩ = some (.slice ja j jc) := by simp only [World.cell?, g1]; rfl
            obtain ⟨w5a, w5b, w5c, w5d, w5e, w5f⟩ : S19.cell? ⟨pk, 0, none⟩ = some (.int .i64 y9) ∧ S19.cell? ⟨pk, 1, none⟩ = some (.int .i64 y10) ∧ S19.cell? ⟨pk, 2, none⟩ = some (.int .i32 s12) ∧ S19.cell? ⟨pk, 3, none⟩ = some (.int .i32 s14) ∧ S19.cell? ⟨pk, 4, none⟩ = some (.int .i32 s16) ∧ S19.cell? ⟨pk, 5, none⟩ = some (.int .i32 s18) := by simp only [World.cell?, gP]; exact ⟨rfl, rfl, rfl, rfl, rfl, rfl⟩
            have HV : Hid ((S19.alloc (.cells #[.int .i64 y9, .int .i64 y10, .int .i32 s12, .int .i32 s14, .int .i32 s16, .int .i32 s18] 83)).ownsRow w.heap.size 83 6 (.slice ja j jc) j (cvs cs)) := by have h9 := World.ownsRow.alloc g3 (.cells #[.int .i64 y9, .int .i64 y10, .int .i32 s12, .int .i32 s14, .int .i32 s16, .int .i32 s18] 83); rw [hcl] at h9; exact h9
            have HMW : Hid (∀ x u, [Value.int .i64 y9, .int .i64 y10, .int .i32 s12, .int .i32 s14, .int .i32 s16, .int .i32 s18][x]? = some u → (S19.alloc (.cells #[.int .i64 y9, .int .i64 y10, .int .i32 s12, .int .i32 s14, .int .i32 s16, .int .i32 s18] 83)).cell? ((⟨S19.heap.size, 0, none⟩ : Addr).add x) = some u) := World.news_of_block (cs := #[.int .i64 y9, .int .i64 y10, .int .i32 s12, .int .i32 s14, .int .i32 s16, .int .i32 s18]) (t := 83) (fr := (0, 0)) (heap_alloc_new S19 _)
            have HSZ : Hid (w.heap.size ≤ (S19.alloc (.cells #[.int .i64 y9, .int .i64 y10, .int .i32 s12, .int .i32 s14, .int .i32 s16, .int .i32 s18] 83)).heap.size) := by unfold Hid; simp; omega
            have HF : Hid (∀ v' V, V.ownsRow w.heap.size 83 6 v' (j + 1) (cvs cs ++ [Value.int .i64 y9, .int .i64 y10, .int .i32 s12, .int .i32 s14, .int .i32 s16, .int .i32 s18]) → (S19.alloc (.cells #[.int .i64 y9, .int .i64 y10, .int .i32 s12, .int .i32 s14, .int .i32 s16, .int .i32 s18] 83)).grownBy V (Value.slice ja j jc).ownBlock → (SQ w rb sb ps (cs ++ [⟨y9, y10, s12, s14, s16, s18⟩]) [] (.int .i32 0) (.int .i64 0) (.int .i8 0) (.int .i64 0) (V.setCell ⟨sb, 1, none⟩ v') ∧ RX w0 rb vb B p18 bd18 (V.setCell ⟨sb, 1, none⟩ v') ∧ w.heap.size ≤ (V.setCell ⟨sb, 1, none⟩ v').heap.size) ∧ V.cell? ⟨sb, 1, none⟩ = some (.slice ja j jc) ∧ V.frozen? ⟨sb, 1, none⟩ = false) := fun v' V n1 n2 => by
              have n3 : V.ownsRow w.heap.size 83 6 v' (cs.length + 1) (cvs (cs ++ [⟨y9, y10, s12, s14, s16, s18⟩])) := by rw [hcl, show cvs (cs ++ [⟨y9, y10, s12, s14, s16, s18⟩]) = cvs cs ++ [Value.int .i64 y9, .int .i64 y10, .int .i32 s12, .int .i32 s14, .int .i32 s16, .int .i32 s18] by simp [cvs, cv]]; exact n1
              obtain ⟨o1, o2, o3⟩ := SQ.appC (vb := vb) (B := B) HSB.out HRL.out.2 HRL.out.1 g1 g2 g3 g4 g5 g6 n2 n3
              exact ⟨⟨o1, o3 _ _ HX.out.1, o1.kbsz⟩, o2⟩
            have HSX : Hid (Sx B p18 bd18 (bnd (rep rdC (M - (j + 1))) fun qs => k4 N ps (cs ++ [⟨y9, y10, s12, s14, s16, s18⟩] ++ qs))) := by
              unfold Hid
              rw [← HM.out]
              simpa only [List.append_assoc, List.cons_append, List.nil_append] using HX.out.2.2
            clear g1 g2 g3 g4 g5 g6 gP
            go_upto_region 21 with fail
            rw [HS19.out]
            clear HS19 hx19 hf19
            go_wp2_with (at_builtin; go_loud (refine wpList_append_own _ (by rfl) (.tmp 84) (.tmp 86) 26 (by rfl) w.heap.size 83 iC _ 6 32 Tryz.underlying26 hiC b0 b1 b2 (by rfl) (by decide) (.slice ja j jc) j (cvs cs) (by rfl) HV.out ⟨S19.heap.size, 0, none⟩ 1 1 [Value.int .i64 y9, .int .i64 y10, .int .i32 s12, .int .i32 s14, .int .i32 s16, .int .i32 s18] (by rfl) (by rfl) HMW.out (by simp [Value.oneCell']) (by unfold maxLen; omega) (by omega) HSZ.out ?_; intro v' V hin hg1 _; obtain ⟨o9, z1, z2⟩ := HF.out v' V hin hg1; have HG : Hid (SQ w rb sb ps (cs ++ [⟨y9, y10, s12, s14, s16, s18⟩]) [] (.int .i32 0) (.int .i64 0) (.int .i8 0) (.int .i64 0) (V.setCell ⟨sb, 1, none⟩ v') ∧ RX w0 rb vb B p18 bd18 (V.setCell ⟨sb, 1, none⟩ v') ∧ w.heap.size ≤ (V.setCell ⟨sb, 1, none⟩ v').heap.size) := o9; obtain ⟨fa, fc, hva⟩ : ∃ a c, v' = Value.slice a (j + 1) c := row_val hin; subst hva; clear hin hg1 o9))
            go_roundw
            case rel =>
              have r1 := HG.out.1
              have r2 := HG.out.2.1
              have r3 := HG.out.2.2
              have r4 := HSX.out
              refine ⟨j + 1, p18, bd18, cs ++ [⟨y9, y10, s12, s14, s16, s18⟩], by omega, by go_num, by rw [List.length_append, hcl]; rfl, ?_, ?_, ?_, ?_⟩
              · exact r3
              · exact r2
              · exact r1
              · exact r4
            case measure => simp [intOf]; omega
          · by_cases hlt : j < M
            · obtain rfl : bq0 = true := by
                cases bq0 with
                | true => rfl
                | false => exact absurd ⟨hlt, rfl⟩ hgo
              have hlt3 : (j : Int) < (M : Int) := by omega
              clear hgo
              by_cases hN0 : N = 0
              · subst hN0
                go_wp2_with fail
                refine wp_loop_rounds 1 ?_
                rw [rounds_succ]
                have HX : Hid (RX w0 rb vb B q0 true wr ∧ SQ w rb sb ps cs [] (.int .i32 0) (.int .i64 0) (.int .i8 0) (.int .i64 0) wr ∧ Sx B q0 true (rdT ps cs [])) := ⟨HX.out.1, HX.out.2.1, HX.out.2.2.as (fun h => by cases h)⟩
                go_upto_region 32 with fail
                exact rrest_ w0 rb vb B w Post HPo HBY HRL sb HSB wr q0 true ps cs [] HX hsz _ _ _ _ _ _ _ _ _ _ _ _ _ _ _ _ _ _ _ _ _ _ _ _ _ _ _ _ _ _ _ _ _ _ _ _ _ _ _ _ _ _ _ _ _ _ _ _ _ _ _ _ _ _ _ _ _ _ _ _ _ _ _ _ _ _ _ _ _ _ _ _ _ _ _ _ _ _ _ _ _ _ _ _ _ _ _ _ _ _ _ _ _ _ _ _ _ _ _ _ _ _ _ _ _ _ _ _ _ _ _ _ _ _ _ _ _ _ _ _ _ _ _ _ _ _ _ _ _ _ _ _ _ _ _ _ _ _ _ _ _ _ _ _ _ _ _ _ _ _ _ _ _ _ _ _ _ _ _ _ (by assumption)
              · have e4n : IntKind.i64.wrap (4 * (N : Int)) = ((4 * N : Nat) : Int) := by rw [IntKind.wrap_i64]; omega
                have e4p : (0 : Int) < ((4 * N : Nat) : Int) := by omega
                go_wp2_with fail
                refine wp_loop_rounds 1 ?_
                rw [rounds_succ]
                have HX : Hid (RX w0 rb vb B q0 true wr ∧ SQ w rb sb ps cs [] (.int .i32 0) (.int .i64 0) (.int .i8 0) (.int .i64 0) wr ∧ Sx B q0 true (rdT ps cs [])) := ⟨HX.out.1, HX.out.2.1, HX.out.2.2.as (fun h => by cases h)⟩
                go_upto_region 32 with fail
                exact rrest_ w0 rb vb B w Post HPo HBY HRL sb HSB wr q0 true ps cs [] HX hsz _ _ _ _ _ _ _ _ _ _ _ _ _ _ _ _ _ _ _ _ _ _ _ _ _ _ _ _ _ _ _ _ _ _ _ _ _ _ _ _ _ _ _ _ _ _ _ _ _ _ _ _ _ _ _ _ _ _ _ _ _ _ _ _ _ _ _ _ _ _ _ _ _ _ _ _ _ _ _ _ _ _ _ _ _ _ _ _ _ _ _ _ _ _ _ _ _ _ _ _ _ _ _ _ _ _ _ _ _ _ _ _ _ _ _ _ _ _ _ _ _ _ _ _ _ _ _ _ _ _ _ _ _ _ _ _ _ _ _ _ _ _ _ _ _ _ _ _ _ _ _ _ _ _ _ _ _ _ _ _ (by assumption)
            · have hlt3 : ¬ (j : Int) < (M : Int) := by omega
              obtain rfl : j = M := by omega
              have HX : Hid (RX w0 rb vb B q0 bq0 wr ∧ SQ w rb sb ps cs [] (.int .i32 0) (.int .i64 0) (.int .i8 0) (.int .i64 0) wr ∧ Sx B q0 bq0 (k4 N ps cs)) := ⟨HX.out.1, HX.out.2.1, HX.out.2.2.as (fun _ => by rw [Nat.sub_self, rep0, List.append_nil])⟩
              unfold k4 at HX
              clear hgo hlt
              have e4n : IntKind.i64.wrap (4 * (N : Int)) = ((4 * N : Nat) : Int) := by rw [IntKind.wrap_i64]; omega
              obtain ⟨F, hF⟩ : ∃ F, F = 4 * N := ⟨_, rfl⟩
              rw [← hF] at e4n HX
              have hF2 : F ≤ 1020 := by omega
              have hsz0 := hsz
              clear hsz hF
              go_wp2_with fail
              clear x2
              go_loopw [10] (fun s10 W => ∃ (z p : Nat) (bad : Bool) (zs : List (List Int)), z ≤ F ∧ s10 = .int .i64 z ∧ zs.length = z ∧ w.heap.size ≤ W.heap.size ∧ RX w0 rb vb B p bad W ∧ SQ w rb sb ps cs zs (.int .i32 0) (.int .i64 0) (.int .i8 0) (.int .i64 0) W ∧ Sx B p bad (bnd (rep rdZ (F - z)) fun qs => rdT ps cs (zs ++ qs))) (fun s10 _ => F - (intOf s10).toNat)
              case atStart => exact ⟨0, q0, bq0, [], Nat.zero_le _, rfl, rfl, hsz0, HX.out⟩
              case round =>
                obtain ⟨z, q0, bq0, zs, hz, rfl, hzl, hsz, h1, h2, h3⟩ := hrel
                clear HX hsz0
                have HX : Hid (RX w0 rb vb B q0 bq0 wr ∧ SQ w rb sb ps cs zs (.int .i32 0) (.int .i64 0) (.int .i8 0) (.int .i64 0) wr ∧ Sx B q0 bq0 (bnd (rep rdZ (F - z)) fun qs => rdT ps cs (zs ++ qs))) := ⟨h1, h2, h3⟩
                have x2 := h1.cells.2.2.1
                clear h1 h2 h3
                by_cases hgo : z < F ∧ bq0 = false
                · obtain ⟨hlt, rfl⟩ := hgo
                  have hlt4 : (z : Int) < (F : Int) := by omega
                  have ei : IntKind.i64.wrap ((z : Int) + 1) = ((z + 1 : Nat) : Int) := by rw [IntKind.wrap_i64]; omega
                  obtain ⟨m, hm⟩ : ∃ m, F - z = m + 1 := ⟨F - z - 1, by omega⟩
                  have HM : Hid (m = F - (z + 1)) := by unfold Hid; omega
                  rw [hm, rdZ_more] at HX
                  clear hm
                  go_wp2_with fail
                  refine Calls.mono (rnumber_ w0 rb vb B q0 false 2 wr HX.out.1 (by decide)) ?_
                  rintro r U20 ⟨rfl, hr, hk⟩
                  have hq := HX.out.2.1.kb hk HX.out.1.hp
                  have hs := sx2 HX.out.2.2
                  have hy20 := nv2_in HBY.out q0 false
                  have hsz : w.heap.size ≤ U20.heap.size := Nat.le_trans hsz hk.2
                  generalize na B q0 false 2 = p20 at hr hs
                  generalize nb B q0 false 2 = bd20 at hr hs
                  generalize nv B q0 false 2 = y20 at *
                  have HX : Hid (RX w0 rb vb B p20 bd20 U20 ∧ SQ w rb sb ps cs zs (.int .i32 0) (.int .i64 0) (.int .i8 0) (.int .i64 0) U20 ∧ Sx B p20 bd20 _) := ⟨hr, hq, hs⟩
                  clear hr hq hs hk
                  clear x2
                  obtain ⟨K, hK⟩ : ∃ K : Nat, y20 = (K : Int) := ⟨(y20).toNat, by omega⟩
                  subst hK
                  rw [Int.toNat_natCast] at HX
                  have hK : K < 65536 := by omega
                  clear hy20
                  obtain ⟨pk, hpk⟩ : ∃ n, n = U20.heap.size := ⟨_, rfl⟩
                  have HQ : Hid (SQ w rb sb ps cs zs (.int .i32 0) (.int .i64 0) (.int .i8 0) (.int .i64 0) U20 ∧ pk = U20.heap.size ∧ w.heap.size ≤ U20.heap.size ∧ RX w0 rb vb B p20 bd20 U20) := ⟨HX.out.2.1, hpk, hsz, HX.out.1⟩
                  have hpw : w.heap.size ≤ pk := by omega
                  have HX : Hid (RX w0 rb vb B p20 bd20 U20 ∧ Kb (fun y => y = rb ∨ pk ≤ y) U20 U20 ∧ Sx B p20 bd20 (bnd (rep num2 K) fun zz => bnd (rep rdZ m) fun xs => rdT ps cs (zs ++ (zz :: xs)))) := ⟨HX.out.1, Kb.refl _ _, HX.out.2.2⟩
                  have hsz0 := hsz
                  have hpk2 : pk ≤ U20.heap.size := by omega
                  clear hpk hsz
                  go_wp2_with fail
                  go_loopw [11, 13] (fun s11 s13 W => ∃ (x p : Nat) (bad : Bool) (l : List Int) (la : Option Addr) (lc : Nat), x ≤ K ∧ s13 = .int .i64 x ∧ s11 = .slice la x lc ∧ l.length = x ∧ w.heap.size ≤ W.heap.size ∧ pk ≤ W.heap.size ∧ W.ownsRow pk 3 1 (.slice la x lc) x (ivs l) ∧ RX w0 rb vb B p bad W ∧ Kb (fun y => y = rb ∨ pk ≤ y) U20 W ∧ Sx B p bad (bnd (rep num2 (K - x)) fun zz => bnd (rep rdZ m) fun xs => rdT ps cs (zs ++ ((l ++ zz) :: xs)))) (fun _ s13 _ => K - (intOf s13).toNat)
                  case atStart => exact ⟨0, p20, bd20, [], none, 0, Nat.zero_le _, rfl, rfl, rfl, hsz0, hpk2, World.ownsRow_nil _ _ _ _, HX.out⟩
                  case round =>
                    obtain ⟨x, q0, bq0, l, la, lc, hx, rfl, rfl, hll, hsz, hpk2, hrow, h1, h2, h3⟩ := hrel
                    clear HX hsz0
                    have HX : Hid (RX w0 rb vb B q0 bq0 wr ∧ Kb (fun y => y = rb ∨ pk ≤ y) U20 wr ∧ Sx B q0 bq0 (bnd (rep num2 (K - x)) fun zz => bnd (rep rdZ m) fun xs => rdT ps cs (zs ++ ((l ++ zz) :: xs)))) := ⟨h1, h2, h3⟩
                    have HL : Hid (wr.ownsRow pk 3 1 (.slice la x lc) x (ivs l)) := hrow
                    have x2 := h1.cells.2.2.1
                    clear h1 h2 h3 hrow
                    by_cases hgo : x < K ∧ bq0 = false
                    · obtain ⟨hlt5, rfl⟩ := hgo
                      have hlt6 : (x : Int) < (K : Int) := by omega
                      have ej : IntKind.i64.wrap ((x : Int) + 1) = ((x + 1 : Nat) : Int) := by rw [IntKind.wrap_i64]; omega
                      obtain ⟨m2, hm⟩ : ∃ m, K - x = m + 1 := ⟨K - x - 1, by omega⟩
                      have HM2 : Hid (m2 = K - (x + 1)) := by unfold Hid; omega
                      rw [hm, rep_num] at HX
                      clear hm
                      go_wp2_with fail
                      refine Calls.mono (rnumber_ w0 rb vb B q0 false 2 wr HX.out.1 (by decide)) ?_
                      rintro r U21 ⟨rfl, hr, hk⟩
                      have HL : Hid (U21.ownsRow pk 3 1 (.slice la x lc) x (ivs l)) := keepT HL.out hk HX.out.1.hp (by decide)
                      have hq := HX.out.2.1.trans (hk.more (fun _ h => .inl h))
                      have hs := sx2 HX.out.2.2
                      have hy21 := nv2_in HBY.out q0 false
                      have hsz : w.heap.size ≤ U21.heap.size := Nat.le_trans hsz hk.2
                      generalize na B q0 false 2 = p21 at hr hs
                      generalize nb B q0 false 2 = bd21 at hr hs
                      generalize nv B q0 false 2 = y21 at *
                      have HX : Hid (RX w0 rb vb B p21 bd21 U21 ∧ Kb (fun x => x = rb ∨ pk ≤ x) U20 U21 ∧ Sx B p21 bd21 _) := ⟨hr, hq, hs⟩
                      clear hr hq hs hk
                      clear x2
                      have hpk3 : pk ≤ U21.heap.size := by have := HX.out.2.1.2; have := HQ.out.2.1; omega
                      have HV : Hid ((U21.alloc (.cells #[.int .i64 y21] 3)).ownsRow pk 3 1 (.slice la x lc) x (ivs l)) := World.ownsRow.alloc HL.out _
                      have HMW : Hid (∀ q u, [Value.int .i64 y21][q]? = some u → (U21.alloc (.cells #[.int .i64 y21] 3)).cell? ((⟨U21.heap.size, 0, none⟩ : Addr).add q) = some u) := World.news_of_block (cs := #[.int .i64 y21]) (t := 3) (fr := (0, 0)) (heap_alloc_new U21 _)
                      have HSZ : Hid (pk ≤ (U21.alloc (.cells #[.int .i64 y21] 3)).heap.size) := by unfold Hid; simp; omega
                      have HSX : Hid (Sx B p21 bd21 (bnd (rep num2 (K - (x + 1))) fun zz => bnd (rep rdZ m) fun xs => rdT ps cs (zs ++ ((l ++ [y21] ++ zz) :: xs)))) := by
                        unfold Hid
                        rw [← HM2.out]
                        simpa only [List.append_assoc, List.cons_append, List.nil_append] using HX.out.2.2
                      have HF : Hid (∀ v' V, V.ownsRow pk 3 1 v' (x + 1) (ivs l ++ [.int .i64 y21]) → (U21.alloc (.cells #[.int .i64 y21] 3)).grownBy V (Value.slice la x lc).ownBlock → V.ownsRow pk 3 1 v' (x + 1) (ivs (l ++ [y21])) ∧ RX w0 rb vb B p21 bd21 V ∧ Kb (fun y => y = rb ∨ pk ≤ y) U20 V ∧ w.heap.size ≤ V.heap.size ∧ pk ≤ V.heap.size) := fun v' V n1 n2 => by
                        have n3 := n2.size
                        simp at n3
                        refine ⟨by rw [show ivs (l ++ [y21]) = ivs l ++ [.int .i64 y21] by simp [ivs]]; exact n1, rx_grown HX.out.1 HL.out (by decide) (by have := HRL.out; omega) n2, kb_grown HX.out.2.1 HL.out n2, by omega, by omega⟩
                      go_wp2_with (at_builtin; go_loud (refine wpList_append_own _ (by rfl) (.tmp 116) (.tmp 119) 84 (by rfl) pk 3 iI _ 1 8 Tryz.underlying84 hiI c0 c1 c2 (by rfl) (by decide) (.slice la x lc) x (ivs l) (by rfl) HV.out ⟨U21.heap.size, 0, none⟩ 1 1 [Value.int .i64 y21] (by rfl) (by rfl) HMW.out (by simp [Value.oneCell']) (by unfold maxLen; omega) (by omega) HSZ.out ?_; intro v' V hin hg1 _; have HG : Hid (V.ownsRow pk 3 1 v' (x + 1) (ivs (l ++ [y21])) ∧ RX w0 rb vb B p21 bd21 V ∧ Kb (fun y => y = rb ∨ pk ≤ y) U20 V ∧ w.heap.size ≤ V.heap.size ∧ pk ≤ V.heap.size) := HF.out v' V hin hg1; obtain ⟨fa, fc, hva⟩ : ∃ a c, v' = Value.slice a (x + 1) c := row_val hin; subst hva; clear hin hg1))
                      go_roundw
                      case rel =>
                        have r1 := HG.out.1
                        have r2 := HG.out.2.1
                        have r3 := HG.out.2.2.1
                        have r4 := HSX.out
                        refine ⟨x + 1, p21, bd21, l ++ [y21], fa, fc, by omega, by go_num, rfl, by rw [List.length_append, hll]; rfl, HG.out.2.2.2.1, HG.out.2.2.2.2, ?_, ?_, ?_, ?_⟩
                        · exact r1
                        · exact r2
                        · exact r3
                        · exact r4
                      case measure => simp [intOf]; omega
                    · by_cases hlt5 : x < K
                      · obtain rfl : bq0 = true := by
                          cases bq0 with
                          | true => rfl
                          | false => exact absurd ⟨hlt5, rfl⟩ hgo
                        have hlt6 : (x : Int) < (K : Int) := by omega
                        clear hgo
                        obtain ⟨vp, vc, vz, vs, g1, g2, g3, ⟨z1, z2, z3, z4⟩, g5, g6, g7⟩ := HQ.out.1.kbz HQ.out.2.1 HX.out.2.1 HQ.out.2.2.2.hp HQ.out.2.2.1
                        obtain ⟨ja, jc, hvp⟩ := row_val z2
                        rw [hzl] at hvp
                        subst hvp
                        have xs0 : wr.cell? ⟨sb, 2, none⟩ = some (.slice ja z jc) := by simp only [World.cell?, g1]; rfl
                        have HV : Hid ((wr.alloc (.cells #[.slice la x lc] 84)).ownsRow w.heap.size 84 1 (.slice ja z jc) z vs) := by have h9 := World.ownsRow.alloc z2 (.cells #[.slice la x lc] 84); rw [hzl] at h9; exact h9
                        have HMW : Hid (∀ q u, [Value.slice la x lc][q]? = some u → (wr.alloc (.cells #[.slice la x lc] 84)).cell? ((⟨wr.heap.size, 0, none⟩ : Addr).add q) = some u) := World.news_of_block (cs := #[.slice la x lc]) (t := 84) (fr := (0, 0)) (heap_alloc_new wr _)
                        have HSZ : Hid (w.heap.size ≤ (wr.alloc (.cells #[.slice la x lc] 84)).heap.size) := by unfold Hid; simp; omega
                        have HSX : Hid (Sx B q0 true (bnd (rep rdZ (F - (z + 1))) fun qs => rdT ps cs (zs ++ [l] ++ qs))) := by
                          unfold Hid
                          rw [← HM.out]
                          exact HX.out.2.2.as (fun h => by cases h)
                        have HF : Hid (∀ v' V, V.ownsRow w.heap.size 84 1 v' (z + 1) (vs ++ [Value.slice la x lc]) → (wr.alloc (.cells #[.slice la x lc] 84)).grownBy V (Value.slice ja z jc).ownBlock → (SQ w rb sb ps cs (zs ++ [l]) (.int .i32 0) (.int .i64 0) (.int .i8 0) (.int .i64 0) (V.setCell ⟨sb, 2, none⟩ v') ∧ RX w0 rb vb B q0 true (V.setCell ⟨sb, 2, none⟩ v') ∧ w.heap.size ≤ (V.setCell ⟨sb, 2, none⟩ v').heap.size) ∧ V.cell? ⟨sb, 2, none⟩ = some (.slice ja z jc) ∧ V.frozen? ⟨sb, 2, none⟩ = false) := fun v' V n1 n2 => by
                          have n3 : V.ownsRow w.heap.size 84 1 v' (zs.length + 1) (vs ++ [Value.slice la x lc]) := by rw [hzl]; exact n1
                          have n4 : wr.ownsRow w.heap.size 3 1 (.slice la x lc) l.length (ivs l) := by rw [hll]; exact own_less HL.out hpw
                          obtain ⟨o1, o2, o3⟩ := SQ.appZ (vb := vb) (B := B) HSB.out HRL.out.2 HRL.out.1 g1 g2 g3 z1 z2 z3 z4 g5 g6 n2 n3 n4 (fun i g hi hg hg2 => by
                            have h7 := g7 i g hi hg
                            have h8 := (World.ownsRow.lt HL.out g hg2).1
                            omega)
                          exact ⟨⟨o1, o3 _ _ HX.out.1, o1.kbsz⟩, o2⟩
                        clear g1 g2 g3 g5 g6 g7 z1 z2 z3 z4
                        go_wp2_with (at_builtin; go_loud (refine wpList_append_own _ (by rfl) (.tmp 122) (.tmp 124) 27 (by rfl) w.heap.size 84 iR _ 1 24 Tryz.underlying27 hiR d0 d1 d2 (by rfl) (by decide) (.slice ja z jc) z vs (by rfl) HV.out ⟨wr.heap.size, 0, none⟩ 1 1 [Value.slice la x lc] (by rfl) (by rfl) HMW.out (by simp [Value.oneCell']) (by unfold maxLen; omega) (by omega) HSZ.out ?_; intro v' V hin hg1 _; obtain ⟨o9, z7, z8⟩ := HF.out v' V hin hg1; have HG : Hid (SQ w rb sb ps cs (zs ++ [l]) (.int .i32 0) (.int .i64 0) (.int .i8 0) (.int .i64 0) (V.setCell ⟨sb, 2, none⟩ v') ∧ RX w0 rb vb B q0 true (V.setCell ⟨sb, 2, none⟩ v') ∧ w.heap.size ≤ (V.setCell ⟨sb, 2, none⟩ v').heap.size) := o9; obtain ⟨fa, fc, hva⟩ : ∃ a c, v' = Value.slice a (z + 1) c := row_val hin; subst hva; clear hin hg1 o9))
                        go_roundw
                        case rel =>
                          have r1 := HG.out.1
                          have r2 := HG.out.2.1
                          have r3 := HG.out.2.2
                          have r4 := HSX.out
                          refine ⟨z + 1, q0, true, zs ++ [l], by omega, by go_num, by rw [List.length_append, hzl]; rfl, ?_, ?_, ?_, ?_⟩
                          · exact r3
                          · exact r2
                          · exact r1
                          · exact r4
                        case measure => simp [intOf]; omega
                      · have hlt6 : ¬ (x : Int) < (K : Int) := by omega
                        obtain rfl : x = K := by omega
                        clear hgo
                        obtain ⟨vp, vc, vz, vs, g1, g2, g3, ⟨z1, z2, z3, z4⟩, g5, g6, g7⟩ := HQ.out.1.kbz HQ.out.2.1 HX.out.2.1 HQ.out.2.2.2.hp HQ.out.2.2.1
                        obtain ⟨ja, jc, hvp⟩ := row_val z2
                        rw [hzl] at hvp
                        subst hvp
                        have xs0 : wr.cell? ⟨sb, 2, none⟩ = some (.slice ja z jc) := by simp only [World.cell?, g1]; rfl
                        have HV : Hid ((wr.alloc (.cells #[.slice la x lc] 84)).ownsRow w.heap.size 84 1 (.slice ja z jc) z vs) := by have h9 := World.ownsRow.alloc z2 (.cells #[.slice la x lc] 84); rw [hzl] at h9; exact h9
                        have HMW : Hid (∀ q u, [Value.slice la x lc][q]? = some u → (wr.alloc (.cells #[.slice la x lc] 84)).cell? ((⟨wr.heap.size, 0, none⟩ : Addr).add q) = some u) := World.news_of_block (cs := #[.slice la x lc]) (t := 84) (fr := (0, 0)) (heap_alloc_new wr _)
                        have HSZ : Hid (w.heap.size ≤ (wr.alloc (.cells #[.slice la x lc] 84)).heap.size) := by unfold Hid; simp; omega
                        have HSX : Hid (Sx B q0 bq0 (bnd (rep rdZ (F - (z + 1))) fun qs => rdT ps cs (zs ++ [l] ++ qs))) := by
                          unfold Hid
                          rw [← HM.out]
                          exact HX.out.2.2.as (fun _ => by rw [Nat.sub_self, rep0]; simp only [List.append_nil, List.append_assoc, List.cons_append, List.nil_append])
                        have HF : Hid (∀ v' V, V.ownsRow w.heap.size 84 1 v' (z + 1) (vs ++ [Value.slice la x lc]) → (wr.alloc (.cells #[.slice la x lc] 84)).grownBy V (Value.slice ja z jc).ownBlock → (SQ w rb sb ps cs (zs ++ [l]) (.int .i32 0) (.int .i64 0) (.int .i8 0) (.int .i64 0) (V.setCell ⟨sb, 2, none⟩ v') ∧ RX w0 rb vb B q0 bq0 (V.setCell ⟨sb, 2, none⟩ v') ∧ w.heap.size ≤ (V.setCell ⟨sb, 2, none⟩ v').heap.size) ∧ V.cell? ⟨sb, 2, none⟩ = some (.slice ja z jc) ∧ V.frozen? ⟨sb, 2, none⟩ = false) := fun v' V n1 n2 => by
                          have n3 : V.ownsRow w.heap.size 84 1 v' (zs.length + 1) (vs ++ [Value.slice la x lc]) := by rw [hzl]; exact n1
                          have n4 : wr.ownsRow w.heap.size 3 1 (.slice la x lc) l.length (ivs l) := by rw [hll]; exact own_less HL.out hpw
                          obtain ⟨o1, o2, o3⟩ := SQ.appZ (vb := vb) (B := B) HSB.out HRL.out.2 HRL.out.1 g1 g2 g3 z1 z2 z3 z4 g5 g6 n2 n3 n4 (fun i g hi hg hg2 => by
                            have h7 := g7 i g hi hg
                            have h8 := (World.ownsRow.lt HL.out g hg2).1
                            omega)
                          exact ⟨⟨o1, o3 _ _ HX.out.1, o1.kbsz⟩, o2⟩
                        clear g1 g2 g3 g5 g6 g7 z1 z2 z3 z4
                        go_wp2_with (at_builtin; go_loud (refine wpList_append_own _ (by rfl) (.tmp 122) (.tmp 124) 27 (by rfl) w.heap.size 84 iR _ 1 24 Tryz.underlying27 hiR d0 d1 d2 (by rfl) (by decide) (.slice ja z jc) z vs (by rfl) HV.out ⟨wr.heap.size, 0, none⟩ 1 1 [Value.slice la x lc] (by rfl) (by rfl) HMW.out (by simp [Value.oneCell']) (by unfold maxLen; omega) (by omega) HSZ.out ?_; intro v' V hin hg1 _; obtain ⟨o9, z7, z8⟩ := HF.out v' V hin hg1; have HG : Hid (SQ w rb sb ps cs (zs ++ [l]) (.int .i32 0) (.int .i64 0) (.int .i8 0) (.int .i64 0) (V.setCell ⟨sb, 2, none⟩ v') ∧ RX w0 rb vb B q0 bq0 (V.setCell ⟨sb, 2, none⟩ v') ∧ w.heap.size ≤ (V.setCell ⟨sb, 2, none⟩ v').heap.size) := o9; obtain ⟨fa, fc, hva⟩ : ∃ a c, v' = Value.slice a (z + 1) c := row_val hin; subst hva; clear hin hg1 o9))
                        go_roundw
                        case rel =>
                          have r1 := HG.out.1
                          have r2 := HG.out.2.1
                          have r3 := HG.out.2.2
                          have r4 := HSX.out
                          refine ⟨z + 1, q0, bq0, zs ++ [l], by omega, by go_num, by rw [List.length_append, hzl]; rfl, ?_, ?_, ?_, ?_⟩
                          · exact r3
                          · exact r2
                          · exact r1
                          · exact r4
                        case measure => simp [intOf]; omega
                · by_cases hlt : z < F
                  · obtain rfl : bq0 = true := by
                      cases bq0 with
                      | true => rfl
                      | false => exact absurd ⟨hlt, rfl⟩ hgo
                    have hlt4 : (z : Int) < (F : Int) := by omega
                    clear hgo
                    have HX : Hid (RX w0 rb vb B q0 true wr ∧ SQ w rb sb ps cs zs (.int .i32 0) (.int .i64 0) (.int .i8 0) (.int .i64 0) wr ∧ Sx B q0 true (rdT ps cs zs)) := ⟨HX.out.1, HX.out.2.1, HX.out.2.2.as (fun h => by cases h)⟩
                    go_upto_region 32 with fail
                    exact rrest_ w0 rb vb B w Post HPo HBY HRL sb HSB wr q0 true ps cs zs HX hsz _ _ _ _ _ _ _ _ _ _ _ _ _ _ _ _ _ _ _ _ _ _ _ _ _ _ _ _ _ _ _ _ _ _ _ _ _ _ _ _ _ _ _ _ _ _ _ _ _ _ _ _ _ _ _ _ _ _ _ _ _ _ _ _ _ _ _ _ _ _ _ _ _ _ _ _ _ _ _ _ _ _ _ _ _ _ _ _ _ _ _ _ _ _ _ _ _ _ _ _ _ _ _ _ _ _ _ _ _ _ _ _ _ _ _ _ _ _ _ _ _ _ _ _ _ _ _ _ _ _ _ _ _ _ _ _ _ _ _ _ _ _ _ _ _ _ _ _ _ _ _ _ _ _ _ _ _ _ _ _ (by assumption)
                  · have hlt4 : ¬ (z : Int) < (F : Int) := by omega
                    obtain rfl : z = F := by omega
                    have HX : Hid (RX w0 rb vb B q0 bq0 wr ∧ SQ w rb sb ps cs zs (.int .i32 0) (.int .i64 0) (.int .i8 0) (.int .i64 0) wr ∧ Sx B q0 bq0 (rdT ps cs zs)) := ⟨HX.out.1, HX.out.2.1, HX.out.2.2.as (fun _ => by rw [Nat.sub_self, rep0, List.append_nil])⟩
                    clear hgo
                    go_upto_region 32 with fail
                    exact rrest_ w0 rb vb B w Post HPo HBY HRL sb HSB wr q0 bq0 ps cs zs HX hsz _ _ _ _ _ _ _ _ _ _ _ _ _ _ _ _ _ _ _ _ _ _ _ _ _ _ _ _ _ _ _ _ _ _ _ _ _ _ _ _ _ _ _ _ _ _ _ _ _ _ _ _ _ _ _ _ _ _ _ _ _ _ _ _ _ _ _ _ _ _ _ _ _ _ _ _ _ _ _ _ _ _ _ _ _ _ _ _ _ _ _ _ _ _ _ _ _ _ _ _ _ _ _ _ _ _ _ _ _ _ _ _ _ _ _ _ _ _ _ _ _ _ _ _ _ _ _ _ _ _ _ _ _ _ _ _ _ _ _ _ _ _ _ _ _ _ _ _ _ _ _ _ _ _ _ _ _ _ _ _ (by assumption)
theorem rstOk : RstOk := rstate_
end IM
end Go.Proofs.YtmpamcdobhiipaaGreatDoor
