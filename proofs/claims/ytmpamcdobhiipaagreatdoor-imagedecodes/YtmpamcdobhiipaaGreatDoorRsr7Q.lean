/-
  The document's reader: a whole state: what stands behind the lists.
-/
import Derived.Test.YtmpamcdobhiipaaGreatDoorRsx7ToRf
namespace Go.Proofs.YtmpamcdobhiipaaGreatDoor
open Go.RowKit
attribute [local go_sem ↓] Go.wp_at_zero Go.wp_at_succ

namespace IM
open Go.Proofs.YtmpamcdobhiipaaGreatDoor.ST
/- the code from a region on, and what stands behind it -/
def aft (k : Nat) : Code → Option (Code × Code)
  | .seq (.region r o m) b => if r = k then some (.region r o m, b) else aft k b
  | .seq a b => match aft k a with
    | some c => some c
    | none => aft k b
  | .block _ c => aft k c
  | .loop c => aft k c
  | _ => none
noncomputable def cR : Code := match Tryz.f18.body.bind (aft 32) with
  | some c => c.1
  | none => .skip
noncomputable def cA : Code := match Tryz.f18.body.bind (aft 32) with
  | some c => c.2
  | none => .skip
set_option maxRecDepth 100000 in
set_option maxHeartbeats 16000000 in
theorem rrest_ (w0 : World) (rb : Nat) (vb : Value) (B : List Int) (w : World) (Post : Ending → World → Prop) (HPo : Hid (Post = RsQ w0 rb vb B w)) (HBY : Hid (Byt B)) (HRL : Hid (rb < w.heap.size ∧ w0.heap.size ≤ w.heap.size)) (sb : Nat) (HSB : Hid (sb = w.heap.size + 1)) (W : World) (p : Nat) (bd : Bool) (ps : List Ply) (cs : List Crd) (zs : List (List Int)) (HX : Hid (RX w0 rb vb B p bd W ∧ SQ w rb sb ps cs zs (.int .i32 0) (.int .i64 0) (.int .i8 0) (.int .i64 0) W ∧ Sx B p bd (rdT ps cs zs))) (hsz : w.heap.size ≤ W.heap.size) (x1 x4 x5 x6 x7 x8 x9 x10 x11 x12 x13 x14 x15 x16 x17 x18 x19 x20 x21 x22 x23 x24 x25 x26 x27 x28 x29 x30 x31 x32 x33 x34 x35 x36 x37 x38 x39 x40 x41 x42 x43 x44 x45 x46 x47 x48 x49 x50 x51 x52 x53 x54 x55 x56 x57 x58 x59 x60 x61 x62 x63 x64 x65 x66 x67 x68 x69 x70 x71 x72 x73 x74 x75 x76 x77 x78 x79 x80 x81 x82 x83 x84 x85 x86 x87 x88 x89 x90 x91 x92 x93 x94 x95 x96 x97 x98 x99 x100 x101 x102 x103 x104 x105 x106 x107 x108 x109 x110 x111 x112 x113 x114 x115 x116 x117 x118 x119 x120 x121 x122 x123 x124 x125 x126 x127 x128 x129 x130 x131 x132 x133 x134 x135 x136 x137 x138 x139 x140 x141 x142 x143 x144 x145 x146 x147 x148 x149 x150 x151 x152 x153 x154 x155 x156 x157 x158 x159 x160 x161 : Value) (K : Act → World → Prop) (hK : ∀ a w, Code.wp Tryz.prog cA (bodyPost Tryz.prog Tryz.f18 Post) a w → K a w) :
    Code.wp Tryz.prog cR (Exit.then K (bodyPost Tryz.prog Tryz.f18 Post)) ⟨#[.pointer (some ⟨rb, 0, none⟩), x1, .pointer (some ⟨w.heap.size, 0, none⟩), .pointer (some ⟨sb, 0, none⟩), x4, x5, x6, x7, x8, x9, x10, x11, x12, x13, x14, x15, x16, x17, x18, x19, x20, x21, x22, x23, x24, x25, x26, x27, x28, x29, x30, x31, x32, x33, x34, x35, x36, x37, x38, x39, x40, x41, x42, x43, x44, x45, x46, x47, x48, x49, x50, x51, x52, x53, x54, x55, x56, x57, x58, x59, x60, x61, x62, x63, x64, x65, x66, x67, x68, x69, x70, x71, x72, x73, x74, x75, x76, x77, x78, x79, x80, x81, x82, x83, x84, x85, x86, x87, x88, x89, x90, x91, x92, x93, x94, x95, x96, x97, x98, x99, x100, x101, x102, x103, x104, x105, x106, x107, x108, x109, x110, x111, x112, x113, x114, x115, x116, x117, x118, x119, x120, x121, x122, x123, x124, x125, x126, x127, x128, x129, x130, x131, x132, x133, x134, x135, x136, x137, x138, x139, x140, x141, x142, x143, x144, x145, x146, x147, x148, x149, x150, x151, x152, x153, x154, x155, x156, x157, x158, x159, x160, x161], []⟩ W := by
  conv => arg 2; whnf
  conv at hK => enter [a, w, 1, 2]; whnf
  rw [rdT_all] at HX
  go_wp2_with fail
  try clear x2
  refine Calls.mono (rnumber_ w0 rb vb B p bd 4 W HX.out.1 (by decide)) ?_
  rintro r U22 ⟨rfl, hr, hk⟩
  have hq := HX.out.2.1.kb hk HX.out.1.hp
  have hs := sx4 HX.out.2.2
  have hy22 := nv4_in HBY.out p bd
  have hsz : w.heap.size ≤ U22.heap.size := Nat.le_trans hsz hk.2
  generalize na B p bd 4 = p22 at hr hs
  generalize nb B p bd 4 = bd22 at hr hs
  generalize nv B p bd 4 = y22 at *
  have HX : Hid (RX w0 rb vb B p22 bd22 U22 ∧ SQ w rb sb ps cs zs (.int .i32 0) (.int .i64 0) (.int .i8 0) (.int .i64 0) U22 ∧ Sx B p22 bd22 _) := ⟨hr, hq, hs⟩
  clear hr hq hs hk
  have cv22 := w32_sg hy22
  have cw22 := (w32e y22).symm.trans cv22
  obtain ⟨s22, hs22⟩ : ∃ z, z = sg y22 := ⟨_, rfl⟩
  rw [← hs22] at cv22 cw22 HX
  clear hs22
  obtain ⟨xc22, fz22⟩ : U22.cell? ⟨sb, 3, none⟩ = some (.int .i32 0) ∧ U22.frozen? ⟨sb, 3, none⟩ = false := ⟨HX.out.2.1.cell.1, HX.out.2.1.cell.2.2.2.2 _⟩
  obtain ⟨T22, hT22⟩ : ∃ V, U22.setCell ⟨sb, 3, none⟩ (.int .i32 s22) = V := ⟨_, rfl⟩
  have HX : Hid (RX w0 rb vb B p22 bd22 T22 ∧ SQ w rb sb ps cs zs (.int .i32 s22) (.int .i64 0) (.int .i8 0) (.int .i64 0) T22 ∧ Sx B p22 bd22 _) := ⟨by rw [← hT22]; exact HX.out.1.other _ _ _ (by have := HRL.out; have := HSB.out; omega) (by have := HRL.out; have := HSB.out; omega), by rw [← hT22]; exact (HX.out.2.1.set HSB.out _).1, HX.out.2.2⟩
  have hsz : w.heap.size ≤ T22.heap.size := by rw [← hT22]; simpa [World.setCell] using hsz
  have HT22 : Hid (_ = T22) := hT22
  clear hT22
  go_wp2_with fail
  refine calls_world HT22.out ?_
  clear HT22 xc22 fz22
  refine Calls.mono (rnumber_ w0 rb vb B p22 bd22 1 T22 HX.out.1 (by decide)) ?_
  rintro r U23 ⟨rfl, hr, hk⟩
  have hq := HX.out.2.1.kb hk HX.out.1.hp
  have hs := sx1 HX.out.2.2
  have hy23 := nv1_in HBY.out p22 bd22
  have hsz : w.heap.size ≤ U23.heap.size := Nat.le_trans hsz hk.2
  generalize na B p22 bd22 1 = p23 at hr hs
  generalize nb B p22 bd22 1 = bd23 at hr hs
  generalize nv B p22 bd22 1 = y23 at *
  have HX : Hid (RX w0 rb vb B p23 bd23 U23 ∧ SQ w rb sb ps cs zs (.int .i32 s22) (.int .i64 0) (.int .i8 0) (.int .i64 0) U23 ∧ Sx B p23 bd23 _) := ⟨hr, hq, hs⟩
  clear hr hq hs hk
  obtain ⟨xc23, fz23⟩ : U23.cell? ⟨sb, 4, none⟩ = some (.int .i64 0) ∧ U23.frozen? ⟨sb, 4, none⟩ = false := ⟨HX.out.2.1.cell.2.1, HX.out.2.1.cell.2.2.2.2 _⟩
  obtain ⟨T23, hT23⟩ : ∃ V, U23.setCell ⟨sb, 4, none⟩ (.int .i64 y23) = V := ⟨_, rfl⟩
  have HX : Hid (RX w0 rb vb B p23 bd23 T23 ∧ SQ w rb sb ps cs zs (.int .i32 s22) (.int .i64 y23) (.int .i8 0) (.int .i64 0) T23 ∧ Sx B p23 bd23 _) := ⟨by rw [← hT23]; exact HX.out.1.other _ _ _ (by have := HRL.out; have := HSB.out; omega) (by have := HRL.out; have := HSB.out; omega), by rw [← hT23]; exact (HX.out.2.1.set HSB.out _).2.1, HX.out.2.2⟩
  have hsz : w.heap.size ≤ T23.heap.size := by rw [← hT23]; simpa [World.setCell] using hsz
  have HT23 : Hid (_ = T23) := hT23
  clear hT23
  go_wp2_with fail
  refine calls_world HT23.out ?_
  clear HT23 xc23 fz23
  refine Calls.mono (rnumber_ w0 rb vb B p23 bd23 1 T23 HX.out.1 (by decide)) ?_
  rintro r U24 ⟨rfl, hr, hk⟩
  have hq := HX.out.2.1.kb hk HX.out.1.hp
  have hs := sx1 HX.out.2.2
  have hy24 := nv1_in HBY.out p23 bd23
  have hsz : w.heap.size ≤ U24.heap.size := Nat.le_trans hsz hk.2
  generalize na B p23 bd23 1 = p24 at hr hs
  generalize nb B p23 bd23 1 = bd24 at hr hs
  generalize nv B p23 bd23 1 = y24 at *
  have HX : Hid (RX w0 rb vb B p24 bd24 U24 ∧ SQ w rb sb ps cs zs (.int .i32 s22) (.int .i64 y23) (.int .i8 0) (.int .i64 0) U24 ∧ Sx B p24 bd24 _) := ⟨hr, hq, hs⟩
  clear hr hq hs hk
  have cv24 := w8i hy24
  obtain ⟨s24, hs24⟩ : ∃ z, z = i8 y24 := ⟨_, rfl⟩
  rw [← hs24] at cv24 HX
  clear hs24
  obtain ⟨xc24, fz24⟩ : U24.cell? ⟨sb, 5, none⟩ = some (.int .i8 0) ∧ U24.frozen? ⟨sb, 5, none⟩ = false := ⟨HX.out.2.1.cell.2.2.1, HX.out.2.1.cell.2.2.2.2 _⟩
  obtain ⟨T24, hT24⟩ : ∃ V, U24.setCell ⟨sb, 5, none⟩ (.int .i8 s24) = V := ⟨_, rfl⟩
  have HX : Hid (RX w0 rb vb B p24 bd24 T24 ∧ SQ w rb sb ps cs zs (.int .i32 s22) (.int .i64 y23) (.int .i8 s24) (.int .i64 0) T24 ∧ Sx B p24 bd24 _) := ⟨by rw [← hT24]; exact HX.out.1.other _ _ _ (by have := HRL.out; have := HSB.out; omega) (by have := HRL.out; have := HSB.out; omega), by rw [← hT24]; exact (HX.out.2.1.set HSB.out _).2.2.1, HX.out.2.2⟩
  have hsz : w.heap.size ≤ T24.heap.size := by rw [← hT24]; simpa [World.setCell] using hsz
  have HT24 : Hid (_ = T24) := hT24
  clear hT24
  go_wp2_with fail
  refine calls_world HT24.out ?_
  clear HT24 xc24 fz24
  refine Calls.mono (rnumber_ w0 rb vb B p24 bd24 1 T24 HX.out.1 (by decide)) ?_
  rintro r U25 ⟨rfl, hr, hk⟩
  have hq := HX.out.2.1.kb hk HX.out.1.hp
  have hs := sx1 HX.out.2.2
  have hy25 := nv1_in HBY.out p24 bd24
  have hsz : w.heap.size ≤ U25.heap.size := Nat.le_trans hsz hk.2
  generalize na B p24 bd24 1 = p25 at hr hs
  generalize nb B p24 bd24 1 = bd25 at hr hs
  generalize nv B p24 bd24 1 = y25 at *
  have HX : Hid (RX w0 rb vb B p25 bd25 U25 ∧ SQ w rb sb ps cs zs (.int .i32 s22) (.int .i64 y23) (.int .i8 s24) (.int .i64 0) U25 ∧ Sx B p25 bd25 _) := ⟨hr, hq, hs⟩
  clear hr hq hs hk
  obtain ⟨xc25, fz25⟩ : U25.cell? ⟨sb, 6, none⟩ = some (.int .i64 0) ∧ U25.frozen? ⟨sb, 6, none⟩ = false := ⟨HX.out.2.1.cell.2.2.2.1, HX.out.2.1.cell.2.2.2.2 _⟩
  obtain ⟨T25, hT25⟩ : ∃ V, U25.setCell ⟨sb, 6, none⟩ (.int .i64 y25) = V := ⟨_, rfl⟩
  have HX : Hid (RX w0 rb vb B p25 bd25 T25 ∧ SQ w rb sb ps cs zs (.int .i32 s22) (.int .i64 y23) (.int .i8 s24) (.int .i64 y25) T25 ∧ Sx B p25 bd25 _) := ⟨by rw [← hT25]; exact HX.out.1.other _ _ _ (by have := HRL.out; have := HSB.out; omega) (by have := HRL.out; have := HSB.out; omega), by rw [← hT25]; exact (HX.out.2.1.set HSB.out _).2.2.2, HX.out.2.2⟩
  have hsz : w.heap.size ≤ T25.heap.size := by rw [← hT25]; simpa [World.setCell] using hsz
  have HT25 : Hid (_ = T25) := hT25
  clear hT25
  go_upto_region 36 with fail
  rw [HT25.out]
  clear HT25 xc25 fz25
  obtain ⟨S, hS1, hS2, gS, gR, hSO, hKK⟩ := SQ.soa (s := ⟨ps, cs, zs, s22, y23, s24, y25⟩) HX.out.2.1
  have HSF : Hid (SOA w.heap.size T25 (.agg S) ⟨ps, cs, zs, s22, y23, s24, y25⟩ ∧ Kb (fun x => x = rb ∨ w.heap.size ≤ x) w T25 ∧ RX w0 rb vb B p25 bd25 T25 ∧ Sx B p25 bd25 (ret ⟨ps, cs, zs, s22, y23, s24, y25⟩)) := ⟨hSO, hKK, HX.out.1, HX.out.2.2⟩
  obtain ⟨y0, y1, y2, fz⟩ := HX.out.1.cells
  have fz2 := fz 2
  obtain ⟨va, vL, vcp, hvb⟩ : ∃ a n c, vb = .slice a n c ∧ n = B.length := by
    obtain ⟨a, c, hv, -⟩ := byte_at (HX.out.1.bl.up HX.out.1.up)
    exact ⟨_, _, _, hv, rfl⟩
  obtain ⟨rfl, hvL⟩ := hvb
  have HVL : Hid (vL = B.length) := hvL
  clear hSO hKK fz HX hvL
  go_wp2_with fail
  cases bd25 with
  | true =>
    refine TailR.wp_region_seq 16 (by kernel_rfl) (by kernel_rfl) ?_
    simp only [List.take_succ_cons, List.take_zero, List.drop_succ_cons, List.drop_zero]
    repeat (go_big_quiet_step (fail))
    refine wpQuiet_nil ?_
    intro _ hw'
    obtain ⟨nq, hw''⟩ := hw'
    subst hw''
    have gS9 : (T25.drewN nq).heap[sb]? = some (.cells S 30 (0, 0)) := gS
    have gR9 : (T25.drewN nq).heap[w.heap.size]? = some (.cells zA 30 (0, 0)) := gR
    have HR9 : Hid (RX w0 rb (.slice va vL vcp) B p25 true (T25.drewN nq) ∧ FxP B p25 true ⟨ps, cs, zs, s22, y23, s24, y25⟩ ∧ SOA w.heap.size (T25.drewN nq) (.agg S) ⟨ps, cs, zs, s22, y23, s24, y25⟩ ∧ Kb (fun x => x = rb ∨ w.heap.size ≤ x) w (T25.drewN nq)) := ⟨HSF.out.2.2.1.kb ((Up.refl _).drewN nq), fx_bad _ HSF.out.2.2.2, HSF.out.1.up ((Up.refl _).drewN nq), HSF.out.2.1.trans (Kb.drewN nq)⟩
    go_wp2_with (first | (refine wpList_load_rowG (by rfl) 30 (.tmp 3) (by rfl) sb (by rfl) 30 S (0, 0) _ gS9 Tryz.underlying30 (by rfl) (by rw [hS1]; exact infoSt) ?_) | (refine wpList_store_row (by rfl) 30 (.tmp 2) (.tmp 161) (by rfl) w.heap.size S (by rfl) (by rfl) 30 zA gR9 (by rw [hS1]; exact infoSt) (by rw [hS1]; rfl) hS2 ?_))
    refine bodyPost_ret (v := .agg S) (results_cell_row (p := 2) (ty := 30) rfl _ _ w.heap.size 30 S (0, 0) _ rfl (setRow_heap _ _ _ _ _ _ gR9) Tryz.underlying30 rfl (by rw [hS1]; exact infoSt)) rfl ?_
    rw [HPo.out]
    exact rsq_end HRL.out.1 HRL.out.2 HR9.out.1 HR9.out.2.1 gR9 HR9.out.2.2.1 HR9.out.2.2.2
  | false =>
    by_cases hpl9 : p25 < vL
    · have hp9 : (p25 : Int) < (vL : Int) := by omega
      refine TailR.wp_region_seq 16 (by kernel_rfl) (by kernel_rfl) ?_
      simp only [List.take_succ_cons, List.take_zero, List.drop_succ_cons, List.drop_zero]
      repeat (go_big_quiet_step (fail))
      refine wpQuiet_nil ?_
      intro _ hw'
      obtain ⟨nq, hw''⟩ := hw'
      subst hw''
      have gS9 : (T25.drewN nq |>.setCell ⟨rb, 2, none⟩ (.bool true)).heap[sb]? = some (.cells S 30 (0, 0)) := set_other (W := T25.drewN nq) gS (by have := HRL.out; have := HSB.out; omega)
      have gR9 : (T25.drewN nq |>.setCell ⟨rb, 2, none⟩ (.bool true)).heap[w.heap.size]? = some (.cells zA 30 (0, 0)) := set_other (W := T25.drewN nq) gR (by have := HRL.out; omega)
      have HR9 : Hid (RX w0 rb (.slice va vL vcp) B p25 true (T25.drewN nq |>.setCell ⟨rb, 2, none⟩ (.bool true)) ∧ FxP B p25 true ⟨ps, cs, zs, s22, y23, s24, y25⟩ ∧ SOA w.heap.size (T25.drewN nq |>.setCell ⟨rb, 2, none⟩ (.bool true)) (.agg S) ⟨ps, cs, zs, s22, y23, s24, y25⟩ ∧ Kb (fun x => x = rb ∨ w.heap.size ≤ x) w (T25.drewN nq |>.setCell ⟨rb, 2, none⟩ (.bool true))) := ⟨HSF.out.2.2.1.bad nq, fx_more HSF.out.2.2.2 (by rw [← HVL.out]; exact hpl9), soa_set (HSF.out.1.up ((Up.refl _).drewN nq)) HRL.out.1, HSF.out.2.1.trans (Kb.set nq (.inl rfl))⟩
      go_wp2_with (first | (refine wpList_load_rowG (by rfl) 30 (.tmp 3) (by rfl) sb (by rfl) 30 S (0, 0) _ gS9 Tryz.underlying30 (by rfl) (by rw [hS1]; exact infoSt) ?_) | (refine wpList_store_row (by rfl) 30 (.tmp 2) (.tmp 161) (by rfl) w.heap.size S (by rfl) (by rfl) 30 zA gR9 (by rw [hS1]; exact infoSt) (by rw [hS1]; rfl) hS2 ?_))
      refine bodyPost_ret (v := .agg S) (results_cell_row (p := 2) (ty := 30) rfl _ _ w.heap.size 30 S (0, 0) _ rfl (setRow_heap _ _ _ _ _ _ gR9) Tryz.underlying30 rfl (by rw [hS1]; exact infoSt)) rfl ?_
      rw [HPo.out]
      exact rsq_end HRL.out.1 HRL.out.2 HR9.out.1 HR9.out.2.1 gR9 HR9.out.2.2.1 HR9.out.2.2.2
    · have hp9 : ¬ (p25 : Int) < (vL : Int) := by omega
      refine TailR.wp_region_seq 16 (by kernel_rfl) (by kernel_rfl) ?_
      simp only [List.take_succ_cons, List.take_zero, List.drop_succ_cons, List.drop_zero]
      repeat (go_big_quiet_step (fail))
      refine wpQuiet_nil ?_
      intro _ hw'
      obtain ⟨nq, hw''⟩ := hw'
      subst hw''
      have gS9 : (T25.drewN nq).heap[sb]? = some (.cells S 30 (0, 0)) := gS
      have gR9 : (T25.drewN nq).heap[w.heap.size]? = some (.cells zA 30 (0, 0)) := gR
      have HR9 : Hid (RX w0 rb (.slice va vL vcp) B p25 false (T25.drewN nq) ∧ FxP B p25 false ⟨ps, cs, zs, s22, y23, s24, y25⟩ ∧ SOA w.heap.size (T25.drewN nq) (.agg S) ⟨ps, cs, zs, s22, y23, s24, y25⟩ ∧ Kb (fun x => x = rb ∨ w.heap.size ≤ x) w (T25.drewN nq)) := ⟨HSF.out.2.2.1.kb ((Up.refl _).drewN nq), fx_end HSF.out.2.2.2 (by rw [← HVL.out]; exact hpl9), HSF.out.1.up ((Up.refl _).drewN nq), HSF.out.2.1.trans (Kb.drewN nq)⟩
      go_wp2_with (first | (refine wpList_load_rowG (by rfl) 30 (.tmp 3) (by rfl) sb (by rfl) 30 S (0, 0) _ gS9 Tryz.underlying30 (by rfl) (by rw [hS1]; exact infoSt) ?_) | (refine wpList_store_row (by rfl) 30 (.tmp 2) (.tmp 161) (by rfl) w.heap.size S (by rfl) (by rfl) 30 zA gR9 (by rw [hS1]; exact infoSt) (by rw [hS1]; rfl) hS2 ?_))
      refine bodyPost_ret (v := .agg S) (results_cell_row (p := 2) (ty := 30) rfl _ _ w.heap.size 30 S (0, 0) _ rfl (setRow_heap _ _ _ _ _ _ gR9) Tryz.underlying30 rfl (by rw [hS1]; exact infoSt)) rfl ?_
      rw [HPo.out]
      exact rsq_end HRL.out.1 HRL.out.2 HR9.out.1 HR9.out.2.1 gR9 HR9.out.2.2.1 HR9.out.2.2.2
end IM
end Go.Proofs.YtmpamcdobhiipaaGreatDoor
