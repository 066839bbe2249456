/-
  The document's name.
-/
import Derived.Test.YtkldllnnocdhbaaGreatDoorRy8
namespace Go.Proofs.YtkldllnnocdhbaaGreatDoor
open Go.RowKit
attribute [local go_sem ↓] Go.wp_at_zero Go.wp_at_succ
namespace TK
/- the cutter at block g: its source, its place, its fault -/
structure RC (w0 : World) (g : Nat) (vb : Value) (B : List Int) (p : Nat) (bad : Int) (W : World) : Prop where
  hp : W.heap[g]? = some (.cells #[vb, .int .i64 p, .int .i64 bad] 73 (0, 0))
  up : Up w0 W
  le : w0.heap.size ≤ g
  bl : BL w0 vb B
  byt : Byt B
  len : B.length ≤ 65536
  at_le : p ≤ B.length
theorem RC.kb {w0 : World} {g : Nat} {vb : Value} {B : List Int} {p : Nat} {bad : Int} {W W' : World} (h : RC w0 g vb B p bad W) (u : Up W W') : RC w0 g vb B p bad W' := ⟨u.heap h.hp, h.up.trans u, h.le, h.bl, h.byt, h.len, h.at_le⟩
theorem RC.cells {w0 : World} {g : Nat} {vb : Value} {B : List Int} {p : Nat} {bad : Int} {W : World} (h : RC w0 g vb B p bad W) : W.cell? ⟨g, 0, none⟩ = some vb ∧ W.cell? ⟨g, 1, none⟩ = some (.int .i64 p) ∧ W.cell? ⟨g, 2, none⟩ = some (.int .i64 bad) := by
  refine ⟨?_, ?_, ?_⟩ <;> simp only [World.cell?, h.hp] <;> rfl
theorem RC.go {w0 : World} {g : Nat} {vb : Value} {B : List Int} {p : Nat} {bad : Int} {W : World} (h : RC w0 g vb B p bad W) (q : Nat) (hq : q ≤ B.length) : RC w0 g vb B q bad (W.setCell ⟨g, 1, none⟩ (.int .i64 (q : Int))) :=
  ⟨by rw [set_cells h.hp]; simp, Below.setCell h.up h.le _, h.le, h.bl, h.byt, h.len, hq⟩
theorem RC.fault {w0 : World} {g : Nat} {vb : Value} {B : List Int} {p : Nat} {bad : Int} {W : World} (h : RC w0 g vb B p bad W) (q : Int) : RC w0 g vb B p q (W.setCell ⟨g, 2, none⟩ (.int .i64 q)) :=
  ⟨by rw [set_cells h.hp]; simp, Below.setCell h.up h.le _, h.le, h.bl, h.byt, h.len, h.at_le⟩
theorem nums_inj {a b : List Int} (ha : Byt a) (hb : Byt b) : (strOfNums a).toList = (strOfNums b).toList ↔ a = b := by
  constructor
  · intro h
    rw [nums_list, nums_list] at h
    have k : ∀ l : List Int, Byt l → (l.map fun n => UInt8.ofNat n.toNat).map (fun b => (b.toNat : Int)) = l := by
      intro l hl
      rw [List.map_map]
      conv => rhs; rw [← List.map_id l]
      refine List.map_congr_left fun c hc => ?_
      have := hl c hc
      simp only [Function.comp, UInt8.toNat_ofNat', id]
      omega
    rw [← k a ha, ← k b hb, h]
  · intro h
    rw [h]
/- whether l stands at the place p -/
def isB (B : List Int) (p : Nat) (l : List Int) : Bool := decide (p + l.length ≤ B.length) && decide (sub B p (p + l.length) = l)
set_option maxRecDepth 100000 in
set_option maxHeartbeats 8000000 in
theorem ris_ (w0 : World) (g : Nat) (vb : Value) (B : List Int) (p : Nat) (bad : Int) (l : List Int) (w : World) (h : RC w0 g vb B p bad w) (hl : Byt l) (hl0 : l.length ≠ 0) (hl9 : l.length ≤ 65536) :
    Calls Tryz.prog 58 #[.pointer (some ⟨g, 0, none⟩), .string (strOfNums l)] w fun e w' => e = .returned (.bool (isB B p l)) ∧ Up w w' := by
  obtain ⟨Post, hPost⟩ : ∃ P : Ending → World → Prop, P = fun e w' => e = .returned (.bool (isB B p l)) ∧ Up w w' := ⟨_, rfl⟩
  rw [← hPost]
  have HPo : Hid (Post = fun e w' => e = .returned (.bool (isB B p l)) ∧ Up w w') := hPost
  clear hPost
  obtain ⟨x0, x1, x2⟩ := h.cells
  obtain ⟨a, c, hvb, hc, hce⟩ := bl_cells (h.bl.up h.up)
  have hlen := h.len
  have hle := h.at_le
  have HBY : Hid (Byt B) := h.byt
  have hsz : (strOfNums l).size = l.length := strOfNums_size _
  obtain ⟨n, hN⟩ : ∃ n, n = B.length := ⟨_, rfl⟩
  have HN : Hid (n = B.length) := hN
  rw [← hN] at hvb hc hce hlen hle
  subst hvb
  have e1 : IntKind.i64.wrap ((p : Int) + ((strOfNums l).size : Int)) = (p : Int) + ((strOfNums l).size : Int) := by rw [IntKind.wrap_i64]; omega
  by_cases hin : p + l.length ≤ n
  · obtain ⟨b, off, rfl, hba⟩ := hce (by omega)
    have hq1 : ((p : Int) + ((strOfNums l).size : Int)) ≤ (n : Int) := by omega
    have hq2 : p + (strOfNums l).size ≤ n := by omega
    have hpc : p < c := by omega
    have hs0 : (0 : Int) ≤ (p : Int) + ((strOfNums l).size : Int) := by omega
    have hs1 : (p : Int) + ((strOfNums l).size : Int) ≤ (c : Int) := by omega
    have hs2 : ((p : Int) + ((strOfNums l).size : Int)).toNat = p + (strOfNums l).size := by omega
    have hs3 : p ≤ c := by omega
    have hs4 : p + (strOfNums l).size ≤ c := by omega
    have hs5 : ¬ c = p := by omega
    have hBA : BA w b off B := fun W u j hj => hba W u j (by omega)
    have hcv : ∀ k, (convert 26 9 (.slice (some ⟨b, off + p, none⟩) (strOfNums l).size (c - p))).run Tryz.prog (w.drewN k) = .ok (.string (strOfNums (sub B p (p + (strOfNums l).size)))) (w.drewN k) := fun k => by
      have h9 := conv_sub (hBA.up ((Up.refl w).drewN k)) (p := p) (e := p + l.length) (by omega) (c - p)
      rw [Nat.add_sub_cancel_left, ← hsz] at h9
      exact h9
    have HE : Hid (isB B p l = decide ((strOfNums (sub B p (p + (strOfNums l).size))).toList = (strOfNums l).toList)) := by
      unfold Hid isB
      rw [decide_eq_true (show p + l.length ≤ B.length by omega), Bool.true_and, hsz]
      exact decide_eq_decide.2 (nums_inj (byt_sub HBY.out (by omega)) hl).symm
    clear hba hBA hsz hN hin hl h hl0 hl9
    generalize strOfNums (sub B p (p + (strOfNums l).size)) = y at *
    generalize strOfNums l = s at *
    by_cases hy : y.toList = s.toList
    · have HE2 : Hid (isB B p l = true) := by unfold Hid; rw [HE.out]; exact decide_eq_true hy
      clear HE
      have hy2 : (y.toList == s.toList) = true := by simpa using hy
      go_enter Tryz.func58, Tryz.ntmps58
      go_wp2_with fail
      go_quiet (fail)
      go_wp2
      rw [HPo.out, HE2.out]
      exact ⟨rfl, (Up.refl _).drewN nq⟩
    · have HE2 : Hid (isB B p l = false) := by unfold Hid; rw [HE.out]; exact decide_eq_false hy
      clear HE
      have hy2 : (y.toList == s.toList) = false := by simpa using hy
      go_enter Tryz.func58, Tryz.ntmps58
      go_wp2_with fail
      go_quiet (fail)
      go_wp2
      rw [HPo.out, HE2.out]
      exact ⟨rfl, (Up.refl _).drewN nq⟩
  · have hq1 : ¬ ((p : Int) + ((strOfNums l).size : Int)) ≤ (n : Int) := by omega
    have HE2 : Hid (isB B p l = false) := by
      unfold Hid isB
      rw [decide_eq_false (by omega), Bool.false_and]
    have hq2 : decide ((p : Int) + ((strOfNums l).size : Int) ≤ (n : Int)) = false := decide_eq_false hq1
    clear hce hsz hN hin hl h hl0 hl9
    generalize strOfNums l = s at *
    go_enter Tryz.func58, Tryz.ntmps58
    go_wp2_with fail
    go_quiet (fail)
    go_wp2
    rw [HPo.out, HE2.out]
    exact ⟨rfl, (Up.refl _).drewN nq⟩
end TK
end Go.Proofs.YtkldllnnocdhbaaGreatDoor
namespace Go.Proofs.YtkldllnnocdhbaaGreatDoor
open Go.RowKit
attribute [local go_sem ↓] Go.wp_at_zero Go.wp_at_succ
namespace TK
/- but for block g nothing that was there has changed -/
def Kg (g : Nat) (w w' : World) : Prop := w.heap.size ≤ w'.heap.size ∧ ∀ k, k < w.heap.size → k ≠ g → w'.heap[k]? = w.heap[k]?
theorem Kg.refl (g : Nat) (w : World) : Kg g w w := ⟨Nat.le_refl _, fun _ _ _ => rfl⟩
theorem Kg.trans {g : Nat} {a b c : World} (h : Kg g a b) (k : Kg g b c) : Kg g a c := ⟨Nat.le_trans h.1 k.1, fun j hj hg => (k.2 j (by have := h.1; omega) hg).trans (h.2 j hj hg)⟩
theorem Kg.up {g : Nat} {a b c : World} (h : Kg g a b) (u : Up b c) : Kg g a c := h.trans ⟨u.size, fun j hj _ => u.block j hj⟩
theorem Kg.set {g : Nat} {a b : World} (h : Kg g a b) (j : Nat) (v : Value) : Kg g a (b.setCell ⟨g, j, none⟩ v) := by
  refine h.trans ⟨by simp [World.setCell], fun k hk hg => ?_⟩
  simp only [World.setCell, Array.getElem?_modify]
  rw [if_neg (fun e => hg e.symm)]
def ptAt (W : World) (g : Nat) : Nat := match W.cell? ⟨g, 1, none⟩ with
  | some (.int _ z) => z.toNat
  | _ => 0
theorem RC.ptAt {w0 : World} {g : Nat} {vb : Value} {B : List Int} {p : Nat} {bad : Int} {W : World} (h : RC w0 g vb B p bad W) : ptAt W g = p := by
  unfold TK.ptAt
  rw [h.cells.2.1]
  exact Int.toNat_natCast p
set_option maxRecDepth 100000 in
set_option maxHeartbeats 8000000 in
theorem cname_ (w0 : World) (g : Nat) (vb : Value) (B : List Int) (p : Nat) (bad : Int) (w : World) (h : RC w0 g vb B p bad w) (hp0 : p < B.length) :
    Calls Tryz.prog 60 #[.pointer (some ⟨g, 0, none⟩)] w fun e w' => e = .returned (.string (strOfNums (sub B p (spn prt B p)))) ∧ RC w0 g vb B (spn prt B p) (if 32 < spn prt B p - p then (p : Int) else bad) w' ∧ Kg g w w' := by
  obtain ⟨Post, hPost⟩ : ∃ P : Ending → World → Prop, P = fun e w' => e = .returned (.string (strOfNums (sub B p (spn prt B p)))) ∧ RC w0 g vb B (spn prt B p) (if 32 < spn prt B p - p then (p : Int) else bad) w' ∧ Kg g w w' := ⟨_, rfl⟩
  rw [← hPost]
  have HPo : Hid (Post = fun e w' => e = .returned (.string (strOfNums (sub B p (spn prt B p)))) ∧ RC w0 g vb B (spn prt B p) (if 32 < spn prt B p - p then (p : Int) else bad) w' ∧ Kg g w w') := hPost
  clear hPost
  have HR : Hid (RC w0 g vb B p bad w) := h
  obtain ⟨x0, x1, x2⟩ := h.cells
  have hlen := h.len
  have HSL : Hid (spn prt B p ≤ B.length) := spn_le prt (by omega)
  obtain ⟨a, c, hvb, hc, hce⟩ := bl_cells h.bl
  obtain ⟨b, off, rfl, hba⟩ := hce (by omega)
  have HBA : Hid (BA w0 b off B) := hba
  obtain ⟨n, hN⟩ : ∃ n, n = B.length := ⟨_, rfl⟩
  have HN : Hid (n = B.length) := hN
  rw [← hN] at hvb hc hlen hp0 HSL
  subst hvb
  clear h hba hce hN
  go_enter Tryz.func60, Tryz.ntmps60
  go_wp2_with fail
  go_loopw [8] (fun _ W => ∃ q : Nat, p ≤ q ∧ spn prt B q = spn prt B p ∧ RC w0 g (.slice (some ⟨b, off, none⟩) n c) B q bad W ∧ Kg g w W) (fun _ W => n - ptAt W g)
  case atStart => exact ⟨p, Nat.le_refl _, rfl, HR.out, Kg.refl _ _⟩
  case round =>
    obtain ⟨q, hpq, hsp, hrc, hkg⟩ := hrel
    have HRC : Hid (RC w0 g (.slice (some ⟨b, off, none⟩) n c) B q bad wr) := hrc
    have HKG : Hid (Kg g w wr) := hkg
    have HSP : Hid (spn prt B q = spn prt B p) := hsp
    have hq := hrc.at_le
    rw [← HN.out] at hq
    obtain ⟨y0, y1, y2⟩ := hrc.cells
    have f1 : wr.frozen? ⟨g, 1, none⟩ = false := by simp [World.frozen?, hrc.hp]
    have f2 : wr.frozen? ⟨g, 2, none⟩ = false := by simp [World.frozen?, hrc.hp]
    clear x0 x1 x2 hrc hkg hsp
    by_cases hlt : q < n
    · have hlt2 : (q : Int) < (n : Int) := by omega
      have hd2 : decide ((q : Int) < (n : Int)) = true := decide_eq_true hlt2
      have hx := HBA.out wr HRC.out.up q (by have := HN.out; omega)
      have HPT : Hid (∀ k, Calls Tryz.prog 86 #[.int .u8 (B.getD q 0)] k fun e w' => e = .returned (.bool (prt (B.getD q 0))) ∧ w' = k) := fun k => part_ _ k
      have HST : Hid (prt (B.getD q 0) = true → spn prt B (q + 1) = spn prt B q) := fun h9 => (spn_more (by have := HN.out; omega) h9).symm
      have HSS : Hid (prt (B.getD q 0) = false → spn prt B q = q) := fun h9 => spn_stop (by have := HN.out; omega) h9
      generalize B.getD q 0 = d at *
      generalize prt d = pd at *
      cases pd
      · have HQ : Hid (q = spn prt B p) := by unfold Hid; rw [← HSP.out]; exact (HSS.out rfl).symm
        clear HST HSS
        have e1 : IntKind.i64.wrap ((q : Int) - (p : Int)) = (q : Int) - (p : Int) := by rw [IntKind.wrap_i64]; omega
        have hpc : p < c := by omega
        have hs3 : p ≤ c := by omega
        have hs4 : q ≤ c := by omega
        have hs5 : ¬ c = p := by omega
        have HCV : Hid (∀ W, Up w0 W → (convert 26 9 (.slice (some ⟨b, off + p, none⟩) (q - p) (c - p))).run Tryz.prog W = .ok (.string (strOfNums (sub B p q))) W) := fun W hu => conv_sub (HBA.out.up hu) (by have := HN.out; omega) _
        by_cases hbig : 32 < q - p
        · have hb2 : (32 : Int) < (q : Int) - (p : Int) := by omega
          go_wp2_with fail
          go_quiet (exact Calls.quiet_of_same (HPT.out _))
          obtain ⟨W9, hW9⟩ : ∃ W9, (wr.drewN nq).setCell ⟨g, 2, none⟩ (.int .i64 (p : Int)) = W9 := ⟨_, rfl⟩
          have HR9 : Hid (RC w0 g (.slice (some ⟨b, off, none⟩) n c) B q (p : Int) W9) := by unfold Hid; rw [← hW9]; exact (HRC.out.kb ((Up.refl _).drewN nq)).fault _
          have HK9 : Hid (Kg g w W9) := by unfold Hid; rw [← hW9]; exact (HKG.out.up ((Up.refl _).drewN nq)).set _ _
          obtain ⟨z0, z1, z2⟩ := HR9.out.cells
          have hcv : ∀ k, (convert 26 9 (.slice (some ⟨b, off + p, none⟩) (q - p) (c - p))).run Tryz.prog (W9.drewN k) = .ok (.string (strOfNums (sub B p q))) (W9.drewN k) := fun k => HCV.out _ (HR9.out.up.drewN k)
          go_wp2_with fail
          go_quiet (fail)
          go_wp2_with fail
          rw [HPo.out, ← HQ.out, if_pos hbig]
          exact ⟨rfl, HR9.out.kb ((Up.refl _).drewN _), HK9.out.up ((Up.refl _).drewN _)⟩
        · have hb2 : ¬ (32 : Int) < (q : Int) - (p : Int) := by omega
          have hcv : ∀ k, (convert 26 9 (.slice (some ⟨b, off + p, none⟩) (q - p) (c - p))).run Tryz.prog (wr.drewN k) = .ok (.string (strOfNums (sub B p q))) (wr.drewN k) := fun k => HCV.out _ (HRC.out.up.drewN k)
          have hcw : ∀ k m, (convert 26 9 (.slice (some ⟨b, off + p, none⟩) (q - p) (c - p))).run Tryz.prog ((wr.drewN k).drewN m) = .ok (.string (strOfNums (sub B p q))) ((wr.drewN k).drewN m) := fun k m => HCV.out _ ((HRC.out.up.drewN k).drewN m)
          go_wp2_with fail
          go_quiet (exact Calls.quiet_of_same (HPT.out _))
          go_wp2_with fail
          go_quiet (fail)
          go_wp2_with fail
          rw [HPo.out, ← HQ.out, if_neg hbig]
          exact ⟨rfl, HRC.out.kb (((Up.refl _).drewN _).drewN _), HKG.out.up (((Up.refl _).drewN _).drewN _)⟩
      · have HQ : Hid (spn prt B (q + 1) = spn prt B p) := by unfold Hid; rw [← HSP.out]; exact HST.out rfl
        have ei : IntKind.i64.wrap ((q : Int) + 1) = ((q + 1 : Nat) : Int) := by rw [IntKind.wrap_i64]; omega
        clear HST HSS
        go_wp2_with fail
        go_quiet (exact Calls.quiet_of_same (HPT.out _))
        go_wp2_with fail
        go_roundw
        case rel => exact ⟨q + 1, by omega, HQ.out, (HRC.out.kb ((Up.refl _).drewN nq)).go (q + 1) (by have := HN.out; omega), (HKG.out.up ((Up.refl _).drewN nq)).set _ _⟩
        case measure =>
          have hcst : (q : Int) + 1 = ((q + 1 : Nat) : Int) := by omega
          rw [hcst, ((HRC.out.kb ((Up.refl _).drewN nq)).go (q + 1) (by have := HN.out; omega)).ptAt, HRC.out.ptAt]
          omega
    · have hlt2 : ¬ (q : Int) < (n : Int) := by omega
      have hd2 : decide ((q : Int) < (n : Int)) = false := decide_eq_false hlt2
      have HQ : Hid (q = spn prt B p) := by unfold Hid; rw [← HSP.out]; exact (spn_end (by have := HN.out; omega)).symm
      have e1 : IntKind.i64.wrap ((q : Int) - (p : Int)) = (q : Int) - (p : Int) := by rw [IntKind.wrap_i64]; omega
      have hpc : p < c := by omega
      have hs3 : p ≤ c := by omega
      have hs4 : q ≤ c := by omega
      have hs5 : ¬ c = p := by omega
      have HCV : Hid (∀ W, Up w0 W → (convert 26 9 (.slice (some ⟨b, off + p, none⟩) (q - p) (c - p))).run Tryz.prog W = .ok (.string (strOfNums (sub B p q))) W) := fun W hu => conv_sub (HBA.out.up hu) (by have := HN.out; omega) _
      by_cases hbig : 32 < q - p
      · have hb2 : (32 : Int) < (q : Int) - (p : Int) := by omega
        go_wp2_with fail
        go_quiet (fail)
        obtain ⟨W9, hW9⟩ : ∃ W9, (wr.drewN nq).setCell ⟨g, 2, none⟩ (.int .i64 (p : Int)) = W9 := ⟨_, rfl⟩
        have HR9 : Hid (RC w0 g (.slice (some ⟨b, off, none⟩) n c) B q (p : Int) W9) := by unfold Hid; rw [← hW9]; exact (HRC.out.kb ((Up.refl _).drewN nq)).fault _
        have HK9 : Hid (Kg g w W9) := by unfold Hid; rw [← hW9]; exact (HKG.out.up ((Up.refl _).drewN nq)).set _ _
        obtain ⟨z0, z1, z2⟩ := HR9.out.cells
        have hcv : ∀ k, (convert 26 9 (.slice (some ⟨b, off + p, none⟩) (q - p) (c - p))).run Tryz.prog (W9.drewN k) = .ok (.string (strOfNums (sub B p q))) (W9.drewN k) := fun k => HCV.out _ (HR9.out.up.drewN k)
        go_wp2_with fail
        go_quiet (fail)
        go_wp2_with fail
        rw [HPo.out, ← HQ.out, if_pos hbig]
        exact ⟨rfl, HR9.out.kb ((Up.refl _).drewN _), HK9.out.up ((Up.refl _).drewN _)⟩
      · have hb2 : ¬ (32 : Int) < (q : Int) - (p : Int) := by omega
        have hcv : ∀ k, (convert 26 9 (.slice (some ⟨b, off + p, none⟩) (q - p) (c - p))).run Tryz.prog (wr.drewN k) = .ok (.string (strOfNums (sub B p q))) (wr.drewN k) := fun k => HCV.out _ (HRC.out.up.drewN k)
        have hcw : ∀ k m, (convert 26 9 (.slice (some ⟨b, off + p, none⟩) (q - p) (c - p))).run Tryz.prog ((wr.drewN k).drewN m) = .ok (.string (strOfNums (sub B p q))) ((wr.drewN k).drewN m) := fun k m => HCV.out _ ((HRC.out.up.drewN k).drewN m)
        go_wp2_with fail
        go_quiet (fail)
        go_wp2_with fail
        go_quiet (fail)
        go_wp2_with fail
        rw [HPo.out, ← HQ.out, if_neg hbig]
        exact ⟨rfl, HRC.out.kb (((Up.refl _).drewN _).drewN _), HKG.out.up (((Up.refl _).drewN _).drewN _)⟩
end TK
end Go.Proofs.YtkldllnnocdhbaaGreatDoor
