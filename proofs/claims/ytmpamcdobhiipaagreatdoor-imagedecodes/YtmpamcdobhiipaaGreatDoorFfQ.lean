/-
  The first thing that is not so.
-/
import Derived.Test.YtmpamcdobhiipaaGreatDoorLaQ
namespace Go.Proofs.YtmpamcdobhiipaaGreatDoor
open Go.RowKit
attribute [local go_sem ↓] Go.wp_at_zero Go.wp_at_succ

namespace ST
theorem idx0 (b0 b1 b2 b3 : Bool) : ∀ w, (Instr.index 148 (.agg #[.bool b0, .bool b1, .bool b2, .bool b3]) (.int .i64 0)).run Tryz.prog w = .ok (.bool b0) w := fun w => by kernel_rfl
theorem idx1 (b0 b1 b2 b3 : Bool) : ∀ w, (Instr.index 148 (.agg #[.bool b0, .bool b1, .bool b2, .bool b3]) (.int .i64 1)).run Tryz.prog w = .ok (.bool b1) w := fun w => by kernel_rfl
theorem idx2 (b0 b1 b2 b3 : Bool) : ∀ w, (Instr.index 148 (.agg #[.bool b0, .bool b1, .bool b2, .bool b3]) (.int .i64 2)).run Tryz.prog w = .ok (.bool b2) w := fun w => by kernel_rfl
theorem idx3 (b0 b1 b2 b3 : Bool) : ∀ w, (Instr.index 148 (.agg #[.bool b0, .bool b1, .bool b2, .bool b3]) (.int .i64 3)).run Tryz.prog w = .ok (.bool b3) w := fun w => by kernel_rfl
theorem findIdx_at {A : Type} (l : List A) (f : A → Bool) (d : A) (i : Nat) (hi : i < l.length) (h1 : ∀ j, j < i → f (l.getD j d) = true) (h2 : f (l.getD i d) = false) : l.findIdx? (fun x => !f x) = some i := by
  have g : ∀ j (hj : j < l.length), l.getD j d = l[j] := fun j hj => by rw [List.getD_eq_getElem?_getD, List.getElem?_eq_getElem hj]; rfl
  rw [List.findIdx?_eq_some_iff_getElem]
  refine ⟨hi, by rw [← g i hi, h2]; rfl, fun j hj => ?_⟩
  have := h1 j hj
  rw [g j (by omega)] at this
  simp [this]
theorem findIdx_no {A : Type} (l : List A) (f : A → Bool) (d : A) (h : ∀ j, j < l.length → f (l.getD j d) = true) : l.findIdx? (fun x => !f x) = none := by
  rw [findIdx_none]
  intro x hx
  obtain ⟨j, hj, rfl⟩ := List.getElem_of_mem hx
  have := h j hj
  rwa [List.getD_eq_getElem?_getD, List.getElem?_eq_getElem hj] at this
def lastF (s : Stt) : Option Nat :=
      if ¬ 1 ≤ s.turn then some (2 + s.ps.length + 2 * s.cs.length) else
      if numB s.whose s.ps.length = false then some (3 + s.ps.length + 2 * s.cs.length) else
      if finB s = false then some (4 + s.ps.length + 2 * s.cs.length) else
      if winB s = false then some (5 + s.ps.length + 2 * s.cs.length) else none
theorem ff_sizes {s : Stt} (h : sizesB s = false) : ff s = some 0 := by unfold ff; rw [if_pos h]
theorem ff_ply {s : Stt} (h : sizesB s = true) {i : Nat} (h1 : s.ps.findIdx? (fun p => !plyB p) = some i) : ff s = some (1 + i) := by unfold ff; rw [if_neg (by simp [h]), h1]
theorem ff_crd {s : Stt} (h : sizesB s = true) (h1 : s.ps.findIdx? (fun p => !plyB p) = none) {i : Nat} (h2 : s.cs.findIdx? (fun c => !crdB s.ps.length c) = some i) : ff s = some (1 + s.ps.length + i) := by unfold ff; rw [if_neg (by simp [h]), h1, h2]
theorem ff_ent {s : Stt} (h : sizesB s = true) (h1 : s.ps.findIdx? (fun p => !plyB p) = none) (h2 : s.cs.findIdx? (fun c => !crdB s.ps.length c) = none) (h3 : good s.cs.length (flat s) < (flat s).length ∨ good s.cs.length (flat s) < s.cs.length) : ff s = some (1 + s.ps.length + s.cs.length + good s.cs.length (flat s)) := by
  unfold ff; rw [if_neg (by simp [h]), h1, h2]; dsimp only; rw [if_pos h3]
theorem ff_last {s : Stt} (h : sizesB s = true) (h1 : s.ps.findIdx? (fun p => !plyB p) = none) (h2 : s.cs.findIdx? (fun c => !crdB s.ps.length c) = none) (h3 : ¬ (good s.cs.length (flat s) < (flat s).length ∨ good s.cs.length (flat s) < s.cs.length)) : ff s = lastF s := by
  unfold ff; rw [if_neg (by simp [h]), h1, h2]; dsimp only; rw [if_neg h3]; rfl
def FPost (w : World) (r : Option Nat) (e : Ending) (w' : World) : Prop := e = .returned (.tuple #[.int .i64 (r.getD 0 : Nat), .bool r.isSome]) ∧ Up w w'
/- what lies in memory is not beyond reach -/
def Small (s : Stt) : Prop := s.ps.length ≤ 4294967296 ∧ s.cs.length ≤ 4294967296 ∧ s.zs.length ≤ 4294967296 ∧ ∀ r, r < s.zs.length → (s.zs.getD r []).length ≤ 4294967296
set_option maxRecDepth 100000 in
set_option maxHeartbeats 4000000 in
theorem firstFault_ (v : Value) (s : Stt) (w : World) (hs : StL w v s) (hsm : Small s) :
    Calls Tryz.prog 50 #[v] w (FPost w (ff s)) := by
  obtain ⟨vp, vc, vz, rfl, h1, h2, h3⟩ := hs
  have hsl : StL w (sv vp vc vz s) s := ⟨vp, vc, vz, rfl, h1, h2, h3⟩
  obtain ⟨a1, k1, rfl, -, c1⟩ := pl_at h1
  obtain ⟨a2, k2, rfl, -, c2⟩ := cl_at h2
  obtain ⟨a3, k3, rfl, -, -⟩ := zl_at h3
  clear h1 h2 h3
  obtain ⟨Post, hPost⟩ : ∃ P : Ending → World → Prop, P = FPost w (ff s) := ⟨_, rfl⟩
  rw [← hPost]
  have HP : Hid (Post = FPost w (ff s)) := hPost
  obtain ⟨np, hnp⟩ : ∃ n, n = s.ps.length := ⟨_, rfl⟩
  obtain ⟨nc, hnc⟩ : ∃ n, n = s.cs.length := ⟨_, rfl⟩
  obtain ⟨nz, hnz⟩ : ∃ n, n = s.zs.length := ⟨_, rfl⟩
  have HN : Hid (np = s.ps.length ∧ nc = s.cs.length ∧ nz = s.zs.length) := ⟨hnp, hnc, hnz⟩
  have HSL : Hid (StL w (sv (.slice a1 np k1) (.slice a2 nc k2) (.slice a3 nz k3) s) s) := by unfold Hid; rw [hnp, hnc, hnz]; exact hsl
  have HSM : Hid (Small s) := hsm
  have hs1 : np ≤ 4294967296 := by rw [hnp]; exact hsm.1
  have hs2 : nc ≤ 4294967296 := by rw [hnc]; exact hsm.2.1
  rw [← hnp] at c1 ⊢
  rw [← hnc] at c2 ⊢
  rw [← hnz]
  have H1 : Hid _ := c1
  have H2 : Hid _ := c2
  unfold sv at HSL ⊢
  obtain ⟨tu, htu⟩ : ∃ z, z = s.turn := ⟨_, rfl⟩
  obtain ⟨wo, hwo⟩ : ∃ z, z = s.whose := ⟨_, rfl⟩
  obtain ⟨fi, hfi⟩ : ∃ z, z = s.fin := ⟨_, rfl⟩
  obtain ⟨wi, hwi⟩ : ∃ z, z = s.winner := ⟨_, rfl⟩
  rw [← htu, ← hwo, ← hfi, ← hwi] at HSL ⊢
  obtain ⟨w0, hw0⟩ : ∃ W, W = w.alloc (.cells #[.slice a1 np k1, .slice a2 nc k2, .slice a3 nz k3, .int .i32 tu, .int .i64 wo, .int .i8 fi, .int .i64 wi] 30) := ⟨_, rfl⟩
  obtain ⟨b0, hb0⟩ : ∃ g, g = w.heap.size := ⟨_, rfl⟩
  have HW : Hid (Up w w0 ∧ w0.heap[b0]? = some (.cells #[.slice a1 np k1, .slice a2 nc k2, .slice a3 nz k3, .int .i32 tu, .int .i64 wo, .int .i8 fi, .int .i64 wi] 30 (0, 0))) := ⟨by rw [hw0]; exact (Up.refl _).alloc _, by rw [hw0, hb0]; exact heap_alloc_new w _⟩
  obtain ⟨y0, y1, y2, y3, y4, y5, y6⟩ := seven_cells HW.out.2
  clear hPost hnp hnc hnz hsl hsm c1 c2 htu hwo hfi hwi
  go_enter Tryz.func50, Tryz.ntmps50
  go_wp2_with fail
  rw [← hw0, ← hb0]
  clear hw0 hb0
  cases hsz : sizesB s
  · have hc := sizesFit_ _ s _ (HSL.out.up HW.out.1) HSM.out.1
    rw [hsz] at hc
    refine Calls.mono hc ?_
    rintro e w1 ⟨rfl, u1⟩
    have hu := HW.out.1.trans u1
    clear hc
    go_wp2
    rw [HP.out, ff_sizes hsz]
    exact ⟨rfl, hu⟩
  · have hc := sizesFit_ _ s _ (HSL.out.up HW.out.1) HSM.out.1
    rw [hsz] at hc
    refine Calls.mono hc ?_
    rintro e w1 ⟨rfl, u1⟩
    clear hc
    obtain ⟨B, hB⟩ : ∃ B : World → Prop, B = fun W => Up w W ∧ W.heap[b0]? = some (.cells #[.slice a1 np k1, .slice a2 nc k2, .slice a3 nz k3, .int .i32 tu, .int .i64 wo, .int .i8 fi, .int .i64 wi] 30 (0, 0)) := ⟨_, rfl⟩
    have HBu : Hid (∀ W W', B W → Up W W' → B W') := fun W W' h u => by rw [hB] at h ⊢; exact ⟨h.1.trans u, u.heap h.2⟩
    have HBc : Hid (∀ W, B W → Up w W ∧ W.cell? ⟨b0, 0, none⟩ = some (.slice a1 np k1) ∧ W.cell? ⟨b0, 1, none⟩ = some (.slice a2 nc k2) ∧ W.cell? ⟨b0, 2, none⟩ = some (.slice a3 nz k3) ∧ W.cell? ⟨b0, 3, none⟩ = some (.int .i32 tu) ∧ W.cell? ⟨b0, 4, none⟩ = some (.int .i64 wo) ∧ W.cell? ⟨b0, 5, none⟩ = some (.int .i8 fi) ∧ W.cell? ⟨b0, 6, none⟩ = some (.int .i64 wi)) := fun W h => by rw [hB] at h; exact ⟨h.1, seven_cells h.2⟩
    have HB0 : Hid (B w1) := HBu.out w0 w1 (by rw [hB]; exact HW.out) u1
    clear hB y0 y1 y2 y3 y4 y5 y6 HW u1
    obtain ⟨-, y0, -, -, -, -, -, -⟩ := HBc.out w1 HB0.out
    have HZ : Hid (sizesB s = true) := hsz
    clear hsz
    go_wp2_with fail
    go_loopw [2, 3, 18] (fun s2 s3 s18 W => ∃ i : Nat, i ≤ np ∧ s18 = .int .i64 i ∧ s2 = .int .i64 ((1 + i : Nat) : Int) ∧ s3 = .bool false ∧ B W ∧ ∀ j, j < i → plyB (s.ps.getD j dp) = true) (fun _ _ s18 _ => np - (intOf s18).toNat)
    case atStart => exact ⟨0, Nat.zero_le _, rfl, rfl, rfl, HB0.out, fun j hj => by omega⟩
    case round =>
      obtain ⟨i, hi, rfl, rfl, rfl, hb, hj⟩ := hrel
      clear HB0 y0
      have HBw : Hid (B wr) := hb
      have HJ : Hid (∀ j, j < i → plyB (s.ps.getD j dp) = true) := hj
      clear hb hj
      by_cases hlt : i < np
      · have hlt2 : (i : Int) < (np : Int) := by omega
        obtain ⟨b1, o1, rfl, hc1⟩ := H1.out (by omega)
        obtain ⟨x1, x2, x3⟩ := hc1 wr (HBc.out wr HBw.out).1 i hlt
        clear hc1
        have HX : Hid (plyB (s.ps.getD i dp) = (statB (s.ps.getD i dp).life && statB (s.ps.getD i dp).energy)) := rfl
        have HBad : Hid (plyB (s.ps.getD i dp) = false → ff s = some (1 + i)) := fun h => ff_ply HZ.out (findIdx_at _ plyB dp i (by rw [← HN.out.1]; exact hlt) HJ.out h)
        have HGood : Hid (plyB (s.ps.getD i dp) = true → ∀ j, j < i + 1 → plyB (s.ps.getD j dp) = true) := fun h j hj => by
          by_cases e : j = i
          · subst e; exact h
          · exact HJ.out j (by omega)
        clear HJ
        generalize s.ps.getD i dp = p at *
        obtain ⟨li, en, ou⟩ := p
        simp only at x1 x2 x3
        cases q1 : statB li
        · have HF : Hid (ff s = some (1 + i)) := HBad.out (by rw [HX.out]; simp only [q1, Bool.false_and])
          clear HX HBad HGood
          go_wp2_with fail
          refine Calls.mono (isStatB _ false q1 _) ?_
          rintro e9 w9 ⟨rfl, rfl⟩
          go_wp2
          rw [HP.out, HF.out]
          refine ⟨by simp, (HBc.out wr HBw.out).1.trans ?_⟩
          repeat (first | with_reducible exact Up.refl _ | with_reducible apply Up.alloc | with_reducible apply Up.drewN | with_reducible apply Up.drew | with_reducible refine Up.set ?_ _ _ (by first | exact Nat.le_refl _ | exact Nat.le_succ _ | (simp; omega)))
        · cases q2 : statB en
          · have HF : Hid (ff s = some (1 + i)) := HBad.out (by rw [HX.out]; simp only [q1, q2, Bool.and_false])
            clear HX HBad HGood
            go_wp2_with fail
            refine Calls.mono (isStatB _ true q1 _) ?_
            rintro e9 w9 ⟨rfl, rfl⟩
            go_wp2_with fail
            refine Calls.mono (isStatB _ false q2 _) ?_
            rintro e9 w9 ⟨rfl, rfl⟩
            go_wp2
            rw [HP.out, HF.out]
            refine ⟨by simp, (HBc.out wr HBw.out).1.trans ?_⟩
            repeat (first | with_reducible exact Up.refl _ | with_reducible apply Up.alloc | with_reducible apply Up.drewN | with_reducible apply Up.drew | with_reducible refine Up.set ?_ _ _ (by first | exact Nat.le_refl _ | exact Nat.le_succ _ | (simp; omega)))
          · have HF : Hid (∀ j, j < i + 1 → plyB (s.ps.getD j dp) = true) := HGood.out (by rw [HX.out]; simp only [q1, q2, Bool.and_true])
            clear HX HBad HGood
            go_wp2_with fail
            refine Calls.mono (isStatB _ true q1 _) ?_
            rintro e9 w9 ⟨rfl, rfl⟩
            go_wp2_with fail
            refine Calls.mono (isStatB _ true q2 _) ?_
            rintro e9 w9 ⟨rfl, rfl⟩
            go_wp2_with fail
            go_roundw
            case rel =>
              refine ⟨i + 1, by omega, by go_num, by go_num, rfl, HBu.out _ _ HBw.out ?_, HF.out⟩
              repeat (first | with_reducible exact Up.refl _ | with_reducible apply Up.alloc | with_reducible apply Up.drewN | with_reducible apply Up.drew | with_reducible refine Up.set ?_ _ _ (by first | exact Nat.le_refl _ | exact Nat.le_succ _ | (simp; omega)))
            case measure => simp [intOf]; omega
      · have hlt2 : ¬ (i : Int) < (np : Int) := by omega
        have hip : i = np := by omega
        subst hip
        have HPs : Hid (s.ps.findIdx? (fun p => !plyB p) = none) := findIdx_no _ plyB dp (by rw [← HN.out.1]; exact HJ.out)
        clear HJ
        obtain ⟨hu, y0, y1, -, -, -, -, -⟩ := HBc.out wr HBw.out
        clear hu
        go_wp2_with fail
        go_loopw [2, 3, 39] (fun s2 s3 s39 W => ∃ q : Nat, q ≤ nc ∧ s39 = .int .i64 q ∧ s2 = .int .i64 ((1 + i + q : Nat) : Int) ∧ s3 = .bool false ∧ B W ∧ ∀ j, j < q → crdB i (s.cs.getD j dc) = true) (fun _ _ s39 _ => nc - (intOf s39).toNat)
        case atStart => exact ⟨0, Nat.zero_le _, rfl, rfl, rfl, HBw.out, fun j hj => by omega⟩
        case round =>
          obtain ⟨q, hq, rfl, rfl, rfl, hb, hj⟩ := hrel
          clear HBw y0 y1
          have HBw : Hid (B wr) := hb
          have HJ : Hid (∀ j, j < q → crdB i (s.cs.getD j dc) = true) := hj
          clear hb hj
          by_cases hlt3 : q < nc
          · have hlt4 : (q : Int) < (nc : Int) := by omega
            obtain ⟨b1, o1, rfl, hc1⟩ := H2.out (by omega)
            obtain ⟨x1, x2, x3, x4, x5, x6⟩ := hc1 wr (HBc.out wr HBw.out).1 q hlt3
            obtain ⟨-, y0, -, -, -, -, -, -⟩ := HBc.out wr HBw.out
            clear hc1
            have HX : Hid (crdB i (s.cs.getD q dc) = (crd0B (s.cs.getD q dc) && numB (s.cs.getD q dc).owner i)) := rfl
            have HBad : Hid (crdB i (s.cs.getD q dc) = false → ff s = some (1 + i + q)) := fun h => by
              have h1 := HN.out.1
              rw [h1]
              exact ff_crd HZ.out HPs.out (findIdx_at _ (crdB s.ps.length) dc q (by rw [← HN.out.2.1]; exact hlt3) (by rw [← h1]; exact HJ.out) (by rw [← h1]; exact h))
            have HGood : Hid (crdB i (s.cs.getD q dc) = true → ∀ j, j < q + 1 → crdB i (s.cs.getD j dc) = true) := fun h j hj => by
              by_cases e : j = q
              · subst e; exact h
              · exact HJ.out j (by omega)
            clear HJ
            generalize s.cs.getD q dc = c at *
            obtain ⟨ki, ow, po, he, da, ma⟩ := c
            simp only at x1 x2 x3 x4 x5 x6
            cases q1 : crd0B ⟨ki, ow, po, he, da, ma⟩
            · have HF : Hid (ff s = some (1 + i + q)) := HBad.out (by rw [HX.out]; simp only [q1, Bool.false_and])
              have HC : Hid _ := cardFitsB _ false q1
              clear HX HBad HGood q1
              unfold cag at HC
              go_wp2_with fail
              refine Calls.mono (HC.out _) ?_
              rintro e9 w9 ⟨rfl, u9⟩
              have HU : Hid (Up w w9) := by
                refine Up.trans ((HBc.out wr HBw.out).1.trans ?_) u9
                repeat (first | with_reducible exact Up.refl _ | with_reducible apply Up.alloc | with_reducible apply Up.drewN | with_reducible apply Up.drew | with_reducible refine Up.set ?_ _ _ (by first | exact Nat.le_refl _ | exact Nat.le_succ _ | (simp; omega)))
              clear u9
              go_wp2
              rw [HP.out, HF.out]
              exact ⟨by simp [Int.natCast_add], HU.out⟩
            · have HC : Hid _ := cardFitsB _ true q1
              unfold cag at HC
              cases q2 : numB ow i
              · have HF : Hid (ff s = some (1 + i + q)) := HBad.out (by rw [HX.out]; simp only [q1, q2, Bool.and_false])
                clear HX HBad HGood q1
                go_wp2_with fail
                refine Calls.mono (HC.out _) ?_
                rintro e9 w9 ⟨rfl, u9⟩
                have HW9 : Hid (B w9) := by
                  refine HBu.out _ _ (HBu.out _ _ HBw.out ?_) u9
                  repeat (first | with_reducible exact Up.refl _ | with_reducible apply Up.alloc | with_reducible apply Up.drewN | with_reducible apply Up.drew | with_reducible refine Up.set ?_ _ _ (by first | exact Nat.le_refl _ | exact Nat.le_succ _ | (simp; omega)))
                obtain ⟨-, y0, -, -, -, -, -, -⟩ := HBc.out w9 HW9.out
                have z1 : w9.cell? ⟨wr.heap.size, 1, none⟩ = some (.int .i64 ow) := u9.cell (by simp)
                clear u9
                go_wp2_with fail
                refine Calls.mono (isNumberB _ _ false q2 _) ?_
                rintro e9 w9 ⟨rfl, rfl⟩
                go_wp2
                rw [HP.out, HF.out]
                exact ⟨by simp [Int.natCast_add], (HBc.out _ HW9.out).1⟩
              · have HF : Hid (∀ j, j < q + 1 → crdB i (s.cs.getD j dc) = true) := HGood.out (by rw [HX.out]; simp only [q1, q2, Bool.and_true])
                clear HX HBad HGood q1
                go_wp2_with fail
                refine Calls.mono (HC.out _) ?_
                rintro e9 w9 ⟨rfl, u9⟩
                have HW9 : Hid (B w9) := by
                  refine HBu.out _ _ (HBu.out _ _ HBw.out ?_) u9
                  repeat (first | with_reducible exact Up.refl _ | with_reducible apply Up.alloc | with_reducible apply Up.drewN | with_reducible apply Up.drew | with_reducible refine Up.set ?_ _ _ (by first | exact Nat.le_refl _ | exact Nat.le_succ _ | (simp; omega)))
                obtain ⟨-, y0, -, -, -, -, -, -⟩ := HBc.out w9 HW9.out
                have z1 : w9.cell? ⟨wr.heap.size, 1, none⟩ = some (.int .i64 ow) := u9.cell (by simp)
                clear u9
                go_wp2_with fail
                refine Calls.mono (isNumberB _ _ true q2 _) ?_
                rintro e9 w9 ⟨rfl, rfl⟩
                go_wp2_with fail
                go_roundw
                case rel => exact ⟨q + 1, by omega, by go_num, by go_num, rfl, HW9.out, HF.out⟩
                case measure => simp [intOf]; omega
          · have hlt4 : ¬ (q : Int) < (nc : Int) := by omega
            have hqc : q = nc := by omega
            subst hqc
            have HCs : Hid (s.cs.findIdx? (fun c => !crdB s.ps.length c) = none) := findIdx_no _ (crdB s.ps.length) dc (by rw [← HN.out.1, ← HN.out.2.1]; exact HJ.out)
            clear HJ
            obtain ⟨hu, y0, y1, y2, y3, y4, y5, y6⟩ := HBc.out wr HBw.out
            have hm256 : q ≤ 256 ∧ i ≤ 4 := by
              have := HZ.out
              simp only [sizesB, npB, ncB, Bool.and_eq_true, decide_eq_true_eq] at this
              have h1 := HN.out
              omega
            have HGe : Hid (Calls Tryz.prog 77 #[.agg #[.slice a1 i k1, .slice a2 s.cs.length k2, .slice a3 nz k3, .int .i32 tu, .int .i64 wo, .int .i8 fi, .int .i64 wi]] wr fun e w' => e = .returned (.tuple #[.int .i64 (good s.cs.length (flat s)), .bool (decide (good s.cs.length (flat s) = (flat s).length))]) ∧ Up wr w') := goodEntries_ _ s wr (by rw [← HN.out.2.1]; exact HSL.out.up hu) (by rw [← HN.out.2.1]; exact hm256.1) HSM.out.2.2.1 HSM.out.2.2.2
            clear hu
            rw [← HN.out.2.1] at HGe
            have HGL : Hid (good q (flat s) ≤ (flat s).length ∧ good q (flat s) ≤ q) := ⟨good_le _ _, good_small q _ _ (good_le _ _) (fun j hj => good_ok _ _ j hj)⟩
            have HE : Hid ((good q (flat s) < (flat s).length ∨ good q (flat s) < q) → ff s = some (1 + i + q + good q (flat s))) := fun h => by
              have e := ff_ent HZ.out HPs.out HCs.out (by rw [← HN.out.2.1]; exact h)
              rw [← HN.out.1, ← HN.out.2.1] at e
              exact e
            have HLa : Hid (¬ (good q (flat s) < (flat s).length ∨ good q (flat s) < q) → ff s = lastF s) := fun h => ff_last HZ.out HPs.out HCs.out (by rw [← HN.out.2.1]; exact h)
            generalize (flat s).length = L at HGL HE HLa HGe
            generalize good q (flat s) = k at HGL HE HLa HGe
            go_wp2_with fail
            refine Calls.mono HGe.out ?_
            rintro e9 w9 ⟨rfl, u9⟩
            have HB9 : Hid (B w9) := HBu.out _ _ HBw.out u9
            have HU9 : Hid (Up wr w9) := u9
            have HSv : Hid (∀ W, Up wr W → Up w W) := fun W u => (HBc.out wr HBw.out).1.trans u
            clear HGe u9 y0 y1 y2 y3 y4 y5 y6 HBw
            obtain ⟨-, y0, y1, y2, y3, y4, y5, y6⟩ := HBc.out w9 HB9.out
            have hk := HGL.out
            have hkb : k ≤ 256 := by omega
            by_cases hkL : k = L
            · rw [decide_eq_true hkL]
              by_cases hkq : k < q
              · have hkq2 : (k : Int) < (q : Int) := by omega
                have HF : Hid (ff s = some (1 + i + q + k)) := HE.out (.inr hkq)
                clear hkL HGL HE HLa hk
                go_wp2
                rw [HP.out, HF.out]
                exact ⟨by simp [Int.natCast_add], (HBc.out _ HB9.out).1⟩
              · have hkq2 : ¬ (k : Int) < (q : Int) := by omega
                have hkq3 : k = q := by omega
                have HF : Hid (ff s = lastF s) := HLa.out (by omega)
                clear HE HLa HGL hkL hk
                subst hkq3
                obtain ⟨A, hA⟩ : ∃ b, decide (1 ≤ s.turn) = b := ⟨_, rfl⟩
                obtain ⟨N2, h2⟩ : ∃ b, numB s.whose s.ps.length = b := ⟨_, rfl⟩
                obtain ⟨N3, h3⟩ : ∃ b, finB s = b := ⟨_, rfl⟩
                obtain ⟨N4, h4⟩ : ∃ b, winB s = b := ⟨_, rfl⟩
                have HLs : Hid (∀ W, Up wr W → Calls Tryz.prog 78 #[.agg #[.slice a1 i k1, .slice a2 k k2, .slice a3 nz k3, .int .i32 tu, .int .i64 wo, .int .i8 fi, .int .i64 wi]] W fun e w' => e = .returned (.agg #[.bool A, .bool N2, .bool N3, .bool N4]) ∧ Up W w') := fun W u => by
                  have e : last4 s = .agg #[.bool A, .bool N2, .bool N3, .bool N4] := by rw [← hA, ← h2, ← h3, ← h4]; rfl
                  rw [← e]
                  exact lastThings_ _ s W (HSL.out.up (HSv.out W u))
                have HNl : Hid (lastF s = if A = false then some (2 + i + 2 * k) else if N2 = false then some (3 + i + 2 * k) else if N3 = false then some (4 + i + 2 * k) else if N4 = false then some (5 + i + 2 * k) else none) := by
                  unfold Hid
                  rw [lastF, h2, h3, h4, ← HN.out.1, ← HN.out.2.1]
                  by_cases ht : 1 ≤ s.turn
                  · rw [decide_eq_true ht] at hA; subst hA; simp [ht]
                  · rw [decide_eq_false ht] at hA; subst hA; simp [ht]
                clear hA h2 h3 h4
                cases A
                · have HR : Hid (lastF s = some (2 + i + 2 * k)) := HNl.out
                  clear HNl
                  go_wp2_with fail
                  refine Calls.mono (HLs.out _ HU9.out) ?_
                  rintro e8 w8 ⟨rfl, u8⟩
                  have HU8 : Hid (Up w w8) := (HBc.out _ HB9.out).1.trans u8
                  clear u8
                  go_wp2_with fail
                  have ix0 := idx0
                  have ix1 := idx1
                  have ix2 := idx2
                  have ix3 := idx3
                  go_rounds 1
                  rw [HP.out, HF.out, HR.out]
                  exact ⟨by simp [Int.natCast_add, Int.natCast_mul]; omega, HU8.out⟩
                · cases N2
                  · have HR : Hid (lastF s = some (3 + i + 2 * k)) := HNl.out
                    clear HNl
                    go_wp2_with fail
                    refine Calls.mono (HLs.out _ HU9.out) ?_
                    rintro e8 w8 ⟨rfl, u8⟩
                    have HU8 : Hid (Up w w8) := (HBc.out _ HB9.out).1.trans u8
                    clear u8
                    go_wp2_with fail
                    have ix0 := idx0
                    have ix1 := idx1
                    have ix2 := idx2
                    have ix3 := idx3
                    go_rounds 2
                    rw [HP.out, HF.out, HR.out]
                    exact ⟨by simp [Int.natCast_add, Int.natCast_mul]; omega, HU8.out⟩
                  · cases N3
                    · have HR : Hid (lastF s = some (4 + i + 2 * k)) := HNl.out
                      clear HNl
                      go_wp2_with fail
                      refine Calls.mono (HLs.out _ HU9.out) ?_
                      rintro e8 w8 ⟨rfl, u8⟩
                      have HU8 : Hid (Up w w8) := (HBc.out _ HB9.out).1.trans u8
                      clear u8
                      go_wp2_with fail
                      have ix0 := idx0
                      have ix1 := idx1
                      have ix2 := idx2
                      have ix3 := idx3
                      go_rounds 3
                      rw [HP.out, HF.out, HR.out]
                      exact ⟨by simp [Int.natCast_add, Int.natCast_mul]; omega, HU8.out⟩
                    · cases N4
                      · have HR : Hid (lastF s = some (5 + i + 2 * k)) := HNl.out
                        clear HNl
                        go_wp2_with fail
                        refine Calls.mono (HLs.out _ HU9.out) ?_
                        rintro e8 w8 ⟨rfl, u8⟩
                        have HU8 : Hid (Up w w8) := (HBc.out _ HB9.out).1.trans u8
                        clear u8
                        go_wp2_with fail
                        have ix0 := idx0
                        have ix1 := idx1
                        have ix2 := idx2
                        have ix3 := idx3
                        go_rounds 4
                        rw [HP.out, HF.out, HR.out]
                        exact ⟨by simp [Int.natCast_add, Int.natCast_mul]; omega, HU8.out⟩
                      · have HR : Hid (lastF s = none) := HNl.out
                        clear HNl
                        go_wp2_with fail
                        refine Calls.mono (HLs.out _ HU9.out) ?_
                        rintro e8 w8 ⟨rfl, u8⟩
                        have HU8 : Hid (Up w w8) := (HBc.out _ HB9.out).1.trans u8
                        clear u8
                        go_wp2_with fail
                        have ix0 := idx0
                        have ix1 := idx1
                        have ix2 := idx2
                        have ix3 := idx3
                        go_rounds 5
                        rw [HP.out, HF.out, HR.out]
                        exact ⟨rfl, HU8.out⟩
            · rw [decide_eq_false hkL]
              have HF : Hid (ff s = some (1 + i + q + k)) := HE.out (.inl (by omega))
              clear hkL HGL HE HLa hk
              go_wp2
              rw [HP.out, HF.out]
              exact ⟨by simp [Int.natCast_add], (HBc.out _ HB9.out).1⟩
end ST
end Go.Proofs.YtmpamcdobhiipaaGreatDoor
