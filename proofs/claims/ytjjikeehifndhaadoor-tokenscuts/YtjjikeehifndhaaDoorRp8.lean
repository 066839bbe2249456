
/-
  The document's pass.
-/
import Derived.Test.YtjjikeehifndhaaDoorRn8
namespace Go.Proofs.YtjjikeehifndhaaDoor
open Go.RowKit
attribute [local go_sem ↓] Go.wp_at_zero Go.wp_at_succ
namespace TK
theorem is_rmk {B : List Int} {p : Nat} (hp : p < B.length) : isB B p [47, 47] = rmk B p := by
  unfold isB rmk
  show (decide (p + 2 ≤ B.length) && decide (sub B p (p + 2) = [47, 47])) = _
  by_cases h : p + 1 < B.length
  · rw [sub_more (i := p + 1) (by omega) h, sub_more (Nat.le_refl _) hp, sub_self, decide_eq_true (show p + 2 ≤ B.length by omega), decide_eq_true h]
    generalize B.getD p 0 = x
    generalize B.getD (p + 1) 0 = y
    simp only [List.nil_append, List.cons_append, List.cons.injEq, and_true, Bool.true_and]
    by_cases h1 : x = 47 <;> by_cases h2 : y = 47 <;> simp [h1, h2]
  · rw [decide_eq_false (show ¬ p + 2 ≤ B.length by omega), decide_eq_false h, Bool.false_and, Bool.false_and, Bool.and_false]
theorem gp_blank {B : List Int} {b p : Nat} (h : Gp B b p) (hp : p < B.length) (hb : blk (B.getD p 0) = true) : Gp B b (p + 1) := h.step hp (by unfold stp; rw [if_pos hb])
theorem gp_rmk {B : List Int} {b p : Nat} (h : Gp B b p) (hp : p < B.length) (hb : blk (B.getD p 0) = false) (hr : rmk B p = true) : Gp B b (spn nnl B p) := h.step hp (by unfold stp; rw [if_neg (by rw [hb]; decide), if_pos hr])
set_option maxRecDepth 100000 in
set_option maxHeartbeats 8000000 in
theorem cpass_ (w0 : World) (g : Nat) (b off c : Nat) (B : List Int) (p : Nat) (bad : Int) (w : World) (h : RC w0 g (.slice (some ⟨b, off, none⟩) B.length c) B p bad w) (hba : BA w0 b off B) :
    Calls Tryd.prog 32 #[.pointer (some ⟨g, 0, none⟩)] w fun e w' => e = .returned (.tuple #[]) ∧ ∃ q, RC w0 g (.slice (some ⟨b, off, none⟩) B.length c) B q bad w' ∧ Gp B p q ∧ (q < B.length → blk (B.getD q 0) = false ∧ rmk B q = false) ∧ Kg g w w' := by
  obtain ⟨n, hN⟩ : ∃ n, n = B.length := ⟨_, rfl⟩
  have HN : Hid (n = B.length) := hN
  rw [← hN] at h ⊢
  have hlen : n ≤ 65536 := by rw [hN]; exact h.len
  obtain ⟨Post, hPost⟩ : ∃ P : Ending → World → Prop, P = fun e w' => e = .returned (.tuple #[]) ∧ ∃ q, RC w0 g (.slice (some ⟨b, off, none⟩) n c) B q bad w' ∧ Gp B p q ∧ (q < n → blk (B.getD q 0) = false ∧ rmk B q = false) ∧ Kg g w w' := ⟨_, rfl⟩
  rw [← hPost]
  have HPo : Hid (Post = fun e w' => e = .returned (.tuple #[]) ∧ ∃ q, RC w0 g (.slice (some ⟨b, off, none⟩) n c) B q bad w' ∧ Gp B p q ∧ (q < n → blk (B.getD q 0) = false ∧ rmk B q = false) ∧ Kg g w w') := hPost
  have HR : Hid (RC w0 g (.slice (some ⟨b, off, none⟩) n c) B p bad w) := h
  have HBA : Hid (BA w0 b off B) := hba
  clear h hba hN hPost
  go_enter Tryd.func32, Tryd.ntmps32
  go_wp2_with fail
  go_loopw [2] (fun _ W => ∃ q : Nat, Gp B p q ∧ RC w0 g (.slice (some ⟨b, off, none⟩) n c) B q bad W ∧ Kg g w W) (fun _ W => n - ptAt W g)
  case atStart => exact ⟨p, Gp.refl _, HR.out, Kg.refl _ _⟩
  case round =>
    obtain ⟨q, hgp, hrc, hkg⟩ := hrel
    have HGP : Hid (Gp B p q) := hgp
    have HRC : Hid (RC w0 g (.slice (some ⟨b, off, none⟩) n c) B q bad wr) := hrc
    have HKG : Hid (Kg g w wr) := hkg
    have hq := hrc.at_le
    rw [← HN.out] at hq
    obtain ⟨y0, y1, y2⟩ := hrc.cells
    have f1 : wr.frozen? ⟨g, 1, none⟩ = false := by simp [World.frozen?, hrc.hp]
    clear hrc hkg hgp
    by_cases hlt : q < n
    · have hlt2 : (q : Int) < (n : Int) := by omega
      have hd2 : decide ((q : Int) < (n : Int)) = true := decide_eq_true hlt2
      have hx := HBA.out wr HRC.out.up q (by have := HN.out; omega)
      have HBK : Hid (∀ k, Calls Tryd.prog 72 #[.int .u8 (B.getD q 0)] k fun e w' => e = .returned (.bool (blk (B.getD q 0))) ∧ w' = k) := fun k => rblank_ _ k
      have HG1 : Hid (blk (B.getD q 0) = true → Gp B p (q + 1)) := fun h9 => gp_blank HGP.out (by have := HN.out; omega) h9
      have HG2 : Hid (blk (B.getD q 0) = false → rmk B q = true → Gp B p (spn nnl B q)) := fun h9 h8 => gp_rmk HGP.out (by have := HN.out; omega) h9 h8
      have HGT : Hid (rmk B q = true → q < spn nnl B q) := fun h9 => spn_gt (by have := HN.out; omega) (by
        unfold rmk at h9
        have h8 : B.getD q 0 = 47 := by simpa using (Bool.and_eq_true_iff.1 h9).1
        rw [h8]; decide)
      have HG3 : Hid (blk (B.getD q 0) = false → rmk B q = false → (q < n → blk (B.getD q 0) = false ∧ rmk B q = false)) := fun h9 h8 _ => ⟨h9, h8⟩
      obtain ⟨bd, hbd⟩ : ∃ bd, bd = blk (B.getD q 0) := ⟨_, rfl⟩
      have HBD : Hid (bd = blk (B.getD q 0)) := hbd
      rw [← hbd] at HBK HG1 HG2 HG3
      clear hbd
      cases bd
      · have HIS : Hid (∀ W, Up wr W → Calls Tryd.prog 73 #[.pointer (some ⟨g, 0, none⟩), .string ⟨#[47, 47]⟩] W fun e w' => e = .returned (.bool (rmk B q)) ∧ Up W w') := fun W hu => by
          have h9 := ris_ w0 g (.slice (some ⟨b, off, none⟩) n c) B q bad [47, 47] W (HRC.out.kb hu) (by unfold Byt; decide) (by decide) (by decide)
          rw [is_rmk (by have := HN.out; omega)] at h9
          exact h9
        generalize B.getD q 0 = d at hx HBK
        obtain ⟨rd, hrd⟩ : ∃ rd, rd = rmk B q := ⟨_, rfl⟩
        rw [← hrd] at HIS HG2 HGT
        have HRD : Hid (rd = rmk B q) := hrd
        clear hrd
        go_wp2_with fail
        go_quiet (fail)
        go_wp2_with fail
        go_quiet (exact (HBK.out _).mono fun _ _ ⟨he, hm⟩ => ⟨he, _, hm⟩)
        go_wp2_with fail
        refine Calls.mono (HIS.out _ ((Up.refl _).drewN _)) ?_
        rintro r W5 ⟨rfl, u5⟩
        have HR5 : Hid (RC w0 g (.slice (some ⟨b, off, none⟩) n c) B q bad W5) := (HRC.out.kb ((Up.refl _).drewN _)).kb u5
        have HK5 : Hid (Kg g w W5) := (HKG.out.up ((Up.refl _).drewN _)).up u5
        clear u5 HIS HBK hx y0 y1 y2 f1
        cases rd
        · go_wp2_with fail
          refine bodyPost_ret (results_none rfl _ _ _) rfl ?_
          rw [HPo.out]
          exact ⟨rfl, q, HR5.out, HGP.out, fun _ => ⟨HBD.out.symm, HRD.out.symm⟩, HK5.out⟩
        · have HGQ : Hid (Gp B p (spn nnl B q)) := by have h9 := HG2.out; unfold Hid; simpa using h9
          have HGT2 : Hid (q < spn nnl B q) := by have h9 := HGT.out; unfold Hid; simpa using h9
          go_wp2_with fail
          go_loopw [34] (fun _ W => ∃ r : Nat, q ≤ r ∧ spn nnl B r = spn nnl B q ∧ RC w0 g (.slice (some ⟨b, off, none⟩) n c) B r bad W ∧ Kg g w W) (fun _ W => n - ptAt W g)
          case atStart => exact ⟨q, Nat.le_refl _, rfl, HR5.out, HK5.out⟩
          case round =>
            obtain ⟨r, hqr, hsp, hrc, hkg⟩ := hrel
            have HRC2 : Hid (RC w0 g (.slice (some ⟨b, off, none⟩) n c) B r bad wr) := hrc
            have HKG2 : Hid (Kg g w wr) := hkg
            have HSP : Hid (spn nnl B r = spn nnl B q) := hsp
            have hr9 := hrc.at_le
            rw [← HN.out] at hr9
            obtain ⟨y0, y1, y2⟩ := hrc.cells
            have f1 : wr.frozen? ⟨g, 1, none⟩ = false := by simp [World.frozen?, hrc.hp]
            clear hrc hkg hsp
            by_cases hlr : r < n
            · have hlr2 : (r : Int) < (n : Int) := by omega
              have hd3 : decide ((r : Int) < (n : Int)) = true := decide_eq_true hlr2
              have hx := HBA.out wr HRC2.out.up r (by have := HN.out; omega)
              have HM1 : Hid (¬ B.getD r 0 = 10 → spn nnl B (r + 1) = spn nnl B r) := fun h9 => (spn_more (by have := HN.out; omega) (by unfold nnl; simpa using h9)).symm
              have HM2 : Hid (B.getD r 0 = 10 → spn nnl B r = r) := fun h9 => spn_stop (by have := HN.out; omega) (by unfold nnl; simpa using h9)
              generalize B.getD r 0 = d9 at *
              by_cases hd9 : d9 = 10
              · have HQ : Hid (r = spn nnl B q) := by unfold Hid; rw [← HSP.out]; exact (HM2.out hd9).symm
                subst hd9
                clear HM1 HM2
                go_wp2_with fail
                go_quiet (fail)
                go_wp2_with fail
                go_roundw
                case rel => exact ⟨r, by rw [HQ.out]; exact HGQ.out, HRC2.out.kb ((Up.refl _).drewN _), HKG2.out.up ((Up.refl _).drewN _)⟩
                case measure =>
                  rw [(HRC2.out.kb ((Up.refl _).drewN _)).ptAt, HRC.out.ptAt]
                  have h1 := HGT2.out
                  have h2 := HQ.out
                  omega
              · have HQ : Hid (spn nnl B (r + 1) = spn nnl B q) := by unfold Hid; rw [← HSP.out]; exact HM1.out hd9
                have hd8 : (d9 != 10) = true := by simpa using hd9
                have ei : IntKind.i64.wrap ((r : Int) + 1) = ((r + 1 : Nat) : Int) := by rw [IntKind.wrap_i64]; omega
                clear HM1 HM2
                go_wp2_with fail
                go_quiet (fail)
                go_wp2_with fail
                go_roundw
                case rel => exact ⟨r + 1, by omega, HQ.out, (HRC2.out.kb ((Up.refl _).drewN _)).go (r + 1) (by have := HN.out; omega), (HKG2.out.up ((Up.refl _).drewN _)).set _ _⟩
                case measure =>
                  have hcst : (r : Int) + 1 = ((r + 1 : Nat) : Int) := by omega
                  rw [hcst, ((HRC2.out.kb ((Up.refl _).drewN _)).go (r + 1) (by have := HN.out; omega)).ptAt, HRC2.out.ptAt]
                  omega
            · have hlr2 : ¬ (r : Int) < (n : Int) := by omega
              have hd3 : decide ((r : Int) < (n : Int)) = false := decide_eq_false hlr2
              have HQ : Hid (r = spn nnl B q) := by unfold Hid; rw [← HSP.out]; exact (spn_end (by have := HN.out; omega)).symm
              go_wp2_with fail
              go_quiet (fail)
              go_wp2_with fail
              go_roundw
              case rel => exact ⟨r, by rw [HQ.out]; exact HGQ.out, HRC2.out.kb ((Up.refl _).drewN _), HKG2.out.up ((Up.refl _).drewN _)⟩
              case measure =>
                rw [(HRC2.out.kb ((Up.refl _).drewN _)).ptAt, HRC.out.ptAt]
                have h1 := HGT2.out
                have h2 := HQ.out
                omega
      · generalize B.getD q 0 = d at *
        have ei : IntKind.i64.wrap ((q : Int) + 1) = ((q + 1 : Nat) : Int) := by rw [IntKind.wrap_i64]; omega
        go_wp2_with fail
        go_quiet (fail)
        go_wp2_with fail
        go_quiet (exact (HBK.out _).mono fun _ _ ⟨he, hm⟩ => ⟨he, _, hm⟩)
        go_wp2_with fail
        go_roundw
        case rel => exact ⟨q + 1, by simpa using HG1.out, (HRC.out.kb ((Up.refl _).drewN _)).go (q + 1) (by have := HN.out; omega), (HKG.out.up ((Up.refl _).drewN _)).set _ _⟩
        case measure =>
          have hcst : (q : Int) + 1 = ((q + 1 : Nat) : Int) := by omega
          rw [hcst, ((HRC.out.kb ((Up.refl _).drewN _)).go (q + 1) (by have := HN.out; omega)).ptAt, HRC.out.ptAt]
          omega
    · have hlt2 : ¬ (q : Int) < (n : Int) := by omega
      have hd2 : decide ((q : Int) < (n : Int)) = false := decide_eq_false hlt2
      go_wp2_with fail
      go_quiet (fail)
      go_wp2_with fail
      refine bodyPost_end (results_none rfl _ _ _) rfl ?_
      rw [HPo.out]
      exact ⟨rfl, q, HRC.out.kb ((Up.refl _).drewN _), HGP.out, fun h9 => absurd h9 hlt, HKG.out.up ((Up.refl _).drewN _)⟩
end TK
end Go.Proofs.YtjjikeehifndhaaDoor
