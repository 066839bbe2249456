/-
  The document's number.
-/
import Derived.Test.YtkldllnnocdhbaaGreatDoorRn8
import Derived.Test.YtkldllnnocdhbaaGreatDoorKt8
namespace Go.Proofs.YtkldllnnocdhbaaGreatDoor
open Go.RowKit
attribute [local go_sem ↓] Go.wp_at_zero Go.wp_at_succ
namespace TK
theorem rba_sub {W : World} {b o : Nat} {B : List Int} (h : BA W b o B) {p e : Nat} (he : e ≤ B.length) : BA W b (o + p) (sub B p e) := fun W' u j hj => by
  rw [sub_len he] at hj
  rw [sub_getD hj, Nat.add_assoc]
  exact h W' u (p + j) (by omega)
theorem rba_bl {W : World} {b o n c : Nat} {l : List Int} (h : BA W b o l) (hn : l.length = n) (hc : l.length ≤ c) : BL W (.slice (some ⟨b, o, none⟩) n c) l := by
  subst hn
  refine ⟨by simp [bvs], _, _, rfl, hc, fun _ => ⟨b, o, rfl, fun j hj => ?_⟩⟩
  rw [Nat.mul_one] at hj
  rw [h W (Up.refl _) j hj]
  simp [bvs, List.getD_eq_getElem?_getD, List.getElem?_eq_getElem hj]
def nbad (B : List Int) (p : Nat) (bad : Int) : Int := if 9223372036854775807 < val (sub B p (nue B p)) then (p : Int) else if nue B p < spn prt B (nue B p) then ((nue B p : Nat) : Int) else bad
set_option maxRecDepth 100000 in
set_option maxHeartbeats 8000000 in
theorem cnum_ (w0 : World) (g : Nat) (vb : Value) (B : List Int) (p : Nat) (bad : Int) (w : World) (h : RC w0 g vb B p bad w) (hp0 : p < B.length) (hdg : dig (B.getD p 0) = true) :
    Calls Tryz.prog 62 #[.pointer (some ⟨g, 0, none⟩)] w fun e w' => e = .returned (.int .i64 (if 9223372036854775807 < val (sub B p (nue B p)) then 0 else val (sub B p (nue B p)))) ∧ RC w0 g vb B (nue B p) (nbad B p bad) w' ∧ Kg g w w' := by
  obtain ⟨Post, hPost⟩ : ∃ P : Ending → World → Prop, P = fun e w' => e = .returned (.int .i64 (if 9223372036854775807 < val (sub B p (nue B p)) then 0 else val (sub B p (nue B p)))) ∧ RC w0 g vb B (nue B p) (nbad B p bad) w' ∧ Kg g w w' := ⟨_, rfl⟩
  rw [← hPost]
  have HPo : Hid (Post = fun e w' => e = .returned (.int .i64 (if 9223372036854775807 < val (sub B p (nue B p)) then 0 else val (sub B p (nue B p)))) ∧ RC w0 g vb B (nue B p) (nbad B p bad) w' ∧ Kg g w w') := hPost
  have HR : Hid (RC w0 g vb B p bad w) := h
  obtain ⟨x0, x1, x2⟩ := h.cells
  have hlen := h.len
  have hfr : w.frozen? ⟨g, 1, none⟩ = false := by simp [World.frozen?, h.hp]
  obtain ⟨a, c, hvb, hc, hce⟩ := bl_cells h.bl
  obtain ⟨b, off, rfl, hba⟩ := hce (by omega)
  have HBA : Hid (BA w0 b off B) := hba
  have HDG : Hid (∀ c ∈ sub B p (nue B p), dig c = true) := (nue_dig hp0 hdg).2
  have HN48 : Hid (B.getD p 0 = 48 → nue B p = p + 1) := fun h9 => by unfold nue; rw [h9]; rfl
  have HNN : Hid (B.getD p 0 ≠ 48 → nue B p = spn dig B (p + 1)) := fun h9 => by unfold nue; rw [if_neg (by simpa using h9)]
  obtain ⟨n, hN⟩ : ∃ n, n = B.length := ⟨_, rfl⟩
  have HN : Hid (n = B.length) := hN
  rw [← hN] at hvb hc hlen hp0
  subst hvb
  have HF1 : Hid (∀ W', 9223372036854775807 < val (sub B p (nue B p)) → RC w0 g (.slice (some ⟨b, off, none⟩) n c) B (nue B p) (p : Int) W' → Kg g w W' → Post (.returned (.int .i64 0)) W') := fun W' h1 h2 h3 => by
    rw [hPost, if_pos h1, nbad, if_pos h1]
    exact ⟨rfl, h2, h3⟩
  have HF2 : Hid (∀ W', ¬ 9223372036854775807 < val (sub B p (nue B p)) → nue B p < spn prt B (nue B p) → RC w0 g (.slice (some ⟨b, off, none⟩) n c) B (nue B p) ((nue B p : Nat) : Int) W' → Kg g w W' → Post (.returned (.int .i64 (val (sub B p (nue B p))))) W') := fun W' h1 h4 h2 h3 => by
    rw [hPost, if_neg h1, nbad, if_neg h1, if_pos h4]
    exact ⟨rfl, h2, h3⟩
  have HF3 : Hid (∀ W', ¬ 9223372036854775807 < val (sub B p (nue B p)) → ¬ nue B p < spn prt B (nue B p) → RC w0 g (.slice (some ⟨b, off, none⟩) n c) B (nue B p) bad W' → Kg g w W' → Post (.returned (.int .i64 (val (sub B p (nue B p))))) W') := fun W' h1 h4 h2 h3 => by
    rw [hPost, if_neg h1, nbad, if_neg h1, if_neg h4]
    exact ⟨rfl, h2, h3⟩
  have hx0 := HBA.out w HR.out.up p (by omega)
  have ep : IntKind.i64.wrap ((p : Int) + 1) = ((p + 1 : Nat) : Int) := by rw [IntKind.wrap_i64]; omega
  have HS1 : Hid (RC w0 g (.slice (some ⟨b, off, none⟩) n c) B (p + 1) bad (w.setCell ⟨g, 1, none⟩ (.int .i64 ((p + 1 : Nat) : Int)))) := HR.out.go (p + 1) (by omega)
  have HS2 : Hid (Kg g w (w.setCell ⟨g, 1, none⟩ (.int .i64 ((p + 1 : Nat) : Int)))) := (Kg.refl g w).set _ _
  clear h hba hce hN hPost HPo HR
  go_enter Tryz.func62, Tryz.ntmps62
  go_wp2_with fail
  go_loopw [17] (fun _ W => ∃ q : Nat, p + 1 ≤ q ∧ (B.getD p 0 = 48 → q = p + 1) ∧ (B.getD p 0 ≠ 48 → spn dig B q = spn dig B (p + 1)) ∧ RC w0 g (.slice (some ⟨b, off, none⟩) n c) B q bad W ∧ Kg g w W) (fun _ W => n - ptAt W g)
  case atStart => exact ⟨p + 1, Nat.le_refl _, fun _ => rfl, fun _ => rfl, HS1.out, HS2.out⟩
  case round =>
    clear HS1 HS2 x0 x1 x2 hfr hx0
    obtain ⟨q, hpq, hz1, hz2, hrc, hkg⟩ := hrel
    have HRC : Hid (RC w0 g (.slice (some ⟨b, off, none⟩) n c) B q bad wr) := hrc
    have HKG : Hid (Kg g w wr) := hkg
    have hq := hrc.at_le
    rw [← HN.out] at hq
    obtain ⟨y0, y1, y2⟩ := hrc.cells
    have f1 : wr.frozen? ⟨g, 1, none⟩ = false := by simp [World.frozen?, hrc.hp]
    have hxp := HBA.out wr hrc.up p (by have := HN.out; omega)
    clear hrc hkg
    by_cases h48 : B.getD p 0 = 48
    · have HQ : Hid (q = nue B p) := by unfold Hid; rw [HN48.out h48]; exact hz1 h48
      have h48c : (B.getD p 0 != 48) = false := by simpa using h48
      generalize B.getD p 0 = dp at *
      clear hz1 hz2 HN48 HNN h48
      go_wp2_with fail
      go_quiet (fail)
      have HRX : Hid (RC w0 g (.slice (some ⟨b, off, none⟩) n c) B q bad (wr.drewN nq)) := HRC.out.kb ((Up.refl _).drewN nq)
      have HKX : Hid (Kg g w (wr.drewN nq)) := HKG.out.up ((Up.refl _).drewN nq)
      clear y0 y1 y2 HRC HKG
      generalize wr.drewN nq = X at *
      have hpc : p < c := by omega
      have hs3 : p ≤ c := by omega
      have hs4 : q ≤ c := by omega
      have hs5 : ¬ c = p := by omega
      obtain ⟨y0, y1, y2⟩ := HRX.out.cells
      have HBL : Hid (∀ W, Up w0 W → BL W (.slice (some ⟨b, off + p, none⟩) (q - p) (c - p)) (sub B p q)) := fun W hu => rba_bl (c := c - p) (rba_sub (p := p) (e := q) (HBA.out.up hu) (by have := HN.out; omega)) (by rw [sub_len (by have := HN.out; omega)]) (by rw [sub_len (by have := HN.out; omega)]; omega)
      have HVL : Hid (∀ k, Calls Tryz.prog 87 #[.slice (some ⟨b, off + p, none⟩) (q - p) (c - p)] (X.drewN k) fun e w' => e = .returned (.tuple #[.int .i64 (if 9223372036854775807 < val (sub B p q) then 0 else val (sub B p q)), .bool (decide (val (sub B p q) ≤ 9223372036854775807))]) ∧ w' = X.drewN k) := fun k => rvalue_ _ (sub B p q) (X.drewN k) (HBL.out _ (HRX.out.up.drewN k)) (by rw [HQ.out]; exact HDG.out) (by rw [sub_len (by have := HN.out; omega)]; omega)
      rw [← HQ.out] at HF1 HF2 HF3
      clear HBL
      generalize val (sub B p q) = vv at *
      by_cases hbig : 9223372036854775807 < vv
      · have hb2 : decide (vv ≤ 9223372036854775807) = false := decide_eq_false (by omega)
        rw [if_pos hbig, hb2] at HVL
        go_wp2_with fail
        go_quiet (exact Calls.quiet_of_same (HVL.out _))
        have HR9 : Hid (RC w0 g (.slice (some ⟨b, off, none⟩) n c) B q (p : Int) ((X.drewN nq).setCell ⟨g, 2, none⟩ (.int .i64 (p : Int)))) := (HRX.out.kb ((Up.refl _).drewN nq)).fault _
        have HK9 : Hid (Kg g w ((X.drewN nq).setCell ⟨g, 2, none⟩ (.int .i64 (p : Int)))) := (HKX.out.up ((Up.refl _).drewN nq)).set _ _
        have f2 : X.frozen? ⟨g, 2, none⟩ = false := by simp [World.frozen?, HRX.out.hp]
        go_wp2_with fail
        exact HF1.out _ hbig HR9.out HK9.out
      · have hb2 : decide (vv ≤ 9223372036854775807) = true := decide_eq_true (by omega)
        rw [if_neg hbig, hb2] at HVL
        by_cases hqn : q < n
        · have hqn2 : (q : Int) < (n : Int) := by omega
          have hqd : decide ((q : Int) < (n : Int)) = true := decide_eq_true hqn2
          have hx := HBA.out X HRX.out.up q (by have := HN.out; omega)
          have HPT : Hid (∀ k, Calls Tryz.prog 86 #[.int .u8 (B.getD q 0)] k fun e w' => e = .returned (.bool (prt (B.getD q 0))) ∧ w' = k) := fun k => part_ _ k
          have HLT : Hid (prt (B.getD q 0) = true → q < spn prt B q) := fun h9 => by
            have h1 := spn_more (f := prt) (B := B) (p := q) (by have := HN.out; omega) h9
            have h2 : q + 1 ≤ spn prt B (q + 1) := by unfold spn; omega
            omega
          have HNL : Hid (prt (B.getD q 0) = false → ¬ q < spn prt B q) := fun h9 => by rw [spn_stop (by have := HN.out; omega) h9]; omega
          generalize B.getD q 0 = d at *
          generalize prt d = pd at *
          cases pd
          · have hnl := HNL.out rfl
            go_wp2_with fail
            go_quiet (exact Calls.quiet_of_same (HVL.out _))
            go_wp2_with fail
            go_quiet (exact (HPT.out _).mono fun _ _ ⟨he, hm⟩ => ⟨he, _, hm⟩)
            go_wp2_with fail
            exact HF3.out _ hbig hnl (HRX.out.kb (((Up.refl _).drewN _).drewN _)) (HKX.out.up (((Up.refl _).drewN _).drewN _))
          · have hlt9 := HLT.out rfl
            go_wp2_with fail
            go_quiet (exact Calls.quiet_of_same (HVL.out _))
            go_wp2_with fail
            go_quiet (exact (HPT.out _).mono fun _ _ ⟨he, hm⟩ => ⟨he, _, hm⟩)
            have f2 : X.frozen? ⟨g, 2, none⟩ = false := by simp [World.frozen?, HRX.out.hp]
            have HR9 : ∀ k, RC w0 g (.slice (some ⟨b, off, none⟩) n c) B q (q : Int) ((X.drewN k).setCell ⟨g, 2, none⟩ (.int .i64 (q : Int))) := fun k => (HRX.out.kb ((Up.refl _).drewN k)).fault _
            have HK9 : ∀ k, Kg g w ((X.drewN k).setCell ⟨g, 2, none⟩ (.int .i64 (q : Int))) := fun k => (HKX.out.up ((Up.refl _).drewN k)).set _ _
            have HR9 : Hid _ := HR9
            have HK9 : Hid _ := HK9
            go_wp2_with fail
            exact HF2.out _ hbig hlt9 (HR9.out _) (HK9.out _)
        · have hqn2 : ¬ (q : Int) < (n : Int) := by omega
          have hqd : decide ((q : Int) < (n : Int)) = false := decide_eq_false hqn2
          have HNL : Hid (¬ q < spn prt B q) := by unfold Hid; rw [spn_end (by have := HN.out; omega)]; omega
          go_wp2_with fail
          go_quiet (exact Calls.quiet_of_same (HVL.out _))
          go_wp2_with fail
          go_quiet (fail)
          go_wp2_with fail
          exact HF3.out _ hbig HNL.out (HRX.out.kb (((Up.refl _).drewN _).drewN _)) (HKX.out.up (((Up.refl _).drewN _).drewN _))
    · have HZ2 : Hid (spn dig B q = spn dig B (p + 1)) := hz2 h48
      have HNU : Hid (nue B p = spn dig B (p + 1)) := HNN.out h48
      have h48b : ¬ B.getD p 0 = 48 := h48
      have h48c : (B.getD p 0 != 48) = true := by simpa using h48
      generalize B.getD p 0 = dp at *
      clear hz1 hz2 HN48 HNN
      by_cases hlt : q < n
      · have hlt2 : (q : Int) < (n : Int) := by omega
        have hd2 : decide ((q : Int) < (n : Int)) = true := decide_eq_true hlt2
        have hx := HBA.out wr HRC.out.up q (by have := HN.out; omega)
        have HDC : Hid (∀ k, Calls Tryz.prog 61 #[.int .u8 (B.getD q 0)] k fun e w' => e = .returned (.bool (dig (B.getD q 0))) ∧ w' = k) := fun k => digit_ _ k
        have HST : Hid (dig (B.getD q 0) = true → spn dig B (q + 1) = spn dig B q) := fun h9 => (spn_more (by have := HN.out; omega) h9).symm
        have HSS : Hid (dig (B.getD q 0) = false → spn dig B q = q) := fun h9 => spn_stop (by have := HN.out; omega) h9
        generalize B.getD q 0 = dq at *
        generalize dig dq = pq at *
        cases pq
        · have HQ : Hid (q = nue B p) := by unfold Hid; rw [HNU.out, ← HZ2.out]; exact (HSS.out rfl).symm
          clear HST HSS
          go_wp2_with fail
          go_quiet (exact Calls.quiet_of_same (HDC.out _))
          have HRX : Hid (RC w0 g (.slice (some ⟨b, off, none⟩) n c) B q bad (wr.drewN nq)) := HRC.out.kb ((Up.refl _).drewN nq)
          have HKX : Hid (Kg g w (wr.drewN nq)) := HKG.out.up ((Up.refl _).drewN nq)
          clear y0 y1 y2 HRC HKG
          generalize wr.drewN nq = X at *
          have hpc : p < c := by omega
          have hs3 : p ≤ c := by omega
          have hs4 : q ≤ c := by omega
          have hs5 : ¬ c = p := by omega
          obtain ⟨y0, y1, y2⟩ := HRX.out.cells
          have HBL : Hid (∀ W, Up w0 W → BL W (.slice (some ⟨b, off + p, none⟩) (q - p) (c - p)) (sub B p q)) := fun W hu => rba_bl (c := c - p) (rba_sub (p := p) (e := q) (HBA.out.up hu) (by have := HN.out; omega)) (by rw [sub_len (by have := HN.out; omega)]) (by rw [sub_len (by have := HN.out; omega)]; omega)
          have HVL : Hid (∀ k, Calls Tryz.prog 87 #[.slice (some ⟨b, off + p, none⟩) (q - p) (c - p)] (X.drewN k) fun e w' => e = .returned (.tuple #[.int .i64 (if 9223372036854775807 < val (sub B p q) then 0 else val (sub B p q)), .bool (decide (val (sub B p q) ≤ 9223372036854775807))]) ∧ w' = X.drewN k) := fun k => rvalue_ _ (sub B p q) (X.drewN k) (HBL.out _ (HRX.out.up.drewN k)) (by rw [HQ.out]; exact HDG.out) (by rw [sub_len (by have := HN.out; omega)]; omega)
          rw [← HQ.out] at HF1 HF2 HF3
          clear HBL
          generalize val (sub B p q) = vv at *
          by_cases hbig : 9223372036854775807 < vv
          · have hb2 : decide (vv ≤ 9223372036854775807) = false := decide_eq_false (by omega)
            rw [if_pos hbig, hb2] at HVL
            go_wp2_with fail
            go_quiet (exact Calls.quiet_of_same (HVL.out _))
            have HR9 : Hid (RC w0 g (.slice (some ⟨b, off, none⟩) n c) B q (p : Int) ((X.drewN nq).setCell ⟨g, 2, none⟩ (.int .i64 (p : Int)))) := (HRX.out.kb ((Up.refl _).drewN nq)).fault _
            have HK9 : Hid (Kg g w ((X.drewN nq).setCell ⟨g, 2, none⟩ (.int .i64 (p : Int)))) := (HKX.out.up ((Up.refl _).drewN nq)).set _ _
            have f2 : X.frozen? ⟨g, 2, none⟩ = false := by simp [World.frozen?, HRX.out.hp]
            go_wp2_with fail
            exact HF1.out _ hbig HR9.out HK9.out
          · have hb2 : decide (vv ≤ 9223372036854775807) = true := decide_eq_true (by omega)
            rw [if_neg hbig, hb2] at HVL
            by_cases hqn : q < n
            · have hqn2 : (q : Int) < (n : Int) := by omega
              have hqd : decide ((q : Int) < (n : Int)) = true := decide_eq_true hqn2
              have hx := HBA.out X HRX.out.up q (by have := HN.out; omega)
              have HPT : Hid (∀ k, Calls Tryz.prog 86 #[.int .u8 (B.getD q 0)] k fun e w' => e = .returned (.bool (prt (B.getD q 0))) ∧ w' = k) := fun k => part_ _ k
              have HLT : Hid (prt (B.getD q 0) = true → q < spn prt B q) := fun h9 => by
                have h1 := spn_more (f := prt) (B := B) (p := q) (by have := HN.out; omega) h9
                have h2 : q + 1 ≤ spn prt B (q + 1) := by unfold spn; omega
                omega
              have HNL : Hid (prt (B.getD q 0) = false → ¬ q < spn prt B q) := fun h9 => by rw [spn_stop (by have := HN.out; omega) h9]; omega
              generalize B.getD q 0 = d at *
              generalize prt d = pd at *
              cases pd
              · have hnl := HNL.out rfl
                go_wp2_with fail
                go_quiet (exact Calls.quiet_of_same (HVL.out _))
                go_wp2_with fail
                go_quiet (exact (HPT.out _).mono fun _ _ ⟨he, hm⟩ => ⟨he, _, hm⟩)
                go_wp2_with fail
                exact HF3.out _ hbig hnl (HRX.out.kb (((Up.refl _).drewN _).drewN _)) (HKX.out.up (((Up.refl _).drewN _).drewN _))
              · have hlt9 := HLT.out rfl
                go_wp2_with fail
                go_quiet (exact Calls.quiet_of_same (HVL.out _))
                go_wp2_with fail
                go_quiet (exact (HPT.out _).mono fun _ _ ⟨he, hm⟩ => ⟨he, _, hm⟩)
                have f2 : X.frozen? ⟨g, 2, none⟩ = false := by simp [World.frozen?, HRX.out.hp]
                have HR9 : ∀ k, RC w0 g (.slice (some ⟨b, off, none⟩) n c) B q (q : Int) ((X.drewN k).setCell ⟨g, 2, none⟩ (.int .i64 (q : Int))) := fun k => (HRX.out.kb ((Up.refl _).drewN k)).fault _
                have HK9 : ∀ k, Kg g w ((X.drewN k).setCell ⟨g, 2, none⟩ (.int .i64 (q : Int))) := fun k => (HKX.out.up ((Up.refl _).drewN k)).set _ _
                have HR9 : Hid _ := HR9
                have HK9 : Hid _ := HK9
                go_wp2_with fail
                exact HF2.out _ hbig hlt9 (HR9.out _) (HK9.out _)
            · exact absurd hlt hqn
        · have HQ : Hid (spn dig B (q + 1) = spn dig B (p + 1)) := by unfold Hid; rw [← HZ2.out]; exact HST.out rfl
          have ei : IntKind.i64.wrap ((q : Int) + 1) = ((q + 1 : Nat) : Int) := by rw [IntKind.wrap_i64]; omega
          clear HST HSS
          go_wp2_with fail
          go_quiet (exact Calls.quiet_of_same (HDC.out _))
          go_wp2_with fail
          go_roundw
          case rel => exact ⟨q + 1, by omega, fun h9 => absurd h9 h48b, fun _ => HQ.out, (HRC.out.kb ((Up.refl _).drewN nq)).go (q + 1) (by have := HN.out; omega), (HKG.out.up ((Up.refl _).drewN nq)).set _ _⟩
          case measure =>
            have hcst : (q : Int) + 1 = ((q + 1 : Nat) : Int) := by omega
            rw [hcst, ((HRC.out.kb ((Up.refl _).drewN nq)).go (q + 1) (by have := HN.out; omega)).ptAt, HRC.out.ptAt]
            omega
      · have hlt2 : ¬ (q : Int) < (n : Int) := by omega
        have hd2 : decide ((q : Int) < (n : Int)) = false := decide_eq_false hlt2
        have HQ : Hid (q = nue B p) := by unfold Hid; rw [HNU.out, ← HZ2.out]; exact (spn_end (by have := HN.out; omega)).symm
        go_wp2_with fail
        go_quiet (fail)
        have HRX : Hid (RC w0 g (.slice (some ⟨b, off, none⟩) n c) B q bad (wr.drewN nq)) := HRC.out.kb ((Up.refl _).drewN nq)
        have HKX : Hid (Kg g w (wr.drewN nq)) := HKG.out.up ((Up.refl _).drewN nq)
        clear y0 y1 y2 HRC HKG
        generalize wr.drewN nq = X at *
        have hpc : p < c := by omega
        have hs3 : p ≤ c := by omega
        have hs4 : q ≤ c := by omega
        have hs5 : ¬ c = p := by omega
        obtain ⟨y0, y1, y2⟩ := HRX.out.cells
        have HBL : Hid (∀ W, Up w0 W → BL W (.slice (some ⟨b, off + p, none⟩) (q - p) (c - p)) (sub B p q)) := fun W hu => rba_bl (c := c - p) (rba_sub (p := p) (e := q) (HBA.out.up hu) (by have := HN.out; omega)) (by rw [sub_len (by have := HN.out; omega)]) (by rw [sub_len (by have := HN.out; omega)]; omega)
        have HVL : Hid (∀ k, Calls Tryz.prog 87 #[.slice (some ⟨b, off + p, none⟩) (q - p) (c - p)] (X.drewN k) fun e w' => e = .returned (.tuple #[.int .i64 (if 9223372036854775807 < val (sub B p q) then 0 else val (sub B p q)), .bool (decide (val (sub B p q) ≤ 9223372036854775807))]) ∧ w' = X.drewN k) := fun k => rvalue_ _ (sub B p q) (X.drewN k) (HBL.out _ (HRX.out.up.drewN k)) (by rw [HQ.out]; exact HDG.out) (by rw [sub_len (by have := HN.out; omega)]; omega)
        rw [← HQ.out] at HF1 HF2 HF3
        clear HBL
        generalize val (sub B p q) = vv at *
        by_cases hbig : 9223372036854775807 < vv
        · have hb2 : decide (vv ≤ 9223372036854775807) = false := decide_eq_false (by omega)
          rw [if_pos hbig, hb2] at HVL
          go_wp2_with fail
          go_quiet (exact Calls.quiet_of_same (HVL.out _))
          have HR9 : Hid (RC w0 g (.slice (some ⟨b, off, none⟩) n c) B q (p : Int) ((X.drewN nq).setCell ⟨g, 2, none⟩ (.int .i64 (p : Int)))) := (HRX.out.kb ((Up.refl _).drewN nq)).fault _
          have HK9 : Hid (Kg g w ((X.drewN nq).setCell ⟨g, 2, none⟩ (.int .i64 (p : Int)))) := (HKX.out.up ((Up.refl _).drewN nq)).set _ _
          have f2 : X.frozen? ⟨g, 2, none⟩ = false := by simp [World.frozen?, HRX.out.hp]
          go_wp2_with fail
          exact HF1.out _ hbig HR9.out HK9.out
        · have hb2 : decide (vv ≤ 9223372036854775807) = true := decide_eq_true (by omega)
          rw [if_neg hbig, hb2] at HVL
          by_cases hqn : q < n
          · exact absurd hqn hlt
          · have hqn2 : ¬ (q : Int) < (n : Int) := by omega
            have hqd : decide ((q : Int) < (n : Int)) = false := decide_eq_false hqn2
            have HNL : Hid (¬ q < spn prt B q) := by unfold Hid; rw [spn_end (by have := HN.out; omega)]; omega
            go_wp2_with fail
            go_quiet (exact Calls.quiet_of_same (HVL.out _))
            go_wp2_with fail
            go_quiet (fail)
            go_wp2_with fail
            exact HF3.out _ hbig HNL.out (HRX.out.kb (((Up.refl _).drewN _).drewN _)) (HKX.out.up (((Up.refl _).drewN _).drewN _))
end TK
end Go.Proofs.YtkldllnnocdhbaaGreatDoor
