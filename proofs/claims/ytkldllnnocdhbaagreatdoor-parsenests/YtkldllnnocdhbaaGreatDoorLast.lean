/-
  A region that draws its order, all of whose operations are quiet but the last one, which waits for all others: one walk of the lexical order, and the last operation behind it.
-/
import Derived.Test.YtkldllnnocdhbaaGreatDoorRn8
import Derived.Test.YtkldllnnocdhbaaGreatDoorLc
namespace Go.Proofs.YtkldllnnocdhbaaGreatDoor
open Go.RowKit
attribute [local go_sem ↓] Go.wp_at_zero Go.wp_at_succ
namespace TK
theorem is_rmk {B : List Int} {p : Nat} (hp : p < B.length) : isB B p [47, 47] = rmk B p := by
  unfold isB rmk
  show (decide (p + 2 ≤ B.length) && decide (sub B p (p + 2) = [47, 47])) = _
  by_cases h : p + 1 < B.length
  · rw [sub_more (i := p + 1) (by omega) h, sub_more (Nat.le_refl _) hp, sub_self, decide_eq_true (show p + 2 ≤ B.length by omega), decide_eq_true h]
    generalize B.getD p 0 = x
    generalize B.getD (p + 1) 0 = y
    simp only [List.nil_append, List.cons_append, List.cons.injEq, and_true, Bool.true_and]
    by_cases h1 : x = 47 <;> by_cases h2 : y = 47 <;> simp [h1, h2]
  · rw [decide_eq_false (show ¬ p + 2 ≤ B.length by omega), decide_eq_false h, Bool.false_and, Bool.false_and, Bool.and_false]
theorem gp_blank {B : List Int} {b p : Nat} (h : Gp B b p) (hp : p < B.length) (hb : blk (B.getD p 0) = true) : Gp B b (p + 1) := h.step hp (by unfold stp; rw [if_pos hb])
theorem gp_rmk {B : List Int} {b p : Nat} (h : Gp B b p) (hp : p < B.length) (hb : blk (B.getD p 0) = false) (hr : rmk B p = true) : Gp B b (spn nnl B p) := h.step hp (by unfold stp; rw [if_neg (by rw [hb]; decide), if_pos hr])
set_option maxRecDepth 100000 in
set_option maxHeartbeats 8000000 in
theorem cpass_ (w0 : World) (g : Nat) (b off c : Nat) (B : List Int) (p : Nat) (bad : Int) (w : World) (h : RC w0 g (.slice (some ⟨b, off, none⟩) B.length c) B p bad w) (hba : BA w0 b off B) :
    Calls Tryz.prog 23 #[.pointer (some ⟨g, 0, none⟩)] w fun e w' => e = .returned (.tuple #[]) ∧ ∃ q, RC w0 g (.slice (some ⟨b, off, none⟩) B.length c) B q bad w' ∧ Gp B p q ∧ (q < B.length → blk (B.getD q 0) = false ∧ rmk B q = false) ∧ Kg g w w' := by
  obtain ⟨n, hN⟩ : ∃ n, n = B.length := ⟨_, rfl⟩
  have HN : Hid (n = B.length) := hN
  rw [← hN] at h ⊢
  have hlen : n ≤ 65536 := by rw [hN]; exact h.len
  obtain ⟨Post, hPost⟩ : ∃ P : Ending → World → Prop, P = fun e w' => e = .returned (.tuple #[]) ∧ ∃ q, RC w0 g (.slice (some ⟨b, off, none⟩) n c) B q bad w' ∧ Gp B p q ∧ (q < n → blk (B.getD q 0) = false ∧ rmk B q = false) ∧ Kg g w w' := ⟨_, rfl⟩
  rw [← hPost]
  have HPo : Hid (Post = fun e w' => e = .returned (.tuple #[]) ∧ ∃ q, RC w0 g (.slice (some ⟨b, off, none⟩) n c) B q bad w' ∧ Gp B p q ∧ (q < n → blk (B.getD q 0) = false ∧ rmk B q = false) ∧ Kg g w w') := hPost
  have HR : Hid (RC w0 g (.slice (some ⟨b, off, none⟩) n c) B p bad w) := h
  have HBA : Hid (BA w0 b off B) := hba
  clear h hba hN hPost
  go_enter Tryz.func23, Tryz.ntmps23
  go_wp2_with fail
  go_loopw [2] (fun _ W => ∃ q : Nat, Gp B p q ∧ RC w0 g (.slice (some ⟨b, off, none⟩) n c) B q bad W ∧ Kg g w W) (fun _ W => n - ptAt W g)
  case atStart => exact ⟨p, Gp.refl _, HR.out, Kg.refl _ _⟩
  case round =>
    obtain ⟨q, hgp, hrc, hkg⟩ := hrel
    have HGP : Hid (Gp B p q) := hgp
    have HRC : Hid (RC w0 g (.slice (some ⟨b, off, none⟩) n c) B q bad wr) := hrc
    have HKG : Hid (Kg g w wr) := hkg
    have hq := hrc.at_le
    rw [← HN.out] at hq
    obtain ⟨y0, y1, y2⟩ := hrc.cells
    have f1 : wr.frozen? ⟨g, 1, none⟩ = false := by simp [World.frozen?, hrc.hp]
    clear hrc hkg hgp
    by_cases hlt : q < n
    · have hlt2 : (q : Int) < (n : Int) := by omega
      have hd2 : decide ((q : Int) < (n : Int)) = true := decide_eq_true hlt2
      have hx := HBA.out wr HRC.out.up q (by have := HN.out; omega)
      have HBK : Hid (∀ k, Calls Tryz.prog 57 #[.int .u8 (B.getD q 0)] k fun e w' => e = .returned (.bool (blk (B.getD q 0))) ∧ w' = k) := fun k => rblank_ _ k
      have HG1 : Hid (blk (B.getD q 0) = true → Gp B p (q + 1)) := fun h9 => gp_blank HGP.out (by have := HN.out; omega) h9
      have HG2 : Hid (blk (B.getD q 0) = false → rmk B q = true → Gp B p (spn nnl B q)) := fun h9 h8 => gp_rmk HGP.out (by have := HN.out; omega) h9 h8
      have HGT : Hid (rmk B q = true → q < spn nnl B q) := fun h9 => spn_gt (by have := HN.out; omega) (by
        unfold rmk at h9
        have h8 : B.getD q 0 = 47 := by simpa using (Bool.and_eq_true_iff.1 h9).1
        rw [h8]; decide)
      have HG3 : Hid (blk (B.getD q 0) = false → rmk B q = false → (q < n → blk (B.getD q 0) = false ∧ rmk B q = false)) := fun h9 h8 _ => ⟨h9, h8⟩
      obtain ⟨bd, hbd⟩ : ∃ bd, bd = blk (B.getD q 0) := ⟨_, rfl⟩
      have HBD : Hid (bd = blk (B.getD q 0)) := hbd
      rw [← hbd] at HBK HG1 HG2 HG3
      clear hbd
      cases bd
      · have HIS : Hid (∀ W, Up wr W → Calls Tryz.prog 58 #[.pointer (some ⟨g, 0, none⟩), .string ⟨#[47, 47]⟩] W fun e w' => e = .returned (.bool (rmk B q)) ∧ Up W w') := fun W hu => by
          have h9 := ris_ w0 g (.slice (some ⟨b, off, none⟩) n c) B q bad [47, 47] W (HRC.out.kb hu) (by unfold Byt; decide) (by decide) (by decide)
          rw [is_rmk (by have := HN.out; omega)] at h9
          exact h9
        generalize B.getD q 0 = d at hx HBK
        obtain ⟨rd, hrd⟩ : ∃ rd, rd = rmk B q := ⟨_, rfl⟩
        rw [← hrd] at HIS HG2 HGT
        have HRD : Hid (rd = rmk B q) := hrd
        clear hrd
        go_wp2_with fail
        go_quiet (fail)
        go_wp2_with fail
        go_quiet (exact (HBK.out _).mono fun _ _ ⟨he, hm⟩ => ⟨he, _, hm⟩)
        go_wp2_with fail
        refine Calls.mono (HIS.out _ ((Up.refl _).drewN _)) ?_
        rintro r W5 ⟨rfl, u5⟩
        have HR5 : Hid (RC w0 g (.slice (some ⟨b, off, none⟩) n c) B q bad W5) := (HRC.out.kb ((Up.refl _).drewN _)).kb u5
        have HK5 : Hid (Kg g w W5) := (HKG.out.up ((Up.refl _).drewN _)).up u5
        clear u5 HIS HBK hx y0 y1 y2 f1
        cases rd
        · go_wp2_with fail
          refine bodyPost_ret (results_none rfl _ _ _) rfl ?_
          rw [HPo.out]
          exact ⟨rfl, q, HR5.out, HGP.out, fun _ => ⟨HBD.out.symm, HRD.out.symm⟩, HK5.out⟩
        · have HGQ : Hid (Gp B p (spn nnl B q)) := by have h9 := HG2.out; unfold Hid; simpa using h9
          have HGT2 : Hid (q < spn nnl B q) := by have h9 := HGT.out; unfold Hid; simpa using h9
          go_wp2_with fail
          go_loopw [34] (fun _ W => ∃ r : Nat, q ≤ r ∧ spn nnl B r = spn nnl B q ∧ RC w0 g (.slice (some ⟨b, off, none⟩) n c) B r bad W ∧ Kg g w W) (fun _ W => n - ptAt W g)
          case atStart => exact ⟨q, Nat.le_refl _, rfl, HR5.out, HK5.out⟩
          case round =>
            obtain ⟨r, hqr, hsp, hrc, hkg⟩ := hrel
            have HRC2 : Hid (RC w0 g (.slice (some ⟨b, off, none⟩) n c) B r bad wr) := hrc
            have HKG2 : Hid (Kg g w wr) := hkg
            have HSP : Hid (spn nnl B r = spn nnl B q) := hsp
            have hr9 := hrc.at_le
            rw [← HN.out] at hr9
            obtain ⟨y0, y1, y2⟩ := hrc.cells
            have f1 : wr.frozen? ⟨g, 1, none⟩ = false := by simp [World.frozen?, hrc.hp]
            clear hrc hkg hsp
            by_cases hlr : r < n
            · have hlr2 : (r : Int) < (n : Int) := by omega
              have hd3 : decide ((r : Int) < (n : Int)) = true := decide_eq_true hlr2
              have hx := HBA.out wr HRC2.out.up r (by have := HN.out; omega)
              have HM1 : Hid (¬ B.getD r 0 = 10 → spn nnl B (r + 1) = spn nnl B r) := fun h9 => (spn_more (by have := HN.out; omega) (by unfold nnl; simpa using h9)).symm
              have HM2 : Hid (B.getD r 0 = 10 → spn nnl B r = r) := fun h9 => spn_stop (by have := HN.out; omega) (by unfold nnl; simpa using h9)
              generalize B.getD r 0 = d9 at *
              by_cases hd9 : d9 = 10
              · have HQ : Hid (r = spn nnl B q) := by unfold Hid; rw [← HSP.out]; exact (HM2.out hd9).symm
                subst hd9
                clear HM1 HM2
                go_wp2_with fail
                go_quiet (fail)
                go_wp2_with fail
                go_roundw
                case rel => exact ⟨r, by rw [HQ.out]; exact HGQ.out, HRC2.out.kb ((Up.refl _).drewN _), HKG2.out.up ((Up.refl _).drewN _)⟩
                case measure =>
                  rw [(HRC2.out.kb ((Up.refl _).drewN _)).ptAt, HRC.out.ptAt]
                  have h1 := HGT2.out
                  have h2 := HQ.out
                  omega
              · have HQ : Hid (spn nnl B (r + 1) = spn nnl B q) := by unfold Hid; rw [← HSP.out]; exact HM1.out hd9
                have hd8 : (d9 != 10) = true := by simpa using hd9
                have ei : IntKind.i64.wrap ((r : Int) + 1) = ((r + 1 : Nat) : Int) := by rw [IntKind.wrap_i64]; omega
                clear HM1 HM2
                go_wp2_with fail
                go_quiet (fail)
                go_wp2_with fail
                go_roundw
                case rel => exact ⟨r + 1, by omega, HQ.out, (HRC2.out.kb ((Up.refl _).drewN _)).go (r + 1) (by have := HN.out; omega), (HKG2.out.up ((Up.refl _).drewN _)).set _ _⟩
                case measure =>
                  have hcst : (r : Int) + 1 = ((r + 1 : Nat) : Int) := by omega
                  rw [hcst, ((HRC2.out.kb ((Up.refl _).drewN _)).go (r + 1) (by have := HN.out; omega)).ptAt, HRC2.out.ptAt]
                  omega
            · have hlr2 : ¬ (r : Int) < (n : Int) := by omega
              have hd3 : decide ((r : Int) < (n : Int)) = false := decide_eq_false hlr2
              have HQ : Hid (r = spn nnl B q) := by unfold Hid; rw [← HSP.out]; exact (spn_end (by have := HN.out; omega)).symm
              go_wp2_with fail
              go_quiet (fail)
              go_wp2_with fail
              go_roundw
              case rel => exact ⟨r, by rw [HQ.out]; exact HGQ.out, HRC2.out.kb ((Up.refl _).drewN _), HKG2.out.up ((Up.refl _).drewN _)⟩
              case measure =>
                rw [(HRC2.out.kb ((Up.refl _).drewN _)).ptAt, HRC.out.ptAt]
                have h1 := HGT2.out
                have h2 := HQ.out
                omega
      · generalize B.getD q 0 = d at *
        have ei : IntKind.i64.wrap ((q : Int) + 1) = ((q + 1 : Nat) : Int) := by rw [IntKind.wrap_i64]; omega
        go_wp2_with fail
        go_quiet (fail)
        go_wp2_with fail
        go_quiet (exact (HBK.out _).mono fun _ _ ⟨he, hm⟩ => ⟨he, _, hm⟩)
        go_wp2_with fail
        go_roundw
        case rel => exact ⟨q + 1, by simpa using HG1.out, (HRC.out.kb ((Up.refl _).drewN _)).go (q + 1) (by have := HN.out; omega), (HKG.out.up ((Up.refl _).drewN _)).set _ _⟩
        case measure =>
          have hcst : (q : Int) + 1 = ((q + 1 : Nat) : Int) := by omega
          rw [hcst, ((HRC.out.kb ((Up.refl _).drewN _)).go (q + 1) (by have := HN.out; omega)).ptAt, HRC.out.ptAt]
          omega
    · have hlt2 : ¬ (q : Int) < (n : Int) := by omega
      have hd2 : decide ((q : Int) < (n : Int)) = false := decide_eq_false hlt2
      go_wp2_with fail
      go_quiet (fail)
      go_wp2_with fail
      refine bodyPost_end (results_none rfl _ _ _) rfl ?_
      rw [HPo.out]
      exact ⟨rfl, q, HRC.out.kb ((Up.refl _).drewN _), HGP.out, fun h9 => absurd h9 hlt, HKG.out.up ((Up.refl _).drewN _)⟩
end TK
end Go.Proofs.YtkldllnnocdhbaaGreatDoor
namespace Go.Proofs.YtkldllnnocdhbaaGreatDoor
open Go

section
variable {P : Program} {ops : Array Oper} {md : Region.Mode} {C : World → Prop}
def wpAnyT (P : Program) (md : Region.Mode) (ops : Array Oper) (n : Nat) (C : World → Prop) (R : Act → Prop) : Nat → Array Bool → Act → Prop
  | 0, listed, a => Region.ready md ops listed = [n] ∧ Region.ready md ops (listed.setIfInBounds n true) = [] ∧ R a
  | fuel + 1, listed, a => Region.ready md ops listed ≠ [] ∧ n ∉ Region.ready md ops listed ∧ ∀ i ∈ Region.ready md ops listed, qOp P ops C i (wpAnyT P md ops n C R fuel (listed.setIfInBounds i true)) a
def waitsB (md : Region.Mode) (ops : Array Oper) (n : Nat) : Bool := ((ops[n]?).map fun o => (List.range n).all fun i => o.after.any fun e => Region.binds md e && e.on == i).getD false && decide (ops.size = n + 1)
theorem waits_spec {n : Nat} (h : waitsB md ops n = true) {i : Nat} (hi : i < n) {listed : Array Bool} (hr : i ∈ Region.ready md ops listed) : n ∉ Region.ready md ops listed := by
  intro hn
  obtain ⟨_, o, ho, hall⟩ := mem_ready.1 hn
  have h0 := (mem_ready.1 hr).1
  simp only [waitsB, ho, Option.map_some, Option.getD_some, Bool.and_eq_true] at h
  have h1 := List.all_eq_true.1 h.1 i (List.mem_range.2 hi)
  obtain ⟨e, he, hb⟩ := Array.any_eq_true'.1 h1
  simp only [Bool.and_eq_true, beq_iff_eq] at hb
  have h2 := hall e he hb.1
  rw [hb.2] at h2
  rcases Nat.lt_or_ge i listed.size with h' | h'
  · simp [h'] at h0 h2; rw [h0] at h2; cases h2
  · simp [Array.getElem?_eq_none h'] at h2
theorem ready_lt {n : Nat} (h : waitsB md ops n = true) {i : Nat} {listed : Array Bool} (hr : i ∈ Region.ready md ops listed) (hi : i ≠ n) : i < n := by
  obtain ⟨_, o, ho, _⟩ := mem_ready.1 hr
  have hlt : i < ops.size := (Array.getElem?_eq_some_iff.1 ho).1
  simp only [waitsB, Bool.and_eq_true, decide_eq_true_eq] at h
  omega
theorem wpAnyT_first {n : Nat} (hW : waitsB md ops n = true) {R : Act → Prop} {i : Nat} (hin : i < n) {oi : Oper} {v : Value} (hi : ops[i]? = some oi) (hsel : ∀ (j : Nat) (o : Oper) cs b, ops[j]? = some o → o.op ≠ .select cs b) :
    ∀ (fuel : Nat) (listed : Array Bool) (a : Act),
      (∀ j oj, ops[j]? = some oj → j ≠ i → listed.getD j true = false → (∀ e ∈ oj.after, Region.binds md e = true → e.on ≠ i) → oi.apart ops oj = true) →
      i ∈ Region.ready md ops listed → YieldsIn P ops C oi v a →
      wpAnyT P md ops n C R fuel (listed.setIfInBounds i true) (a.put oi.dst v) → wpAnyT P md ops n C R (fuel + 1) listed a := by
  intro fuel
  induction fuel with
  | zero =>
    intro listed a _ hr hy H
    have hnn := waits_spec hW hin hr
    refine ⟨fun h => (by rw [h] at hr; cases hr), hnn, fun j hj => ?_⟩
    by_cases hji : j = i
    · subst hji; exact hy.qOp hi H
    · have := ready_mono hj hji
      rw [H.1] at this
      simp at this
      subst this
      exact (hnn hj).elim
  | succ fuel ih =>
    intro listed a hfree hr hy H
    refine ⟨fun h => (by rw [h] at hr; cases hr), waits_spec hW hin hr, fun j hj => ?_⟩
    by_cases hji : j = i
    · subst hji; exact hy.qOp hi H
    · have h1 := H.2.2 j (ready_mono hj hji)
      obtain ⟨hjun, oj, hoj, hall⟩ := mem_ready.1 hj
      have hnot : ∀ e ∈ oj.after, Region.binds md e = true → e.on ≠ i := fun e he hb heq => by
        have h1 := hall e he hb
        have h0 := (mem_ready.1 hr).1
        rw [heq] at h1
        rcases Nat.lt_or_ge i listed.size with h' | h'
        · simp [h'] at h0 h1; rw [h0] at h1; cases h1
        · simp [Array.getElem?_eq_none h'] at h1
      have h2 := qOp_put hoj (hfree j oj hoj hji hjun hnot) (fun cs b => hsel i oi cs b hi) (fun cs b => hsel j oj cs b hoj) hy h1
      have hfree' : ∀ k ok, ops[k]? = some ok → k ≠ i → (listed.setIfInBounds j true).getD k true = false →
          (∀ e ∈ ok.after, Region.binds md e = true → e.on ≠ i) → oi.apart ops ok = true := fun k ok hk hki hun hno => by
        refine hfree k ok hk hki ?_ hno
        by_cases hjk : j = k
        · subst hjk; exact hjun
        · rw [getD_set_ne true hjk] at hun; exact hun
      refine qOp_mono (fun a' h3 => ih (listed.setIfInBounds j true) a' hfree' (ready_mono hr (Ne.symm hji)) h3.1 ?_) h2
      rw [Array.setIfInBounds_comm _ _ hji]
      exact h3.2
def lexT (md : Region.Mode) (ops : Array Oper) (n : Nat) : Nat → Nat → Array Bool → Bool
  | 0, _, listed => (Region.ready md ops listed == [n]) && (Region.ready md ops (listed.setIfInBounds n true)).isEmpty
  | fuel + 1, k, listed => (Region.ready md ops listed).contains k && decide (k < n) && Region.free md ops listed k && lexT md ops n fuel (k + 1) (listed.setIfInBounds k true)
def lastB (md : Region.Mode) (ops : Array Oper) (n : Nat) : Bool := Region.noSelect ops && waitsB md ops n && lexT md ops n n 0 (Array.replicate ops.size false)
theorem wpAnyT_lex {n : Nat} (hW : waitsB md ops n = true) {R : Act → Prop} (hs : Region.noSelect ops = true) : ∀ (l : List Oper) (k : Nat) (listed : Array Bool) (a : Act), (∀ j o, l[j]? = some o → ops[k + j]? = some o) →
    lexT md ops n l.length k listed = true → wpQuiet P ops C R l a → wpAnyT P md ops n C R l.length listed a
  | [], _, _, _, _, hB, h => by
    simp only [List.length_nil, lexT, Bool.and_eq_true, beq_iff_eq, List.isEmpty_iff] at hB
    exact ⟨hB.1, hB.2, h⟩
  | o :: l, k, listed, a, hl, hB, h => by
    have h0 : ops[k]? = some o := hl 0 o rfl
    simp only [List.length_cons, lexT, Bool.and_eq_true, decide_eq_true_eq] at hB
    obtain ⟨⟨⟨hr, hk⟩, hf⟩, hB'⟩ := hB
    have hst : qOp P ops C k (wpQuiet P ops C R l) a := by unfold qOp; simp only [h0]; exact h
    obtain ⟨v, hy, hK⟩ := yieldsIn_of_qOp h0 hst
    exact wpAnyT_first hW hk h0 (Region.noSelect_spec hs) l.length listed a (Region.free_spec h0 hf) (by simpa using hr) hy
      (wpAnyT_lex hW hs l (k + 1) _ _ (fun j o' hj => by have := hl (j + 1) o' (by simpa using hj); simpa [Nat.add_assoc, Nat.add_comm 1 j] using this) hB' hK)
theorem wpAny_of_T {n : Nat} {Q : Exit → Act → World → Prop} : ∀ (fuel : Nat) (listed : Array Bool) (a : Act) (w : World), C w →
    wpAnyT P md ops n C (fun a' => ∀ w', C w' → wpOp P ops Q n (fun a w => Q .normal a w) a' w') fuel listed a → wpAny P md ops Q (fuel + 1) listed a w
  | 0, _, _, _, hw, ⟨h1, h2, h3⟩ => ⟨fun h0 => (by rw [h1] at h0; cases h0), fun i hi => by
      rw [h1] at hi
      simp at hi
      subst hi
      exact wpOp_mono (fun a w h => ⟨h2, h⟩) (h3 _ hw)⟩
  | fuel + 1, _, _, _, hw, ⟨h1, _, h3⟩ => ⟨fun h0 => (h1 h0).elim, fun i hi => wpOp_of_qOp hw (fun a' w' hw' h => wpAny_of_T fuel _ a' w' hw' h) (h3 i hi)⟩
theorem wp_region_last {id : Nat} {Q : Exit → Act → World → Prop} {a : Act} {w : World} {l : List Oper} (n : Nat) (hm : P.follows .mixedOrders = true) (hB : lastB .any l.toArray n = true)
    (h : wpQuiet P l.toArray (fun w' => ∃ n, w' = w.drewN n) (fun a' => ∀ w', (∃ n, w' = w.drewN n) → wpList P l.toArray Q (l.drop n) a' w') (l.take n) a) : (Code.region id l.toArray true).wp P Q a w := by
  simp only [lastB, Bool.and_eq_true] at hB
  obtain ⟨⟨hs, hW⟩, hL⟩ := hB
  have hsz : l.length = n + 1 := by
    simp only [waitsB, Bool.and_eq_true, decide_eq_true_eq] at hW
    simpa using hW.2
  refine wp_region_any hm ?_
  rw [show l.toArray.size = n + 1 by simpa using hsz]
  refine wpAny_of_T (C := fun w' => ∃ n, w' = w.drewN n) (n := n) n _ a _ ⟨1, rfl⟩ ?_
  have hl : (l.take n).length = n := by simp; omega
  have hd : l.drop n = [l[n]'(by omega)] := by
    rw [List.drop_eq_getElem_cons (by omega), List.drop_of_length_le (by omega)]
  have key := wpAnyT_lex (P := P) (md := .any) (C := fun w' => ∃ n, w' = w.drewN n) hW (R := fun a' => ∀ w', (∃ n, w' = w.drewN n) → wpOp P l.toArray Q n (fun a w => Q .normal a w) a' w') hs (l.take n) 0 (Array.replicate (n + 1) false) a
    (fun j o hj => by
      rw [List.getElem?_take] at hj
      split at hj
      · simpa using hj
      · cases hj)
    (by rw [hl]; simpa [hsz] using hL)
    (by
      rw [hd] at h
      have e : ∀ a' w', wpList P l.toArray Q [l[n]'(by omega)] a' w' → wpOp P l.toArray Q n (fun a w => Q .normal a w) a' w' := by
        intro a' w' hh
        unfold wpOp
        rw [show l.toArray[n]? = some (l[n]'(by omega)) by simp [List.getElem?_eq_getElem (show n < l.length by omega)]]
        simpa [wpList] using hh
      have mono : ∀ (r : List Oper) (a : Act), wpQuiet P l.toArray (fun w' => ∃ n, w' = w.drewN n) (fun a' => ∀ w', (∃ n, w' = w.drewN n) → wpList P l.toArray Q [l[n]'(by omega)] a' w') r a → wpQuiet P l.toArray (fun w' => ∃ n, w' = w.drewN n) (fun a' => ∀ w', (∃ n, w' = w.drewN n) → wpOp P l.toArray Q n (fun a w => Q .normal a w) a' w') r a := by
        intro r
        induction r with
        | nil => intro a h w' hw'; exact e _ _ (h w' hw')
        | cons o r ih =>
          intro a h
          unfold wpQuiet at h ⊢
          split
          · rename_i hw
            rw [if_pos hw] at h
            exact Oper.quiet_mono ih h
          · rename_i hw
            rw [if_neg hw] at h
            exact ih _ h
      exact mono _ _ h)
  rw [hl] at key
  exact key
end
end Go.Proofs.YtkldllnnocdhbaaGreatDoor
