/-
  The document's reader: number, out, head.
-/
import Derived.Test.YtmpamcdobhiipaaGreatDoorRim7Q
import Derived.Test.YtmpamcdobhiipaaGreatDoorIm7ToTc
namespace Go.Proofs.YtmpamcdobhiipaaGreatDoor
open Go.RowKit
attribute [local go_sem ↓] Go.wp_at_zero Go.wp_at_succ

namespace IM
open Go.Proofs.YtmpamcdobhiipaaGreatDoor.ST
/- the document's reader at block rb: its bytes, its place, whether there was a fault -/
structure RX (w0 : World) (rb : Nat) (vb : Value) (B : List Int) (p : Nat) (bad : Bool) (W : World) : Prop where
  hp : W.heap[rb]? = some (.cells #[vb, .int .i64 p, .bool bad] 74 (0, 0))
  up : Up w0 W
  le : w0.heap.size ≤ rb
  bl : BL w0 vb B
  byt : Byt B
  len : B.length ≤ 4611686018427387904
  at_le : p ≤ B.length
theorem RX.keep {w0 : World} {rb : Nat} {vb : Value} {B : List Int} {p : Nat} {bad : Bool} {W W' : World} (h : RX w0 rb vb B p bad W) (hp : W'.heap[rb]? = some (.cells #[vb, .int .i64 p, .bool bad] 74 (0, 0))) (u : Up w0 W') : RX w0 rb vb B p bad W' := ⟨hp, u, h.le, h.bl, h.byt, h.len, h.at_le⟩
theorem RX.kb {w0 : World} {rb : Nat} {vb : Value} {B : List Int} {p : Nat} {bad : Bool} {W W' : World} (h : RX w0 rb vb B p bad W) (u : Up W W') : RX w0 rb vb B p bad W' := h.keep (u.heap h.hp) (h.up.trans u)
theorem RX.bad {w0 : World} {rb : Nat} {vb : Value} {B : List Int} {p : Nat} {bad : Bool} {W : World} (h : RX w0 rb vb B p bad W) (k : Nat) : RX w0 rb vb B p true ((W.drewN k).setCell ⟨rb, 2, none⟩ (.bool true)) :=
  ⟨by rw [set_cells (W := W.drewN k) h.hp]; simp, Up.set (h.up.drewN k) _ _ h.le, h.le, h.bl, h.byt, h.len, h.at_le⟩
theorem RX.go {w0 : World} {rb : Nat} {vb : Value} {B : List Int} {p : Nat} {bad : Bool} {W : World} (h : RX w0 rb vb B p bad W) (k q : Nat) (hq : q ≤ B.length) : RX w0 rb vb B q bad ((W.drewN k).setCell ⟨rb, 1, none⟩ (.int .i64 (q : Int))) :=
  ⟨by rw [set_cells (W := W.drewN k) h.hp]; simp, Up.set (h.up.drewN k) _ _ h.le, h.le, h.bl, h.byt, h.len, hq⟩
theorem RX.cells {w0 : World} {rb : Nat} {vb : Value} {B : List Int} {p : Nat} {bad : Bool} {W : World} (h : RX w0 rb vb B p bad W) : W.cell? ⟨rb, 0, none⟩ = some vb ∧ W.cell? ⟨rb, 1, none⟩ = some (.int .i64 p) ∧ W.cell? ⟨rb, 2, none⟩ = some (.bool bad) ∧ ∀ j, W.frozen? ⟨rb, j, none⟩ = false := by
  refine ⟨?_, ?_, ?_, seven_f h.hp⟩ <;> simp only [World.cell?, h.hp] <;> rfl
theorem Kb.drewN {X : Nat → Prop} {W : World} (k : Nat) : Kb X W (W.drewN k) := Kb.of_up ((Up.refl _).drewN k)
theorem kb_setr {rb j k : Nat} {W : World} {v : Value} : Kb (fun x => x = rb) W ((W.drewN k).setCell ⟨rb, j, none⟩ v) := Kb.set k rfl
def nv (B : List Int) (p : Nat) (bad : Bool) (n : Nat) : Int := if bad = true then 0 else rv B p n
def nb (B : List Int) (p : Nat) (bad : Bool) (n : Nat) : Bool := bad || !decide (p + n ≤ B.length)
def na (B : List Int) (p : Nat) (bad : Bool) (n : Nat) : Nat := if bad = true then p else if p + n ≤ B.length then p + n else p
def NuP (w0 : World) (rb : Nat) (vb : Value) (B : List Int) (p : Nat) (bad : Bool) (n : Nat) (w : World) (x : Ending) (w' : World) : Prop := x = .returned (.int .i64 (nv B p bad n)) ∧ RX w0 rb vb B (na B p bad n) (nb B p bad n) w' ∧ Kb (fun x => x = rb) w w'
theorem nu_bad {w0 : World} {rb : Nat} {vb : Value} {B : List Int} {p : Nat} {bad : Bool} {n : Nat} {w : World} (h : RX w0 rb vb B p bad w) (hb : bad = true ∨ ¬ p + n ≤ B.length) (k : Nat) : NuP w0 rb vb B p bad n w (.returned (.int .i64 0)) ((w.drewN k).setCell ⟨rb, 2, none⟩ (.bool true)) := by
  have h1 : nv B p bad n = 0 := by
    unfold nv
    split
    · rfl
    · unfold rv; rw [if_neg (hb.resolve_left (by assumption))]
  have h2 : nb B p bad n = true := by
    unfold nb
    rcases hb with h | h
    · rw [h]; rfl
    · rw [decide_eq_false h]; simp
  have h3 : na B p bad n = p := by
    unfold na
    split
    · rfl
    · rw [if_neg (hb.resolve_left (by assumption))]
  refine ⟨by rw [h1], ?_, kb_setr⟩
  rw [h2, h3]
  exact h.bad k
set_option maxRecDepth 100000 in
set_option maxHeartbeats 4000000 in
theorem rnumber_ (w0 : World) (rb : Nat) (vb : Value) (B : List Int) (p : Nat) (bad : Bool) (n : Nat) (w : World) (h : RX w0 rb vb B p bad w) (hn : n ≤ 4) :
    Calls Tryz.prog 52 #[.pointer (some ⟨rb, 0, none⟩), .int .i64 n] w (NuP w0 rb vb B p bad n w) := by
  obtain ⟨Post, hPost⟩ : ∃ P : Ending → World → Prop, P = NuP w0 rb vb B p bad n w := ⟨_, rfl⟩
  rw [← hPost]
  have HPo : Hid (Post = NuP w0 rb vb B p bad n w) := hPost
  clear hPost
  have HR : Hid (RX w0 rb vb B p bad w) := h
  obtain ⟨a, cap, hvb, hc⟩ := byte_at (h.bl.up h.up)
  have hlen := h.len
  have hle := h.at_le
  have hby := h.byt
  obtain ⟨L, hL⟩ : ∃ L, L = B.length := ⟨_, rfl⟩
  have HL : Hid (L = B.length) := hL
  rw [← hL] at hvb hlen hle hc
  subst hvb
  obtain ⟨x0, x1, x2, fz⟩ := h.cells
  have hf2 := fz 2
  have hf1 := fz 1
  have e1 : IntKind.i64.wrap ((L : Int) - (p : Int)) = (L : Int) - (p : Int) := by rw [IntKind.wrap_i64]; omega
  clear h fz hL
  cases bad with
  | true =>
    clear hc hby
    go_enter Tryz.func52, Tryz.ntmps52
    go_wp2_with fail
    refine TailR.wp_region_seq 17 (by kernel_rfl) (by kernel_rfl) ?_
    simp only [List.take_succ_cons, List.take_zero, List.drop_succ_cons, List.drop_zero]
    repeat (go_big_quiet_step (fail))
    refine wpQuiet_nil ?_
    intro _ hw'
    obtain ⟨nq, hw''⟩ := hw'
    subst hw''
    go_wp2_with fail
    rw [HPo.out]
    exact nu_bad HR.out (.inl rfl) nq
  | false =>
    by_cases hk : p + n ≤ L
    · have e2 : ¬ (L : Int) - (p : Int) < (n : Int) := by omega
      have HC : Hid (∀ W, RX w0 rb (.slice a L cap) B p false W → ∀ i, i < L → ∃ b off, a = some ⟨b, off, none⟩ ∧ W.cell? ⟨b, off + i, none⟩ = some (.int .u8 (B.getD i 0))) := fun W hW i hi => by
        obtain ⟨a', cap', hv, hc'⟩ := byte_at (hW.bl.up hW.up)
        cases hv
        exact hc' i (by rw [← HL.out]; exact hi)
      have HBY : Hid (Byt B) := hby
      clear hc hby
      go_enter Tryz.func52, Tryz.ntmps52
      go_wp2_with fail
      refine TailR.wp_region_seq 17 (by kernel_rfl) (by kernel_rfl) ?_
      simp only [List.take_succ_cons, List.take_zero, List.drop_succ_cons, List.drop_zero]
      repeat (go_big_quiet_step (fail))
      refine wpQuiet_nil ?_
      intro _ hw'
      obtain ⟨nq, hw''⟩ := hw'
      subst hw''
      have HR0 : Hid (RX w0 rb (.slice a L cap) B p false (w.drewN nq) ∧ Kb (fun x => x = rb) w (w.drewN nq)) := ⟨HR.out.kb ((Up.refl _).drewN nq), Kb.drewN nq⟩
      go_wp2_with fail
      clear x0 x1 x2 hf1 hf2
      go_loopw [5, 6] (fun s5 s6 W => ∃ i : Nat, i ≤ n ∧ s6 = .int .i64 i ∧ s5 = .int .i64 (vl ((B.drop p).take i)) ∧ RX w0 rb (.slice a L cap) B p false W ∧ Kb (fun x => x = rb) w W) (fun _ s6 _ => n - (intOf s6).toNat)
      case atStart => exact ⟨0, Nat.zero_le _, rfl, rfl, HR0.out⟩
      case round =>
        obtain ⟨i, hi, rfl, rfl, hrx, hkb⟩ := hrel
        clear HR0
        have HRX : Hid (RX w0 rb (.slice a L cap) B p false wr ∧ Kb (fun x => x = rb) w wr) := ⟨hrx, hkb⟩
        obtain ⟨x0, x1, x2, fz⟩ := hrx.cells
        have hf1 := fz 1
        clear fz hrx hkb
        by_cases hlt : i < n
        · have hlt2 : (i : Int) < (n : Int) := by omega
          obtain ⟨b, off, rfl, hcell⟩ := HC.out wr HRX.out.1 (p + i) (by omega)
          have hlb : p + i < B.length := by rw [← HL.out]; omega
          have hcb : 0 ≤ B.getD (p + i) 0 ∧ B.getD (p + i) 0 < 256 := by
            rw [List.getD_eq_getElem?_getD, List.getElem?_eq_getElem hlb]
            exact HBY.out _ (List.getElem_mem hlb)
          have hv := vl_lt i ((B.drop p).take i) (by rw [List.length_take, List.length_drop, ← HL.out]; omega) (fun c hc => HBY.out c (List.mem_of_mem_drop (List.mem_of_mem_take hc)))
          have hv4 : vl ((B.drop p).take i) < 4294967296 := by
            have : (256 : Int) ^ i ≤ 256 ^ 4 := by
              obtain rfl | rfl | rfl | rfl : i = 0 ∨ i = 1 ∨ i = 2 ∨ i = 3 := by omega
              all_goals decide
            have h4 : (256 : Int) ^ 4 = 4294967296 := by decide
            omega
          have HS : Hid (vl ((B.drop p).take (i + 1)) = 256 * vl ((B.drop p).take i) + B.getD (p + i) 0) := by
            unfold Hid
            have h9 : (B.drop p)[i]? = some (B.getD (p + i) 0) := by rw [List.getElem?_drop, List.getD_eq_getElem?_getD, List.getElem?_eq_getElem hlb]; rfl
            rw [List.take_add_one, h9]
            exact vl_snoc _ _
          generalize vl ((B.drop p).take i) = x at *
          generalize B.getD (p + i) 0 = c at *
          have e3 : IntKind.i64.wrap (256 * x) = 256 * x := by rw [IntKind.wrap_i64]; omega
          have e4 : IntKind.i64.wrap ((p : Int) + (i : Int)) = ((p + i : Nat) : Int) := by rw [IntKind.wrap_i64]; omega
          have e5 : IntKind.i64.wrap c = c := by rw [IntKind.wrap_i64]; omega
          have e6 : IntKind.i64.wrap (256 * x + c) = 256 * x + c := by rw [IntKind.wrap_i64]; omega
          have e7 : IntKind.i64.wrap ((i : Int) + 1) = ((i + 1 : Nat) : Int) := by rw [IntKind.wrap_i64]; omega
          have e8 : ((p + i : Nat) : Int) < (L : Int) := by omega
          have e9 : p + i < L := by omega
          clear hlb
          go_wp2_with fail
          refine TailR.wp_region_seq 16 (by kernel_rfl) (by kernel_rfl) ?_
          simp only [List.take_succ_cons, List.take_zero, List.drop_succ_cons, List.drop_zero]
          repeat (go_big_quiet_step (fail))
          refine wpQuiet_nil ?_
          intro _ hw'
          obtain ⟨nq, hw''⟩ := hw'
          subst hw''
          go_wp2_with fail
          go_roundw
          case rel => exact ⟨i + 1, hlt, by go_num, by rw [HS.out], HRX.out.1.kb ((Up.refl _).drewN nq), HRX.out.2.trans (Kb.drewN nq)⟩
          case measure => simp [intOf]; omega
        · obtain rfl : i = n := by omega
          have e3 : IntKind.i64.wrap ((p : Int) + (i : Int)) = ((p + i : Nat) : Int) := by rw [IntKind.wrap_i64]; omega
          have HV : Hid (nv B p false i = vl ((B.drop p).take i) ∧ nb B p false i = false ∧ na B p false i = p + i) := by
            have hk' : p + i ≤ B.length := by rw [← HL.out]; exact hk
            unfold Hid nv nb na rv
            rw [if_neg (by decide), if_pos hk', if_neg (by decide), if_pos hk', decide_eq_true hk']
            exact ⟨rfl, rfl, rfl⟩
          generalize vl ((B.drop p).take i) = x at *
          go_wp2_with fail
          rw [HPo.out]
          refine ⟨by rw [HV.out.1]; rfl, ?_, HRX.out.2.trans (kb_setr (k := 0))⟩
          rw [HV.out.2.1, HV.out.2.2]
          exact HRX.out.1.go 0 (p + i) (by rw [← HL.out]; exact hk)
    · have e2 : (L : Int) - (p : Int) < (n : Int) := by omega
      clear hc hby
      go_enter Tryz.func52, Tryz.ntmps52
      go_wp2_with fail
      refine TailR.wp_region_seq 17 (by kernel_rfl) (by kernel_rfl) ?_
      simp only [List.take_succ_cons, List.take_zero, List.drop_succ_cons, List.drop_zero]
      repeat (go_big_quiet_step (fail))
      refine wpQuiet_nil ?_
      intro _ hw'
      obtain ⟨nq, hw''⟩ := hw'
      subst hw''
      go_wp2_with fail
      rw [HPo.out]
      exact nu_bad HR.out (.inr (by rw [← HL.out]; exact hk)) nq
def ob (B : List Int) (p : Nat) (bad : Bool) : Bool := bad || (decide (p < B.length) && decide (1 < B.getD p 0))
def OuP (w0 : World) (rb : Nat) (vb : Value) (B : List Int) (p : Nat) (bad : Bool) (w : World) (x : Ending) (w' : World) : Prop := x = .returned (.bool (nv B p (ob B p bad) 1 == 1)) ∧ RX w0 rb vb B (na B p (ob B p bad) 1) (nb B p (ob B p bad) 1) w' ∧ Kb (fun x => x = rb) w w'
set_option maxRecDepth 100000 in
set_option maxHeartbeats 4000000 in
theorem rout_ (w0 : World) (rb : Nat) (vb : Value) (B : List Int) (p : Nat) (bad : Bool) (w : World) (h : RX w0 rb vb B p bad w) :
    Calls Tryz.prog 53 #[.pointer (some ⟨rb, 0, none⟩)] w (OuP w0 rb vb B p bad w) := by
  obtain ⟨Post, hPost⟩ : ∃ P : Ending → World → Prop, P = OuP w0 rb vb B p bad w := ⟨_, rfl⟩
  rw [← hPost]
  have HPo : Hid (Post = OuP w0 rb vb B p bad w) := hPost
  clear hPost
  have HNU : Hid (∀ (b : Bool) (W : World), RX w0 rb vb B p b W → Calls Tryz.prog 52 #[.pointer (some ⟨rb, 0, none⟩), .int .i64 1] W (NuP w0 rb vb B p b 1 W)) := fun b W h => rnumber_ w0 rb vb B p b 1 W h (by decide)
  have HR : Hid (RX w0 rb vb B p bad w) := h
  obtain ⟨a, cap, hvb, hc⟩ := byte_at (h.bl.up h.up)
  have hle := h.at_le
  obtain ⟨L, hL⟩ : ∃ L, L = B.length := ⟨_, rfl⟩
  have HL : Hid (L = B.length) := hL
  rw [← hL] at hvb hle hc
  subst hvb
  obtain ⟨x0, x1, x2, fz⟩ := h.cells
  have hf2 := fz 2
  clear h fz hL
  cases bad with
  | true =>
    have HOB : Hid (ob B p true = true) := rfl
    clear hc
    go_enter Tryz.func53, Tryz.ntmps53
    go_wp2_with fail
    refine TailR.wp_region_seq 29 (by kernel_rfl) (by kernel_rfl) ?_
    simp only [List.take_succ_cons, List.take_zero, List.drop_succ_cons, List.drop_zero]
    repeat (go_big_quiet_step (fail))
    refine wpQuiet_nil ?_
    intro _ hw'
    obtain ⟨nq, hw''⟩ := hw'
    subst hw''
    go_wp2_with fail
    refine Calls.mono (HNU.out true _ (HR.out.kb ((Up.refl _).drewN nq))) ?_
    rintro r W1 ⟨rfl, hr, hk⟩
    have HZ : Hid (RX w0 rb (.slice a L cap) B (na B p true 1) (nb B p true 1) W1 ∧ Kb (fun x => x = rb) w W1) := ⟨hr, (Kb.drewN nq).trans hk⟩
    obtain ⟨y, hy⟩ : ∃ y, y = nv B p true 1 := ⟨_, rfl⟩
    have HY : Hid (y = nv B p true 1) := hy
    rw [← hy]
    clear hr hk hy
    go_wp2_with fail
    rw [HPo.out]
    unfold OuP
    rw [HOB.out, ← HY.out]
    exact ⟨rfl, HZ.out⟩
  | false =>
    by_cases hp : p < L
    · obtain ⟨b, off, rfl, hcell⟩ := hc p hp
      have hp2 : (p : Int) < (L : Int) := by omega
      by_cases h1 : 1 < B.getD p 0
      · have HOB : Hid (ob B p false = true) := by unfold Hid ob; rw [decide_eq_true (show p < B.length by rw [← HL.out]; exact hp), decide_eq_true h1]; rfl
        generalize B.getD p 0 = c at *
        clear hc
        go_enter Tryz.func53, Tryz.ntmps53
        go_wp2_with fail
        refine TailR.wp_region_seq 29 (by kernel_rfl) (by kernel_rfl) ?_
        simp only [List.take_succ_cons, List.take_zero, List.drop_succ_cons, List.drop_zero]
        repeat (go_big_quiet_step (fail))
        refine wpQuiet_nil ?_
        intro _ hw'
        obtain ⟨nq, hw''⟩ := hw'
        subst hw''
        go_wp2_with fail
        refine Calls.mono (HNU.out true _ (HR.out.bad nq)) ?_
        rintro r W1 ⟨rfl, hr, hk⟩
        have HZ : Hid (RX w0 rb (.slice (some ⟨b, off, none⟩) L cap) B (na B p true 1) (nb B p true 1) W1 ∧ Kb (fun x => x = rb) w W1) := ⟨hr, kb_setr.trans hk⟩
        obtain ⟨y, hy⟩ : ∃ y, y = nv B p true 1 := ⟨_, rfl⟩
        have HY : Hid (y = nv B p true 1) := hy
        rw [← hy]
        clear hr hk hy
        go_wp2_with fail
        rw [HPo.out]
        unfold OuP
        rw [HOB.out, ← HY.out]
        exact ⟨rfl, HZ.out⟩
      · have HOB : Hid (ob B p false = false) := by unfold Hid ob; rw [decide_eq_false h1]; simp
        generalize B.getD p 0 = c at *
        clear hc
        go_enter Tryz.func53, Tryz.ntmps53
        go_wp2_with fail
        refine TailR.wp_region_seq 29 (by kernel_rfl) (by kernel_rfl) ?_
        simp only [List.take_succ_cons, List.take_zero, List.drop_succ_cons, List.drop_zero]
        repeat (go_big_quiet_step (fail))
        refine wpQuiet_nil ?_
        intro _ hw'
        obtain ⟨nq, hw''⟩ := hw'
        subst hw''
        go_wp2_with fail
        refine Calls.mono (HNU.out false _ (HR.out.kb ((Up.refl _).drewN nq))) ?_
        rintro r W1 ⟨rfl, hr, hk⟩
        have HZ : Hid (RX w0 rb (.slice (some ⟨b, off, none⟩) L cap) B (na B p false 1) (nb B p false 1) W1 ∧ Kb (fun x => x = rb) w W1) := ⟨hr, (Kb.drewN nq).trans hk⟩
        obtain ⟨y, hy⟩ : ∃ y, y = nv B p false 1 := ⟨_, rfl⟩
        have HY : Hid (y = nv B p false 1) := hy
        rw [← hy]
        clear hr hk hy
        go_wp2_with fail
        rw [HPo.out]
        unfold OuP
        rw [HOB.out, ← HY.out]
        exact ⟨rfl, HZ.out⟩
    · have hp2 : ¬ (p : Int) < (L : Int) := by omega
      have HOB : Hid (ob B p false = false) := by unfold Hid ob; rw [decide_eq_false (show ¬ p < B.length by rw [← HL.out]; exact hp)]; rfl
      clear hc
      go_enter Tryz.func53, Tryz.ntmps53
      go_wp2_with fail
      refine TailR.wp_region_seq 29 (by kernel_rfl) (by kernel_rfl) ?_
      simp only [List.take_succ_cons, List.take_zero, List.drop_succ_cons, List.drop_zero]
      repeat (go_big_quiet_step (fail))
      refine wpQuiet_nil ?_
      intro _ hw'
      obtain ⟨nq, hw''⟩ := hw'
      subst hw''
      go_wp2_with fail
      refine Calls.mono (HNU.out false _ (HR.out.kb ((Up.refl _).drewN nq))) ?_
      rintro r W1 ⟨rfl, hr, hk⟩
      have HZ : Hid (RX w0 rb (.slice a L cap) B (na B p false 1) (nb B p false 1) W1 ∧ Kb (fun x => x = rb) w W1) := ⟨hr, (Kb.drewN nq).trans hk⟩
      obtain ⟨y, hy⟩ : ∃ y, y = nv B p false 1 := ⟨_, rfl⟩
      have HY : Hid (y = nv B p false 1) := hy
      rw [← hy]
      clear hr hk hy
      go_wp2_with fail
      rw [HPo.out]
      unfold OuP
      rw [HOB.out, ← HY.out]
      exact ⟨rfl, HZ.out⟩
end IM
end Go.Proofs.YtmpamcdobhiipaaGreatDoor
