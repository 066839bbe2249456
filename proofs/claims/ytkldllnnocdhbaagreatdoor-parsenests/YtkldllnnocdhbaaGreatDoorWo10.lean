/-
  No idle program: a sum is parsed, and a card.
-/
import Derived.Test.YtkldllnnocdhbaaGreatDoorCr8
import Derived.Test.YtkldllnnocdhbaaGreatDoorTv8
import Derived.Deep.Cut
import Derived.Test.YtkldllnnocdhbaaGreatDoorLn8
import Derived.Test.YtkldllnnocdhbaaGreatDoorMy10
import Derived.Test.YtkldllnnocdhbaaGreatDoorBy8
import Derived.Test.YtkldllnnocdhbaaGreatDoorNy10
import Derived.Lib.SlBytesConst
namespace Go.Proofs.YtkldllnnocdhbaaGreatDoor
open Go.RowKit
attribute [local go_sem ↓] Go.wp_at_zero Go.wp_at_succ
namespace TK
theorem cls_blk {c : Int} (h : clsI c = 1) : blk c = true := by
  unfold clsI at h
  split at h
  · assumption
  · repeat' split at h
    all_goals omega
theorem cls_sml {c : Int} (h : clsI c = 2) : blk c = false ∧ sml c = true := by
  unfold clsI at h
  split at h
  · omega
  · split at h
    · rename_i h1 h2; exact ⟨by simpa using h1, h2⟩
    · repeat' split at h
      all_goals omega
theorem cls_dig {c : Int} (h : clsI c = 4) : blk c = false ∧ sml c = false ∧ dig c = true := by
  unfold clsI at h
  split at h
  · omega
  · split at h
    · omega
    · split at h
      · omega
      · split at h
        · rename_i h1 h2 _ h4; exact ⟨by simpa using h1, by simpa using h2, h4⟩
        · repeat' split at h
          all_goals omega
theorem cls_quo {c : Int} (h : clsI c = 6) : c = 34 := by
  unfold clsI at h
  repeat' split at h
  all_goals first | omega | (rename_i h9; simpa using h9)
theorem cls_sls {c : Int} (h : clsI c = 7) : c = 47 := by
  unfold clsI at h
  repeat' split at h
  all_goals first | omega | (rename_i h9; simpa using h9)
theorem cls_oth {c : Int} (h1 : clsI c ≠ 1) (h2 : clsI c ≠ 2) (h4 : clsI c ≠ 4) (h6 : clsI c ≠ 6) (h7 : clsI c ≠ 7) : blk c = false ∧ sml c = false ∧ dig c = false ∧ c ≠ 34 ∧ c ≠ 47 := by
  have k1 : blk c = false := by
    cases hb : blk c with
    | false => rfl
    | true => exact absurd (by unfold clsI; rw [if_pos hb]) h1
  have k2 : sml c = false := by
    cases hb : sml c with
    | false => rfl
    | true => exact absurd (by unfold clsI; rw [if_neg (by rw [k1]; decide), if_pos hb]) h2
  have k6 : c ≠ 34 := by
    rintro rfl
    exact h6 (by decide)
  have k7 : c ≠ 47 := by
    rintro rfl
    exact h7 (by decide)
  refine ⟨k1, k2, ?_, k6, k7⟩
  rw [dig_cls]
  simpa using h4
theorem not_rmk {B : List Int} {p : Nat} (h : B.getD p 0 ≠ 47) : rmk B p = false := by
  unfold rmk
  rw [show (B.getD p 0 == 47) = false by simpa using h]
  rfl
theorem stp_1 {B : List Int} {p : Nat} (h : clsI (B.getD p 0) = 1) : stp B p = .skip (p + 1) := by
  unfold stp
  rw [if_pos (cls_blk h)]
theorem stp_2 {B : List Int} {p : Nat} (h : clsI (B.getD p 0) = 2) : stp B p = nme B p := by
  obtain ⟨h1, h2⟩ := cls_sml h
  unfold stp
  rw [h1, not_rmk (by unfold sml at h2; simp only [Bool.and_eq_true, decide_eq_true_eq] at h2; omega), h2]
  rfl
theorem stp_4 {B : List Int} {p : Nat} (h : clsI (B.getD p 0) = 4) : stp B p = nmb B p ∧ dig (B.getD p 0) = true := by
  obtain ⟨h1, h2, h3⟩ := cls_dig h
  refine ⟨?_, h3⟩
  unfold stp
  rw [h1, not_rmk (by unfold dig at h3; simp only [Bool.and_eq_true, decide_eq_true_eq] at h3; omega), h2, h3]
  rfl
theorem stp_6 {B : List Int} {p : Nat} (h : clsI (B.getD p 0) = 6) : stp B p = tx B p := by
  have h1 := cls_quo h
  unfold stp
  rw [not_rmk (by omega), h1]
  rfl
theorem stp_7 {B : List Int} {p : Nat} (h : clsI (B.getD p 0) = 7) : stp B p = if decide (p + 1 < B.length) && B.getD (p + 1) 0 == 47 then .skip (spn nnl B p) else mkk B p := by
  have h1 := cls_sls h
  unfold stp rmk
  rw [h1]
  rfl
theorem stp_0 {B : List Int} {p : Nat} (h1 : clsI (B.getD p 0) ≠ 1) (h2 : clsI (B.getD p 0) ≠ 2) (h4 : clsI (B.getD p 0) ≠ 4) (h6 : clsI (B.getD p 0) ≠ 6) (h7 : clsI (B.getD p 0) ≠ 7) : stp B p = mkk B p := by
  obtain ⟨k1, k2, k3, k4, k5⟩ := cls_oth h1 h2 h4 h6 h7
  unfold stp
  rw [k1, not_rmk k5, k2, k3, show (B.getD p 0 == 34) = false by simpa using k4]
  rfl
end TK
end Go.Proofs.YtkldllnnocdhbaaGreatDoor
namespace Go.Proofs.YtkldllnnocdhbaaGreatDoor
open Go.RowKit
attribute [local go_sem ↓] Go.wp_at_zero Go.wp_at_succ
namespace TK
def CuP (w : World) (B : List Int) (e : Ending) (w' : World) : Prop := ∃ v, e = .returned (.tuple #[v, .int .i64 (cuE B), .int .i64 (cuA B)]) ∧ w'.ownsRow w.heap.size 45 4 v (cuL B).length (tvs (cuL B)) ∧ Up w w'
theorem cu_bad {w W : World} {B : List Int} {q : Nat} (hl : B.length ≤ 65536) (h : cutF B (B.length + 1) 0 [] = .error q) (u : Up w W) : CuP w B (.returned (.tuple #[.slice none 0 0, .int .i64 21, .int .i64 (q : Int)])) W := by
  have h1 : cuE B = 21 := by unfold cuE; rw [if_neg (by omega), h]
  have h2 : cuA B = (q : Int) := by unfold cuA; rw [if_neg (by omega), h]
  have h3 : cuL B = [] := by unfold cuL; rw [if_neg (by omega), h]
  refine ⟨.slice none 0 0, by rw [h1, h2], ?_, u⟩
  rw [h3]
  exact World.ownsRow_nil _ _ _ _
theorem cu_long {w : World} {B : List Int} (hl : 65536 < B.length) : CuP w B (.returned (.tuple #[.slice none 0 0, .int .i64 20, .int .i64 65536])) w := by
  have h1 : cuE B = 20 := by unfold cuE; rw [if_pos hl]
  have h2 : cuA B = 65536 := by unfold cuA; rw [if_pos hl]
  have h3 : cuL B = [] := by unfold cuL; rw [if_pos hl]
  refine ⟨.slice none 0 0, by rw [h1, h2], ?_, Up.refl _⟩
  rw [h3]
  exact World.ownsRow_nil _ _ _ _
theorem cu_ok {w W : World} {B : List Int} {L : List Tok} {v : Value} {m : Nat} (hl : B.length ≤ 65536) (h : cutF B (B.length + 1) 0 [] = .ok L) (hm : L.length = m) (hr : W.ownsRow w.heap.size 45 4 v m (tvs L)) (u : Up w W) : CuP w B (.returned (.tuple #[v, .int .i64 0, .int .i64 0])) W := by
  have h1 : cuE B = 0 := by unfold cuE; rw [if_neg (by omega), h]
  have h2 : cuA B = 0 := by unfold cuA; rw [if_neg (by omega), h]
  have h3 : cuL B = L := by unfold cuL; rw [if_neg (by omega), h]
  refine ⟨v, by rw [h1, h2], ?_, u⟩
  rw [h3, hm]
  exact hr
end TK
end Go.Proofs.YtkldllnnocdhbaaGreatDoor
namespace Go.Proofs.YtkldllnnocdhbaaGreatDoor
open Go.RowKit
attribute [local go_sem ↓] Go.wp_at_zero Go.wp_at_succ
namespace TK
theorem cell_zero {W : World} {b t : Nat} {x y z u : Value} (h : W.heap[b]? = some (.cells #[x, y, z, u] t (0, 0))) : W.cell? ⟨b, 0, none⟩ = some x := by
  simp only [World.cell?, h]
  rfl
theorem row_kg {w w' : World} {g b e s n : Nat} {v : Value} {xs : List Value} (h : w.ownsRow b e s v n xs) (k : Kg g w w') (hg : g < b) : w'.ownsRow b e s v n xs := by
  refine ⟨h.1, ?_⟩
  rcases h.2 with h | ⟨g', cap, cur, e1, e2, e3, e4⟩
  · exact .inl h
  · exact .inr ⟨g', cap, cur, e1, e2, kg_at k e3 (by omega), e4⟩
theorem row_less {w : World} {b e s n : Nat} {v : Value} {xs : List Value} (h : w.ownsRow (b + 1) e s v n xs) : w.ownsRow b e s v n xs := by
  refine ⟨h.1, ?_⟩
  rcases h.2 with h | ⟨g', cap, cur, e1, e2, e3⟩
  · exact .inl h
  · exact .inr ⟨g', cap, cur, e1, by omega, e3⟩
theorem gp_go {B : List Int} {L : List Tok} {p q : Nat} (h : Gp B p q) (hc : Ct B p L) : Ct B q L := by
  induction h with
  | refl => exact hc
  | step _ h2 h3 ih => exact Ct.skip ih h2 h3
theorem stp_kind {B : List Int} {p q : Nat} {t : Tok} (h : stp B p = .tok t q) : t.kind ≠ 0 := by
  unfold stp at h
  split at h
  · cases h
  · split at h
    · cases h
    · split at h
      · unfold nme at h
        split at h
        · cases h
        · cases h; simp
      · split at h
        · unfold nmb at h
          split at h
          · cases h
          · split at h
            · cases h
            · cases h; simp
        · split at h
          · rw [(txt_kind _ _ _ _ _ h).1]; decide
          · unfold mkk at h
            split at h
            · cases h; simp
            · split at h
              · cases h; simp
              · cases h
set_option maxRecDepth 100000 in
set_option maxHeartbeats 8000000 in
theorem cpass_end (w0 : World) (g : Nat) (vb : Value) (B : List Int) (p : Nat) (bad : Int) (w : World) (h : RC w0 g vb B p bad w) (hp : p = B.length) :
    Calls Tryz.prog 23 #[.pointer (some ⟨g, 0, none⟩)] w fun e w' => e = .returned (.tuple #[]) ∧ RC w0 g vb B p bad w' ∧ Kg g w w' := by
  obtain ⟨Post, hPost⟩ : ∃ P : Ending → World → Prop, P = fun e w' => e = .returned (.tuple #[]) ∧ RC w0 g vb B p bad w' ∧ Kg g w w' := ⟨_, rfl⟩
  rw [← hPost]
  obtain ⟨a, c, hvb, -, -⟩ := bl_cells h.bl
  rw [← hp] at hvb
  subst hvb
  have HF : Hid (∀ k, Post (.returned (.tuple #[])) (w.drewN k)) := fun k => by
    rw [hPost]
    exact ⟨rfl, h.kb ((Up.refl _).drewN k), (Kg.refl g w).up ((Up.refl _).drewN k)⟩
  obtain ⟨y0, y1, y2⟩ := h.cells
  have hlt2 : ¬ (p : Int) < (p : Int) := by omega
  have hd2 : decide ((p : Int) < (p : Int)) = false := decide_eq_false hlt2
  clear h hp hPost
  go_enter Tryz.func23, Tryz.ntmps23
  go_wp2_with fail
  go_loopw [2] (fun _ W => W = w) (fun _ _ => 0)
  case atStart => trivial
  case round =>
    subst hrel
    go_wp2_with fail
    go_quiet (fail)
    go_wp2_with fail
    refine bodyPost_end (results_none rfl _ _ _) rfl ?_
    exact HF.out _
set_option maxRecDepth 100000 in
set_option maxHeartbeats 16000000 in
theorem rcut_ (vb : Value) (B : List Int) (w : World) (hB : BL w vb B) (hby : Byt B) : Calls Tryz.prog 10 #[vb] w (CuP w B) := by
  obtain ⟨Post, hPost⟩ : ∃ P : Ending → World → Prop, P = CuP w B := ⟨_, rfl⟩
  rw [← hPost]
  have HPo : Hid (Post = CuP w B) := hPost
  clear hPost
  obtain ⟨iT, hiT, z0, z1, z2⟩ := info_parts infoTok
  have HBY : Hid (Byt B) := hby
  have HBL : Hid (BL w vb B) := hB
  obtain ⟨a, c, hvb, hcap, hce⟩ := bl_cells hB
  obtain ⟨n, hN⟩ : ∃ n, n = B.length := ⟨_, rfl⟩
  have HN : Hid (n = B.length) := hN
  rw [← hN] at hvb hcap hce
  have HA : Hid (n ≠ 0 → ∃ b o, a = some ⟨b, o, none⟩ ∧ BA w b o B) := fun h0 => by
    obtain ⟨b, o, h1, h2⟩ := hce h0
    exact ⟨b, o, h1, fun W u j hj => h2 W u j (by have := HN.out; omega)⟩
  subst hvb
  clear hB hby hN hce
  by_cases hbig : 65536 < n
  · have e1 : (65536 : Int) < (n : Int) := by omega
    have HFB : Hid (Post (.returned (.tuple #[.slice none 0 0, .int .i64 20, .int .i64 65536])) w) := by
      rw [HPo.out]
      exact cu_long (by have := HN.out; omega)
    go_enter Tryz.func10, Tryz.ntmps10
    go_wp2_with fail
    exact HFB.out
  · have e1 : ¬ (65536 : Int) < (n : Int) := by omega
    have HLN : Hid (B.length ≤ 65536) := by have := HN.out; unfold Hid; omega
    obtain ⟨W0, hW0⟩ : ∃ W0, w.alloc (.cells #[.slice a n c, .int .i64 0, .int .i64 (-1)] 73) = W0 := ⟨_, rfl⟩
    have HR0 : Hid (RC w w.heap.size (.slice a n c) B 0 (-1) W0) := ⟨by rw [← hW0]; exact heap_alloc_new _ _, by rw [← hW0]; exact (Up.refl _).alloc _, Nat.le_refl _, HBL.out, HBY.out, HLN.out, Nat.zero_le _⟩
    go_enter Tryz.func10, Tryz.ntmps10
    go_wp2_with fail
    try rw [hW0]
    go_loopw [6] (fun s6 W => ∃ (p m : Nat) (L : List Tok) (ta : Option Addr) (tc : Nat), p ≤ n ∧ s6 = .slice ta m tc ∧ L.length = m ∧ m ≤ p ∧ W.ownsRow (w.heap.size + 1) 45 4 (.slice ta m tc) m (tvs L) ∧ RC w w.heap.size (.slice a n c) B p (-1) W ∧ Ct B p L) (fun _ W => n - ptAt W w.heap.size)
    case atStart => exact ⟨0, 0, [], none, 0, Nat.zero_le _, rfl, rfl, Nat.le_refl _, World.ownsRow_nil _ _ _ _, by first | exact HR0.out | (rw [hW0]; exact HR0.out), ct_start B⟩
    case round =>
      clear hW0 HR0
      obtain ⟨p, m, L, ta, tc, hp, rfl, hm, hmp, hrow, hrc, hct⟩ := hrel
      have HM0 : Hid (ptAt wr w.heap.size = p) := hrc.ptAt
      have HPS : Hid (Calls Tryz.prog 23 #[.pointer (some ⟨w.heap.size, 0, none⟩)] wr fun e w' => e = .returned (.tuple #[]) ∧ ∃ q, p ≤ q ∧ q ≤ n ∧ w'.ownsRow (w.heap.size + 1) 45 4 (.slice ta m tc) m (tvs L) ∧ RC w w.heap.size (.slice a n c) B q (-1) w' ∧ Ct B q L ∧ (q < n → blk (B.getD q 0) = false ∧ rmk B q = false)) := by
        by_cases h0 : p = n
        · refine Calls.mono (cpass_end w w.heap.size _ B p (-1) wr hrc (by rw [h0]; exact HN.out)) ?_
          rintro e w' ⟨he, h1, h2⟩
          exact ⟨he, p, Nat.le_refl _, hp, row_kg hrow h2 (Nat.lt_succ_self _), h1, hct, fun h3 => by omega⟩
        · obtain ⟨b, o, rfl, hba⟩ := HA.out (by omega)
          have h9 := cpass_ w w.heap.size b o c B p (-1) wr (by rw [← HN.out]; exact hrc) hba
          rw [← HN.out] at h9
          refine Calls.mono h9 ?_
          rintro e w' ⟨he, q, h1, h2, h3, h4⟩
          exact ⟨he, q, h2.le, by have := h1.at_le; rw [HN.out]; exact this, row_kg hrow h4 (Nat.lt_succ_self _), h1, gp_go h2 hct, h3⟩
      clear hrow hrc hct
      go_wp2_with fail
      refine Calls.mono HPS.out ?_
      rintro r W2 ⟨rfl, q, hpq, hqn, hrow, hrc, hct, hno⟩
      have HS : Hid (W2.ownsRow (w.heap.size + 1) 45 4 (.slice ta m tc) m (tvs L)) := hrow
      have HR : Hid (RC w w.heap.size (.slice a n c) B q (-1) W2) := hrc
      have HCT : Hid (Ct B q L) := hct
      clear hrow hrc hct HPS
      by_cases hlt : q < n
      · obtain ⟨hb, hrm⟩ := hno hlt
        have HPL : Hid (q < B.length) := by have := HN.out; unfold Hid; omega
        have HON : Hid (Calls Tryz.prog 24 #[.pointer (some ⟨w.heap.size, 0, none⟩)] W2 (OnP w w.heap.size (.slice a n c) B q (-1) W2 (stp B q))) := cone_ w w.heap.size _ B q (-1) W2 HR.out HPL.out hb hrm
        clear hno hb hrm HR
        go_wp2_with fail
        refine Calls.mono HON.out ?_
        intro r V1 hr
        clear HON
        cases hX : stp B q with
        | skip k => rw [hX] at hr; exact hr.elim
        | bad k =>
          rw [hX] at hr
          obtain ⟨kd, tt, nm, i, rfl, hrc, hkg⟩ := hr
          have HE := HCT.out.bad HPL.out hX
          obtain ⟨V2, hV2⟩ : ∃ V2, V1.alloc (.cells #[.int .i8 kd, .string tt, .int .i64 nm, .int .i64 (q : Int)] 45) = V2 := ⟨_, rfl⟩
          have HR : Hid (RC w w.heap.size (.slice a n c) B i (k : Int) V2) := hrc.kb (by rw [← hV2]; exact (Up.refl _).alloc _)
          obtain ⟨y0, y1, y2⟩ := HR.out.cells
          have HFB : Hid (∀ j, Post (.returned (.tuple #[.slice none 0 0, .int .i64 21, .int .i64 (k : Int)])) (V2.drewN j)) := fun j => by
            rw [HPo.out]
            exact cu_bad HLN.out HE (HR.out.up.drewN j)
          have e5 : (0 : Int) ≤ (k : Int) := by omega
          clear hrc hkg hX HE HS
          go_wp2_with fail
          try rw [hV2]
          go_quiet (fail)
          go_wp2_with fail
          exact HFB.out _
        | tok tk k =>
          rw [hX] at hr
          obtain ⟨kd, tt, nm, ps⟩ := tk
          obtain ⟨rfl, hrc, hkg⟩ := hr
          obtain ⟨q1, q2, q3⟩ := stp_tok HPL.out hX
          have hk0 : (kd == 0) = false := by simpa using stp_kind hX
          obtain rfl : ps = (q : Int) := q3
          have HNX : Hid (Ct B k (L ++ [⟨kd, tt, nm, q⟩])) := HCT.out.tok HPL.out hX
          have HR : Hid (RC w w.heap.size (.slice a n c) B k (-1) V1) := hrc
          have HS : Hid (V1.ownsRow (w.heap.size + 1) 45 4 (.slice ta m tc) m (tvs L)) := row_kg HS.out hkg (Nat.lt_succ_self _)
          rw [← HN.out] at q2
          clear hrc hkg hX
          obtain ⟨V2, hV2⟩ : ∃ V2, V1.alloc (.cells #[.int .i8 kd, .string (strOfNums tt), .int .i64 nm, .int .i64 (q : Int)] 45) = V2 := ⟨_, rfl⟩
          have u2 : Up V1 V2 := by rw [← hV2]; exact (Up.refl _).alloc _
          have g2 : V2.heap[V1.heap.size]? = some (.cells #[.int .i8 kd, .string (strOfNums tt), .int .i64 nm, .int .i64 (q : Int)] 45 (0, 0)) := by rw [← hV2]; exact heap_alloc_new _ _
          have HOB : Hid (∀ k9, (Value.slice ta m tc).ownBlock = some k9 → w.heap.size + 1 ≤ k9 ∧ k9 < V1.heap.size) := World.ownsRow.lt HS.out
          have HR2 : Hid (RC w w.heap.size (.slice a n c) B k (-1) V2) := HR.out.kb u2
          have HS2 : Hid (V2.ownsRow (w.heap.size + 1) 45 4 (.slice ta m tc) m (tvs L)) := row_up HS.out u2
          obtain ⟨y0, y1, y2⟩ := HR2.out.cells
          clear HR HS u2
          have HV : Hid ((V2.alloc (.cells #[.int .i8 kd, .string (strOfNums tt), .int .i64 nm, .int .i64 (q : Int)] 45)).ownsRow (w.heap.size + 1) 45 4 (.slice ta m tc) m (tvs L)) := World.ownsRow.alloc HS2.out _
          have HMW : Hid (∀ j9 u9, [.int .i8 kd, .string (strOfNums tt), .int .i64 nm, .int .i64 (q : Int)][j9]? = some u9 → (V2.alloc (.cells #[.int .i8 kd, .string (strOfNums tt), .int .i64 nm, .int .i64 (q : Int)] 45)).cell? ((⟨V2.heap.size, 0, none⟩ : Addr).add j9) = some u9) := World.news_of_block (cs := #[.int .i8 kd, .string (strOfNums tt), .int .i64 nm, .int .i64 (q : Int)]) (t := 45) (fr := (0, 0)) (heap_alloc_new V2 _)
          have HSZ : Hid (w.heap.size + 1 ≤ (V2.alloc (.cells #[.int .i8 kd, .string (strOfNums tt), .int .i64 nm, .int .i64 (q : Int)] 45)).heap.size) := by
            have h9 := (Array.getElem?_eq_some_iff.1 HR2.out.hp).1
            unfold Hid
            simp
            omega
          have HF : Hid (∀ v' V, V.ownsRow (w.heap.size + 1) 45 4 v' (m + 1) (tvs L ++ [.int .i8 kd, .string (strOfNums tt), .int .i64 nm, .int .i64 (q : Int)]) → (V2.alloc (.cells #[.int .i8 kd, .string (strOfNums tt), .int .i64 nm, .int .i64 (q : Int)] 45)).grownBy V (Value.slice ta m tc).ownBlock → V.ownsRow (w.heap.size + 1) 45 4 v' (m + 1) (tvs (L ++ [⟨kd, tt, nm, q⟩])) ∧ RC w w.heap.size (.slice a n c) B k (-1) V ∧ V.heap[V1.heap.size]? = some (.cells #[.int .i8 kd, .string (strOfNums tt), .int .i64 nm, .int .i64 (q : Int)] 45 (0, 0))) := fun v' V n1 n2 => by
            refine ⟨by rw [tvs_app]; exact n1, rc_grown (HR2.out.kb ((Up.refl V2).alloc _)) ⟨Nat.le_refl _, Nat.lt_succ_self _⟩ n2 (fun k9 hk => (HOB.out k9 hk).1), ?_⟩
            have h9 := ((Up.refl V2).alloc (.cells #[.int .i8 kd, .string (strOfNums tt), .int .i64 nm, .int .i64 (q : Int)] 45)).heap g2
            rw [n2.block V1.heap.size (Array.getElem?_eq_some_iff.1 h9).1 (fun e9 => by have := (HOB.out _ e9.symm).2; omega)]
            exact h9
          go_upto_region 9 with fail
          try rw [hV2]
          clear hV2 y0 y1 y2
          go_wp2_with (first | (refine wpList_load_rowG (by rfl) 45 (.tmp 7) (by rfl) V1.heap.size (by rfl) 45 #[.int .i8 kd, .string (strOfNums tt), .int .i64 nm, .int .i64 (q : Int)] (0, 0) _ g2 Tryz.underlying45 (by rfl) infoTs ?_) | (at_builtin; go_loud (refine wpList_append_own _ (by rfl) (.tmp 27) (.tmp 29) 22 (by rfl) (w.heap.size + 1) 45 iT _ 4 40 Tryz.underlying22 hiT z0 z1 z2 (by rfl) (by decide) (.slice ta m tc) m (tvs L) (by rfl) HV.out ⟨V2.heap.size, 0, none⟩ 1 1 [.int .i8 kd, .string (strOfNums tt), .int .i64 nm, .int .i64 (q : Int)] (by rfl) (by rfl) HMW.out (by simp [Value.oneCell']) (by unfold maxLen; omega) (by omega) HSZ.out ?_; intro v' V hin hg1 _; have HG : Hid (V.ownsRow (w.heap.size + 1) 45 4 v' (m + 1) (tvs (L ++ [⟨kd, tt, nm, q⟩])) ∧ RC w w.heap.size (.slice a n c) B k (-1) V ∧ V.heap[V1.heap.size]? = some (.cells #[.int .i8 kd, .string (strOfNums tt), .int .i64 nm, .int .i64 (q : Int)] 45 (0, 0))) := HF.out v' V hin hg1; obtain ⟨fa, fc, hva⟩ : ∃ a c, v' = Value.slice a (m + 1) c := row_val hin; subst hva; clear hin hg1; have cK := cell_zero HG.out.2.2)))
          go_roundw
          case rel => exact ⟨k, m + 1, L ++ [⟨kd, tt, nm, q⟩], fa, fc, q2, rfl, by rw [List.length_append, hm]; rfl, by omega, HG.out.1, HG.out.2.1, HNX.out⟩
          case measure =>
            rw [HG.out.2.1.ptAt, HM0.out]
            omega
      · obtain rfl : n = q := by omega
        have HON : Hid (Calls Tryz.prog 24 #[.pointer (some ⟨w.heap.size, 0, none⟩)] W2 fun e w' => e = .returned (.agg #[.int .i8 0, .string ⟨#[]⟩, .int .i64 0, .int .i64 (n : Int)]) ∧ RC w w.heap.size (.slice a n c) B n (-1) w' ∧ Kg w.heap.size W2 w') := cone_end w w.heap.size _ B n (-1) W2 HR.out HN.out
        have HE : Hid (cutF B (B.length + 1) 0 [] = .ok (L ++ [⟨0, [], 0, n⟩])) := by
          have h9 := HCT.out.fin (by have := HN.out; omega)
          rw [HN.out]
          exact h9
        clear hno HR
        go_wp2_with fail
        refine Calls.mono HON.out ?_
        rintro r V1 ⟨rfl, hrc, hkg⟩
        have HR : Hid (RC w w.heap.size (.slice a n c) B n (-1) V1) := hrc
        have HS : Hid (V1.ownsRow (w.heap.size + 1) 45 4 (.slice ta m tc) m (tvs L)) := row_kg HS.out hkg (Nat.lt_succ_self _)
        clear HON hrc hkg
        obtain ⟨V2, hV2⟩ : ∃ V2, V1.alloc (.cells #[.int .i8 0, .string ⟨#[]⟩, .int .i64 0, .int .i64 (n : Int)] 45) = V2 := ⟨_, rfl⟩
        have u2 : Up V1 V2 := by rw [← hV2]; exact (Up.refl _).alloc _
        have g2 : V2.heap[V1.heap.size]? = some (.cells #[.int .i8 0, .string ⟨#[]⟩, .int .i64 0, .int .i64 (n : Int)] 45 (0, 0)) := by rw [← hV2]; exact heap_alloc_new _ _
        have HOB : Hid (∀ k9, (Value.slice ta m tc).ownBlock = some k9 → w.heap.size + 1 ≤ k9 ∧ k9 < V1.heap.size) := World.ownsRow.lt HS.out
        have HR2 : Hid (RC w w.heap.size (.slice a n c) B n (-1) V2) := HR.out.kb u2
        have HS2 : Hid (V2.ownsRow (w.heap.size + 1) 45 4 (.slice ta m tc) m (tvs L)) := row_up HS.out u2
        obtain ⟨y0, y1, y2⟩ := HR2.out.cells
        clear HR HS u2
        have HV : Hid ((V2.alloc (.cells #[.int .i8 0, .string ⟨#[]⟩, .int .i64 0, .int .i64 (n : Int)] 45)).ownsRow (w.heap.size + 1) 45 4 (.slice ta m tc) m (tvs L)) := World.ownsRow.alloc HS2.out _
        have HMW : Hid (∀ j9 u9, [.int .i8 0, .string ⟨#[]⟩, .int .i64 0, .int .i64 (n : Int)][j9]? = some u9 → (V2.alloc (.cells #[.int .i8 0, .string ⟨#[]⟩, .int .i64 0, .int .i64 (n : Int)] 45)).cell? ((⟨V2.heap.size, 0, none⟩ : Addr).add j9) = some u9) := World.news_of_block (cs := #[.int .i8 0, .string ⟨#[]⟩, .int .i64 0, .int .i64 (n : Int)]) (t := 45) (fr := (0, 0)) (heap_alloc_new V2 _)
        have HSZ : Hid (w.heap.size + 1 ≤ (V2.alloc (.cells #[.int .i8 0, .string ⟨#[]⟩, .int .i64 0, .int .i64 (n : Int)] 45)).heap.size) := by
          have h9 := (Array.getElem?_eq_some_iff.1 HR2.out.hp).1
          unfold Hid
          simp
          omega
        have HF : Hid (∀ v' V, V.ownsRow (w.heap.size + 1) 45 4 v' (m + 1) (tvs L ++ [.int .i8 0, .string ⟨#[]⟩, .int .i64 0, .int .i64 (n : Int)]) → (V2.alloc (.cells #[.int .i8 0, .string ⟨#[]⟩, .int .i64 0, .int .i64 (n : Int)] 45)).grownBy V (Value.slice ta m tc).ownBlock → V.ownsRow (w.heap.size + 1) 45 4 v' (m + 1) (tvs (L ++ [⟨0, [], 0, n⟩])) ∧ RC w w.heap.size (.slice a n c) B n (-1) V ∧ V.heap[V1.heap.size]? = some (.cells #[.int .i8 0, .string ⟨#[]⟩, .int .i64 0, .int .i64 (n : Int)] 45 (0, 0))) := fun v' V n1 n2 => by
          refine ⟨by rw [tvs_app]; exact n1, rc_grown (HR2.out.kb ((Up.refl V2).alloc _)) ⟨Nat.le_refl _, Nat.lt_succ_self _⟩ n2 (fun k9 hk => (HOB.out k9 hk).1), ?_⟩
          have h9 := ((Up.refl V2).alloc (.cells #[.int .i8 0, .string ⟨#[]⟩, .int .i64 0, .int .i64 (n : Int)] 45)).heap g2
          rw [n2.block V1.heap.size (Array.getElem?_eq_some_iff.1 h9).1 (fun e9 => by have := (HOB.out _ e9.symm).2; omega)]
          exact h9
        go_upto_region 9 with fail
        try rw [hV2]
        clear hV2 y0 y1 y2
        go_wp2_with (first | (refine wpList_load_rowG (by rfl) 45 (.tmp 7) (by rfl) V1.heap.size (by rfl) 45 #[.int .i8 0, .string ⟨#[]⟩, .int .i64 0, .int .i64 (n : Int)] (0, 0) _ g2 Tryz.underlying45 (by rfl) infoTs ?_) | (at_builtin; go_loud (refine wpList_append_own _ (by rfl) (.tmp 27) (.tmp 29) 22 (by rfl) (w.heap.size + 1) 45 iT _ 4 40 Tryz.underlying22 hiT z0 z1 z2 (by rfl) (by decide) (.slice ta m tc) m (tvs L) (by rfl) HV.out ⟨V2.heap.size, 0, none⟩ 1 1 [.int .i8 0, .string ⟨#[]⟩, .int .i64 0, .int .i64 (n : Int)] (by rfl) (by rfl) HMW.out (by simp [Value.oneCell']) (by unfold maxLen; omega) (by omega) HSZ.out ?_; intro v' V hin hg1 _; have HG : Hid (V.ownsRow (w.heap.size + 1) 45 4 v' (m + 1) (tvs (L ++ [⟨0, [], 0, n⟩])) ∧ RC w w.heap.size (.slice a n c) B n (-1) V ∧ V.heap[V1.heap.size]? = some (.cells #[.int .i8 0, .string ⟨#[]⟩, .int .i64 0, .int .i64 (n : Int)] 45 (0, 0))) := HF.out v' V hin hg1; obtain ⟨fa, fc, hva⟩ : ∃ a c, v' = Value.slice a (m + 1) c := row_val hin; subst hva; clear hin hg1; have cK := cell_zero HG.out.2.2)))
        rw [HPo.out]
        exact cu_ok HLN.out HE.out (by rw [List.length_append, hm]; rfl) (row_less HG.out.1) HG.out.2.1.up
end TK
end Go.Proofs.YtkldllnnocdhbaaGreatDoor
namespace Go.Proofs.YtkldllnnocdhbaaGreatDoor
open Go.RowKit
namespace TP
open TR (Nd Byt nums_inj nums_nil)
open TK (Tok tex TabP)
theorem tvs_at : ∀ (l : List Tok) (i j : Nat), i < l.length → j < 4 → (TK.tvs l)[i * 4 + j]? = (tvs1 (tk l i))[j]?
  | [], i, _, h, _ => absurd h (Nat.not_lt_zero _)
  | t :: r, 0, j, _, hj => by
    show (TK.tvs1 t ++ TK.tvs r)[0 * 4 + j]? = (tvs1 t)[j]?
    rw [Nat.zero_mul, Nat.zero_add, List.getElem?_append_left (show j < (TK.tvs1 t).length from hj)]
    rfl
  | t :: r, i + 1, j, h, hj => by
    show (TK.tvs1 t ++ TK.tvs r)[(i + 1) * 4 + j]? = (tvs1 (tk r i))[j]?
    rw [List.getElem?_append_right (show (TK.tvs1 t).length ≤ (i + 1) * 4 + j by show 4 ≤ _; omega), show (i + 1) * 4 + j - (TK.tvs1 t).length = i * 4 + j by show (i + 1) * 4 + j - 4 = _; omega]
    exact tvs_at r i j (Nat.lt_of_succ_lt_succ h) hj
theorem tm_row {W : World} {v : Value} {base : Nat} {l : List Tok} (h : W.ownsRow base 45 4 v l.length (TK.tvs l)) (h0 : 0 < l.length) (hs : l.length ≤ 1048576) (hb : ∀ i, i < l.length → Byt (tk l i).text) (hn : ∀ i, i < l.length → (tk l i).text.length ≤ 281474976710656) (hm : ∀ i, i < l.length → -9223372036854775808 ≤ (tk l i).num ∧ (tk l i).num ≤ 9223372036854775807) (hT : TabP W) :
    ∃ bt off c, v = .slice (some ⟨bt, off, none⟩) l.length c ∧ TM W bt off l.length c l := by
  rcases h.2 with ⟨-, h1⟩ | ⟨g, cap, cur, rfl, -, -, hcap, -⟩
  · omega
  · refine ⟨g, 0, cap, rfl, ⟨rfl, hcap, h0, hs, fun i hi j x hx => ?_, hb, hn, hm, hT⟩⟩
    have hj : j < 4 := by
      have h2 := (List.getElem?_eq_some_iff.1 hx).1
      exact h2
    have h3 := h.cells (g := g) rfl (i * 4 + j) x (by rw [tvs_at l i j hi hj]; exact hx)
    rcases Nat.eq_zero_or_pos (i * 4 + j) with h4 | h4
    · rw [h4] at h3
      rw [show 0 + i * 4 + j = 0 by omega]
      simpa [Addr.add] using h3
    · rw [show 0 + i * 4 + j = i * 4 + j by omega]
      generalize i * 4 + j = z at h3 h4 ⊢
      simpa [Addr.add, Nat.ne_of_gt h4] using h3
end TP
end Go.Proofs.YtkldllnnocdhbaaGreatDoor
namespace Go.Proofs.YtkldllnnocdhbaaGreatDoor
open Go.RowKit
attribute [local go_sem ↓] Go.wp_at_zero Go.wp_at_succ
namespace TP
open TR (Nd Byt nums_inj nums_nil)
open TK (Tok tex TabP CuP BL)
def nd1 : List Nd := [⟨45, 0, 0, 0, [], 2, 2⟩, ⟨30, 0, 1, 0, [], 0, 0⟩, ⟨33, 0, 0, 0, [97], 4, 0⟩]
def nd2 : List Nd := [⟨1, 0, 0, 0, [], 0, 1⟩, ⟨2, 0, 0, 0, [65], 0, 1⟩, ⟨3, 0, 3, 0, [], 11, 0⟩]
theorem may1 : MayT cs1 := ⟨tex1, by decide +kernel, by decide +kernel⟩
theorem may2 : MayT cs2 := ⟨tex2, by decide +kernel, by decide +kernel⟩
theorem an1 {W : World} {e : Ending} {w' : World} (h : AN cs1 (P cs1 (fuel cs1) (.row 1) 0 0) W e w') : ∃ v, e = .returned (.tuple #[v, .int .i64 0, .int .i64 0]) ∧ OwN W.heap.size w' v nd1 ∧ Up W w' := by
  obtain ⟨u, ⟨h1, -⟩ | ⟨hm, R, hR, hq⟩⟩ := h
  · exact absurd may1 h1
  · rw [cs1_is] at hR
    obtain rfl := Option.some.inj hR
    obtain ⟨-, h2⟩ := hq
    simp only at h2
    rw [if_pos (by decide +kernel), fl1_is] at h2
    obtain ⟨v, h3, h4⟩ := h2
    exact ⟨v, h3, h4, u⟩
theorem an2 {W : World} {e : Ending} {w' : World} (h : AN cs2 (packR cs2 (P cs2 (fuel cs2) (.cards .nil) 0 0)) W e w') : ∃ v, e = .returned (.tuple #[v, .int .i64 0, .int .i64 0]) ∧ OwN W.heap.size w' v nd2 ∧ Up W w' := by
  obtain ⟨u, ⟨h1, -⟩ | ⟨hm, R, hR, hq⟩⟩ := h
  · exact absurd may2 h1
  · rw [cs2_is] at hR
    have hR : some (Rs.ok (nod 1 0 [] 0 (nod 2 0 [65] 0 (nod 3 3 [] 11 .nil))) 7) = some R := hR
    obtain rfl := Option.some.inj hR
    obtain ⟨-, h2⟩ := hq
    simp only at h2
    rw [if_pos (by decide +kernel), fl2_is] at h2
    obtain ⟨v, h3, h4⟩ := h2
    exact ⟨v, h3, h4, u⟩
theorem byt1 : ∀ i, i < cs1.length → Byt (tk cs1 i).text := by unfold Byt; decide +kernel
theorem byt2 : ∀ i, i < cs2.length → Byt (tk cs2 i).text := by unfold Byt; decide +kernel
theorem bl_const {w : World} {g : Nat} {C : Array Value} {n : Nat} {l : List Int} {fr : Nat × Nat} {t : TypeId} (hC : C.toList = TK.bvs l) (hn : n = l.length) (h : w.heap[g]? = some (.cells C t fr)) : BL w (.slice (some ⟨g, 0, none⟩) n n) l := by
  subst hn
  refine ⟨by simp [TK.bvs], some ⟨g, 0, none⟩, l.length, rfl, Nat.le_refl _, fun _ => ⟨g, 0, rfl, fun j hj => ?_⟩⟩
  rw [Nat.zero_add, ← hC]
  simp [World.cell?, h]
set_option maxRecDepth 100000 in
set_option maxHeartbeats 16000000 in
theorem works_ (W : World) (hT : TabP W) (hRT : W.cell? ⟨0, 0, none⟩ = some (.iface 181 (.agg #[.pointer (some ⟨4, 93, none⟩)]))) : Calls Tryz.prog 8 #[] W (fun r w' => r = .returned (.bool true) ∧ Up W w') := by
  obtain ⟨Post, hPost⟩ : ∃ P : Ending → World → Prop, P = fun r w' => r = .returned (.bool true) ∧ Up W w' := ⟨_, rfl⟩
  rw [← hPost]
  have HPo : Hid (Post = fun r w' => r = .returned (.bool true) ∧ Up W w') := hPost
  clear hPost
  have HTB : Hid (TabP W) := hT
  have HRT : Hid (W.cell? ⟨0, 0, none⟩ = some (.iface 181 (.agg #[.pointer (some ⟨4, 93, none⟩)]))) := hRT
  have HUW : Hid (Up W W) := Up.refl _
  clear hT hRT
  go_enter Tryz.func8, Tryz.ntmps8
  obtain ⟨W1, hW1⟩ : ∃ X, W.alloc (.cells #[.int .u8 49, .int .u8 32, .int .u8 45, .int .u8 32, .int .u8 97] 5 ((#[.int .u8 49, .int .u8 32, .int .u8 45, .int .u8 32, .int .u8 97] : Array Value).size, (#[.int .u8 49, .int .u8 32, .int .u8 45, .int .u8 32, .int .u8 97] : Array Value).size + 1)) = X := ⟨_, rfl⟩
  have cv1 := Lib.run_convert_bytes_const (P := Tryz.prog) W 26 5 #[.int .u8 49, .int .u8 32, .int .u8 45, .int .u8 32, .int .u8 97] 5 5 Tryz.underlying26 Tryz.underlying5
  rw [hW1] at cv1
  have HB1 : Hid (BL W1 (.slice (some ⟨W.heap.size, 0, none⟩) 5 5) cb1) := bl_const rfl rfl (by rw [← hW1]; exact heap_alloc_new _ _)
  have HUW1 : Hid (Up W W1) := by unfold Hid; rw [← hW1]; exact HUW.out.alloc _
  have HC1 : Hid _ := TK.rcut_ _ cb1 W1 HB1.out (by unfold TK.Byt cb1; decide)
  clear hW1
  go_wp2_with fail
  refine Calls.mono HC1.out ?_
  rintro r9 w2 ⟨v, rfl, hown, u9⟩
  rw [cut1_is.1] at hown
  rw [cut1_is.2.1, cut1_is.2.2]
  obtain ⟨bt1, off1, c1, rfl, htm⟩ := tm_row hown (by decide) (by decide) byt1 (by decide +kernel) (by decide +kernel) (HTB.out.up (HUW1.out.trans u9))
  have HUw2 : Hid (Up W w2) := HUW1.out.trans u9
  have HT1 : Hid _ := htm
  clear hown u9 htm HC1 HB1 cv1 HUW1
  have HP1 : Hid _ := expr_any w2 bt1 off1 _ c1 cs1 HT1.out (HUw2.out.cell HRT.out)
  go_wp2_with fail
  refine Calls.mono HP1.out ?_
  intro r9 w3 hq
  obtain ⟨v1, rfl, ho, u9⟩ := an1 hq
  have HO1 : Hid (OwN w2.heap.size w3 v1 nd1) := ho
  have HUw3 : Hid (Up W w3) := HUw2.out.trans u9
  have HV1 : Hid (Up w3 w3) := Up.refl _
  clear hq ho u9 HP1 HT1
  obtain ⟨a1, q1, rfl⟩ := row_val HO1.out
  obtain ⟨W4, hW4⟩ : ∃ X, w3.alloc (.cells #[.int .u8 99, .int .u8 97, .int .u8 114, .int .u8 100, .int .u8 32, .int .u8 34, .int .u8 65, .int .u8 34, .int .u8 32, .int .u8 123, .int .u8 32, .int .u8 99, .int .u8 111, .int .u8 115, .int .u8 116, .int .u8 32, .int .u8 51, .int .u8 59, .int .u8 32, .int .u8 125] 5 ((#[.int .u8 99, .int .u8 97, .int .u8 114, .int .u8 100, .int .u8 32, .int .u8 34, .int .u8 65, .int .u8 34, .int .u8 32, .int .u8 123, .int .u8 32, .int .u8 99, .int .u8 111, .int .u8 115, .int .u8 116, .int .u8 32, .int .u8 51, .int .u8 59, .int .u8 32, .int .u8 125] : Array Value).size, (#[.int .u8 99, .int .u8 97, .int .u8 114, .int .u8 100, .int .u8 32, .int .u8 34, .int .u8 65, .int .u8 34, .int .u8 32, .int .u8 123, .int .u8 32, .int .u8 99, .int .u8 111, .int .u8 115, .int .u8 116, .int .u8 32, .int .u8 51, .int .u8 59, .int .u8 32, .int .u8 125] : Array Value).size + 1)) = X := ⟨_, rfl⟩
  have cv2 := Lib.run_convert_bytes_const (P := Tryz.prog) w3 26 5 #[.int .u8 99, .int .u8 97, .int .u8 114, .int .u8 100, .int .u8 32, .int .u8 34, .int .u8 65, .int .u8 34, .int .u8 32, .int .u8 123, .int .u8 32, .int .u8 99, .int .u8 111, .int .u8 115, .int .u8 116, .int .u8 32, .int .u8 51, .int .u8 59, .int .u8 32, .int .u8 125] 20 20 Tryz.underlying26 Tryz.underlying5
  rw [hW4] at cv2
  have HB2 : Hid (BL W4 (.slice (some ⟨w3.heap.size, 0, none⟩) 20 20) cb2) := bl_const rfl rfl (by rw [← hW4]; exact heap_alloc_new _ _)
  have HUW4 : Hid (Up W W4) := by unfold Hid; rw [← hW4]; exact HUw3.out.alloc _
  have HC2 : Hid _ := TK.rcut_ _ cb2 W4 HB2.out (by unfold TK.Byt cb2; decide)
  have HO1 : Hid (OwN w2.heap.size W4 (.slice a1 nd1.length q1) nd1) := by unfold Hid; rw [← hW4]; exact row_up HO1.out ((Up.refl _).alloc _)
  clear hW4
  go_wp2_with fail
  refine Calls.mono HC2.out ?_
  rintro r9 w5 ⟨v, rfl, hown, u9⟩
  rw [cut2_is.1] at hown
  rw [cut2_is.2.1, cut2_is.2.2]
  obtain ⟨bt2, off2, c2, rfl, htm⟩ := tm_row hown (by decide) (by decide) byt2 (by decide +kernel) (by decide +kernel) (HTB.out.up (HUW4.out.trans u9))
  have HUw5 : Hid (Up W w5) := HUW4.out.trans u9
  have HO1 : Hid (OwN w2.heap.size w5 (.slice a1 nd1.length q1) nd1) := row_up HO1.out u9
  have HT2 : Hid _ := htm
  clear hown u9 htm HC2 HB2 cv2 HUW4
  have HP2 : Hid _ := pack_any w5 bt2 off2 _ c2 cs2 HT2.out (HUw5.out.cell HRT.out)
  go_wp2_with fail
  refine Calls.mono HP2.out ?_
  intro r9 w6 hq
  obtain ⟨v2, rfl, ho, u9⟩ := an2 hq
  have HO2 : Hid (OwN w5.heap.size w6 v2 nd2) := ho
  have HUw6 : Hid (Up W w6) := HUw5.out.trans u9
  have HO1 : Hid (OwN w2.heap.size w6 (.slice a1 nd1.length q1) nd1) := row_up HO1.out u9
  have HV2 : Hid (Up w6 w6) := Up.refl _
  clear hq ho u9 HP2 HT2
  obtain ⟨a2, q2, rfl⟩ := row_val HO2.out
  have h1 := HO1.out
  have h2 := HO2.out
  rcases h1.2 with ⟨-, h0⟩ | ⟨g1, p1, u1, e1, -⟩
  · exact absurd h0 (by decide)
  rcases h2.2 with ⟨-, h0⟩ | ⟨g2, p2, u2, e2, -⟩
  · exact absurd h0 (by decide)
  injection e1 with e3 e4 e5
  injection e2 with e6 e7 e8
  subst e3
  subst e6
  have x1 : w6.cell? ⟨g1, 0, none⟩ = some (.int .i8 45) := by simpa [Addr.add] using h1.cells (g := g1) rfl 0 (.int .i8 45) rfl
  have x2 : w6.cell? ⟨g1, 5, none⟩ = some (.int .i64 2) := by simpa [Addr.add] using h1.cells (g := g1) rfl 5 (.int .i64 2) rfl
  have x3 : w6.cell? ⟨g2, 16, none⟩ = some (.int .i64 3) := by simpa [Addr.add] using h2.cells (g := g2) rfl 16 (.int .i64 3) rfl
  rw [show nd1.length = 3 from rfl, show nd2.length = 3 from rfl]
  clear h1 h2 e4 e5 e7 e8 HO1 HO2
  go_wp2_with fail
  rw [HPo.out]
  exact ⟨rfl, HUw6.out⟩
end TP
end Go.Proofs.YtkldllnnocdhbaaGreatDoor
