/-
  The document's Cut.
-/
import Derived.Test.YtkldllnnocdhbaaGreatDoorRo8
import Derived.Test.YtkldllnnocdhbaaGreatDoorOf8
import Derived.Test.YtkldllnnocdhbaaGreatDoorTs8
import Derived.Deep.Cut
namespace Go.Proofs.YtkldllnnocdhbaaGreatDoor
open Go.RowKit
attribute [local go_sem ↓] Go.wp_at_zero Go.wp_at_succ
namespace TK
theorem cell_zero {W : World} {b t : Nat} {x y z u : Value} (h : W.heap[b]? = some (.cells #[x, y, z, u] t (0, 0))) : W.cell? ⟨b, 0, none⟩ = some x := by
  simp only [World.cell?, h]
  rfl
theorem row_kg {w w' : World} {g b e s n : Nat} {v : Value} {xs : List Value} (h : w.ownsRow b e s v n xs) (k : Kg g w w') (hg : g < b) : w'.ownsRow b e s v n xs := by
  refine ⟨h.1, ?_⟩
  rcases h.2 with h | ⟨g', cap, cur, e1, e2, e3, e4⟩
  · exact .inl h
  · exact .inr ⟨g', cap, cur, e1, e2, kg_at k e3 (by omega), e4⟩
theorem row_less {w : World} {b e s n : Nat} {v : Value} {xs : List Value} (h : w.ownsRow (b + 1) e s v n xs) : w.ownsRow b e s v n xs := by
  refine ⟨h.1, ?_⟩
  rcases h.2 with h | ⟨g', cap, cur, e1, e2, e3⟩
  · exact .inl h
  · exact .inr ⟨g', cap, cur, e1, by omega, e3⟩
theorem gp_go {B : List Int} {L : List Tok} {p q : Nat} (h : Gp B p q) (hc : Ct B p L) : Ct B q L := by
  induction h with
  | refl => exact hc
  | step _ h2 h3 ih => exact Ct.skip ih h2 h3
theorem stp_kind {B : List Int} {p q : Nat} {t : Tok} (h : stp B p = .tok t q) : t.kind ≠ 0 := by
  unfold stp at h
  split at h
  · cases h
  · split at h
    · cases h
    · split at h
      · unfold nme at h
        split at h
        · cases h
        · cases h; simp
      · split at h
        · unfold nmb at h
          split at h
          · cases h
          · split at h
            · cases h
            · cases h; simp
        · split at h
          · rw [(txt_kind _ _ _ _ _ h).1]; decide
          · unfold mkk at h
            split at h
            · cases h; simp
            · split at h
              · cases h; simp
              · cases h
set_option maxRecDepth 100000 in
set_option maxHeartbeats 8000000 in
theorem cpass_end (w0 : World) (g : Nat) (vb : Value) (B : List Int) (p : Nat) (bad : Int) (w : World) (h : RC w0 g vb B p bad w) (hp : p = B.length) :
    Calls Tryz.prog 23 #[.pointer (some ⟨g, 0, none⟩)] w fun e w' => e = .returned (.tuple #[]) ∧ RC w0 g vb B p bad w' ∧ Kg g w w' := by
  obtain ⟨Post, hPost⟩ : ∃ P : Ending → World → Prop, P = fun e w' => e = .returned (.tuple #[]) ∧ RC w0 g vb B p bad w' ∧ Kg g w w' := ⟨_, rfl⟩
  rw [← hPost]
  obtain ⟨a, c, hvb, -, -⟩ := bl_cells h.bl
  rw [← hp] at hvb
  subst hvb
  have HF : Hid (∀ k, Post (.returned (.tuple #[])) (w.drewN k)) := fun k => by
    rw [hPost]
    exact ⟨rfl, h.kb ((Up.refl _).drewN k), (Kg.refl g w).up ((Up.refl _).drewN k)⟩
  obtain ⟨y0, y1, y2⟩ := h.cells
  have hlt2 : ¬ (p : Int) < (p : Int) := by omega
  have hd2 : decide ((p : Int) < (p : Int)) = false := decide_eq_false hlt2
  clear h hp hPost
  go_enter Tryz.func23, Tryz.ntmps23
  go_wp2_with fail
  go_loopw [2] (fun _ W => W = w) (fun _ _ => 0)
  case atStart => trivial
  case round =>
    subst hrel
    go_wp2_with fail
    go_quiet (fail)
    go_wp2_with fail
    refine bodyPost_end (results_none rfl _ _ _) rfl ?_
    exact HF.out _
set_option maxRecDepth 100000 in
set_option maxHeartbeats 16000000 in
theorem rcut_ (vb : Value) (B : List Int) (w : World) (hB : BL w vb B) (hby : Byt B) : Calls Tryz.prog 10 #[vb] w (CuP w B) := by
  obtain ⟨Post, hPost⟩ : ∃ P : Ending → World → Prop, P = CuP w B := ⟨_, rfl⟩
  rw [← hPost]
  have HPo : Hid (Post = CuP w B) := hPost
  clear hPost
  obtain ⟨iT, hiT, z0, z1, z2⟩ := info_parts infoTok
  have HBY : Hid (Byt B) := hby
  have HBL : Hid (BL w vb B) := hB
  obtain ⟨a, c, hvb, hcap, hce⟩ := bl_cells hB
  obtain ⟨n, hN⟩ : ∃ n, n = B.length := ⟨_, rfl⟩
  have HN : Hid (n = B.length) := hN
  rw [← hN] at hvb hcap hce
  have HA : Hid (n ≠ 0 → ∃ b o, a = some ⟨b, o, none⟩ ∧ BA w b o B) := fun h0 => by
    obtain ⟨b, o, h1, h2⟩ := hce h0
    exact ⟨b, o, h1, fun W u j hj => h2 W u j (by have := HN.out; omega)⟩
  subst hvb
  clear hB hby hN hce
  by_cases hbig : 65536 < n
  · have e1 : (65536 : Int) < (n : Int) := by omega
    have HFB : Hid (Post (.returned (.tuple #[.slice none 0 0, .int .i64 20, .int .i64 65536])) w) := by
      rw [HPo.out]
      exact cu_long (by have := HN.out; omega)
    go_enter Tryz.func10, Tryz.ntmps10
    go_wp2_with fail
    exact HFB.out
  · have e1 : ¬ (65536 : Int) < (n : Int) := by omega
    have HLN : Hid (B.length ≤ 65536) := by have := HN.out; unfold Hid; omega
    obtain ⟨W0, hW0⟩ : ∃ W0, w.alloc (.cells #[.slice a n c, .int .i64 0, .int .i64 (-1)] 73) = W0 := ⟨_, rfl⟩
    have HR0 : Hid (RC w w.heap.size (.slice a n c) B 0 (-1) W0) := ⟨by rw [← hW0]; exact heap_alloc_new _ _, by rw [← hW0]; exact (Up.refl _).alloc _, Nat.le_refl _, HBL.out, HBY.out, HLN.out, Nat.zero_le _⟩
    go_enter Tryz.func10, Tryz.ntmps10
    go_wp2_with fail
    try rw [hW0]
    go_loopw [6] (fun s6 W => ∃ (p m : Nat) (L : List Tok) (ta : Option Addr) (tc : Nat), p ≤ n ∧ s6 = .slice ta m tc ∧ L.length = m ∧ m ≤ p ∧ W.ownsRow (w.heap.size + 1) 45 4 (.slice ta m tc) m (tvs L) ∧ RC w w.heap.size (.slice a n c) B p (-1) W ∧ Ct B p L) (fun _ W => n - ptAt W w.heap.size)
    case atStart => exact ⟨0, 0, [], none, 0, Nat.zero_le _, rfl, rfl, Nat.le_refl _, World.ownsRow_nil _ _ _ _, by first | exact HR0.out | (rw [hW0]; exact HR0.out), ct_start B⟩
    case round =>
      clear hW0 HR0
      obtain ⟨p, m, L, ta, tc, hp, rfl, hm, hmp, hrow, hrc, hct⟩ := hrel
      have HM0 : Hid (ptAt wr w.heap.size = p) := hrc.ptAt
      have HPS : Hid (Calls Tryz.prog 23 #[.pointer (some ⟨w.heap.size, 0, none⟩)] wr fun e w' => e = .returned (.tuple #[]) ∧ ∃ q, p ≤ q ∧ q ≤ n ∧ w'.ownsRow (w.heap.size + 1) 45 4 (.slice ta m tc) m (tvs L) ∧ RC w w.heap.size (.slice a n c) B q (-1) w' ∧ Ct B q L ∧ (q < n → blk (B.getD q 0) = false ∧ rmk B q = false)) := by
        by_cases h0 : p = n
        · refine Calls.mono (cpass_end w w.heap.size _ B p (-1) wr hrc (by rw [h0]; exact HN.out)) ?_
          rintro e w' ⟨he, h1, h2⟩
          exact ⟨he, p, Nat.le_refl _, hp, row_kg hrow h2 (Nat.lt_succ_self _), h1, hct, fun h3 => by omega⟩
        · obtain ⟨b, o, rfl, hba⟩ := HA.out (by omega)
          have h9 := cpass_ w w.heap.size b o c B p (-1) wr (by rw [← HN.out]; exact hrc) hba
          rw [← HN.out] at h9
          refine Calls.mono h9 ?_
          rintro e w' ⟨he, q, h1, h2, h3, h4⟩
          exact ⟨he, q, h2.le, by have := h1.at_le; rw [HN.out]; exact this, row_kg hrow h4 (Nat.lt_succ_self _), h1, gp_go h2 hct, h3⟩
      clear hrow hrc hct
      go_wp2_with fail
      refine Calls.mono HPS.out ?_
      rintro r W2 ⟨rfl, q, hpq, hqn, hrow, hrc, hct, hno⟩
      have HS : Hid (W2.ownsRow (w.heap.size + 1) 45 4 (.slice ta m tc) m (tvs L)) := hrow
      have HR : Hid (RC w w.heap.size (.slice a n c) B q (-1) W2) := hrc
      have HCT : Hid (Ct B q L) := hct
      clear hrow hrc hct HPS
      by_cases hlt : q < n
      · obtain ⟨hb, hrm⟩ := hno hlt
        have HPL : Hid (q < B.length) := by have := HN.out; unfold Hid; omega
        have HON : Hid (Calls Tryz.prog 24 #[.pointer (some ⟨w.heap.size, 0, none⟩)] W2 (OnP w w.heap.size (.slice a n c) B q (-1) W2 (stp B q))) := cone_ w w.heap.size _ B q (-1) W2 HR.out HPL.out hb hrm
        clear hno hb hrm HR
        go_wp2_with fail
        refine Calls.mono HON.out ?_
        intro r V1 hr
        clear HON
        cases hX : stp B q with
        | skip k => rw [hX] at hr; exact hr.elim
        | bad k =>
          rw [hX] at hr
          obtain ⟨kd, tt, nm, i, rfl, hrc, hkg⟩ := hr
          have HE := HCT.out.bad HPL.out hX
          obtain ⟨V2, hV2⟩ : ∃ V2, V1.alloc (.cells #[.int .i8 kd, .string tt, .int .i64 nm, .int .i64 (q : Int)] 45) = V2 := ⟨_, rfl⟩
          have HR : Hid (RC w w.heap.size (.slice a n c) B i (k : Int) V2) := hrc.kb (by rw [← hV2]; exact (Up.refl _).alloc _)
          obtain ⟨y0, y1, y2⟩ := HR.out.cells
          have HFB : Hid (∀ j, Post (.returned (.tuple #[.slice none 0 0, .int .i64 21, .int .i64 (k : Int)])) (V2.drewN j)) := fun j => by
            rw [HPo.out]
            exact cu_bad HLN.out HE (HR.out.up.drewN j)
          have e5 : (0 : Int) ≤ (k : Int) := by omega
          clear hrc hkg hX HE HS
          go_wp2_with fail
          try rw [hV2]
          go_quiet (fail)
          go_wp2_with fail
          exact HFB.out _
        | tok tk k =>
          rw [hX] at hr
          obtain ⟨kd, tt, nm, ps⟩ := tk
          obtain ⟨rfl, hrc, hkg⟩ := hr
          obtain ⟨q1, q2, q3⟩ := stp_tok HPL.out hX
          have hk0 : (kd == 0) = false := by simpa using stp_kind hX
          obtain rfl : ps = (q : Int) := q3
          have HNX : Hid (Ct B k (L ++ [⟨kd, tt, nm, q⟩])) := HCT.out.tok HPL.out hX
          have HR : Hid (RC w w.heap.size (.slice a n c) B k (-1) V1) := hrc
          have HS : Hid (V1.ownsRow (w.heap.size + 1) 45 4 (.slice ta m tc) m (tvs L)) := row_kg HS.out hkg (Nat.lt_succ_self _)
          rw [← HN.out] at q2
          clear hrc hkg hX
          obtain ⟨V2, hV2⟩ : ∃ V2, V1.alloc (.cells #[.int .i8 kd, .string (strOfNums tt), .int .i64 nm, .int .i64 (q : Int)] 45) = V2 := ⟨_, rfl⟩
          have u2 : Up V1 V2 := by rw [← hV2]; exact (Up.refl _).alloc _
          have g2 : V2.heap[V1.heap.size]? = some (.cells #[.int .i8 kd, .string (strOfNums tt), .int .i64 nm, .int .i64 (q : Int)] 45 (0, 0)) := by rw [← hV2]; exact heap_alloc_new _ _
          have HOB : Hid (∀ k9, (Value.slice ta m tc).ownBlock = some k9 → w.heap.size + 1 ≤ k9 ∧ k9 < V1.heap.size) := World.ownsRow.lt HS.out
          have HR2 : Hid (RC w w.heap.size (.slice a n c) B k (-1) V2) := HR.out.kb u2
          have HS2 : Hid (V2.ownsRow (w.heap.size + 1) 45 4 (.slice ta m tc) m (tvs L)) := row_up HS.out u2
          obtain ⟨y0, y1, y2⟩ := HR2.out.cells
          clear HR HS u2
          have HV : Hid ((V2.alloc (.cells #[.int .i8 kd, .string (strOfNums tt), .int .i64 nm, .int .i64 (q : Int)] 45)).ownsRow (w.heap.size + 1) 45 4 (.slice ta m tc) m (tvs L)) := World.ownsRow.alloc HS2.out _
          have HMW : Hid (∀ j9 u9, [.int .i8 kd, .string (strOfNums tt), .int .i64 nm, .int .i64 (q : Int)][j9]? = some u9 → (V2.alloc (.cells #[.int .i8 kd, .string (strOfNums tt), .int .i64 nm, .int .i64 (q : Int)] 45)).cell? ((⟨V2.heap.size, 0, none⟩ : Addr).add j9) = some u9) := World.news_of_block (cs := #[.int .i8 kd, .string (strOfNums tt), .int .i64 nm, .int .i64 (q : Int)]) (t := 45) (fr := (0, 0)) (heap_alloc_new V2 _)
          have HSZ : Hid (w.heap.size + 1 ≤ (V2.alloc (.cells #[.int .i8 kd, .string (strOfNums tt), .int .i64 nm, .int .i64 (q : Int)] 45)).heap.size) := by
            have h9 := (Array.getElem?_eq_some_iff.1 HR2.out.hp).1
            unfold Hid
            simp
            omega
          have HF : Hid (∀ v' V, V.ownsRow (w.heap.size + 1) 45 4 v' (m + 1) (tvs L ++ [.int .i8 kd, .string (strOfNums tt), .int .i64 nm, .int .i64 (q : Int)]) → (V2.alloc (.cells #[.int .i8 kd, .string (strOfNums tt), .int .i64 nm, .int .i64 (q : Int)] 45)).grownBy V (Value.slice ta m tc).ownBlock → V.ownsRow (w.heap.size + 1) 45 4 v' (m + 1) (tvs (L ++ [⟨kd, tt, nm, q⟩])) ∧ RC w w.heap.size (.slice a n c) B k (-1) V ∧ V.heap[V1.heap.size]? = some (.cells #[.int .i8 kd, .string (strOfNums tt), .int .i64 nm, .int .i64 (q : Int)] 45 (0, 0))) := fun v' V n1 n2 => by
            refine ⟨by rw [tvs_app]; exact n1, rc_grown (HR2.out.kb ((Up.refl V2).alloc _)) ⟨Nat.le_refl _, Nat.lt_succ_self _⟩ n2 (fun k9 hk => (HOB.out k9 hk).1), ?_⟩
            have h9 := ((Up.refl V2).alloc (.cells #[.int .i8 kd, .string (strOfNums tt), .int .i64 nm, .int .i64 (q : Int)] 45)).heap g2
            rw [n2.block V1.heap.size (Array.getElem?_eq_some_iff.1 h9).1 (fun e9 => by have := (HOB.out _ e9.symm).2; omega)]
            exact h9
          go_upto_region 9 with fail
          try rw [hV2]
          clear hV2 y0 y1 y2
          go_wp2_with (first | (refine wpList_load_rowG (by rfl) 45 (.tmp 7) (by rfl) V1.heap.size (by rfl) 45 #[.int .i8 kd, .string (strOfNums tt), .int .i64 nm, .int .i64 (q : Int)] (0, 0) _ g2 Tryz.underlying45 (by rfl) infoTs ?_) | (at_builtin; go_loud (refine wpList_append_own _ (by rfl) (.tmp 27) (.tmp 29) 22 (by rfl) (w.heap.size + 1) 45 iT _ 4 40 Tryz.underlying22 hiT z0 z1 z2 (by rfl) (by decide) (.slice ta m tc) m (tvs L) (by rfl) HV.out ⟨V2.heap.size, 0, none⟩ 1 1 [.int .i8 kd, .string (strOfNums tt), .int .i64 nm, .int .i64 (q : Int)] (by rfl) (by rfl) HMW.out (by simp [Value.oneCell']) (by unfold maxLen; omega) (by omega) HSZ.out ?_; intro v' V hin hg1 _; have HG : Hid (V.ownsRow (w.heap.size + 1) 45 4 v' (m + 1) (tvs (L ++ [⟨kd, tt, nm, q⟩])) ∧ RC w w.heap.size (.slice a n c) B k (-1) V ∧ V.heap[V1.heap.size]? = some (.cells #[.int .i8 kd, .string (strOfNums tt), .int .i64 nm, .int .i64 (q : Int)] 45 (0, 0))) := HF.out v' V hin hg1; obtain ⟨fa, fc, hva⟩ : ∃ a c, v' = Value.slice a (m + 1) c := row_val hin; subst hva; clear hin hg1; have cK := cell_zero HG.out.2.2)))
          go_roundw
          case rel => exact ⟨k, m + 1, L ++ [⟨kd, tt, nm, q⟩], fa, fc, q2, rfl, by rw [List.length_append, hm]; rfl, by omega, HG.out.1, HG.out.2.1, HNX.out⟩
          case measure =>
            rw [HG.out.2.1.ptAt, HM0.out]
            omega
      · obtain rfl : n = q := by omega
        have HON : Hid (Calls Tryz.prog 24 #[.pointer (some ⟨w.heap.size, 0, none⟩)] W2 fun e w' => e = .returned (.agg #[.int .i8 0, .string ⟨#[]⟩, .int .i64 0, .int .i64 (n : Int)]) ∧ RC w w.heap.size (.slice a n c) B n (-1) w' ∧ Kg w.heap.size W2 w') := cone_end w w.heap.size _ B n (-1) W2 HR.out HN.out
        have HE : Hid (cutF B (B.length + 1) 0 [] = .ok (L ++ [⟨0, [], 0, n⟩])) := by
          have h9 := HCT.out.fin (by have := HN.out; omega)
          rw [HN.out]
          exact h9
        clear hno HR
        go_wp2_with fail
        refine Calls.mono HON.out ?_
        rintro r V1 ⟨rfl, hrc, hkg⟩
        have HR : Hid (RC w w.heap.size (.slice a n c) B n (-1) V1) := hrc
        have HS : Hid (V1.ownsRow (w.heap.size + 1) 45 4 (.slice ta m tc) m (tvs L)) := row_kg HS.out hkg (Nat.lt_succ_self _)
        clear HON hrc hkg
        obtain ⟨V2, hV2⟩ : ∃ V2, V1.alloc (.cells #[.int .i8 0, .string ⟨#[]⟩, .int .i64 0, .int .i64 (n : Int)] 45) = V2 := ⟨_, rfl⟩
        have u2 : Up V1 V2 := by rw [← hV2]; exact (Up.refl _).alloc _
        have g2 : V2.heap[V1.heap.size]? = some (.cells #[.int .i8 0, .string ⟨#[]⟩, .int .i64 0, .int .i64 (n : Int)] 45 (0, 0)) := by rw [← hV2]; exact heap_alloc_new _ _
        have HOB : Hid (∀ k9, (Value.slice ta m tc).ownBlock = some k9 → w.heap.size + 1 ≤ k9 ∧ k9 < V1.heap.size) := World.ownsRow.lt HS.out
        have HR2 : Hid (RC w w.heap.size (.slice a n c) B n (-1) V2) := HR.out.kb u2
        have HS2 : Hid (V2.ownsRow (w.heap.size + 1) 45 4 (.slice ta m tc) m (tvs L)) := row_up HS.out u2
        obtain ⟨y0, y1, y2⟩ := HR2.out.cells
        clear HR HS u2
        have HV : Hid ((V2.alloc (.cells #[.int .i8 0, .string ⟨#[]⟩, .int .i64 0, .int .i64 (n : Int)] 45)).ownsRow (w.heap.size + 1) 45 4 (.slice ta m tc) m (tvs L)) := World.ownsRow.alloc HS2.out _
        have HMW : Hid (∀ j9 u9, [.int .i8 0, .string ⟨#[]⟩, .int .i64 0, .int .i64 (n : Int)][j9]? = some u9 → (V2.alloc (.cells #[.int .i8 0, .string ⟨#[]⟩, .int .i64 0, .int .i64 (n : Int)] 45)).cell? ((⟨V2.heap.size, 0, none⟩ : Addr).add j9) = some u9) := World.news_of_block (cs := #[.int .i8 0, .string ⟨#[]⟩, .int .i64 0, .int .i64 (n : Int)]) (t := 45) (fr := (0, 0)) (heap_alloc_new V2 _)
        have HSZ : Hid (w.heap.size + 1 ≤ (V2.alloc (.cells #[.int .i8 0, .string ⟨#[]⟩, .int .i64 0, .int .i64 (n : Int)] 45)).heap.size) := by
          have h9 := (Array.getElem?_eq_some_iff.1 HR2.out.hp).1
          unfold Hid
          simp
          omega
        have HF : Hid (∀ v' V, V.ownsRow (w.heap.size + 1) 45 4 v' (m + 1) (tvs L ++ [.int .i8 0, .string ⟨#[]⟩, .int .i64 0, .int .i64 (n : Int)]) → (V2.alloc (.cells #[.int .i8 0, .string ⟨#[]⟩, .int .i64 0, .int .i64 (n : Int)] 45)).grownBy V (Value.slice ta m tc).ownBlock → V.ownsRow (w.heap.size + 1) 45 4 v' (m + 1) (tvs (L ++ [⟨0, [], 0, n⟩])) ∧ RC w w.heap.size (.slice a n c) B n (-1) V ∧ V.heap[V1.heap.size]? = some (.cells #[.int .i8 0, .string ⟨#[]⟩, .int .i64 0, .int .i64 (n : Int)] 45 (0, 0))) := fun v' V n1 n2 => by
          refine ⟨by rw [tvs_app]; exact n1, rc_grown (HR2.out.kb ((Up.refl V2).alloc _)) ⟨Nat.le_refl _, Nat.lt_succ_self _⟩ n2 (fun k9 hk => (HOB.out k9 hk).1), ?_⟩
          have h9 := ((Up.refl V2).alloc (.cells #[.int .i8 0, .string ⟨#[]⟩, .int .i64 0, .int .i64 (n : Int)] 45)).heap g2
          rw [n2.block V1.heap.size (Array.getElem?_eq_some_iff.1 h9).1 (fun e9 => by have := (HOB.out _ e9.symm).2; omega)]
          exact h9
        go_upto_region 9 with fail
        try rw [hV2]
        clear hV2 y0 y1 y2
        go_wp2_with (first | (refine wpList_load_rowG (by rfl) 45 (.tmp 7) (by rfl) V1.heap.size (by rfl) 45 #[.int .i8 0, .string ⟨#[]⟩, .int .i64 0, .int .i64 (n : Int)] (0, 0) _ g2 Tryz.underlying45 (by rfl) infoTs ?_) | (at_builtin; go_loud (refine wpList_append_own _ (by rfl) (.tmp 27) (.tmp 29) 22 (by rfl) (w.heap.size + 1) 45 iT _ 4 40 Tryz.underlying22 hiT z0 z1 z2 (by rfl) (by decide) (.slice ta m tc) m (tvs L) (by rfl) HV.out ⟨V2.heap.size, 0, none⟩ 1 1 [.int .i8 0, .string ⟨#[]⟩, .int .i64 0, .int .i64 (n : Int)] (by rfl) (by rfl) HMW.out (by simp [Value.oneCell']) (by unfold maxLen; omega) (by omega) HSZ.out ?_; intro v' V hin hg1 _; have HG : Hid (V.ownsRow (w.heap.size + 1) 45 4 v' (m + 1) (tvs (L ++ [⟨0, [], 0, n⟩])) ∧ RC w w.heap.size (.slice a n c) B n (-1) V ∧ V.heap[V1.heap.size]? = some (.cells #[.int .i8 0, .string ⟨#[]⟩, .int .i64 0, .int .i64 (n : Int)] 45 (0, 0))) := HF.out v' V hin hg1; obtain ⟨fa, fc, hva⟩ : ∃ a c, v' = Value.slice a (m + 1) c := row_val hin; subst hva; clear hin hg1; have cK := cell_zero HG.out.2.2)))
        rw [HPo.out]
        exact cu_ok HLN.out HE.out (by rw [List.length_append, hm]; rfl) (row_less HG.out.1) HG.out.2.1.up
end TK
end Go.Proofs.YtkldllnnocdhbaaGreatDoor
