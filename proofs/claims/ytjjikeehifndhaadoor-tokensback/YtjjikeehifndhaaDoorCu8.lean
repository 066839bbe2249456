
/-
  Cut.
-/
import Derived.Test.YtjjikeehifndhaaDoorCs8
import Derived.Deep.Cut
namespace Go.Proofs.YtjjikeehifndhaaDoor
open Go.RowKit
attribute [local go_sem ↓] Go.wp_at_zero Go.wp_at_succ
namespace TK
def CuP (w : World) (B : List Int) (e : Ending) (w' : World) : Prop := ∃ v, e = .returned (.tuple #[v, .int .i64 (cuE B), .int .i64 (cuA B)]) ∧ w'.ownsRow w.heap.size 63 4 v (cuL B).length (tvs (cuL B)) ∧ Up w w'
theorem cu_bad {w W : World} {B : List Int} {q : Nat} (hl : B.length ≤ 65536) (h : cutF B (B.length + 1) 0 [] = .error q) (u : Up w W) : CuP w B (.returned (.tuple #[.slice none 0 0, .int .i64 21, .int .i64 (q : Int)])) W := by
  have h1 : cuE B = 21 := by unfold cuE; rw [if_neg (by omega), h]
  have h2 : cuA B = (q : Int) := by unfold cuA; rw [if_neg (by omega), h]
  have h3 : cuL B = [] := by unfold cuL; rw [if_neg (by omega), h]
  refine ⟨.slice none 0 0, by rw [h1, h2], ?_, u⟩
  rw [h3]
  exact World.ownsRow_nil _ _ _ _
theorem cu_long {w : World} {B : List Int} (hl : 65536 < B.length) : CuP w B (.returned (.tuple #[.slice none 0 0, .int .i64 20, .int .i64 65536])) w := by
  have h1 : cuE B = 20 := by unfold cuE; rw [if_pos hl]
  have h2 : cuA B = 65536 := by unfold cuA; rw [if_pos hl]
  have h3 : cuL B = [] := by unfold cuL; rw [if_pos hl]
  refine ⟨.slice none 0 0, by rw [h1, h2], ?_, Up.refl _⟩
  rw [h3]
  exact World.ownsRow_nil _ _ _ _
theorem cu_ok {w W : World} {B : List Int} {L : List Tok} {v : Value} {m : Nat} (hl : B.length ≤ 65536) (h : cutF B (B.length + 1) 0 [] = .ok L) (hm : L.length = m) (hr : W.ownsRow w.heap.size 63 4 v m (tvs L)) (u : Up w W) : CuP w B (.returned (.tuple #[v, .int .i64 0, .int .i64 0])) W := by
  have h1 : cuE B = 0 := by unfold cuE; rw [if_neg (by omega), h]
  have h2 : cuA B = 0 := by unfold cuA; rw [if_neg (by omega), h]
  have h3 : cuL B = L := by unfold cuL; rw [if_neg (by omega), h]
  refine ⟨v, by rw [h1, h2], ?_, u⟩
  rw [h3, hm]
  exact hr
set_option maxRecDepth 100000 in
set_option maxHeartbeats 32000000 in
theorem cut_ (vb : Value) (B : List Int) (w : World) (hB : BL w vb B) (hby : Byt B) (her : ER w) : Calls Tryd.prog 11 #[vb] w (CuP w B) := by
  obtain ⟨Post, hPost⟩ : ∃ P : Ending → World → Prop, P = CuP w B := ⟨_, rfl⟩
  rw [← hPost]
  have HPo : Hid (Post = CuP w B) := hPost
  clear hPost
  obtain ⟨iT, hiT, z0, z1, z2⟩ := info_parts infoTok
  have HBY : Hid (Byt B) := hby
  have HER : Hid (ER w) := her
  obtain ⟨a, c, hvb, hcap, hce⟩ := bl_cells hB
  obtain ⟨n, hN⟩ : ∃ n, n = B.length := ⟨_, rfl⟩
  have HN : Hid (n = B.length) := hN
  rw [← hN] at hvb hcap hce
  have HA : Hid (n ≠ 0 → ∃ b o, a = some ⟨b, o, none⟩ ∧ BA w b o B) := fun h0 => by
    obtain ⟨b, o, h1, h2⟩ := hce h0
    exact ⟨b, o, h1, fun W u j hj => h2 W u j (by have := HN.out; omega)⟩
  subst hvb
  clear hB hby her hN hce
  by_cases hbig : 65536 < n
  · have e1 : (65536 : Int) < (n : Int) := by omega
    have HFB : Hid (Post (.returned (.tuple #[.slice none 0 0, .int .i64 20, .int .i64 65536])) w) := by
      rw [HPo.out]
      exact cu_long (by have := HN.out; omega)
    go_enter Tryd.func11, Tryd.ntmps11
    go_wp2_with fail
    try go_step3
    try go_wp2_with fail
    try go_step3
    try go_wp2_with fail
    exact HFB.out
  · have e1 : ¬ (65536 : Int) < (n : Int) := by omega
    have HLN : Hid (B.length ≤ 65536) := by have := HN.out; unfold Hid; omega
    go_enter Tryd.func11, Tryd.ntmps11
    go_wp2_with fail
    try go_step3
    try go_wp2_with fail
    try go_step3
    try go_wp2_with fail
    go_loopw [5, 6] (fun s5 s6 W => ∃ (p m : Nat) (L : List Tok) (ta : Option Addr) (tc : Nat), p ≤ n ∧ s6 = .int .i64 p ∧ s5 = .slice ta m tc ∧ L.length = m ∧ m ≤ p ∧ W.ownsRow w.heap.size 63 4 (.slice ta m tc) m (tvs L) ∧ Up w W ∧ Ct B p L) (fun _ s6 _ => n - (intOf s6).toNat)
    case atStart => exact ⟨0, 0, [], none, 0, Nat.zero_le _, rfl, rfl, rfl, Nat.le_refl _, World.ownsRow_nil _ _ _ _, Up.refl _, ct_start B⟩
    case round =>
      obtain ⟨p, m, L, ta, tc, hp, rfl, rfl, hm, hmp, hrow, hu, hct⟩ := hrel
      have HROW : Hid (wr.ownsRow w.heap.size 63 4 (.slice ta m tc) m (tvs L)) := hrow
      have HU : Hid (Up w wr) := hu
      have HCT : Hid (Ct B p L) := hct
      clear hrow hu hct
      by_cases hlt : p < n
      · have hlt2 : (p : Int) < (n : Int) := by omega
        have HPL : Hid (p < B.length) := by have := HN.out; unfold Hid; omega
        obtain ⟨b, o, rfl, hba⟩ := HA.out (by omega)
        have HBX : Hid (BA wr b o B ∧ B.length ≤ c) := ⟨hba.up HU.out, by have := HN.out; omega⟩
        have x1 := HBX.out.1 wr (Up.refl _) p HPL.out
        have ei : IntKind.i64.wrap ((p : Int) + 1) = ((p + 1 : Nat) : Int) := by rw [IntKind.wrap_i64]; omega
        have HS1 : Hid (clsI (B.getD p 0) = 1 → stp B p = .skip (p + 1)) := stp_1
        have HS2 : Hid (clsI (B.getD p 0) = 2 → stp B p = nme B p) := stp_2
        have HS4 : Hid (clsI (B.getD p 0) = 4 → stp B p = nmb B p ∧ dig (B.getD p 0) = true) := stp_4
        have HS6 : Hid (clsI (B.getD p 0) = 6 → stp B p = tx B p) := stp_6
        have HS7 : Hid (clsI (B.getD p 0) = 7 → stp B p = if decide (p + 1 < n) && B.getD (p + 1) 0 == 47 then .skip (spn nnl B p) else mkk B p) := by rw [HN.out]; exact stp_7
        have HS0 : Hid (clsI (B.getD p 0) ≠ 1 → clsI (B.getD p 0) ≠ 2 → clsI (B.getD p 0) ≠ 4 → clsI (B.getD p 0) ≠ 6 → clsI (B.getD p 0) ≠ 7 → stp B p = mkk B p) := stp_0
        have HCL : Hid (Calls Tryd.prog 27 #[.int .u8 (B.getD p 0)] wr fun e w' => e = .returned (.int .i64 (clsI (B.getD p 0))) ∧ w' = wr) := classOf_ _ wr
        have HRM : Hid (Calls Tryd.prog 28 #[.slice (some ⟨b, o, none⟩) n c, .int .i64 (p : Int)] wr fun e w' => Up wr w' ∧ e = if decide (p + 1 < n) && B.getD (p + 1) 0 == 47 then .returned (.tuple #[.int .i64 (spn nnl B p : Nat), .bool true]) else .returned (.tuple #[.int .i64 0, .bool false])) := by have h9 := remark_ b o c p B wr HBX.out.1 HBX.out.2 HPL.out HLN.out; rw [← HN.out] at h9; exact h9
        clear hba HA
        generalize clsI (B.getD p 0) = k at *
        by_cases k1 : k = 1
        · have HST : Hid (stp B p = .skip (p + 1)) := HS1.out k1
          have HNX : Hid (Ct B (p + 1) L) := HCT.out.skip HPL.out HST.out
          subst k1
          go_wp2_with fail
          refine Calls.mono HCL.out ?_
          rintro r W2 ⟨rfl, hw2⟩
          obtain rfl := hw2.symm
          go_wp2_with fail
          go_roundw
          case rel => exact ⟨p + 1, m, L, ta, tc, by omega, by go_num, rfl, hm, by omega, HROW.out, HU.out, HNX.out⟩
          case measure => simp [intOf]; omega
        · by_cases k7 : k = 7
          · have HST := HS7.out k7
            subst k7
            cases hre : (decide (p + 1 < n) && B.getD (p + 1) 0 == 47) with
            | true =>
              rw [hre] at HST HRM
              have HNX : Hid (Ct B (spn nnl B p) L) := HCT.out.skip HPL.out HST
              have hq := stp_skip HPL.out HST
              rw [← HN.out] at hq
              clear hre HST
              go_wp2_with fail
              refine Calls.mono HCL.out ?_
              rintro r W2 ⟨rfl, hw2⟩
              obtain rfl := hw2.symm
              go_wp2_with fail
              refine Calls.mono HRM.out ?_
              rintro r V1 ⟨u, rfl⟩
              have HU : Hid (Up w V1) := HU.out.trans u
              have HROW : Hid (V1.ownsRow w.heap.size 63 4 (.slice ta m tc) m (tvs L)) := row_up HROW.out u
              clear u
              generalize spn nnl B p = q at *
              go_wp2_with fail
              go_roundw
              case rel => exact ⟨q, m, L, ta, tc, hq.2, by go_num, rfl, hm, by omega, HROW.out, HU.out, HNX.out⟩
              case measure => simp [intOf]; omega
            | false =>
              rw [hre] at HST HRM
              have HST : Hid (stp B p = mkk B p) := HST
              clear hre
              go_wp2_with fail
              refine Calls.mono HCL.out ?_
              rintro r W2 ⟨rfl, hw2⟩
              obtain rfl := hw2.symm
              go_wp2_with fail
              refine Calls.mono HRM.out ?_
              rintro r V0 ⟨u, rfl⟩
              have HU : Hid (Up w V0) := HU.out.trans u
              have HROW : Hid (V0.ownsRow w.heap.size 63 4 (.slice ta m tc) m (tvs L)) := row_up HROW.out u
              have HBX : Hid (BA V0 b o B ∧ B.length ≤ c) := ⟨HBX.out.1.up u, HBX.out.2⟩
              clear u
              have HTK : Hid (Calls Tryd.prog 26 #[.slice (some ⟨b, o, none⟩) n c, .int .i64 (p : Int)] V0 (TkP V0 (mkk B p))) := by have h9 := mark_ b o c p B V0 HBX.out.1 HBX.out.2 HPL.out HLN.out HBY.out; rw [← HN.out] at h9; exact h9
              clear HBX x1
              go_wp2_with fail
              refine Calls.mono HTK.out ?_
              intro r V1 hr
              clear HTK
              cases hX : mkk B p with
              | skip q => rw [hX] at hr; exact hr.elim
              | bad q =>
                rw [hX] at hr HST
                obtain ⟨rfl, u⟩ := hr
                have HE := HCT.out.bad HPL.out HST.out
                have HU : Hid (Up w V1) := HU.out.trans u
                have HFB : Hid (Post (.returned (.tuple #[.slice none 0 0, .int .i64 21, .int .i64 (q : Int)])) (V1.alloc (.cells #[.int .i8 0, .string ⟨#[]⟩, .int .i64 0, .int .i64 0] 63))) := by
                  rw [HPo.out]
                  exact cu_bad HLN.out HE (HU.out.alloc _)
                clear u HE HST hX HROW
                unfold tz
                go_wp2_with fail
                exact HFB.out
              | tok tk q =>
                rw [hX] at hr HST
                obtain ⟨kd, tt, nm, ps⟩ := tk
                obtain ⟨rfl, u⟩ := hr
                obtain ⟨q1, q2, q3⟩ := stp_tok HPL.out HST.out
                obtain rfl : ps = (p : Int) := q3
                have HNX : Hid (Ct B q (L ++ [⟨kd, tt, nm, p⟩])) := HCT.out.tok HPL.out HST.out
                have HU : Hid (Up w V1) := HU.out.trans u
                have HROW : Hid (V1.ownsRow w.heap.size 63 4 (.slice ta m tc) m (tvs L)) := row_up HROW.out u
                rw [← HN.out] at q2
                clear u HST hX
                obtain ⟨V2, hV2⟩ : ∃ V2, V1.alloc (.cells #[.int .i8 kd, .string (strOfNums tt), .int .i64 nm, .int .i64 (p : Int)] 63) = V2 := ⟨_, rfl⟩
                have g2 : V2.heap[V1.heap.size]? = some (.cells #[.int .i8 kd, .string (strOfNums tt), .int .i64 nm, .int .i64 (p : Int)] 63 (0, 0)) := by rw [← hV2]; exact heap_alloc_new _ _
                have HU : Hid (Up w V2) := by rw [← hV2]; exact HU.out.alloc _
                have HROW : Hid (V2.ownsRow w.heap.size 63 4 (.slice ta m tc) m (tvs L)) := by rw [← hV2]; exact World.ownsRow.alloc HROW.out _
                unfold tA sv
                go_upto_region 24 with fail
                try rw [hV2]
                clear hV2
                have HV : Hid ((V2.alloc (.cells #[.int .i8 kd, .string (strOfNums tt), .int .i64 nm, .int .i64 (p : Int)] 63)).ownsRow w.heap.size 63 4 (.slice ta m tc) m (tvs L)) := World.ownsRow.alloc HROW.out _
                have HMW : Hid (∀ q u, [.int .i8 kd, .string (strOfNums tt), .int .i64 nm, .int .i64 (p : Int)][q]? = some u → (V2.alloc (.cells #[.int .i8 kd, .string (strOfNums tt), .int .i64 nm, .int .i64 (p : Int)] 63)).cell? ((⟨V2.heap.size, 0, none⟩ : Addr).add q) = some u) := World.news_of_block (cs := #[.int .i8 kd, .string (strOfNums tt), .int .i64 nm, .int .i64 (p : Int)]) (t := 63) (fr := (0, 0)) (heap_alloc_new V2 _)
                have HSZ : Hid (w.heap.size ≤ (V2.alloc (.cells #[.int .i8 kd, .string (strOfNums tt), .int .i64 nm, .int .i64 (p : Int)] 63)).heap.size) := by
                  have h9 := HU.out.size
                  unfold Hid
                  simp
                  omega
                have HF : Hid (∀ v' V, V.ownsRow w.heap.size 63 4 v' (m + 1) (tvs L ++ [.int .i8 kd, .string (strOfNums tt), .int .i64 nm, .int .i64 (p : Int)]) → (V2.alloc (.cells #[.int .i8 kd, .string (strOfNums tt), .int .i64 nm, .int .i64 (p : Int)] 63)).grownBy V (Value.slice ta m tc).ownBlock → V.ownsRow w.heap.size 63 4 v' (m + 1) (tvs (L ++ [⟨kd, tt, nm, p⟩])) ∧ Up w V) := fun v' V n1 n2 =>
                  ⟨by rw [tvs_app]; exact n1, Below.grown (HU.out.alloc _) n2 (by have := HU.out.size; simp; omega) (fun k9 hk => (World.ownsRow.lt HV.out k9 hk).1)⟩
                go_wp2_with (first | (refine wpList_load_rowG (by rfl) 63 (.tmp 10) (by rfl) V1.heap.size (by rfl) 63 #[.int .i8 kd, .string (strOfNums tt), .int .i64 nm, .int .i64 (p : Int)] (0, 0) _ g2 Tryd.underlying63 (by rfl) infoTs ?_) | (at_builtin; go_loud (refine wpList_append_own _ (by rfl) (.tmp 58) (.tmp 60) 25 (by rfl) w.heap.size 63 iT _ 4 40 Tryd.underlying25 hiT z0 z1 z2 (by rfl) (by decide) (.slice ta m tc) m (tvs L) (by rfl) HV.out ⟨V2.heap.size, 0, none⟩ 1 1 [.int .i8 kd, .string (strOfNums tt), .int .i64 nm, .int .i64 (p : Int)] (by rfl) (by rfl) HMW.out (by simp [Value.oneCell']) (by unfold maxLen; omega) (by omega) HSZ.out ?_; intro v' V hin hg1 _; have HG : Hid (V.ownsRow w.heap.size 63 4 v' (m + 1) (tvs (L ++ [⟨kd, tt, nm, p⟩])) ∧ Up w V) := HF.out v' V hin hg1; obtain ⟨fa, fc, hva⟩ : ∃ a c, v' = Value.slice a (m + 1) c := row_val hin; subst hva; clear hin hg1)))
                go_roundw
                case rel => exact ⟨q, m + 1, L ++ [⟨kd, tt, nm, p⟩], fa, fc, by omega, by go_num, rfl, by rw [List.length_append, hm]; rfl, by omega, HG.out.1, HG.out.2, HNX.out⟩
                case measure => simp [intOf]; omega
          · by_cases k2 : k = 2
            · have HST : Hid (stp B p = nme B p) := HS2.out k2
              subst k2
              go_wp2_with fail
              refine Calls.mono HCL.out ?_
              rintro r W2 ⟨rfl, hw2⟩
              obtain rfl := hw2.symm
              have HTK : Hid (Calls Tryd.prog 29 #[.slice (some ⟨b, o, none⟩) n c, .int .i64 (p : Int)] wr (TkP wr (nme B p))) := by have h9 := name_ b o c p B wr HBX.out.1 HBX.out.2 HPL.out HLN.out; rw [← HN.out] at h9; exact h9
              clear HBX x1
              go_wp2_with fail
              refine Calls.mono HTK.out ?_
              intro r V1 hr
              clear HTK
              cases hX : nme B p with
              | skip q => rw [hX] at hr; exact hr.elim
              | bad q =>
                rw [hX] at hr HST
                obtain ⟨rfl, u⟩ := hr
                have HE := HCT.out.bad HPL.out HST.out
                have HU : Hid (Up w V1) := HU.out.trans u
                have HFB : Hid (Post (.returned (.tuple #[.slice none 0 0, .int .i64 21, .int .i64 (q : Int)])) (V1.alloc (.cells #[.int .i8 0, .string ⟨#[]⟩, .int .i64 0, .int .i64 0] 63))) := by
                  rw [HPo.out]
                  exact cu_bad HLN.out HE (HU.out.alloc _)
                clear u HE HST hX HROW
                unfold tz
                go_wp2_with fail
                exact HFB.out
              | tok tk q =>
                rw [hX] at hr HST
                obtain ⟨kd, tt, nm, ps⟩ := tk
                obtain ⟨rfl, u⟩ := hr
                obtain ⟨q1, q2, q3⟩ := stp_tok HPL.out HST.out
                obtain rfl : ps = (p : Int) := q3
                have HNX : Hid (Ct B q (L ++ [⟨kd, tt, nm, p⟩])) := HCT.out.tok HPL.out HST.out
                have HU : Hid (Up w V1) := HU.out.trans u
                have HROW : Hid (V1.ownsRow w.heap.size 63 4 (.slice ta m tc) m (tvs L)) := row_up HROW.out u
                rw [← HN.out] at q2
                clear u HST hX
                obtain ⟨V2, hV2⟩ : ∃ V2, V1.alloc (.cells #[.int .i8 kd, .string (strOfNums tt), .int .i64 nm, .int .i64 (p : Int)] 63) = V2 := ⟨_, rfl⟩
                have g2 : V2.heap[V1.heap.size]? = some (.cells #[.int .i8 kd, .string (strOfNums tt), .int .i64 nm, .int .i64 (p : Int)] 63 (0, 0)) := by rw [← hV2]; exact heap_alloc_new _ _
                have HU : Hid (Up w V2) := by rw [← hV2]; exact HU.out.alloc _
                have HROW : Hid (V2.ownsRow w.heap.size 63 4 (.slice ta m tc) m (tvs L)) := by rw [← hV2]; exact World.ownsRow.alloc HROW.out _
                unfold tA sv
                go_upto_region 24 with fail
                try rw [hV2]
                clear hV2
                have HV : Hid ((V2.alloc (.cells #[.int .i8 kd, .string (strOfNums tt), .int .i64 nm, .int .i64 (p : Int)] 63)).ownsRow w.heap.size 63 4 (.slice ta m tc) m (tvs L)) := World.ownsRow.alloc HROW.out _
                have HMW : Hid (∀ q u, [.int .i8 kd, .string (strOfNums tt), .int .i64 nm, .int .i64 (p : Int)][q]? = some u → (V2.alloc (.cells #[.int .i8 kd, .string (strOfNums tt), .int .i64 nm, .int .i64 (p : Int)] 63)).cell? ((⟨V2.heap.size, 0, none⟩ : Addr).add q) = some u) := World.news_of_block (cs := #[.int .i8 kd, .string (strOfNums tt), .int .i64 nm, .int .i64 (p : Int)]) (t := 63) (fr := (0, 0)) (heap_alloc_new V2 _)
                have HSZ : Hid (w.heap.size ≤ (V2.alloc (.cells #[.int .i8 kd, .string (strOfNums tt), .int .i64 nm, .int .i64 (p : Int)] 63)).heap.size) := by
                  have h9 := HU.out.size
                  unfold Hid
                  simp
                  omega
                have HF : Hid (∀ v' V, V.ownsRow w.heap.size 63 4 v' (m + 1) (tvs L ++ [.int .i8 kd, .string (strOfNums tt), .int .i64 nm, .int .i64 (p : Int)]) → (V2.alloc (.cells #[.int .i8 kd, .string (strOfNums tt), .int .i64 nm, .int .i64 (p : Int)] 63)).grownBy V (Value.slice ta m tc).ownBlock → V.ownsRow w.heap.size 63 4 v' (m + 1) (tvs (L ++ [⟨kd, tt, nm, p⟩])) ∧ Up w V) := fun v' V n1 n2 =>
                  ⟨by rw [tvs_app]; exact n1, Below.grown (HU.out.alloc _) n2 (by have := HU.out.size; simp; omega) (fun k9 hk => (World.ownsRow.lt HV.out k9 hk).1)⟩
                go_wp2_with (first | (refine wpList_load_rowG (by rfl) 63 (.tmp 10) (by rfl) V1.heap.size (by rfl) 63 #[.int .i8 kd, .string (strOfNums tt), .int .i64 nm, .int .i64 (p : Int)] (0, 0) _ g2 Tryd.underlying63 (by rfl) infoTs ?_) | (at_builtin; go_loud (refine wpList_append_own _ (by rfl) (.tmp 58) (.tmp 60) 25 (by rfl) w.heap.size 63 iT _ 4 40 Tryd.underlying25 hiT z0 z1 z2 (by rfl) (by decide) (.slice ta m tc) m (tvs L) (by rfl) HV.out ⟨V2.heap.size, 0, none⟩ 1 1 [.int .i8 kd, .string (strOfNums tt), .int .i64 nm, .int .i64 (p : Int)] (by rfl) (by rfl) HMW.out (by simp [Value.oneCell']) (by unfold maxLen; omega) (by omega) HSZ.out ?_; intro v' V hin hg1 _; have HG : Hid (V.ownsRow w.heap.size 63 4 v' (m + 1) (tvs (L ++ [⟨kd, tt, nm, p⟩])) ∧ Up w V) := HF.out v' V hin hg1; obtain ⟨fa, fc, hva⟩ : ∃ a c, v' = Value.slice a (m + 1) c := row_val hin; subst hva; clear hin hg1)))
                go_roundw
                case rel => exact ⟨q, m + 1, L ++ [⟨kd, tt, nm, p⟩], fa, fc, by omega, by go_num, rfl, by rw [List.length_append, hm]; rfl, by omega, HG.out.1, HG.out.2, HNX.out⟩
                case measure => simp [intOf]; omega
            · by_cases k4 : k = 4
              · obtain ⟨hst, hdg⟩ := HS4.out k4
                have HST : Hid (stp B p = nmb B p) := hst
                have HTD : Hid (dig (B.getD p 0) = true) := hdg
                clear hst hdg
                subst k4
                go_wp2_with fail
                refine Calls.mono HCL.out ?_
                rintro r W2 ⟨rfl, hw2⟩
                obtain rfl := hw2.symm
                have HTK : Hid (Calls Tryd.prog 30 #[.slice (some ⟨b, o, none⟩) n c, .int .i64 (p : Int)] wr (TkP wr (nmb B p))) := by have h9 := number_ b o c p B wr HBX.out.1 HBX.out.2 HPL.out HLN.out (HER.out.up HU.out) HTD.out; rw [← HN.out] at h9; exact h9
                clear HBX x1
                go_wp2_with fail
                refine Calls.mono HTK.out ?_
                intro r V1 hr
                clear HTK
                cases hX : nmb B p with
                | skip q => rw [hX] at hr; exact hr.elim
                | bad q =>
                  rw [hX] at hr HST
                  obtain ⟨rfl, u⟩ := hr
                  have HE := HCT.out.bad HPL.out HST.out
                  have HU : Hid (Up w V1) := HU.out.trans u
                  have HFB : Hid (Post (.returned (.tuple #[.slice none 0 0, .int .i64 21, .int .i64 (q : Int)])) (V1.alloc (.cells #[.int .i8 0, .string ⟨#[]⟩, .int .i64 0, .int .i64 0] 63))) := by
                    rw [HPo.out]
                    exact cu_bad HLN.out HE (HU.out.alloc _)
                  clear u HE HST hX HROW
                  unfold tz
                  go_wp2_with fail
                  exact HFB.out
                | tok tk q =>
                  rw [hX] at hr HST
                  obtain ⟨kd, tt, nm, ps⟩ := tk
                  obtain ⟨rfl, u⟩ := hr
                  obtain ⟨q1, q2, q3⟩ := stp_tok HPL.out HST.out
                  obtain rfl : ps = (p : Int) := q3
                  have HNX : Hid (Ct B q (L ++ [⟨kd, tt, nm, p⟩])) := HCT.out.tok HPL.out HST.out
                  have HU : Hid (Up w V1) := HU.out.trans u
                  have HROW : Hid (V1.ownsRow w.heap.size 63 4 (.slice ta m tc) m (tvs L)) := row_up HROW.out u
                  rw [← HN.out] at q2
                  clear u HST hX
                  obtain ⟨V2, hV2⟩ : ∃ V2, V1.alloc (.cells #[.int .i8 kd, .string (strOfNums tt), .int .i64 nm, .int .i64 (p : Int)] 63) = V2 := ⟨_, rfl⟩
                  have g2 : V2.heap[V1.heap.size]? = some (.cells #[.int .i8 kd, .string (strOfNums tt), .int .i64 nm, .int .i64 (p : Int)] 63 (0, 0)) := by rw [← hV2]; exact heap_alloc_new _ _
                  have HU : Hid (Up w V2) := by rw [← hV2]; exact HU.out.alloc _
                  have HROW : Hid (V2.ownsRow w.heap.size 63 4 (.slice ta m tc) m (tvs L)) := by rw [← hV2]; exact World.ownsRow.alloc HROW.out _
                  unfold tA sv
                  go_upto_region 24 with fail
                  try rw [hV2]
                  clear hV2
                  have HV : Hid ((V2.alloc (.cells #[.int .i8 kd, .string (strOfNums tt), .int .i64 nm, .int .i64 (p : Int)] 63)).ownsRow w.heap.size 63 4 (.slice ta m tc) m (tvs L)) := World.ownsRow.alloc HROW.out _
                  have HMW : Hid (∀ q u, [.int .i8 kd, .string (strOfNums tt), .int .i64 nm, .int .i64 (p : Int)][q]? = some u → (V2.alloc (.cells #[.int .i8 kd, .string (strOfNums tt), .int .i64 nm, .int .i64 (p : Int)] 63)).cell? ((⟨V2.heap.size, 0, none⟩ : Addr).add q) = some u) := World.news_of_block (cs := #[.int .i8 kd, .string (strOfNums tt), .int .i64 nm, .int .i64 (p : Int)]) (t := 63) (fr := (0, 0)) (heap_alloc_new V2 _)
                  have HSZ : Hid (w.heap.size ≤ (V2.alloc (.cells #[.int .i8 kd, .string (strOfNums tt), .int .i64 nm, .int .i64 (p : Int)] 63)).heap.size) := by
                    have h9 := HU.out.size
                    unfold Hid
                    simp
                    omega
                  have HF : Hid (∀ v' V, V.ownsRow w.heap.size 63 4 v' (m + 1) (tvs L ++ [.int .i8 kd, .string (strOfNums tt), .int .i64 nm, .int .i64 (p : Int)]) → (V2.alloc (.cells #[.int .i8 kd, .string (strOfNums tt), .int .i64 nm, .int .i64 (p : Int)] 63)).grownBy V (Value.slice ta m tc).ownBlock → V.ownsRow w.heap.size 63 4 v' (m + 1) (tvs (L ++ [⟨kd, tt, nm, p⟩])) ∧ Up w V) := fun v' V n1 n2 =>
                    ⟨by rw [tvs_app]; exact n1, Below.grown (HU.out.alloc _) n2 (by have := HU.out.size; simp; omega) (fun k9 hk => (World.ownsRow.lt HV.out k9 hk).1)⟩
                  go_wp2_with (first | (refine wpList_load_rowG (by rfl) 63 (.tmp 10) (by rfl) V1.heap.size (by rfl) 63 #[.int .i8 kd, .string (strOfNums tt), .int .i64 nm, .int .i64 (p : Int)] (0, 0) _ g2 Tryd.underlying63 (by rfl) infoTs ?_) | (at_builtin; go_loud (refine wpList_append_own _ (by rfl) (.tmp 58) (.tmp 60) 25 (by rfl) w.heap.size 63 iT _ 4 40 Tryd.underlying25 hiT z0 z1 z2 (by rfl) (by decide) (.slice ta m tc) m (tvs L) (by rfl) HV.out ⟨V2.heap.size, 0, none⟩ 1 1 [.int .i8 kd, .string (strOfNums tt), .int .i64 nm, .int .i64 (p : Int)] (by rfl) (by rfl) HMW.out (by simp [Value.oneCell']) (by unfold maxLen; omega) (by omega) HSZ.out ?_; intro v' V hin hg1 _; have HG : Hid (V.ownsRow w.heap.size 63 4 v' (m + 1) (tvs (L ++ [⟨kd, tt, nm, p⟩])) ∧ Up w V) := HF.out v' V hin hg1; obtain ⟨fa, fc, hva⟩ : ∃ a c, v' = Value.slice a (m + 1) c := row_val hin; subst hva; clear hin hg1)))
                  go_roundw
                  case rel => exact ⟨q, m + 1, L ++ [⟨kd, tt, nm, p⟩], fa, fc, by omega, by go_num, rfl, by rw [List.length_append, hm]; rfl, by omega, HG.out.1, HG.out.2, HNX.out⟩
                  case measure => simp [intOf]; omega
              · by_cases k6 : k = 6
                · have HST : Hid (stp B p = tx B p) := HS6.out k6
                  subst k6
                  go_wp2_with fail
                  refine Calls.mono HCL.out ?_
                  rintro r W2 ⟨rfl, hw2⟩
                  obtain rfl := hw2.symm
                  have HTK : Hid (Calls Tryd.prog 31 #[.slice (some ⟨b, o, none⟩) n c, .int .i64 (p : Int)] wr (TkP wr (tx B p))) := by have h9 := text_ b o c p B wr HBX.out.1 HBX.out.2 HPL.out HLN.out; rw [← HN.out] at h9; exact h9
                  clear HBX x1
                  go_wp2_with fail
                  refine Calls.mono HTK.out ?_
                  intro r V1 hr
                  clear HTK
                  cases hX : tx B p with
                  | skip q => rw [hX] at hr; exact hr.elim
                  | bad q =>
                    rw [hX] at hr HST
                    obtain ⟨rfl, u⟩ := hr
                    have HE := HCT.out.bad HPL.out HST.out
                    have HU : Hid (Up w V1) := HU.out.trans u
                    have HFB : Hid (Post (.returned (.tuple #[.slice none 0 0, .int .i64 21, .int .i64 (q : Int)])) (V1.alloc (.cells #[.int .i8 0, .string ⟨#[]⟩, .int .i64 0, .int .i64 0] 63))) := by
                      rw [HPo.out]
                      exact cu_bad HLN.out HE (HU.out.alloc _)
                    clear u HE HST hX HROW
                    unfold tz
                    go_wp2_with fail
                    exact HFB.out
                  | tok tk q =>
                    rw [hX] at hr HST
                    obtain ⟨kd, tt, nm, ps⟩ := tk
                    obtain ⟨rfl, u⟩ := hr
                    obtain ⟨q1, q2, q3⟩ := stp_tok HPL.out HST.out
                    obtain rfl : ps = (p : Int) := q3
                    have HNX : Hid (Ct B q (L ++ [⟨kd, tt, nm, p⟩])) := HCT.out.tok HPL.out HST.out
                    have HU : Hid (Up w V1) := HU.out.trans u
                    have HROW : Hid (V1.ownsRow w.heap.size 63 4 (.slice ta m tc) m (tvs L)) := row_up HROW.out u
                    rw [← HN.out] at q2
                    clear u HST hX
                    obtain ⟨V2, hV2⟩ : ∃ V2, V1.alloc (.cells #[.int .i8 kd, .string (strOfNums tt), .int .i64 nm, .int .i64 (p : Int)] 63) = V2 := ⟨_, rfl⟩
                    have g2 : V2.heap[V1.heap.size]? = some (.cells #[.int .i8 kd, .string (strOfNums tt), .int .i64 nm, .int .i64 (p : Int)] 63 (0, 0)) := by rw [← hV2]; exact heap_alloc_new _ _
                    have HU : Hid (Up w V2) := by rw [← hV2]; exact HU.out.alloc _
                    have HROW : Hid (V2.ownsRow w.heap.size 63 4 (.slice ta m tc) m (tvs L)) := by rw [← hV2]; exact World.ownsRow.alloc HROW.out _
                    unfold tA sv
                    go_upto_region 24 with fail
                    try rw [hV2]
                    clear hV2
                    have HV : Hid ((V2.alloc (.cells #[.int .i8 kd, .string (strOfNums tt), .int .i64 nm, .int .i64 (p : Int)] 63)).ownsRow w.heap.size 63 4 (.slice ta m tc) m (tvs L)) := World.ownsRow.alloc HROW.out _
                    have HMW : Hid (∀ q u, [.int .i8 kd, .string (strOfNums tt), .int .i64 nm, .int .i64 (p : Int)][q]? = some u → (V2.alloc (.cells #[.int .i8 kd, .string (strOfNums tt), .int .i64 nm, .int .i64 (p : Int)] 63)).cell? ((⟨V2.heap.size, 0, none⟩ : Addr).add q) = some u) := World.news_of_block (cs := #[.int .i8 kd, .string (strOfNums tt), .int .i64 nm, .int .i64 (p : Int)]) (t := 63) (fr := (0, 0)) (heap_alloc_new V2 _)
                    have HSZ : Hid (w.heap.size ≤ (V2.alloc (.cells #[.int .i8 kd, .string (strOfNums tt), .int .i64 nm, .int .i64 (p : Int)] 63)).heap.size) := by
                      have h9 := HU.out.size
                      unfold Hid
                      simp
                      omega
                    have HF : Hid (∀ v' V, V.ownsRow w.heap.size 63 4 v' (m + 1) (tvs L ++ [.int .i8 kd, .string (strOfNums tt), .int .i64 nm, .int .i64 (p : Int)]) → (V2.alloc (.cells #[.int .i8 kd, .string (strOfNums tt), .int .i64 nm, .int .i64 (p : Int)] 63)).grownBy V (Value.slice ta m tc).ownBlock → V.ownsRow w.heap.size 63 4 v' (m + 1) (tvs (L ++ [⟨kd, tt, nm, p⟩])) ∧ Up w V) := fun v' V n1 n2 =>
                      ⟨by rw [tvs_app]; exact n1, Below.grown (HU.out.alloc _) n2 (by have := HU.out.size; simp; omega) (fun k9 hk => (World.ownsRow.lt HV.out k9 hk).1)⟩
                    go_wp2_with (first | (refine wpList_load_rowG (by rfl) 63 (.tmp 10) (by rfl) V1.heap.size (by rfl) 63 #[.int .i8 kd, .string (strOfNums tt), .int .i64 nm, .int .i64 (p : Int)] (0, 0) _ g2 Tryd.underlying63 (by rfl) infoTs ?_) | (at_builtin; go_loud (refine wpList_append_own _ (by rfl) (.tmp 58) (.tmp 60) 25 (by rfl) w.heap.size 63 iT _ 4 40 Tryd.underlying25 hiT z0 z1 z2 (by rfl) (by decide) (.slice ta m tc) m (tvs L) (by rfl) HV.out ⟨V2.heap.size, 0, none⟩ 1 1 [.int .i8 kd, .string (strOfNums tt), .int .i64 nm, .int .i64 (p : Int)] (by rfl) (by rfl) HMW.out (by simp [Value.oneCell']) (by unfold maxLen; omega) (by omega) HSZ.out ?_; intro v' V hin hg1 _; have HG : Hid (V.ownsRow w.heap.size 63 4 v' (m + 1) (tvs (L ++ [⟨kd, tt, nm, p⟩])) ∧ Up w V) := HF.out v' V hin hg1; obtain ⟨fa, fc, hva⟩ : ∃ a c, v' = Value.slice a (m + 1) c := row_val hin; subst hva; clear hin hg1)))
                    go_roundw
                    case rel => exact ⟨q, m + 1, L ++ [⟨kd, tt, nm, p⟩], fa, fc, by omega, by go_num, rfl, by rw [List.length_append, hm]; rfl, by omega, HG.out.1, HG.out.2, HNX.out⟩
                    case measure => simp [intOf]; omega
                · have HST : Hid (stp B p = mkk B p) := HS0.out k1 k2 k4 k6 k7
                  have t1 : (k == 1) = false := by simpa using k1
                  have t2 : (k == 2) = false := by simpa using k2
                  have t4 : (k == 4) = false := by simpa using k4
                  have t6 : (k == 6) = false := by simpa using k6
                  have t7 : (k == 7) = false := by simpa using k7
                  clear k1 k2 k4 k6 k7
                  go_wp2_with fail
                  refine Calls.mono HCL.out ?_
                  rintro r W2 ⟨rfl, hw2⟩
                  obtain rfl := hw2.symm
                  have HTK : Hid (Calls Tryd.prog 26 #[.slice (some ⟨b, o, none⟩) n c, .int .i64 (p : Int)] wr (TkP wr (mkk B p))) := by have h9 := mark_ b o c p B wr HBX.out.1 HBX.out.2 HPL.out HLN.out HBY.out; rw [← HN.out] at h9; exact h9
                  clear HBX x1
                  go_wp2_with fail
                  refine Calls.mono HTK.out ?_
                  intro r V1 hr
                  clear HTK
                  cases hX : mkk B p with
                  | skip q => rw [hX] at hr; exact hr.elim
                  | bad q =>
                    rw [hX] at hr HST
                    obtain ⟨rfl, u⟩ := hr
                    have HE := HCT.out.bad HPL.out HST.out
                    have HU : Hid (Up w V1) := HU.out.trans u
                    have HFB : Hid (Post (.returned (.tuple #[.slice none 0 0, .int .i64 21, .int .i64 (q : Int)])) (V1.alloc (.cells #[.int .i8 0, .string ⟨#[]⟩, .int .i64 0, .int .i64 0] 63))) := by
                      rw [HPo.out]
                      exact cu_bad HLN.out HE (HU.out.alloc _)
                    clear u HE HST hX HROW
                    unfold tz
                    go_wp2_with fail
                    exact HFB.out
                  | tok tk q =>
                    rw [hX] at hr HST
                    obtain ⟨kd, tt, nm, ps⟩ := tk
                    obtain ⟨rfl, u⟩ := hr
                    obtain ⟨q1, q2, q3⟩ := stp_tok HPL.out HST.out
                    obtain rfl : ps = (p : Int) := q3
                    have HNX : Hid (Ct B q (L ++ [⟨kd, tt, nm, p⟩])) := HCT.out.tok HPL.out HST.out
                    have HU : Hid (Up w V1) := HU.out.trans u
                    have HROW : Hid (V1.ownsRow w.heap.size 63 4 (.slice ta m tc) m (tvs L)) := row_up HROW.out u
                    rw [← HN.out] at q2
                    clear u HST hX
                    obtain ⟨V2, hV2⟩ : ∃ V2, V1.alloc (.cells #[.int .i8 kd, .string (strOfNums tt), .int .i64 nm, .int .i64 (p : Int)] 63) = V2 := ⟨_, rfl⟩
                    have g2 : V2.heap[V1.heap.size]? = some (.cells #[.int .i8 kd, .string (strOfNums tt), .int .i64 nm, .int .i64 (p : Int)] 63 (0, 0)) := by rw [← hV2]; exact heap_alloc_new _ _
                    have HU : Hid (Up w V2) := by rw [← hV2]; exact HU.out.alloc _
                    have HROW : Hid (V2.ownsRow w.heap.size 63 4 (.slice ta m tc) m (tvs L)) := by rw [← hV2]; exact World.ownsRow.alloc HROW.out _
                    unfold tA sv
                    go_upto_region 24 with fail
                    try rw [hV2]
                    clear hV2
                    have HV : Hid ((V2.alloc (.cells #[.int .i8 kd, .string (strOfNums tt), .int .i64 nm, .int .i64 (p : Int)] 63)).ownsRow w.heap.size 63 4 (.slice ta m tc) m (tvs L)) := World.ownsRow.alloc HROW.out _
                    have HMW : Hid (∀ q u, [.int .i8 kd, .string (strOfNums tt), .int .i64 nm, .int .i64 (p : Int)][q]? = some u → (V2.alloc (.cells #[.int .i8 kd, .string (strOfNums tt), .int .i64 nm, .int .i64 (p : Int)] 63)).cell? ((⟨V2.heap.size, 0, none⟩ : Addr).add q) = some u) := World.news_of_block (cs := #[.int .i8 kd, .string (strOfNums tt), .int .i64 nm, .int .i64 (p : Int)]) (t := 63) (fr := (0, 0)) (heap_alloc_new V2 _)
                    have HSZ : Hid (w.heap.size ≤ (V2.alloc (.cells #[.int .i8 kd, .string (strOfNums tt), .int .i64 nm, .int .i64 (p : Int)] 63)).heap.size) := by
                      have h9 := HU.out.size
                      unfold Hid
                      simp
                      omega
                    have HF : Hid (∀ v' V, V.ownsRow w.heap.size 63 4 v' (m + 1) (tvs L ++ [.int .i8 kd, .string (strOfNums tt), .int .i64 nm, .int .i64 (p : Int)]) → (V2.alloc (.cells #[.int .i8 kd, .string (strOfNums tt), .int .i64 nm, .int .i64 (p : Int)] 63)).grownBy V (Value.slice ta m tc).ownBlock → V.ownsRow w.heap.size 63 4 v' (m + 1) (tvs (L ++ [⟨kd, tt, nm, p⟩])) ∧ Up w V) := fun v' V n1 n2 =>
                      ⟨by rw [tvs_app]; exact n1, Below.grown (HU.out.alloc _) n2 (by have := HU.out.size; simp; omega) (fun k9 hk => (World.ownsRow.lt HV.out k9 hk).1)⟩
                    go_wp2_with (first | (refine wpList_load_rowG (by rfl) 63 (.tmp 10) (by rfl) V1.heap.size (by rfl) 63 #[.int .i8 kd, .string (strOfNums tt), .int .i64 nm, .int .i64 (p : Int)] (0, 0) _ g2 Tryd.underlying63 (by rfl) infoTs ?_) | (at_builtin; go_loud (refine wpList_append_own _ (by rfl) (.tmp 58) (.tmp 60) 25 (by rfl) w.heap.size 63 iT _ 4 40 Tryd.underlying25 hiT z0 z1 z2 (by rfl) (by decide) (.slice ta m tc) m (tvs L) (by rfl) HV.out ⟨V2.heap.size, 0, none⟩ 1 1 [.int .i8 kd, .string (strOfNums tt), .int .i64 nm, .int .i64 (p : Int)] (by rfl) (by rfl) HMW.out (by simp [Value.oneCell']) (by unfold maxLen; omega) (by omega) HSZ.out ?_; intro v' V hin hg1 _; have HG : Hid (V.ownsRow w.heap.size 63 4 v' (m + 1) (tvs (L ++ [⟨kd, tt, nm, p⟩])) ∧ Up w V) := HF.out v' V hin hg1; obtain ⟨fa, fc, hva⟩ : ∃ a c, v' = Value.slice a (m + 1) c := row_val hin; subst hva; clear hin hg1)))
                    go_roundw
                    case rel => exact ⟨q, m + 1, L ++ [⟨kd, tt, nm, p⟩], fa, fc, by omega, by go_num, rfl, by rw [List.length_append, hm]; rfl, by omega, HG.out.1, HG.out.2, HNX.out⟩
                    case measure => simp [intOf]; omega
      · have hlt2 : ¬ (p : Int) < (n : Int) := by omega
        have HE : Hid (cutF B (B.length + 1) 0 [] = .ok (L ++ [⟨0, [], 0, n⟩])) := by
          have h9 := HCT.out.fin (by have := HN.out; omega)
          rw [HN.out]
          exact h9
        have HV : Hid ((wr.alloc (.cells #[.int .i8 0, .string ⟨#[]⟩, .int .i64 0, .int .i64 (n : Int)] 63)).ownsRow w.heap.size 63 4 (.slice ta m tc) m (tvs L)) := World.ownsRow.alloc HROW.out _
        have HMW : Hid (∀ q u, [.int .i8 0, .string ⟨#[]⟩, .int .i64 0, .int .i64 (n : Int)][q]? = some u → (wr.alloc (.cells #[.int .i8 0, .string ⟨#[]⟩, .int .i64 0, .int .i64 (n : Int)] 63)).cell? ((⟨wr.heap.size, 0, none⟩ : Addr).add q) = some u) := World.news_of_block (cs := #[.int .i8 0, .string ⟨#[]⟩, .int .i64 0, .int .i64 (n : Int)]) (t := 63) (fr := (0, 0)) (heap_alloc_new wr _)
        have HSZ : Hid (w.heap.size ≤ (wr.alloc (.cells #[.int .i8 0, .string ⟨#[]⟩, .int .i64 0, .int .i64 (n : Int)] 63)).heap.size) := by
          have h9 := HU.out.size
          unfold Hid
          simp
          omega
        have HF : Hid (∀ v' V, V.ownsRow w.heap.size 63 4 v' (m + 1) (tvs L ++ [.int .i8 0, .string ⟨#[]⟩, .int .i64 0, .int .i64 (n : Int)]) → (wr.alloc (.cells #[.int .i8 0, .string ⟨#[]⟩, .int .i64 0, .int .i64 (n : Int)] 63)).grownBy V (Value.slice ta m tc).ownBlock → V.ownsRow w.heap.size 63 4 v' (m + 1) (tvs (L ++ [⟨0, [], 0, n⟩])) ∧ Up w V) := fun v' V n1 n2 =>
          ⟨by rw [tvs_app]; exact n1, Below.grown (HU.out.alloc _) n2 (by have := HU.out.size; simp; omega) (fun k9 hk => (World.ownsRow.lt HV.out k9 hk).1)⟩
        go_wp2_with (first | (at_builtin; go_loud (refine wpList_append_own _ (by rfl) (.tmp 63) (.tmp 67) 25 (by rfl) w.heap.size 63 iT _ 4 40 Tryd.underlying25 hiT z0 z1 z2 (by rfl) (by decide) (.slice ta m tc) m (tvs L) (by rfl) HV.out ⟨wr.heap.size, 0, none⟩ 1 1 [.int .i8 0, .string ⟨#[]⟩, .int .i64 0, .int .i64 (n : Int)] (by rfl) (by rfl) HMW.out (by simp [Value.oneCell']) (by unfold maxLen; omega) (by omega) HSZ.out ?_; intro v' V hin hg1 _; have HG : Hid (V.ownsRow w.heap.size 63 4 v' (m + 1) (tvs (L ++ [⟨0, [], 0, n⟩])) ∧ Up w V) := HF.out v' V hin hg1; obtain ⟨fa, fc, hva⟩ : ∃ a c, v' = Value.slice a (m + 1) c := row_val hin; subst hva; clear hin hg1)))
        rw [HPo.out]
        exact cu_ok HLN.out HE.out (by rw [List.length_append, hm]; rfl) HG.out.1 HG.out.2
end TK
end Go.Proofs.YtjjikeehifndhaaDoor
