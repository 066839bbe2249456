
/-
  TokensStand of no bytes.
-/
import Derived.Test.YtibdnklkcgafkaaDoorTn8
import Derived.Shelf.Bytes.SlSmallAll
namespace Go.Proofs.YtibdnklkcgafkaaDoor
open Go.RowKit
attribute [local go_sem ↓] Go.wp_at_zero Go.wp_at_succ
namespace TK
theorem cut0 : cuE [] = 0 ∧ cuA [] = 0 ∧ cuL [] = [⟨0, [], 0, 0⟩] := by decide +kernel
theorem tex0 : tex ⟨0, [], 0, 0⟩ = [] := tex_end 0
set_option maxRecDepth 100000 in
set_option maxHeartbeats 8000000 in
theorem tstand0 (a : Option Addr) (c : Nat) (hac : a = none → c = 0) (w : World) (hT : TabP w) (her : ER w) :
    Calls Tryd.prog 7 #[.slice a 0 c] w fun e w' => e = .returned (.bool true) ∧ Up w w' := by
  obtain ⟨Post, hPost⟩ : ∃ P : Ending → World → Prop, P = fun e w' => e = .returned (.bool true) ∧ Up w w' := ⟨_, rfl⟩
  rw [← hPost]
  have HPo : Hid (Post = fun e w' => e = .returned (.bool true) ∧ Up w w') := hPost
  clear hPost
  have HER : Hid (∀ W, Up w W → ER W) := fun W u => her.up u
  have HTP : Hid (∀ W, Up w W → TabP W) := fun W u => hT.up u
  have HWK : Hid (∀ W, Up w W → Calls Tryd.prog 19 #[] W fun e w' => e = .returned (.bool true) ∧ Up W w') := fun W hu => works_ W (HER.out W hu)
  have HCP : Hid (∀ W (a : Option Addr) (k : Nat), (a = none → k = 0) → Calls Tryd.prog 16 #[.slice a 0 k] W fun r w' => ∃ u, r = .returned u ∧ BL w' u [] ∧ Up W w') := fun W a k hak => by
    have h9 := copyT_ (.slice a 0 k) [] W ⟨rfl, a, k, rfl, Nat.zero_le _, fun h => absurd rfl h⟩ (fun x hx => by cases hx) (fun cap h => by cases h; exact absurd (hak rfl) (by omega)) (by simp)
    refine h9.mono ?_
    rintro r w' ⟨u, h1, h2, h3⟩
    exact ⟨u, h1, own_bl h2, h3⟩
  have HCT : Hid (∀ v W, Up w W → BL W v [] → Calls Tryd.prog 11 #[v] W fun e w' => ∃ b2 o2 cp, e = .returned (.tuple #[.slice (some ⟨b2, o2, none⟩) 1 cp, .int .i64 0, .int .i64 0]) ∧ (∀ W, Up w' W → W.cell? ⟨b2, o2, none⟩ = some (.int .i8 0) ∧ W.cell? ⟨b2, o2 + 1, none⟩ = some (.string ⟨#[]⟩) ∧ W.cell? ⟨b2, o2 + 2, none⟩ = some (.int .i64 0) ∧ W.cell? ⟨b2, o2 + 3, none⟩ = some (.int .i64 0)) ∧ Up W w') := fun v W hu hb => by
    refine (cut_ v _ W hb (fun x hx => by cases hx) (HER.out W hu)).mono ?_
    rintro e w' ⟨v9, h1, h2, h3⟩
    rw [cut0.2.2] at h2
    rw [cut0.1, cut0.2.1] at h1
    obtain ⟨ad, cp, hv, -, hcell⟩ := tl_at (own_tl h2)
    obtain ⟨b2, o2, hae, hcl⟩ := hcell (by decide)
    subst hae
    subst hv
    refine ⟨b2, o2, cp, h1, fun W9 u9 => ?_, h3⟩
    have h8 := hcl W9 u9 0 (by decide)
    rw [Nat.zero_mul, Nat.add_zero] at h8
    exact h8
  have HTX : Hid (∀ W, Up w W → Calls Tryd.prog 22 #[.agg #[.int .i8 0, .string ⟨#[]⟩, .int .i64 0, .int .i64 0]] W fun e w' => e = .returned (.string ⟨#[]⟩) ∧ Up W w') := fun W hu => by
    have h9 := text8_ 0 [] 0 0 W (fun x hx => by cases hx) (by simp) (by omega) (by omega) (HTP.out W hu)
    rw [tex0] at h9
    exact h9
  have HCV : Hid (∀ W (a : Option Addr) (k : Nat), (convert 22 9 (.slice a 0 k)).run Tryd.prog W = .ok (.string ⟨#[]⟩) W) := fun W a k => run_convert_bytes_zero W 22 5 Tryd.underlying22 Tryd.underlying5 a k 9 Tryd.underlying9
  clear her hT
  go_enter Tryd.func7, Tryd.ntmps7
  go_wp2_with fail
  refine Calls.mono (SM.longB 0 w) ?_
  rintro r W1 ⟨rfl, hw1⟩
  obtain rfl := hw1.symm
  clear hw1
  rw [decide_eq_false (by omega)]
  go_wp2_with fail
  refine Calls.mono (HCP.out w a c hac) ?_
  rintro r W2 ⟨u, rfl, hbl, u2⟩
  have HCU : Hid (Calls Tryd.prog 11 #[u] W2 fun e w' => ∃ b2 o2 cp, e = .returned (.tuple #[.slice (some ⟨b2, o2, none⟩) 1 cp, .int .i64 0, .int .i64 0]) ∧ (∀ W, Up w' W → W.cell? ⟨b2, o2, none⟩ = some (.int .i8 0) ∧ W.cell? ⟨b2, o2 + 1, none⟩ = some (.string ⟨#[]⟩) ∧ W.cell? ⟨b2, o2 + 2, none⟩ = some (.int .i64 0) ∧ W.cell? ⟨b2, o2 + 3, none⟩ = some (.int .i64 0)) ∧ Up W2 w') := HCT.out u W2 u2 hbl
  have HU : Hid (Up w W2) := u2
  clear hbl u2
  go_wp2_with fail
  refine Calls.mono HCU.out ?_
  rintro r W3 ⟨b2, o2, cp, rfl, hcell, u3⟩
  have HU : Hid (Up w W3) := HU.out.trans u3
  have HCE : Hid (∀ W, Up W3 W → W.cell? ⟨b2, o2, none⟩ = some (.int .i8 0) ∧ W.cell? ⟨b2, o2 + 1, none⟩ = some (.string ⟨#[]⟩) ∧ W.cell? ⟨b2, o2 + 2, none⟩ = some (.int .i64 0) ∧ W.cell? ⟨b2, o2 + 3, none⟩ = some (.int .i64 0)) := hcell
  clear u3 HCU hcell
  go_wp2_with fail
  go_loopw [6, 7] (fun s6 s7 W => ∃ i : Nat, i ≤ 1 ∧ s6 = .int .i64 0 ∧ s7 = .int .i64 i ∧ Up W3 W) (fun _ s7 _ => 1 - (intOf s7).toNat)
  case atStart => exact ⟨0, Nat.zero_le _, rfl, rfl, Up.refl _⟩
  case round =>
    obtain ⟨i, hi, rfl, rfl, hu⟩ := hrel
    have HU3 : Hid (Up W3 wr) := hu
    obtain ⟨x0, x1, x2, x3⟩ := HCE.out wr hu
    clear hu
    by_cases hlt : i = 0
    · subst hlt
      obtain ⟨W4, hW4⟩ : ∃ W4, wr.alloc (.cells #[.int .i8 0, .string ⟨#[]⟩, .int .i64 0, .int .i64 0] 63) = W4 := ⟨_, rfl⟩
      have g1 : W4.heap[wr.heap.size]? = some (.cells #[.int .i8 0, .string ⟨#[]⟩, .int .i64 0, .int .i64 0] 63 (0, 0)) := by rw [← hW4]; exact heap_alloc_new _ _
      have HU4 : Hid (Up W3 W4) := by
        unfold Hid
        rw [← hW4]
        exact HU3.out.alloc _
      have HW4 : Hid (wr.alloc (.cells #[.int .i8 0, .string ⟨#[]⟩, .int .i64 0, .int .i64 0] 63) = W4) := hW4
      clear hW4
      go_wp2_with fail
      first | refine calls_world HW4.out (Calls.mono (HTX.out W4 (HU.out.trans HU4.out)) ?_) | refine Calls.mono (HTX.out W4 (HU.out.trans HU4.out)) ?_
      rintro r W5 ⟨rfl, u5⟩
      have HU5 : Hid (Up W3 W5) := HU4.out.trans u5
      have g1 := u5.heap g1
      have y3 : W5.cell? ⟨wr.heap.size, 3, none⟩ = some (.int .i64 0) := by simp only [World.cell?, g1]; rfl
      have hcv := HCV.out W5
      clear u5 HW4 x0 x1 x2 x3 HTX HCV HU4 HU3
      cases a with
      | none =>
        have hc0 := hac rfl
        subst hc0
        go_wp2_with fail
        refine Calls.mono (HCP.out W5 none 0 (fun _ => rfl)) ?_
        rintro r W6 ⟨u9, rfl, hbl9, u6⟩
        have HU6 : Hid (Up W3 W6) := HU5.out.trans u6
        have HQ : Hid (Calls Tryd.prog 11 #[u9] W6 fun e w' => ∃ b2 o2 cp, e = .returned (.tuple #[.slice (some ⟨b2, o2, none⟩) 1 cp, .int .i64 0, .int .i64 0]) ∧ (∀ W, Up w' W → W.cell? ⟨b2, o2, none⟩ = some (.int .i8 0) ∧ W.cell? ⟨b2, o2 + 1, none⟩ = some (.string ⟨#[]⟩) ∧ W.cell? ⟨b2, o2 + 2, none⟩ = some (.int .i64 0) ∧ W.cell? ⟨b2, o2 + 3, none⟩ = some (.int .i64 0)) ∧ Up W6 w') := HCT.out u9 W6 (HU.out.trans HU6.out) hbl9
        have g1 := u6.heap g1
        clear u6 y3 hbl9
        go_wp2_with fail
        refine Calls.mono HQ.out ?_
        rintro r W7 ⟨b9, o9, cp9, rfl, -, u7⟩
        have HU7 : Hid (Up W3 W7) := HU6.out.trans u7
        have g1 := u7.heap g1
        have y3 : W7.cell? ⟨wr.heap.size, 3, none⟩ = some (.int .i64 0) := by simp only [World.cell?, g1]; rfl
        clear u7 g1 HQ
        go_wp2_with fail
        go_roundw
        case rel => exact ⟨1, by omega, rfl, by go_num, HU7.out⟩
        case measure => simp [intOf] <;> omega
      | some a =>
        obtain ⟨b, off, sp⟩ := a
        by_cases hc0 : 0 < c
        · go_wp2_with fail
          refine Calls.mono (HCP.out W5 _ c (fun h => by cases h)) ?_
          rintro r W6 ⟨u9, rfl, hbl9, u6⟩
          have HU6 : Hid (Up W3 W6) := HU5.out.trans u6
          have HQ : Hid (Calls Tryd.prog 11 #[u9] W6 fun e w' => ∃ b2 o2 cp, e = .returned (.tuple #[.slice (some ⟨b2, o2, none⟩) 1 cp, .int .i64 0, .int .i64 0]) ∧ (∀ W, Up w' W → W.cell? ⟨b2, o2, none⟩ = some (.int .i8 0) ∧ W.cell? ⟨b2, o2 + 1, none⟩ = some (.string ⟨#[]⟩) ∧ W.cell? ⟨b2, o2 + 2, none⟩ = some (.int .i64 0) ∧ W.cell? ⟨b2, o2 + 3, none⟩ = some (.int .i64 0)) ∧ Up W6 w') := HCT.out u9 W6 (HU.out.trans HU6.out) hbl9
          have g1 := u6.heap g1
          clear u6 y3 hbl9
          go_wp2_with fail
          refine Calls.mono HQ.out ?_
          rintro r W7 ⟨b9, o9, cp9, rfl, -, u7⟩
          have HU7 : Hid (Up W3 W7) := HU6.out.trans u7
          have g1 := u7.heap g1
          have y3 : W7.cell? ⟨wr.heap.size, 3, none⟩ = some (.int .i64 0) := by simp only [World.cell?, g1]; rfl
          clear u7 g1 HQ
          go_wp2_with fail
          go_roundw
          case rel => exact ⟨1, by omega, rfl, by go_num, HU7.out⟩
          case measure => simp [intOf] <;> omega
        · obtain rfl : c = 0 := by omega
          go_wp2_with fail
          refine Calls.mono (HCP.out W5 _ 0 (fun h => by cases h)) ?_
          rintro r W6 ⟨u9, rfl, hbl9, u6⟩
          have HU6 : Hid (Up W3 W6) := HU5.out.trans u6
          have HQ : Hid (Calls Tryd.prog 11 #[u9] W6 fun e w' => ∃ b2 o2 cp, e = .returned (.tuple #[.slice (some ⟨b2, o2, none⟩) 1 cp, .int .i64 0, .int .i64 0]) ∧ (∀ W, Up w' W → W.cell? ⟨b2, o2, none⟩ = some (.int .i8 0) ∧ W.cell? ⟨b2, o2 + 1, none⟩ = some (.string ⟨#[]⟩) ∧ W.cell? ⟨b2, o2 + 2, none⟩ = some (.int .i64 0) ∧ W.cell? ⟨b2, o2 + 3, none⟩ = some (.int .i64 0)) ∧ Up W6 w') := HCT.out u9 W6 (HU.out.trans HU6.out) hbl9
          have g1 := u6.heap g1
          clear u6 y3 hbl9
          go_wp2_with fail
          refine Calls.mono HQ.out ?_
          rintro r W7 ⟨b9, o9, cp9, rfl, -, u7⟩
          have HU7 : Hid (Up W3 W7) := HU6.out.trans u7
          have g1 := u7.heap g1
          have y3 : W7.cell? ⟨wr.heap.size, 3, none⟩ = some (.int .i64 0) := by simp only [World.cell?, g1]; rfl
          clear u7 g1 HQ
          go_wp2_with fail
          go_roundw
          case rel => exact ⟨1, by omega, rfl, by go_num, HU7.out⟩
          case measure => simp [intOf] <;> omega
    · obtain rfl : i = 1 := by omega
      have hq := tokEq 0 ⟨#[]⟩ 0 0
      go_wp2_with fail
      refine Calls.mono (HWK.out wr (HU.out.trans HU3.out)) ?_
      rintro r W4 ⟨rfl, u4⟩
      go_wp2_with fail
      rw [HPo.out]
      exact ⟨rfl, (HU.out.trans HU3.out).trans u4⟩
theorem tstandA (v : Value) (B : List Int) (w : World) (hv : BL w v B) (hby : Byt B) (hz : ∀ cap, v ≠ .slice none 0 (cap + 1)) (hT : TabP w) (her : ER w) :
    Calls Tryd.prog 7 #[v] w fun e w' => e = .returned (.bool true) ∧ Up w w' := by
  obtain ⟨a, c, rfl, hc, hcell⟩ := bl_cells hv
  by_cases h0 : B.length = 0
  · rw [h0]
    refine tstand0 a c (fun ha => ?_) w hT her
    subst ha
    cases c with
    | zero => rfl
    | succ c => exact absurd (by rw [h0]) (hz c)
  · obtain ⟨b, off, rfl, hba⟩ := hcell h0
    exact tstand b off c B w hba hc hby hT her
end TK
end Go.Proofs.YtibdnklkcgafkaaDoor
