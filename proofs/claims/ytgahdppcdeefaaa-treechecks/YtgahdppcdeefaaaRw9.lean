
/-
  The document's words; free names.
-/
import Derived.Test.YtgahdppcdeefaaaRc9
namespace Go.Proofs.Ytgahdppcdeefaaa
open Go.RowKit
attribute [local go_sem ↓] Go.wp_at_zero Go.wp_at_succ
namespace TR
theorem words_row : words.map (fun x => Value.string (strOfNums x)) = (#[.string ⟨#[99, 97, 114, 100]⟩, .string ⟨#[99, 111, 115, 116]⟩, .string ⟨#[112, 111, 119, 101, 114]⟩, .string ⟨#[104, 101, 97, 108, 116, 104]⟩, .string ⟨#[116, 97, 103]⟩, .string ⟨#[111, 110]⟩, .string ⟨#[119, 104, 101, 110]⟩, .string ⟨#[108, 101, 116]⟩, .string ⟨#[105, 102]⟩, .string ⟨#[101, 108, 115, 101]⟩, .string ⟨#[114, 101, 112, 101, 97, 116]⟩, .string ⟨#[97, 115]⟩, .string ⟨#[101, 97, 99, 104]⟩, .string ⟨#[105, 110]⟩, .string ⟨#[99, 104, 111, 111, 115, 101]⟩, .string ⟨#[115, 116, 111, 112]⟩, .string ⟨#[97, 98, 111, 114, 116]⟩, .string ⟨#[116, 114, 117, 101]⟩, .string ⟨#[102, 97, 108, 115, 101]⟩, .string ⟨#[115, 101, 108, 102]⟩, .string ⟨#[109, 101]⟩, .string ⟨#[100, 101, 99, 107]⟩, .string ⟨#[104, 97, 110, 100]⟩, .string ⟨#[98, 111, 97, 114, 100]⟩, .string ⟨#[103, 114, 97, 118, 101]⟩, .string ⟨#[112, 108, 97, 121]⟩, .string ⟨#[100, 105, 101]⟩, .string ⟨#[104, 105, 116]⟩, .string ⟨#[116, 117, 114, 110]⟩, .string ⟨#[100, 114, 97, 119]⟩] : Array Value).toList := by kernel_rfl
set_option maxRecDepth 100000 in
set_option maxHeartbeats 16000000 in
theorem rwords_ (w : World) : Calls Try.prog 71 #[] w fun e w' => e = .returned (.slice (some ⟨w.heap.size, 0, none⟩) 30 30) ∧ w' = w.alloc (.cells #[.string ⟨#[99, 97, 114, 100]⟩, .string ⟨#[99, 111, 115, 116]⟩, .string ⟨#[112, 111, 119, 101, 114]⟩, .string ⟨#[104, 101, 97, 108, 116, 104]⟩, .string ⟨#[116, 97, 103]⟩, .string ⟨#[111, 110]⟩, .string ⟨#[119, 104, 101, 110]⟩, .string ⟨#[108, 101, 116]⟩, .string ⟨#[105, 102]⟩, .string ⟨#[101, 108, 115, 101]⟩, .string ⟨#[114, 101, 112, 101, 97, 116]⟩, .string ⟨#[97, 115]⟩, .string ⟨#[101, 97, 99, 104]⟩, .string ⟨#[105, 110]⟩, .string ⟨#[99, 104, 111, 111, 115, 101]⟩, .string ⟨#[115, 116, 111, 112]⟩, .string ⟨#[97, 98, 111, 114, 116]⟩, .string ⟨#[116, 114, 117, 101]⟩, .string ⟨#[102, 97, 108, 115, 101]⟩, .string ⟨#[115, 101, 108, 102]⟩, .string ⟨#[109, 101]⟩, .string ⟨#[100, 101, 99, 107]⟩, .string ⟨#[104, 97, 110, 100]⟩, .string ⟨#[98, 111, 97, 114, 100]⟩, .string ⟨#[103, 114, 97, 118, 101]⟩, .string ⟨#[112, 108, 97, 121]⟩, .string ⟨#[100, 105, 101]⟩, .string ⟨#[104, 105, 116]⟩, .string ⟨#[116, 117, 114, 110]⟩, .string ⟨#[100, 114, 97, 119]⟩] 9) := by
  go_enter Try.func71, Try.ntmps71
  go_wp2
  go_ret
  exact ⟨rfl, rfl⟩
set_option maxRecDepth 100000 in
set_option maxHeartbeats 16000000 in
theorem dword_ (l : List Int) (w : World) (hl : Byt l) : Calls Try.prog 64 #[.string (strOfNums l)] w fun e w' => e = .returned (.bool (words.contains l)) ∧ Up w w' := by
  obtain ⟨Post, hPost⟩ : ∃ P : Ending → World → Prop, P = fun e w' => e = .returned (.bool (words.contains l)) ∧ Up w w' := ⟨_, rfl⟩
  rw [← hPost]
  have HPo : Hid (Post = fun e w' => e = .returned (.bool (words.contains l)) ∧ Up w w') := hPost
  clear hPost
  obtain ⟨s, hs⟩ : ∃ s, s = strOfNums l := ⟨_, rfl⟩
  have HIF : Hid (∀ i, i < 30 → ((strOfNums (words.getD i [])).toList = s.toList ↔ words.getD i [] = l)) := fun i hi => by
    have hw : ∀ x ∈ words, Byt x := by unfold Byt; decide
    have hm : words.getD i [] ∈ words := by
      rw [List.getD_eq_getElem?_getD, List.getElem?_eq_getElem (show i < words.length from hi)]
      exact List.getElem_mem _
    rw [hs]
    exact ⟨fun h => nums_inj (hw _ hm) hl h, fun h => by rw [h]⟩
  rw [← hs]
  clear hs
  go_enter Try.func64, Try.ntmps64
  go_wp2_with fail
  refine Calls.mono (rwords_ w) ?_
  rintro e w1 ⟨rfl, rfl⟩
  obtain ⟨W1, hW1⟩ : ∃ W1, w.alloc (.cells #[.string ⟨#[99, 97, 114, 100]⟩, .string ⟨#[99, 111, 115, 116]⟩, .string ⟨#[112, 111, 119, 101, 114]⟩, .string ⟨#[104, 101, 97, 108, 116, 104]⟩, .string ⟨#[116, 97, 103]⟩, .string ⟨#[111, 110]⟩, .string ⟨#[119, 104, 101, 110]⟩, .string ⟨#[108, 101, 116]⟩, .string ⟨#[105, 102]⟩, .string ⟨#[101, 108, 115, 101]⟩, .string ⟨#[114, 101, 112, 101, 97, 116]⟩, .string ⟨#[97, 115]⟩, .string ⟨#[101, 97, 99, 104]⟩, .string ⟨#[105, 110]⟩, .string ⟨#[99, 104, 111, 111, 115, 101]⟩, .string ⟨#[115, 116, 111, 112]⟩, .string ⟨#[97, 98, 111, 114, 116]⟩, .string ⟨#[116, 114, 117, 101]⟩, .string ⟨#[102, 97, 108, 115, 101]⟩, .string ⟨#[115, 101, 108, 102]⟩, .string ⟨#[109, 101]⟩, .string ⟨#[100, 101, 99, 107]⟩, .string ⟨#[104, 97, 110, 100]⟩, .string ⟨#[98, 111, 97, 114, 100]⟩, .string ⟨#[103, 114, 97, 118, 101]⟩, .string ⟨#[112, 108, 97, 121]⟩, .string ⟨#[100, 105, 101]⟩, .string ⟨#[104, 105, 116]⟩, .string ⟨#[116, 117, 114, 110]⟩, .string ⟨#[100, 114, 97, 119]⟩] 9) = W1 := ⟨_, rfl⟩
  have hr : W1.heap[w.heap.size]? = some (.cells #[.string ⟨#[99, 97, 114, 100]⟩, .string ⟨#[99, 111, 115, 116]⟩, .string ⟨#[112, 111, 119, 101, 114]⟩, .string ⟨#[104, 101, 97, 108, 116, 104]⟩, .string ⟨#[116, 97, 103]⟩, .string ⟨#[111, 110]⟩, .string ⟨#[119, 104, 101, 110]⟩, .string ⟨#[108, 101, 116]⟩, .string ⟨#[105, 102]⟩, .string ⟨#[101, 108, 115, 101]⟩, .string ⟨#[114, 101, 112, 101, 97, 116]⟩, .string ⟨#[97, 115]⟩, .string ⟨#[101, 97, 99, 104]⟩, .string ⟨#[105, 110]⟩, .string ⟨#[99, 104, 111, 111, 115, 101]⟩, .string ⟨#[115, 116, 111, 112]⟩, .string ⟨#[97, 98, 111, 114, 116]⟩, .string ⟨#[116, 114, 117, 101]⟩, .string ⟨#[102, 97, 108, 115, 101]⟩, .string ⟨#[115, 101, 108, 102]⟩, .string ⟨#[109, 101]⟩, .string ⟨#[100, 101, 99, 107]⟩, .string ⟨#[104, 97, 110, 100]⟩, .string ⟨#[98, 111, 97, 114, 100]⟩, .string ⟨#[103, 114, 97, 118, 101]⟩, .string ⟨#[112, 108, 97, 121]⟩, .string ⟨#[100, 105, 101]⟩, .string ⟨#[104, 105, 116]⟩, .string ⟨#[116, 117, 114, 110]⟩, .string ⟨#[100, 114, 97, 119]⟩] 9 (0, 0)) := by rw [← hW1]; exact heap_alloc_new _ _
  have HU : Hid (Up w W1) := by unfold Hid; rw [← hW1]; exact (Up.refl _).alloc _
  have HC : Hid (∀ i, i < 30 → W1.cell? ⟨w.heap.size, i, none⟩ = some (.string (strOfNums (words.getD i [])))) := fun i hi => by
    simp only [World.cell?, hr]
    rw [← Array.getElem?_toList, ← words_row, List.getElem?_map, List.getD_eq_getElem?_getD, List.getElem?_eq_getElem (show i < words.length from hi)]
    rfl
  rw [hW1]
  obtain ⟨g, hg⟩ : ∃ g, g = w.heap.size := ⟨_, rfl⟩
  rw [← hg] at HC ⊢
  clear hr hW1 hg
  go_wp2_with fail
  go_loopw [4] (fun s4 W => ∃ i : Nat, i ≤ 30 ∧ s4 = .int .i64 i ∧ (∀ j, j < i → words.getD j [] ≠ l) ∧ W = W1) (fun s4 _ => 30 - (intOf s4).toNat)
  case atStart => exact ⟨0, Nat.zero_le _, rfl, fun j hj => by omega, rfl⟩
  case round =>
    obtain ⟨i, hi, rfl, hj, rfl⟩ := hrel
    have HJ : Hid (∀ j, j < i → words.getD j [] ≠ l) := hj
    clear hj
    by_cases hlt : i < 30
    · have hlt2 : (i : Int) < 30 := by omega
      have x1 := HC.out i hlt
      have hif := HIF.out i hlt
      have ei : IntKind.i64.wrap ((i : Int) + 1) = ((i + 1 : Nat) : Int) := by rw [IntKind.wrap_i64]; omega
      by_cases he : words.getD i [] = l
      · have HE : Hid (words.contains l = true) := by
          unfold Hid
          rw [List.contains_iff_mem, ← he, List.getD_eq_getElem?_getD, List.getElem?_eq_getElem (show i < words.length from hlt)]
          exact List.getElem_mem _
        have q := hif.2 he
        generalize strOfNums (words.getD i []) = y at *
        clear hif he
        go_wp2_with fail
        rw [HPo.out, HE.out]
        exact ⟨rfl, HU.out⟩
      · have HS : Hid (∀ j, j < i + 1 → words.getD j [] ≠ l) := fun j hj => by
          by_cases h9 : j = i
          · rw [h9]; exact he
          · exact HJ.out j (by omega)
        have q : ¬ (strOfNums (words.getD i [])).toList = s.toList := fun h9 => he (hif.1 h9)
        have q2 : ((strOfNums (words.getD i [])).toList == s.toList) = false := by simpa using q
        have q3 : ¬ s.toList = (strOfNums (words.getD i [])).toList := fun h9 => q h9.symm
        generalize strOfNums (words.getD i []) = y at *
        clear hif he
        go_wp2_with fail
        go_roundw
        case rel => exact ⟨i + 1, hlt, by go_num, HS.out, by first | rfl | trivial⟩
        case measure => simp [intOf]; omega
    · have hlt2 : ¬ (i : Int) < 30 := by omega
      have HE : Hid (words.contains l = false) := by
        unfold Hid
        rw [Bool.eq_false_iff]
        intro h9
        rw [List.contains_iff_mem] at h9
        obtain ⟨j, hj, h8⟩ := List.getElem_of_mem h9
        have hj30 : j < 30 := hj
        refine HJ.out j (by omega) ?_
        rw [List.getD_eq_getElem?_getD, List.getElem?_eq_getElem hj]
        exact h8
      go_wp2_with fail
      rw [HPo.out, HE.out]
      exact ⟨rfl, HU.out⟩
set_option maxRecDepth 100000 in
set_option maxHeartbeats 16000000 in
theorem dfree_ (l : List Int) (w : World) (hl : Byt l) : Calls Try.prog 56 #[.string (strOfNums l)] w fun e w' => e = .returned (.bool (isN l && !words.contains l)) ∧ Up w w' := by
  obtain ⟨Post, hPost⟩ : ∃ P : Ending → World → Prop, P = fun e w' => e = .returned (.bool (isN l && !words.contains l)) ∧ Up w w' := ⟨_, rfl⟩
  rw [← hPost]
  have HPo : Hid (Post = fun e w' => e = .returned (.bool (isN l && !words.contains l)) ∧ Up w w') := hPost
  clear hPost
  have HN : Hid (Calls Try.prog 57 #[.string (strOfNums l)] w fun e w' => e = .returned (.bool (isN l)) ∧ w' = w) := rname_ l w hl
  have HW : Hid (∀ W, Calls Try.prog 64 #[.string (strOfNums l)] W fun e w' => e = .returned (.bool (words.contains l)) ∧ Up W w') := fun W => dword_ l W hl
  generalize strOfNums l = s at *
  cases hn : isN l with
  | false =>
    rw [hn] at HN HPo
    go_enter Try.func56, Try.ntmps56
    go_wp2_with fail
    refine Calls.mono HN.out ?_
    rintro e w1 ⟨rfl, hw⟩
    obtain rfl := hw.symm
    clear hw
    go_wp2_with fail
    rw [HPo.out]
    exact ⟨rfl, Up.refl _⟩
  | true =>
    rw [hn] at HN HPo
    go_enter Try.func56, Try.ntmps56
    go_wp2_with fail
    refine Calls.mono HN.out ?_
    rintro e w1 ⟨rfl, hw⟩
    obtain rfl := hw.symm
    clear hw
    go_wp2_with fail
    refine Calls.mono (HW.out _) ?_
    rintro e w1 ⟨rfl, u⟩
    go_wp2_with fail
    rw [HPo.out]
    exact ⟨by simp, u⟩
end TR
end Go.Proofs.Ytgahdppcdeefaaa
