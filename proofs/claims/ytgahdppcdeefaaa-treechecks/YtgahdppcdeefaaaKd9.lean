/-
  The words; lists of words; free names.
-/
import Derived.Test.YtgahdppcdeefaaaKc9
namespace Go.Proofs.Ytgahdppcdeefaaa
open Go.RowKit
attribute [local go_sem ↓] Go.wp_at_zero Go.wp_at_succ
namespace TR
def wordsN : List (List UInt8) := [[99, 97, 114, 100], [99, 111, 115, 116], [112, 111, 119, 101, 114], [104, 101, 97, 108, 116, 104], [116, 97, 103], [111, 110], [119, 104, 101, 110], [108, 101, 116], [105, 102], [101, 108, 115, 101], [114, 101, 112, 101, 97, 116], [97, 115], [101, 97, 99, 104], [105, 110], [99, 104, 111, 111, 115, 101], [115, 116, 111, 112], [97, 98, 111, 114, 116], [116, 114, 117, 101], [102, 97, 108, 115, 101], [115, 101, 108, 102], [109, 101], [100, 101, 99, 107], [104, 97, 110, 100], [98, 111, 97, 114, 100], [103, 114, 97, 118, 101], [112, 108, 97, 121], [100, 105, 101], [104, 105, 116], [116, 117, 114, 110], [100, 114, 97, 119]]
def wd (s : ByteArray) : Bool := wordsN.any fun x => s.toList == x
set_option maxRecDepth 100000 in
set_option maxHeartbeats 8000000 in
theorem rword_ (s : ByteArray) (w : World) : Calls Try.prog 66 #[.string s] w fun e w' => e = .returned (.bool (wd s)) ∧ w' = w := by
  obtain ⟨Post, hPost⟩ : ∃ P : Ending → World → Prop, P = fun e w' => e = .returned (.bool (wd s)) ∧ w' = w := ⟨_, rfl⟩
  rw [← hPost]
  have HT : Hid (wd s = true → Post (.returned (.bool true)) w) := fun h => by rw [hPost, h]; exact ⟨rfl, rfl⟩
  have HF : Hid (wd s = false → Post (.returned (.bool false)) w) := fun h => by rw [hPost, h]; exact ⟨rfl, rfl⟩
  clear hPost
  go_enter Try.func66, Try.ntmps66
  go_wp2_with fail
  all_goals
    first
      | (exfalso; simp_all; done)
      | (refine HT.out ?_; simp only [wd, wordsN, List.any_cons, *, Bool.true_or, Bool.or_true]; done)
      | (refine HF.out ?_; simp only [wd, wordsN, List.any_cons, List.any_nil, *, Bool.or_false]; done)
theorem wd_is {l : List Int} (hl : Byt l) : wd (strOfNums l) = words.contains l := by
  have e : wordsN = words.map fun x => x.map fun n => UInt8.ofNat n.toNat := by decide
  have hw : ∀ x ∈ words, Byt x := by unfold Byt; decide
  unfold wd
  rw [e, Bool.eq_iff_iff, List.any_eq_true, List.contains_iff_mem]
  constructor
  · rintro ⟨x, hx, h⟩
    obtain ⟨y, hy, rfl⟩ := List.mem_map.1 hx
    have h : (strOfNums l).toList = y.map fun n => UInt8.ofNat n.toNat := by simpa using h
    rw [← nums_list] at h
    rw [nums_inj hl (hw y hy) h]
    exact hy
  · intro h
    exact ⟨_, List.mem_map.2 ⟨l, h, rfl⟩, by rw [nums_list]; simp⟩
set_option maxRecDepth 100000 in
set_option maxHeartbeats 8000000 in
theorem index_ (v : Value) (also : List (List Int)) (l : List Int) (w : World) (hv : SS w v also) (hl : Byt l) (ha : ∀ x ∈ also, Byt x) (hn : also.length ≤ 1000) : Calls Try.prog 72 #[v, .string (strOfNums l)] w fun e w' => (∃ k : Int, e = .returned (.int .i64 k) ∧ decide (0 ≤ k) = also.contains l) ∧ w' = w := by
  obtain ⟨Post, hPost⟩ : ∃ P : Ending → World → Prop, P = fun e w' => (∃ k : Int, e = .returned (.int .i64 k) ∧ decide (0 ≤ k) = also.contains l) ∧ w' = w := ⟨_, rfl⟩
  rw [← hPost]
  have HPo : Hid (Post = fun e w' => (∃ k : Int, e = .returned (.int .i64 k) ∧ decide (0 ≤ k) = also.contains l) ∧ w' = w) := hPost
  clear hPost
  obtain ⟨a, c, rfl, hc, hcell⟩ := hv
  obtain ⟨s, hs⟩ : ∃ s, s = strOfNums l := ⟨_, rfl⟩
  obtain ⟨n, hN⟩ : ∃ n, n = also.length := ⟨_, rfl⟩
  have HN : Hid (n = also.length) := hN
  have HC : Hid (∀ i, i < n → ∃ g, a = some ⟨g, 0, none⟩ ∧ ∃ ys, w.cell? ⟨g, i, none⟩ = some (.string ys) ∧ (s.toList = ys.toList ↔ l = also.getD i [])) := fun i hi => by
    obtain ⟨g, h1, h2⟩ := hcell (by omega)
    refine ⟨g, h1, _, h2 i (by omega), ?_⟩
    have hb : Byt (also.getD i []) := ha _ (by rw [List.getD_eq_getElem?_getD, List.getElem?_eq_getElem (by omega)]; exact List.getElem_mem _)
    rw [hs]
    exact ⟨fun h => nums_inj hl hb h, fun h => by rw [h]⟩
  rw [← hs]
  rw [← hN] at hc hn ⊢
  clear hs hN hl ha hcell
  go_enter Try.func72, Try.ntmps72
  go_wp2_with fail
  go_loopw [8] (fun s9 W => ∃ i : Nat, i ≤ n ∧ s9 = .int .i64 i ∧ (also.take i).contains l = false ∧ W = w) (fun s9 _ => n - (intOf s9).toNat)
  case atStart => exact ⟨0, Nat.zero_le _, rfl, rfl, rfl⟩
  case round =>
    obtain ⟨i, hi, rfl, hal, rfl⟩ := hrel
    have HAL : Hid ((also.take i).contains l = false) := hal
    clear hal
    by_cases hlt : i < n
    · have hlt2 : (i : Int) < (n : Int) := by omega
      obtain ⟨g, rfl, ys, x0, hq⟩ := HC.out i hlt
      have ei : IntKind.i64.wrap ((i : Int) + 1) = ((i + 1 : Nat) : Int) := by rw [IntKind.wrap_i64]; omega
      by_cases he : l = also.getD i []
      · have q1 : s.toList = ys.toList := hq.2 he
        have q2 : (s.toList == ys.toList) = true := by rw [q1]; simp
        have HT : Hid (also.contains l = true) := by
          unfold Hid
          rw [List.contains_iff_mem, he, List.getD_eq_getElem?_getD, List.getElem?_eq_getElem (by have := HN.out; omega)]
          exact List.getElem_mem _
        clear hq he
        go_wp2_with fail
        rw [HPo.out]
        exact ⟨⟨(i : Int), rfl, by rw [HT.out]; simp⟩, rfl⟩
      · have q1 : ¬ s.toList = ys.toList := fun h9 => he (hq.1 h9)
        have q2 : (s.toList == ys.toList) = false := by simpa using q1
        have HT : Hid ((also.take (i + 1)).contains l = false) := by
          unfold Hid
          rw [take_snoc (d := []) also i (by have := HN.out; omega), List.contains_append, HAL.out]
          simpa using he
        clear hq he
        go_wp2_with fail
        go_roundw
        case rel => exact ⟨i + 1, by omega, by go_num, HT.out, by first | rfl | trivial⟩
        case measure => simp [intOf]; omega
    · have hlt2 : ¬ (i : Int) < (n : Int) := by omega
      obtain rfl : i = n := by omega
      have HT : Hid (also.contains l = false) := by
        have h9 := HAL.out
        rw [HN.out, List.take_length] at h9
        exact h9
      go_wp2_with fail
      rw [HPo.out]
      exact ⟨⟨-1, rfl, by rw [HT.out]; rfl⟩, rfl⟩
theorem contains_ (v : Value) (also : List (List Int)) (l : List Int) (w : World) (hv : SS w v also) (hl : Byt l) (ha : ∀ x ∈ also, Byt x) (hn : also.length ≤ 1000) : Calls Try.prog 67 #[v, .string (strOfNums l)] w fun e w' => e = .returned (.bool (also.contains l)) ∧ w' = w := by
  have H : Hid (Calls Try.prog 72 #[v, .string (strOfNums l)] w fun e w' => (∃ k : Int, e = .returned (.int .i64 k) ∧ decide (0 ≤ k) = also.contains l) ∧ w' = w) := index_ v also l w hv hl ha hn
  obtain ⟨Post, hPost⟩ : ∃ P : Ending → World → Prop, P = fun e w' => e = .returned (.bool (also.contains l)) ∧ w' = w := ⟨_, rfl⟩
  rw [← hPost]
  have HPo : Hid (Post = fun e w' => e = .returned (.bool (also.contains l)) ∧ w' = w) := hPost
  clear hPost hv hl ha hn
  generalize strOfNums l = s at *
  go_enter Try.func67, Try.ntmps67
  go_wp2_with fail
  refine Calls.mono H.out ?_
  rintro r W1 ⟨⟨k, rfl, hk⟩, hw1⟩
  obtain rfl := hw1.symm
  clear hw1
  have HK : Hid (decide (0 ≤ k) = also.contains l) := hk
  clear hk
  go_wp2_with fail
  rw [HPo.out, ← HK.out]
  exact ⟨rfl, rfl⟩
set_option maxRecDepth 100000 in
set_option maxHeartbeats 8000000 in
theorem free_ (g : Nat) (v : Value) (also : List (List Int)) (l : List Int) (w : World) (hg : w.cell? ⟨g, 0, none⟩ = some v) (hv : SS w v also) (hl : Byt l) (ha : ∀ x ∈ also, Byt x) (hn : also.length ≤ 1000) : Calls Try.prog 65 #[.string (strOfNums l), .pointer (some ⟨g, 0, none⟩)] w fun e w' => e = .returned (.bool ((Tx.free also).ok l)) ∧ w' = w := by
  obtain ⟨Post, hPost⟩ : ∃ P : Ending → World → Prop, P = fun e w' => e = .returned (.bool ((Tx.free also).ok l)) ∧ w' = w := ⟨_, rfl⟩
  rw [← hPost]
  have HPo : Hid (Post = fun e w' => e = .returned (.bool ((Tx.free also).ok l)) ∧ w' = w) := hPost
  clear hPost
  have H1 : Hid (Calls Try.prog 60 #[.string (strOfNums l)] w fun e w' => e = .returned (.bool (isN l)) ∧ w' = w) := isName_ l w hl
  have H2 : Hid (Calls Try.prog 66 #[.string (strOfNums l)] w fun e w' => e = .returned (.bool (words.contains l)) ∧ w' = w) := by
    have h9 := rword_ (strOfNums l) w
    rw [wd_is hl] at h9
    exact h9
  have H3 : Hid (Calls Try.prog 67 #[v, .string (strOfNums l)] w fun e w' => e = .returned (.bool (also.contains l)) ∧ w' = w) := contains_ v also l w hv hl ha hn
  have HE : Hid ((Tx.free also).ok l = (isN l && (!words.contains l || also.contains l))) := rfl
  clear hv hl ha hn
  generalize strOfNums l = s at *
  generalize isN l = b1 at *
  generalize words.contains l = b2 at *
  generalize also.contains l = b3 at *
  cases b1 with
  | false =>
    go_enter Try.func65, Try.ntmps65
    go_wp2_with fail
    refine Calls.mono H1.out ?_
    rintro r W1 ⟨rfl, hw1⟩
    obtain rfl := hw1.symm
    clear hw1
    go_wp2_with fail
    rw [HPo.out, HE.out]
    exact ⟨rfl, rfl⟩
  | true =>
    cases b2 with
    | false =>
      go_enter Try.func65, Try.ntmps65
      go_wp2_with fail
      refine Calls.mono H1.out ?_
      rintro r W1 ⟨rfl, hw1⟩
      obtain rfl := hw1.symm
      clear hw1
      go_wp2_with fail
      refine Calls.mono H2.out ?_
      rintro r W1 ⟨rfl, hw1⟩
      obtain rfl := hw1.symm
      clear hw1
      go_wp2_with fail
      rw [HPo.out, HE.out]
      exact ⟨rfl, rfl⟩
    | true =>
      go_enter Try.func65, Try.ntmps65
      go_wp2_with fail
      refine Calls.mono H1.out ?_
      rintro r W1 ⟨rfl, hw1⟩
      obtain rfl := hw1.symm
      clear hw1
      go_wp2_with fail
      refine Calls.mono H2.out ?_
      rintro r W1 ⟨rfl, hw1⟩
      obtain rfl := hw1.symm
      clear hw1
      go_wp2_with fail
      refine Calls.mono H3.out ?_
      rintro r W1 ⟨rfl, hw1⟩
      obtain rfl := hw1.symm
      clear hw1
      go_wp2_with fail
      rw [HPo.out, HE.out]
      exact ⟨rfl, rfl⟩
end TR
end Go.Proofs.Ytgahdppcdeefaaa
