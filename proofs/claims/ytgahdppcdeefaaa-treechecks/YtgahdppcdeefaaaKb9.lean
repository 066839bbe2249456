/-
  Names, texts, words.
-/
import Derived.Test.YtgahdppcdeefaaaKa9
import Derived.Shelf.Abstract
import Derived.Deep.Cut
namespace Go.Proofs.Ytgahdppcdeefaaa
open Go.RowKit
attribute [local go_sem ↓] Go.wp_at_zero Go.wp_at_succ
namespace TR
def Byt (l : List Int) : Prop := ∀ c ∈ l, 0 ≤ c ∧ c < 256
theorem Byt.at {l : List Int} (h : Byt l) (i : Nat) : 0 ≤ l.getD i 0 ∧ l.getD i 0 < 256 := by
  by_cases hi : i < l.length
  · rw [List.getD_eq_getElem?_getD, List.getElem?_eq_getElem hi]
    exact h _ (List.getElem_mem hi)
  · rw [List.getD_eq_getElem?_getD, List.getElem?_eq_none (by omega)]
    decide
theorem nums_back (s : ByteArray) : strOfNums (s.data.toList.map fun b => (b.toNat : Int)) = s := by
  unfold strOfNums
  rw [List.map_map]
  have h : ((fun n : Int => UInt8.ofNat n.toNat) ∘ fun b : UInt8 => (b.toNat : Int)) = id := by
    funext b
    simp
  rw [h, List.map_id]
theorem byt_nums (s : ByteArray) : Byt (s.data.toList.map fun b => (b.toNat : Int)) := fun c hc => by
  obtain ⟨b, -, rfl⟩ := List.mem_map.1 hc
  have := b.toNat_lt
  omega
theorem nums_at {l : List Int} (hl : Byt l) {i : Nat} (hi : i < l.length) (h : i < (strOfNums l).size) : (((strOfNums l)[i]'h).toNat : Int) = l.getD i 0 := by
  have h1 := hl.at i
  have h3 := strOfNums_data l
  have h2 : (strOfNums l)[i]'h = UInt8.ofNat (l[i]'hi).toNat := by
    have h4 : (strOfNums l)[i]'h = (strOfNums l).data.toList[i]'(by rw [h3]; simpa using hi) := rfl
    rw [h4, List.getElem_of_eq h3]
    simp
  rw [h2, UInt8.toNat_ofNat']
  rw [List.getD_eq_getElem?_getD, List.getElem?_eq_getElem hi] at h1 ⊢
  simp only [Option.getD_some] at h1 ⊢
  omega
theorem nums_list (l : List Int) : (strOfNums l).toList = l.map fun n => UInt8.ofNat n.toNat := by
  rw [ByteArray.toList_eq]
  exact strOfNums_data l
theorem nums_inj {a b : List Int} (ha : Byt a) (hb : Byt b) (h : (strOfNums a).toList = (strOfNums b).toList) : a = b := by
  rw [nums_list, nums_list] at h
  have k : ∀ l : List Int, Byt l → (l.map fun n => UInt8.ofNat n.toNat).map (fun b => (b.toNat : Int)) = l := fun l hl => by
    rw [List.map_map]
    conv => rhs; rw [← List.map_id l]
    refine List.map_congr_left fun c hc => ?_
    have h9 := hl c hc
    simp only [Function.comp, UInt8.toNat_ofNat', id]
    omega
  rw [← k a ha, ← k b hb, h]
theorem nums_nil {l : List Int} : (strOfNums l).toList = [] ↔ l = [] := by
  rw [nums_list]
  simp
theorem take_snoc {A : Type} {d : A} (l : List A) (k : Nat) (h : k < l.length) : l.take (k + 1) = l.take k ++ [l.getD k d] := by
  rw [List.take_add_one, List.getElem?_eq_getElem h, List.getD_eq_getElem?_getD, List.getElem?_eq_getElem h]
  rfl
theorem all_step {l : List Int} {f : Int → Bool} {k : Nat} (h : k < l.length) (ha : (l.take k).all f = true) (hf : f (l.getD k 0) = true) : (l.take (k + 1)).all f = true := by
  rw [take_snoc (d := 0) l k h, List.all_append, ha]
  simpa using hf
theorem all_stop {l : List Int} {f : Int → Bool} {k : Nat} (h : k < l.length) (hf : f (l.getD k 0) = false) : l.all f = false := by
  rw [List.all_eq_false]
  exact ⟨l.getD k 0, by rw [List.getD_eq_getElem?_getD, List.getElem?_eq_getElem h]; exact List.getElem_mem h, by rw [hf]; decide⟩
theorem isSmall_ (c : Int) (w : World) : Calls Try.prog 68 #[.int .u8 c] w fun e w' => e = .returned (.bool (sml c)) ∧ w' = w := by
  go_enter Try.func68, Try.ntmps68
  go_wp2
  all_goals (go_ret; refine ⟨?_, rfl⟩; unfold sml; first | (simp_all; done) | (simp_all; omega))
theorem isGreat_ (c : Int) (w : World) : Calls Try.prog 69 #[.int .u8 c] w fun e w' => e = .returned (.bool (grt c)) ∧ w' = w := by
  go_enter Try.func69, Try.ntmps69
  go_wp2
  all_goals (go_ret; refine ⟨?_, rfl⟩; unfold grt; first | (simp_all; done) | (simp_all; omega))
theorem isDigit_ (c : Int) (w : World) : Calls Try.prog 70 #[.int .u8 c] w fun e w' => e = .returned (.bool (dig c)) ∧ w' = w := by
  go_enter Try.func70, Try.ntmps70
  go_wp2
  all_goals (go_ret; refine ⟨?_, rfl⟩; unfold dig; first | (simp_all; done) | (simp_all; omega))
set_option maxRecDepth 100000 in
set_option maxHeartbeats 8000000 in
theorem isText_ (l : List Int) (w : World) (hl : Byt l) : Calls Try.prog 47 #[.string (strOfNums l)] w fun e w' => e = .returned (.bool (isT l)) ∧ w' = w := by
  obtain ⟨Post, hPost⟩ : ∃ P : Ending → World → Prop, P = fun e w' => e = .returned (.bool (isT l)) ∧ w' = w := ⟨_, rfl⟩
  rw [← hPost]
  have HPo : Hid (Post = fun e w' => e = .returned (.bool (isT l)) ∧ w' = w) := hPost
  clear hPost
  obtain ⟨s, hs⟩ : ∃ s, s = strOfNums l := ⟨_, rfl⟩
  have hsz : s.size = l.length := by rw [hs, strOfNums_size]
  have HBT : Hid (∀ i, i < l.length → ∃ d : Nat, (d : Int) = l.getD i 0 ∧ ∀ h : i < s.size, (s[i]'h).toNat = d) := fun i hi => by
    have h1 := hl.at i
    refine ⟨(l.getD i 0).toNat, by omega, fun h => ?_⟩
    subst hs
    have h2 := nums_at hl hi h
    omega
  rw [← hs]
  obtain ⟨n, hN⟩ : ∃ n, n = l.length := ⟨_, rfl⟩
  have HN : Hid (n = l.length) := hN
  rw [← hN] at hsz HBT
  clear hs hN hl
  by_cases hbig : 64 < n
  · have hb2 : (64 : Int) < (n : Int) := by omega
    have HF : Hid (isT l = false) := by unfold Hid isT; rw [decide_eq_false (by have := HN.out; omega)]; rfl
    go_enter Try.func47, Try.ntmps47
    go_wp2_with fail
    rw [HPo.out, HF.out]
    exact ⟨rfl, rfl⟩
  · have hb2 : ¬ (64 : Int) < (n : Int) := by omega
    have HE : Hid (isT l = l.all pln) := by unfold Hid isT; rw [decide_eq_true (by have := HN.out; omega), Bool.true_and]
    go_enter Try.func47, Try.ntmps47
    go_wp2_with fail
    go_loopw [9] (fun s9 W => ∃ i : Nat, i ≤ n ∧ s9 = .int .i64 i ∧ (l.take i).all pln = true ∧ W = w) (fun s9 _ => n - (intOf s9).toNat)
    case atStart => exact ⟨0, Nat.zero_le _, rfl, rfl, rfl⟩
    case round =>
      obtain ⟨i, hi, rfl, hal, rfl⟩ := hrel
      have HAL : Hid ((l.take i).all pln = true) := hal
      clear hal
      by_cases hlt : i < n
      · have hlt2 : (i : Int) < (n : Int) := by omega
        have hlt3 : i < s.size := by omega
        obtain ⟨d, hd, hx⟩ := HBT.out i hlt
        have ei : IntKind.i64.wrap ((i : Int) + 1) = ((i + 1 : Nat) : Int) := by rw [IntKind.wrap_i64]; omega
        by_cases h1 : (d : Int) < 32
        · have HF : Hid (l.all pln = false) := all_stop (k := i) (by have := HN.out; omega) (by rw [← hd]; unfold pln; rw [decide_eq_false (by omega)]; rfl)
          have h1' : d < 32 := by omega
          clear hd
          go_wp2_with fail
          rw [HPo.out, HE.out, HF.out]
          exact ⟨rfl, rfl⟩
        · have h1' : ¬ d < 32 := by omega
          by_cases h2 : (126 : Int) < (d : Int)
          · have HF : Hid (l.all pln = false) := all_stop (k := i) (by have := HN.out; omega) (by rw [← hd]; unfold pln; rw [decide_eq_false (p := (d : Int) ≤ 126) (by omega)]; simp)
            have h2' : 126 < d := by omega
            clear hd
            go_wp2_with fail
            rw [HPo.out, HE.out, HF.out]
            exact ⟨rfl, rfl⟩
          · have HT : Hid ((l.take (i + 1)).all pln = true) := all_step (by have := HN.out; omega) HAL.out (by rw [← hd]; unfold pln; rw [decide_eq_true (p := (32 : Int) ≤ d) (by omega), decide_eq_true (by omega)]; rfl)
            have h2' : ¬ 126 < d := by omega
            clear hd
            go_wp2_with fail
            go_roundw
            case rel => exact ⟨i + 1, by omega, by go_num, HT.out, by first | rfl | trivial⟩
            case measure => simp [intOf]; omega
      · have hlt2 : ¬ (i : Int) < (n : Int) := by omega
        obtain rfl : i = n := by omega
        have HT : Hid (l.all pln = true) := by
          have h9 := HAL.out
          rw [HN.out, List.take_length] at h9
          exact h9
        go_wp2_with fail
        rw [HPo.out, HE.out, HT.out]
        exact ⟨rfl, rfl⟩
end TR
end Go.Proofs.Ytgahdppcdeefaaa
