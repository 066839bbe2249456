/-
  The document's names and words (for the parser).
-/
import Derived.Test.YtkldllnnocdhbaaGreatDoorPa10
import Derived.Test.YtkldllnnocdhbaaGreatDoorLc
import Derived.Shelf.Abstract
import Derived.Deep.Cut
namespace Go.Proofs.YtkldllnnocdhbaaGreatDoor
open Go.RowKit
attribute [local go_sem ↓] Go.wp_at_zero Go.wp_at_succ
namespace TR
def Byt (l : List Int) : Prop := ∀ c ∈ l, 0 ≤ c ∧ c < 256
theorem Byt.at {l : List Int} (h : Byt l) (i : Nat) : 0 ≤ l.getD i 0 ∧ l.getD i 0 < 256 := by
  by_cases hi : i < l.length
  · rw [List.getD_eq_getElem?_getD, List.getElem?_eq_getElem hi]
    exact h _ (List.getElem_mem hi)
  · rw [List.getD_eq_getElem?_getD, List.getElem?_eq_none (by omega)]
    decide
theorem nums_back (s : ByteArray) : strOfNums (s.data.toList.map fun b => (b.toNat : Int)) = s := by
  unfold strOfNums
  rw [List.map_map]
  have h : ((fun n : Int => UInt8.ofNat n.toNat) ∘ fun b : UInt8 => (b.toNat : Int)) = id := by
    funext b
    simp
  rw [h, List.map_id]
theorem byt_nums (s : ByteArray) : Byt (s.data.toList.map fun b => (b.toNat : Int)) := fun c hc => by
  obtain ⟨b, -, rfl⟩ := List.mem_map.1 hc
  have := b.toNat_lt
  omega
theorem nums_at {l : List Int} (hl : Byt l) {i : Nat} (hi : i < l.length) (h : i < (strOfNums l).size) : (((strOfNums l)[i]'h).toNat : Int) = l.getD i 0 := by
  have h1 := hl.at i
  have h3 := strOfNums_data l
  have h2 : (strOfNums l)[i]'h = UInt8.ofNat (l[i]'hi).toNat := by
    have h4 : (strOfNums l)[i]'h = (strOfNums l).data.toList[i]'(by rw [h3]; simpa using hi) := rfl
    rw [h4, List.getElem_of_eq h3]
    simp
  rw [h2, UInt8.toNat_ofNat']
  rw [List.getD_eq_getElem?_getD, List.getElem?_eq_getElem hi] at h1 ⊢
  simp only [Option.getD_some] at h1 ⊢
  omega
theorem nums_list (l : List Int) : (strOfNums l).toList = l.map fun n => UInt8.ofNat n.toNat := by
  rw [ByteArray.toList_eq]
  exact strOfNums_data l
theorem nums_inj {a b : List Int} (ha : Byt a) (hb : Byt b) (h : (strOfNums a).toList = (strOfNums b).toList) : a = b := by
  rw [nums_list, nums_list] at h
  have k : ∀ l : List Int, Byt l → (l.map fun n => UInt8.ofNat n.toNat).map (fun b => (b.toNat : Int)) = l := fun l hl => by
    rw [List.map_map]
    conv => rhs; rw [← List.map_id l]
    refine List.map_congr_left fun c hc => ?_
    have h9 := hl c hc
    simp only [Function.comp, UInt8.toNat_ofNat', id]
    omega
  rw [← k a ha, ← k b hb, h]
theorem nums_nil {l : List Int} : (strOfNums l).toList = [] ↔ l = [] := by
  rw [nums_list]
  simp
theorem take_snoc {A : Type} {d : A} (l : List A) (k : Nat) (h : k < l.length) : l.take (k + 1) = l.take k ++ [l.getD k d] := by
  rw [List.take_add_one, List.getElem?_eq_getElem h, List.getD_eq_getElem?_getD, List.getElem?_eq_getElem h]
  rfl
theorem all_step {l : List Int} {f : Int → Bool} {k : Nat} (h : k < l.length) (ha : (l.take k).all f = true) (hf : f (l.getD k 0) = true) : (l.take (k + 1)).all f = true := by
  rw [take_snoc (d := 0) l k h, List.all_append, ha]
  simpa using hf
theorem all_stop {l : List Int} {f : Int → Bool} {k : Nat} (h : k < l.length) (hf : f (l.getD k 0) = false) : l.all f = false := by
  rw [List.all_eq_false]
  exact ⟨l.getD k 0, by rw [List.getD_eq_getElem?_getD, List.getElem?_eq_getElem h]; exact List.getElem_mem h, by rw [hf]; decide⟩
set_option maxRecDepth 100000 in
set_option maxHeartbeats 16000000 in
theorem rname_ (l : List Int) (w : World) (hl : Byt l) : Calls Tryz.prog 195 #[.string (strOfNums l)] w fun e w' => e = .returned (.bool (isN l)) ∧ w' = w := by
  obtain ⟨Post, hPost⟩ : ∃ P : Ending → World → Prop, P = fun e w' => e = .returned (.bool (isN l)) ∧ w' = w := ⟨_, rfl⟩
  rw [← hPost]
  have HPo : Hid (Post = fun e w' => e = .returned (.bool (isN l)) ∧ w' = w) := hPost
  clear hPost
  obtain ⟨s, hs⟩ : ∃ s, s = strOfNums l := ⟨_, rfl⟩
  have hsz : s.size = l.length := by rw [hs, strOfNums_size]
  have HBT : Hid (∀ i, i < l.length → ∃ d : Nat, (d : Int) = l.getD i 0 ∧ d < 256 ∧ ∀ h : i < s.size, (s[i]'h).toNat = d) := fun i hi => by
    have h1 := hl.at i
    refine ⟨(l.getD i 0).toNat, by omega, by omega, fun h => ?_⟩
    subst hs
    have h2 := nums_at hl hi h
    omega
  rw [← hs]
  obtain ⟨n, hN⟩ : ∃ n, n = l.length := ⟨_, rfl⟩
  have HN : Hid (n = l.length) := hN
  rw [← hN] at hsz HBT
  clear hs hN hl
  by_cases h0 : n = 0
  · have HF : Hid (isN l = false) := by
      unfold Hid isN
      rw [decide_eq_false (p := l ≠ []) (by have := HN.out; intro h9; exact h9 (List.eq_nil_of_length_eq_zero (by omega)))]
      rfl
    subst h0
    go_enter Tryz.func195, Tryz.ntmps195
    go_wp2_with fail
    rw [HPo.out, HF.out]
    exact ⟨rfl, rfl⟩
  · have hl0 : l ≠ [] := by have := HN.out; rintro rfl; exact h0 (by simpa using this)
    have h1n : ¬ n < 1 := by omega
    have h1i : ¬ (n : Int) < 1 := by omega
    have h1z : ¬ n = 0 := h0
    by_cases hbig : 32 < n
    · have hb2 : (32 : Int) < (n : Int) := by omega
      have HF : Hid (isN l = false) := by unfold Hid isN; rw [decide_eq_false (p := l.length ≤ 32) (by have := HN.out; omega)]; simp
      clear hl0
      go_enter Tryz.func195, Tryz.ntmps195
      go_wp2_with fail
      rw [HPo.out, HF.out]
      exact ⟨rfl, rfl⟩
    · have hb2 : ¬ (32 : Int) < (n : Int) := by omega
      have HE0 : Hid (isN l = (sml (l.getD 0 0) && l.all prt)) := by unfold Hid isN; rw [decide_eq_true hl0, decide_eq_true (by have := HN.out; omega), Bool.true_and, Bool.true_and]
      obtain ⟨d0, hd0, hdb0, hx0⟩ := HBT.out 0 (by omega)
      have hs0 : 0 < s.size := by omega
      rw [← hd0] at HE0
      clear hl0 hd0 hdb0
      by_cases a1 : d0 < 97
      · have HF : Hid (isN l = false) := by unfold Hid; rw [HE0.out]; unfold sml; rw [decide_eq_false (p := (97 : Int) ≤ d0) (by omega)]; rfl
        go_enter Tryz.func195, Tryz.ntmps195
        go_wp2_with fail
        rw [HPo.out, HF.out]
        exact ⟨rfl, rfl⟩
      · by_cases a2 : 122 < d0
        · have HF : Hid (isN l = false) := by unfold Hid; rw [HE0.out]; unfold sml; rw [decide_eq_false (p := (d0 : Int) ≤ 122) (by omega)]; simp
          go_enter Tryz.func195, Tryz.ntmps195
          go_wp2_with fail
          rw [HPo.out, HF.out]
          exact ⟨rfl, rfl⟩
        · have HE : Hid (isN l = l.all prt) := by unfold Hid; rw [HE0.out]; unfold sml; rw [decide_eq_true (p := (97 : Int) ≤ d0) (by omega), decide_eq_true (by omega)]; rfl
          clear HE0
          go_enter Tryz.func195, Tryz.ntmps195
          go_wp2_with fail
          clear hx0 hs0 a1 a2
          go_loopw [3] (fun s3 W => ∃ i : Nat, i ≤ n ∧ s3 = .int .i64 i ∧ (l.take i).all prt = true ∧ W = w) (fun s3 _ => n - (intOf s3).toNat)
          case atStart => exact ⟨0, Nat.zero_le _, rfl, rfl, rfl⟩
          case round =>
            obtain ⟨i, hi, rfl, hal, rfl⟩ := hrel
            have HAL : Hid ((l.take i).all prt = true) := hal
            clear hal
            by_cases hlt : i < n
            · have hlt2 : (i : Int) < (n : Int) := by omega
              have hlt3 : i < s.size := by omega
              obtain ⟨d, hd, hdb, hx⟩ := HBT.out i hlt
              have ei : IntKind.i64.wrap ((i : Int) + 1) = ((i + 1 : Nat) : Int) := by rw [IntKind.wrap_i64]; omega
              rcases (by omega : (0 ≤ d ∧ d ≤ 47) ∨ (48 ≤ d ∧ d ≤ 57) ∨ (58 ≤ d ∧ d ≤ 64) ∨ (65 ≤ d ∧ d ≤ 90) ∨ (91 ≤ d ∧ d ≤ 94) ∨ (95 ≤ d ∧ d ≤ 95) ∨ (96 ≤ d ∧ d ≤ 96) ∨ (97 ≤ d ∧ d ≤ 122) ∨ (123 ≤ d ∧ d ≤ 255)) with ⟨r1, r2⟩ | ⟨r1, r2⟩ | ⟨r1, r2⟩ | ⟨r1, r2⟩ | ⟨r1, r2⟩ | ⟨r1, r2⟩ | ⟨r1, r2⟩ | ⟨r1, r2⟩ | ⟨r1, r2⟩
              · have q0 : ¬ 97 ≤ d := by omega
                have p0 : ¬ (97 : Int) ≤ (d : Int) := by omega
                have q1 : d ≤ 122 := by omega
                have p1 : (d : Int) ≤ 122 := by omega
                have q2 : ¬ 65 ≤ d := by omega
                have p2 : ¬ (65 : Int) ≤ (d : Int) := by omega
                have q3 : d ≤ 90 := by omega
                have p3 : (d : Int) ≤ 90 := by omega
                have q4 : ¬ 48 ≤ d := by omega
                have p4 : ¬ (48 : Int) ≤ (d : Int) := by omega
                have q5 : d ≤ 57 := by omega
                have p5 : (d : Int) ≤ 57 := by omega
                have q6 : ¬ d = 95 := by omega
                have p6 : ((d : Int) == 95) = false := by simp; omega
                have hp : prt (d : Int) = false := by unfold prt sml grt dig; simp; omega
                have HF : Hid (l.all prt = false) := all_stop (k := i) (by have := HN.out; omega) (by rw [← hd]; exact hp)
                clear hd hp hdb
                go_wp2_with fail
                rw [HPo.out, HE.out, HF.out]
                exact ⟨by simp, rfl⟩
              · have q0 : ¬ 97 ≤ d := by omega
                have p0 : ¬ (97 : Int) ≤ (d : Int) := by omega
                have q1 : d ≤ 122 := by omega
                have p1 : (d : Int) ≤ 122 := by omega
                have q2 : ¬ 65 ≤ d := by omega
                have p2 : ¬ (65 : Int) ≤ (d : Int) := by omega
                have q3 : d ≤ 90 := by omega
                have p3 : (d : Int) ≤ 90 := by omega
                have q4 : 48 ≤ d := by omega
                have p4 : (48 : Int) ≤ (d : Int) := by omega
                have q5 : d ≤ 57 := by omega
                have p5 : (d : Int) ≤ 57 := by omega
                have q6 : ¬ d = 95 := by omega
                have p6 : ((d : Int) == 95) = false := by simp; omega
                have hp : prt (d : Int) = true := by unfold prt sml grt dig; simp; omega
                have HT : Hid ((l.take (i + 1)).all prt = true) := all_step (by have := HN.out; omega) HAL.out (by rw [← hd]; exact hp)
                clear hd hp hdb
                go_wp2_with fail
                go_roundw
                case rel => exact ⟨i + 1, by omega, by go_num, HT.out, by first | rfl | trivial⟩
                case measure => simp [intOf]; omega
              · have q0 : ¬ 97 ≤ d := by omega
                have p0 : ¬ (97 : Int) ≤ (d : Int) := by omega
                have q1 : d ≤ 122 := by omega
                have p1 : (d : Int) ≤ 122 := by omega
                have q2 : ¬ 65 ≤ d := by omega
                have p2 : ¬ (65 : Int) ≤ (d : Int) := by omega
                have q3 : d ≤ 90 := by omega
                have p3 : (d : Int) ≤ 90 := by omega
                have q4 : 48 ≤ d := by omega
                have p4 : (48 : Int) ≤ (d : Int) := by omega
                have q5 : ¬ d ≤ 57 := by omega
                have p5 : ¬ (d : Int) ≤ 57 := by omega
                have q6 : ¬ d = 95 := by omega
                have p6 : ((d : Int) == 95) = false := by simp; omega
                have hp : prt (d : Int) = false := by unfold prt sml grt dig; simp; omega
                have HF : Hid (l.all prt = false) := all_stop (k := i) (by have := HN.out; omega) (by rw [← hd]; exact hp)
                clear hd hp hdb
                go_wp2_with fail
                rw [HPo.out, HE.out, HF.out]
                exact ⟨by simp, rfl⟩
              · have q0 : ¬ 97 ≤ d := by omega
                have p0 : ¬ (97 : Int) ≤ (d : Int) := by omega
                have q1 : d ≤ 122 := by omega
                have p1 : (d : Int) ≤ 122 := by omega
                have q2 : 65 ≤ d := by omega
                have p2 : (65 : Int) ≤ (d : Int) := by omega
                have q3 : d ≤ 90 := by omega
                have p3 : (d : Int) ≤ 90 := by omega
                have q4 : 48 ≤ d := by omega
                have p4 : (48 : Int) ≤ (d : Int) := by omega
                have q5 : ¬ d ≤ 57 := by omega
                have p5 : ¬ (d : Int) ≤ 57 := by omega
                have q6 : ¬ d = 95 := by omega
                have p6 : ((d : Int) == 95) = false := by simp; omega
                have hp : prt (d : Int) = true := by unfold prt sml grt dig; simp; omega
                have HT : Hid ((l.take (i + 1)).all prt = true) := all_step (by have := HN.out; omega) HAL.out (by rw [← hd]; exact hp)
                clear hd hp hdb
                go_wp2_with fail
                go_roundw
                case rel => exact ⟨i + 1, by omega, by go_num, HT.out, by first | rfl | trivial⟩
                case measure => simp [intOf]; omega
              · have q0 : ¬ 97 ≤ d := by omega
                have p0 : ¬ (97 : Int) ≤ (d : Int) := by omega
                have q1 : d ≤ 122 := by omega
                have p1 : (d : Int) ≤ 122 := by omega
                have q2 : 65 ≤ d := by omega
                have p2 : (65 : Int) ≤ (d : Int) := by omega
                have q3 : ¬ d ≤ 90 := by omega
                have p3 : ¬ (d : Int) ≤ 90 := by omega
                have q4 : 48 ≤ d := by omega
                have p4 : (48 : Int) ≤ (d : Int) := by omega
                have q5 : ¬ d ≤ 57 := by omega
                have p5 : ¬ (d : Int) ≤ 57 := by omega
                have q6 : ¬ d = 95 := by omega
                have p6 : ((d : Int) == 95) = false := by simp; omega
                have hp : prt (d : Int) = false := by unfold prt sml grt dig; simp; omega
                have HF : Hid (l.all prt = false) := all_stop (k := i) (by have := HN.out; omega) (by rw [← hd]; exact hp)
                clear hd hp hdb
                go_wp2_with fail
                rw [HPo.out, HE.out, HF.out]
                exact ⟨by simp, rfl⟩
              · have q0 : ¬ 97 ≤ d := by omega
                have p0 : ¬ (97 : Int) ≤ (d : Int) := by omega
                have q1 : d ≤ 122 := by omega
                have p1 : (d : Int) ≤ 122 := by omega
                have q2 : 65 ≤ d := by omega
                have p2 : (65 : Int) ≤ (d : Int) := by omega
                have q3 : ¬ d ≤ 90 := by omega
                have p3 : ¬ (d : Int) ≤ 90 := by omega
                have q4 : 48 ≤ d := by omega
                have p4 : (48 : Int) ≤ (d : Int) := by omega
                have q5 : ¬ d ≤ 57 := by omega
                have p5 : ¬ (d : Int) ≤ 57 := by omega
                have q6 : d = 95 := by omega
                have p6 : ((d : Int) == 95) = true := by simp; omega
                have hp : prt (d : Int) = true := by unfold prt sml grt dig; simp; omega
                have HT : Hid ((l.take (i + 1)).all prt = true) := all_step (by have := HN.out; omega) HAL.out (by rw [← hd]; exact hp)
                clear hd hp hdb
                go_wp2_with fail
                go_roundw
                case rel => exact ⟨i + 1, by omega, by go_num, HT.out, by first | rfl | trivial⟩
                case measure => simp [intOf]; omega
              · have q0 : ¬ 97 ≤ d := by omega
                have p0 : ¬ (97 : Int) ≤ (d : Int) := by omega
                have q1 : d ≤ 122 := by omega
                have p1 : (d : Int) ≤ 122 := by omega
                have q2 : 65 ≤ d := by omega
                have p2 : (65 : Int) ≤ (d : Int) := by omega
                have q3 : ¬ d ≤ 90 := by omega
                have p3 : ¬ (d : Int) ≤ 90 := by omega
                have q4 : 48 ≤ d := by omega
                have p4 : (48 : Int) ≤ (d : Int) := by omega
                have q5 : ¬ d ≤ 57 := by omega
                have p5 : ¬ (d : Int) ≤ 57 := by omega
                have q6 : ¬ d = 95 := by omega
                have p6 : ((d : Int) == 95) = false := by simp; omega
                have hp : prt (d : Int) = false := by unfold prt sml grt dig; simp; omega
                have HF : Hid (l.all prt = false) := all_stop (k := i) (by have := HN.out; omega) (by rw [← hd]; exact hp)
                clear hd hp hdb
                go_wp2_with fail
                rw [HPo.out, HE.out, HF.out]
                exact ⟨by simp, rfl⟩
              · have q0 : 97 ≤ d := by omega
                have p0 : (97 : Int) ≤ (d : Int) := by omega
                have q1 : d ≤ 122 := by omega
                have p1 : (d : Int) ≤ 122 := by omega
                have q2 : 65 ≤ d := by omega
                have p2 : (65 : Int) ≤ (d : Int) := by omega
                have q3 : ¬ d ≤ 90 := by omega
                have p3 : ¬ (d : Int) ≤ 90 := by omega
                have q4 : 48 ≤ d := by omega
                have p4 : (48 : Int) ≤ (d : Int) := by omega
                have q5 : ¬ d ≤ 57 := by omega
                have p5 : ¬ (d : Int) ≤ 57 := by omega
                have q6 : ¬ d = 95 := by omega
                have p6 : ((d : Int) == 95) = false := by simp; omega
                have hp : prt (d : Int) = true := by unfold prt sml grt dig; simp; omega
                have HT : Hid ((l.take (i + 1)).all prt = true) := all_step (by have := HN.out; omega) HAL.out (by rw [← hd]; exact hp)
                clear hd hp hdb
                go_wp2_with fail
                go_roundw
                case rel => exact ⟨i + 1, by omega, by go_num, HT.out, by first | rfl | trivial⟩
                case measure => simp [intOf]; omega
              · have q0 : 97 ≤ d := by omega
                have p0 : (97 : Int) ≤ (d : Int) := by omega
                have q1 : ¬ d ≤ 122 := by omega
                have p1 : ¬ (d : Int) ≤ 122 := by omega
                have q2 : 65 ≤ d := by omega
                have p2 : (65 : Int) ≤ (d : Int) := by omega
                have q3 : ¬ d ≤ 90 := by omega
                have p3 : ¬ (d : Int) ≤ 90 := by omega
                have q4 : 48 ≤ d := by omega
                have p4 : (48 : Int) ≤ (d : Int) := by omega
                have q5 : ¬ d ≤ 57 := by omega
                have p5 : ¬ (d : Int) ≤ 57 := by omega
                have q6 : ¬ d = 95 := by omega
                have p6 : ((d : Int) == 95) = false := by simp; omega
                have hp : prt (d : Int) = false := by unfold prt sml grt dig; simp; omega
                have HF : Hid (l.all prt = false) := all_stop (k := i) (by have := HN.out; omega) (by rw [← hd]; exact hp)
                clear hd hp hdb
                go_wp2_with fail
                rw [HPo.out, HE.out, HF.out]
                exact ⟨by simp, rfl⟩
            · have hlt2 : ¬ (i : Int) < (n : Int) := by omega
              obtain rfl : i = n := by omega
              have HT : Hid (l.all prt = true) := by
                have h9 := HAL.out
                rw [HN.out, List.take_length] at h9
                exact h9
              go_wp2_with fail
              rw [HPo.out, HE.out, HT.out]
              exact ⟨rfl, rfl⟩
theorem words_row : words.map (fun x => Value.string (strOfNums x)) = (#[.string ⟨#[99, 97, 114, 100]⟩, .string ⟨#[99, 111, 115, 116]⟩, .string ⟨#[112, 111, 119, 101, 114]⟩, .string ⟨#[104, 101, 97, 108, 116, 104]⟩, .string ⟨#[116, 97, 103]⟩, .string ⟨#[111, 110]⟩, .string ⟨#[119, 104, 101, 110]⟩, .string ⟨#[108, 101, 116]⟩, .string ⟨#[105, 102]⟩, .string ⟨#[101, 108, 115, 101]⟩, .string ⟨#[114, 101, 112, 101, 97, 116]⟩, .string ⟨#[97, 115]⟩, .string ⟨#[101, 97, 99, 104]⟩, .string ⟨#[105, 110]⟩, .string ⟨#[99, 104, 111, 111, 115, 101]⟩, .string ⟨#[115, 116, 111, 112]⟩, .string ⟨#[97, 98, 111, 114, 116]⟩, .string ⟨#[116, 114, 117, 101]⟩, .string ⟨#[102, 97, 108, 115, 101]⟩, .string ⟨#[115, 101, 108, 102]⟩, .string ⟨#[109, 101]⟩, .string ⟨#[100, 101, 99, 107]⟩, .string ⟨#[104, 97, 110, 100]⟩, .string ⟨#[98, 111, 97, 114, 100]⟩, .string ⟨#[103, 114, 97, 118, 101]⟩, .string ⟨#[112, 108, 97, 121]⟩, .string ⟨#[100, 105, 101]⟩, .string ⟨#[104, 105, 116]⟩, .string ⟨#[116, 117, 114, 110]⟩, .string ⟨#[100, 114, 97, 119]⟩] : Array Value).toList := by kernel_rfl
set_option maxRecDepth 100000 in
set_option maxHeartbeats 16000000 in
theorem rwords_ (w : World) : Calls Tryz.prog 201 #[] w fun e w' => e = .returned (.slice (some ⟨w.heap.size, 0, none⟩) 30 30) ∧ w' = w.alloc (.cells #[.string ⟨#[99, 97, 114, 100]⟩, .string ⟨#[99, 111, 115, 116]⟩, .string ⟨#[112, 111, 119, 101, 114]⟩, .string ⟨#[104, 101, 97, 108, 116, 104]⟩, .string ⟨#[116, 97, 103]⟩, .string ⟨#[111, 110]⟩, .string ⟨#[119, 104, 101, 110]⟩, .string ⟨#[108, 101, 116]⟩, .string ⟨#[105, 102]⟩, .string ⟨#[101, 108, 115, 101]⟩, .string ⟨#[114, 101, 112, 101, 97, 116]⟩, .string ⟨#[97, 115]⟩, .string ⟨#[101, 97, 99, 104]⟩, .string ⟨#[105, 110]⟩, .string ⟨#[99, 104, 111, 111, 115, 101]⟩, .string ⟨#[115, 116, 111, 112]⟩, .string ⟨#[97, 98, 111, 114, 116]⟩, .string ⟨#[116, 114, 117, 101]⟩, .string ⟨#[102, 97, 108, 115, 101]⟩, .string ⟨#[115, 101, 108, 102]⟩, .string ⟨#[109, 101]⟩, .string ⟨#[100, 101, 99, 107]⟩, .string ⟨#[104, 97, 110, 100]⟩, .string ⟨#[98, 111, 97, 114, 100]⟩, .string ⟨#[103, 114, 97, 118, 101]⟩, .string ⟨#[112, 108, 97, 121]⟩, .string ⟨#[100, 105, 101]⟩, .string ⟨#[104, 105, 116]⟩, .string ⟨#[116, 117, 114, 110]⟩, .string ⟨#[100, 114, 97, 119]⟩] 9) := by
  go_enter Tryz.func201, Tryz.ntmps201
  go_wp2
  go_ret
  exact ⟨rfl, rfl⟩
set_option maxRecDepth 100000 in
set_option maxHeartbeats 16000000 in
theorem dword_ (l : List Int) (w : World) (hl : Byt l) : Calls Tryz.prog 196 #[.string (strOfNums l)] w fun e w' => e = .returned (.bool (words.contains l)) ∧ Up w w' := by
  obtain ⟨Post, hPost⟩ : ∃ P : Ending → World → Prop, P = fun e w' => e = .returned (.bool (words.contains l)) ∧ Up w w' := ⟨_, rfl⟩
  rw [← hPost]
  have HPo : Hid (Post = fun e w' => e = .returned (.bool (words.contains l)) ∧ Up w w') := hPost
  clear hPost
  obtain ⟨s, hs⟩ : ∃ s, s = strOfNums l := ⟨_, rfl⟩
  have HIF : Hid (∀ i, i < 30 → ((strOfNums (words.getD i [])).toList = s.toList ↔ words.getD i [] = l)) := fun i hi => by
    have hw : ∀ x ∈ words, Byt x := by unfold Byt; decide
    have hm : words.getD i [] ∈ words := by
      rw [List.getD_eq_getElem?_getD, List.getElem?_eq_getElem (show i < words.length from hi)]
      exact List.getElem_mem _
    rw [hs]
    exact ⟨fun h => nums_inj (hw _ hm) hl h, fun h => by rw [h]⟩
  rw [← hs]
  clear hs
  go_enter Tryz.func196, Tryz.ntmps196
  go_wp2_with fail
  refine Calls.mono (rwords_ w) ?_
  rintro e w1 ⟨rfl, rfl⟩
  obtain ⟨W1, hW1⟩ : ∃ W1, w.alloc (.cells #[.string ⟨#[99, 97, 114, 100]⟩, .string ⟨#[99, 111, 115, 116]⟩, .string ⟨#[112, 111, 119, 101, 114]⟩, .string ⟨#[104, 101, 97, 108, 116, 104]⟩, .string ⟨#[116, 97, 103]⟩, .string ⟨#[111, 110]⟩, .string ⟨#[119, 104, 101, 110]⟩, .string ⟨#[108, 101, 116]⟩, .string ⟨#[105, 102]⟩, .string ⟨#[101, 108, 115, 101]⟩, .string ⟨#[114, 101, 112, 101, 97, 116]⟩, .string ⟨#[97, 115]⟩, .string ⟨#[101, 97, 99, 104]⟩, .string ⟨#[105, 110]⟩, .string ⟨#[99, 104, 111, 111, 115, 101]⟩, .string ⟨#[115, 116, 111, 112]⟩, .string ⟨#[97, 98, 111, 114, 116]⟩, .string ⟨#[116, 114, 117, 101]⟩, .string ⟨#[102, 97, 108, 115, 101]⟩, .string ⟨#[115, 101, 108, 102]⟩, .string ⟨#[109, 101]⟩, .string ⟨#[100, 101, 99, 107]⟩, .string ⟨#[104, 97, 110, 100]⟩, .string ⟨#[98, 111, 97, 114, 100]⟩, .string ⟨#[103, 114, 97, 118, 101]⟩, .string ⟨#[112, 108, 97, 121]⟩, .string ⟨#[100, 105, 101]⟩, .string ⟨#[104, 105, 116]⟩, .string ⟨#[116, 117, 114, 110]⟩, .string ⟨#[100, 114, 97, 119]⟩] 9) = W1 := ⟨_, rfl⟩
  have hr : W1.heap[w.heap.size]? = some (.cells #[.string ⟨#[99, 97, 114, 100]⟩, .string ⟨#[99, 111, 115, 116]⟩, .string ⟨#[112, 111, 119, 101, 114]⟩, .string ⟨#[104, 101, 97, 108, 116, 104]⟩, .string ⟨#[116, 97, 103]⟩, .string ⟨#[111, 110]⟩, .string ⟨#[119, 104, 101, 110]⟩, .string ⟨#[108, 101, 116]⟩, .string ⟨#[105, 102]⟩, .string ⟨#[101, 108, 115, 101]⟩, .string ⟨#[114, 101, 112, 101, 97, 116]⟩, .string ⟨#[97, 115]⟩, .string ⟨#[101, 97, 99, 104]⟩, .string ⟨#[105, 110]⟩, .string ⟨#[99, 104, 111, 111, 115, 101]⟩, .string ⟨#[115, 116, 111, 112]⟩, .string ⟨#[97, 98, 111, 114, 116]⟩, .string ⟨#[116, 114, 117, 101]⟩, .string ⟨#[102, 97, 108, 115, 101]⟩, .string ⟨#[115, 101, 108, 102]⟩, .string ⟨#[109, 101]⟩, .string ⟨#[100, 101, 99, 107]⟩, .string ⟨#[104, 97, 110, 100]⟩, .string ⟨#[98, 111, 97, 114, 100]⟩, .string ⟨#[103, 114, 97, 118, 101]⟩, .string ⟨#[112, 108, 97, 121]⟩, .string ⟨#[100, 105, 101]⟩, .string ⟨#[104, 105, 116]⟩, .string ⟨#[116, 117, 114, 110]⟩, .string ⟨#[100, 114, 97, 119]⟩] 9 (0, 0)) := by rw [← hW1]; exact heap_alloc_new _ _
  have HU : Hid (Up w W1) := by unfold Hid; rw [← hW1]; exact (Up.refl _).alloc _
  have HC : Hid (∀ i, i < 30 → W1.cell? ⟨w.heap.size, i, none⟩ = some (.string (strOfNums (words.getD i [])))) := fun i hi => by
    simp only [World.cell?, hr]
    rw [← Array.getElem?_toList, ← words_row, List.getElem?_map, List.getD_eq_getElem?_getD, List.getElem?_eq_getElem (show i < words.length from hi)]
    rfl
  rw [hW1]
  obtain ⟨g, hg⟩ : ∃ g, g = w.heap.size := ⟨_, rfl⟩
  rw [← hg] at HC ⊢
  clear hr hW1 hg
  go_wp2_with fail
  go_loopw [4] (fun s4 W => ∃ i : Nat, i ≤ 30 ∧ s4 = .int .i64 i ∧ (∀ j, j < i → words.getD j [] ≠ l) ∧ W = W1) (fun s4 _ => 30 - (intOf s4).toNat)
  case atStart => exact ⟨0, Nat.zero_le _, rfl, fun j hj => by omega, rfl⟩
  case round =>
    obtain ⟨i, hi, rfl, hj, rfl⟩ := hrel
    have HJ : Hid (∀ j, j < i → words.getD j [] ≠ l) := hj
    clear hj
    by_cases hlt : i < 30
    · have hlt2 : (i : Int) < 30 := by omega
      have x1 := HC.out i hlt
      have hif := HIF.out i hlt
      have ei : IntKind.i64.wrap ((i : Int) + 1) = ((i + 1 : Nat) : Int) := by rw [IntKind.wrap_i64]; omega
      by_cases he : words.getD i [] = l
      · have HE : Hid (words.contains l = true) := by
          unfold Hid
          rw [List.contains_iff_mem, ← he, List.getD_eq_getElem?_getD, List.getElem?_eq_getElem (show i < words.length from hlt)]
          exact List.getElem_mem _
        have q := hif.2 he
        generalize strOfNums (words.getD i []) = y at *
        clear hif he
        go_wp2_with fail
        rw [HPo.out, HE.out]
        exact ⟨rfl, HU.out⟩
      · have HS : Hid (∀ j, j < i + 1 → words.getD j [] ≠ l) := fun j hj => by
          by_cases h9 : j = i
          · rw [h9]; exact he
          · exact HJ.out j (by omega)
        have q : ¬ (strOfNums (words.getD i [])).toList = s.toList := fun h9 => he (hif.1 h9)
        have q2 : ((strOfNums (words.getD i [])).toList == s.toList) = false := by simpa using q
        have q3 : ¬ s.toList = (strOfNums (words.getD i [])).toList := fun h9 => q h9.symm
        generalize strOfNums (words.getD i []) = y at *
        clear hif he
        go_wp2_with fail
        go_roundw
        case rel => exact ⟨i + 1, hlt, by go_num, HS.out, by first | rfl | trivial⟩
        case measure => simp [intOf]; omega
    · have hlt2 : ¬ (i : Int) < 30 := by omega
      have HE : Hid (words.contains l = false) := by
        unfold Hid
        rw [Bool.eq_false_iff]
        intro h9
        rw [List.contains_iff_mem] at h9
        obtain ⟨j, hj, h8⟩ := List.getElem_of_mem h9
        have hj30 : j < 30 := hj
        refine HJ.out j (by omega) ?_
        rw [List.getD_eq_getElem?_getD, List.getElem?_eq_getElem hj]
        exact h8
      go_wp2_with fail
      rw [HPo.out, HE.out]
      exact ⟨rfl, HU.out⟩
set_option maxRecDepth 100000 in
set_option maxHeartbeats 16000000 in
theorem dfree_ (l : List Int) (w : World) (hl : Byt l) : Calls Tryz.prog 186 #[.string (strOfNums l)] w fun e w' => e = .returned (.bool (isN l && !words.contains l)) ∧ Up w w' := by
  obtain ⟨Post, hPost⟩ : ∃ P : Ending → World → Prop, P = fun e w' => e = .returned (.bool (isN l && !words.contains l)) ∧ Up w w' := ⟨_, rfl⟩
  rw [← hPost]
  have HPo : Hid (Post = fun e w' => e = .returned (.bool (isN l && !words.contains l)) ∧ Up w w') := hPost
  clear hPost
  have HN : Hid (Calls Tryz.prog 195 #[.string (strOfNums l)] w fun e w' => e = .returned (.bool (isN l)) ∧ w' = w) := rname_ l w hl
  have HW : Hid (∀ W, Calls Tryz.prog 196 #[.string (strOfNums l)] W fun e w' => e = .returned (.bool (words.contains l)) ∧ Up W w') := fun W => dword_ l W hl
  generalize strOfNums l = s at *
  cases hn : isN l with
  | false =>
    rw [hn] at HN HPo
    go_enter Tryz.func186, Tryz.ntmps186
    go_wp2_with fail
    refine Calls.mono HN.out ?_
    rintro e w1 ⟨rfl, hw⟩
    obtain rfl := hw.symm
    clear hw
    go_wp2_with fail
    rw [HPo.out]
    exact ⟨rfl, Up.refl _⟩
  | true =>
    rw [hn] at HN HPo
    go_enter Tryz.func186, Tryz.ntmps186
    go_wp2_with fail
    refine Calls.mono HN.out ?_
    rintro e w1 ⟨rfl, hw⟩
    obtain rfl := hw.symm
    clear hw
    go_wp2_with fail
    refine Calls.mono (HW.out _) ?_
    rintro e w1 ⟨rfl, u⟩
    go_wp2_with fail
    rw [HPo.out]
    exact ⟨by simp, u⟩
def rRank (op : Int) : Int :=
  if op = 36 then 1
  else if op = 37 then 2
  else if op = 34 then 3
  else if 38 ≤ op ∧ op ≤ 43 then 4
  else if op = 44 ∨ op = 45 then 5
  else if 46 ≤ op ∧ op ≤ 48 then 6
  else if op = 35 then 7
  else 8
set_option maxRecDepth 100000 in
set_option maxHeartbeats 16000000 in
theorem rank_ (op : Int) (w : World) : Calls Tryz.prog 158 #[.int .i8 op] w fun e w' => e = .returned (.int .i64 (rRank op)) ∧ w' = w := by
  obtain ⟨Post, hPost⟩ : ∃ P : Ending → World → Prop, P = fun e w' => e = .returned (.int .i64 (rRank op)) ∧ w' = w := ⟨_, rfl⟩
  rw [← hPost]
  have HPo : Hid (Post = fun e w' => e = .returned (.int .i64 (rRank op)) ∧ w' = w) := hPost
  clear hPost
  by_cases h : op = 36 ∨ op = 37 ∨ op = 34 ∨ op = 38 ∨ op = 39 ∨ op = 40 ∨ op = 41 ∨ op = 42 ∨ op = 43 ∨ op = 44 ∨ op = 45 ∨ op = 46 ∨ op = 47 ∨ op = 48 ∨ op = 35
  · rcases h with rfl | rfl | rfl | rfl | rfl | rfl | rfl | rfl | rfl | rfl | rfl | rfl | rfl | rfl | rfl
    all_goals
      go_enter Tryz.func158, Tryz.ntmps158
      go_wp2_with fail
      all_goals rw [HPo.out]
      all_goals exact ⟨rfl, rfl⟩
  · have hr : rRank op = 8 := by
      unfold rRank
      rw [if_neg (by omega), if_neg (by omega), if_neg (by omega), if_neg (by omega), if_neg (by omega), if_neg (by omega), if_neg (by omega)]
    have HR : Hid (rRank op = 8) := hr
    have HN : Hid (¬ (op = 36 ∨ op = 37 ∨ op = 34 ∨ op = 38 ∨ op = 39 ∨ op = 40 ∨ op = 41 ∨ op = 42 ∨ op = 43 ∨ op = 44 ∨ op = 45 ∨ op = 46 ∨ op = 47 ∨ op = 48 ∨ op = 35)) := h
    go_enter Tryz.func158, Tryz.ntmps158
    have n36 : ¬ op = 36 := by omega
    have n37 : ¬ op = 37 := by omega
    have n34 : ¬ op = 34 := by omega
    have n44 : ¬ op = 44 := by omega
    have n45 : ¬ op = 45 := by omega
    have n35 : ¬ op = 35 := by omega
    clear h hr
    by_cases a1 : 38 ≤ op
    · have a2 : ¬ op ≤ 43 := by have := HN.out; omega
      by_cases a3 : 46 ≤ op
      · have a4 : ¬ op ≤ 48 := by have := HN.out; omega
        go_wp2_with fail
        all_goals rw [HPo.out]
        all_goals first | (exfalso; simp_all; done) | exact ⟨by rw [HR.out], rfl⟩
      · go_wp2_with fail
        all_goals rw [HPo.out]
        all_goals first | (exfalso; simp_all; done) | exact ⟨by rw [HR.out], rfl⟩
    · have a3 : ¬ 46 ≤ op := by omega
      go_wp2_with fail
      all_goals rw [HPo.out]
      all_goals first | (exfalso; simp_all; done) | exact ⟨by rw [HR.out], rfl⟩
end TR
end Go.Proofs.YtkldllnnocdhbaaGreatDoor
