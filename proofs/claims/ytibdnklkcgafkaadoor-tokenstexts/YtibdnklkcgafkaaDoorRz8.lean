
/-
  The document's text of a token.
-/
import Derived.Test.YtibdnklkcgafkaaDoorRy8
import Derived.Test.YtibdnklkcgafkaaDoorTw8
namespace Go.Proofs.YtibdnklkcgafkaaDoor
open Go.RowKit
attribute [local go_sem ↓] Go.wp_at_zero Go.wp_at_succ
namespace TK
theorem nums_app (a b : List Int) : strOfNums a ++ strOfNums b = strOfNums (a ++ b) := by
  apply ByteArray.ext
  show (strOfNums a ++ strOfNums b).data = _
  rw [ByteArray.data_append]
  simp [strOfNums]
theorem ext_one {l : List Int} (i : Nat) (hi : i < l.length) : (strOfNums l).extract i (i + 1) = strOfNums [l.getD i 0] := by
  apply ByteArray.ext
  rw [ByteArray.data_extract]
  apply Array.ext'
  show (((l.map fun n => UInt8.ofNat n.toNat).toArray).extract i (i + 1)).toList = [UInt8.ofNat (l.getD i 0).toNat]
  rw [List.getD_eq_getElem?_getD, List.getElem?_eq_getElem hi]
  simp [List.drop_eq_getElem_cons, hi]
set_option maxRecDepth 100000 in
set_option maxHeartbeats 8000000 in
theorem rquoted_ (l : List Int) (w : World) (hl : Byt l) (hn : l.length ≤ 64) : Calls Tryd.prog 64 #[.string (strOfNums l)] w fun e w' => e = .returned (.string (strOfNums (quo l))) ∧ w' = w := by
  obtain ⟨Post, hPost⟩ : ∃ P : Ending → World → Prop, P = fun e w' => e = .returned (.string (strOfNums (quo l))) ∧ w' = w := ⟨_, rfl⟩
  rw [← hPost]
  have HPo : Hid (Post = fun e w' => e = .returned (.string (strOfNums (quo l))) ∧ w' = w) := hPost
  clear hPost
  obtain ⟨s, hs⟩ : ∃ s, s = strOfNums l := ⟨_, rfl⟩
  have hsz : s.size = l.length := by rw [hs, strOfNums_size]
  have HBT : Hid (∀ i, i < l.length → ∃ d : Nat, (d : Int) = l.getD i 0 ∧ (∀ h : i < s.size, (s[i]'h).toNat = d) ∧ s.extract i (i + 1) = strOfNums [(d : Int)]) := fun i hi => by
    have h1 := hl.at i
    refine ⟨(l.getD i 0).toNat, by omega, fun h => ?_, ?_⟩
    · subst hs
      have h2 := nums_at hl hi h
      omega
    · rw [hs, ext_one i hi, Int.toNat_of_nonneg h1.1]
  have HAD : Hid (∀ a b : List Int, a.length + b.length ≤ 1000 → ¬ 9223372036854775807 < (strOfNums a).size + (strOfNums b).size ∧ strOfNums a ++ strOfNums b = strOfNums (a ++ b)) := fun a b h => ⟨by rw [strOfNums_size, strOfNums_size]; omega, nums_app a b⟩
  have HS1 : Hid (∀ c : Int, (strOfNums [c]).size = 1) := fun c => by unfold Hid at *; rw [strOfNums_size]; rfl
  rw [← hs]
  obtain ⟨n, hN⟩ : ∃ n, n = l.length := ⟨_, rfl⟩
  have HN : Hid (n = l.length) := hN
  rw [← hN] at hsz hn HBT
  clear hs hN hl
  go_enter Tryd.func64, Tryd.ntmps64
  go_wp2_with fail
  go_loopw [3, 4] (fun s3 s4 W => ∃ (i : Nat) (acc : List Int), i ≤ n ∧ s4 = .int .i64 i ∧ s3 = .string (strOfNums acc) ∧ acc.length ≤ 1 + 2 * i ∧ acc = [34] ++ (l.take i).flatMap quC ∧ W = w) (fun _ s4 _ => n - (intOf s4).toNat)
  case atStart => exact ⟨0, [34], Nat.zero_le _, rfl, rfl, by simp, rfl, rfl⟩
  case round =>
    obtain ⟨i, acc, hi, rfl, rfl, hk, hacc, rfl⟩ := hrel
    have HAC : Hid (acc = [34] ++ (l.take i).flatMap quC) := hacc
    clear hacc
    by_cases hlt : i < n
    · have hlt2 : (i : Int) < (n : Int) := by omega
      obtain ⟨d, hd, hx, hex⟩ := HBT.out i hlt
      have ei : IntKind.i64.wrap ((i : Int) + 1) = ((i + 1 : Nat) : Int) := by rw [IntKind.wrap_i64]; omega
      have HNX : Hid ([34] ++ (l.take (i + 1)).flatMap quC = acc ++ quC (d : Int)) := by
        unfold Hid
        rw [take_snoc (by have := HN.out; omega), List.flatMap_append, HAC.out, ← hd]
        simp
      clear hd
      by_cases h34 : (d : Int) = 34
      · obtain ⟨a1, f1⟩ := HAD.out acc [92] (by simp; omega)
        obtain ⟨a2, f2⟩ := HAD.out (acc ++ [92]) [(d : Int)] (by simp; omega)
        have HNY : Hid (acc ++ [92] ++ [(d : Int)] = [34] ++ (l.take (i + 1)).flatMap quC ∧ (acc ++ [92] ++ [(d : Int)]).length ≤ 1 + 2 * (i + 1)) := by
          refine ⟨?_, by simp; omega⟩
          rw [HNX.out]
          unfold quC esc
          rw [h34]
          simp
        have t1 : ((d : Int) == 34) = true := by simpa using h34
        have hm : strOfNums [92] = ⟨#[92]⟩ := rfl
        rw [HS1.out] at a1
        rw [hm] at f1
        have hq2 := HS1.out (d : Int)
        rw [hq2] at a2
        generalize strOfNums (acc ++ [92]) = q1 at *
        generalize strOfNums [(d : Int)] = q2 at *
        clear HNX h34
        go_wp2_with fail
        go_roundw
        case rel => exact ⟨i + 1, acc ++ [92] ++ [(d : Int)], by omega, by go_num, by simp, HNY.out.2, HNY.out.1, by trivial⟩
        case measure => simp [intOf]; omega
      · have t1 : ((d : Int) == 34) = false := by simpa using h34
        by_cases h92 : (d : Int) = 92
        · have t2 : ((d : Int) == 92) = true := by simpa using h92
          obtain ⟨a1, f1⟩ := HAD.out acc [92] (by simp; omega)
          obtain ⟨a2, f2⟩ := HAD.out (acc ++ [92]) [(d : Int)] (by simp; omega)
          have HNY : Hid (acc ++ [92] ++ [(d : Int)] = [34] ++ (l.take (i + 1)).flatMap quC ∧ (acc ++ [92] ++ [(d : Int)]).length ≤ 1 + 2 * (i + 1)) := by
            refine ⟨?_, by simp; omega⟩
            rw [HNX.out]
            unfold quC esc
            rw [h92]
            simp
          have hm : strOfNums [92] = ⟨#[92]⟩ := rfl
          rw [HS1.out] at a1
          rw [hm] at f1
          have hq2 := HS1.out (d : Int)
          rw [hq2] at a2
          generalize strOfNums (acc ++ [92]) = q1 at *
          generalize strOfNums [(d : Int)] = q2 at *
          clear HNX h92
          go_wp2_with fail
          go_roundw
          case rel => exact ⟨i + 1, acc ++ [92] ++ [(d : Int)], by omega, by go_num, by simp, HNY.out.2, HNY.out.1, by trivial⟩
          case measure => simp [intOf]; omega
        · have t2 : ((d : Int) == 92) = false := by simpa using h92
          obtain ⟨a2, f2⟩ := HAD.out acc [(d : Int)] (by simp; omega)
          have hq2 := HS1.out (d : Int)
          rw [hq2] at a2
          have HNY : Hid (acc ++ [(d : Int)] = [34] ++ (l.take (i + 1)).flatMap quC ∧ (acc ++ [(d : Int)]).length ≤ 1 + 2 * (i + 1)) := by
            refine ⟨?_, by simp; omega⟩
            rw [HNX.out]
            unfold quC esc
            rw [t1, t2]
            rfl
          generalize strOfNums [(d : Int)] = q2 at *
          clear HNX h34 h92
          go_wp2_with fail
          go_roundw
          case rel => exact ⟨i + 1, acc ++ [(d : Int)], by omega, by go_num, rfl, HNY.out.2, HNY.out.1, by trivial⟩
          case measure => simp [intOf]; omega
    · have hlt2 : ¬ (i : Int) < (n : Int) := by omega
      obtain rfl : i = n := by omega
      obtain ⟨a2, f2⟩ := HAD.out acc [34] (by simp; omega)
      have hm : strOfNums [34] = ⟨#[34]⟩ := rfl
      rw [HS1.out] at a2
      rw [hm] at f2
      have HNX : Hid (acc ++ [34] = quo l) := by
        unfold Hid quo
        rw [HAC.out, HN.out, List.take_length]
        simp
      rw [HNX.out] at f2
      go_wp2_with fail
      rw [HPo.out]
      exact ⟨rfl, by trivial⟩
def mayB (k : Int) (l : List Int) (n p : Int) : Bool := if p < 0 ∨ (k ≠ 2 ∧ n ≠ 0) then false else if k = 1 then okN l else if k = 2 then (decide (0 ≤ n) && decide (l = [])) else if k = 3 then okT l else if k = 4 then mrk l else (decide (k = 0) && decide (l = []))
theorem tex_may (k : Int) (l : List Int) (n p : Int) : tex ⟨k, l, n, p⟩ = if mayB k l n p = true then (if k = 2 then dcm n else if k = 3 then quo l else l) else [] := by
  unfold tex mayB
  by_cases hp : p < 0
  · simp [hp]
  · by_cases hk2 : k = 2
    · subst hk2
      by_cases hn : n < 0
      · simp [hp, hn, show ¬ 0 ≤ n by omega]
      · by_cases hl : l = []
        · simp [hp, hn, hl, show 0 ≤ n by omega]
        · simp [hp, hn, hl]
    · by_cases hn0 : n = 0
      · subst hn0
        by_cases hk1 : k = 1
        · subst hk1
          simp [hp]
        · by_cases hk3 : k = 3
          · subst hk3
            simp [hp]
          · by_cases hk4 : k = 4
            · subst hk4
              simp [hp]
            · by_cases hl : l = []
              · simp [hp, hk1, hk2, hk3, hk4, hl]
              · simp [hp, hk1, hk2, hk3, hk4, hl]
      · by_cases hn : n < 0
        · simp [hp, hk2, hn0, hn]
        · simp [hp, hk2, hn0, hn]
set_option maxRecDepth 100000 in
set_option maxHeartbeats 8000000 in
theorem rmay_ (k : Int) (l : List Int) (n p : Int) (w : World) (hl : Byt l) (hln : l.length ≤ 281474976710656) :
    Calls Tryd.prog 63 #[.agg #[.int .i8 k, .string (strOfNums l), .int .i64 n, .int .i64 p]] w fun e w' => e = .returned (.bool (mayB k l n p)) ∧ Up w w' := by
  obtain ⟨Post, hPost⟩ : ∃ P : Ending → World → Prop, P = fun e w' => e = .returned (.bool (mayB k l n p)) ∧ Up w w' := ⟨_, rfl⟩
  rw [← hPost]
  have HPo : Hid (Post = fun e w' => e = .returned (.bool (mayB k l n p)) ∧ Up w w') := hPost
  clear hPost
  have HIN : Hid (∀ W, Calls Tryd.prog 88 #[.string (strOfNums l)] W fun e w' => e = .returned (.bool (okN l)) ∧ Up W w') := fun W => Calls.mono (rname_ l W hl hln) (fun e w' h => by obtain ⟨h1, h2⟩ := h; subst h2; exact ⟨h1, Up.refl _⟩)
  have HIT : Hid (∀ W, Calls Tryd.prog 89 #[.string (strOfNums l)] W fun e w' => e = .returned (.bool (okT l)) ∧ Up W w') := fun W => Calls.mono (rsays_ l W hl hln) (fun e w' h => by obtain ⟨h1, h2⟩ := h; subst h2; exact ⟨h1, Up.refl _⟩)
  have HIM : Hid (∀ W, Calls Tryd.prog 90 #[.string (strOfNums l)] W fun e w' => e = .returned (.bool (mrk l)) ∧ Up W w') := fun W => rmark_ l W hl
  have hni : (strOfNums l).toList = [] ↔ l = [] := nums_nil
  obtain ⟨te, hte2⟩ : ∃ e, (strOfNums l).toList.isEmpty = e := ⟨_, rfl⟩
  have HTE : Hid (te = decide (l = [])) := by
    unfold Hid
    rw [← hte2, Bool.eq_iff_iff, List.isEmpty_iff, decide_eq_true_iff]
    exact hni
  obtain ⟨s, hs⟩ : ∃ s, strOfNums l = s := ⟨_, rfl⟩
  rw [hs] at HIN HIT HIM hte2 ⊢
  obtain ⟨W0, hW0⟩ : ∃ W0, w.alloc (.cells #[.int .i8 k, .string s, .int .i64 n, .int .i64 p] 63) = W0 := ⟨_, rfl⟩
  have gB : W0.heap[w.heap.size]? = some (.cells #[.int .i8 k, .string s, .int .i64 n, .int .i64 p] 63 (0, 0)) := by rw [← hW0]; exact heap_alloc_new _ _
  have HU : Hid (Up w W0) := by unfold Hid; rw [← hW0]; exact (Up.refl _).alloc _
  have x0 : W0.cell? ⟨w.heap.size, 0, none⟩ = some (.int .i8 k) := by simp only [World.cell?, gB]; rfl
  have x1 : W0.cell? ⟨w.heap.size, 1, none⟩ = some (.string s) := by simp only [World.cell?, gB]; rfl
  have x2 : W0.cell? ⟨w.heap.size, 2, none⟩ = some (.int .i64 n) := by simp only [World.cell?, gB]; rfl
  have x3 : W0.cell? ⟨w.heap.size, 3, none⟩ = some (.int .i64 p) := by simp only [World.cell?, gB]; rfl
  clear hl hln hni hs
  by_cases hp : p < 0
  · have HQ : Hid (mayB k l n p = false) := by unfold Hid mayB; rw [if_pos (.inl hp)]
    go_enter Tryd.func63, Tryd.ntmps63
    go_wp2_with fail
    rw [HPo.out]
    exact ⟨by rw [HQ.out] <;> rfl, HU.out⟩
  · by_cases hk2 : k = 2
    · subst hk2
      have HQ : Hid (mayB 2 l n p = (decide (0 ≤ n) && te)) := by unfold Hid mayB; rw [HTE.out, if_neg (by omega), if_neg (by decide), if_pos rfl]
      by_cases hn : 0 ≤ n
      · rw [decide_eq_true hn, Bool.true_and] at HQ
        go_enter Tryd.func63, Tryd.ntmps63
        go_wp2_with fail
        rw [HPo.out]
        exact ⟨by rw [HQ.out] <;> rfl, HU.out⟩
      · rw [decide_eq_false hn, Bool.false_and] at HQ
        go_enter Tryd.func63, Tryd.ntmps63
        go_wp2_with fail
        rw [HPo.out]
        exact ⟨by rw [HQ.out] <;> rfl, HU.out⟩
    · have t2 : (k == 2) = false := by simpa using hk2
      have t2b : (k != 2) = true := by simpa using hk2
      by_cases hn : n = 0
      · subst hn
        have HQ0 : Hid (mayB k l 0 p = if k = 1 then okN l else if k = 3 then okT l else if k = 4 then mrk l else (decide (k = 0) && te)) := by
          unfold Hid mayB
          rw [HTE.out, if_neg (by omega), if_neg hk2]
        by_cases hk1 : k = 1
        · subst hk1
          have HQ : Hid (mayB 1 l 0 p = okN l) := by unfold Hid; rw [HQ0.out, if_pos rfl]
          generalize okN l = ok at *
          go_enter Tryd.func63, Tryd.ntmps63
          go_wp2_with fail
          first | refine calls_world hW0 (Calls.mono (HIN.out _) ?_) | refine Calls.mono (HIN.out _) ?_
          rintro r W1 ⟨rfl, u⟩
          have HU : Hid (Up w W1) := HU.out.trans u
          clear u
          go_wp2_with fail
          rw [HPo.out]
          exact ⟨by rw [HQ.out] <;> rfl, HU.out⟩
        · have t1 : (k == 1) = false := by simpa using hk1
          by_cases hk3 : k = 3
          · subst hk3
            have HQ : Hid (mayB 3 l 0 p = okT l) := by unfold Hid; rw [HQ0.out, if_neg (by decide), if_pos rfl]
            generalize okT l = ok at *
            go_enter Tryd.func63, Tryd.ntmps63
            go_wp2_with fail
            first | refine calls_world hW0 (Calls.mono (HIT.out _) ?_) | refine Calls.mono (HIT.out _) ?_
            rintro r W1 ⟨rfl, u⟩
            have HU : Hid (Up w W1) := HU.out.trans u
            clear u
            go_wp2_with fail
            rw [HPo.out]
            exact ⟨by rw [HQ.out] <;> rfl, HU.out⟩
          · have t3 : (k == 3) = false := by simpa using hk3
            by_cases hk4 : k = 4
            · subst hk4
              have HQ : Hid (mayB 4 l 0 p = mrk l) := by unfold Hid; rw [HQ0.out, if_neg (by decide), if_neg (by decide), if_pos rfl]
              generalize mrk l = ok at *
              go_enter Tryd.func63, Tryd.ntmps63
              go_wp2_with fail
              first | refine calls_world hW0 (Calls.mono (HIM.out _) ?_) | refine Calls.mono (HIM.out _) ?_
              rintro r W1 ⟨rfl, u⟩
              have HU : Hid (Up w W1) := HU.out.trans u
              clear u
              go_wp2_with fail
              rw [HPo.out]
              exact ⟨by rw [HQ.out] <;> rfl, HU.out⟩
            · have t4 : (k == 4) = false := by simpa using hk4
              have HQ : Hid (mayB k l 0 p = (decide (k = 0) && te)) := by unfold Hid; rw [HQ0.out, if_neg hk1, if_neg hk3, if_neg hk4]
              by_cases hk0 : k = 0
              · subst hk0
                rw [decide_eq_true rfl, Bool.true_and] at HQ
                go_enter Tryd.func63, Tryd.ntmps63
                go_wp2_with fail
                rw [HPo.out]
                exact ⟨by rw [HQ.out] <;> rfl, HU.out⟩
              · have t0 : (k == 0) = false := by simpa using hk0
                rw [decide_eq_false hk0, Bool.false_and] at HQ
                go_enter Tryd.func63, Tryd.ntmps63
                go_wp2_with fail
                rw [HPo.out]
                exact ⟨by rw [HQ.out] <;> rfl, HU.out⟩
      · have tn : (n != 0) = true := by simpa using hn
        have HQ : Hid (mayB k l n p = false) := by unfold Hid mayB; rw [if_pos (.inr ⟨hk2, hn⟩)]
        go_enter Tryd.func63, Tryd.ntmps63
        go_wp2_with fail
        rw [HPo.out]
        exact ⟨by rw [HQ.out] <;> rfl, HU.out⟩
set_option maxRecDepth 100000 in
set_option maxHeartbeats 8000000 in
theorem rtext8_ (k : Int) (l : List Int) (n p : Int) (w : World) (hl : Byt l) (hln : l.length ≤ 281474976710656) (hn0 : -9223372036854775808 ≤ n) (hn1 : n ≤ 9223372036854775807) (hT : TabP w) :
    Calls Tryd.prog 23 #[.agg #[.int .i8 k, .string (strOfNums l), .int .i64 n, .int .i64 p]] w fun e w' => e = .returned (.string (strOfNums (tex ⟨k, l, n, p⟩))) ∧ Up w w' := by
  rw [tex_may]
  obtain ⟨Post, hPost⟩ : ∃ P : Ending → World → Prop, P = fun e w' => e = .returned (.string (strOfNums (if mayB k l n p = true then (if k = 2 then dcm n else if k = 3 then quo l else l) else []))) ∧ Up w w' := ⟨_, rfl⟩
  rw [← hPost]
  have HPo : Hid (Post = fun e w' => e = .returned (.string (strOfNums (if mayB k l n p = true then (if k = 2 then dcm n else if k = 3 then quo l else l) else []))) ∧ Up w w') := hPost
  clear hPost
  have HMY : Hid (∀ W, Calls Tryd.prog 63 #[.agg #[.int .i8 k, .string (strOfNums l), .int .i64 n, .int .i64 p]] W fun e w' => e = .returned (.bool (mayB k l n p)) ∧ Up W w') := fun W => rmay_ k l n p W hl hln
  have HQU : Hid (mayB 3 l n p = true → ∀ W, Calls Tryd.prog 64 #[.string (strOfNums l)] W fun e w' => e = .returned (.string (strOfNums (quo l))) ∧ Up W w') := fun h9 W => Calls.mono (rquoted_ l W hl (by
    unfold mayB at h9
    split at h9
    · cases h9
    · rw [if_neg (by decide), if_neg (by decide), if_pos rfl] at h9
      unfold okT at h9
      simp only [Bool.and_eq_true, decide_eq_true_eq] at h9
      exact h9.1)) (fun e w' h => by obtain ⟨h1, h2⟩ := h; subst h2; exact ⟨h1, Up.refl _⟩)
  have HFM : Hid (∀ W, Up w W → Calls Tryd.prog 57 #[.int .i64 n, .int .i64 10] W fun e w' => e = .returned (.string (strOfNums (dcm n))) ∧ Up W w') := fun W u => fmt_ n hn0 hn1 W (hT.up u)
  obtain ⟨s, hs⟩ : ∃ s, strOfNums l = s := ⟨_, rfl⟩
  rw [hs] at HMY HQU ⊢
  have HSS : Hid (strOfNums l = s) := hs
  obtain ⟨A, hA⟩ : ∃ A : Array Value, A = #[.int .i8 k, .string s, .int .i64 n, .int .i64 p] := ⟨_, rfl⟩
  obtain ⟨W0, hW0⟩ : ∃ W0, w.alloc (.cells #[.int .i8 k, .string s, .int .i64 n, .int .i64 p] 63) = W0 := ⟨_, rfl⟩
  have gB : W0.heap[w.heap.size]? = some (.cells #[.int .i8 k, .string s, .int .i64 n, .int .i64 p] 63 (0, 0)) := by rw [← hW0]; exact heap_alloc_new _ _
  have HU : Hid (Up w W0) := by unfold Hid; rw [← hW0]; exact (Up.refl _).alloc _
  have x0 : W0.cell? ⟨w.heap.size, 0, none⟩ = some (.int .i8 k) := by simp only [World.cell?, gB]; rfl
  have x1 : W0.cell? ⟨w.heap.size, 1, none⟩ = some (.string s) := by simp only [World.cell?, gB]; rfl
  have x2 : W0.cell? ⟨w.heap.size, 2, none⟩ = some (.int .i64 n) := by simp only [World.cell?, gB]; rfl
  have x3 : W0.cell? ⟨w.heap.size, 3, none⟩ = some (.int .i64 p) := by simp only [World.cell?, gB]; rfl
  have HMW : Hid (Calls Tryd.prog 63 #[.agg #[.int .i8 k, .string s, .int .i64 n, .int .i64 p]] W0 fun e w' => e = .returned (.bool (mayB k l n p)) ∧ Up W0 w') := HMY.out W0
  clear hl hln hs hT hA A
  cases hm : mayB k l n p with
  | false =>
    rw [hm] at HPo HMW
    clear hm HMY
    go_enter Tryd.func23, Tryd.ntmps23
    go_wp2_with fail
    first | refine calls_world hW0 (Calls.mono (HMW.out) ?_) | refine Calls.mono (HMW.out) ?_
    rintro r W1 ⟨rfl, u⟩
    have HU : Hid (Up w W1) := HU.out.trans u
    clear u
    go_wp2_with fail
    rw [HPo.out]
    exact ⟨rfl, HU.out⟩
  | true =>
    rw [hm, if_pos rfl] at HPo
    rw [hm] at HMW
    go_enter Tryd.func23, Tryd.ntmps23
    go_wp2_with fail
    first | refine calls_world hW0 (Calls.mono HMW.out ?_) | refine Calls.mono HMW.out ?_
    rintro r W1 ⟨rfl, u⟩
    have gB := u.heap gB
    have HU : Hid (Up w W1) := HU.out.trans u
    have x0 : W1.cell? ⟨w.heap.size, 0, none⟩ = some (.int .i8 k) := by simp only [World.cell?, gB]; rfl
    have x1 : W1.cell? ⟨w.heap.size, 1, none⟩ = some (.string s) := by simp only [World.cell?, gB]; rfl
    have x2 : W1.cell? ⟨w.heap.size, 2, none⟩ = some (.int .i64 n) := by simp only [World.cell?, gB]; rfl
    clear u hW0 HMW HMY
    by_cases hk2 : k = 2
    · subst hk2
      rw [if_pos rfl] at HPo
      clear hm
      go_wp2_with fail
      refine Calls.mono (HFM.out W1 HU.out) ?_
      rintro r W2 ⟨rfl, u⟩
      have HU : Hid (Up w W2) := HU.out.trans u
      clear u
      go_wp2_with fail
      rw [HPo.out]
      exact ⟨rfl, HU.out⟩
    · have t2 : (k == 2) = false := by simpa using hk2
      rw [if_neg hk2] at HPo
      by_cases hk3 : k = 3
      · subst hk3
        rw [if_pos rfl] at HPo
        have HQ2 := HQU.out hm
        clear hm
        go_wp2_with fail
        refine Calls.mono (HQ2 W1) ?_
        rintro r W2 ⟨rfl, u⟩
        have HU : Hid (Up w W2) := HU.out.trans u
        clear u
        go_wp2_with fail
        rw [HPo.out]
        exact ⟨rfl, HU.out⟩
      · have t3 : (k == 3) = false := by simpa using hk3
        rw [if_neg hk3] at HPo
        clear hm
        go_wp2_with fail
        rw [HPo.out]
        exact ⟨by rw [HSS.out] <;> rfl, HU.out⟩
end TK
end Go.Proofs.YtibdnklkcgafkaaDoor
