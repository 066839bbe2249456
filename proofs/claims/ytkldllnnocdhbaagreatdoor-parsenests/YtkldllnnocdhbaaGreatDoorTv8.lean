/-
  How a token is written.
-/
import Derived.Test.YtkldllnnocdhbaaGreatDoorTu8
import Derived.Test.YtkldllnnocdhbaaGreatDoorTail
import Derived.Handy
import Derived.Test.YtkldllnnocdhbaaGreatDoorKt8
import Derived.Lib.CountLaws
import Derived.Lib.Bytes
import Derived.Lib.ItoaLen
import Derived.Deep.Cut
namespace Go.Proofs.YtkldllnnocdhbaaGreatDoor
open Go.RowKit
attribute [local go_sem ↓] Go.wp_at_zero Go.wp_at_succ
namespace TK
theorem conv_own {W : World} {base : Nat} {v : Value} {l : List Int} (h : W.ownsRow base 5 1 v l.length (bvs l)) : (convert 26 9 v).run Tryz.prog W = .ok (.string (strOfNums l)) W := by
  rcases h.2 with ⟨rfl, h0⟩ | ⟨g, cap, cur, rfl, -⟩
  · obtain rfl : l = [] := List.eq_nil_of_length_eq_zero h0
    exact run_convert_bytes_nil W 26 5 Tryz.underlying26 Tryz.underlying5 0 0 9 Tryz.underlying9
  · refine run_convert_bytes_arg W 26 5 Tryz.underlying26 Tryz.underlying5 g 0 l.length cap l rfl (fun i hi => ?_) 9 Tryz.underlying9
    rw [Nat.zero_add, h.cellAt i (by omega), bvs_at hi]
def tx (B : List Int) (p : Nat) : Stp := txt B p (B.length - p) (p + 1) []
/- what is still to be read of a text, from the place i on -/
def Tx (B : List Int) (p i : Nat) (acc : List Int) : Prop := ∃ m, B.length - i ≤ m ∧ tx B p = txt B p (m + 1) i acc
theorem tx_start {B : List Int} {p : Nat} (h : p < B.length) : Tx B p (p + 1) [] := ⟨B.length - p - 1, by omega, by unfold tx; congr 1; omega⟩
theorem tx_end {B : List Int} {p i : Nat} {acc : List Int} (h : Tx B p i acc) (hi : ¬ i < B.length) : tx B p = .bad p := by
  obtain ⟨m, -, h⟩ := h
  rw [h, txt, if_pos hi]
theorem tx_nl {B : List Int} {p i : Nat} {acc : List Int} (h : Tx B p i acc) (hi : i < B.length) (hc : B.getD i 0 = 10) : tx B p = .bad p := by
  obtain ⟨m, -, h⟩ := h
  rw [h, txt, if_neg (by omega), if_pos (by rw [hc]; decide)]
theorem tx_quote {B : List Int} {p i : Nat} {acc : List Int} (h : Tx B p i acc) (hi : i < B.length) (hc : B.getD i 0 = 34) : tx B p = if 64 < acc.length then .bad p else .tok ⟨3, acc, 0, p⟩ (i + 1) := by
  obtain ⟨m, -, h⟩ := h
  rw [h, txt, if_neg (by omega), if_neg (by rw [hc]; decide), if_pos (by rw [hc]; decide)]
theorem tx_slash {B : List Int} {p i : Nat} {acc : List Int} (h : Tx B p i acc) (hi : i < B.length) (hc : B.getD i 0 = 92) : (¬ i + 1 < B.length → tx B p = .bad i) ∧ (i + 1 < B.length → (esc (B.getD (i + 1) 0) = false → tx B p = .bad i) ∧ (esc (B.getD (i + 1) 0) = true → Tx B p (i + 2) (acc ++ [B.getD (i + 1) 0]))) := by
  obtain ⟨m, hm, h⟩ := h
  rw [txt, if_neg (by omega), if_neg (by rw [hc]; decide), if_neg (by rw [hc]; decide), if_pos (by rw [hc]; decide)] at h
  refine ⟨fun h1 => by rw [h, if_pos h1], fun h1 => ⟨fun h2 => by rw [h, if_neg (by omega), h2]; rfl, fun h2 => ?_⟩⟩
  rw [if_neg (by omega), if_pos h2] at h
  exact ⟨m - 1, by omega, by rw [h]; congr 1; omega⟩
theorem tx_other {B : List Int} {p i : Nat} {acc : List Int} (h : Tx B p i acc) (hi : i < B.length) (h1 : B.getD i 0 ≠ 10) (h2 : B.getD i 0 ≠ 34) (h3 : B.getD i 0 ≠ 92) : (pln (B.getD i 0) = false → tx B p = .bad i) ∧ (pln (B.getD i 0) = true → Tx B p (i + 1) (acc ++ [B.getD i 0])) := by
  obtain ⟨m, hm, h⟩ := h
  rw [txt, if_neg (by omega), if_neg (by simpa using h1), if_neg (by simpa using h2), if_neg (by simpa using h3)] at h
  refine ⟨fun h4 => by rw [h, h4]; rfl, fun h4 => ?_⟩
  rw [if_pos h4] at h
  exact ⟨m - 1, by omega, by rw [h]; congr 1; omega⟩
end TK
end Go.Proofs.YtkldllnnocdhbaaGreatDoor
namespace Go.Proofs.YtkldllnnocdhbaaGreatDoor
namespace TK
def lnS (s : Int × Int) (c : Int) : Int × Int := if c = 10 then (s.1 + 1, 1) else (s.1, s.2 + 1)
def ln (l : List Int) : Int × Int := l.foldl lnS (1, 1)
theorem ln_snoc (l : List Int) (c : Int) : ln (l ++ [c]) = lnS (ln l) c := by
  unfold ln
  rw [List.foldl_append]
  rfl
theorem take_snoc {B : List Int} {k : Nat} (h : k < B.length) : B.take (k + 1) = B.take k ++ [B.getD k 0] := by
  rw [List.take_succ_eq_append_getElem h, List.getD_eq_getElem?_getD, List.getElem?_eq_getElem h]
  rfl
theorem ln_step {B : List Int} {k : Nat} (h : k < B.length) : ln (B.take (k + 1)) = lnS (ln (B.take k)) (B.getD k 0) := by
  rw [take_snoc h, ln_snoc]
/- the last line's end -/
def Lst (B : List Int) (k : Nat) (r : Int) : Prop := (r = -1 ∧ ∀ j, j < k → B.getD j 0 ≠ 10) ∨ ∃ i : Nat, i < k ∧ r = i ∧ B.getD i 0 = 10 ∧ ∀ j, i < j → j < k → B.getD j 0 ≠ 10
theorem ln_run {B : List Int} {i : Nat} : ∀ d : Nat, i + d ≤ B.length → (∀ j, i ≤ j → j < i + d → B.getD j 0 ≠ 10) → (ln (B.take (i + d))).2 = (ln (B.take i)).2 + d
  | 0, _, _ => by simp
  | d + 1, h, hn => by
    have h1 := ln_run d (by omega) (fun j h1 h2 => hn j h1 (by omega))
    rw [show i + (d + 1) = (i + d) + 1 by omega, ln_step (by omega)]
    unfold lnS
    rw [if_neg (hn (i + d) (by omega) (by omega))]
    show (ln (B.take (i + d))).2 + 1 = _
    rw [h1]
    omega
theorem ln_col {B : List Int} {k : Nat} {r : Int} (hk : k ≤ B.length) (h : Lst B k r) : (ln (B.take k)).2 = (k : Int) - r := by
  rcases h with ⟨rfl, h⟩ | ⟨i, hi, rfl, h1, h2⟩
  · have h3 := ln_run (B := B) (i := 0) k (by omega) (fun j _ hj => h j (by omega))
    rw [Nat.zero_add] at h3
    rw [h3]
    show (1 : Int) + k = _
    omega
  · have h3 := ln_run (B := B) (i := i + 1) (k - (i + 1)) (by omega) (fun j h3 h4 => h2 j (by omega) (by omega))
    rw [show i + 1 + (k - (i + 1)) = k by omega] at h3
    rw [h3, ln_step (by omega)]
    unfold lnS
    rw [if_pos h1]
    show (1 : Int) + ((k - (i + 1) : Nat) : Int) = _
    omega
theorem ln_lin {B : List Int} (hB : Byt B) : ∀ k : Nat, k ≤ B.length → (ln (B.take k)).1 = 1 + (Lib.countByte (Lib.bytesOf (B.take k)) 10 : Int)
  | 0, _ => by simp [ln, Lib.bytesOf, Lib.countByte]
  | k + 1, h => by
    have h1 := ln_lin hB k (by omega)
    have hb := hB.at k
    rw [ln_step (by omega), take_snoc (by omega)]
    unfold lnS Lib.bytesOf Lib.countByte
    rw [List.map_append, List.count_append]
    unfold Lib.bytesOf Lib.countByte at h1
    by_cases h2 : B.getD k 0 = 10
    · rw [if_pos h2, h2]
      show (ln (B.take k)).1 + 1 = _
      rw [h1]
      simp
      omega
    · rw [if_neg h2]
      show (ln (B.take k)).1 = _
      rw [h1]
      have h3 : ¬ UInt8.ofNat (B.getD k 0).toNat = 10 := by
        rw [u8_is hb]
        exact h2
      simp only [List.map_cons, List.map_nil, List.count_cons, List.count_nil, beq_iff_eq, if_neg h3]
      simp
theorem ln_in {B : List Int} : ∀ k : Nat, k ≤ B.length → 1 ≤ (ln (B.take k)).1 ∧ (ln (B.take k)).1 ≤ 1 + k ∧ 1 ≤ (ln (B.take k)).2 ∧ (ln (B.take k)).2 ≤ 1 + k
  | 0, _ => by simp [ln]
  | k + 1, h => by
    have h1 := ln_in (B := B) k (by omega)
    rw [ln_step (by omega)]
    unfold lnS
    split
    · refine ⟨?_, ?_, ?_, ?_⟩ <;> simp <;> omega
    · refine ⟨?_, ?_, ?_, ?_⟩ <;> simp <;> omega
end TK
end Go.Proofs.YtkldllnnocdhbaaGreatDoor
namespace Go.Proofs.YtkldllnnocdhbaaGreatDoor
open Go.RowKit
attribute [local go_sem ↓] Go.wp_at_zero Go.wp_at_succ
namespace TK
def TabP (W : World) : Prop := Lib.TabIs Tryz.prog W "internal/strconv.uint64pow10" .u64 Lib.pow10Tab
theorem gPow : Tryz.prog.globalNamed "internal/strconv.uint64pow10" = some 1 := by kernel_rfl
theorem TabP.up {w W : World} (h : TabP w) (u : Up w W) : TabP W := by
  unfold TabP Lib.TabIs World.var? at h ⊢
  rw [gPow] at h ⊢
  simp only [Option.bind_some] at h ⊢
  have hlt : 1 < w.heap.size := by
    rcases Nat.lt_or_ge 1 w.heap.size with h' | h'
    · exact h'
    · rw [Array.getElem?_eq_none h'] at h; cases h
  rw [u.block 1 hlt]
  exact h
theorem grow_up (w : World) (k : Nat) (os : Array Obj) : Up w (Go.Sort.grow (w.drewN k) os) :=
  ⟨rfl, rfl, rfl, by show w.heap.size ≤ (w.heap ++ os).size; simp, fun g hg => by show (w.heap ++ os)[g]? = _; rw [Array.getElem?_append_left hg]⟩
theorem fmt_ (n : Int) (h0 : -9223372036854775808 ≤ n) (h1 : n ≤ 9223372036854775807) (w : World) (hT : TabP w) : Calls Tryz.prog 128 #[.int .i64 n, .int .i64 10] w fun e w' => e = .returned (.string (strOfNums (dcm n))) ∧ Up w w' := by
  refine Calls.mono (Any.strconv_FormatInt_10 Tryz.laysM173 n h0 h1 w hT) ?_
  rintro e w' ⟨rfl, k, os, rfl⟩
  exact ⟨by rw [dcm_str], grow_up w k os⟩
set_option maxRecDepth 100000 in
set_option maxHeartbeats 8000000 in
theorem clone_ (s : ByteArray) (w : World) (h : s.size ≤ 281474976710656) : Calls Tryz.prog 131 #[.string s] w fun e w' => e = .returned (.string s) ∧ Up w w' := by
  have H : Hid (Calls Tryz.prog 164 #[.string s] w fun e w' => e = .returned (.string s) ∧ Up w w') := Any.stringslite_Clone Tryz.laysM316 s w h
  clear h
  go_enter Tryz.func131, Tryz.ntmps131
  go_wp2_with fail
  refine Calls.mono H.out ?_
  rintro e w' ⟨rfl, u⟩
  go_wp2
  go_ret
  exact ⟨rfl, u⟩
theorem own_one (w : World) : (w.alloc (.cells #[.int .u8 34] 5)).ownsRow w.heap.size 5 1 (.slice (some ⟨w.heap.size, 0, none⟩) 1 1) 1 (bvs [34]) :=
  ⟨rfl, .inr ⟨w.heap.size, 1, #[.int .u8 34], rfl, Nat.le_refl _, heap_alloc_new _ _, by omega, by unfold maxLen; omega, rfl, rfl⟩⟩
set_option maxRecDepth 100000 in
set_option maxHeartbeats 8000000 in
theorem quoted_ (l : List Int) (w : World) (hl : Byt l) (hn : l.length ≤ 64) : Calls Tryz.prog 133 #[.string (strOfNums l)] w fun e w' => e = .returned (.string (strOfNums (quo l))) ∧ Up w w' := by
  obtain ⟨Post, hPost⟩ : ∃ P : Ending → World → Prop, P = fun e w' => e = .returned (.string (strOfNums (quo l))) ∧ Up w w' := ⟨_, rfl⟩
  rw [← hPost]
  have HPo : Hid (Post = fun e w' => e = .returned (.string (strOfNums (quo l))) ∧ Up w w') := hPost
  clear hPost
  obtain ⟨i5, hi5, z0, z1, z2⟩ := info_parts SM.info5
  obtain ⟨s, hs⟩ : ∃ s, s = strOfNums l := ⟨_, rfl⟩
  have hsz : s.size = l.length := by rw [hs, strOfNums_size]
  have HBT : Hid (∀ i, i < l.length → ∃ d : Nat, (d : Int) = l.getD i 0 ∧ ∀ h : i < s.size, (s[i]'h).toNat = d) := fun i hi => by
    have h1 := hl.at i
    refine ⟨(l.getD i 0).toNat, by omega, fun h => ?_⟩
    subst hs
    have h2 := nums_at hl hi h
    omega
  rw [← hs]
  obtain ⟨n, hN⟩ : ∃ n, n = l.length := ⟨_, rfl⟩
  have HN : Hid (n = l.length) := hN
  rw [← hN] at hsz hn HBT
  clear hs hN hl
  go_enter Tryz.func133, Tryz.ntmps133
  go_wp2_with fail
  go_loopw [3, 8] (fun s3 s8 W => ∃ (i k : Nat) (acc : List Int) (sa : Option Addr) (sc : Nat), i ≤ n ∧ s8 = .int .i64 i ∧ s3 = .slice sa k sc ∧ acc.length = k ∧ k ≤ 1 + 2 * i ∧ acc = [34] ++ (l.take i).flatMap quC ∧ W.ownsRow w.heap.size 5 1 (.slice sa k sc) k (bvs acc) ∧ Up w W) (fun _ s8 _ => n - (intOf s8).toNat)
  case atStart => exact ⟨0, 1, [34], some ⟨w.heap.size, 0, none⟩, 1, Nat.zero_le _, rfl, rfl, rfl, by omega, rfl, own_one w, (Up.refl _).alloc _⟩
  case round =>
    obtain ⟨i, k, acc, sa0, sc0, hi, rfl, rfl, hk, hki, hacc, hrow, hu⟩ := hrel
    have HS0 : Hid (wr.ownsRow w.heap.size 5 1 (.slice sa0 k sc0) k (bvs acc) ∧ Up w wr) := ⟨hrow, hu⟩
    have HAC : Hid (acc = [34] ++ (l.take i).flatMap quC ∧ acc.length = k) := ⟨hacc, hk⟩
    clear hrow hu hacc hk
    by_cases hlt : i < n
    · have hlt2 : (i : Int) < (n : Int) := by omega
      obtain ⟨d, hd, hx⟩ := HBT.out i hlt
      have ei : IntKind.i64.wrap ((i : Int) + 1) = ((i + 1 : Nat) : Int) := by rw [IntKind.wrap_i64]; omega
      have HES : Hid (Calls Tryz.prog 166 #[.int .u8 (d : Int)] wr fun e w' => e = .returned (.bool (esc (d : Int))) ∧ w' = wr) := isEscaped_ _ wr
      have HNX : Hid ([34] ++ (l.take (i + 1)).flatMap quC = acc ++ quC (d : Int)) := by
        unfold Hid
        rw [take_snoc (by have := HN.out; omega), List.flatMap_append, HAC.out.1, ← hd]
        simp
      clear hd
      go_wp2_with fail
      refine Calls.mono HES.out ?_
      rintro r W1 ⟨rfl, hw⟩
      obtain rfl := hw.symm
      clear hw HES
      cases he : esc (d : Int) with
      | true =>
        have HNY : Hid ([34] ++ (l.take (i + 1)).flatMap quC = acc ++ [92] ++ [(d : Int)]) := by
          unfold Hid
          rw [HNX.out]
          unfold quC
          rw [he]
          simp
        clear he HNX
        have HV0 : Hid ((wr.alloc (.cells #[.int .u8 92] 5)).ownsRow w.heap.size 5 1 (.slice sa0 k sc0) k (bvs (acc))) := World.ownsRow.alloc HS0.out.1 _
        have HMW0 : Hid (∀ q u, [Value.int .u8 92][q]? = some u → (wr.alloc (.cells #[.int .u8 92] 5)).cell? ((⟨wr.heap.size, 0, none⟩ : Addr).add q) = some u) := World.news_of_block (cs := #[.int .u8 92]) (t := 5) (fr := (0, 0)) (heap_alloc_new wr _)
        have HSZ0 : Hid (w.heap.size ≤ (wr.alloc (.cells #[.int .u8 92] 5)).heap.size) := by
          have h9 := HS0.out.2.size
          unfold Hid
          simp
          omega
        have HF0 : Hid (∀ v' V, V.ownsRow w.heap.size 5 1 v' (k + 1) (bvs (acc) ++ [.int .u8 92]) → (wr.alloc (.cells #[.int .u8 92] 5)).grownBy V (Value.slice sa0 k sc0).ownBlock → V.ownsRow w.heap.size 5 1 v' (k + 1) (bvs (acc ++ [92])) ∧ Up w V) := fun v' V n1 n2 =>
          ⟨by rw [show bvs (acc ++ [92]) = bvs (acc) ++ [.int .u8 92] by simp [bvs]]; exact n1, Below.grown (HS0.out.2.alloc _) n2 (by have := HS0.out.2.size; simp; omega) (fun k9 hk => (World.ownsRow.lt HV0.out k9 hk).1)⟩
        go_upto_region 7 with (at_builtin; go_loud (refine wpList_append_own _ (by rfl) (.tmp 15) (.tmp 16) 26 (by rfl) w.heap.size 5 i5 _ 1 1 Tryz.underlying26 hi5 z0 z1 z2 (by rfl) (by decide) (.slice sa0 k sc0) k (bvs (acc)) (by rfl) HV0.out ⟨wr.heap.size, 0, none⟩ 1 1 [Value.int .u8 92] (by rfl) (by rfl) HMW0.out (by simp [Value.oneCell']) (by unfold maxLen; omega) (by omega) HSZ0.out ?_; intro v' V0 hin hg1 _; have HG0 : Hid (V0.ownsRow w.heap.size 5 1 v' (k + 1) (bvs (acc ++ [92])) ∧ Up w V0) := HF0.out v' V0 hin hg1; obtain ⟨fa0, fc0, hva⟩ : ∃ a c, v' = Value.slice a (k + 1) c := row_val hin; subst hva; clear hin hg1; skip))
        have HS1 : Hid (V0.ownsRow w.heap.size 5 1 (.slice fa0 (k + 1) fc0) (k + 1) (bvs (acc ++ [92])) ∧ Up w V0) := HG0.out
        obtain ⟨sa1, hsa1⟩ : ∃ a, a = fa0 := ⟨_, rfl⟩
        obtain ⟨sc1, hsc1⟩ : ∃ a, a = fc0 := ⟨_, rfl⟩
        subst hsa1 hsc1
        clear HV0 HMW0 HSZ0 HF0 HG0 HS0
        have HV1 : Hid ((V0.alloc (.cells #[.int .u8 (d : Int)] 5)).ownsRow w.heap.size 5 1 (.slice sa1 (k + 1) sc1) (k + 1) (bvs (acc ++ [92]))) := World.ownsRow.alloc HS1.out.1 _
        have HMW1 : Hid (∀ q u, [Value.int .u8 (d : Int)][q]? = some u → (V0.alloc (.cells #[.int .u8 (d : Int)] 5)).cell? ((⟨V0.heap.size, 0, none⟩ : Addr).add q) = some u) := World.news_of_block (cs := #[.int .u8 (d : Int)]) (t := 5) (fr := (0, 0)) (heap_alloc_new V0 _)
        have HSZ1 : Hid (w.heap.size ≤ (V0.alloc (.cells #[.int .u8 (d : Int)] 5)).heap.size) := by
          have h9 := HS1.out.2.size
          unfold Hid
          simp
          omega
        have HF1 : Hid (∀ v' V, V.ownsRow w.heap.size 5 1 v' ((k + 1) + 1) (bvs (acc ++ [92]) ++ [.int .u8 (d : Int)]) → (V0.alloc (.cells #[.int .u8 (d : Int)] 5)).grownBy V (Value.slice sa1 (k + 1) sc1).ownBlock → V.ownsRow w.heap.size 5 1 v' ((k + 1) + 1) (bvs (acc ++ [92] ++ [(d : Int)])) ∧ Up w V) := fun v' V n1 n2 =>
          ⟨by rw [show bvs (acc ++ [92] ++ [(d : Int)]) = bvs (acc ++ [92]) ++ [.int .u8 (d : Int)] by simp [bvs]]; exact n1, Below.grown (HS1.out.2.alloc _) n2 (by have := HS1.out.2.size; simp; omega) (fun k9 hk => (World.ownsRow.lt HV1.out k9 hk).1)⟩
        go_wp2_with (at_builtin; go_loud (refine wpList_append_own _ (by rfl) (.tmp 18) (.tmp 22) 26 (by rfl) w.heap.size 5 i5 _ 1 1 Tryz.underlying26 hi5 z0 z1 z2 (by rfl) (by decide) (.slice sa1 (k + 1) sc1) (k + 1) (bvs (acc ++ [92])) (by rfl) HV1.out ⟨V0.heap.size, 0, none⟩ 1 1 [Value.int .u8 (d : Int)] (by rfl) (by rfl) HMW1.out (by simp [Value.oneCell']) (by unfold maxLen; omega) (by omega) HSZ1.out ?_; intro v' V1 hin hg1 _; have HG1 : Hid (V1.ownsRow w.heap.size 5 1 v' ((k + 1) + 1) (bvs (acc ++ [92] ++ [(d : Int)])) ∧ Up w V1) := HF1.out v' V1 hin hg1; obtain ⟨fa1, fc1, hva⟩ : ∃ a c, v' = Value.slice a ((k + 1) + 1) c := row_val hin; subst hva; clear hin hg1; skip))
        go_roundw
        case rel => exact ⟨i + 1, k + 1 + 1, acc ++ [92] ++ [(d : Int)], fa1, fc1, by omega, by go_num, rfl, by rw [List.length_append, List.length_append, HAC.out.2]; rfl, by omega, HNY.out.symm, HG1.out.1, HG1.out.2⟩
        case measure => simp [intOf]; omega
      | false =>
        have HNY : Hid ([34] ++ (l.take (i + 1)).flatMap quC = acc ++ [(d : Int)]) := by
          unfold Hid
          rw [HNX.out]
          unfold quC
          rw [he]
          simp
        clear he HNX
        have HV0 : Hid ((wr.alloc (.cells #[.int .u8 (d : Int)] 5)).ownsRow w.heap.size 5 1 (.slice sa0 k sc0) k (bvs (acc))) := World.ownsRow.alloc HS0.out.1 _
        have HMW0 : Hid (∀ q u, [Value.int .u8 (d : Int)][q]? = some u → (wr.alloc (.cells #[.int .u8 (d : Int)] 5)).cell? ((⟨wr.heap.size, 0, none⟩ : Addr).add q) = some u) := World.news_of_block (cs := #[.int .u8 (d : Int)]) (t := 5) (fr := (0, 0)) (heap_alloc_new wr _)
        have HSZ0 : Hid (w.heap.size ≤ (wr.alloc (.cells #[.int .u8 (d : Int)] 5)).heap.size) := by
          have h9 := HS0.out.2.size
          unfold Hid
          simp
          omega
        have HF0 : Hid (∀ v' V, V.ownsRow w.heap.size 5 1 v' (k + 1) (bvs (acc) ++ [.int .u8 (d : Int)]) → (wr.alloc (.cells #[.int .u8 (d : Int)] 5)).grownBy V (Value.slice sa0 k sc0).ownBlock → V.ownsRow w.heap.size 5 1 v' (k + 1) (bvs (acc ++ [(d : Int)])) ∧ Up w V) := fun v' V n1 n2 =>
          ⟨by rw [show bvs (acc ++ [(d : Int)]) = bvs (acc) ++ [.int .u8 (d : Int)] by simp [bvs]]; exact n1, Below.grown (HS0.out.2.alloc _) n2 (by have := HS0.out.2.size; simp; omega) (fun k9 hk => (World.ownsRow.lt HV0.out k9 hk).1)⟩
        go_wp2_with (at_builtin; go_loud (refine wpList_append_own _ (by rfl) (.tmp 18) (.tmp 22) 26 (by rfl) w.heap.size 5 i5 _ 1 1 Tryz.underlying26 hi5 z0 z1 z2 (by rfl) (by decide) (.slice sa0 k sc0) k (bvs (acc)) (by rfl) HV0.out ⟨wr.heap.size, 0, none⟩ 1 1 [Value.int .u8 (d : Int)] (by rfl) (by rfl) HMW0.out (by simp [Value.oneCell']) (by unfold maxLen; omega) (by omega) HSZ0.out ?_; intro v' V0 hin hg1 _; have HG0 : Hid (V0.ownsRow w.heap.size 5 1 v' (k + 1) (bvs (acc ++ [(d : Int)])) ∧ Up w V0) := HF0.out v' V0 hin hg1; obtain ⟨fa0, fc0, hva⟩ : ∃ a c, v' = Value.slice a (k + 1) c := row_val hin; subst hva; clear hin hg1; skip))
        go_roundw
        case rel => exact ⟨i + 1, k + 1, acc ++ [(d : Int)], fa0, fc0, by omega, by go_num, rfl, by rw [List.length_append, HAC.out.2]; rfl, by omega, HNY.out.symm, HG0.out.1, HG0.out.2⟩
        case measure => simp [intOf]; omega
    · have hlt2 : ¬ (i : Int) < (n : Int) := by omega
      obtain rfl : i = n := by omega
      have HNX : Hid (acc ++ [34] = quo l) := by
        unfold Hid quo
        rw [HAC.out.1, HN.out, List.take_length]
        simp
      have HV0 : Hid ((wr.alloc (.cells #[.int .u8 34] 5)).ownsRow w.heap.size 5 1 (.slice sa0 k sc0) k (bvs (acc))) := World.ownsRow.alloc HS0.out.1 _
      have HMW0 : Hid (∀ q u, [Value.int .u8 34][q]? = some u → (wr.alloc (.cells #[.int .u8 34] 5)).cell? ((⟨wr.heap.size, 0, none⟩ : Addr).add q) = some u) := World.news_of_block (cs := #[.int .u8 34]) (t := 5) (fr := (0, 0)) (heap_alloc_new wr _)
      have HSZ0 : Hid (w.heap.size ≤ (wr.alloc (.cells #[.int .u8 34] 5)).heap.size) := by
        have h9 := HS0.out.2.size
        unfold Hid
        simp
        omega
      have HF0 : Hid (∀ v' V, V.ownsRow w.heap.size 5 1 v' (k + 1) (bvs (acc) ++ [.int .u8 34]) → (wr.alloc (.cells #[.int .u8 34] 5)).grownBy V (Value.slice sa0 k sc0).ownBlock → V.ownsRow w.heap.size 5 1 v' (k + 1) (bvs (acc ++ [34])) ∧ Up w V) := fun v' V n1 n2 =>
        ⟨by rw [show bvs (acc ++ [34]) = bvs (acc) ++ [.int .u8 34] by simp [bvs]]; exact n1, Below.grown (HS0.out.2.alloc _) n2 (by have := HS0.out.2.size; simp; omega) (fun k9 hk => (World.ownsRow.lt HV0.out k9 hk).1)⟩
      go_wp2_with (at_builtin; go_loud (refine wpList_append_own _ (by rfl) (.tmp 25) (.tmp 26) 26 (by rfl) w.heap.size 5 i5 _ 1 1 Tryz.underlying26 hi5 z0 z1 z2 (by rfl) (by decide) (.slice sa0 k sc0) k (bvs (acc)) (by rfl) HV0.out ⟨wr.heap.size, 0, none⟩ 1 1 [Value.int .u8 34] (by rfl) (by rfl) HMW0.out (by simp [Value.oneCell']) (by unfold maxLen; omega) (by omega) HSZ0.out ?_; intro v' V0 hin hg1 _; have HG0 : Hid (V0.ownsRow w.heap.size 5 1 v' (k + 1) (bvs (acc ++ [34])) ∧ Up w V0) := HF0.out v' V0 hin hg1; obtain ⟨fa0, fc0, hva⟩ : ∃ a c, v' = Value.slice a (k + 1) c := row_val hin; subst hva; clear hin hg1; have hcv := conv_own (l := acc ++ [34]) (by rw [List.length_append, HAC.out.2]; exact HG0.out.1)))
      rw [HPo.out]
      exact ⟨by rw [← HNX.out] <;> rfl, HG0.out.2⟩
end TK
end Go.Proofs.YtkldllnnocdhbaaGreatDoor
