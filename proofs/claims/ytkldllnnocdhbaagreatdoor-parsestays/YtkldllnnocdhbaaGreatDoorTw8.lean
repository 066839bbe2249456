/-
  How a token is written.
-/
import Derived.Test.YtkldllnnocdhbaaGreatDoorCq8
import Derived.Test.YtkldllnnocdhbaaGreatDoorRy8
import Derived.Lib.ItoaLen
import Derived.Deep.Cut
import Derived.Test.YtkldllnnocdhbaaGreatDoorTt8
namespace Go.Proofs.YtkldllnnocdhbaaGreatDoor
open Go.RowKit
attribute [local go_sem ↓] Go.wp_at_zero Go.wp_at_succ
namespace TK
def TabP (W : World) : Prop := Lib.TabIs Tryz.prog W "internal/strconv.uint64pow10" .u64 Lib.pow10Tab
theorem gPow : Tryz.prog.globalNamed "internal/strconv.uint64pow10" = some 1 := by kernel_rfl
theorem TabP.up {w W : World} (h : TabP w) (u : Up w W) : TabP W := by
  unfold TabP Lib.TabIs World.var? at h ⊢
  rw [gPow] at h ⊢
  simp only [Option.bind_some] at h ⊢
  have hlt : 1 < w.heap.size := by
    rcases Nat.lt_or_ge 1 w.heap.size with h' | h'
    · exact h'
    · rw [Array.getElem?_eq_none h'] at h; cases h
  rw [u.block 1 hlt]
  exact h
theorem grow_up (w : World) (k : Nat) (os : Array Obj) : Up w (Go.Sort.grow (w.drewN k) os) :=
  ⟨rfl, rfl, rfl, by show w.heap.size ≤ (w.heap ++ os).size; simp, fun g hg => by show (w.heap ++ os)[g]? = _; rw [Array.getElem?_append_left hg]⟩
theorem fmt_ (n : Int) (h0 : -9223372036854775808 ≤ n) (h1 : n ≤ 9223372036854775807) (w : World) (hT : TabP w) : Calls Tryz.prog 128 #[.int .i64 n, .int .i64 10] w fun e w' => e = .returned (.string (strOfNums (dcm n))) ∧ Up w w' := by
  refine Calls.mono (Any.strconv_FormatInt_10 Tryz.laysM173 n h0 h1 w hT) ?_
  rintro e w' ⟨rfl, k, os, rfl⟩
  exact ⟨by rw [dcm_str], grow_up w k os⟩
set_option maxRecDepth 100000 in
set_option maxHeartbeats 8000000 in
theorem clone_ (s : ByteArray) (w : World) (h : s.size ≤ 281474976710656) : Calls Tryz.prog 131 #[.string s] w fun e w' => e = .returned (.string s) ∧ Up w w' := by
  have H : Hid (Calls Tryz.prog 164 #[.string s] w fun e w' => e = .returned (.string s) ∧ Up w w') := Any.stringslite_Clone Tryz.laysM316 s w h
  clear h
  go_enter Tryz.func131, Tryz.ntmps131
  go_wp2_with fail
  refine Calls.mono H.out ?_
  rintro e w' ⟨rfl, u⟩
  go_wp2
  go_ret
  exact ⟨rfl, u⟩
theorem own_one (w : World) : (w.alloc (.cells #[.int .u8 34] 5)).ownsRow w.heap.size 5 1 (.slice (some ⟨w.heap.size, 0, none⟩) 1 1) 1 (bvs [34]) :=
  ⟨rfl, .inr ⟨w.heap.size, 1, #[.int .u8 34], rfl, Nat.le_refl _, heap_alloc_new _ _, by omega, by unfold maxLen; omega, rfl, rfl⟩⟩
set_option maxRecDepth 100000 in
set_option maxHeartbeats 8000000 in
theorem quoted_ (l : List Int) (w : World) (hl : Byt l) (hn : l.length ≤ 64) : Calls Tryz.prog 133 #[.string (strOfNums l)] w fun e w' => e = .returned (.string (strOfNums (quo l))) ∧ Up w w' := by
  obtain ⟨Post, hPost⟩ : ∃ P : Ending → World → Prop, P = fun e w' => e = .returned (.string (strOfNums (quo l))) ∧ Up w w' := ⟨_, rfl⟩
  rw [← hPost]
  have HPo : Hid (Post = fun e w' => e = .returned (.string (strOfNums (quo l))) ∧ Up w w') := hPost
  clear hPost
  obtain ⟨i5, hi5, z0, z1, z2⟩ := info_parts SM.info5
  obtain ⟨s, hs⟩ : ∃ s, s = strOfNums l := ⟨_, rfl⟩
  have hsz : s.size = l.length := by rw [hs, strOfNums_size]
  have HBT : Hid (∀ i, i < l.length → ∃ d : Nat, (d : Int) = l.getD i 0 ∧ ∀ h : i < s.size, (s[i]'h).toNat = d) := fun i hi => by
    have h1 := hl.at i
    refine ⟨(l.getD i 0).toNat, by omega, fun h => ?_⟩
    subst hs
    have h2 := nums_at hl hi h
    omega
  rw [← hs]
  obtain ⟨n, hN⟩ : ∃ n, n = l.length := ⟨_, rfl⟩
  have HN : Hid (n = l.length) := hN
  rw [← hN] at hsz hn HBT
  clear hs hN hl
  go_enter Tryz.func133, Tryz.ntmps133
  go_wp2_with fail
  go_loopw [3, 8] (fun s3 s8 W => ∃ (i k : Nat) (acc : List Int) (sa : Option Addr) (sc : Nat), i ≤ n ∧ s8 = .int .i64 i ∧ s3 = .slice sa k sc ∧ acc.length = k ∧ k ≤ 1 + 2 * i ∧ acc = [34] ++ (l.take i).flatMap quC ∧ W.ownsRow w.heap.size 5 1 (.slice sa k sc) k (bvs acc) ∧ Up w W) (fun _ s8 _ => n - (intOf s8).toNat)
  case atStart => exact ⟨0, 1, [34], some ⟨w.heap.size, 0, none⟩, 1, Nat.zero_le _, rfl, rfl, rfl, by omega, rfl, own_one w, (Up.refl _).alloc _⟩
  case round =>
    obtain ⟨i, k, acc, sa0, sc0, hi, rfl, rfl, hk, hki, hacc, hrow, hu⟩ := hrel
    have HS0 : Hid (wr.ownsRow w.heap.size 5 1 (.slice sa0 k sc0) k (bvs acc) ∧ Up w wr) := ⟨hrow, hu⟩
    have HAC : Hid (acc = [34] ++ (l.take i).flatMap quC ∧ acc.length = k) := ⟨hacc, hk⟩
    clear hrow hu hacc hk
    by_cases hlt : i < n
    · have hlt2 : (i : Int) < (n : Int) := by omega
      obtain ⟨d, hd, hx⟩ := HBT.out i hlt
      have ei : IntKind.i64.wrap ((i : Int) + 1) = ((i + 1 : Nat) : Int) := by rw [IntKind.wrap_i64]; omega
      have HES : Hid (Calls Tryz.prog 166 #[.int .u8 (d : Int)] wr fun e w' => e = .returned (.bool (esc (d : Int))) ∧ w' = wr) := isEscaped_ _ wr
      have HNX : Hid ([34] ++ (l.take (i + 1)).flatMap quC = acc ++ quC (d : Int)) := by
        unfold Hid
        rw [take_snoc (by have := HN.out; omega), List.flatMap_append, HAC.out.1, ← hd]
        simp
      clear hd
      go_wp2_with fail
      refine Calls.mono HES.out ?_
      rintro r W1 ⟨rfl, hw⟩
      obtain rfl := hw.symm
      clear hw HES
      cases he : esc (d : Int) with
      | true =>
        have HNY : Hid ([34] ++ (l.take (i + 1)).flatMap quC = acc ++ [92] ++ [(d : Int)]) := by
          unfold Hid
          rw [HNX.out]
          unfold quC
          rw [he]
          simp
        clear he HNX
        have HV0 : Hid ((wr.alloc (.cells #[.int .u8 92] 5)).ownsRow w.heap.size 5 1 (.slice sa0 k sc0) k (bvs (acc))) := World.ownsRow.alloc HS0.out.1 _
        have HMW0 : Hid (∀ q u, [Value.int .u8 92][q]? = some u → (wr.alloc (.cells #[.int .u8 92] 5)).cell? ((⟨wr.heap.size, 0, none⟩ : Addr).add q) = some u) := World.news_of_block (cs := #[.int .u8 92]) (t := 5) (fr := (0, 0)) (heap_alloc_new wr _)
        have HSZ0 : Hid (w.heap.size ≤ (wr.alloc (.cells #[.int .u8 92] 5)).heap.size) := by
          have h9 := HS0.out.2.size
          unfold Hid
          simp
          omega
        have HF0 : Hid (∀ v' V, V.ownsRow w.heap.size 5 1 v' (k + 1) (bvs (acc) ++ [.int .u8 92]) → (wr.alloc (.cells #[.int .u8 92] 5)).grownBy V (Value.slice sa0 k sc0).ownBlock → V.ownsRow w.heap.size 5 1 v' (k + 1) (bvs (acc ++ [92])) ∧ Up w V) := fun v' V n1 n2 =>
          ⟨by rw [show bvs (acc ++ [92]) = bvs (acc) ++ [.int .u8 92] by simp [bvs]]; exact n1, Below.grown (HS0.out.2.alloc _) n2 (by have := HS0.out.2.size; simp; omega) (fun k9 hk => (World.ownsRow.lt HV0.out k9 hk).1)⟩
        go_upto_region 7 with (at_builtin; go_loud (refine wpList_append_own _ (by rfl) (.tmp 15) (.tmp 16) 26 (by rfl) w.heap.size 5 i5 _ 1 1 Tryz.underlying26 hi5 z0 z1 z2 (by rfl) (by decide) (.slice sa0 k sc0) k (bvs (acc)) (by rfl) HV0.out ⟨wr.heap.size, 0, none⟩ 1 1 [Value.int .u8 92] (by rfl) (by rfl) HMW0.out (by simp [Value.oneCell']) (by unfold maxLen; omega) (by omega) HSZ0.out ?_; intro v' V0 hin hg1 _; have HG0 : Hid (V0.ownsRow w.heap.size 5 1 v' (k + 1) (bvs (acc ++ [92])) ∧ Up w V0) := HF0.out v' V0 hin hg1; obtain ⟨fa0, fc0, hva⟩ : ∃ a c, v' = Value.slice a (k + 1) c := row_val hin; subst hva; clear hin hg1; skip))
        have HS1 : Hid (V0.ownsRow w.heap.size 5 1 (.slice fa0 (k + 1) fc0) (k + 1) (bvs (acc ++ [92])) ∧ Up w V0) := HG0.out
        obtain ⟨sa1, hsa1⟩ : ∃ a, a = fa0 := ⟨_, rfl⟩
        obtain ⟨sc1, hsc1⟩ : ∃ a, a = fc0 := ⟨_, rfl⟩
        subst hsa1 hsc1
        clear HV0 HMW0 HSZ0 HF0 HG0 HS0
        have HV1 : Hid ((V0.alloc (.cells #[.int .u8 (d : Int)] 5)).ownsRow w.heap.size 5 1 (.slice sa1 (k + 1) sc1) (k + 1) (bvs (acc ++ [92]))) := World.ownsRow.alloc HS1.out.1 _
        have HMW1 : Hid (∀ q u, [Value.int .u8 (d : Int)][q]? = some u → (V0.alloc (.cells #[.int .u8 (d : Int)] 5)).cell? ((⟨V0.heap.size, 0, none⟩ : Addr).add q) = some u) := World.news_of_block (cs := #[.int .u8 (d : Int)]) (t := 5) (fr := (0, 0)) (heap_alloc_new V0 _)
        have HSZ1 : Hid (w.heap.size ≤ (V0.alloc (.cells #[.int .u8 (d : Int)] 5)).heap.size) := by
          have h9 := HS1.out.2.size
          unfold Hid
          simp
          omega
        have HF1 : Hid (∀ v' V, V.ownsRow w.heap.size 5 1 v' ((k + 1) + 1) (bvs (acc ++ [92]) ++ [.int .u8 (d : Int)]) → (V0.alloc (.cells #[.int .u8 (d : Int)] 5)).grownBy V (Value.slice sa1 (k + 1) sc1).ownBlock → V.ownsRow w.heap.size 5 1 v' ((k + 1) + 1) (bvs (acc ++ [92] ++ [(d : Int)])) ∧ Up w V) := fun v' V n1 n2 =>
          ⟨by rw [show bvs (acc ++ [92] ++ [(d : Int)]) = bvs (acc ++ [92]) ++ [.int .u8 (d : Int)] by simp [bvs]]; exact n1, Below.grown (HS1.out.2.alloc _) n2 (by have := HS1.out.2.size; simp; omega) (fun k9 hk => (World.ownsRow.lt HV1.out k9 hk).1)⟩
        go_wp2_with (at_builtin; go_loud (refine wpList_append_own _ (by rfl) (.tmp 18) (.tmp 22) 26 (by rfl) w.heap.size 5 i5 _ 1 1 Tryz.underlying26 hi5 z0 z1 z2 (by rfl) (by decide) (.slice sa1 (k + 1) sc1) (k + 1) (bvs (acc ++ [92])) (by rfl) HV1.out ⟨V0.heap.size, 0, none⟩ 1 1 [Value.int .u8 (d : Int)] (by rfl) (by rfl) HMW1.out (by simp [Value.oneCell']) (by unfold maxLen; omega) (by omega) HSZ1.out ?_; intro v' V1 hin hg1 _; have HG1 : Hid (V1.ownsRow w.heap.size 5 1 v' ((k + 1) + 1) (bvs (acc ++ [92] ++ [(d : Int)])) ∧ Up w V1) := HF1.out v' V1 hin hg1; obtain ⟨fa1, fc1, hva⟩ : ∃ a c, v' = Value.slice a ((k + 1) + 1) c := row_val hin; subst hva; clear hin hg1; skip))
        go_roundw
        case rel => exact ⟨i + 1, k + 1 + 1, acc ++ [92] ++ [(d : Int)], fa1, fc1, by omega, by go_num, rfl, by rw [List.length_append, List.length_append, HAC.out.2]; rfl, by omega, HNY.out.symm, HG1.out.1, HG1.out.2⟩
        case measure => simp [intOf]; omega
      | false =>
        have HNY : Hid ([34] ++ (l.take (i + 1)).flatMap quC = acc ++ [(d : Int)]) := by
          unfold Hid
          rw [HNX.out]
          unfold quC
          rw [he]
          simp
        clear he HNX
        have HV0 : Hid ((wr.alloc (.cells #[.int .u8 (d : Int)] 5)).ownsRow w.heap.size 5 1 (.slice sa0 k sc0) k (bvs (acc))) := World.ownsRow.alloc HS0.out.1 _
        have HMW0 : Hid (∀ q u, [Value.int .u8 (d : Int)][q]? = some u → (wr.alloc (.cells #[.int .u8 (d : Int)] 5)).cell? ((⟨wr.heap.size, 0, none⟩ : Addr).add q) = some u) := World.news_of_block (cs := #[.int .u8 (d : Int)]) (t := 5) (fr := (0, 0)) (heap_alloc_new wr _)
        have HSZ0 : Hid (w.heap.size ≤ (wr.alloc (.cells #[.int .u8 (d : Int)] 5)).heap.size) := by
          have h9 := HS0.out.2.size
          unfold Hid
          simp
          omega
        have HF0 : Hid (∀ v' V, V.ownsRow w.heap.size 5 1 v' (k + 1) (bvs (acc) ++ [.int .u8 (d : Int)]) → (wr.alloc (.cells #[.int .u8 (d : Int)] 5)).grownBy V (Value.slice sa0 k sc0).ownBlock → V.ownsRow w.heap.size 5 1 v' (k + 1) (bvs (acc ++ [(d : Int)])) ∧ Up w V) := fun v' V n1 n2 =>
          ⟨by rw [show bvs (acc ++ [(d : Int)]) = bvs (acc) ++ [.int .u8 (d : Int)] by simp [bvs]]; exact n1, Below.grown (HS0.out.2.alloc _) n2 (by have := HS0.out.2.size; simp; omega) (fun k9 hk => (World.ownsRow.lt HV0.out k9 hk).1)⟩
        go_wp2_with (at_builtin; go_loud (refine wpList_append_own _ (by rfl) (.tmp 18) (.tmp 22) 26 (by rfl) w.heap.size 5 i5 _ 1 1 Tryz.underlying26 hi5 z0 z1 z2 (by rfl) (by decide) (.slice sa0 k sc0) k (bvs (acc)) (by rfl) HV0.out ⟨wr.heap.size, 0, none⟩ 1 1 [Value.int .u8 (d : Int)] (by rfl) (by rfl) HMW0.out (by simp [Value.oneCell']) (by unfold maxLen; omega) (by omega) HSZ0.out ?_; intro v' V0 hin hg1 _; have HG0 : Hid (V0.ownsRow w.heap.size 5 1 v' (k + 1) (bvs (acc ++ [(d : Int)])) ∧ Up w V0) := HF0.out v' V0 hin hg1; obtain ⟨fa0, fc0, hva⟩ : ∃ a c, v' = Value.slice a (k + 1) c := row_val hin; subst hva; clear hin hg1; skip))
        go_roundw
        case rel => exact ⟨i + 1, k + 1, acc ++ [(d : Int)], fa0, fc0, by omega, by go_num, rfl, by rw [List.length_append, HAC.out.2]; rfl, by omega, HNY.out.symm, HG0.out.1, HG0.out.2⟩
        case measure => simp [intOf]; omega
    · have hlt2 : ¬ (i : Int) < (n : Int) := by omega
      obtain rfl : i = n := by omega
      have HNX : Hid (acc ++ [34] = quo l) := by
        unfold Hid quo
        rw [HAC.out.1, HN.out, List.take_length]
        simp
      have HV0 : Hid ((wr.alloc (.cells #[.int .u8 34] 5)).ownsRow w.heap.size 5 1 (.slice sa0 k sc0) k (bvs (acc))) := World.ownsRow.alloc HS0.out.1 _
      have HMW0 : Hid (∀ q u, [Value.int .u8 34][q]? = some u → (wr.alloc (.cells #[.int .u8 34] 5)).cell? ((⟨wr.heap.size, 0, none⟩ : Addr).add q) = some u) := World.news_of_block (cs := #[.int .u8 34]) (t := 5) (fr := (0, 0)) (heap_alloc_new wr _)
      have HSZ0 : Hid (w.heap.size ≤ (wr.alloc (.cells #[.int .u8 34] 5)).heap.size) := by
        have h9 := HS0.out.2.size
        unfold Hid
        simp
        omega
      have HF0 : Hid (∀ v' V, V.ownsRow w.heap.size 5 1 v' (k + 1) (bvs (acc) ++ [.int .u8 34]) → (wr.alloc (.cells #[.int .u8 34] 5)).grownBy V (Value.slice sa0 k sc0).ownBlock → V.ownsRow w.heap.size 5 1 v' (k + 1) (bvs (acc ++ [34])) ∧ Up w V) := fun v' V n1 n2 =>
        ⟨by rw [show bvs (acc ++ [34]) = bvs (acc) ++ [.int .u8 34] by simp [bvs]]; exact n1, Below.grown (HS0.out.2.alloc _) n2 (by have := HS0.out.2.size; simp; omega) (fun k9 hk => (World.ownsRow.lt HV0.out k9 hk).1)⟩
      go_wp2_with (at_builtin; go_loud (refine wpList_append_own _ (by rfl) (.tmp 25) (.tmp 26) 26 (by rfl) w.heap.size 5 i5 _ 1 1 Tryz.underlying26 hi5 z0 z1 z2 (by rfl) (by decide) (.slice sa0 k sc0) k (bvs (acc)) (by rfl) HV0.out ⟨wr.heap.size, 0, none⟩ 1 1 [Value.int .u8 34] (by rfl) (by rfl) HMW0.out (by simp [Value.oneCell']) (by unfold maxLen; omega) (by omega) HSZ0.out ?_; intro v' V0 hin hg1 _; have HG0 : Hid (V0.ownsRow w.heap.size 5 1 v' (k + 1) (bvs (acc ++ [34])) ∧ Up w V0) := HF0.out v' V0 hin hg1; obtain ⟨fa0, fc0, hva⟩ : ∃ a c, v' = Value.slice a (k + 1) c := row_val hin; subst hva; clear hin hg1; have hcv := conv_own (l := acc ++ [34]) (by rw [List.length_append, HAC.out.2]; exact HG0.out.1)))
      rw [HPo.out]
      exact ⟨by rw [← HNX.out] <;> rfl, HG0.out.2⟩
end TK
end Go.Proofs.YtkldllnnocdhbaaGreatDoor
namespace Go.Proofs.YtkldllnnocdhbaaGreatDoor
open Go.RowKit
attribute [local go_sem ↓] Go.wp_at_zero Go.wp_at_succ
namespace TK
set_option maxRecDepth 100000 in
set_option maxHeartbeats 8000000 in
theorem text8_ (k : Int) (l : List Int) (n p : Int) (w : World) (hl : Byt l) (hln : l.length ≤ 281474976710656) (hn0 : -9223372036854775808 ≤ n) (hn1 : n ≤ 9223372036854775807) (hT : TabP w) :
    Calls Tryz.prog 89 #[.agg #[.int .i8 k, .string (strOfNums l), .int .i64 n, .int .i64 p]] w fun e w' => e = .returned (.string (strOfNums (tex ⟨k, l, n, p⟩))) ∧ Up w w' := by
  obtain ⟨Post, hPost⟩ : ∃ P : Ending → World → Prop, P = fun e w' => e = .returned (.string (strOfNums (tex ⟨k, l, n, p⟩))) ∧ Up w w' := ⟨_, rfl⟩
  rw [← hPost]
  have HPo : Hid (Post = fun e w' => e = .returned (.string (strOfNums (tex ⟨k, l, n, p⟩))) ∧ Up w w') := hPost
  clear hPost
  have HT : Hid (TabP w) := hT
  have HIN : Hid (∀ W, Calls Tryz.prog 129 #[.string (strOfNums l)] W fun e w' => e = .returned (.bool (okN l)) ∧ Up W w') := fun W => isName_ l W hl hln
  have HIT : Hid (∀ W, Calls Tryz.prog 132 #[.string (strOfNums l)] W fun e w' => e = .returned (.bool (okT l)) ∧ Up W w') := fun W => isText_ l W hl hln
  have HIM : Hid (∀ W, Calls Tryz.prog 130 #[.string (strOfNums l)] W fun e w' => e = .returned (.bool (mrk l)) ∧ Up W w') := fun W => Calls.mono (isMark_ (strOfNums l) W) (fun e w' h => by
    obtain ⟨h1, h2⟩ := h
    subst h2
    exact ⟨by rw [h1, mrk_is hl], Up.refl _⟩)
  have HCL : Hid (∀ W, Calls Tryz.prog 131 #[.string (strOfNums l)] W fun e w' => e = .returned (.string (strOfNums l)) ∧ Up W w') := fun W => clone_ _ W (by rw [strOfNums_size]; exact hln)
  have HQU : Hid (okT l = true → ∀ W, Calls Tryz.prog 133 #[.string (strOfNums l)] W fun e w' => e = .returned (.string (strOfNums (quo l))) ∧ Up W w') := fun h9 W => quoted_ l W hl (by
    unfold okT at h9
    simp only [Bool.and_eq_true, decide_eq_true_eq] at h9
    exact h9.1)
  have hni : (strOfNums l).toList = [] ↔ l = [] := nums_nil
  have HXE : Hid (∀ e : Bool, e = (strOfNums l).toList.isEmpty → (e = true ↔ l = [])) := fun e h9 => by
    rw [h9, List.isEmpty_iff]
    exact hni
  have hte := HXE.out _ rfl
  obtain ⟨te, hte2⟩ : ∃ e, (strOfNums l).toList.isEmpty = e := ⟨_, rfl⟩
  rw [hte2] at hte
  have HLS : Hid (strOfNums [] = ⟨#[]⟩) := rfl
  obtain ⟨s, hs⟩ : ∃ s, strOfNums l = s := ⟨_, rfl⟩
  rw [hs] at HIN HIT HIM HCL HQU hte2 ⊢
  have HSS : Hid (strOfNums l = s) := hs
  obtain ⟨W0, hW0⟩ : ∃ W0, w.alloc (.cells #[.int .i8 k, .string s, .int .i64 n, .int .i64 p] 45) = W0 := ⟨_, rfl⟩
  have gB : W0.heap[w.heap.size]? = some (.cells #[.int .i8 k, .string s, .int .i64 n, .int .i64 p] 45 (0, 0)) := by rw [← hW0]; exact heap_alloc_new _ _
  have HU : Hid (Up w W0) := by unfold Hid; rw [← hW0]; exact (Up.refl _).alloc _
  have x0 : W0.cell? ⟨w.heap.size, 0, none⟩ = some (.int .i8 k) := by simp only [World.cell?, gB]; rfl
  have x1 : W0.cell? ⟨w.heap.size, 1, none⟩ = some (.string s) := by simp only [World.cell?, gB]; rfl
  have x2 : W0.cell? ⟨w.heap.size, 2, none⟩ = some (.int .i64 n) := by simp only [World.cell?, gB]; rfl
  have x3 : W0.cell? ⟨w.heap.size, 3, none⟩ = some (.int .i64 p) := by simp only [World.cell?, gB]; rfl
  clear hT hl hln hni HXE hs
  by_cases hp : p < 0
  · have HQ : Hid (tex ⟨k, l, n, p⟩ = []) := by unfold Hid tex; rw [if_pos (.inl hp)]
    go_enter Tryz.func89, Tryz.ntmps89
    go_wp2_with fail
    rw [HPo.out]
    exact ⟨by rw [HQ.out] <;> rfl, HU.out⟩
  · by_cases hn : n < 0
    · have HQ : Hid (tex ⟨k, l, n, p⟩ = []) := by unfold Hid tex; rw [if_pos (.inr hn)]
      go_enter Tryz.func89, Tryz.ntmps89
      go_wp2_with fail
      rw [HPo.out]
      exact ⟨by rw [HQ.out] <;> rfl, HU.out⟩
    · have HQ0 : Hid (tex ⟨k, l, n, p⟩ = if k = 2 ∧ l = [] then dcm n else if n ≠ 0 then [] else if (k = 1 ∧ okN l = true) ∨ (k = 4 ∧ mrk l = true) then l else if k = 3 ∧ okT l = true then quo l else []) := by
        unfold Hid tex
        rw [if_neg (fun h9 => by rcases h9 with h9 | h9 <;> contradiction)]
      by_cases hk2 : k = 2
      · subst hk2
        cases te with
        | true =>
          have HQ : Hid (tex ⟨2, l, n, p⟩ = dcm n) := by unfold Hid; rw [HQ0.out, if_pos ⟨rfl, hte.1 rfl⟩]
          have HFM : Hid (Calls Tryz.prog 128 #[.int .i64 n, .int .i64 10] W0 fun e w' => e = .returned (.string (strOfNums (dcm n))) ∧ Up W0 w') := fmt_ n hn0 hn1 W0 (HT.out.up HU.out)
          clear hte
          go_enter Tryz.func89, Tryz.ntmps89
          go_wp2_with fail
          first | refine calls_world hW0 (Calls.mono HFM.out ?_) | refine Calls.mono HFM.out ?_
          rintro r W1 ⟨rfl, u⟩
          have HU : Hid (Up w W1) := HU.out.trans u
          clear u
          go_wp2_with fail
          rw [HPo.out]
          exact ⟨by rw [HQ.out] <;> rfl, HU.out⟩
        | false =>
          have HQ : Hid (tex ⟨2, l, n, p⟩ = []) := by
            unfold Hid
            rw [HQ0.out, if_neg (fun h9 => by have := hte.2 h9.2; cases this)]
            by_cases hnz : n = 0
            · rw [if_neg (fun h9 => h9 hnz), if_neg (by omega), if_neg (by omega)]
            · rw [if_pos hnz]
          clear hte
          by_cases hnz : n = 0
          · subst hnz
            go_enter Tryz.func89, Tryz.ntmps89
            go_wp2_with fail
            rw [HPo.out]
            exact ⟨by rw [HQ.out] <;> rfl, HU.out⟩
          · have hnz2 : (n != 0) = true := by simpa using hnz
            go_enter Tryz.func89, Tryz.ntmps89
            go_wp2_with fail
            rw [HPo.out]
            exact ⟨by rw [HQ.out] <;> rfl, HU.out⟩
      · have hk2b : (k == 2) = false := by simpa using hk2
        by_cases hnz : n = 0
        · subst hnz
          have HQ1 : Hid (tex ⟨k, l, 0, p⟩ = if (k = 1 ∧ okN l = true) ∨ (k = 4 ∧ mrk l = true) then l else if k = 3 ∧ okT l = true then quo l else []) := by
            unfold Hid
            rw [HQ0.out, if_neg (fun h9 => hk2 h9.1), if_neg (fun h9 => h9 rfl)]
          clear HQ0 hte hn0 hn1
          by_cases hk1 : k = 1
          · subst hk1
            cases hok : okN l with
            | true =>
              have HQ : Hid (tex ⟨1, l, 0, p⟩ = l) := by unfold Hid; rw [HQ1.out, if_pos (.inl ⟨rfl, hok⟩)]
              rw [hok] at HIN
              clear hok
              go_enter Tryz.func89, Tryz.ntmps89
              go_wp2_with fail
              first | refine calls_world hW0 (Calls.mono (HIN.out _) ?_) | refine Calls.mono (HIN.out _) ?_
              rintro r W1 ⟨rfl, u⟩
              have HU : Hid (Up w W1) := HU.out.trans u
              have gB := u.heap gB
              have x0 : W1.cell? ⟨w.heap.size, 0, none⟩ = some (.int .i8 1) := by simp only [World.cell?, gB]; rfl
              have x1 : W1.cell? ⟨w.heap.size, 1, none⟩ = some (.string s) := by simp only [World.cell?, gB]; rfl
              have x2 : W1.cell? ⟨w.heap.size, 2, none⟩ = some (.int .i64 0) := by simp only [World.cell?, gB]; rfl
              clear u
              go_wp2_with fail
              refine Calls.mono (HCL.out _) ?_
              rintro r W2 ⟨rfl, u⟩
              have HU : Hid (Up w W2) := HU.out.trans u
              clear u
              go_wp2_with fail
              rw [HPo.out]
              exact ⟨by rw [HQ.out, HSS.out] <;> rfl, HU.out⟩
            | false =>
              have HQ : Hid (tex ⟨1, l, 0, p⟩ = []) := by unfold Hid; rw [HQ1.out, hok, if_neg (by simp), if_neg (by simp)]
              rw [hok] at HIN
              clear hok
              go_enter Tryz.func89, Tryz.ntmps89
              go_wp2_with fail
              first | refine calls_world hW0 (Calls.mono (HIN.out _) ?_) | refine Calls.mono (HIN.out _) ?_
              rintro r W1 ⟨rfl, u⟩
              have HU : Hid (Up w W1) := HU.out.trans u
              have gB := u.heap gB
              have x0 : W1.cell? ⟨w.heap.size, 0, none⟩ = some (.int .i8 1) := by simp only [World.cell?, gB]; rfl
              have x1 : W1.cell? ⟨w.heap.size, 1, none⟩ = some (.string s) := by simp only [World.cell?, gB]; rfl
              have x2 : W1.cell? ⟨w.heap.size, 2, none⟩ = some (.int .i64 0) := by simp only [World.cell?, gB]; rfl
              clear u
              go_wp2_with fail
              rw [HPo.out]
              exact ⟨by rw [HQ.out] <;> rfl, HU.out⟩
          · have hk1b : (k == 1) = false := by simpa using hk1
            by_cases hk4 : k = 4
            · subst hk4
              cases hok : mrk l with
              | true =>
                have HQ : Hid (tex ⟨4, l, 0, p⟩ = l) := by unfold Hid; rw [HQ1.out, if_pos (.inr ⟨rfl, hok⟩)]
                rw [hok] at HIM
                clear hok
                go_enter Tryz.func89, Tryz.ntmps89
                go_wp2_with fail
                first | refine calls_world hW0 (Calls.mono (HIM.out _) ?_) | refine Calls.mono (HIM.out _) ?_
                rintro r W1 ⟨rfl, u⟩
                have HU : Hid (Up w W1) := HU.out.trans u
                have gB := u.heap gB
                have x0 : W1.cell? ⟨w.heap.size, 0, none⟩ = some (.int .i8 4) := by simp only [World.cell?, gB]; rfl
                have x1 : W1.cell? ⟨w.heap.size, 1, none⟩ = some (.string s) := by simp only [World.cell?, gB]; rfl
                have x2 : W1.cell? ⟨w.heap.size, 2, none⟩ = some (.int .i64 0) := by simp only [World.cell?, gB]; rfl
                clear u
                go_wp2_with fail
                refine Calls.mono (HCL.out _) ?_
                rintro r W2 ⟨rfl, u⟩
                have HU : Hid (Up w W2) := HU.out.trans u
                clear u
                go_wp2_with fail
                rw [HPo.out]
                exact ⟨by rw [HQ.out, HSS.out] <;> rfl, HU.out⟩
              | false =>
                have HQ : Hid (tex ⟨4, l, 0, p⟩ = []) := by unfold Hid; rw [HQ1.out, hok, if_neg (by simp), if_neg (by simp)]
                rw [hok] at HIM
                clear hok
                go_enter Tryz.func89, Tryz.ntmps89
                go_wp2_with fail
                first | refine calls_world hW0 (Calls.mono (HIM.out _) ?_) | refine Calls.mono (HIM.out _) ?_
                rintro r W1 ⟨rfl, u⟩
                have HU : Hid (Up w W1) := HU.out.trans u
                have gB := u.heap gB
                have x0 : W1.cell? ⟨w.heap.size, 0, none⟩ = some (.int .i8 4) := by simp only [World.cell?, gB]; rfl
                have x1 : W1.cell? ⟨w.heap.size, 1, none⟩ = some (.string s) := by simp only [World.cell?, gB]; rfl
                have x2 : W1.cell? ⟨w.heap.size, 2, none⟩ = some (.int .i64 0) := by simp only [World.cell?, gB]; rfl
                clear u
                go_wp2_with fail
                rw [HPo.out]
                exact ⟨by rw [HQ.out] <;> rfl, HU.out⟩
            · have hk4b : (k == 4) = false := by simpa using hk4
              by_cases hk3 : k = 3
              · subst hk3
                cases hok : okT l with
                | true =>
                  have HQ : Hid (tex ⟨3, l, 0, p⟩ = quo l) := by unfold Hid; rw [HQ1.out, if_neg (by simp), if_pos ⟨rfl, hok⟩]
                  have HQ2 : Hid (∀ W, Calls Tryz.prog 133 #[.string s] W fun e w' => e = .returned (.string (strOfNums (quo l))) ∧ Up W w') := HQU.out hok
                  rw [hok] at HIT
                  clear hok HQU
                  go_enter Tryz.func89, Tryz.ntmps89
                  go_wp2_with fail
                  first | refine calls_world hW0 (Calls.mono (HIT.out _) ?_) | refine Calls.mono (HIT.out _) ?_
                  rintro r W1 ⟨rfl, u⟩
                  have HU : Hid (Up w W1) := HU.out.trans u
                  have gB := u.heap gB
                  have x0 : W1.cell? ⟨w.heap.size, 0, none⟩ = some (.int .i8 3) := by simp only [World.cell?, gB]; rfl
                  have x1 : W1.cell? ⟨w.heap.size, 1, none⟩ = some (.string s) := by simp only [World.cell?, gB]; rfl
                  have x2 : W1.cell? ⟨w.heap.size, 2, none⟩ = some (.int .i64 0) := by simp only [World.cell?, gB]; rfl
                  clear u
                  go_wp2_with fail
                  refine Calls.mono (HQ2.out _) ?_
                  rintro r W2 ⟨rfl, u⟩
                  have HU : Hid (Up w W2) := HU.out.trans u
                  clear u
                  go_wp2_with fail
                  rw [HPo.out]
                  exact ⟨by rw [HQ.out] <;> rfl, HU.out⟩
                | false =>
                  have HQ : Hid (tex ⟨3, l, 0, p⟩ = []) := by unfold Hid; rw [HQ1.out, hok, if_neg (by simp), if_neg (by simp)]
                  rw [hok] at HIT
                  clear hok
                  go_enter Tryz.func89, Tryz.ntmps89
                  go_wp2_with fail
                  first | refine calls_world hW0 (Calls.mono (HIT.out _) ?_) | refine Calls.mono (HIT.out _) ?_
                  rintro r W1 ⟨rfl, u⟩
                  have HU : Hid (Up w W1) := HU.out.trans u
                  have gB := u.heap gB
                  have x0 : W1.cell? ⟨w.heap.size, 0, none⟩ = some (.int .i8 3) := by simp only [World.cell?, gB]; rfl
                  have x1 : W1.cell? ⟨w.heap.size, 1, none⟩ = some (.string s) := by simp only [World.cell?, gB]; rfl
                  have x2 : W1.cell? ⟨w.heap.size, 2, none⟩ = some (.int .i64 0) := by simp only [World.cell?, gB]; rfl
                  clear u
                  go_wp2_with fail
                  rw [HPo.out]
                  exact ⟨by rw [HQ.out] <;> rfl, HU.out⟩
              · have hk3b : (k == 3) = false := by simpa using hk3
                have HQ : Hid (tex ⟨k, l, 0, p⟩ = []) := by unfold Hid; rw [HQ1.out, if_neg (fun h9 => by rcases h9 with h9 | h9; exact hk1 h9.1; exact hk4 h9.1), if_neg (fun h9 => hk3 h9.1)]
                go_enter Tryz.func89, Tryz.ntmps89
                go_wp2_with fail
                rw [HPo.out]
                exact ⟨by rw [HQ.out] <;> rfl, HU.out⟩
        · have hnz2 : (n != 0) = true := by simpa using hnz
          have HQ : Hid (tex ⟨k, l, n, p⟩ = []) := by
            unfold Hid
            rw [HQ0.out, if_neg (fun h9 => hk2 h9.1), if_pos hnz]
          clear hte
          go_enter Tryz.func89, Tryz.ntmps89
          go_wp2_with fail
          rw [HPo.out]
          exact ⟨by rw [HQ.out] <;> rfl, HU.out⟩
end TK
end Go.Proofs.YtkldllnnocdhbaaGreatDoor
