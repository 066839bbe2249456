
/-
  How a token is written.
-/
import Derived.Test.YtjjikeehifndhaaDoorTu8
import Derived.Test.YtjjikeehifndhaaDoorCq8
import Derived.Test.YtjjikeehifndhaaDoorLp8
import Derived.Lib.ItoaLen
import Derived.Deep.Cut
namespace Go.Proofs.YtjjikeehifndhaaDoor
open Go.RowKit
attribute [local go_sem ↓] Go.wp_at_zero Go.wp_at_succ
namespace TK
def TabP (W : World) : Prop := Lib.TabIs Tryd.prog W "internal/strconv.uint64pow10" .u64 Lib.pow10Tab
theorem gPow : Tryd.prog.globalNamed "internal/strconv.uint64pow10" = some 1 := by kernel_rfl
theorem TabP.up {w W : World} (h : TabP w) (u : Up w W) : TabP W := by
  unfold TabP Lib.TabIs World.var? at h ⊢
  rw [gPow] at h ⊢
  simp only [Option.bind_some] at h ⊢
  have hlt : 1 < w.heap.size := by
    rcases Nat.lt_or_ge 1 w.heap.size with h' | h'
    · exact h'
    · rw [Array.getElem?_eq_none h'] at h; cases h
  rw [u.block 1 hlt]
  exact h
theorem grow_up (w : World) (k : Nat) (os : Array Obj) : Up w (Go.Sort.grow (w.drewN k) os) :=
  ⟨rfl, rfl, rfl, by show w.heap.size ≤ (w.heap ++ os).size; simp, fun g hg => by show (w.heap ++ os)[g]? = _; rw [Array.getElem?_append_left hg]⟩
theorem fmt_ (n : Int) (h0 : -9223372036854775808 ≤ n) (h1 : n ≤ 9223372036854775807) (w : World) (hT : TabP w) : Calls Tryd.prog 57 #[.int .i64 n, .int .i64 10] w fun e w' => e = .returned (.string (strOfNums (dcm n))) ∧ Up w w' := by
  refine Calls.mono (Any.strconv_FormatInt_10 Tryd.laysM173 n h0 h1 w hT) ?_
  rintro e w' ⟨rfl, k, os, rfl⟩
  exact ⟨by rw [dcm_str], grow_up w k os⟩
set_option maxRecDepth 100000 in
set_option maxHeartbeats 8000000 in
theorem clone_ (s : ByteArray) (w : World) (h : s.size ≤ 281474976710656) : Calls Tryd.prog 60 #[.string s] w fun e w' => e = .returned (.string s) ∧ Up w w' := by
  have H : Hid (Calls Tryd.prog 87 #[.string s] w fun e w' => e = .returned (.string s) ∧ Up w w') := Any.stringslite_Clone Tryd.laysM316 s w h
  clear h
  go_enter Tryd.func60, Tryd.ntmps60
  go_wp2_with fail
  refine Calls.mono H.out ?_
  rintro e w' ⟨rfl, u⟩
  go_wp2
  go_ret
  exact ⟨rfl, u⟩
theorem own_one (w : World) : (w.alloc (.cells #[.int .u8 34] 5)).ownsRow w.heap.size 5 1 (.slice (some ⟨w.heap.size, 0, none⟩) 1 1) 1 (bvs [34]) :=
  ⟨rfl, .inr ⟨w.heap.size, 1, #[.int .u8 34], rfl, Nat.le_refl _, heap_alloc_new _ _, by omega, by unfold maxLen; omega, rfl, rfl⟩⟩
set_option maxRecDepth 100000 in
set_option maxHeartbeats 8000000 in
theorem quoted_ (l : List Int) (w : World) (hl : Byt l) (hn : l.length ≤ 64) : Calls Tryd.prog 62 #[.string (strOfNums l)] w fun e w' => e = .returned (.string (strOfNums (quo l))) ∧ Up w w' := by
  obtain ⟨Post, hPost⟩ : ∃ P : Ending → World → Prop, P = fun e w' => e = .returned (.string (strOfNums (quo l))) ∧ Up w w' := ⟨_, rfl⟩
  rw [← hPost]
  have HPo : Hid (Post = fun e w' => e = .returned (.string (strOfNums (quo l))) ∧ Up w w') := hPost
  clear hPost
  obtain ⟨i5, hi5, z0, z1, z2⟩ := info_parts SM.info5
  obtain ⟨s, hs⟩ : ∃ s, s = strOfNums l := ⟨_, rfl⟩
  have hsz : s.size = l.length := by rw [hs, strOfNums_size]
  have HBT : Hid (∀ i, i < l.length → ∃ d : Nat, (d : Int) = l.getD i 0 ∧ ∀ h : i < s.size, (s[i]'h).toNat = d) := fun i hi => by
    have h1 := hl.at i
    refine ⟨(l.getD i 0).toNat, by omega, fun h => ?_⟩
    subst hs
    have h2 := nums_at hl hi h
    omega
  rw [← hs]
  obtain ⟨n, hN⟩ : ∃ n, n = l.length := ⟨_, rfl⟩
  have HN : Hid (n = l.length) := hN
  rw [← hN] at hsz hn HBT
  clear hs hN hl
  go_enter Tryd.func62, Tryd.ntmps62
  go_wp2_with fail
  go_loopw [3, 8] (fun s3 s8 W => ∃ (i k : Nat) (acc : List Int) (sa : Option Addr) (sc : Nat), i ≤ n ∧ s8 = .int .i64 i ∧ s3 = .slice sa k sc ∧ acc.length = k ∧ k ≤ 1 + 2 * i ∧ acc = [34] ++ (l.take i).flatMap quC ∧ W.ownsRow w.heap.size 5 1 (.slice sa k sc) k (bvs acc) ∧ Up w W) (fun _ s8 _ => n - (intOf s8).toNat)
  case atStart => exact ⟨0, 1, [34], some ⟨w.heap.size, 0, none⟩, 1, Nat.zero_le _, rfl, rfl, rfl, by omega, rfl, own_one w, (Up.refl _).alloc _⟩
  case round =>
    obtain ⟨i, k, acc, sa0, sc0, hi, rfl, rfl, hk, hki, hacc, hrow, hu⟩ := hrel
    have HS0 : Hid (wr.ownsRow w.heap.size 5 1 (.slice sa0 k sc0) k (bvs acc) ∧ Up w wr) := ⟨hrow, hu⟩
    have HAC : Hid (acc = [34] ++ (l.take i).flatMap quC ∧ acc.length = k) := ⟨hacc, hk⟩
    clear hrow hu hacc hk
    by_cases hlt : i < n
    · have hlt2 : (i : Int) < (n : Int) := by omega
      obtain ⟨d, hd, hx⟩ := HBT.out i hlt
      have ei : IntKind.i64.wrap ((i : Int) + 1) = ((i + 1 : Nat) : Int) := by rw [IntKind.wrap_i64]; omega
      have HES : Hid (Calls Tryd.prog 70 #[.int .u8 (d : Int)] wr fun e w' => e = .returned (.bool (esc (d : Int))) ∧ w' = wr) := isEscaped_ _ wr
      have HNX : Hid ([34] ++ (l.take (i + 1)).flatMap quC = acc ++ quC (d : Int)) := by
        unfold Hid
        rw [take_snoc (by have := HN.out; omega), List.flatMap_append, HAC.out.1, ← hd]
        simp
      clear hd
      go_wp2_with fail
      refine Calls.mono HES.out ?_
      rintro r W1 ⟨rfl, hw⟩
      obtain rfl := hw.symm
      clear hw HES
      cases he : esc (d : Int) with
      | true =>
        have HNY : Hid ([34] ++ (l.take (i + 1)).flatMap quC = acc ++ [92] ++ [(d : Int)]) := by
          unfold Hid
          rw [HNX.out]
          unfold quC
          rw [he]
          simp
        clear he HNX
        have HV0 : Hid ((wr.alloc (.cells #[.int .u8 92] 5)).ownsRow w.heap.size 5 1 (.slice sa0 k sc0) k (bvs (acc))) := World.ownsRow.alloc HS0.out.1 _
        have HMW0 : Hid (∀ q u, [Value.int .u8 92][q]? = some u → (wr.alloc (.cells #[.int .u8 92] 5)).cell? ((⟨wr.heap.size, 0, none⟩ : Addr).add q) = some u) := World.news_of_block (cs := #[.int .u8 92]) (t := 5) (fr := (0, 0)) (heap_alloc_new wr _)
        have HSZ0 : Hid (w.heap.size ≤ (wr.alloc (.cells #[.int .u8 92] 5)).heap.size) := by
          have h9 := HS0.out.2.size
          unfold Hid
          simp
          omega
        have HF0 : Hid (∀ v' V, V.ownsRow w.heap.size 5 1 v' (k + 1) (bvs (acc) ++ [.int .u8 92]) → (wr.alloc (.cells #[.int .u8 92] 5)).grownBy V (Value.slice sa0 k sc0).ownBlock → V.ownsRow w.heap.size 5 1 v' (k + 1) (bvs (acc ++ [92])) ∧ Up w V) := fun v' V n1 n2 =>
          ⟨by rw [show bvs (acc ++ [92]) = bvs (acc) ++ [.int .u8 92] by simp [bvs]]; exact n1, Below.grown (HS0.out.2.alloc _) n2 (by have := HS0.out.2.size; simp; omega) (fun k9 hk => (World.ownsRow.lt HV0.out k9 hk).1)⟩
        go_upto_region 7 with (at_builtin; go_loud (refine wpList_append_own _ (by rfl) (.tmp 15) (.tmp 16) 22 (by rfl) w.heap.size 5 i5 _ 1 1 Tryd.underlying22 hi5 z0 z1 z2 (by rfl) (by decide) (.slice sa0 k sc0) k (bvs (acc)) (by rfl) HV0.out ⟨wr.heap.size, 0, none⟩ 1 1 [Value.int .u8 92] (by rfl) (by rfl) HMW0.out (by simp [Value.oneCell']) (by unfold maxLen; omega) (by omega) HSZ0.out ?_; intro v' V0 hin hg1 _; have HG0 : Hid (V0.ownsRow w.heap.size 5 1 v' (k + 1) (bvs (acc ++ [92])) ∧ Up w V0) := HF0.out v' V0 hin hg1; obtain ⟨fa0, fc0, hva⟩ : ∃ a c, v' = Value.slice a (k + 1) c := row_val hin; subst hva; clear hin hg1; skip))
        have HS1 : Hid (V0.ownsRow w.heap.size 5 1 (.slice fa0 (k + 1) fc0) (k + 1) (bvs (acc ++ [92])) ∧ Up w V0) := HG0.out
        obtain ⟨sa1, hsa1⟩ : ∃ a, a = fa0 := ⟨_, rfl⟩
        obtain ⟨sc1, hsc1⟩ : ∃ a, a = fc0 := ⟨_, rfl⟩
        subst hsa1 hsc1
        clear HV0 HMW0 HSZ0 HF0 HG0 HS0
        have HV1 : Hid ((V0.alloc (.cells #[.int .u8 (d : Int)] 5)).ownsRow w.heap.size 5 1 (.slice sa1 (k + 1) sc1) (k + 1) (bvs (acc ++ [92]))) := World.ownsRow.alloc HS1.out.1 _
        have HMW1 : Hid (∀ q u, [Value.int .u8 (d : Int)][q]? = some u → (V0.alloc (.cells #[.int .u8 (d : Int)] 5)).cell? ((⟨V0.heap.size, 0, none⟩ : Addr).add q) = some u) := World.news_of_block (cs := #[.int .u8 (d : Int)]) (t := 5) (fr := (0, 0)) (heap_alloc_new V0 _)
        have HSZ1 : Hid (w.heap.size ≤ (V0.alloc (.cells #[.int .u8 (d : Int)] 5)).heap.size) := by
          have h9 := HS1.out.2.size
          unfold Hid
          simp
          omega
        have HF1 : Hid (∀ v' V, V.ownsRow w.heap.size 5 1 v' ((k + 1) + 1) (bvs (acc ++ [92]) ++ [.int .u8 (d : Int)]) → (V0.alloc (.cells #[.int .u8 (d : Int)] 5)).grownBy V (Value.slice sa1 (k + 1) sc1).ownBlock → V.ownsRow w.heap.size 5 1 v' ((k + 1) + 1) (bvs (acc ++ [92] ++ [(d : Int)])) ∧ Up w V) := fun v' V n1 n2 =>
          ⟨by rw [show bvs (acc ++ [92] ++ [(d : Int)]) = bvs (acc ++ [92]) ++ [.int .u8 (d : Int)] by simp [bvs]]; exact n1, Below.grown (HS1.out.2.alloc _) n2 (by have := HS1.out.2.size; simp; omega) (fun k9 hk => (World.ownsRow.lt HV1.out k9 hk).1)⟩
        go_wp2_with (at_builtin; go_loud (refine wpList_append_own _ (by rfl) (.tmp 18) (.tmp 22) 22 (by rfl) w.heap.size 5 i5 _ 1 1 Tryd.underlying22 hi5 z0 z1 z2 (by rfl) (by decide) (.slice sa1 (k + 1) sc1) (k + 1) (bvs (acc ++ [92])) (by rfl) HV1.out ⟨V0.heap.size, 0, none⟩ 1 1 [Value.int .u8 (d : Int)] (by rfl) (by rfl) HMW1.out (by simp [Value.oneCell']) (by unfold maxLen; omega) (by omega) HSZ1.out ?_; intro v' V1 hin hg1 _; have HG1 : Hid (V1.ownsRow w.heap.size 5 1 v' ((k + 1) + 1) (bvs (acc ++ [92] ++ [(d : Int)])) ∧ Up w V1) := HF1.out v' V1 hin hg1; obtain ⟨fa1, fc1, hva⟩ : ∃ a c, v' = Value.slice a ((k + 1) + 1) c := row_val hin; subst hva; clear hin hg1; skip))
        go_roundw
        case rel => exact ⟨i + 1, k + 1 + 1, acc ++ [92] ++ [(d : Int)], fa1, fc1, by omega, by go_num, rfl, by rw [List.length_append, List.length_append, HAC.out.2]; rfl, by omega, HNY.out.symm, HG1.out.1, HG1.out.2⟩
        case measure => simp [intOf]; omega
      | false =>
        have HNY : Hid ([34] ++ (l.take (i + 1)).flatMap quC = acc ++ [(d : Int)]) := by
          unfold Hid
          rw [HNX.out]
          unfold quC
          rw [he]
          simp
        clear he HNX
        have HV0 : Hid ((wr.alloc (.cells #[.int .u8 (d : Int)] 5)).ownsRow w.heap.size 5 1 (.slice sa0 k sc0) k (bvs (acc))) := World.ownsRow.alloc HS0.out.1 _
        have HMW0 : Hid (∀ q u, [Value.int .u8 (d : Int)][q]? = some u → (wr.alloc (.cells #[.int .u8 (d : Int)] 5)).cell? ((⟨wr.heap.size, 0, none⟩ : Addr).add q) = some u) := World.news_of_block (cs := #[.int .u8 (d : Int)]) (t := 5) (fr := (0, 0)) (heap_alloc_new wr _)
        have HSZ0 : Hid (w.heap.size ≤ (wr.alloc (.cells #[.int .u8 (d : Int)] 5)).heap.size) := by
          have h9 := HS0.out.2.size
          unfold Hid
          simp
          omega
        have HF0 : Hid (∀ v' V, V.ownsRow w.heap.size 5 1 v' (k + 1) (bvs (acc) ++ [.int .u8 (d : Int)]) → (wr.alloc (.cells #[.int .u8 (d : Int)] 5)).grownBy V (Value.slice sa0 k sc0).ownBlock → V.ownsRow w.heap.size 5 1 v' (k + 1) (bvs (acc ++ [(d : Int)])) ∧ Up w V) := fun v' V n1 n2 =>
          ⟨by rw [show bvs (acc ++ [(d : Int)]) = bvs (acc) ++ [.int .u8 (d : Int)] by simp [bvs]]; exact n1, Below.grown (HS0.out.2.alloc _) n2 (by have := HS0.out.2.size; simp; omega) (fun k9 hk => (World.ownsRow.lt HV0.out k9 hk).1)⟩
        go_wp2_with (at_builtin; go_loud (refine wpList_append_own _ (by rfl) (.tmp 18) (.tmp 22) 22 (by rfl) w.heap.size 5 i5 _ 1 1 Tryd.underlying22 hi5 z0 z1 z2 (by rfl) (by decide) (.slice sa0 k sc0) k (bvs (acc)) (by rfl) HV0.out ⟨wr.heap.size, 0, none⟩ 1 1 [Value.int .u8 (d : Int)] (by rfl) (by rfl) HMW0.out (by simp [Value.oneCell']) (by unfold maxLen; omega) (by omega) HSZ0.out ?_; intro v' V0 hin hg1 _; have HG0 : Hid (V0.ownsRow w.heap.size 5 1 v' (k + 1) (bvs (acc ++ [(d : Int)])) ∧ Up w V0) := HF0.out v' V0 hin hg1; obtain ⟨fa0, fc0, hva⟩ : ∃ a c, v' = Value.slice a (k + 1) c := row_val hin; subst hva; clear hin hg1; skip))
        go_roundw
        case rel => exact ⟨i + 1, k + 1, acc ++ [(d : Int)], fa0, fc0, by omega, by go_num, rfl, by rw [List.length_append, HAC.out.2]; rfl, by omega, HNY.out.symm, HG0.out.1, HG0.out.2⟩
        case measure => simp [intOf]; omega
    · have hlt2 : ¬ (i : Int) < (n : Int) := by omega
      obtain rfl : i = n := by omega
      have HNX : Hid (acc ++ [34] = quo l) := by
        unfold Hid quo
        rw [HAC.out.1, HN.out, List.take_length]
        simp
      have HV0 : Hid ((wr.alloc (.cells #[.int .u8 34] 5)).ownsRow w.heap.size 5 1 (.slice sa0 k sc0) k (bvs (acc))) := World.ownsRow.alloc HS0.out.1 _
      have HMW0 : Hid (∀ q u, [Value.int .u8 34][q]? = some u → (wr.alloc (.cells #[.int .u8 34] 5)).cell? ((⟨wr.heap.size, 0, none⟩ : Addr).add q) = some u) := World.news_of_block (cs := #[.int .u8 34]) (t := 5) (fr := (0, 0)) (heap_alloc_new wr _)
      have HSZ0 : Hid (w.heap.size ≤ (wr.alloc (.cells #[.int .u8 34] 5)).heap.size) := by
        have h9 := HS0.out.2.size
        unfold Hid
        simp
        omega
      have HF0 : Hid (∀ v' V, V.ownsRow w.heap.size 5 1 v' (k + 1) (bvs (acc) ++ [.int .u8 34]) → (wr.alloc (.cells #[.int .u8 34] 5)).grownBy V (Value.slice sa0 k sc0).ownBlock → V.ownsRow w.heap.size 5 1 v' (k + 1) (bvs (acc ++ [34])) ∧ Up w V) := fun v' V n1 n2 =>
        ⟨by rw [show bvs (acc ++ [34]) = bvs (acc) ++ [.int .u8 34] by simp [bvs]]; exact n1, Below.grown (HS0.out.2.alloc _) n2 (by have := HS0.out.2.size; simp; omega) (fun k9 hk => (World.ownsRow.lt HV0.out k9 hk).1)⟩
      go_wp2_with (at_builtin; go_loud (refine wpList_append_own _ (by rfl) (.tmp 25) (.tmp 26) 22 (by rfl) w.heap.size 5 i5 _ 1 1 Tryd.underlying22 hi5 z0 z1 z2 (by rfl) (by decide) (.slice sa0 k sc0) k (bvs (acc)) (by rfl) HV0.out ⟨wr.heap.size, 0, none⟩ 1 1 [Value.int .u8 34] (by rfl) (by rfl) HMW0.out (by simp [Value.oneCell']) (by unfold maxLen; omega) (by omega) HSZ0.out ?_; intro v' V0 hin hg1 _; have HG0 : Hid (V0.ownsRow w.heap.size 5 1 v' (k + 1) (bvs (acc ++ [34])) ∧ Up w V0) := HF0.out v' V0 hin hg1; obtain ⟨fa0, fc0, hva⟩ : ∃ a c, v' = Value.slice a (k + 1) c := row_val hin; subst hva; clear hin hg1; have hcv := conv_own (l := acc ++ [34]) (by rw [List.length_append, HAC.out.2]; exact HG0.out.1)))
      rw [HPo.out]
      exact ⟨by rw [← HNX.out] <;> rfl, HG0.out.2⟩
end TK
end Go.Proofs.YtjjikeehifndhaaDoor
