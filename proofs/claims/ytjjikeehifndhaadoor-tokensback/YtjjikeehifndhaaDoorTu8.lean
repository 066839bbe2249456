
/-
  Names and texts that may be.
-/
import Derived.Test.YtjjikeehifndhaaDoorTt8
import Derived.Test.YtjjikeehifndhaaDoorCo8
import Derived.Test.YtjjikeehifndhaaDoorSh8
import Derived.Lib.ConvBytes
import Derived.Lib.SmallJoins
import Derived.Handy
namespace Go.Proofs.YtjjikeehifndhaaDoor
open Go.RowKit
attribute [local go_sem ↓] Go.wp_at_zero Go.wp_at_succ
namespace TK
theorem bw_bl (w : World) (l : List Int) (hl : Byt l) (c : Nat) (hc : l.length ≤ c) : BL (Lib.bytesWorld w 5 (strOfNums l)) (.slice (some ⟨w.heap.size, 0, none⟩) l.length c) l := by
  refine ⟨by simp [bvs], _, c, rfl, hc, fun _ => ⟨w.heap.size, 0, rfl, fun j hj => ?_⟩⟩
  have hj2 : j < l.length := by omega
  rw [Nat.zero_add, Lib.bytesWorld_cell w 5 (strOfNums l) j (by rw [strOfNums_size]; exact hj2), bvs_at hj2, strOfNums_data]
  have h1 := hl.at j
  congr 2
  rw [List.getD_eq_getElem?_getD, List.getElem?_map, List.getElem?_eq_getElem hj2]
  simp only [Option.map_some, Option.getD_some, UInt8.toNat_ofNat']
  rw [List.getD_eq_getElem?_getD, List.getElem?_eq_getElem hj2] at h1 ⊢
  simp only [Option.getD_some] at h1 ⊢
  omega
theorem bw_up (w : World) (e : TypeId) (s : ByteArray) : Up w (Lib.bytesWorld w e s) := Joins.below_bytesWorld _ _ _ _ (Nat.le_refl _)
theorem conv_str (w : World) (s : ByteArray) : (convert 9 22 (.string s)).run Tryd.prog w = .ok (.slice (some ⟨w.heap.size, 0, none⟩) s.size (grownCap w s.size 0 5)) (Lib.bytesWorld w 5 s) := Lib.run_convert_string_bytes w _ _ _ s Tryd.underlying9 Tryd.underlying22 Tryd.underlying5
set_option maxRecDepth 100000 in
set_option maxHeartbeats 8000000 in
theorem isText_ (l : List Int) (w : World) (hl : Byt l) (hn : l.length ≤ 281474976710656) : Calls Tryd.prog 61 #[.string (strOfNums l)] w fun e w' => e = .returned (.bool (okT l)) ∧ Up w w' := by
  obtain ⟨R, hR⟩ : ∃ R, R = okT l := ⟨_, rfl⟩
  rw [← hR]
  have HR : Hid (R = okT l) := hR
  clear hR
  obtain ⟨s, hs⟩ : ∃ s, s = strOfNums l := ⟨_, rfl⟩
  have HS : Hid (s = strOfNums l) := hs
  have hsz : s.size = l.length := by rw [hs, strOfNums_size]
  rw [← hs]
  obtain ⟨n, hN⟩ : ∃ n, n = l.length := ⟨_, rfl⟩
  have HN : Hid (n = l.length) := hN
  rw [← hN] at hsz hn
  have hcs := conv_str w s
  rw [hsz] at hcs
  by_cases hbig : n ≤ 64
  · have e1 : (n : Int) ≤ 64 := by omega
    have HG : Hid (n ≤ grownCap w n 0 5) := grownCap_ge w n 0 _
    have HBH : Hid (Calls Tryd.prog 65 #[.slice (some ⟨w.heap.size, 0, none⟩) n (grownCap w n 0 5), .int .i64 ((0 : Nat) : Int), .func (.func 71) #[] #[]] (Lib.bytesWorld w 5 s) fun r9 w' => r9 = .returned (.int .i64 (spn pln l 0 : Nat)) ∧ Up (Lib.bytesWorld w 5 s) w') :=
      behind_ 71 #[] #[] pln _ l 0 _ (by rw [HN.out, HS.out]; exact bw_bl w l hl _ (by rw [← HN.out]; exact HG.out)) (Nat.zero_le _) (by have := HN.out; omega) (enters_of Tryd.func71 (by kernel_rfl) rfl) (fun W c9 _ => by simpa using Calls.mono (isPlain_ c9 W) (fun e w9 h9 => by obtain ⟨h8, h7⟩ := h9; subst h7; exact ⟨h8, Up.refl _⟩))
    have HQ : Hid (R = (((spn pln l 0 : Nat) : Int) == (n : Int))) := by
      unfold Hid
      rw [HR.out]
      unfold okT
      rw [decide_eq_true (by have := HN.out; omega), Bool.true_and, HN.out, Bool.eq_iff_iff, ← spn_whole, beq_iff_eq]
      omega
    clear hs hN hl
    generalize spn pln l 0 = e at *
    go_enter Tryd.func61, Tryd.ntmps61
    go_wp2_with fail
    refine Calls.mono HBH.out ?_
    rintro r W1 ⟨rfl, u1⟩
    have HU : Hid (Up w W1) := (bw_up w _ _).trans u1
    clear u1
    go_wp2_with fail
    go_ret
    exact ⟨by rw [HQ.out] <;> rfl, HU.out⟩
  · have e1 : ¬ (n : Int) ≤ 64 := by omega
    have HQ : Hid (R = false) := by unfold Hid; rw [HR.out]; unfold okT; rw [decide_eq_false (by have := HN.out; omega)]; rfl
    clear hs hN hl hcs
    go_enter Tryd.func61, Tryd.ntmps61
    go_wp2_with fail
    go_ret
    exact ⟨by rw [HQ.out] <;> rfl, Up.refl _⟩
theorem cls_sml2 {c : Int} (h : clsI c = 2) : sml c = true := by
  unfold clsI at h
  split at h
  · omega
  · split at h
    · assumption
    · repeat' split at h
      all_goals omega
theorem sml_cls (c : Int) : sml c = (clsI c == 2) := by
  by_cases h : sml c = true
  · have h1 : blk c = false := by
      unfold sml at h
      simp only [Bool.and_eq_true, decide_eq_true_eq] at h
      unfold blk
      simp
      omega
    unfold clsI
    rw [h1, h]
    rfl
  · have h2 : sml c = false := by simpa using h
    rw [h2]
    have h3 : clsI c ≠ 2 := fun h9 => by
      have h8 := cls_sml2 h9
      rw [h2] at h8
      cases h8
    simpa using h3
set_option maxRecDepth 100000 in
set_option maxHeartbeats 8000000 in
theorem isName_ (l : List Int) (w : World) (hl : Byt l) (hn : l.length ≤ 281474976710656) : Calls Tryd.prog 58 #[.string (strOfNums l)] w fun e w' => e = .returned (.bool (okN l)) ∧ Up w w' := by
  obtain ⟨R, hR⟩ : ∃ R, R = okN l := ⟨_, rfl⟩
  rw [← hR]
  have HR : Hid (R = okN l) := hR
  clear hR
  obtain ⟨s, hs⟩ : ∃ s, s = strOfNums l := ⟨_, rfl⟩
  have HS : Hid (s = strOfNums l) := hs
  have hsz : s.size = l.length := by rw [hs, strOfNums_size]
  have hni : s.toList = [] ↔ l = [] := by rw [hs]; exact nums_nil
  have HBT : Hid (∀ i, i < l.length → ∃ d : Nat, (d : Int) = l.getD i 0 ∧ ∀ h : i < s.size, (s[i]'h).toNat = d) := fun i hi => by
    have h1 := hl.at i
    refine ⟨(l.getD i 0).toNat, by omega, fun h => ?_⟩
    subst hs
    have h2 := nums_at hl hi h
    omega
  rw [← hs]
  obtain ⟨n, hN⟩ : ∃ n, n = l.length := ⟨_, rfl⟩
  have HN : Hid (n = l.length) := hN
  rw [← hN] at hsz hn
  have hcs := conv_str w s
  rw [hsz] at hcs
  by_cases h0 : l = []
  · have t0 : s.toList.isEmpty = true := by rw [hni.2 h0]; rfl
    have HQ : Hid (R = false) := by unfold Hid; rw [HR.out, h0]; rfl
    clear hs hN hl hcs hni
    go_enter Tryd.func58, Tryd.ntmps58
    go_wp2_with fail
    go_ret
    exact ⟨by rw [HQ.out] <;> rfl, Up.refl _⟩
  · have t0 : s.toList.isEmpty = false := by
      cases h9 : s.toList with
      | nil => exact absurd (hni.1 h9) h0
      | cons a b => rfl
    have hn0 : 0 < n := by
      rcases Nat.eq_zero_or_pos n with h9 | h9
      · exact absurd (List.eq_nil_of_length_eq_zero (by omega)) h0
      · exact h9
    by_cases hbig : 32 < n
    · have e1 : (32 : Int) < (n : Int) := by omega
      have HQ : Hid (R = false) := by unfold Hid; rw [HR.out]; unfold okN; rw [decide_eq_false (show ¬ l.length ≤ 32 by omega)]; simp
      clear hs hN hl hcs hni h0
      go_enter Tryd.func58, Tryd.ntmps58
      go_wp2_with fail
      go_ret
      exact ⟨by rw [HQ.out] <;> rfl, Up.refl _⟩
    · have e1 : ¬ (32 : Int) < (n : Int) := by omega
      obtain ⟨d, hd, hx0⟩ := HBT.out 0 (by omega)
      have HCL : Hid (Calls Tryd.prog 27 #[.int .u8 (d : Int)] w fun e w' => e = .returned (.int .i64 (clsI (d : Int))) ∧ w' = w) := classOf_ _ w
      have HIN := inName_ (Lib.bytesWorld w 5 s)
      have HQ : Hid (R = ((clsI (d : Int) == 2) && (((spn prt l 0 : Nat) : Int) == (n : Int)))) := by
        unfold Hid
        rw [HR.out]
        unfold okN
        rw [decide_eq_true (show l ≠ [] from h0), decide_eq_true (show l.length ≤ 32 by omega), Bool.true_and, Bool.true_and, ← hd, sml_cls]
        congr 1
        rw [HN.out, Bool.eq_iff_iff, ← spn_whole, beq_iff_eq]
        omega
      have HG : Hid (n ≤ grownCap w n 0 5) := grownCap_ge w n 0 _
      have HBL : Hid (∀ W, Up (Lib.bytesWorld w 5 s) W → BL W (.slice (some ⟨w.heap.size, 0, none⟩) n (grownCap w n 0 5)) l) := fun W x => by
        have h9 := bw_bl w l hl (grownCap w n 0 5) (by rw [← HN.out]; exact HG.out)
        rw [← HN.out, ← HS.out] at h9
        exact h9.up x
      have HI2 : Hid (Calls Tryd.prog 67 #[] (Lib.bytesWorld w 5 s) fun e w' => ∃ g, e = .returned (.func (.func 91) #[] #[.pointer (some ⟨g, 0, none⟩)]) ∧ w'.cell? ⟨g, 0, none⟩ = some (.int .u64 60) ∧ Up (Lib.bytesWorld w 5 s) w') := HIN
      clear hs hN hl hni hd HIN HBT h0 HG HR
      generalize clsI (d : Int) = k at *
      by_cases hk : k = 2
      · subst hk
        go_enter Tryd.func58, Tryd.ntmps58
        go_wp2_with fail
        refine Calls.mono HCL.out ?_
        rintro r W1 ⟨rfl, hw⟩
        obtain rfl := hw.symm
        clear hw HCL
        go_wp2_with fail
        refine Calls.mono HI2.out ?_
        rintro r W2 ⟨g, rfl, h60, u2⟩
        have HBH : Hid (Calls Tryd.prog 65 #[.slice (some ⟨w.heap.size, 0, none⟩) n (grownCap w n 0 5), .int .i64 ((0 : Nat) : Int), .func (.func 91) #[] #[.pointer (some ⟨g, 0, none⟩)]] W2 fun r9 w' => r9 = .returned (.int .i64 (spn prt l 0 : Nat)) ∧ Up W2 w') :=
          behind_ 91 #[] #[.pointer (some ⟨g, 0, none⟩)] prt _ l 0 W2 (HBL.out W2 u2) (Nat.zero_le _) (by have := HN.out; omega) (enters_of Tryd.func91 (by kernel_rfl) rfl) (fun W c9 x => by simpa using ofN_ c9 g W (x.cell h60))
        have HU : Hid (Up w W2) := (bw_up w _ _).trans u2
        clear u2 h60 HI2 HBL
        generalize spn prt l 0 = e at *
        go_wp2_with fail
        refine Calls.mono HBH.out ?_
        rintro r W3 ⟨rfl, u3⟩
        have HU : Hid (Up w W3) := HU.out.trans u3
        clear u3
        go_wp2_with fail
        go_ret
        exact ⟨by rw [HQ.out] <;> rfl, HU.out⟩
      · have hk2 : (k == 2) = false := by simpa using hk
        have hk3 : (k != 2) = true := by simpa using hk
        rw [hk2] at HQ
        go_enter Tryd.func58, Tryd.ntmps58
        go_wp2_with fail
        refine Calls.mono HCL.out ?_
        rintro r W1 ⟨rfl, hw⟩
        obtain rfl := hw.symm
        clear hw HCL
        go_wp2_with fail
        go_ret
        exact ⟨by rw [HQ.out] <;> rfl, Up.refl _⟩
end TK
end Go.Proofs.YtjjikeehifndhaaDoor
