
/-
  TreeRows' walk.
-/
import Derived.Test.YtpdhbhglpbpeiaaNg9
import Derived.Test.YtpdhbhglpbpeiaaTr9
import Derived.Test.YtpdhbhglpbpeiaaAf9
import Derived.Deep.CutRange
namespace Go.Proofs.Ytpdhbhglpbpeiaa
open Go.RowKit
attribute [local go_sem ↓] Go.wp_at_zero Go.wp_at_succ
namespace TR
theorem prs_succ (op : Int) (i : Nat) : prs op (i + 1) = prs op i ++ [opN op, numK i] := by
  unfold prs
  rw [List.range_succ, List.flatMap_append]
  rfl
theorem numsL_succ (j : Nat) : numsL (j + 1) = numsL j ++ [numK j] := by
  unfold numsL
  rw [List.range_succ, List.map_append]
  rfl
theorem prs_len (op : Int) : ∀ i, (prs op i).length = 2 * i
  | 0 => rfl
  | i + 1 => by rw [prs_succ, List.length_append, prs_len op i]; rfl
/- nodes with no text and few kids -/
def Plain (a : Nd) : Prop := a.text = [] ∧ a.kids ≤ 2
theorem left_plain (op : Int) (m : Nat) : ∀ a ∈ leftL op m, Plain a := fun a ha => by
  rcases List.mem_append.1 ha with h | h
  · rw [List.eq_of_mem_replicate h]
    exact ⟨rfl, by show (2 : Int) ≤ 2; decide⟩
  · obtain ⟨j, -, rfl⟩ := List.mem_map.1 h
    exact ⟨rfl, by show (0 : Int) ≤ 2; decide⟩
theorem right_plain (op : Int) (m : Nat) : ∀ a ∈ rightL op m, Plain a := fun a ha => by
  rcases List.mem_append.1 ha with h | h
  · obtain ⟨j, -, h⟩ := List.mem_flatMap.1 h
    simp only [List.mem_cons, List.not_mem_nil, or_false] at h
    rcases h with rfl | rfl
    · exact ⟨rfl, by show (2 : Int) ≤ 2; decide⟩
    · exact ⟨rfl, by show (0 : Int) ≤ 2; decide⟩
  · simp only [List.mem_cons, List.not_mem_nil, or_false] at h
    rw [h]
    exact ⟨rfl, by show (0 : Int) ≤ 2; decide⟩
theorem rows_ok {l : List Nd} (h : ∀ a ∈ l, Plain a) : ∀ a ∈ oneL l [blkN], Byt a.text ∧ a.kids ≤ 9223372036854775807 := fun a ha => by
  unfold oneL at ha
  rcases List.mem_append.1 ha with ha | ha
  · rcases List.mem_append.1 ha with ha | ha
    · unfold one3 at ha
      simp only [List.mem_cons, List.not_mem_nil, or_false] at ha
      rcases ha with rfl | rfl | rfl
      · exact ⟨fun c hc => (by cases hc), by decide⟩
      · exact ⟨fun c hc => (by
          have hc : c ∈ [(97 : Int)] := hc
          simp only [List.mem_cons, List.not_mem_nil, or_false] at hc
          omega), by decide⟩
      · refine ⟨fun c hc => (by cases hc), ?_⟩
        show (if l.length = 0 then (1 : Int) else 2) ≤ _
        split <;> decide
    · obtain ⟨h1, h2⟩ := h a ha
      exact ⟨fun c hc => (by rw [h1] at hc; cases hc), by omega⟩
  · simp only [List.mem_cons, List.not_mem_nil, or_false] at ha
    rw [ha]
    exact ⟨fun c hc => (by cases hc), by decide⟩
set_option maxRecDepth 100000 in
set_option maxHeartbeats 40000000 in
theorem trows (z op : Int) (w : World) : Calls Try.prog 7 #[.int .i64 z, .int .i8 op] w fun e w' => e = .returned (.bool true) ∧ Up w w' := by
  obtain ⟨iT, hiT, z0, z1, z2⟩ := info_parts infoNdW
  obtain ⟨Post, hPost⟩ : ∃ P : Ending → World → Prop, P = fun e w' => e = .returned (.bool true) ∧ Up w w' := ⟨_, rfl⟩
  rw [← hPost]
  have HPo : Hid (Post = fun e w' => e = .returned (.bool true) ∧ Up w w') := hPost
  clear hPost
  by_cases h1 : z < 1
  · go_enter Try.func7, Try.ntmps7
    go_wp2_with fail
    refine Calls.mono (lives_ w) ?_
    rintro e tz ⟨rfl, uz⟩
    have HUz : Hid (Up w tz) := (Up.refl w).trans uz
    clear uz
    go_wp2_with fail
    rw [HPo.out]
    exact ⟨rfl, HUz.out⟩
  · by_cases h2 : 200 < z
    · go_enter Try.func7, Try.ntmps7
      go_wp2_with fail
      refine Calls.mono (lives_ w) ?_
      rintro e tz ⟨rfl, uz⟩
      have HUz : Hid (Up w tz) := (Up.refl w).trans uz
      clear uz
      go_wp2_with fail
      rw [HPo.out]
      exact ⟨rfl, HUz.out⟩
    · by_cases hop : op = 36 ∨ op = 37 ∨ op = 44 ∨ op = 45 ∨ op = 46 ∨ op = 47 ∨ op = 48
      · obtain ⟨r, hrk⟩ := rowk hop
        have HRK : Hid (RowK op r) := hrk
        obtain ⟨M, rfl⟩ : ∃ M : Nat, z = (M : Int) := ⟨z.toNat, by omega⟩
        have hM1 : 1 ≤ M := by omega
        have hM2 : M ≤ 200 := by omega
        clear hrk
        go_enter Try.func7, Try.ntmps7
        go_upto_region 1 with fail
        go_cut [45] from 12 to 44 (fun s45 wx => s45 = .bool false ∧ wx = w)
        case first =>
          rcases hop with rfl | rfl | rfl | rfl | rfl | rfl | rfl
          all_goals (go_wp2_with fail; go_meet; exact ⟨rfl, rfl⟩)
        case rest =>
        obtain ⟨rfl, hwx⟩ := hcut
        obtain rfl := hwx.symm
        clear hwx hop h1 h2
        go_wp2_with fail
        go_loopw [5, 6, 7] (fun s5 s6 s7 W => ∃ i : Nat, i ≤ M ∧ s7 = .int .i64 i ∧ W.ownsRow w.heap.size 33 7 (s5) (i) (nvs (List.replicate i (opN op))) ∧ W.ownsRow w.heap.size 33 7 (s6) (2 * i) (nvs (prs op i)) ∧ Dj s5 s6 ∧ Up w W) (fun _ _ s7 _ => M - (intOf s7).toNat)
        case atStart => exact ⟨0, Nat.zero_le _, rfl, World.ownsRow_nil _ _ _ _, World.ownsRow_nil _ _ _ _, fun g h => (by cases h), Up.refl _⟩
        case round =>
          obtain ⟨i, hi, rfl, hr5, hr6, hdj, hu⟩ := hrel
          obtain ⟨a5, c5, rfl⟩ := row_val hr5
          obtain ⟨a6, c6, rfl⟩ := row_val hr6
          have HR5 : Hid (wr.ownsRow w.heap.size 33 7 (.slice a5 i c5) (i) (nvs (List.replicate i (opN op)))) := hr5
          have HR6 : Hid (wr.ownsRow w.heap.size 33 7 (.slice a6 (2 * i) c6) (2 * i) (nvs (prs op i))) := hr6
          have HDJ : Hid (Dj (.slice a5 i c5) (.slice a6 (2 * i) c6)) := hdj
          have HU : Hid (Up w wr) := hu
          have hsz : w.heap.size ≤ wr.heap.size := hu.size
          clear hr5 hr6 hdj hu
          by_cases hlt : i < M
          · have hlt2 : (i : Int) < (M : Int) := by omega
            have ei : IntKind.i64.wrap ((i : Int) + 1) = ((i + 1 : Nat) : Int) := by rw [IntKind.wrap_i64]; omega
            have HA5 : Hid ((wr.alloc (.cells #[.int .i8 op, .int .i8 0, .int .i64 0, .int .i64 0, .string ⟨#[]⟩, .int .i64 0, .int .i64 2] 33)).ownsRow w.heap.size 33 7 (.slice a5 i c5) (i) (nvs (List.replicate i (opN op)))) := HR5.out.alloc _
            go_upto_region 8 with (at_builtin; refine wpList_append_far _ (by rfl) (.tmp 52) (.tmp 55) 22 (by rfl) w.heap.size 33 iT _ 7 56 Try.underlying22 hiT z0 z1 z2 (by rfl) (by decide) (.slice a5 i c5) i (nvs (List.replicate i (opN op))) (by rfl) HA5.out ⟨_, 0, none⟩ 1 1 (#[.int .i8 op, .int .i8 0, .int .i64 0, .int .i64 0, .string ⟨#[]⟩, .int .i64 0, .int .i64 2]).toList (by rfl) (by decide) (by rfl) (lit_news (cs := #[.int .i8 op, .int .i8 0, .int .i64 0, .int .i64 0, .string ⟨#[]⟩, .int .i64 0, .int .i64 2]) (t := 33)) (by simp [Value.oneCell']) (by unfold maxLen; omega) (by omega) (by simp; omega) ?_; intro v9 w9 hin9 hg9 hl9)
            have HU4 : Hid (Up w w9) := Below.grown (HU.out.alloc _) hg9 (by have := HU.out.size; simp; omega) (fun k9 hk9 => (World.ownsRow.lt HA5.out k9 hk9).1)
            have HR6b : Hid (w9.ownsRow w.heap.size 33 7 (.slice a6 (2 * i) c6) (2 * i) (nvs (prs op i))) := (HR6.out.alloc _).kept hg9 HDJ.out.symm.ne
            have HDJ4 : Hid (Dj v9 (.slice a6 (2 * i) c6)) := HDJ.out.next (HR6.out.alloc _) hl9
            have HR5b : Hid (w9.ownsRow w.heap.size 33 7 (v9) (i + 1) (nvs (List.replicate (i + 1) (opN op)))) := by
              unfold Hid
              rw [List.replicate_succ', nvs_app]
              exact hin9
            have hsz4 : w.heap.size ≤ w9.heap.size := HU4.out.size
            clear hin9 hg9 hl9 HA5 HR5 HR6 HDJ hsz
            have HA6 : Hid ((w9.alloc (.cells #[.int .i8 op, .int .i8 0, .int .i64 0, .int .i64 0, .string ⟨#[]⟩, .int .i64 0, .int .i64 2, .int .i8 30, .int .i8 0, .int .i64 (i : Int), .int .i64 0, .string ⟨#[]⟩, .int .i64 0, .int .i64 0] 33)).ownsRow w.heap.size 33 7 (.slice a6 (2 * i) c6) (2 * i) (nvs (prs op i))) := HR6b.out.alloc _
            obtain ⟨w4, hw4⟩ : ∃ w4 : World, w4 = w9 := ⟨_, rfl⟩
            obtain ⟨v4, hv4⟩ : ∃ v4 : Value, v4 = v9 := ⟨_, rfl⟩
            subst hw4
            subst hv4
            go_wp2_with (at_builtin; refine wpList_append_far _ (by rfl) (.tmp 57) (.tmp 62) 22 (by rfl) w.heap.size 33 iT _ 7 56 Try.underlying22 hiT z0 z1 z2 (by rfl) (by decide) (.slice a6 (2 * i) c6) (2 * i) (nvs (prs op i)) (by rfl) HA6.out ⟨_, 0, none⟩ 2 2 (#[.int .i8 op, .int .i8 0, .int .i64 0, .int .i64 0, .string ⟨#[]⟩, .int .i64 0, .int .i64 2, .int .i8 30, .int .i8 0, .int .i64 (i : Int), .int .i64 0, .string ⟨#[]⟩, .int .i64 0, .int .i64 0]).toList (by rfl) (by decide) (by rfl) (lit_news (cs := #[.int .i8 op, .int .i8 0, .int .i64 0, .int .i64 0, .string ⟨#[]⟩, .int .i64 0, .int .i64 2, .int .i8 30, .int .i8 0, .int .i64 (i : Int), .int .i64 0, .string ⟨#[]⟩, .int .i64 0, .int .i64 0]) (t := 33)) (by simp [Value.oneCell']) (by unfold maxLen; omega) (by omega) (by simp; omega) ?_; intro v9 w9 hin9 hg9 hl9)
            have HU5 : Hid (Up w w9) := Below.grown (HU4.out.alloc _) hg9 (by have := HU4.out.size; simp; omega) (fun k9 hk9 => (World.ownsRow.lt HA6.out k9 hk9).1)
            have HR5c : Hid (w9.ownsRow w.heap.size 33 7 (v4) (i + 1) (nvs (List.replicate (i + 1) (opN op)))) := (HR5b.out.alloc _).kept hg9 HDJ4.out.ne
            have HDJ5 : Hid (Dj v4 v9) := (HDJ4.out.symm.next (HR5b.out.alloc _) hl9).symm
            have HR6c : Hid (w9.ownsRow w.heap.size 33 7 (v9) (2 * (i + 1)) (nvs (prs op (i + 1)))) := by
              unfold Hid
              rw [prs_succ, nvs_app]
              exact hin9
            clear hin9 hg9 hl9 HA6 HR5b HR6b HDJ4 HU4 hsz4
            go_wp2_with fail
            go_roundw
            case rel => exact ⟨i + 1, hlt, by go_num, HR5c.out, HR6c.out, HDJ5.out, HU5.out⟩
            case measure => simp [intOf]; omega
          · have hlt2 : ¬ (i : Int) < (M : Int) := by omega
            obtain rfl : i = M := by omega
            clear hsz
            go_wp2_with fail
            go_loopw [5, 8] (fun s5 s8 W => ∃ j : Nat, j ≤ i + 1 ∧ s8 = .int .i64 j ∧ W.ownsRow w.heap.size 33 7 (s5) (i + j) (nvs (List.replicate i (opN op) ++ numsL j)) ∧ W.ownsRow w.heap.size 33 7 (.slice a6 (2 * i) c6) (2 * i) (nvs (prs op i)) ∧ Dj s5 (.slice a6 (2 * i) c6) ∧ Up w W) (fun _ s8 _ => i + 1 - (intOf s8).toNat)
            case atStart => exact ⟨0, Nat.zero_le _, rfl, by rw [show numsL 0 = [] from rfl, List.append_nil]; exact HR5.out, HR6.out, HDJ.out, HU.out⟩
            case round =>
              obtain ⟨j, hj, rfl, hr5, hr6, hdj, hu⟩ := hrel
              obtain ⟨b5, e5, rfl⟩ := row_val hr5
              clear HR5 HR6 HDJ HU
              have HR5 : Hid (wr.ownsRow w.heap.size 33 7 (.slice b5 (i + j) e5) (i + j) (nvs (List.replicate i (opN op) ++ numsL j))) := hr5
              have HR6 : Hid (wr.ownsRow w.heap.size 33 7 (.slice a6 (2 * i) c6) (2 * i) (nvs (prs op i))) := hr6
              have HDJ : Hid (Dj (.slice b5 (i + j) e5) (.slice a6 (2 * i) c6)) := hdj
              have HU : Hid (Up w wr) := hu
              have hsz : w.heap.size ≤ wr.heap.size := hu.size
              clear hr5 hr6 hdj hu
              by_cases hlj : j < i + 1
              · have hlj2 : (j : Int) ≤ (i : Int) := by omega
                have ej : IntKind.i64.wrap ((j : Int) + 1) = ((j + 1 : Nat) : Int) := by rw [IntKind.wrap_i64]; omega
                have HA5 : Hid ((wr.alloc (.cells #[.int .i8 30, .int .i8 0, .int .i64 (j : Int), .int .i64 0, .string ⟨#[]⟩, .int .i64 0, .int .i64 0] 33)).ownsRow w.heap.size 33 7 (.slice b5 (i + j) e5) (i + j) (nvs (List.replicate i (opN op) ++ numsL j))) := HR5.out.alloc _
                go_wp2_with (at_builtin; refine wpList_append_far _ (by rfl) (.tmp 69) (.tmp 72) 22 (by rfl) w.heap.size 33 iT _ 7 56 Try.underlying22 hiT z0 z1 z2 (by rfl) (by decide) (.slice b5 (i + j) e5) (i + j) (nvs (List.replicate i (opN op) ++ numsL j)) (by rfl) HA5.out ⟨_, 0, none⟩ 1 1 (#[.int .i8 30, .int .i8 0, .int .i64 (j : Int), .int .i64 0, .string ⟨#[]⟩, .int .i64 0, .int .i64 0]).toList (by rfl) (by decide) (by rfl) (lit_news (cs := #[.int .i8 30, .int .i8 0, .int .i64 (j : Int), .int .i64 0, .string ⟨#[]⟩, .int .i64 0, .int .i64 0]) (t := 33)) (by simp [Value.oneCell']) (by unfold maxLen; omega) (by omega) (by simp; omega) ?_; intro v9 w9 hin9 hg9 hl9)
                have HU4 : Hid (Up w w9) := Below.grown (HU.out.alloc _) hg9 (by have := HU.out.size; simp; omega) (fun k9 hk9 => (World.ownsRow.lt HA5.out k9 hk9).1)
                have HR6b : Hid (w9.ownsRow w.heap.size 33 7 (.slice a6 (2 * i) c6) (2 * i) (nvs (prs op i))) := (HR6.out.alloc _).kept hg9 HDJ.out.symm.ne
                have HDJ4 : Hid (Dj v9 (.slice a6 (2 * i) c6)) := HDJ.out.next (HR6.out.alloc _) hl9
                have HR5b : Hid (w9.ownsRow w.heap.size 33 7 (v9) (i + (j + 1)) (nvs (List.replicate i (opN op) ++ numsL (j + 1)))) := by
                  unfold Hid
                  rw [numsL_succ, ← List.append_assoc, nvs_app]
                  exact hin9
                clear hin9 hg9 hl9 HA5 HR5 HR6 HDJ hsz HU
                go_wp2_with fail
                go_roundw
                case rel => exact ⟨j + 1, hlj, by go_num, HR5b.out, HR6b.out, HDJ4.out, HU4.out⟩
                case measure => simp [intOf]; omega
              · have hlj2 : ¬ (j : Int) ≤ (i : Int) := by omega
                obtain rfl : j = i + 1 := by omega
                have HA6 : Hid ((wr.alloc (.cells #[.int .i8 30, .int .i8 0, .int .i64 (i : Int), .int .i64 0, .string ⟨#[]⟩, .int .i64 0, .int .i64 0] 33)).ownsRow w.heap.size 33 7 (.slice a6 (2 * i) c6) (2 * i) (nvs (prs op i))) := HR6.out.alloc _
                go_upto_region 14 with (at_builtin; refine wpList_append_far _ (by rfl) (.tmp 74) (.tmp 77) 22 (by rfl) w.heap.size 33 iT _ 7 56 Try.underlying22 hiT z0 z1 z2 (by rfl) (by decide) (.slice a6 (2 * i) c6) (2 * i) (nvs (prs op i)) (by rfl) HA6.out ⟨_, 0, none⟩ 1 1 (#[.int .i8 30, .int .i8 0, .int .i64 (i : Int), .int .i64 0, .string ⟨#[]⟩, .int .i64 0, .int .i64 0]).toList (by rfl) (by decide) (by rfl) (lit_news (cs := #[.int .i8 30, .int .i8 0, .int .i64 (i : Int), .int .i64 0, .string ⟨#[]⟩, .int .i64 0, .int .i64 0]) (t := 33)) (by simp [Value.oneCell']) (by unfold maxLen; omega) (by omega) (by simp; omega) ?_; intro v9 w9 hin9 hg9 hl9)
                have HU4 : Hid (Up w w9) := Below.grown (HU.out.alloc _) hg9 (by have := HU.out.size; simp; omega) (fun k9 hk9 => (World.ownsRow.lt HA6.out k9 hk9).1)
                have HLB : Hid (w9.ownsRow w.heap.size 33 7 (.slice b5 (i + (i + 1)) e5) (i + (i + 1)) (nvs (leftL op i))) := (HR5.out.alloc _).kept hg9 HDJ.out.ne
                have HRB : Hid (w9.ownsRow w.heap.size 33 7 (v9) (2 * i + 1) (nvs (rightL op i))) := by
                  unfold Hid rightL
                  rw [nvs_app]
                  exact hin9
                clear hin9 hg9 hl9 HA6 HR5 HR6 HDJ hsz HU
                have HBL1 : Hid (NLs (w9.alloc (.cells #[.int .i8 10, .int .i8 0, .int .i64 0, .int .i64 0, .string ⟨#[]⟩, .int .i64 0, .int .i64 0] 33)) (.slice (some ⟨w9.heap.size, 0, none⟩) 1 1) [blkN]) := own_lc (World.ownsRow_lit (base := w9.heap.size) w9 #[.int .i8 10, .int .i8 0, .int .i64 0, .int .i64 0, .string ⟨#[]⟩, .int .i64 0, .int .i64 0] 1 (Nat.le_refl _) (by unfold maxLen; omega) rfl)
                obtain ⟨t1, ht1⟩ : ∃ t1, w9.alloc (.cells #[.int .i8 10, .int .i8 0, .int .i64 0, .int .i64 0, .string ⟨#[]⟩, .int .i64 0, .int .i64 0] 33) = t1 := ⟨_, rfl⟩
                have ut1 : Up w9 t1 := by rw [← ht1]; exact (Up.refl _).alloc _
                obtain ⟨pb, hpb⟩ : ∃ pb, pb = w9.heap.size := ⟨_, rfl⟩
                rw [ht1, ← hpb] at HBL1
                have HLL : Hid ((leftL op i).length = i + (i + 1)) := by unfold Hid leftL numsL; simp
                have HRL : Hid ((rightL op i).length = 2 * i + 1) := by unfold Hid rightL; rw [List.length_append, prs_len]; rfl
                have HLT : Hid (t1.ownsRow w.heap.size 33 7 (.slice b5 (i + (i + 1)) e5) ((leftL op i).length) (nvs (leftL op i))) := by unfold Hid; rw [HLL.out]; exact row_up HLB.out ut1
                obtain ⟨b9, e9, rfl⟩ := row_val HRB.out
                have HRT : Hid (t1.ownsRow w.heap.size 33 7 (.slice b9 (2 * i + 1) e9) ((rightL op i).length) (nvs (rightL op i))) := by unfold Hid; rw [HRL.out]; exact row_up HRB.out ut1
                have HUT : Hid (Up w t1) := HU4.out.trans ut1
                have HT1 : Hid (w9.alloc (.cells #[.int .i8 10, .int .i8 0, .int .i64 0, .int .i64 0, .string ⟨#[]⟩, .int .i64 0, .int .i64 0] 33) = t1) := ht1
                have HPB : Hid (pb = w9.heap.size) := hpb
                have HOKL : Hid ((∀ a ∈ oneL (leftL op i) [blkN], Byt a.text) ∧ (∀ a ∈ oneL (leftL op i) [blkN], a.kids ≤ 9223372036854775807) ∧ (oneL (leftL op i) [blkN]).length ≤ 1000000) := ⟨fun a ha => (rows_ok (left_plain op i) a ha).1, fun a ha => (rows_ok (left_plain op i) a ha).2, by unfold oneL one3; simp [HLL.out]; omega⟩
                have HOKR : Hid ((∀ a ∈ oneL (rightL op i) [blkN], Byt a.text) ∧ (∀ a ∈ oneL (rightL op i) [blkN], a.kids ≤ 9223372036854775807) ∧ (oneL (rightL op i) [blkN]).length ≤ 1000000) := ⟨fun a ha => (rows_ok (right_plain op i) a ha).1, fun a ha => (rows_ok (right_plain op i) a ha).2, by unfold oneL one3; simp [HRL.out]; omega⟩
                have HDL : Hid (dpt (oneL (leftL op i) [blkN]) = max 1 (i - 1)) := dpt_left HRK.out hM1 hM2
                have HDR : Hid (dpt (oneL (rightL op i) [blkN]) = max 1 (i - 1)) := dpt_right HRK.out hM1 hM2
                clear ht1 hpb ut1 HLB HRB HU4
                go_upto_region 15 with fail
                first | rw [HT1.out, ← HPB.out] | (rw [← HPB.out]; try rw [HT1.out]) | skip
                go_wp2_with fail
                refine Calls.mono (one_ _ _ (leftL op i) [blkN] t1 (own_nl HLT.out) HBL1.out (by rw [HLL.out]; omega) (by decide)) ?_
                rintro e a1 ⟨y1, rfl, hy1, uy1⟩
                have HY1 : Hid (NLs a1 y1 (oneL (leftL op i) [blkN])) := own_nl hy1
                have HUa1 : Hid (Up w a1) := HUT.out.trans uy1
                have HVa1 : Hid (Up t1 a1) := uy1
                clear hy1 uy1
                go_wp2_with fail
                refine Calls.mono (depth_ y1 (oneL (leftL op i) [blkN]) a1 HY1.out HOKL.out.1 HOKL.out.2.1 HOKL.out.2.2) ?_
                rintro e b1 ⟨rfl, ub1⟩
                have HUb1 : Hid (Up w b1) := HUa1.out.trans ub1
                have HVb1 : Hid (Up t1 b1) := HVa1.out.trans ub1
                clear ub1 HY1 HUa1 HVa1
                have HRT2 : Hid (b1.ownsRow w.heap.size 33 7 (.slice b9 (2 * i + 1) e9) ((rightL op i).length) (nvs (rightL op i))) := row_up HRT.out HVb1.out
                have HBL2 : Hid (NLs b1 (.slice (some ⟨pb, 0, none⟩) 1 1) [blkN]) := HBL1.out.up HVb1.out
                clear HRT HBL1 HLT HVb1 HUT
                go_wp2_with fail
                refine Calls.mono (one_ _ _ (rightL op i) [blkN] b1 (own_nl HRT2.out) HBL2.out (by rw [HRL.out]; omega) (by decide)) ?_
                rintro e a2 ⟨y2, rfl, hy2, uy2⟩
                have HY2 : Hid (NLs a2 y2 (oneL (rightL op i) [blkN])) := own_nl hy2
                have HUa2 : Hid (Up w a2) := HUb1.out.trans uy2
                have HVa2 : Hid (Up b1 a2) := uy2
                clear hy2 uy2
                go_wp2_with fail
                refine Calls.mono (depth_ y2 (oneL (rightL op i) [blkN]) a2 HY2.out HOKR.out.1 HOKR.out.2.1 HOKR.out.2.2) ?_
                rintro e b2 ⟨rfl, ub2⟩
                have HUb2 : Hid (Up w b2) := HUa2.out.trans ub2
                have HVb2 : Hid (Up b1 b2) := HVa2.out.trans ub2
                clear ub2 HY2 HUa2 HVa2
                rw [HDL.out, HDR.out]
                have e1 : IntKind.i64.wrap ((i : Int) - 1) = (i : Int) - 1 := by rw [IntKind.wrap_i64]; omega
                clear HRT2 HBL2 HVb2 HUb1 HOKL HOKR HDL HDR HLL HRL
                by_cases hm1 : (1 : Int) < (i : Int) - 1
                · rw [show ((max 1 (i - 1) : Nat) : Int) = (i : Int) - 1 by omega]
                  have hm2 : ¬ (i : Int) - 1 ≤ 1 := by omega
                  have hqq : (((i : Int) - 1) == ((i : Int) - 1)) = true := by simp
                  go_wp2_with fail
                  refine Calls.mono (lives_ b2) ?_
                  rintro e tz ⟨rfl, uz⟩
                  have HUz : Hid (Up w tz) := HUb2.out.trans uz
                  clear uz
                  go_wp2_with fail
                  rw [HPo.out]
                  exact ⟨rfl, HUz.out⟩
                · rw [show max 1 (i - 1) = 1 by omega]
                  have hm2 : ¬ (1 : Int) < (i : Int) - 1 := hm1
                  clear hm1
                  go_wp2_with fail
                  refine Calls.mono (lives_ b2) ?_
                  rintro e tz ⟨rfl, uz⟩
                  have HUz : Hid (Up w tz) := HUb2.out.trans uz
                  clear uz
                  go_wp2_with fail
                  rw [HPo.out]
                  exact ⟨rfl, HUz.out⟩
      · have hall : (op != 36) = true ∧ (op != 37) = true ∧ (op != 44) = true ∧ (op != 45) = true ∧ (op != 46) = true ∧ (op != 47) = true ∧ (op != 48) = true := by
          simp only [bne_iff_ne]
          exact ⟨fun h => hop (.inl h), fun h => hop (.inr (.inl h)), fun h => hop (.inr (.inr (.inl h))), fun h => hop (.inr (.inr (.inr (.inl h)))), fun h => hop (.inr (.inr (.inr (.inr (.inl h))))), fun h => hop (.inr (.inr (.inr (.inr (.inr (.inl h)))))), fun h => hop (.inr (.inr (.inr (.inr (.inr (.inr (h)))))))⟩
        obtain ⟨k36, k37, k44, k45, k46, k47, k48⟩ := hall
        clear hop
        go_enter Try.func7, Try.ntmps7
        go_wp2_with fail
        refine Calls.mono (lives_ w) ?_
        rintro e tz ⟨rfl, uz⟩
        have HUz : Hid (Up w tz) := (Up.refl w).trans uz
        clear uz
        go_wp2_with fail
        rw [HPo.out]
        exact ⟨rfl, HUz.out⟩
end TR
end Go.Proofs.Ytpdhbhglpbpeiaa
