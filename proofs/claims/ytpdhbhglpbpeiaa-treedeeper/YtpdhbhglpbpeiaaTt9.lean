
/-
  TreeParts' walk.
-/
import Derived.Test.YtpdhbhglpbpeiaaTs9
import Derived.Test.YtpdhbhglpbpeiaaTz9
namespace Go.Proofs.Ytpdhbhglpbpeiaa
open Go.RowKit
attribute [local go_sem ↓] Go.wp_at_zero Go.wp_at_succ
namespace TR
theorem nl_takeA {W : World} {a : Option Addr} {n c k : Nat} {l : List Nd} (h : NLs W (.slice a n c) l) (hn : n = l.length) (hk : k ≤ n) (hc : n ≤ c) : NLs W (.slice a k c) (l.take k) := by
  have hl : (l.take k).length = k := by rw [List.length_take]; omega
  obtain ⟨h1, a', c', h2, -, h3⟩ := h
  simp only [Value.slice.injEq] at h2
  obtain ⟨rfl, -, rfl⟩ := h2
  refine ⟨by rw [nvs_len], _, c, by rw [hl], by omega, fun hk0 => ?_⟩
  rw [hl] at hk0
  obtain ⟨b, off, h4, h5⟩ := h3 (by omega)
  refine ⟨b, off, h4, fun j hj => ?_⟩
  rw [hl] at hj
  rw [h5 j (by have : k * 7 ≤ l.length * 7 := Nat.mul_le_mul_right _ (by omega); omega)]
  have e : nvs l = nvs (l.take k) ++ nvs (l.drop k) := by rw [← nvs_app, List.take_append_drop]
  rw [e, List.getElem?_append_left (by rw [nvs_len, hl]; omega)]
theorem ck_cases (l : List Nd) : ckE l = 24 ∨ ckE l = 23 ∨ (ckE l = 0 ∧ (wlk l).2.2 = true ∧ (wlk l).1 ≤ 64) := by
  unfold ckE
  split
  · rename_i h
    split
    · exact .inr (.inl rfl)
    · exact .inr (.inr ⟨rfl, h, by omega⟩)
  · exact .inl rfl
set_option maxRecDepth 100000 in
set_option maxHeartbeats 40000000 in
theorem tparts (v0 : Value) (l : List Nd) (p : Int) (w : World) (h0 : NLs w v0 l) (k0 : ∀ t ∈ l, NdOk t) (n0 : l.length ≤ 140737488355328) (hp : p ≤ 9223372036854775807) : Calls Try.prog 5 #[v0, .int .i64 p] w fun e w' => e = .returned (.bool true) ∧ Up w w' := by
  obtain ⟨iT, hiT, z0, z1, z2⟩ := info_parts infoNdW
  obtain ⟨Post, hPost⟩ : ∃ P : Ending → World → Prop, P = fun e w' => e = .returned (.bool true) ∧ Up w w' := ⟨_, rfl⟩
  rw [← hPost]
  have HPo : Hid (Post = fun e w' => e = .returned (.bool true) ∧ Up w w') := hPost
  clear hPost
  have HB0 : Hid (Calls Try.prog 8 #[v0] w (BeyR l w)) := beyond_ v0 l w h0 n0 (ok_len k0)
  obtain ⟨a0, c0, rfl, hc0, -⟩ := nl_at h0
  obtain ⟨n, hn0⟩ : ∃ n, n = l.length := ⟨_, rfl⟩
  have HN : Hid (n = l.length) := hn0
  rw [← hn0] at h0 hc0 HB0 ⊢
  have HNL : Hid (NLs w (.slice a0 n c0) l) := h0
  have HC0 : Hid (n ≤ c0) := hc0
  have HBY : Hid (∀ a ∈ l, Byt a.text) := ok_byt k0
  have HKI : Hid (∀ a ∈ l, a.kids ≤ 9223372036854775807) := ok_kid k0
  have HP : Hid (p ≤ 9223372036854775807) := hp
  have HCK : Hid (ckE l = 24 ∨ ckE l = 23 ∨ (ckE l = 0 ∧ (wlk l).2.2 = true ∧ (wlk l).1 ≤ 64)) := ck_cases l
  clear h0 k0 n0 hp hn0 hc0
  go_enter Try.func5, Try.ntmps5
  go_wp2_with fail
  refine Calls.mono HB0.out ?_
  rintro e w1 ⟨⟨x, rfl, hx⟩, rfl⟩
  clear HB0
  cases x with
  | true =>
    go_wp2_with fail
    rw [HPo.out]
    exact ⟨rfl, Up.refl _⟩
  | false =>
    have HL6 : Hid (l.length ≤ 65536) := hx rfl
    have HLM : Hid (l.length ≤ 1000000) := Nat.le_trans HL6.out (by decide)
    have HCR : Hid (∀ W, Up w1 W → Calls Try.prog 19 #[.slice a0 n c0] W (CpN W fun W' v' => W'.ownsRow W.heap.size 33 7 v' n (nvs l))) := fun W u => by
      have h9 := copyN_ (.slice a0 n c0) l W (HNL.out.up u) (Nat.le_trans HL6.out (by decide))
      rw [← HN.out] at h9
      exact h9
    have HCP : Hid (∀ W, Up w1 W → Calls Try.prog 19 #[.slice a0 n c0] W (CpN W fun W' v' => NLs W' v' l)) := fun W u => (copyN_ (.slice a0 n c0) l W (HNL.out.up u) (Nat.le_trans HL6.out (by decide))).mono fun e w' ⟨v', h1, h2, h3⟩ => ⟨v', h1, own_nl h2, h3⟩
    clear hx
    go_wp2_with fail
    refine Calls.mono (HCP.out w1 (Up.refl _)) ?_
    rintro e w2 ⟨x2, rfl, hx2, u2⟩
    have HU2 : Hid (Up w1 w2) := u2
    have HX2 : Hid (NLs w2 x2 l) := hx2
    clear hx2 u2
    go_wp2_with fail
    refine Calls.mono (behind_ x2 l p w2 HX2.out (Nat.le_trans HL6.out (by decide)) HP.out) ?_
    rintro e w3 ⟨rfl, rfl⟩
    clear HX2
    go_wp2_with fail
    refine Calls.mono (HCP.out w3 HU2.out) ?_
    rintro e w4 ⟨x4, rfl, hx4, u4⟩
    have HU4 : Hid (Up w1 w4) := HU2.out.trans u4
    have HX4 : Hid (NLs w4 x4 l) := hx4
    clear hx4 u4 HU2
    go_wp2_with fail
    refine Calls.mono (kids_ x4 l p w4 HX4.out HLM.out HP.out) ?_
    rintro e w5 ⟨va, rfl, ha, u5⟩
    have HU5 : Hid (Up w1 w5) := HU4.out.trans u5
    clear u5 HX4 HU4
    by_cases hb : bhd l p = -1
    · obtain ⟨ka, kc, rfl⟩ := row_val ha
      have hk0 : kds l p = [] := by unfold kds; rw [if_pos hb]
      rw [hb, hk0]
      have HUT : Hid (Up w1 w5) := HU5.out
      clear ha hk0 hb HU5
      -- TAIL
      go_wp2_with fail
      refine Calls.mono (HCP.out _ HUT.out) ?_
      rintro e t1 ⟨x1, rfl, hx1, ux1⟩
      have HU1 : Hid (Up w1 t1) := HUT.out.trans ux1
      have HX1 : Hid (NLs t1 x1 l) := hx1
      clear hx1 ux1 HUT
      go_wp2_with fail
      refine Calls.mono (check_ x1 l t1 HX1.out HBY.out HKI.out HLM.out) ?_
      rintro e t2 ⟨rfl, u2⟩
      have HU2 : Hid (Up w1 t2) := HU1.out.trans u2
      clear u2 HX1 HU1
      rcases HCK.out with h24 | h23 | ⟨h0, hok, hd⟩
      · rw [h24]
        generalize (ckA l : Int) = ca
        clear h24
        go_wp2_with fail
        refine Calls.mono (lives_ t2) ?_
        rintro e tz ⟨rfl, uz⟩
        have HUz : Hid (Up w1 tz) := HU2.out.trans uz
        clear uz
        go_wp2_with fail
        rw [HPo.out]
        exact ⟨rfl, HUz.out⟩
      · rw [h23]
        generalize (ckA l : Int) = ca
        clear h23
        go_wp2_with fail
        refine Calls.mono (lives_ t2) ?_
        rintro e tz ⟨rfl, uz⟩
        have HUz : Hid (Up w1 tz) := HU2.out.trans uz
        clear uz
        go_wp2_with fail
        rw [HPo.out]
        exact ⟨rfl, HUz.out⟩
      · have HT : Hid (Tre l) := tre_of hok
        have HD : Hid ((wlk l).1 ≤ 64) := hd
        have HZ0 : Hid (ckE l = 0) := h0
        rw [h0]
        generalize (ckA l : Int) = ca
        clear h0 hok hd
        go_wp2_with fail
        refine Calls.mono (HCR.out t2 HU2.out) ?_
        rintro e t3 ⟨vo, rfl, ho, u3⟩
        obtain ⟨g, co, hg, hco, rfl⟩ := row_some ho (by rw [HN.out]; exact HT.out.pos)
        have HO0 : Hid (t3.ownsRow t2.heap.size 33 7 (.slice (some ⟨g, 0, none⟩) n co) n (nvs (oth l 0))) := ho
        have HG : Hid (t2.heap.size ≤ g ∧ w1.heap.size ≤ g) := ⟨hg, Nat.le_trans HU2.out.size hg⟩
        have HU3 : Hid (Up w1 t3) := HU2.out.trans u3
        have HCO : Hid (n ≤ co) := hco
        clear ho u3 HU2 hg hco
        go_wp2_with fail
        go_loopw [12] (fun s12 W => ∃ i : Nat, i ≤ n ∧ s12 = .int .i64 i ∧ W.ownsRow t2.heap.size 33 7 (.slice (some ⟨g, 0, none⟩) n co) n (nvs (oth l i)) ∧ Up w1 W) (fun s12 _ => n - (intOf s12).toNat)
        case atStart => exact ⟨0, Nat.zero_le _, rfl, HO0.out, HU3.out⟩
        case round =>
          obtain ⟨i, hi, rfl, hrow, hu⟩ := hrel
          have HU : Hid (Up w1 wr) := hu
          have HROW : Hid (wr.ownsRow t2.heap.size 33 7 (.slice (some ⟨g, 0, none⟩) n co) n (nvs (oth l i))) := hrow
          clear hu hrow HO0 HU3
          by_cases hlt : i < n
          · have hlt2 : (i : Int) < (n : Int) := by omega
            have ei : IntKind.i64.wrap ((i : Int) + 1) = ((i + 1 : Nat) : Int) := by have := HLM.out; have := HN.out; rw [IntKind.wrap_i64]; omega
            have e3 : IntKind.i64.wrap (3 * (i : Int)) = 3 * (i : Int) := by have := HLM.out; have := HN.out; rw [IntKind.wrap_i64]; omega
            have hol : i < (oth l i).length := by rw [oth_len, ← HN.out]; exact hlt
            have x5 : wr.cell? ⟨g, i * 7 + 5, none⟩ = some (.int .i64 ((oth l i).getD i dn).pos) := by
              rw [HROW.out.cellAt _ (by omega), nvs_get _ i 5 hol (by decide)]
              rfl
            have f5 : ∀ j, wr.frozen? ⟨g, j, none⟩ = false := fun j => HROW.out.frozenAt j
            have HS : Hid ((wr.setCell ⟨g, i * 7 + 5, none⟩ (.int .i64 (3 * (i : Int)))).ownsRow t2.heap.size 33 7 (.slice (some ⟨g, 0, none⟩) n co) n (nvs (oth l (i + 1)))) := by
              have h9 := (HROW.out.stored (i * 7 + 5) (.int .i64 (3 * (i : Int)))).1
              rw [← nvs_set _ _ _ hol] at h9
              exact h9
            have HUS : Hid (Up w1 (wr.setCell ⟨g, i * 7 + 5, none⟩ (.int .i64 (3 * (i : Int))))) := up_setN HU.out _ _ HG.out.2
            generalize ((oth l i).getD i dn).pos = zp at x5
            clear hol
            go_wp2_with fail
            go_roundw
            case rel => exact ⟨i + 1, hlt, by go_num, HS.out, HUS.out⟩
            case measure => simp [intOf]; omega
          · have hlt2 : ¬ (i : Int) < (n : Int) := by omega
            obtain rfl : i = n := by omega
            have HO4 : Hid (wr.ownsRow t2.heap.size 33 7 (.slice (some ⟨g, 0, none⟩) i co) i (nvs (oth l i))) := HROW.out
            obtain ⟨m, hm⟩ : ∃ m, i = m + 1 := ⟨i - 1, by have := HT.out.pos; have := HN.out; omega⟩
            have HM : Hid (i = m + 1) := hm
            have ew : IntKind.i64.wrap ((i : Int) - 1) = (m : Int) := by have := HLM.out; have := HN.out; rw [IntKind.wrap_i64]; omega
            have hmc : (m : Int) ≤ (c0 : Int) := by have := HC0.out; omega
            have hmcn : m ≤ c0 := by have := HC0.out; omega
            have HTK : Hid (∀ W, Up w1 W → NLs W (.slice a0 m c0) (l.take m)) := fun W u => nl_takeA (HNL.out.up u) HN.out (by have := HM.out; omega) HC0.out
            have HWT : Hid ((wlk (l.take m)).2 = (m, false)) := by
              have h9 := HT.out.cut
              rw [← HN.out, HM.out] at h9
              exact h9
            clear HROW hm
            go_wp2_with fail
            refine Calls.mono (copyN_ (.slice a0 m c0) (l.take m) wr (HTK.out wr HU.out) (by rw [List.length_take]; have := HLM.out; omega)) ?_
            rintro e t5 ⟨x5, rfl, hx5, u5⟩
            have HX5 : Hid (NLs t5 x5 (l.take m)) := own_nl hx5
            have HU5 : Hid (Up w1 t5) := HU.out.trans u5
            have HO5 : Hid (t5.ownsRow t2.heap.size 33 7 (.slice (some ⟨g, 0, none⟩) i co) i (nvs (oth l i))) := row_up HO4.out u5
            clear hx5 u5 HU HO4 HTK
            go_wp2_with fail
            refine Calls.mono (check_ x5 (l.take m) t5 HX5.out (fun a ha => HBY.out a (List.mem_of_mem_take ha)) (fun a ha => HKI.out a (List.mem_of_mem_take ha)) (by rw [List.length_take]; have := HLM.out; omega)) ?_
            rintro e t6 ⟨rfl, u6⟩
            rw [show ckE (l.take m) = 24 by unfold ckE; rw [HWT.out]; rfl, show ckA (l.take m) = m by unfold ckA; rw [HWT.out]]
            have HU6 : Hid (Up w1 t6) := HU5.out.trans u6
            have HO6 : Hid (t6.ownsRow t2.heap.size 33 7 (.slice (some ⟨g, 0, none⟩) i co) i (nvs (oth l i))) := row_up HO5.out u6
            clear u6 HU5 HO5 HX5 HWT
            go_wp2_with fail
            refine Calls.mono (HCR.out t6 HU6.out) ?_
            rintro e t7 ⟨x7, rfl, hx7, u7⟩
            obtain ⟨va7, vc7, rfl⟩ := row_val hx7
            have HX7 : Hid (t7.ownsRow t6.heap.size 33 7 (.slice va7 i vc7) i (nvs l)) := hx7
            have HU7 : Hid (Up w1 t7) := HU6.out.trans u7
            have HO7 : Hid (t7.ownsRow t2.heap.size 33 7 (.slice (some ⟨g, 0, none⟩) i co) i (nvs (oth l i))) := row_up HO6.out u7
            have HXA : Hid ((t7.alloc (.cells #[.int .i8 2, .int .i8 0, .int .i64 0, .int .i64 0, .string ⟨#[]⟩, .int .i64 0, .int .i64 0] 33)).ownsRow t6.heap.size 33 7 (.slice va7 i vc7) i (nvs l)) := hx7.alloc _
            have HLA : Hid (LC (t7.alloc (.cells #[.int .i8 2, .int .i8 0, .int .i64 0, .int .i64 0, .string ⟨#[]⟩, .int .i64 0, .int .i64 0] 33)) (.slice (some ⟨t7.heap.size, 0, none⟩) 1 1) 7 1 (nvs [⟨2, 0, 0, 0, [], 0, 0⟩])) := own_lc (World.ownsRow_lit (base := t7.heap.size) t7 #[.int .i8 2, .int .i8 0, .int .i64 0, .int .i64 0, .string ⟨#[]⟩, .int .i64 0, .int .i64 0] 1 (Nat.le_refl _) (by unfold maxLen; omega) rfl)
            have HB7 : Hid (t6.heap.size ≤ (t7.alloc (.cells #[.int .i8 2, .int .i8 0, .int .i64 0, .int .i64 0, .string ⟨#[]⟩, .int .i64 0, .int .i64 0] 33)).heap.size) := by have := u7.size; unfold Hid; simp; omega
            have hi9 : i ≤ 1000000 := by have := HLM.out; have := HN.out; omega
            have HG6 : Hid (g < t6.heap.size) := (World.ownsRow.lt HO6.out g rfl).2
            have HB6 : Hid (w1.heap.size ≤ t6.heap.size) := HU6.out.size
            clear hx7 u7 HU6 HO6
            go_wp2_with (at_builtin; refine wpList_append_lc (by rfl) (.tmp 131) (.tmp 133) 22 (by rfl) t6.heap.size 33 iT _ 7 56 Try.underlying22 hiT z0 z1 z2 (by rfl) (by decide) (.slice va7 i vc7) i (nvs l) (by rfl) HXA.out (.slice (some ⟨t7.heap.size, 0, none⟩) 1 1) 1 (nvs [⟨2, 0, 0, 0, [], 0, 0⟩]) (by rfl) HLA.out (nvs_one _) (by unfold maxLen; omega) (by omega) HB7.out ?_; intro x8 t8 hin8 hg8)
            have HU8 : Hid (Up w1 t8) := Below.grown (HU7.out.alloc _) hg8 (by have := HU7.out.size; simp; omega) (fun k9 hk9 => by have h8 := (World.ownsRow.lt HX7.out k9 hk9).1; have h7 := HB6.out; omega)
            have HO8 : Hid (t8.ownsRow t2.heap.size 33 7 (.slice (some ⟨g, 0, none⟩) i co) i (nvs (oth l i))) := (HO7.out.alloc _).kept hg8 (.inr (fun e9 => by
              have h8 := (World.ownsRow.lt HX7.out g e9.symm).1
              have h7 := (World.ownsRow.lt HO7.out g rfl)
              have h6 := HG6.out
              omega))
            have HX8 : Hid (NLs t8 x8 (l ++ [⟨2, 0, 0, 0, [], 0, 0⟩])) := by
              refine own_nl (base := t6.heap.size) ?_
              rw [nvs_app, List.length_append, ← HN.out]
              exact hin8
            clear hin8 hg8 HXA HLA HB7 HX7 HU7 HO7
            go_wp2_with fail
            refine Calls.mono (check_ x8 (l ++ [⟨2, 0, 0, 0, [], 0, 0⟩]) t8 HX8.out (fun a ha => by rcases List.mem_append.1 ha with h9 | h9; exact HBY.out a h9; simp at h9; rw [h9]; intro c hc; cases hc) (fun a ha => by rcases List.mem_append.1 ha with h9 | h9; exact HKI.out a h9; simp at h9; rw [h9]; decide) (by rw [List.length_append]; have := HL6.out; simp; omega)) ?_
            rintro e t9 ⟨rfl, u9⟩
            rw [show ckE (l ++ [⟨2, 0, 0, 0, [], 0, 0⟩]) = 24 by unfold ckE; rw [HT.out.more]; rfl, show ckA (l ++ [⟨2, 0, 0, 0, [], 0, 0⟩]) = l.length by unfold ckA; rw [HT.out.more]]
            have HU9 : Hid (Up w1 t9) := HU8.out.trans u9
            have HO9 : Hid (t9.ownsRow t2.heap.size 33 7 (.slice (some ⟨g, 0, none⟩) i co) i (nvs (oth l i))) := row_up HO8.out u9
            have HOW : Hid (wlk (oth l i) = wlk l) := by have h9 := HT.out.oth; rw [← HN.out] at h9; exact h9
            have HOL : Hid ((oth l i).length = i) := by unfold Hid; rw [oth_len, HN.out]
            have HOB : Hid (∀ a ∈ oth l i, Byt a.text) := oth_all (P := fun a => Byt a.text) (fun a z h _ => h) HBY.out i (by rw [← HN.out]; exact Nat.le_refl _)
            have HOK : Hid (∀ a ∈ oth l i, a.kids ≤ 9223372036854775807) := oth_all (P := fun a => a.kids ≤ 9223372036854775807) (fun a z h _ => h) HKI.out i (by rw [← HN.out]; exact Nat.le_refl _)
            have HON : Hid (∀ W, Up t9 W → NLs W (.slice (some ⟨g, 0, none⟩) i co) (oth l i)) := fun W u => own_nl (base := t2.heap.size) (by rw [HOL.out]; exact row_up HO9.out u)
            clear u9 HU8 HO8 HX8
            rw [← HN.out]
            go_wp2_with fail
            refine Calls.mono (check_ _ (oth l i) t9 (HON.out t9 (Up.refl _)) HOB.out HOK.out (by rw [HOL.out]; exact hi9)) ?_
            rintro e ta ⟨rfl, ua⟩
            rw [show ckE (oth l i) = 0 by have h9 := HZ0.out; unfold ckE at h9 ⊢; rw [HOW.out]; exact h9]
            generalize (ckA (oth l i) : Int) = cb
            have HUa : Hid (Up w1 ta) := HU9.out.trans ua
            have HVa : Hid (Up t9 ta) := ua
            clear ua HU9
            go_wp2_with fail
            refine Calls.mono (HCP.out ta HUa.out) ?_
            rintro e tb ⟨xb, rfl, hxb, ub⟩
            have HXB : Hid (NLs tb xb l) := hxb
            have HUb : Hid (Up w1 tb) := HUa.out.trans ub
            have HVb : Hid (Up t9 tb) := HVa.out.trans ub
            clear hxb ub HUa HVa
            go_wp2_with fail
            refine Calls.mono (behind_ xb l 0 tb HXB.out (by have := HLM.out; omega) (by decide)) ?_
            rintro e tc ⟨rfl, hw⟩
            obtain rfl := hw.symm
            clear hw
            rw [HT.out.bhd, ← HN.out]
            have hmm : ((m : Int) == (m : Int)) = true := by simp
            have hii : ((i : Int) == (i : Int)) = true := by simp
            go_wp2_with fail
            refine Calls.mono (same_ (.slice a0 i c0) _ l (oth l i) _ (HNL.out.up HUb.out) (HON.out _ HVb.out) (by have := HLM.out; omega) (by rw [HOL.out]; omega) HBY.out HOB.out) ?_
            rintro e td ⟨rfl, ud⟩
            rw [show sam l (oth l i) = true by unfold sam; rw [oth_nop _ _ (by rw [← HN.out]; exact Nat.le_refl _)]; simp]
            have HUd : Hid (Up w1 td) := HUb.out.trans ud
            have HVd : Hid (Up t9 td) := HVb.out.trans ud
            clear ud HUb HVb HXB
            go_wp2_with fail
            refine Calls.mono (depth_ _ (oth l i) td (HON.out _ HVd.out) HOB.out HOK.out (by rw [HOL.out]; exact hi9)) ?_
            rintro e te ⟨rfl, ue⟩
            obtain ⟨dd, hdd⟩ : ∃ dd, dd = dpt (oth l i) := ⟨_, rfl⟩
            have hd64 : (dd : Int) ≤ 64 := by have h9 := HD.out; rw [hdd]; unfold dpt; rw [HOW.out]; omega
            rw [← hdd]
            have HUe : Hid (Up w1 te) := HUd.out.trans ue
            clear ue HUd HVd hdd
            go_wp2_with fail
            refine Calls.mono (lives_ te) ?_
            rintro e tz ⟨rfl, uz⟩
            have HUz : Hid (Up w1 tz) := HUe.out.trans uz
            clear uz
            go_wp2_with fail
            rw [HPo.out]
            exact ⟨rfl, HUz.out⟩
    · obtain ⟨q0, k, z, rfl, hq0, hk, hkn, hz, hqz, hzn, hit, hkd⟩ := bhd_kids hb
      obtain ⟨ka, kc, rfl⟩ := row_val ha
      have hlen : (kds l (q0 : Int)).length = k := by rw [hkd, kdsF_len]
      rw [hlen] at ha ⊢
      have HR : Hid (w5.ownsRow w4.heap.size 3 1 (.slice ka k kc) k (ivn (kdsF l k ((q0 : Int) + 1)))) := by rw [hkd] at ha; exact ha
      have HIT : Hid (itb l k ((q0 : Int) + 1) = (z : Int)) := hit
      obtain ⟨a', c', hv9, -, hc1⟩ := nl_at HNL.out
      simp only [Value.slice.injEq] at hv9
      obtain ⟨rfl, -, rfl⟩ := hv9
      obtain ⟨b1, o1, rfl, hc2⟩ := hc1 (by omega)
      have HX6 : Hid (∀ W, Up w1 W → W.cell? ⟨b1, o1 + q0 * 7 + 6, none⟩ = some (.int .i64 (k : Int))) := fun W u => by
        rw [hc2 W u q0 hq0 6 _ rfl, hk]
      have x6 := HX6.out w5 HU5.out
      have HKA : Hid (0 < k → ∃ g9, ka = some ⟨g9, 0, none⟩ ∧ ∀ W, Up w5 W → ∀ i, i < k → W.cell? ⟨g9, i, none⟩ = some (.int .i64 (itb l i ((q0 : Int) + 1)))) := fun hk0 => by
        have h9 := HR.out
        obtain ⟨g9, c9, -, -, he⟩ := row_some h9 hk0
        simp only [Value.slice.injEq] at he
        obtain ⟨rfl, -, rfl⟩ := he
        refine ⟨g9, rfl, fun W u i hi => u.cell ?_⟩
        rw [h9.cellAt i (by omega)]
        unfold ivn
        rw [List.getElem?_map]
        have h8 := kdsF_get l k i ((q0 : Int) + 1) hi
        rw [List.getD_eq_getElem?_getD] at h8
        have h7 : i < (kdsF l k ((q0 : Int) + 1)).length := by rw [kdsF_len]; exact hi
        rw [List.getElem?_eq_getElem h7] at h8 ⊢
        rw [← h8]
        rfl
      have HQN : Hid (∀ i, itb l i ((q0 : Int) + 1) ≤ n) := fun i => by rw [HN.out]; exact itb_le hq0 i
      rw [← HN.out] at hq0 hkn hzn
      rw [hz]
      have g1 : ¬ (z : Int) < 0 := by omega
      have g2 : decide ((q0 : Int) < 0) = false := by rw [decide_eq_false_iff_not]; omega
      have g3 : ¬ (n : Int) ≤ (q0 : Int) := by omega
      have g3n : ¬ n ≤ q0 := by omega
      have g4n : ¬ z ≤ q0 := by omega
      have g5n : ¬ n < z := by omega
      have g4 : ¬ (z : Int) ≤ (q0 : Int) := by omega
      have g5 : ¬ (n : Int) < (z : Int) := by omega
      have g6 : ((k : Int) != (k : Int)) = false := by simp
      have g7 : 0 ≤ (q0 : Int) ∧ (q0 : Int) < (n : Int) := by omega
      have g8 : (0 : Int) ≤ (z : Int) := by omega
      have hq1 : IntKind.i64.wrap ((q0 : Int) + 1) = (q0 : Int) + 1 := by have := HLM.out; have := HN.out; rw [IntKind.wrap_i64]; omega
      have HKN : Hid (k ≤ 1000000) := by have := HLM.out; have := HN.out; unfold Hid; omega
      have HZZ : Hid (∀ z : Int, (z != z) = false) := fun z => by simp
      clear ha hb hk hkn hqz hzn hit hkd hlen hz hc1 hc2 HR
      go_wp2_with fail
      go_loopw [7, 8] (fun s7 s8 W => ∃ i : Nat, i ≤ k ∧ s7 = .int .i64 (itb l i ((q0 : Int) + 1)) ∧ s8 = .int .i64 i ∧ Up w5 W) (fun _ s8 _ => k - (intOf s8).toNat)
      case atStart => exact ⟨0, Nat.zero_le _, rfl, rfl, Up.refl _⟩
      case round =>
        obtain ⟨i, hi, rfl, rfl, hu⟩ := hrel
        have HU : Hid (Up w5 wr) := hu
        clear x6 hu hq1 g1 g2 g3 g4 g5 g6 g7 g8 g3n g4n g5n
        by_cases hlt : i < k
        · have hlt2 : (i : Int) < (k : Int) := by omega
          have ei : IntKind.i64.wrap ((i : Int) + 1) = ((i + 1 : Nat) : Int) := by have := HKN.out; rw [IntKind.wrap_i64]; omega
          obtain ⟨g9, rfl, hcell⟩ := HKA.out (by omega)
          have xi := hcell wr HU.out i hlt
          have HQI : Hid (itb l i ((q0 : Int) + 1) ≤ n) := HQN.out i
          have HSU : Hid (itb l (i + 1) ((q0 : Int) + 1) = bhd l (itb l i ((q0 : Int) + 1))) := itb_succ _ _ _
          have hzz := HZZ.out (itb l i ((q0 : Int) + 1))
          generalize itb l i ((q0 : Int) + 1) = zi at *
          have HUW : Hid (Up w1 wr) := HU5.out.trans HU.out
          clear hcell
          go_wp2_with fail
          refine Calls.mono (HCP.out wr HUW.out) ?_
          rintro e v1 ⟨y1, rfl, hy1, uy1⟩
          have HY1 : Hid (NLs v1 y1 l) := hy1
          have HUV : Hid (Up w5 v1) := HU.out.trans uy1
          clear hy1 uy1 xi hzz
          go_wp2_with fail
          refine Calls.mono (behind_ y1 l zi v1 HY1.out (Nat.le_trans HL6.out (by decide)) (by have := HQI.out; have := HLM.out; have := HN.out; omega)) ?_
          rintro e v2 ⟨rfl, hw⟩
          obtain rfl := hw.symm
          clear hw HY1
          go_wp2_with fail
          go_roundw
          case rel => exact ⟨i + 1, hlt, by rw [HSU.out], by go_num, HUV.out⟩
          case measure => simp [intOf]; omega
        · have hlt2 : ¬ (i : Int) < (k : Int) := by omega
          obtain rfl : i = k := by omega
          rw [HIT.out]
          have hzz := HZZ.out (z : Int)
          have HUT : Hid (Up w1 wr) := HU5.out.trans HU.out
          clear HU HU5 HKA HX6 HQN
          go_wp2_with fail
          refine Calls.mono (HCP.out _ HUT.out) ?_
          rintro e t1 ⟨x1, rfl, hx1, ux1⟩
          have HU1 : Hid (Up w1 t1) := HUT.out.trans ux1
          have HX1 : Hid (NLs t1 x1 l) := hx1
          clear hx1 ux1 HUT
          go_wp2_with fail
          refine Calls.mono (check_ x1 l t1 HX1.out HBY.out HKI.out HLM.out) ?_
          rintro e t2 ⟨rfl, u2⟩
          have HU2 : Hid (Up w1 t2) := HU1.out.trans u2
          clear u2 HX1 HU1
          rcases HCK.out with h24 | h23 | ⟨h0, hok, hd⟩
          · rw [h24]
            generalize (ckA l : Int) = ca
            clear h24
            go_wp2_with fail
            refine Calls.mono (lives_ t2) ?_
            rintro e tz ⟨rfl, uz⟩
            have HUz : Hid (Up w1 tz) := HU2.out.trans uz
            clear uz
            go_wp2_with fail
            rw [HPo.out]
            exact ⟨rfl, HUz.out⟩
          · rw [h23]
            generalize (ckA l : Int) = ca
            clear h23
            go_wp2_with fail
            refine Calls.mono (lives_ t2) ?_
            rintro e tz ⟨rfl, uz⟩
            have HUz : Hid (Up w1 tz) := HU2.out.trans uz
            clear uz
            go_wp2_with fail
            rw [HPo.out]
            exact ⟨rfl, HUz.out⟩
          · have HT : Hid (Tre l) := tre_of hok
            have HD : Hid ((wlk l).1 ≤ 64) := hd
            have HZ0 : Hid (ckE l = 0) := h0
            rw [h0]
            generalize (ckA l : Int) = ca
            clear h0 hok hd
            go_wp2_with fail
            refine Calls.mono (HCR.out t2 HU2.out) ?_
            rintro e t3 ⟨vo, rfl, ho, u3⟩
            obtain ⟨g, co, hg, hco, rfl⟩ := row_some ho (by rw [HN.out]; exact HT.out.pos)
            have HO0 : Hid (t3.ownsRow t2.heap.size 33 7 (.slice (some ⟨g, 0, none⟩) n co) n (nvs (oth l 0))) := ho
            have HG : Hid (t2.heap.size ≤ g ∧ w1.heap.size ≤ g) := ⟨hg, Nat.le_trans HU2.out.size hg⟩
            have HU3 : Hid (Up w1 t3) := HU2.out.trans u3
            have HCO : Hid (n ≤ co) := hco
            clear ho u3 HU2 hg hco
            go_wp2_with fail
            go_loopw [12] (fun s12 W => ∃ i : Nat, i ≤ n ∧ s12 = .int .i64 i ∧ W.ownsRow t2.heap.size 33 7 (.slice (some ⟨g, 0, none⟩) n co) n (nvs (oth l i)) ∧ Up w1 W) (fun s12 _ => n - (intOf s12).toNat)
            case atStart => exact ⟨0, Nat.zero_le _, rfl, HO0.out, HU3.out⟩
            case round =>
              obtain ⟨i, hi, rfl, hrow, hu⟩ := hrel
              have HU : Hid (Up w1 wr) := hu
              have HROW : Hid (wr.ownsRow t2.heap.size 33 7 (.slice (some ⟨g, 0, none⟩) n co) n (nvs (oth l i))) := hrow
              clear hu hrow HO0 HU3
              by_cases hlt : i < n
              · have hlt2 : (i : Int) < (n : Int) := by omega
                have ei : IntKind.i64.wrap ((i : Int) + 1) = ((i + 1 : Nat) : Int) := by have := HLM.out; have := HN.out; rw [IntKind.wrap_i64]; omega
                have e3 : IntKind.i64.wrap (3 * (i : Int)) = 3 * (i : Int) := by have := HLM.out; have := HN.out; rw [IntKind.wrap_i64]; omega
                have hol : i < (oth l i).length := by rw [oth_len, ← HN.out]; exact hlt
                have x5 : wr.cell? ⟨g, i * 7 + 5, none⟩ = some (.int .i64 ((oth l i).getD i dn).pos) := by
                  rw [HROW.out.cellAt _ (by omega), nvs_get _ i 5 hol (by decide)]
                  rfl
                have f5 : ∀ j, wr.frozen? ⟨g, j, none⟩ = false := fun j => HROW.out.frozenAt j
                have HS : Hid ((wr.setCell ⟨g, i * 7 + 5, none⟩ (.int .i64 (3 * (i : Int)))).ownsRow t2.heap.size 33 7 (.slice (some ⟨g, 0, none⟩) n co) n (nvs (oth l (i + 1)))) := by
                  have h9 := (HROW.out.stored (i * 7 + 5) (.int .i64 (3 * (i : Int)))).1
                  rw [← nvs_set _ _ _ hol] at h9
                  exact h9
                have HUS : Hid (Up w1 (wr.setCell ⟨g, i * 7 + 5, none⟩ (.int .i64 (3 * (i : Int))))) := up_setN HU.out _ _ HG.out.2
                generalize ((oth l i).getD i dn).pos = zp at x5
                clear hol
                go_wp2_with fail
                go_roundw
                case rel => exact ⟨i + 1, hlt, by go_num, HS.out, HUS.out⟩
                case measure => simp [intOf]; omega
              · have hlt2 : ¬ (i : Int) < (n : Int) := by omega
                obtain rfl : i = n := by omega
                have HO4 : Hid (wr.ownsRow t2.heap.size 33 7 (.slice (some ⟨g, 0, none⟩) i co) i (nvs (oth l i))) := HROW.out
                obtain ⟨m, hm⟩ : ∃ m, i = m + 1 := ⟨i - 1, by have := HT.out.pos; have := HN.out; omega⟩
                have HM : Hid (i = m + 1) := hm
                have ew : IntKind.i64.wrap ((i : Int) - 1) = (m : Int) := by have := HLM.out; have := HN.out; rw [IntKind.wrap_i64]; omega
                have hmc : (m : Int) ≤ (c0 : Int) := by have := HC0.out; omega
                have hmcn : m ≤ c0 := by have := HC0.out; omega
                have HTK : Hid (∀ W, Up w1 W → NLs W (.slice (some ⟨b1, o1, none⟩) m c0) (l.take m)) := fun W u => nl_takeA (HNL.out.up u) HN.out (by have := HM.out; omega) HC0.out
                have HWT : Hid ((wlk (l.take m)).2 = (m, false)) := by
                  have h9 := HT.out.cut
                  rw [← HN.out, HM.out] at h9
                  exact h9
                clear HROW hm
                go_wp2_with fail
                refine Calls.mono (copyN_ (.slice (some ⟨b1, o1, none⟩) m c0) (l.take m) wr (HTK.out wr HU.out) (by rw [List.length_take]; have := HLM.out; omega)) ?_
                rintro e t5 ⟨x5, rfl, hx5, u5⟩
                have HX5 : Hid (NLs t5 x5 (l.take m)) := own_nl hx5
                have HU5 : Hid (Up w1 t5) := HU.out.trans u5
                have HO5 : Hid (t5.ownsRow t2.heap.size 33 7 (.slice (some ⟨g, 0, none⟩) i co) i (nvs (oth l i))) := row_up HO4.out u5
                clear hx5 u5 HU HO4 HTK
                go_wp2_with fail
                refine Calls.mono (check_ x5 (l.take m) t5 HX5.out (fun a ha => HBY.out a (List.mem_of_mem_take ha)) (fun a ha => HKI.out a (List.mem_of_mem_take ha)) (by rw [List.length_take]; have := HLM.out; omega)) ?_
                rintro e t6 ⟨rfl, u6⟩
                rw [show ckE (l.take m) = 24 by unfold ckE; rw [HWT.out]; rfl, show ckA (l.take m) = m by unfold ckA; rw [HWT.out]]
                have HU6 : Hid (Up w1 t6) := HU5.out.trans u6
                have HO6 : Hid (t6.ownsRow t2.heap.size 33 7 (.slice (some ⟨g, 0, none⟩) i co) i (nvs (oth l i))) := row_up HO5.out u6
                clear u6 HU5 HO5 HX5 HWT
                go_wp2_with fail
                refine Calls.mono (HCR.out t6 HU6.out) ?_
                rintro e t7 ⟨x7, rfl, hx7, u7⟩
                obtain ⟨va7, vc7, rfl⟩ := row_val hx7
                have HX7 : Hid (t7.ownsRow t6.heap.size 33 7 (.slice va7 i vc7) i (nvs l)) := hx7
                have HU7 : Hid (Up w1 t7) := HU6.out.trans u7
                have HO7 : Hid (t7.ownsRow t2.heap.size 33 7 (.slice (some ⟨g, 0, none⟩) i co) i (nvs (oth l i))) := row_up HO6.out u7
                have HXA : Hid ((t7.alloc (.cells #[.int .i8 2, .int .i8 0, .int .i64 0, .int .i64 0, .string ⟨#[]⟩, .int .i64 0, .int .i64 0] 33)).ownsRow t6.heap.size 33 7 (.slice va7 i vc7) i (nvs l)) := hx7.alloc _
                have HLA : Hid (LC (t7.alloc (.cells #[.int .i8 2, .int .i8 0, .int .i64 0, .int .i64 0, .string ⟨#[]⟩, .int .i64 0, .int .i64 0] 33)) (.slice (some ⟨t7.heap.size, 0, none⟩) 1 1) 7 1 (nvs [⟨2, 0, 0, 0, [], 0, 0⟩])) := own_lc (World.ownsRow_lit (base := t7.heap.size) t7 #[.int .i8 2, .int .i8 0, .int .i64 0, .int .i64 0, .string ⟨#[]⟩, .int .i64 0, .int .i64 0] 1 (Nat.le_refl _) (by unfold maxLen; omega) rfl)
                have HB7 : Hid (t6.heap.size ≤ (t7.alloc (.cells #[.int .i8 2, .int .i8 0, .int .i64 0, .int .i64 0, .string ⟨#[]⟩, .int .i64 0, .int .i64 0] 33)).heap.size) := by have := u7.size; unfold Hid; simp; omega
                have hi9 : i ≤ 1000000 := by have := HLM.out; have := HN.out; omega
                have HG6 : Hid (g < t6.heap.size) := (World.ownsRow.lt HO6.out g rfl).2
                have HB6 : Hid (w1.heap.size ≤ t6.heap.size) := HU6.out.size
                clear hx7 u7 HU6 HO6
                go_wp2_with (at_builtin; refine wpList_append_lc (by rfl) (.tmp 131) (.tmp 133) 22 (by rfl) t6.heap.size 33 iT _ 7 56 Try.underlying22 hiT z0 z1 z2 (by rfl) (by decide) (.slice va7 i vc7) i (nvs l) (by rfl) HXA.out (.slice (some ⟨t7.heap.size, 0, none⟩) 1 1) 1 (nvs [⟨2, 0, 0, 0, [], 0, 0⟩]) (by rfl) HLA.out (nvs_one _) (by unfold maxLen; omega) (by omega) HB7.out ?_; intro x8 t8 hin8 hg8)
                have HU8 : Hid (Up w1 t8) := Below.grown (HU7.out.alloc _) hg8 (by have := HU7.out.size; simp; omega) (fun k9 hk9 => by have h8 := (World.ownsRow.lt HX7.out k9 hk9).1; have h7 := HB6.out; omega)
                have HO8 : Hid (t8.ownsRow t2.heap.size 33 7 (.slice (some ⟨g, 0, none⟩) i co) i (nvs (oth l i))) := (HO7.out.alloc _).kept hg8 (.inr (fun e9 => by
                  have h8 := (World.ownsRow.lt HX7.out g e9.symm).1
                  have h7 := (World.ownsRow.lt HO7.out g rfl)
                  have h6 := HG6.out
                  omega))
                have HX8 : Hid (NLs t8 x8 (l ++ [⟨2, 0, 0, 0, [], 0, 0⟩])) := by
                  refine own_nl (base := t6.heap.size) ?_
                  rw [nvs_app, List.length_append, ← HN.out]
                  exact hin8
                clear hin8 hg8 HXA HLA HB7 HX7 HU7 HO7
                go_wp2_with fail
                refine Calls.mono (check_ x8 (l ++ [⟨2, 0, 0, 0, [], 0, 0⟩]) t8 HX8.out (fun a ha => by rcases List.mem_append.1 ha with h9 | h9; exact HBY.out a h9; simp at h9; rw [h9]; intro c hc; cases hc) (fun a ha => by rcases List.mem_append.1 ha with h9 | h9; exact HKI.out a h9; simp at h9; rw [h9]; decide) (by rw [List.length_append]; have := HL6.out; simp; omega)) ?_
                rintro e t9 ⟨rfl, u9⟩
                rw [show ckE (l ++ [⟨2, 0, 0, 0, [], 0, 0⟩]) = 24 by unfold ckE; rw [HT.out.more]; rfl, show ckA (l ++ [⟨2, 0, 0, 0, [], 0, 0⟩]) = l.length by unfold ckA; rw [HT.out.more]]
                have HU9 : Hid (Up w1 t9) := HU8.out.trans u9
                have HO9 : Hid (t9.ownsRow t2.heap.size 33 7 (.slice (some ⟨g, 0, none⟩) i co) i (nvs (oth l i))) := row_up HO8.out u9
                have HOW : Hid (wlk (oth l i) = wlk l) := by have h9 := HT.out.oth; rw [← HN.out] at h9; exact h9
                have HOL : Hid ((oth l i).length = i) := by unfold Hid; rw [oth_len, HN.out]
                have HOB : Hid (∀ a ∈ oth l i, Byt a.text) := oth_all (P := fun a => Byt a.text) (fun a z h _ => h) HBY.out i (by rw [← HN.out]; exact Nat.le_refl _)
                have HOK : Hid (∀ a ∈ oth l i, a.kids ≤ 9223372036854775807) := oth_all (P := fun a => a.kids ≤ 9223372036854775807) (fun a z h _ => h) HKI.out i (by rw [← HN.out]; exact Nat.le_refl _)
                have HON : Hid (∀ W, Up t9 W → NLs W (.slice (some ⟨g, 0, none⟩) i co) (oth l i)) := fun W u => own_nl (base := t2.heap.size) (by rw [HOL.out]; exact row_up HO9.out u)
                clear u9 HU8 HO8 HX8
                rw [← HN.out]
                go_wp2_with fail
                refine Calls.mono (check_ _ (oth l i) t9 (HON.out t9 (Up.refl _)) HOB.out HOK.out (by rw [HOL.out]; exact hi9)) ?_
                rintro e ta ⟨rfl, ua⟩
                rw [show ckE (oth l i) = 0 by have h9 := HZ0.out; unfold ckE at h9 ⊢; rw [HOW.out]; exact h9]
                generalize (ckA (oth l i) : Int) = cb
                have HUa : Hid (Up w1 ta) := HU9.out.trans ua
                have HVa : Hid (Up t9 ta) := ua
                clear ua HU9
                go_wp2_with fail
                refine Calls.mono (HCP.out ta HUa.out) ?_
                rintro e tb ⟨xb, rfl, hxb, ub⟩
                have HXB : Hid (NLs tb xb l) := hxb
                have HUb : Hid (Up w1 tb) := HUa.out.trans ub
                have HVb : Hid (Up t9 tb) := HVa.out.trans ub
                clear hxb ub HUa HVa
                go_wp2_with fail
                refine Calls.mono (behind_ xb l 0 tb HXB.out (by have := HLM.out; omega) (by decide)) ?_
                rintro e tc ⟨rfl, hw⟩
                obtain rfl := hw.symm
                clear hw
                rw [HT.out.bhd, ← HN.out]
                have hmm : ((m : Int) == (m : Int)) = true := by simp
                have hii : ((i : Int) == (i : Int)) = true := by simp
                go_wp2_with fail
                refine Calls.mono (same_ (.slice (some ⟨b1, o1, none⟩) i c0) _ l (oth l i) _ (HNL.out.up HUb.out) (HON.out _ HVb.out) (by have := HLM.out; omega) (by rw [HOL.out]; omega) HBY.out HOB.out) ?_
                rintro e td ⟨rfl, ud⟩
                rw [show sam l (oth l i) = true by unfold sam; rw [oth_nop _ _ (by rw [← HN.out]; exact Nat.le_refl _)]; simp]
                have HUd : Hid (Up w1 td) := HUb.out.trans ud
                have HVd : Hid (Up t9 td) := HVb.out.trans ud
                clear ud HUb HVb HXB
                go_wp2_with fail
                refine Calls.mono (depth_ _ (oth l i) td (HON.out _ HVd.out) HOB.out HOK.out (by rw [HOL.out]; exact hi9)) ?_
                rintro e te ⟨rfl, ue⟩
                obtain ⟨dd, hdd⟩ : ∃ dd, dd = dpt (oth l i) := ⟨_, rfl⟩
                have hd64 : (dd : Int) ≤ 64 := by have h9 := HD.out; rw [hdd]; unfold dpt; rw [HOW.out]; omega
                rw [← hdd]
                have HUe : Hid (Up w1 te) := HUd.out.trans ue
                clear ue HUd HVd hdd
                go_wp2_with fail
                refine Calls.mono (lives_ te) ?_
                rintro e tz ⟨rfl, uz⟩
                have HUz : Hid (Up w1 tz) := HUe.out.trans uz
                clear uz
                go_wp2_with fail
                rw [HPo.out]
                exact ⟨rfl, HUz.out⟩
end TR
end Go.Proofs.Ytpdhbhglpbpeiaa
