
/-
  TreeDeeper's walk.
-/
import Derived.Test.YtpdhbhglpbpeiaaTs9
import Derived.Test.YtpdhbhglpbpeiaaTy9
import Derived.Test.YtpdhbhglpbpeiaaAf9
import Derived.Test.YtpdhbhglpbpeiaaTt9
namespace Go.Proofs.Ytpdhbhglpbpeiaa
open Go.RowKit
attribute [local go_sem ↓] Go.wp_at_zero Go.wp_at_succ
namespace TR
theorem all_ok {B : List Nd} {i r e : Nat} (hb : ∀ a ∈ B, Byt a.text) (hk : ∀ a ∈ B, a.kids ≤ 9223372036854775807) : ∀ a ∈ oneL [] (allL i r e B), Byt a.text ∧ a.kids ≤ 9223372036854775807 := fun a ha => by
  have g : ∀ a : Nd, (a = blk1 ∨ a = if2 ∨ a = if3 ∨ a = truN ∨ a = falN ∨ a = blkN ∨ ∃ j, a = repN j) → Byt a.text ∧ a.kids ≤ 9223372036854775807 := fun a h => by
    rcases h with rfl | rfl | rfl | rfl | rfl | rfl | ⟨j, rfl⟩
    · exact ⟨fun c hc => (by cases hc), by decide⟩
    · exact ⟨fun c hc => (by cases hc), by decide⟩
    · exact ⟨fun c hc => (by cases hc), by decide⟩
    · exact ⟨fun c hc => (by cases hc), by decide⟩
    · exact ⟨fun c hc => (by cases hc), by decide⟩
    · exact ⟨fun c hc => (by cases hc), by decide⟩
    · exact ⟨fun c hc => (by
        have hc : c ∈ [(105 : Int)] := hc
        simp only [List.mem_cons, List.not_mem_nil, or_false] at hc
        omega), by show (1 : Int) ≤ _; decide⟩
  have gi : ∀ n, ∀ a ∈ ifsL n, Byt a.text ∧ a.kids ≤ 9223372036854775807 := fun n => by
    induction n with
    | zero => intro a ha; cases ha
    | succ n ih =>
      intro a ha
      rcases List.mem_append.1 ha with ha | ha
      · exact ih a ha
      · simp only [List.mem_cons, List.not_mem_nil, or_false] at ha
        exact g a (by rcases ha with h | h | h <;> simp [h])
  have gr : ∀ n, ∀ a ∈ rndL n, Byt a.text ∧ a.kids ≤ 9223372036854775807 := fun n => by
    induction n with
    | zero => intro a ha; cases ha
    | succ n ih =>
      intro a ha
      rcases List.mem_append.1 ha with ha | ha
      · exact ih a ha
      · simp only [List.mem_cons, List.not_mem_nil, or_false] at ha
        rcases ha with rfl | rfl
        · exact g _ (.inl rfl)
        · exact g _ (.inr (.inr (.inr (.inr (.inr (.inr ⟨n, rfl⟩))))))
  have ge : ∀ n, ∀ a ∈ elsL n, Byt a.text ∧ a.kids ≤ 9223372036854775807 := fun n => by
    induction n with
    | zero => intro a ha; cases ha
    | succ n ih =>
      intro a ha
      rcases List.mem_append.1 ha with ha | ha
      · exact ih a ha
      · simp only [List.mem_cons, List.not_mem_nil, or_false] at ha
        exact g a (by rcases ha with h | h | h <;> simp [h])
  unfold oneL at ha
  rcases List.mem_append.1 ha with ha | ha
  · rw [List.append_nil] at ha
    have h3 : (one3 1).all (fun a => a.text.all (fun c => decide (0 ≤ c) && decide (c < 256)) && decide (a.kids ≤ 9223372036854775807)) = true := by decide
    have h4 := List.all_eq_true.1 h3 a ha
    simp only [Bool.and_eq_true, decide_eq_true_eq, List.all_eq_true] at h4
    exact ⟨fun c hc => h4.1 c hc, h4.2⟩
  · unfold allL at ha
    rcases List.mem_append.1 ha with ha | ha
    · rcases List.mem_append.1 ha with ha | ha
      · rcases List.mem_append.1 ha with ha | ha
        · exact gi i a ha
        · exact gr r a ha
      · unfold elsF at ha
        split at ha
        · cases ha
        · rcases List.mem_cons.1 ha with rfl | ha
          · exact g _ (.inl rfl)
          · exact ge e a ha
    · exact ⟨hb a ha, hk a ha⟩
set_option maxRecDepth 100000 in
set_option maxHeartbeats 40000000 in
theorem tdeeper (v0 : Value) (B : List Nd) (x1 x2 x3 : Int) (w : World) (h0 : NLs w v0 B) (k0 : ∀ t ∈ B, NdOk t) (n0 : B.length ≤ 140737488355328) : Calls Try.prog 6 #[v0, .int .i64 x1, .int .i64 x2, .int .i64 x3] w fun e w' => e = .returned (.bool true) ∧ Up w w' := by
  obtain ⟨iT, hiT, z0, z1, z2⟩ := info_parts infoNdW
  obtain ⟨Post, hPost⟩ : ∃ P : Ending → World → Prop, P = fun e w' => e = .returned (.bool true) ∧ Up w w' := ⟨_, rfl⟩
  rw [← hPost]
  have HPo : Hid (Post = fun e w' => e = .returned (.bool true) ∧ Up w w') := hPost
  clear hPost
  have HB0 : Hid (Calls Try.prog 8 #[v0] w (BeyR B w)) := beyond_ v0 B w h0 n0 (ok_len k0)
  obtain ⟨a0, c0, rfl, hc0, -⟩ := nl_at h0
  obtain ⟨n, hn0⟩ : ∃ n, n = B.length := ⟨_, rfl⟩
  have HN : Hid (n = B.length) := hn0
  rw [← hn0] at h0 hc0 HB0 ⊢
  have HNL : Hid (NLs w (.slice a0 n c0) B) := h0
  have HLN : Hid (∀ W, Up w W → LC W (.slice a0 n c0) 7 n (nvs B)) := fun W u => by
    have h9 : LC W (.slice a0 n c0) 7 B.length (nvs B) := HNL.out.up u
    rw [← HN.out] at h9
    exact h9
  have HBY : Hid (∀ a ∈ B, Byt a.text) := ok_byt k0
  have HKI : Hid (∀ a ∈ B, a.kids ≤ 9223372036854775807) := ok_kid k0
  clear h0 k0 n0 hn0 hc0
  by_cases hout : x1 < 0 ∨ x2 < 0 ∨ x3 < 0 ∨ 80 < x1 ∨ 80 < x2 ∨ 80 < x3
  · go_enter Try.func6, Try.ntmps6
    go_wp2_with fail
    refine Calls.mono HB0.out ?_
    rintro e w1 ⟨⟨x, rfl, hx⟩, hw⟩
    obtain rfl := hw.symm
    clear HB0 hx hw
    cases x with
    | true =>
      go_wp2_with fail
      rw [HPo.out]
      exact ⟨rfl, Up.refl _⟩
    | false =>
      by_cases c1 : x1 < 0
      · go_wp2_with fail
        rw [HPo.out]
        exact ⟨rfl, Up.refl _⟩
      · by_cases c2 : x2 < 0
        · go_wp2_with fail
          rw [HPo.out]
          exact ⟨rfl, Up.refl _⟩
        · by_cases c3 : x3 < 0
          · go_wp2_with fail
            rw [HPo.out]
            exact ⟨rfl, Up.refl _⟩
          · by_cases c4 : 80 < x1
            · go_wp2_with fail
              rw [HPo.out]
              exact ⟨rfl, Up.refl _⟩
            · by_cases c5 : 80 < x2
              · go_wp2_with fail
                rw [HPo.out]
                exact ⟨rfl, Up.refl _⟩
              · have c6 : 80 < x3 := by omega
                go_wp2_with fail
                rw [HPo.out]
                exact ⟨rfl, Up.refl _⟩
  · obtain ⟨a, rfl⟩ : ∃ a : Nat, x1 = (a : Int) := ⟨x1.toNat, by omega⟩
    obtain ⟨b, rfl⟩ : ∃ b : Nat, x2 = (b : Int) := ⟨x2.toNat, by omega⟩
    obtain ⟨e, rfl⟩ : ∃ e : Nat, x3 = (e : Int) := ⟨x3.toNat, by omega⟩
    have ha : a ≤ 80 := by omega
    have hb : b ≤ 80 := by omega
    have he : e ≤ 80 := by omega
    have c1 : ¬ (80 : Int) < (a : Int) := by omega
    have c2 : ¬ (80 : Int) < (b : Int) := by omega
    have c3 : ¬ (80 : Int) < (e : Int) := by omega
    have c4 : decide ((a : Int) < 0) = false := by rw [decide_eq_false_iff_not]; omega
    have c5 : decide ((b : Int) < 0) = false := by rw [decide_eq_false_iff_not]; omega
    have c6 : decide ((e : Int) < 0) = false := by rw [decide_eq_false_iff_not]; omega
    clear hout
    go_enter Try.func6, Try.ntmps6
    go_wp2_with fail
    refine Calls.mono HB0.out ?_
    rintro e1 w1 ⟨⟨x, rfl, hx⟩, hw⟩
    obtain rfl := hw.symm
    clear HB0 hw
    cases x with
    | true =>
      go_wp2_with fail
      rw [HPo.out]
      exact ⟨rfl, Up.refl _⟩
    | false =>
      have HLB : Hid (B.length ≤ 65536) := hx rfl
      clear hx
      go_wp2_with fail
      refine Calls.mono (copyN_ (.slice a0 n c0) B w HNL.out (Nat.le_trans HLB.out (by decide))) ?_
      rintro e1 w2 ⟨x2, rfl, hx2, u2⟩
      have HX2 : Hid (NLs w2 x2 B) := own_nl hx2
      have HU2 : Hid (Up w w2) := u2
      clear hx2 u2
      go_wp2_with fail
      refine Calls.mono (one_ _ x2 [] B w2 (nl_nil _) HX2.out (by decide) (Nat.le_trans HLB.out (by decide))) ?_
      rintro e1 w3 ⟨vt, rfl, hvt, u3⟩
      have HXT : Hid (NLs w3 vt (oneL [] B)) := own_nl hvt
      have HU3 : Hid (Up w w3) := HU2.out.trans u3
      have HOT : Hid ((∀ x ∈ oneL [] B, Byt x.text) ∧ (∀ x ∈ oneL [] B, x.kids ≤ 9223372036854775807) ∧ (oneL [] B).length ≤ 1000000) := ⟨fun x hx => (all_ok (i := 0) (r := 0) (e := 0) HBY.out HKI.out x hx).1, fun x hx => (all_ok (i := 0) (r := 0) (e := 0) HBY.out HKI.out x hx).2, by have := HLB.out; unfold oneL one3; simp; omega⟩
      have HCT : Hid (∀ W, Up w3 W → Calls Try.prog 19 #[vt] W (CpN W fun W' v' => NLs W' v' (oneL [] B))) := fun W u => (copyN_ vt _ W (HXT.out.up u) (Nat.le_trans HOT.out.2.2 (by decide))).mono fun e w' ⟨v', h1, h2, h3⟩ => ⟨v', h1, own_nl h2, h3⟩
      clear hvt u3 HX2 HU2
      go_wp2_with fail
      refine Calls.mono (HCT.out _ (Up.refl _)) ?_
      rintro e1 w4 ⟨x4, rfl, hx4, u4⟩
      have HX4 : Hid (NLs w4 x4 (oneL [] B)) := hx4
      have HV4 : Hid (Up w3 w4) := u4
      clear hx4 u4
      go_wp2_with fail
      refine Calls.mono (check_ x4 (oneL [] B) w4 HX4.out HOT.out.1 HOT.out.2.1 HOT.out.2.2) ?_
      rintro e1 w5 ⟨rfl, u5⟩
      have HV5 : Hid (Up w3 w5) := HV4.out.trans u5
      have HW5 : Hid (Up w w5) := HU3.out.trans HV5.out
      clear u5 HX4 HV4
      rcases ck_cases (oneL [] B) with h24 | h23 | ⟨h0, hok, hd⟩
      · rw [h24]
        generalize (ckA (oneL [] B) : Int) = ca
        clear h24
        go_wp2_with fail
        refine Calls.mono (lives_ w5) ?_
        rintro e tz ⟨rfl, uz⟩
        have HUz : Hid (Up w tz) := HW5.out.trans uz
        clear uz
        go_wp2_with fail
        rw [HPo.out]
        exact ⟨rfl, HUz.out⟩
      · rw [h23]
        generalize (ckA (oneL [] B) : Int) = ca
        clear h23
        go_wp2_with fail
        refine Calls.mono (lives_ w5) ?_
        rintro e tz ⟨rfl, uz⟩
        have HUz : Hid (Up w tz) := HW5.out.trans uz
        clear uz
        go_wp2_with fail
        rw [HPo.out]
        exact ⟨rfl, HUz.out⟩
      · have HBK0 : Hid (Blk B (dpt (oneL [] B))) := blk_of hok
        have HWG0 : Hid (wgt (oneL [] B) = (n : Int)) := by unfold Hid; rw [wgt_one hok, HN.out]
        have HDP : Hid (dpt (oneL [] B) ≤ 64) := hd
        rw [h0]
        generalize (ckA (oneL [] B) : Int) = ca
        clear h0 hok hd
        go_wp2_with fail
        refine Calls.mono (HCT.out _ HV5.out) ?_
        rintro e1 w6 ⟨x6, rfl, hx6, u6⟩
        have HX6 : Hid (NLs w6 x6 (oneL [] B)) := hx6
        have HV6 : Hid (Up w3 w6) := HV5.out.trans u6
        clear hx6 u6
        go_wp2_with fail
        refine Calls.mono (depth_ x6 _ w6 HX6.out HOT.out.1 HOT.out.2.1 HOT.out.2.2) ?_
        rintro e1 w7 ⟨rfl, u7⟩
        have HV7 : Hid (Up w3 w7) := HV6.out.trans u7
        obtain ⟨D, hD⟩ : ∃ D, D = dpt (oneL [] B) := ⟨_, rfl⟩
        rw [← hD]
        have HBK : Hid (Blk B D) := by rw [hD]; exact HBK0.out
        have HD64 : Hid (D ≤ 64) := by rw [hD]; exact HDP.out
        clear u7 HX6 HV6 HBK0 HDP hD
        go_wp2_with fail
        refine Calls.mono (HCT.out _ HV7.out) ?_
        rintro e1 w8 ⟨x8, rfl, hx8, u8⟩
        have HX8 : Hid (NLs w8 x8 (oneL [] B)) := hx8
        have HV8 : Hid (Up w3 w8) := HV7.out.trans u8
        clear hx8 u8
        go_wp2_with fail
        refine Calls.mono (weight_ x8 _ w8 HX8.out HOT.out.1 HOT.out.2.1 HOT.out.2.2) ?_
        rintro e1 wd ⟨rfl, u9⟩
        rw [HWG0.out]
        have HUD : Hid (Up w wd) := HU3.out.trans (HV8.out.trans u9)
        clear u9 HX8 HV8 HV7 HV5 HW5 HWG0 HCT HOT HXT HU3
        go_wp2_with fail
        go_loopw [14, 15] (fun s14 sk W => ∃ i : Nat, i ≤ a ∧ sk = .int .i64 i ∧ W.ownsRow w.heap.size 33 7 (s14) (3 * i) (nvs (ifsL i)) ∧ Up w W) (fun _ sk _ => a - (intOf sk).toNat)
        case atStart => exact ⟨0, Nat.zero_le _, rfl, by exact World.ownsRow_nil _ _ _ _, HUD.out⟩
        case round =>
          obtain ⟨i, hi, rfl, hr5, hu⟩ := hrel
          obtain ⟨a5, c5, rfl⟩ := row_val hr5
          have HR5 : Hid (wr.ownsRow w.heap.size 33 7 (.slice a5 (3 * i) c5) (3 * i) (nvs (ifsL i))) := hr5
          have HU : Hid (Up w wr) := hu
          have hsz : w.heap.size ≤ wr.heap.size := hu.size
          clear hr5 hu
          by_cases hlt : i < a
          · have hlt2 : (i : Int) < (a : Int) := by omega
            have ei : IntKind.i64.wrap ((i : Int) + 1) = ((i + 1 : Nat) : Int) := by rw [IntKind.wrap_i64]; omega
            have HA5 : Hid ((wr.alloc (.cells #[.int .i8 10, .int .i8 0, .int .i64 0, .int .i64 0, .string ⟨#[]⟩, .int .i64 0, .int .i64 1, .int .i8 13, .int .i8 0, .int .i64 0, .int .i64 0, .string ⟨#[]⟩, .int .i64 0, .int .i64 2, .int .i8 31, .int .i8 0, .int .i64 0, .int .i64 0, .string ⟨#[]⟩, .int .i64 0, .int .i64 0] 33)).ownsRow w.heap.size 33 7 (.slice a5 (3 * i) c5) (3 * i) (nvs (ifsL i))) := HR5.out.alloc _
            go_wp2_with (at_builtin; refine wpList_append_far _ (by rfl) (.tmp 72) (.tmp 76) 22 (by rfl) w.heap.size 33 iT _ 7 56 Try.underlying22 hiT z0 z1 z2 (by rfl) (by decide) (.slice a5 (3 * i) c5) (3 * i) (nvs (ifsL i)) (by rfl) HA5.out ⟨_, 0, none⟩ 3 3 (#[.int .i8 10, .int .i8 0, .int .i64 0, .int .i64 0, .string ⟨#[]⟩, .int .i64 0, .int .i64 1, .int .i8 13, .int .i8 0, .int .i64 0, .int .i64 0, .string ⟨#[]⟩, .int .i64 0, .int .i64 2, .int .i8 31, .int .i8 0, .int .i64 0, .int .i64 0, .string ⟨#[]⟩, .int .i64 0, .int .i64 0]).toList (by rfl) (by decide) (by rfl) (lit_news (cs := #[.int .i8 10, .int .i8 0, .int .i64 0, .int .i64 0, .string ⟨#[]⟩, .int .i64 0, .int .i64 1, .int .i8 13, .int .i8 0, .int .i64 0, .int .i64 0, .string ⟨#[]⟩, .int .i64 0, .int .i64 2, .int .i8 31, .int .i8 0, .int .i64 0, .int .i64 0, .string ⟨#[]⟩, .int .i64 0, .int .i64 0]) (t := 33)) (by simp [Value.oneCell']) (by unfold maxLen; omega) (by omega) (by simp; omega) ?_; intro v9 w9 hin9 hg9 hl9)
            have HU4 : Hid (Up w w9) := Below.grown (HU.out.alloc _) hg9 (by have := HU.out.size; simp; omega) (fun k9 hk9 => (World.ownsRow.lt HA5.out k9 hk9).1)
            have HR5b : Hid (w9.ownsRow w.heap.size 33 7 (v9) (3 * (i + 1)) (nvs (ifsL (i + 1)))) := by
              unfold Hid
              rw [ifsL, nvs_app]
              exact hin9
            clear hin9 hg9 hl9 HA5 HR5 HU hsz
            go_wp2_with fail
            go_roundw
            case rel => exact ⟨i + 1, hlt, by go_num, HR5b.out, HU4.out⟩
            case measure => simp [intOf]; omega
          · have hlt2 : ¬ (i : Int) < (a : Int) := by omega
            have hlb : a = i := by omega
            subst hlb
            clear hsz hlt hi
            have HRA : Hid (wr.ownsRow w.heap.size 33 7 (.slice a5 (3 * a) c5) (3 * a) (nvs (ifsL a))) := HR5.out
            have HUA : Hid (Up w wr) := HU.out
            clear HR5 HU
            go_wp2_with fail
            go_loopw [14, 16] (fun s14 sk W => ∃ j : Nat, j ≤ b ∧ sk = .int .i64 j ∧ W.ownsRow w.heap.size 33 7 (s14) (3 * a + 2 * j) (nvs (ifsL a ++ rndL j)) ∧ Up w W) (fun _ sk _ => b - (intOf sk).toNat)
            case atStart => exact ⟨0, Nat.zero_le _, rfl, by have h9 := HRA.out; simp only [rndL, List.append_nil, Nat.mul_zero, Nat.add_zero]; exact h9, HUA.out⟩
            case round =>
              obtain ⟨j, hi, rfl, hr5, hu⟩ := hrel
              obtain ⟨a5, c5, rfl⟩ := row_val hr5
              have HR5 : Hid (wr.ownsRow w.heap.size 33 7 (.slice a5 (3 * a + 2 * j) c5) (3 * a + 2 * j) (nvs (ifsL a ++ rndL j))) := hr5
              have HU : Hid (Up w wr) := hu
              have hsz : w.heap.size ≤ wr.heap.size := hu.size
              clear hr5 hu
              by_cases hlt : j < b
              · have hlt2 : (j : Int) < (b : Int) := by omega
                have ei : IntKind.i64.wrap ((j : Int) + 1) = ((j + 1 : Nat) : Int) := by rw [IntKind.wrap_i64]; omega
                have HA5 : Hid ((wr.alloc (.cells #[.int .i8 10, .int .i8 0, .int .i64 0, .int .i64 0, .string ⟨#[]⟩, .int .i64 0, .int .i64 1, .int .i8 14, .int .i8 0, .int .i64 (j : Int), .int .i64 0, .string ⟨#[105]⟩, .int .i64 0, .int .i64 1] 33)).ownsRow w.heap.size 33 7 (.slice a5 (3 * a + 2 * j) c5) (3 * a + 2 * j) (nvs (ifsL a ++ rndL j))) := HR5.out.alloc _
                go_wp2_with (at_builtin; refine wpList_append_far _ (by rfl) (.tmp 83) (.tmp 87) 22 (by rfl) w.heap.size 33 iT _ 7 56 Try.underlying22 hiT z0 z1 z2 (by rfl) (by decide) (.slice a5 (3 * a + 2 * j) c5) (3 * a + 2 * j) (nvs (ifsL a ++ rndL j)) (by rfl) HA5.out ⟨_, 0, none⟩ 2 2 (#[.int .i8 10, .int .i8 0, .int .i64 0, .int .i64 0, .string ⟨#[]⟩, .int .i64 0, .int .i64 1, .int .i8 14, .int .i8 0, .int .i64 (j : Int), .int .i64 0, .string ⟨#[105]⟩, .int .i64 0, .int .i64 1]).toList (by rfl) (by decide) (by rfl) (lit_news (cs := #[.int .i8 10, .int .i8 0, .int .i64 0, .int .i64 0, .string ⟨#[]⟩, .int .i64 0, .int .i64 1, .int .i8 14, .int .i8 0, .int .i64 (j : Int), .int .i64 0, .string ⟨#[105]⟩, .int .i64 0, .int .i64 1]) (t := 33)) (by simp [Value.oneCell']) (by unfold maxLen; omega) (by omega) (by simp; omega) ?_; intro v9 w9 hin9 hg9 hl9)
                have HU4 : Hid (Up w w9) := Below.grown (HU.out.alloc _) hg9 (by have := HU.out.size; simp; omega) (fun k9 hk9 => (World.ownsRow.lt HA5.out k9 hk9).1)
                have HR5b : Hid (w9.ownsRow w.heap.size 33 7 (v9) (3 * a + 2 * (j + 1)) (nvs (ifsL a ++ rndL (j + 1)))) := by
                  unfold Hid
                  rw [rndL, ← List.append_assoc, nvs_app]
                  exact hin9
                clear hin9 hg9 hl9 HA5 HR5 HU hsz
                go_wp2_with fail
                go_roundw
                case rel => exact ⟨j + 1, hlt, by go_num, HR5b.out, HU4.out⟩
                case measure => simp [intOf]; omega
              · have hlt2 : ¬ (j : Int) < (b : Int) := by omega
                have hlb : b = j := by omega
                subst hlb
                clear hsz hlt hi
                by_cases he0 : e = 0
                · have hk0 : e = 0 := by omega
                  subst hk0
                  have HRC : Hid (wr.ownsRow w.heap.size 33 7 (.slice a5 (3 * a + 2 * b) c5) (3 * a + 2 * b) (nvs (ifsL a ++ rndL b))) := HR5.out
                  have HUC : Hid (Up w wr) := HU.out
                  clear HR5 HU
                  go_wp2_with fail
                  go_loopw [14, 17] (fun s14 sk W => ∃ k : Nat, k ≤ 0 ∧ sk = .int .i64 k ∧ W.ownsRow w.heap.size 33 7 (s14) (3 * a + 2 * b + 3 * k) (nvs (ifsL a ++ rndL b ++ elsL k)) ∧ Up w W) (fun _ sk _ => 0 - (intOf sk).toNat)
                  case atStart => exact ⟨0, Nat.zero_le _, rfl, by have h9 := HRC.out; simp only [elsL, List.append_nil, Nat.mul_zero, Nat.add_zero]; exact h9, HUC.out⟩
                  case round =>
                    obtain ⟨k, hi, rfl, hr5, hu⟩ := hrel
                    obtain ⟨a5, c5, rfl⟩ := row_val hr5
                    have HR5 : Hid (wr.ownsRow w.heap.size 33 7 (.slice a5 (3 * a + 2 * b + 3 * k) c5) (3 * a + 2 * b + 3 * k) (nvs (ifsL a ++ rndL b ++ elsL k))) := hr5
                    have HU : Hid (Up w wr) := hu
                    have hsz : w.heap.size ≤ wr.heap.size := hu.size
                    clear hr5 hu
                    by_cases hlt : k < 0
                    · exact absurd hlt (Nat.not_lt_zero _)
                    · have hlt2 : ¬ (k : Int) < ((0 : Nat) : Int) := by omega
                      have hk0 : k = 0 := by omega
                      clear hsz hlt hi
                      have hn9 : n ≤ 65536 := by have := HLB.out; have := HN.out; omega
                      have HRL : Hid (wr.ownsRow w.heap.size 33 7 (.slice a5 (3 * a + 2 * b + 3 * k) c5) (3 * a + 2 * b + 3 * k) (nvs (ifsL a ++ rndL b ++ elsL k))) := HR5.out
                      go_upto_region 25 with (at_builtin; refine wpList_append_lc (by rfl) (.tmp 106) (.tmp 107) 22 (by rfl) w.heap.size 33 iT _ 7 56 Try.underlying22 hiT z0 z1 z2 (by rfl) (by decide) (.slice a5 (3 * a + 2 * b + 3 * k) c5) (3 * a + 2 * b + 3 * k) (nvs (ifsL a ++ rndL b ++ elsL k)) (by rfl) HRL.out (.slice a0 n c0) n (nvs B) (by rfl) (HLN.out _ HU.out) (nvs_one _) (by unfold maxLen; omega) (by omega) HU.out.size ?_; intro x8 t8 hin8 hg8)
                      have HU8 : Hid (Up w t8) := Below.grown HU.out hg8 HU.out.size (fun k9 hk9 => (World.ownsRow.lt HRL.out k9 hk9).1)
                      have HALL : Hid ((ifsL a ++ rndL b ++ elsL k) ++ B = allL a b 0 B) := by unfold Hid allL elsF; rw [if_pos rfl]; simp [hk0, elsL]
                      have HX8 : Hid (NLs t8 x8 (allL a b 0 B)) := by
                        refine own_nl (base := w.heap.size) ?_
                        rw [← HALL.out, nvs_app, show ((ifsL a ++ rndL b ++ elsL k) ++ B).length = 3 * a + 2 * b + 3 * k + n by simp [ifsL_len, rndL_len, elsL_len, ← HN.out]; omega]
                        exact hin8
                      clear hin8 hg8 HRL HR5 HALL
                      go_wp2_with fail
                      refine Calls.mono (one_ _ x8 [] (allL a b 0 B) t8 (nl_nil _) HX8.out (by decide) (by rw [allL_len]; have := HLB.out; split <;> omega)) ?_
                      rintro e u1 ⟨vu, rfl, hvu, uu1⟩
                      rw [show oneL [] (allL a b 0 B) = oneL [] (allL a b 0 B) from rfl] at hvu
                      have HXU : Hid (NLs u1 vu (oneL [] (allL a b 0 B))) := own_nl hvu
                      have HUu : Hid (Up w u1) := HU8.out.trans uu1
                      clear hvu uu1 HX8 HU8 HU
                      have HWA : Hid (wlk (oneL [] (allL a b 0 B)) = (D + a + b + 0, 0, true)) := by
                        have h9 := wlk_all HBK.out HKI.out a b 0 (by omega)
                        exact h9
                      have HOU : Hid ((∀ x ∈ oneL [] (allL a b 0 B), Byt x.text) ∧ (∀ x ∈ oneL [] (allL a b 0 B), x.kids ≤ 9223372036854775807) ∧ (oneL [] (allL a b 0 B)).length ≤ 1000000) := ⟨fun x hx => (all_ok HBY.out HKI.out x hx).1, fun x hx => (all_ok HBY.out HKI.out x hx).2, by have hall := allL_len a b 0 B; have hlb := HLB.out; unfold oneL one3; rw [List.length_append, List.length_append, hall]; simp; first | omega | (split <;> omega)⟩
                      have HWG : Hid (wgt (oneL [] (allL a b 0 B)) = (n : Int) + 3 * a + 2 * b + 3 * 0 + 0) := by
                        unfold Hid
                        rw [wgt_one (by rw [HWA.out]), allL_len, if_pos rfl, HN.out]
                        omega
                      have HCU : Hid (∀ W, Up u1 W → Calls Try.prog 19 #[vu] W (CpN W fun W' v' => NLs W' v' (oneL [] (allL a b 0 B)))) := fun W u => (copyN_ vu _ W (HXU.out.up u) (Nat.le_trans HOU.out.2.2 (by decide))).mono fun e w' ⟨v', h1, h2, h3⟩ => ⟨v', h1, own_nl h2, h3⟩
                      obtain ⟨d1, hd1⟩ : ∃ d1 : Int, d1 = (D : Int) + (a : Int) := ⟨_, rfl⟩
                      obtain ⟨d2, hd2⟩ : ∃ d2 : Int, d2 = d1 + (b : Int) := ⟨_, rfl⟩
                      obtain ⟨q1, hq1⟩ : ∃ q1 : Int, q1 = 3 * (a : Int) := ⟨_, rfl⟩
                      obtain ⟨q2, hq2⟩ : ∃ q2 : Int, q2 = (n : Int) + q1 := ⟨_, rfl⟩
                      obtain ⟨q3, hq3⟩ : ∃ q3 : Int, q3 = 2 * (b : Int) := ⟨_, rfl⟩
                      obtain ⟨q4, hq4⟩ : ∃ q4 : Int, q4 = q2 + q3 := ⟨_, rfl⟩
                      obtain ⟨q5, hq5⟩ : ∃ q5 : Int, q5 = 3 * (((0 : Nat) : Int)) := ⟨_, rfl⟩
                      obtain ⟨q6, hq6⟩ : ∃ q6 : Int, q6 = q4 + q5 := ⟨_, rfl⟩
                      obtain ⟨d3, hd3⟩ : ∃ d3 : Int, d3 = d2 := ⟨_, rfl⟩
                      obtain ⟨q7, hq7⟩ : ∃ q7 : Int, q7 = q6 := ⟨_, rfl⟩
                      have hD9 : D ≤ 64 := HD64.out
                      have e1 : IntKind.i64.wrap ((D : Int) + (a : Int)) = d1 := by rw [IntKind.wrap_i64]; omega
                      have e2 : IntKind.i64.wrap (d1 + (b : Int)) = d2 := by rw [IntKind.wrap_i64]; omega
                      have e3 : IntKind.i64.wrap (3 * (a : Int)) = q1 := by rw [IntKind.wrap_i64]; omega
                      have e4 : IntKind.i64.wrap ((n : Int) + q1) = q2 := by rw [IntKind.wrap_i64]; omega
                      have e5 : IntKind.i64.wrap (2 * (b : Int)) = q3 := by rw [IntKind.wrap_i64]; omega
                      have e6 : IntKind.i64.wrap (q2 + q3) = q4 := by rw [IntKind.wrap_i64]; omega
                      have e7 : IntKind.i64.wrap (3 * (((0 : Nat) : Int))) = q5 := by rw [IntKind.wrap_i64]; omega
                      have e7b : q5 = 0 := by omega
                      have e8 : IntKind.i64.wrap (q4 + q5) = q6 := by rw [IntKind.wrap_i64]; omega
                      have e8c : wrap64 q4 = q6 := by first | (unfold wrap64; omega) | (show IntKind.i64.wrap q4 = _; rw [IntKind.wrap_i64]; omega)
                      have e9 : d3 = d2 := hd3
                      have e10 : q7 = q6 := hq7
                      have HQ : Hid (((D + a + b + 0 : Nat) : Int) = d3 ∧ (n : Int) + 3 * a + 2 * b + 3 * 0 + 0 = q7) := by constructor <;> omega
                      subst e9 e10
                      have hdd : (d3 == d3) = true := by simp
                      have hqq : (q7 == q7) = true := by simp
                      clear hd1 hd2 hq1 hq2 hq3 hq4 hq6 hd3 hq7 e7b hq5
                      go_wp2_with fail
                      refine Calls.mono (HCU.out _ (Up.refl _)) ?_
                      rintro e u2 ⟨x2, rfl, hx2, uu2⟩
                      have HX2 : Hid (NLs u2 x2 (oneL [] (allL a b 0 B))) := hx2
                      have HV2 : Hid (Up u1 u2) := uu2
                      clear hx2 uu2
                      go_wp2_with fail
                      refine Calls.mono (check_ x2 _ u2 HX2.out HOU.out.1 HOU.out.2.1 HOU.out.2.2) ?_
                      rintro e u3 ⟨rfl, uu3⟩
                      have HV3 : Hid (Up u1 u3) := HV2.out.trans uu3
                      clear uu3 HX2 HV2
                      generalize (ckA (oneL [] (allL a b 0 B)) : Int) = ca
                      by_cases h64 : 64 < D + a + b + 0
                      all_goals
                        first
                        | (have hce : ckE (oneL [] (allL a b 0 B)) = 23 := by (unfold ckE; rw [HWA.out]; show (if 64 < D + a + b + 0 then (23 : Int) else 0) = 23; rw [if_pos h64])
                           have hd64 : ¬ d3 ≤ 64 := by (have := HQ.out.1; omega)
                           rw [hce])
                        | (have hce : ckE (oneL [] (allL a b 0 B)) = 0 := by (unfold ckE; rw [HWA.out]; show (if 64 < D + a + b + 0 then (23 : Int) else 0) = 0; rw [if_neg h64])
                           have hd64 : d3 ≤ 64 := by (have := HQ.out.1; omega)
                           rw [hce])
                        clear hce h64
                        go_wp2_with fail
                        refine Calls.mono (HCU.out _ HV3.out) ?_
                        rintro e u4 ⟨x4, rfl, hx4, uu4⟩
                        have HX4 : Hid (NLs u4 x4 (oneL [] (allL a b 0 B))) := hx4
                        have HV4 : Hid (Up u1 u4) := HV3.out.trans uu4
                        clear hx4 uu4
                        go_wp2_with fail
                        refine Calls.mono (depth_ x4 _ u4 HX4.out HOU.out.1 HOU.out.2.1 HOU.out.2.2) ?_
                        rintro e u5 ⟨rfl, uu5⟩
                        rw [show ((dpt (oneL [] (allL a b 0 B)) : Nat) : Int) = d3 by (unfold dpt; rw [HWA.out]; exact HQ.out.1)]
                        have HV5 : Hid (Up u1 u5) := HV4.out.trans uu5
                        clear uu5 HX4
                        go_wp2_with fail
                        refine Calls.mono (HCU.out _ HV5.out) ?_
                        rintro e u6 ⟨x6, rfl, hx6, uu6⟩
                        have HX6 : Hid (NLs u6 x6 (oneL [] (allL a b 0 B))) := hx6
                        have HV6 : Hid (Up u1 u6) := HV5.out.trans uu6
                        clear hx6 uu6
                        go_wp2_with fail
                        refine Calls.mono (weight_ x6 _ u6 HX6.out HOU.out.1 HOU.out.2.1 HOU.out.2.2) ?_
                        rintro e u7 ⟨rfl, uu7⟩
                        rw [show wgt (oneL [] (allL a b 0 B)) = q7 by (rw [HWG.out]; exact HQ.out.2)]
                        have HV7 : Hid (Up w u7) := HUu.out.trans (HV6.out.trans uu7)
                        clear uu7 HX6
                        go_wp2_with fail
                        refine Calls.mono (lives_ u7) ?_
                        rintro e tz ⟨rfl, uz⟩
                        have HUz : Hid (Up w tz) := HV7.out.trans uz
                        clear uz
                        go_wp2_with fail
                        rw [HPo.out]
                        first | exact ⟨rfl, HUz.out⟩ | exact ⟨(by simp [hd64]), HUz.out⟩
                · have hk0 : (0 : Int) < (e : Int) := by omega
                  have hk0n : 0 < e := by omega
                  have HA6 : Hid ((wr.alloc (.cells #[.int .i8 10, .int .i8 0, .int .i64 0, .int .i64 0, .string ⟨#[]⟩, .int .i64 0, .int .i64 1] 33)).ownsRow w.heap.size 33 7 (.slice a5 (3 * a + 2 * b) c5) (3 * a + 2 * b) (nvs (ifsL a ++ rndL b))) := HR5.out.alloc _
                  have hszb : w.heap.size ≤ wr.heap.size := HU.out.size
                  go_upto_region 20 with (at_builtin; refine wpList_append_far _ (by rfl) (.tmp 91) (.tmp 93) 22 (by rfl) w.heap.size 33 iT _ 7 56 Try.underlying22 hiT z0 z1 z2 (by rfl) (by decide) (.slice a5 (3 * a + 2 * b) c5) (3 * a + 2 * b) (nvs (ifsL a ++ rndL b)) (by rfl) HA6.out ⟨_, 0, none⟩ 1 1 (#[.int .i8 10, .int .i8 0, .int .i64 0, .int .i64 0, .string ⟨#[]⟩, .int .i64 0, .int .i64 1]).toList (by rfl) (by decide) (by rfl) (lit_news (cs := #[.int .i8 10, .int .i8 0, .int .i64 0, .int .i64 0, .string ⟨#[]⟩, .int .i64 0, .int .i64 1]) (t := 33)) (by simp [Value.oneCell']) (by unfold maxLen; omega) (by omega) (by simp; omega) ?_; intro v9 w9 hin9 hg9 hl9)
                  have HUC : Hid (Up w w9) := Below.grown (HU.out.alloc _) hg9 (by have := HU.out.size; simp; omega) (fun k9 hk9 => (World.ownsRow.lt HA6.out k9 hk9).1)
                  have HRC : Hid (w9.ownsRow w.heap.size 33 7 (v9) (3 * a + 2 * b + 1) (nvs (ifsL a ++ rndL b ++ [blk1]))) := by
                    unfold Hid
                    rw [nvs_app]
                    exact hin9
                  clear hin9 hg9 hl9 HA6 HR5 HU hszb
                  go_wp2_with fail
                  go_loopw [14, 17] (fun s14 sk W => ∃ k : Nat, k ≤ e ∧ sk = .int .i64 k ∧ W.ownsRow w.heap.size 33 7 (s14) (3 * a + 2 * b + 1 + 3 * k) (nvs (ifsL a ++ rndL b ++ [blk1] ++ elsL k)) ∧ Up w W) (fun _ sk _ => e - (intOf sk).toNat)
                  case atStart => exact ⟨0, Nat.zero_le _, rfl, by have h9 := HRC.out; simp only [elsL, List.append_nil, Nat.mul_zero, Nat.add_zero]; exact h9, HUC.out⟩
                  case round =>
                    obtain ⟨k, hi, rfl, hr5, hu⟩ := hrel
                    obtain ⟨a5, c5, rfl⟩ := row_val hr5
                    have HR5 : Hid (wr.ownsRow w.heap.size 33 7 (.slice a5 (3 * a + 2 * b + 1 + 3 * k) c5) (3 * a + 2 * b + 1 + 3 * k) (nvs (ifsL a ++ rndL b ++ [blk1] ++ elsL k))) := hr5
                    have HU : Hid (Up w wr) := hu
                    have hsz : w.heap.size ≤ wr.heap.size := hu.size
                    clear hr5 hu
                    by_cases hlt : k < e
                    · have hlt2 : (k : Int) < (e : Int) := by omega
                      have ei : IntKind.i64.wrap ((k : Int) + 1) = ((k + 1 : Nat) : Int) := by rw [IntKind.wrap_i64]; omega
                      have HA5 : Hid ((wr.alloc (.cells #[.int .i8 13, .int .i8 0, .int .i64 0, .int .i64 0, .string ⟨#[]⟩, .int .i64 0, .int .i64 3, .int .i8 32, .int .i8 0, .int .i64 0, .int .i64 0, .string ⟨#[]⟩, .int .i64 0, .int .i64 0, .int .i8 10, .int .i8 0, .int .i64 0, .int .i64 0, .string ⟨#[]⟩, .int .i64 0, .int .i64 0] 33)).ownsRow w.heap.size 33 7 (.slice a5 (3 * a + 2 * b + 1 + 3 * k) c5) (3 * a + 2 * b + 1 + 3 * k) (nvs (ifsL a ++ rndL b ++ [blk1] ++ elsL k))) := HR5.out.alloc _
                      go_wp2_with (at_builtin; refine wpList_append_far _ (by rfl) (.tmp 100) (.tmp 104) 22 (by rfl) w.heap.size 33 iT _ 7 56 Try.underlying22 hiT z0 z1 z2 (by rfl) (by decide) (.slice a5 (3 * a + 2 * b + 1 + 3 * k) c5) (3 * a + 2 * b + 1 + 3 * k) (nvs (ifsL a ++ rndL b ++ [blk1] ++ elsL k)) (by rfl) HA5.out ⟨_, 0, none⟩ 3 3 (#[.int .i8 13, .int .i8 0, .int .i64 0, .int .i64 0, .string ⟨#[]⟩, .int .i64 0, .int .i64 3, .int .i8 32, .int .i8 0, .int .i64 0, .int .i64 0, .string ⟨#[]⟩, .int .i64 0, .int .i64 0, .int .i8 10, .int .i8 0, .int .i64 0, .int .i64 0, .string ⟨#[]⟩, .int .i64 0, .int .i64 0]).toList (by rfl) (by decide) (by rfl) (lit_news (cs := #[.int .i8 13, .int .i8 0, .int .i64 0, .int .i64 0, .string ⟨#[]⟩, .int .i64 0, .int .i64 3, .int .i8 32, .int .i8 0, .int .i64 0, .int .i64 0, .string ⟨#[]⟩, .int .i64 0, .int .i64 0, .int .i8 10, .int .i8 0, .int .i64 0, .int .i64 0, .string ⟨#[]⟩, .int .i64 0, .int .i64 0]) (t := 33)) (by simp [Value.oneCell']) (by unfold maxLen; omega) (by omega) (by simp; omega) ?_; intro v9 w9 hin9 hg9 hl9)
                      have HU4 : Hid (Up w w9) := Below.grown (HU.out.alloc _) hg9 (by have := HU.out.size; simp; omega) (fun k9 hk9 => (World.ownsRow.lt HA5.out k9 hk9).1)
                      have HR5b : Hid (w9.ownsRow w.heap.size 33 7 (v9) (3 * a + 2 * b + 1 + 3 * (k + 1)) (nvs (ifsL a ++ rndL b ++ [blk1] ++ elsL (k + 1)))) := by
                        unfold Hid
                        rw [elsL, ← List.append_assoc, nvs_app]
                        exact hin9
                      clear hin9 hg9 hl9 HA5 HR5 HU hsz
                      go_wp2_with fail
                      go_roundw
                      case rel => exact ⟨k + 1, hlt, by go_num, HR5b.out, HU4.out⟩
                      case measure => simp [intOf]; omega
                    · have hlt2 : ¬ (k : Int) < (e : Int) := by omega
                      have hlb : k = e := by omega
                      subst hlb
                      clear hsz hlt hi
                      have hn9 : n ≤ 65536 := by have := HLB.out; have := HN.out; omega
                      have HRL : Hid (wr.ownsRow w.heap.size 33 7 (.slice a5 (3 * a + 2 * b + 1 + 3 * k) c5) (3 * a + 2 * b + 1 + 3 * k) (nvs (ifsL a ++ rndL b ++ [blk1] ++ elsL k))) := HR5.out
                      go_upto_region 25 with (at_builtin; refine wpList_append_lc (by rfl) (.tmp 106) (.tmp 107) 22 (by rfl) w.heap.size 33 iT _ 7 56 Try.underlying22 hiT z0 z1 z2 (by rfl) (by decide) (.slice a5 (3 * a + 2 * b + 1 + 3 * k) c5) (3 * a + 2 * b + 1 + 3 * k) (nvs (ifsL a ++ rndL b ++ [blk1] ++ elsL k)) (by rfl) HRL.out (.slice a0 n c0) n (nvs B) (by rfl) (HLN.out _ HU.out) (nvs_one _) (by unfold maxLen; omega) (by omega) HU.out.size ?_; intro x8 t8 hin8 hg8)
                      have HU8 : Hid (Up w t8) := Below.grown HU.out hg8 HU.out.size (fun k9 hk9 => (World.ownsRow.lt HRL.out k9 hk9).1)
                      have HALL : Hid ((ifsL a ++ rndL b ++ [blk1] ++ elsL k) ++ B = allL a b k B) := by unfold Hid allL elsF; rw [if_neg (by omega)]; simp
                      have HX8 : Hid (NLs t8 x8 (allL a b k B)) := by
                        refine own_nl (base := w.heap.size) ?_
                        rw [← HALL.out, nvs_app, show ((ifsL a ++ rndL b ++ [blk1] ++ elsL k) ++ B).length = 3 * a + 2 * b + 1 + 3 * k + n by simp [ifsL_len, rndL_len, elsL_len, ← HN.out]; omega]
                        exact hin8
                      clear hin8 hg8 HRL HR5 HALL
                      go_wp2_with fail
                      refine Calls.mono (one_ _ x8 [] (allL a b k B) t8 (nl_nil _) HX8.out (by decide) (by rw [allL_len]; have := HLB.out; split <;> omega)) ?_
                      rintro e u1 ⟨vu, rfl, hvu, uu1⟩
                      rw [show oneL [] (allL a b k B) = oneL [] (allL a b k B) from rfl] at hvu
                      have HXU : Hid (NLs u1 vu (oneL [] (allL a b k B))) := own_nl hvu
                      have HUu : Hid (Up w u1) := HU8.out.trans uu1
                      clear hvu uu1 HX8 HU8 HU
                      have HWA : Hid (wlk (oneL [] (allL a b k B)) = (D + a + b + k, 0, true)) := by
                        have h9 := wlk_all HBK.out HKI.out a b k (by omega)
                        exact h9
                      have HOU : Hid ((∀ x ∈ oneL [] (allL a b k B), Byt x.text) ∧ (∀ x ∈ oneL [] (allL a b k B), x.kids ≤ 9223372036854775807) ∧ (oneL [] (allL a b k B)).length ≤ 1000000) := ⟨fun x hx => (all_ok HBY.out HKI.out x hx).1, fun x hx => (all_ok HBY.out HKI.out x hx).2, by have hall := allL_len a b k B; have hlb := HLB.out; unfold oneL one3; rw [List.length_append, List.length_append, hall]; simp; first | omega | (split <;> omega)⟩
                      have HWG : Hid (wgt (oneL [] (allL a b k B)) = (n : Int) + 3 * a + 2 * b + 3 * k + 1) := by
                        unfold Hid
                        rw [wgt_one (by rw [HWA.out]), allL_len, if_neg (by omega), HN.out]
                        omega
                      have HCU : Hid (∀ W, Up u1 W → Calls Try.prog 19 #[vu] W (CpN W fun W' v' => NLs W' v' (oneL [] (allL a b k B)))) := fun W u => (copyN_ vu _ W (HXU.out.up u) (Nat.le_trans HOU.out.2.2 (by decide))).mono fun e w' ⟨v', h1, h2, h3⟩ => ⟨v', h1, own_nl h2, h3⟩
                      obtain ⟨d1, hd1⟩ : ∃ d1 : Int, d1 = (D : Int) + (a : Int) := ⟨_, rfl⟩
                      obtain ⟨d2, hd2⟩ : ∃ d2 : Int, d2 = d1 + (b : Int) := ⟨_, rfl⟩
                      obtain ⟨q1, hq1⟩ : ∃ q1 : Int, q1 = 3 * (a : Int) := ⟨_, rfl⟩
                      obtain ⟨q2, hq2⟩ : ∃ q2 : Int, q2 = (n : Int) + q1 := ⟨_, rfl⟩
                      obtain ⟨q3, hq3⟩ : ∃ q3 : Int, q3 = 2 * (b : Int) := ⟨_, rfl⟩
                      obtain ⟨q4, hq4⟩ : ∃ q4 : Int, q4 = q2 + q3 := ⟨_, rfl⟩
                      obtain ⟨q5, hq5⟩ : ∃ q5 : Int, q5 = 3 * ((k : Int)) := ⟨_, rfl⟩
                      obtain ⟨q6, hq6⟩ : ∃ q6 : Int, q6 = q4 + q5 := ⟨_, rfl⟩
                      obtain ⟨d3, hd3⟩ : ∃ d3 : Int, d3 = d2 + (k : Int) := ⟨_, rfl⟩
                      obtain ⟨q7, hq7⟩ : ∃ q7 : Int, q7 = q6 + 1 := ⟨_, rfl⟩
                      have hD9 : D ≤ 64 := HD64.out
                      have e1 : IntKind.i64.wrap ((D : Int) + (a : Int)) = d1 := by rw [IntKind.wrap_i64]; omega
                      have e2 : IntKind.i64.wrap (d1 + (b : Int)) = d2 := by rw [IntKind.wrap_i64]; omega
                      have e3 : IntKind.i64.wrap (3 * (a : Int)) = q1 := by rw [IntKind.wrap_i64]; omega
                      have e4 : IntKind.i64.wrap ((n : Int) + q1) = q2 := by rw [IntKind.wrap_i64]; omega
                      have e5 : IntKind.i64.wrap (2 * (b : Int)) = q3 := by rw [IntKind.wrap_i64]; omega
                      have e6 : IntKind.i64.wrap (q2 + q3) = q4 := by rw [IntKind.wrap_i64]; omega
                      have e7 : IntKind.i64.wrap (3 * ((k : Int))) = q5 := by rw [IntKind.wrap_i64]; omega
                      skip
                      have e8 : IntKind.i64.wrap (q4 + q5) = q6 := by rw [IntKind.wrap_i64]; omega
                      skip
                      have e9 : IntKind.i64.wrap (d2 + (k : Int)) = d3 := by rw [IntKind.wrap_i64]; omega
                      have e10 : IntKind.i64.wrap (q6 + 1) = q7 := by rw [IntKind.wrap_i64]; omega
                      have HQ : Hid (((D + a + b + k : Nat) : Int) = d3 ∧ (n : Int) + 3 * a + 2 * b + 3 * k + 1 = q7) := by constructor <;> omega
                      skip
                      have hdd : (d3 == d3) = true := by simp
                      have hqq : (q7 == q7) = true := by simp
                      clear hd1 hd2 hq1 hq2 hq3 hq4 hq6 hd3 hq7 hq5
                      go_wp2_with fail
                      refine Calls.mono (HCU.out _ (Up.refl _)) ?_
                      rintro e u2 ⟨x2, rfl, hx2, uu2⟩
                      have HX2 : Hid (NLs u2 x2 (oneL [] (allL a b k B))) := hx2
                      have HV2 : Hid (Up u1 u2) := uu2
                      clear hx2 uu2
                      go_wp2_with fail
                      refine Calls.mono (check_ x2 _ u2 HX2.out HOU.out.1 HOU.out.2.1 HOU.out.2.2) ?_
                      rintro e u3 ⟨rfl, uu3⟩
                      have HV3 : Hid (Up u1 u3) := HV2.out.trans uu3
                      clear uu3 HX2 HV2
                      generalize (ckA (oneL [] (allL a b k B)) : Int) = ca
                      by_cases h64 : 64 < D + a + b + k
                      all_goals
                        first
                        | (have hce : ckE (oneL [] (allL a b k B)) = 23 := by (unfold ckE; rw [HWA.out]; show (if 64 < D + a + b + k then (23 : Int) else 0) = 23; rw [if_pos h64])
                           have hd64 : ¬ d3 ≤ 64 := by (have := HQ.out.1; omega)
                           rw [hce])
                        | (have hce : ckE (oneL [] (allL a b k B)) = 0 := by (unfold ckE; rw [HWA.out]; show (if 64 < D + a + b + k then (23 : Int) else 0) = 0; rw [if_neg h64])
                           have hd64 : d3 ≤ 64 := by (have := HQ.out.1; omega)
                           rw [hce])
                        clear hce h64
                        go_wp2_with fail
                        refine Calls.mono (HCU.out _ HV3.out) ?_
                        rintro e u4 ⟨x4, rfl, hx4, uu4⟩
                        have HX4 : Hid (NLs u4 x4 (oneL [] (allL a b k B))) := hx4
                        have HV4 : Hid (Up u1 u4) := HV3.out.trans uu4
                        clear hx4 uu4
                        go_wp2_with fail
                        refine Calls.mono (depth_ x4 _ u4 HX4.out HOU.out.1 HOU.out.2.1 HOU.out.2.2) ?_
                        rintro e u5 ⟨rfl, uu5⟩
                        rw [show ((dpt (oneL [] (allL a b k B)) : Nat) : Int) = d3 by (unfold dpt; rw [HWA.out]; exact HQ.out.1)]
                        have HV5 : Hid (Up u1 u5) := HV4.out.trans uu5
                        clear uu5 HX4
                        go_wp2_with fail
                        refine Calls.mono (HCU.out _ HV5.out) ?_
                        rintro e u6 ⟨x6, rfl, hx6, uu6⟩
                        have HX6 : Hid (NLs u6 x6 (oneL [] (allL a b k B))) := hx6
                        have HV6 : Hid (Up u1 u6) := HV5.out.trans uu6
                        clear hx6 uu6
                        go_wp2_with fail
                        refine Calls.mono (weight_ x6 _ u6 HX6.out HOU.out.1 HOU.out.2.1 HOU.out.2.2) ?_
                        rintro e u7 ⟨rfl, uu7⟩
                        rw [show wgt (oneL [] (allL a b k B)) = q7 by (rw [HWG.out]; exact HQ.out.2)]
                        have HV7 : Hid (Up w u7) := HUu.out.trans (HV6.out.trans uu7)
                        clear uu7 HX6
                        go_wp2_with fail
                        refine Calls.mono (lives_ u7) ?_
                        rintro e tz ⟨rfl, uz⟩
                        have HUz : Hid (Up w tz) := HV7.out.trans uz
                        clear uz
                        go_wp2_with fail
                        rw [HPo.out]
                        first | exact ⟨rfl, HUz.out⟩ | exact ⟨(by simp [hd64]), HUz.out⟩
end TR
end Go.Proofs.Ytpdhbhglpbpeiaa
