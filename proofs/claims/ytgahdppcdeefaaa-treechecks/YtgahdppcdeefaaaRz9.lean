
/-
  The document's Depth, Check and Weight.
-/
import Derived.Test.YtgahdppcdeefaaaSh9
import Derived.Test.YtgahdppcdeefaaaOh9
import Derived.Test.YtgahdppcdeefaaaNd9
namespace Go.Proofs.Ytgahdppcdeefaaa
open Go.RowKit
attribute [local go_sem ↓] Go.wp_at_zero Go.wp_at_succ
namespace TR
theorem shp_is {l : List Nd} (hn : ∀ a ∈ l, a.n ≤ big) : shpR l = if (wlk l).2.2 = true then -1 else ((wlk l).2.1 : Int) := by
  have h : (wlk l).2 = gsh l ([wroot].map sh) 0 := go_sh l [wroot] 0 0
  have h1 : gsh l ([wroot].map sh) 0 = fsh l [⟨[0], 0, 1, 0⟩] 0 := gsh_fsh hn
  rw [h1] at h
  unfold shpR
  rw [← h]
theorem go_no0 : ∀ (l : List Nd) (S : List Wt) (d p : Nat), (go l S d p).2.2 = false → (go l S d p).1 = 0
  | [], S, d, p, h => by
    unfold go at h ⊢
    split at h
    · cases h
    · rename_i h1
      first | rfl | (rw [if_neg h1])
  | a :: r, S, d, p, h => by
    rw [go] at h ⊢
    split at h
    · rfl
    · split at h
      · rfl
      · exact go_no0 r _ _ _ h
theorem dpt_no {l : List Nd} (h : (wlk l).2.2 = false) : dpt l = 0 := go_no0 l _ _ _ h
theorem ckA_ok {l : List Nd} (h : (wlk l).2.2 = true) : ckA l = 0 := go_ok0 l _ _ _ h
set_option maxRecDepth 100000 in
set_option maxHeartbeats 16000000 in
theorem rdepth_ (v : Value) (l : List Nd) (w : World) (hv : NLs w v l) (hb : ∀ a ∈ l, Byt a.text) (hnb : ∀ a ∈ l, a.n ≤ big) (hks : ∀ a ∈ l, a.kids ≤ 9223372036854775807) (hn : l.length ≤ 1000000) : Calls Try.prog 14 #[v] w (fun e w' => e = .returned (.int .i64 (dpt l : Int)) ∧ Up w w') := by
  obtain ⟨Post, hPost⟩ : ∃ P : Ending → World → Prop, P = fun e w' => e = .returned (.int .i64 (dpt l : Int)) ∧ Up w w' := ⟨_, rfl⟩
  rw [← hPost]
  have HPo : Hid (Post = fun e w' => e = .returned (.int .i64 (dpt l : Int)) ∧ Up w w') := hPost
  clear hPost
  have HSH : Hid (Calls Try.prog 29 #[v] w fun e w' => e = .returned (.int .i64 (if (wlk l).2.2 = true then -1 else ((wlk l).2.1 : Int))) ∧ Up w w') := by
    unfold Hid
    rw [← shp_is hnb]
    exact shape_ v l w hv hb hks hn
  by_cases hok : (wlk l).2.2 = true
  · rw [if_pos hok] at HSH
    have HOP : Hid (∀ W, Up w W → Calls Try.prog 30 #[v, .int .i64 0, .int .i64 0] W fun e w' => e = .returned (.int .i64 (dpt l : Int)) ∧ Up W w') := fun W hu => by
      obtain ⟨a, k, Wt1, hl, hg, hp⟩ := wlk_tree hok
      have hd := dpt_tree hg hp
      have hw := goF_wf _ _ _ _ hg
      have ha := goF_ac _ _ _ _ hg
      have hdr : l.drop 0 = a :: (flF k ++ []) := by rw [List.append_nil]; exact hl
      have hlen : (flF k).length ≤ l.length := by rw [hl]; simp
      have h9 := (open_all v l hn _ k (Nat.le_refl _)).1 a 0 0 [] W (hv.up hu) hdr ⟨hw.1, hw.2.1, ha.2.2.1, ha.1, ha.2.1⟩ (by omega)
      rw [← hd] at h9
      exact h9
    clear hv hb hnb hks
    go_enter Try.func14, Try.ntmps14
    go_wp2_with fail
    refine Calls.mono HSH.out ?_
    rintro e w1 ⟨rfl, u1⟩
    have HU1 : Hid (Up w w1) := u1
    clear u1
    go_wp2_with fail
    refine Calls.mono (HOP.out w1 HU1.out) ?_
    rintro e w2 ⟨rfl, u2⟩
    go_wp2_with fail
    rw [HPo.out]
    exact ⟨rfl, HU1.out.trans u2⟩
  · have hno : (wlk l).2.2 = false := by simpa using hok
    have HD : Hid (dpt l = 0) := dpt_no hno
    rw [if_neg hok] at HSH
    generalize (wlk l).2.1 = pl at HSH
    clear hv hb hnb hks hok hno
    go_enter Try.func14, Try.ntmps14
    go_wp2_with fail
    refine Calls.mono HSH.out ?_
    rintro e w1 ⟨rfl, u1⟩
    have HU1 : Hid (Up w w1) := u1
    clear u1
    go_wp2_with fail
    rw [HPo.out, HD.out]
    exact ⟨rfl, HU1.out⟩
set_option maxRecDepth 100000 in
set_option maxHeartbeats 16000000 in
theorem rcheck_ (v : Value) (l : List Nd) (w : World) (hv : NLs w v l) (hb : ∀ a ∈ l, Byt a.text) (hnb : ∀ a ∈ l, a.n ≤ big) (hks : ∀ a ∈ l, a.kids ≤ 9223372036854775807) (hn : l.length ≤ 1000000) : Calls Try.prog 13 #[v] w (fun e w' => e = .returned (.tuple #[.int .i64 (ckE l), .int .i64 (ckA l : Int)]) ∧ Up w w') := by
  obtain ⟨Post, hPost⟩ : ∃ P : Ending → World → Prop, P = fun e w' => e = .returned (.tuple #[.int .i64 (ckE l), .int .i64 (ckA l : Int)]) ∧ Up w w' := ⟨_, rfl⟩
  rw [← hPost]
  have HPo : Hid (Post = fun e w' => e = .returned (.tuple #[.int .i64 (ckE l), .int .i64 (ckA l : Int)]) ∧ Up w w') := hPost
  clear hPost
  have HSH : Hid (Calls Try.prog 29 #[v] w fun e w' => e = .returned (.int .i64 (if (wlk l).2.2 = true then -1 else ((wlk l).2.1 : Int))) ∧ Up w w') := by
    unfold Hid
    rw [← shp_is hnb]
    exact shape_ v l w hv hb hks hn
  have HDP : Hid (∀ W, Up w W → Calls Try.prog 14 #[v] W fun e w' => e = .returned (.int .i64 (dpt l : Int)) ∧ Up W w') := fun W hu => rdepth_ v l W (hv.up hu) hb hnb hks hn
  by_cases hok : (wlk l).2.2 = true
  · rw [if_pos hok] at HSH
    have HA : Hid (ckA l = 0) := ckA_ok hok
    have HE : Hid (ckE l = if 64 < dpt l then 23 else 0) := by
      unfold Hid ckE dpt
      rw [if_pos hok]
    generalize dpt l = d at HDP HE
    clear hv hb hnb hks
    by_cases hd : 64 < d
    · rw [if_pos hd] at HE
      have hd2 : (64 : Int) < (d : Int) := by omega
      go_enter Try.func13, Try.ntmps13
      go_wp2_with fail
      refine Calls.mono HSH.out ?_
      rintro e w1 ⟨rfl, u1⟩
      have HU1 : Hid (Up w w1) := u1
      clear u1
      go_wp2_with fail
      refine Calls.mono (HDP.out w1 HU1.out) ?_
      rintro e w2 ⟨rfl, u2⟩
      go_wp2_with fail
      rw [HPo.out, HE.out, HA.out]
      exact ⟨rfl, HU1.out.trans u2⟩
    · rw [if_neg hd] at HE
      have hd2 : ¬ (64 : Int) < (d : Int) := by omega
      go_enter Try.func13, Try.ntmps13
      go_wp2_with fail
      refine Calls.mono HSH.out ?_
      rintro e w1 ⟨rfl, u1⟩
      have HU1 : Hid (Up w w1) := u1
      clear u1
      go_wp2_with fail
      refine Calls.mono (HDP.out w1 HU1.out) ?_
      rintro e w2 ⟨rfl, u2⟩
      go_wp2_with fail
      rw [HPo.out, HE.out, HA.out]
      exact ⟨rfl, HU1.out.trans u2⟩
  · rw [if_neg hok] at HSH
    have HE : Hid (ckE l = 24) := by
      unfold Hid ckE
      rw [if_neg hok]
    have HA : Hid (ckA l = (wlk l).2.1) := rfl
    generalize (wlk l).2.1 = pl at HSH HA
    clear hv hb hnb hks hok
    go_enter Try.func13, Try.ntmps13
    go_wp2_with fail
    refine Calls.mono HSH.out ?_
    rintro e w1 ⟨rfl, u1⟩
    have HU1 : Hid (Up w w1) := u1
    clear u1
    go_wp2_with fail
    rw [HPo.out, HE.out, HA.out]
    exact ⟨rfl, HU1.out⟩
set_option maxRecDepth 100000 in
set_option maxHeartbeats 16000000 in
theorem rweight_ (v : Value) (l : List Nd) (w : World) (hv : NLs w v l) (hb : ∀ a ∈ l, Byt a.text) (hnb : ∀ a ∈ l, a.n ≤ big) (hks : ∀ a ∈ l, a.kids ≤ 9223372036854775807) (hn : l.length ≤ 1000000) : Calls Try.prog 15 #[v] w (fun e w' => e = .returned (.int .i64 (wgt l)) ∧ Up w w') := by
  obtain ⟨Post, hPost⟩ : ∃ P : Ending → World → Prop, P = fun e w' => e = .returned (.int .i64 (wgt l)) ∧ Up w w' := ⟨_, rfl⟩
  rw [← hPost]
  have HPo : Hid (Post = fun e w' => e = .returned (.int .i64 (wgt l)) ∧ Up w w') := hPost
  clear hPost
  have HSH : Hid (Calls Try.prog 29 #[v] w fun e w' => e = .returned (.int .i64 (if (wlk l).2.2 = true then -1 else ((wlk l).2.1 : Int))) ∧ Up w w') := by
    unfold Hid
    rw [← shp_is hnb]
    exact shape_ v l w hv hb hks hn
  have HBH : Hid (∀ (p : Int) W, Up w W → p ≤ 9223372036854775807 → Calls Try.prog 31 #[v, .int .i64 p] W fun e w' => e = .returned (.int .i64 (bhd l p)) ∧ w' = W) := fun p W u hp => rbehind_ v l p W (hv.up u) (by omega) hp
  have HG : Hid (wgt l = if (wlk l).2.2 then wgF l l.length 0 0 else 0) := rfl
  generalize wlk l = q at *
  obtain ⟨d, p, b⟩ := q
  obtain ⟨a1, k1, rfl, hc, h1⟩ := nl_at hv
  obtain ⟨n, hn0⟩ : ∃ n, n = l.length := ⟨_, rfl⟩
  have HN : Hid (n = l.length) := hn0
  rw [← hn0] at hn h1 HSH HBH HG hc ⊢
  have H1 : Hid (n ≠ 0 → ∃ b off, a1 = some ⟨b, off, none⟩ ∧ ∀ W, Up w W → ∀ i, i < n → ∀ j x, (ndc (l.getD i dn))[j]? = some x → W.cell? ⟨b, off + i * 7 + j, none⟩ = some x) := h1
  clear hv hb hks hnb h1 hn0
  cases b with
  | false =>
    have HSH : Hid (Calls Try.prog 29 #[.slice a1 n k1] w fun e w' => e = .returned (.int .i64 (p : Int)) ∧ Up w w') := HSH.out
    go_enter Try.func15, Try.ntmps15
    go_wp2_with fail
    refine Calls.mono HSH.out ?_
    rintro e w1 ⟨rfl, u1⟩
    go_wp2_with fail
    rw [HPo.out, HG.out]
    exact ⟨rfl, u1⟩
  | true =>
    have HSH : Hid (Calls Try.prog 29 #[.slice a1 n k1] w fun e w' => e = .returned (.int .i64 (-1)) ∧ Up w w') := HSH.out
    have HG2 : Hid (wgt l = wgF l (n - 0) 0 0) := HG.out
    go_enter Try.func15, Try.ntmps15
    go_wp2_with fail
    refine Calls.mono HSH.out ?_
    rintro e w1 ⟨rfl, u1⟩
    have HU1 : Hid (Up w w1) := u1
    clear u1 HSH HG
    go_wp2_with fail
    go_loopw [3, 4] (fun s6 s19 W => ∃ (i : Nat) (b : Int), i ≤ n ∧ s6 = .int .i64 b ∧ s19 = .int .i64 i ∧ 0 ≤ b ∧ b ≤ 1000000 ∧ wgt l = wgF l (n - i) i b ∧ Up w W) (fun _ s19 _ => n - (intOf s19).toNat)
    case atStart => exact ⟨0, 0, Nat.zero_le _, rfl, rfl, Int.le_refl _, by omega, HG2.out, HU1.out⟩
    case round =>
      obtain ⟨i, b, hi, rfl, rfl, hb0, hb1, hg, hu⟩ := hrel
      have HU : Hid (Up w wr) := hu
      have HGG : Hid (wgt l = wgF l (n - i) i b) := hg
      clear hg HG2
      by_cases hlt : i < n
      · have hlt2 : (i : Int) < (n : Int) := by omega
        obtain ⟨b1, o1, rfl, c1⟩ := H1.out (by omega)
        have ei : IntKind.i64.wrap ((i : Int) + 1) = ((i + 1 : Nat) : Int) := by rw [IntKind.wrap_i64]; omega
        have x0 : wr.cell? ⟨b1, o1 + i * 7, none⟩ = some (.int .i8 (l.getD i dn).op) := c1 wr hu i hlt 0 _ rfl
        have HST := wg_step (l := l) (n := n) (i := i) (b := b) hlt
        clear c1 hu
        by_cases h7 : (l.getD i dn).op = 7
        · rw [if_pos h7] at HST
          obtain ⟨hz0, hz1⟩ := bhd_le l (i : Int)
          rw [← HN.out] at hz1
          have HCB : Hid (Calls Try.prog 31 #[.slice (some ⟨b1, o1, none⟩) n k1, .int .i64 (i : Int)] wr fun e w' => e = .returned (.int .i64 (bhd l (i : Int))) ∧ w' = wr) := HBH.out (i : Int) wr HU.out (by omega)
          generalize bhd l (i : Int) = z at *
          have HST : Hid (wgF l (n - i) i b = wgF l (n - (i + 1)) (i + 1) (max b (z - (i : Int) - 1))) := HST
          generalize l.getD i dn = ex at *
          obtain ⟨eo, ek, en, em, et, ep, ec⟩ := ex
          have h7 : eo = 7 := h7
          subst h7
          simp only at x0
          have es1 : IntKind.i64.wrap (z - (i : Int)) = z - (i : Int) := by rw [IntKind.wrap_i64]; omega
          have es2 : IntKind.i64.wrap (z - (i : Int) - 1) = z - (i : Int) - 1 := by rw [IntKind.wrap_i64]; omega
          have hmx : (if b < z - (i : Int) - 1 then z - (i : Int) - 1 else b) = max b (z - (i : Int) - 1) := by rw [Int.max_def]; split <;> split <;> omega
          go_wp2_with fail
          refine Calls.mono HCB.out ?_
          rintro r w2 ⟨rfl, hw⟩
          obtain rfl := hw.symm
          clear hw
          clear HCB
          by_cases hmz : b < z - (i : Int) - 1
          · have HGM : Hid (wgt l = wgF l (n - (i + 1)) (i + 1) (z - (i : Int) - 1)) := by unfold Hid; rw [HGG.out, HST.out, ← hmx, if_pos hmz]
            clear hmx
            go_wp2_with fail
            go_roundw
            case rel => exact ⟨i + 1, z - (i : Int) - 1, by omega, rfl, by go_num, by omega, by omega, HGM.out, HU.out⟩
            case measure => simp [intOf]; omega
          · have HGM : Hid (wgt l = wgF l (n - (i + 1)) (i + 1) b) := by unfold Hid; rw [HGG.out, HST.out, ← hmx, if_neg hmz]
            clear hmx
            go_wp2_with fail
            go_roundw
            case rel => exact ⟨i + 1, b, by omega, rfl, by go_num, by omega, by omega, HGM.out, HU.out⟩
            case measure => simp [intOf]; omega
        · rw [if_neg h7] at HST
          have HGM : Hid (wgt l = wgF l (n - (i + 1)) (i + 1) b) := by unfold Hid; rw [HGG.out, HST]
          generalize l.getD i dn = ex at *
          have h7b : (ex.op == 7) = false := by simp [h7]
          clear HST h7
          go_wp2_with fail
          go_roundw
          case rel => exact ⟨i + 1, b, by omega, rfl, by go_num, by omega, by omega, HGM.out, HU.out⟩
          case measure => simp [intOf]; omega
      · have hlt2 : ¬ (i : Int) < (n : Int) := by omega
        have HF : Hid (wgt l = b) := by unfold Hid; rw [HGG.out, show n - i = 0 by omega]; rfl
        clear hu
        go_wp2_with fail
        rw [HPo.out, HF.out]
        exact ⟨rfl, HU.out⟩
end TR
end Go.Proofs.Ytgahdppcdeefaaa
