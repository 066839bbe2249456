/-
  Check, Depth, Weight.
-/
import Derived.Test.YtgahdppcdeefaaaKx9
import Derived.Test.YtgahdppcdeefaaaBh9
import Derived.Test.YtgahdppcdeefaaaNa9
namespace Go.Proofs.Ytgahdppcdeefaaa
open Go.RowKit
attribute [local go_sem ↓] Go.wp_at_zero Go.wp_at_succ
namespace TR
theorem go_ok0 : ∀ (l : List Nd) (S : List Wt) (d p : Nat), (go l S d p).2.2 = true → (go l S d p).2.1 = 0
  | [], S, d, p, h => by
    unfold go at h ⊢
    split at h
    · rename_i h1; rw [if_pos h1]
    · cases h
  | a :: r, S, d, p, h => by
    unfold go at h ⊢
    cases hp : pop S with
    | nil => rw [hp] at h; cases h
    | cons x S' =>
      rw [hp] at h
      simp only at h ⊢
      cases he : ent a r x with
      | none => rw [he] at h; cases h
      | some q =>
        obtain ⟨o, ws⟩ := q
        rw [he] at h
        exact go_ok0 r _ _ _ h
set_option maxRecDepth 100000 in
set_option maxHeartbeats 8000000 in
theorem check_ (v : Value) (l : List Nd) (w : World) (hv : NLs w v l) (hb : ∀ a ∈ l, Byt a.text) (hks : ∀ a ∈ l, a.kids ≤ 9223372036854775807) (hn : l.length ≤ 1000000) : Calls Try.prog 10 #[v] w fun e w' => e = .returned (.tuple #[.int .i64 (ckE l), .int .i64 (ckA l : Int)]) ∧ Up w w' := by
  obtain ⟨Post, hPost⟩ : ∃ P : Ending → World → Prop, P = fun e w' => e = .returned (.tuple #[.int .i64 (ckE l), .int .i64 (ckA l : Int)]) ∧ Up w w' := ⟨_, rfl⟩
  rw [← hPost]
  have HPo : Hid (Post = fun e w' => e = .returned (.tuple #[.int .i64 (ckE l), .int .i64 (ckA l : Int)]) ∧ Up w w') := hPost
  clear hPost
  have HWK : Hid (Calls Try.prog 28 #[v] w fun e w' => e = .returned (.tuple #[.int .i64 ((wlk l).1 : Int), .int .i64 ((wlk l).2.1 : Int), .bool (wlk l).2.2]) ∧ Up w w') := walk_ v l w hv hb hks hn
  have HW0 : Hid ((wlk l).2.2 = true → (wlk l).2.1 = 0) := go_ok0 _ _ _ _
  have HE : Hid (ckE l = if (wlk l).2.2 then (if 64 < (wlk l).1 then 23 else 0) else 24) := rfl
  have HA : Hid (ckA l = (wlk l).2.1) := rfl
  generalize wlk l = q at *
  obtain ⟨d, p, b⟩ := q
  clear hv hb hks hn
  cases b with
  | false =>
    go_enter Try.func10, Try.ntmps10
    go_wp2_with fail
    refine Calls.mono HWK.out ?_
    rintro e w1 ⟨rfl, u1⟩
    go_wp2_with fail
    rw [HPo.out, HE.out, HA.out]
    exact ⟨rfl, u1⟩
  | true =>
    have h0 : p = 0 := HW0.out rfl
    by_cases hd : 64 < d
    · have hd2 : (64 : Int) < (d : Int) := by omega
      have HE2 : Hid (ckE l = 23) := by unfold Hid; rw [HE.out]; simp [hd]
      go_enter Try.func10, Try.ntmps10
      go_wp2_with fail
      refine Calls.mono HWK.out ?_
      rintro e w1 ⟨rfl, u1⟩
      go_wp2_with fail
      rw [HPo.out, HE2.out, HA.out, h0]
      exact ⟨rfl, u1⟩
    · have hd2 : ¬ (64 : Int) < (d : Int) := by omega
      have HE2 : Hid (ckE l = 0) := by unfold Hid; rw [HE.out]; simp [hd]
      go_enter Try.func10, Try.ntmps10
      go_wp2_with fail
      refine Calls.mono HWK.out ?_
      rintro e w1 ⟨rfl, u1⟩
      go_wp2_with fail
      rw [HPo.out, HE2.out, HA.out, h0]
      exact ⟨rfl, u1⟩
set_option maxRecDepth 100000 in
set_option maxHeartbeats 8000000 in
theorem depth_ (v : Value) (l : List Nd) (w : World) (hv : NLs w v l) (hb : ∀ a ∈ l, Byt a.text) (hks : ∀ a ∈ l, a.kids ≤ 9223372036854775807) (hn : l.length ≤ 1000000) : Calls Try.prog 11 #[v] w fun e w' => e = .returned (.int .i64 (dpt l : Int)) ∧ Up w w' := by
  obtain ⟨Post, hPost⟩ : ∃ P : Ending → World → Prop, P = fun e w' => e = .returned (.int .i64 (dpt l : Int)) ∧ Up w w' := ⟨_, rfl⟩
  rw [← hPost]
  have HPo : Hid (Post = fun e w' => e = .returned (.int .i64 (dpt l : Int)) ∧ Up w w') := hPost
  clear hPost
  have HWK : Hid (Calls Try.prog 28 #[v] w fun e w' => e = .returned (.tuple #[.int .i64 ((wlk l).1 : Int), .int .i64 ((wlk l).2.1 : Int), .bool (wlk l).2.2]) ∧ Up w w') := walk_ v l w hv hb hks hn
  have HD : Hid (dpt l = (wlk l).1) := rfl
  generalize wlk l = q at *
  obtain ⟨d, p, b⟩ := q
  clear hv hb hks hn
  go_enter Try.func11, Try.ntmps11
  go_wp2_with fail
  refine Calls.mono HWK.out ?_
  rintro e w1 ⟨rfl, u1⟩
  go_wp2_with fail
  rw [HPo.out, HD.out]
  exact ⟨rfl, u1⟩
theorem bhn_le {N : Nat} : ∀ (l : List Nd) (k p q : Nat), bhn N l k p = some q → q ≤ p + l.length
  | l, 0, p, q, h => by
    have : p = q := by unfold bhn at h; cases l <;> exact Option.some.inj h
    omega
  | [], k + 1, p, q, h => by cases h
  | a :: r, k + 1, p, q, h => by
    unfold bhn at h
    split at h
    · have := bhn_le r _ _ _ h
      rw [List.length_cons]
      omega
    · cases h
theorem bhd_le (l : List Nd) (p : Int) : -1 ≤ bhd l p ∧ bhd l p ≤ l.length := by
  unfold bhd
  split
  · omega
  · split
    · rename_i q hq
      refine ⟨by omega, ?_⟩
      by_cases h9 : p.toNat ≤ l.length
      · have := bhn_le _ _ _ _ hq
        rw [List.length_drop] at this
        omega
      · rw [List.drop_eq_nil_of_le (by omega)] at hq
        cases hq
    · omega
theorem wg_step {l : List Nd} {n i : Nat} {b : Int} (h : i < n) : wgF l (n - i) i b = wgF l (n - (i + 1)) (i + 1) (if (l.getD i dn).op = 7 then max b (bhd l i - i - 1) else b) := by
  obtain ⟨k, hk⟩ : ∃ k, n - i = k + 1 := ⟨n - i - 1, by omega⟩
  rw [hk, show n - (i + 1) = k by omega]
  rfl
set_option maxRecDepth 100000 in
set_option maxHeartbeats 8000000 in
theorem weight_ (v : Value) (l : List Nd) (w : World) (hv : NLs w v l) (hb : ∀ a ∈ l, Byt a.text) (hks : ∀ a ∈ l, a.kids ≤ 9223372036854775807) (hn : l.length ≤ 1000000) : Calls Try.prog 12 #[v] w fun e w' => e = .returned (.int .i64 (wgt l)) ∧ Up w w' := by
  obtain ⟨Post, hPost⟩ : ∃ P : Ending → World → Prop, P = fun e w' => e = .returned (.int .i64 (wgt l)) ∧ Up w w' := ⟨_, rfl⟩
  rw [← hPost]
  have HPo : Hid (Post = fun e w' => e = .returned (.int .i64 (wgt l)) ∧ Up w w') := hPost
  clear hPost
  have HWK : Hid (Calls Try.prog 28 #[v] w fun e w' => e = .returned (.tuple #[.int .i64 ((wlk l).1 : Int), .int .i64 ((wlk l).2.1 : Int), .bool (wlk l).2.2]) ∧ Up w w') := walk_ v l w hv hb hks hn
  have HBH : Hid (∀ (p : Int) W, Up w W → p ≤ 9223372036854775807 → Calls Try.prog 22 #[v, .int .i64 p] W fun e w' => e = .returned (.int .i64 (bhd l p)) ∧ w' = W) := fun p W u hp => behind_ v l p W (hv.up u) (by omega) hp
  have HG : Hid (wgt l = if (wlk l).2.2 then wgF l l.length 0 0 else 0) := rfl
  generalize wlk l = q at *
  obtain ⟨d, p, b⟩ := q
  obtain ⟨a1, k1, rfl, hc, h1⟩ := nl_at hv
  obtain ⟨n, hn0⟩ : ∃ n, n = l.length := ⟨_, rfl⟩
  have HN : Hid (n = l.length) := hn0
  rw [← hn0] at hn h1 HWK HBH HG hc ⊢
  have H1 : Hid (n ≠ 0 → ∃ b off, a1 = some ⟨b, off, none⟩ ∧ ∀ W, Up w W → ∀ i, i < n → ∀ j x, (ndc (l.getD i dn))[j]? = some x → W.cell? ⟨b, off + i * 7 + j, none⟩ = some x) := h1
  clear hv hb hks h1 hn0
  cases b with
  | false =>
    go_enter Try.func12, Try.ntmps12
    go_wp2_with fail
    refine Calls.mono HWK.out ?_
    rintro e w1 ⟨rfl, u1⟩
    go_wp2_with fail
    rw [HPo.out, HG.out]
    exact ⟨rfl, u1⟩
  | true =>
    have HG2 : Hid (wgt l = wgF l (n - 0) 0 0) := HG.out
    go_enter Try.func12, Try.ntmps12
    go_wp2_with fail
    refine Calls.mono HWK.out ?_
    rintro e w1 ⟨rfl, u1⟩
    have HU1 : Hid (Up w w1) := u1
    clear u1 HWK HG
    go_wp2_with fail
    go_loopw [6, 19] (fun s6 s19 W => ∃ (i : Nat) (b : Int), i ≤ n ∧ s6 = .int .i64 b ∧ s19 = .int .i64 i ∧ 0 ≤ b ∧ b ≤ 1000000 ∧ wgt l = wgF l (n - i) i b ∧ Up w W) (fun _ s19 _ => n - (intOf s19).toNat)
    case atStart => exact ⟨0, 0, Nat.zero_le _, rfl, rfl, Int.le_refl _, by omega, HG2.out, HU1.out⟩
    case round =>
      obtain ⟨i, b, hi, rfl, rfl, hb0, hb1, hg, hu⟩ := hrel
      have HU : Hid (Up w wr) := hu
      have HGG : Hid (wgt l = wgF l (n - i) i b) := hg
      clear hg HG2
      by_cases hlt : i < n
      · have hlt2 : (i : Int) < (n : Int) := by omega
        obtain ⟨b1, o1, rfl, c1⟩ := H1.out (by omega)
        have ei : IntKind.i64.wrap ((i : Int) + 1) = ((i + 1 : Nat) : Int) := by rw [IntKind.wrap_i64]; omega
        have x0 : wr.cell? ⟨b1, o1 + i * 7, none⟩ = some (.int .i8 (l.getD i dn).op) := c1 wr hu i hlt 0 _ rfl
        have x1 : wr.cell? ⟨b1, o1 + i * 7 + 1, none⟩ = some (.int .i8 (l.getD i dn).kind) := c1 wr hu i hlt 1 _ rfl
        have x2 : wr.cell? ⟨b1, o1 + i * 7 + 2, none⟩ = some (.int .i64 (l.getD i dn).n) := c1 wr hu i hlt 2 _ rfl
        have x3 : wr.cell? ⟨b1, o1 + i * 7 + 3, none⟩ = some (.int .i64 (l.getD i dn).m) := c1 wr hu i hlt 3 _ rfl
        have x4 : wr.cell? ⟨b1, o1 + i * 7 + 4, none⟩ = some (.string (strOfNums (l.getD i dn).text)) := c1 wr hu i hlt 4 _ rfl
        have x5 : wr.cell? ⟨b1, o1 + i * 7 + 5, none⟩ = some (.int .i64 (l.getD i dn).pos) := c1 wr hu i hlt 5 _ rfl
        have x6 : wr.cell? ⟨b1, o1 + i * 7 + 6, none⟩ = some (.int .i64 (l.getD i dn).kids) := c1 wr hu i hlt 6 _ rfl
        obtain ⟨W9, hW9⟩ : ∃ W9, (wr.alloc (.cells zN 33)).setRow wr.heap.size (ndA (l.getD i dn)) = W9 := ⟨_, rfl⟩
        have r9 : W9.heap[wr.heap.size]? = some (.cells (ndA (l.getD i dn)) 33 (0, 0)) := by rw [← hW9]; exact setRow_heap _ _ _ _ _ _ (heap_alloc_new _ _)
        have u9 : Up wr W9 := by rw [← hW9]; exact up_setRow ((Up.refl _).alloc _) (Nat.le_refl _) _
        have HU9 : Hid (Up w W9) := hu.trans u9
        have hone : (ndA (l.getD i dn)).all (·.oneCell') = true := ndA_one _
        have q0 : W9.cell? ⟨wr.heap.size, 0, none⟩ = some (.int .i8 (l.getD i dn).op) := by simp only [World.cell?, r9]; rfl
        have HW9 : Hid ((wr.alloc (.cells zN 33)).setRow wr.heap.size (ndA (l.getD i dn)) = W9) := hW9
        have HST := wg_step (l := l) (n := n) (i := i) (b := b) hlt
        clear c1 hu u9 r9 hW9
        by_cases h7 : (l.getD i dn).op = 7
        · rw [if_pos h7] at HST
          obtain ⟨hz0, hz1⟩ := bhd_le l (i : Int)
          rw [← HN.out] at hz1
          have HCB : Hid (Calls Try.prog 22 #[.slice (some ⟨b1, o1, none⟩) n k1, .int .i64 (i : Int)] W9 fun e w' => e = .returned (.int .i64 (bhd l (i : Int))) ∧ w' = W9) := HBH.out (i : Int) W9 HU9.out (by omega)
          generalize bhd l (i : Int) = z at *
          have HST : Hid (wgF l (n - i) i b = wgF l (n - (i + 1)) (i + 1) (max b (z - (i : Int) - 1))) := HST
          generalize l.getD i dn = ex at *
          obtain ⟨eo, ek, en, em, et, ep, ec⟩ := ex
          have h7 : eo = 7 := h7
          subst h7
          simp only at x0 x1 x2 x3 x4 x5 x6 q0
          have es1 : IntKind.i64.wrap (z - (i : Int)) = z - (i : Int) := by rw [IntKind.wrap_i64]; omega
          have es2 : IntKind.i64.wrap (z - (i : Int) - 1) = z - (i : Int) - 1 := by rw [IntKind.wrap_i64]; omega
          have hmx : (if b < z - (i : Int) - 1 then z - (i : Int) - 1 else b) = max b (z - (i : Int) - 1) := by rw [Int.max_def]; split <;> split <;> omega
          go_wp2_with (first | (refine wpList_store_row rfl 33 (.tmp 8) (.tmp 23) rfl wr.heap.size (ndA ⟨7, ek, en, em, et, ep, ec⟩) rfl rfl 33 zN (heap_alloc_new wr _) infoNd rfl hone ?_; refine wpList_world HW9.out ?_))
          refine Calls.mono HCB.out ?_
          rintro r w2 ⟨rfl, rfl⟩
          clear HCB
          by_cases hmz : b < z - (i : Int) - 1
          · have HGM : Hid (wgt l = wgF l (n - (i + 1)) (i + 1) (z - (i : Int) - 1)) := by unfold Hid; rw [HGG.out, HST.out, ← hmx, if_pos hmz]
            clear hmx
            go_wp2_with fail
            go_roundw
            case rel => exact ⟨i + 1, z - (i : Int) - 1, by omega, rfl, by go_num, by omega, by omega, HGM.out, HU9.out⟩
            case measure => simp [intOf]; omega
          · have HGM : Hid (wgt l = wgF l (n - (i + 1)) (i + 1) b) := by unfold Hid; rw [HGG.out, HST.out, ← hmx, if_neg hmz]
            clear hmx
            go_wp2_with fail
            go_roundw
            case rel => exact ⟨i + 1, b, by omega, rfl, by go_num, by omega, by omega, HGM.out, HU9.out⟩
            case measure => simp [intOf]; omega
        · rw [if_neg h7] at HST
          have HGM : Hid (wgt l = wgF l (n - (i + 1)) (i + 1) b) := by unfold Hid; rw [HGG.out, HST]
          generalize l.getD i dn = ex at *
          have h7b : (ex.op == 7) = false := by simp [h7]
          clear HST h7
          go_wp2_with (first | (refine wpList_store_row rfl 33 (.tmp 8) (.tmp 23) rfl wr.heap.size (ndA ex) rfl rfl 33 zN (heap_alloc_new wr _) infoNd rfl hone ?_; refine wpList_world HW9.out ?_))
          go_roundw
          case rel => exact ⟨i + 1, b, by omega, rfl, by go_num, by omega, by omega, HGM.out, HU9.out⟩
          case measure => simp [intOf]; omega
      · have hlt2 : ¬ (i : Int) < (n : Int) := by omega
        have HF : Hid (wgt l = b) := by unfold Hid; rw [HGG.out, show n - i = 0 by omega]; rfl
        clear hu
        go_wp2_with fail
        rw [HPo.out, HF.out]
        exact ⟨rfl, HU.out⟩
end TR
end Go.Proofs.Ytgahdppcdeefaaa
