/-
  How much is handed in.
-/
import Derived.Test.YtpmdlpjedapbbaaWhToCt
import Derived.Test.YtpmdlpjedapbbaaEqToIz7
namespace Go.Proofs.Ytpmdlpjedapbbaa
open Go.RowKit
attribute [local go_sem ↓] Go.wp_at_zero Go.wp_at_succ

namespace ST
def szF : List (List Int) → Nat → Nat
  | [], n => n
  | l :: zs, n => if n ≤ 2147483647 then szF zs (n + l.length) else n
theorem szF_is : ∀ (zs : List (List Int)) (n : Nat), szF zs n = n + zs.flatten.length ∨ 2147483647 < szF zs n ∧ szF zs n ≤ n + zs.flatten.length := by
  intro zs
  induction zs with
  | nil => intro n; left; simp [szF]
  | cons l zs ih =>
    intro n
    simp only [szF, List.flatten_cons, List.length_append]
    split
    · rcases ih (n + l.length) with h | h
      · left; omega
      · right; omega
    · right; omega
def Near (zs : List (List Int)) : Prop := zs.length ≤ 140737488355328 ∧ ∀ r, r < zs.length → (zs.getD r []).length ≤ 140737488355328
theorem szF_le : ∀ (zs : List (List Int)) (n : Nat), (∀ r, r < zs.length → (zs.getD r []).length ≤ 140737488355328) → n ≤ 281474976710656 → szF zs n ≤ 281474976710656 := by
  intro zs
  induction zs with
  | nil => intro n _ h; exact h
  | cons l zs ih =>
    intro n h hn
    simp only [szF]
    split
    · have := h 0 (by simp)
      simp at this
      exact ih _ (fun r hr => by have := h (r + 1) (by simpa using hr); simpa using this) (by omega)
    · exact hn
set_option maxRecDepth 100000 in
set_option maxHeartbeats 2000000 in
theorem sizeRows_ (v : Value) (zs : List (List Int)) (w : World) (hv : ZL w v zs) (hn : Near zs) :
    Calls Try.prog 18 #[v] w fun e w' => e = .returned (.int .i64 (szF zs zs.length : Nat)) ∧ w' = w := by
  obtain ⟨a3, k3, rfl, -, c3⟩ := zl_at hv
  obtain ⟨hn1, hl⟩ := hn
  obtain ⟨n, hn0⟩ : ∃ n, n = zs.length := ⟨_, rfl⟩
  obtain ⟨R, hR⟩ : ∃ R, R = szF zs zs.length := ⟨_, rfl⟩
  have HR : Hid (R = szF (zs.drop 0) n) := by unfold Hid; rw [hR, hn0]; rfl
  rw [← hR]
  rw [← hn0] at hn1 hl c3 ⊢
  have HC : Hid _ := c3
  have HL : Hid _ := hl
  have HN : Hid (n = zs.length) := hn0
  clear hv c3 hl hn0 hR
  go_enter Try.func18, Try.ntmps18
  go_wp2_with fail
  go_loopw [3, 4] (fun s3 s4 W => ∃ i m : Nat, i ≤ n ∧ s4 = .int .i64 i ∧ s3 = .int .i64 m ∧ W = w ∧ R = szF (zs.drop i) m) (fun _ s4 _ => n - (intOf s4).toNat)
  case atStart => exact ⟨0, n, Nat.zero_le _, rfl, rfl, rfl, HR.out⟩
  case round =>
    obtain ⟨i, m, hi, rfl, rfl, rfl, hr⟩ := hrel
    clear HR
    have HR : Hid (R = szF (zs.drop i) m) := hr
    clear hr
    by_cases hlt : i < n
    · have hlt2 : (i : Int) < (n : Int) := by omega
      by_cases hb : m ≤ 2147483647
      · have hb2 : (m : Int) ≤ 2147483647 := by omega
        obtain ⟨b3, o3, rfl, hrow⟩ := HC.out (by omega)
        obtain ⟨ra, rc, hcell, -⟩ := hrow i hlt
        have x1 := hcell _ (Up.refl _)
        have hlen := HL.out i hlt
        have HF : Hid (R = szF (zs.drop (i + 1)) (m + (zs.getD i []).length)) := by
          unfold Hid
          have hz : i < zs.length := by rw [← HN.out]; exact hlt
          rw [HR.out, List.drop_eq_getElem_cons hz, szF, if_pos hb, List.getD_eq_getElem?_getD, List.getElem?_eq_getElem hz]
          rfl
        clear hcell hrow HR
        generalize (zs.getD i []).length = q at x1 hlen HF
        go_wp2_with fail
        go_roundw
        case rel => exact ⟨i + 1, m + q, by omega, by go_num, by go_num, by first | rfl | trivial, HF.out⟩
        case measure => simp [intOf]; omega
      · have hb2 : ¬ (m : Int) ≤ 2147483647 := by omega
        have HF : Hid (R = m) := by
          unfold Hid
          have hz : i < zs.length := by rw [← HN.out]; exact hlt
          rw [HR.out, List.drop_eq_getElem_cons hz, szF, if_neg hb]
        clear HR
        go_wp2
        go_ret
        exact ⟨by rw [HF.out]; rfl, rfl⟩
    · have hlt2 : ¬ (i : Int) < (n : Int) := by omega
      have HF : Hid (R = m) := by
        unfold Hid
        rw [HR.out, List.drop_of_length_le (by rw [← HN.out]; omega)]
        rfl
      clear HR
      go_wp2
      go_ret
      exact ⟨by rw [HF.out]; rfl, rfl⟩
def Far (s : Stt) : Prop := s.ps.length ≤ 140737488355328 ∧ s.cs.length ≤ 140737488355328 ∧ Near s.zs
def lenS (s : Stt) : Nat := s.ps.length + s.cs.length + (s.zs.length + (flat s).length)
theorem row_flat : ∀ (zs : List (List Int)) (r : Nat), r < zs.length → (zs.getD r []).length ≤ zs.flatten.length := by
  intro zs
  induction zs with
  | nil => intro r h; simp at h
  | cons l zs ih =>
    intro r h
    rw [List.flatten_cons, List.length_append]
    cases r with
    | zero => simp
    | succ r =>
      rw [List.getD_cons_succ]
      have := ih r (by simpa using h)
      omega
theorem small_of {s : Stt} (h : lenS s ≤ 2147483647) : Small s := by
  unfold lenS flat at h
  exact ⟨by omega, by omega, by omega, fun r hr => by have := row_flat s.zs r hr; omega⟩
set_option maxRecDepth 100000 in
set_option maxHeartbeats 2000000 in
theorem sizeState_ (v : Value) (s : Stt) (w : World) (hv : StL w v s) (hn : Far s) :
    Calls Try.prog 7 #[v] w fun e w' => e = .returned (.int .i64 ((s.ps.length : Int) + s.cs.length + (szF s.zs s.zs.length : Nat))) ∧ Up w w' := by
  obtain ⟨vp, vc, vz, rfl, h1, h2, h3⟩ := hv
  have hle := szF_le s.zs s.zs.length hn.2.2.2 (by have := hn.2.2.1; omega)
  have HC : Hid (∀ W, Up w W → Calls Try.prog 18 #[vz] W fun e w' => e = .returned (.int .i64 (szF s.zs s.zs.length : Nat)) ∧ w' = W) := fun W u => sizeRows_ vz s.zs W (h3.up u) hn.2.2
  have hn1 := hn.1
  have hn2 := hn.2.1
  obtain ⟨a1, k1, rfl, -, -⟩ := lc_at h1
  obtain ⟨a2, k2, rfl, -, -⟩ := lc_at h2
  obtain ⟨a3, k3, rfl, -, -⟩ := zl_at h3
  clear h1 h2 h3 hn
  unfold sv
  generalize szF s.zs s.zs.length = m at *
  generalize s.ps.length = np at *
  generalize s.cs.length = nc at *
  generalize s.zs.length = nz at *
  go_enter Try.func7, Try.ntmps7
  go_wp2_with fail
  go_quiet (exact Calls.quiet_of_same (HC.out _ (((Up.refl _).alloc _).drewN _)))
  go_wp2
  go_ret
  exact ⟨by go_num, ((Up.refl _).alloc _).drewN _⟩
end ST
end Go.Proofs.Ytpmdlpjedapbbaa
/-
  The library's Equal of two lists of ints, players, cards; EqualFunc of two lists of lists.
-/
namespace Go.Proofs.Ytpmdlpjedapbbaa
open Go.RowKit
attribute [local go_sem ↓] Go.wp_at_zero Go.wp_at_succ

namespace ST
set_option maxRecDepth 100000 in
set_option maxHeartbeats 2000000 in
theorem slI_ (v u : Value) (a b : List Int) (w : World) (hv : IL w v a) (hu : IL w u b) (hn : a.length ≤ 4294967296) :
    Calls Try.prog 29 #[v, u] w fun e w' => e = .returned (.bool (decide (a = b))) ∧ ∃ m, w' = w.drewN m := by
  obtain ⟨a1, k1, rfl, -, h1⟩ := il_at hv
  obtain ⟨a2, k2, rfl, -, h2⟩ := il_at hu
  obtain ⟨R, hR⟩ : ∃ R, R = decide (a = b) := ⟨_, rfl⟩
  rw [← hR]
  have HR : Hid (R = decide (a = b)) := hR
  obtain ⟨n, hn0⟩ : ∃ n, n = a.length := ⟨_, rfl⟩
  obtain ⟨m, hm0⟩ : ∃ n, n = b.length := ⟨_, rfl⟩
  have HN : Hid (n = a.length ∧ m = b.length) := ⟨hn0, hm0⟩
  rw [← hn0] at hn h1 ⊢
  rw [← hm0] at h2 ⊢
  have H1 : Hid _ := h1
  have H2 : Hid _ := h2
  clear hv hu h1 h2 hn0 hm0 hR
  by_cases hl : n = m
  · subst hl
    go_enter Try.func29, Try.ntmps29
    go_wp2_with fail
    go_loopw [4, 5, 13] (fun s4 s5 s13 wr => ∃ i : Nat, i ≤ n ∧ s4 = .bool false ∧ s13 = .int .i64 i ∧ (∃ k, wr = w.drewN k) ∧ ∀ j, j < i → a.getD j 0 = b.getD j 0) (fun _ _ s13 _ => n - (intOf s13).toNat)
    case atStart => exact ⟨0, Nat.zero_le _, rfl, rfl, ⟨0, rfl⟩, fun j hj => by omega⟩
    case round =>
      obtain ⟨i, hi, rfl, rfl, ⟨k, hk⟩, hj⟩ := hrel
      have HK : Hid (wr = w.drewN k) := hk
      have huw : Up w wr := by rw [hk]; exact (Up.refl w).drewN k
      have HJ : Hid (∀ j, j < i → a.getD j 0 = b.getD j 0) := hj
      clear hk hj
      by_cases hlt : i < n
      · have hlt2 : (i : Int) < (n : Int) := by omega
        obtain ⟨b1, o1, rfl, c1⟩ := H1.out (by omega)
        obtain ⟨b2, o2, rfl, c2⟩ := H2.out (by omega)
        have x1 := c1 _ huw i hlt
        have x2 := c2 _ huw i hlt
        have HY : Hid ((a.getD i 0 = b.getD i 0 → ∀ j, j < i + 1 → a.getD j 0 = b.getD j 0) ∧ (a.getD i 0 ≠ b.getD i 0 → R = false)) := ⟨fun e j hj => by
          by_cases ej : j = i
          · subst ej; exact e
          · exact HJ.out j (by omega), fun e => by rw [HR.out, decide_eq_false]; rintro rfl; exact e rfl⟩
        clear c1 c2 HJ
        generalize a.getD i 0 = x at x1 HY
        generalize b.getD i 0 = y at x2 HY
        by_cases hxy : x = y
        · subst hxy
          have HF : Hid _ := HY.out.1 rfl
          clear HY
          go_wp2_with fail
          go_quiet (fail)
          go_wp2
          go_roundw
          case rel => exact ⟨i + 1, by omega, rfl, by go_num, ⟨k + nq, by rw [HK.out, drewN_two]⟩, HF.out⟩
          case measure => simp [intOf]; omega
        · have hb : (x != y) = true := by simpa using hxy
          have HF : Hid _ := HY.out.2 hxy
          clear HY
          go_wp2_with fail
          go_quiet (fail)
          go_wp2
          go_ret
          exact ⟨by rw [HF.out]; rfl, k + nq, by rw [HK.out, drewN_two]⟩
      · have hlt2 : ¬ (i : Int) < (n : Int) := by omega
        have HF : Hid (R = true) := by unfold Hid; rw [HR.out, decide_eq_true]; exact eq_at a b 0 (by rw [← HN.out.1, ← HN.out.2]) (fun j hj => HJ.out j (by have := HN.out.1; omega))
        go_wp2
        go_ret
        exact ⟨by rw [HF.out]; rfl, k, HK.out⟩
  · have hl2 : ((n : Int) != (m : Int)) = true := by simp; omega
    have HF : Hid (R = false) := by unfold Hid; rw [HR.out, decide_eq_false]; rintro rfl; exact hl (HN.out.1.trans HN.out.2.symm)
    go_enter Try.func29, Try.ntmps29
    go_wp2
    go_ret
    exact ⟨by rw [HF.out]; rfl, 0, rfl⟩
set_option maxRecDepth 100000 in
set_option maxHeartbeats 2000000 in
theorem slP_ (v u : Value) (a b : List Ply) (w : World) (hv : PLs w v a) (hu : PLs w u b) (hn : a.length ≤ 4294967296) :
    Calls Try.prog 26 #[v, u] w fun e w' => e = .returned (.bool (decide (a = b))) ∧ ∃ m, w' = w.drewN m := by
  obtain ⟨a1, k1, rfl, -, h1⟩ := pl_at hv
  obtain ⟨a2, k2, rfl, -, h2⟩ := pl_at hu
  obtain ⟨R, hR⟩ : ∃ R, R = decide (a = b) := ⟨_, rfl⟩
  rw [← hR]
  have HR : Hid (R = decide (a = b)) := hR
  obtain ⟨n, hn0⟩ : ∃ n, n = a.length := ⟨_, rfl⟩
  obtain ⟨m, hm0⟩ : ∃ n, n = b.length := ⟨_, rfl⟩
  have HN : Hid (n = a.length ∧ m = b.length) := ⟨hn0, hm0⟩
  rw [← hn0] at hn h1 ⊢
  rw [← hm0] at h2 ⊢
  have H1 : Hid _ := h1
  have H2 : Hid _ := h2
  clear hv hu h1 h2 hn0 hm0 hR
  by_cases hl : n = m
  · subst hl
    go_enter Try.func26, Try.ntmps26
    go_wp2_with fail
    go_loopw [4, 5, 13] (fun s4 s5 s13 wr => ∃ i : Nat, i ≤ n ∧ s4 = .bool false ∧ s13 = .int .i64 i ∧ (∃ k, wr = w.drewN k) ∧ ∀ j, j < i → a.getD j dp = b.getD j dp) (fun _ _ s13 _ => n - (intOf s13).toNat)
    case atStart => exact ⟨0, Nat.zero_le _, rfl, rfl, ⟨0, rfl⟩, fun j hj => by omega⟩
    case round =>
      obtain ⟨i, hi, rfl, rfl, ⟨k, hk⟩, hj⟩ := hrel
      have HK : Hid (wr = w.drewN k) := hk
      have huw : Up w wr := by rw [hk]; exact (Up.refl w).drewN k
      have HJ : Hid (∀ j, j < i → a.getD j dp = b.getD j dp) := hj
      clear hk hj
      by_cases hlt : i < n
      · have hlt2 : (i : Int) < (n : Int) := by omega
        obtain ⟨b1, o1, rfl, c1⟩ := H1.out (by omega)
        obtain ⟨b2, o2, rfl, c2⟩ := H2.out (by omega)
        obtain ⟨x0, x1, x2⟩ := c1 _ huw i hlt
        obtain ⟨y0, y1, y2⟩ := c2 _ huw i hlt
        have HY : Hid ((a.getD i dp = b.getD i dp → ∀ j, j < i + 1 → a.getD j dp = b.getD j dp) ∧ (a.getD i dp ≠ b.getD i dp → R = false)) := ⟨fun e j hj => by
          by_cases ej : j = i
          · subst ej; exact e
          · exact HJ.out j (by omega), fun e => by rw [HR.out, decide_eq_false]; rintro rfl; exact e rfl⟩
        clear c1 c2 HJ
        generalize a.getD i dp = x at x0 x1 x2 HY
        generalize b.getD i dp = y at y0 y1 y2 HY
        by_cases hxy : x = y
        · subst hxy
          have HF : Hid _ := HY.out.1 rfl
          clear HY
          have hq := neqPlayers_same x
          go_wp2_with fail
          go_quiet (fail)
          go_wp2
          go_roundw
          case rel => exact ⟨i + 1, by omega, rfl, by go_num, ⟨k + nq, by rw [HK.out, drewN_two]⟩, HF.out⟩
          case measure => simp [intOf]; omega
        · have hq := neqPlayers_not x y hxy
          have HF : Hid _ := HY.out.2 hxy
          clear HY
          go_wp2_with fail
          go_quiet (fail)
          go_wp2
          go_ret
          exact ⟨by rw [HF.out]; rfl, k + nq, by rw [HK.out, drewN_two]⟩
      · have hlt2 : ¬ (i : Int) < (n : Int) := by omega
        have HF : Hid (R = true) := by unfold Hid; rw [HR.out, decide_eq_true]; exact eq_at a b dp (by rw [← HN.out.1, ← HN.out.2]) (fun j hj => HJ.out j (by have := HN.out.1; omega))
        go_wp2
        go_ret
        exact ⟨by rw [HF.out]; rfl, k, HK.out⟩
  · have hl2 : ((n : Int) != (m : Int)) = true := by simp; omega
    have HF : Hid (R = false) := by unfold Hid; rw [HR.out, decide_eq_false]; rintro rfl; exact hl (HN.out.1.trans HN.out.2.symm)
    go_enter Try.func26, Try.ntmps26
    go_wp2
    go_ret
    exact ⟨by rw [HF.out]; rfl, 0, rfl⟩
set_option maxRecDepth 100000 in
set_option maxHeartbeats 2000000 in
theorem slC_ (v u : Value) (a b : List Crd) (w : World) (hv : CLs w v a) (hu : CLs w u b) (hn : a.length ≤ 4294967296) :
    Calls Try.prog 27 #[v, u] w fun e w' => e = .returned (.bool (decide (a = b))) ∧ ∃ m, w' = w.drewN m := by
  obtain ⟨a1, k1, rfl, -, h1⟩ := cl_at hv
  obtain ⟨a2, k2, rfl, -, h2⟩ := cl_at hu
  obtain ⟨R, hR⟩ : ∃ R, R = decide (a = b) := ⟨_, rfl⟩
  rw [← hR]
  have HR : Hid (R = decide (a = b)) := hR
  obtain ⟨n, hn0⟩ : ∃ n, n = a.length := ⟨_, rfl⟩
  obtain ⟨m, hm0⟩ : ∃ n, n = b.length := ⟨_, rfl⟩
  have HN : Hid (n = a.length ∧ m = b.length) := ⟨hn0, hm0⟩
  rw [← hn0] at hn h1 ⊢
  rw [← hm0] at h2 ⊢
  have H1 : Hid _ := h1
  have H2 : Hid _ := h2
  clear hv hu h1 h2 hn0 hm0 hR
  by_cases hl : n = m
  · subst hl
    go_enter Try.func27, Try.ntmps27
    go_wp2_with fail
    go_loopw [4, 5, 13] (fun s4 s5 s13 wr => ∃ i : Nat, i ≤ n ∧ s4 = .bool false ∧ s13 = .int .i64 i ∧ (∃ k, wr = w.drewN k) ∧ ∀ j, j < i → a.getD j dc = b.getD j dc) (fun _ _ s13 _ => n - (intOf s13).toNat)
    case atStart => exact ⟨0, Nat.zero_le _, rfl, rfl, ⟨0, rfl⟩, fun j hj => by omega⟩
    case round =>
      obtain ⟨i, hi, rfl, rfl, ⟨k, hk⟩, hj⟩ := hrel
      have HK : Hid (wr = w.drewN k) := hk
      have huw : Up w wr := by rw [hk]; exact (Up.refl w).drewN k
      have HJ : Hid (∀ j, j < i → a.getD j dc = b.getD j dc) := hj
      clear hk hj
      by_cases hlt : i < n
      · have hlt2 : (i : Int) < (n : Int) := by omega
        obtain ⟨b1, o1, rfl, c1⟩ := H1.out (by omega)
        obtain ⟨b2, o2, rfl, c2⟩ := H2.out (by omega)
        obtain ⟨x0, x1, x2, x3, x4, x5⟩ := c1 _ huw i hlt
        obtain ⟨y0, y1, y2, y3, y4, y5⟩ := c2 _ huw i hlt
        have HY : Hid ((a.getD i dc = b.getD i dc → ∀ j, j < i + 1 → a.getD j dc = b.getD j dc) ∧ (a.getD i dc ≠ b.getD i dc → R = false)) := ⟨fun e j hj => by
          by_cases ej : j = i
          · subst ej; exact e
          · exact HJ.out j (by omega), fun e => by rw [HR.out, decide_eq_false]; rintro rfl; exact e rfl⟩
        clear c1 c2 HJ
        generalize a.getD i dc = x at x0 x1 x2 x3 x4 x5 HY
        generalize b.getD i dc = y at y0 y1 y2 y3 y4 y5 HY
        by_cases hxy : x = y
        · subst hxy
          have HF : Hid _ := HY.out.1 rfl
          clear HY
          have hq := neqCards_same x
          go_wp2_with fail
          go_quiet (fail)
          go_wp2
          go_roundw
          case rel => exact ⟨i + 1, by omega, rfl, by go_num, ⟨k + nq, by rw [HK.out, drewN_two]⟩, HF.out⟩
          case measure => simp [intOf]; omega
        · have hq := neqCards_not x y hxy
          have HF : Hid _ := HY.out.2 hxy
          clear HY
          go_wp2_with fail
          go_quiet (fail)
          go_wp2
          go_ret
          exact ⟨by rw [HF.out]; rfl, k + nq, by rw [HK.out, drewN_two]⟩
      · have hlt2 : ¬ (i : Int) < (n : Int) := by omega
        have HF : Hid (R = true) := by unfold Hid; rw [HR.out, decide_eq_true]; exact eq_at a b dc (by rw [← HN.out.1, ← HN.out.2]) (fun j hj => HJ.out j (by have := HN.out.1; omega))
        go_wp2
        go_ret
        exact ⟨by rw [HF.out]; rfl, k, HK.out⟩
  · have hl2 : ((n : Int) != (m : Int)) = true := by simp; omega
    have HF : Hid (R = false) := by unfold Hid; rw [HR.out, decide_eq_false]; rintro rfl; exact hl (HN.out.1.trans HN.out.2.symm)
    go_enter Try.func27, Try.ntmps27
    go_wp2
    go_ret
    exact ⟨by rw [HF.out]; rfl, 0, rfl⟩
end ST
end Go.Proofs.Ytpmdlpjedapbbaa
