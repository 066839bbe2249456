/-
  How much is handed in.
-/
import Derived.Test.YtabflfcdndioiaaGreatDoorWhToCt
namespace Go.Proofs.YtabflfcdndioiaaGreatDoor
open Go.RowKit
attribute [local go_sem ↓] Go.wp_at_zero Go.wp_at_succ

namespace ST
def szF : List (List Int) → Nat → Nat
  | [], n => n
  | l :: zs, n => if n ≤ 2147483647 then szF zs (n + l.length) else n
theorem szF_is : ∀ (zs : List (List Int)) (n : Nat), szF zs n = n + zs.flatten.length ∨ 2147483647 < szF zs n ∧ szF zs n ≤ n + zs.flatten.length := by
  intro zs
  induction zs with
  | nil => intro n; left; simp [szF]
  | cons l zs ih =>
    intro n
    simp only [szF, List.flatten_cons, List.length_append]
    split
    · rcases ih (n + l.length) with h | h
      · left; omega
      · right; omega
    · right; omega
def Near (zs : List (List Int)) : Prop := zs.length ≤ 140737488355328 ∧ ∀ r, r < zs.length → (zs.getD r []).length ≤ 140737488355328
theorem szF_le : ∀ (zs : List (List Int)) (n : Nat), (∀ r, r < zs.length → (zs.getD r []).length ≤ 140737488355328) → n ≤ 281474976710656 → szF zs n ≤ 281474976710656 := by
  intro zs
  induction zs with
  | nil => intro n _ h; exact h
  | cons l zs ih =>
    intro n h hn
    simp only [szF]
    split
    · have := h 0 (by simp)
      simp at this
      exact ih _ (fun r hr => by have := h (r + 1) (by simpa using hr); simpa using this) (by omega)
    · exact hn
set_option maxRecDepth 100000 in
set_option maxHeartbeats 2000000 in
theorem sizeRows_ (v : Value) (zs : List (List Int)) (w : World) (hv : ZL w v zs) (hn : Near zs) :
    Calls Tryz.prog 106 #[v] w fun e w' => e = .returned (.int .i64 (szF zs zs.length : Nat)) ∧ w' = w := by
  obtain ⟨a3, k3, rfl, -, c3⟩ := zl_at hv
  obtain ⟨hn1, hl⟩ := hn
  obtain ⟨n, hn0⟩ : ∃ n, n = zs.length := ⟨_, rfl⟩
  obtain ⟨R, hR⟩ : ∃ R, R = szF zs zs.length := ⟨_, rfl⟩
  have HR : Hid (R = szF (zs.drop 0) n) := by unfold Hid; rw [hR, hn0]; rfl
  rw [← hR]
  rw [← hn0] at hn1 hl c3 ⊢
  have HC : Hid _ := c3
  have HL : Hid _ := hl
  have HN : Hid (n = zs.length) := hn0
  clear hv c3 hl hn0 hR
  go_enter Tryz.func106, Tryz.ntmps106
  go_wp2_with fail
  go_loopw [3, 4] (fun s3 s4 W => ∃ i m : Nat, i ≤ n ∧ s4 = .int .i64 i ∧ s3 = .int .i64 m ∧ W = w ∧ R = szF (zs.drop i) m) (fun _ s4 _ => n - (intOf s4).toNat)
  case atStart => exact ⟨0, n, Nat.zero_le _, rfl, rfl, rfl, HR.out⟩
  case round =>
    obtain ⟨i, m, hi, rfl, rfl, rfl, hr⟩ := hrel
    clear HR
    have HR : Hid (R = szF (zs.drop i) m) := hr
    clear hr
    by_cases hlt : i < n
    · have hlt2 : (i : Int) < (n : Int) := by omega
      by_cases hb : m ≤ 2147483647
      · have hb2 : (m : Int) ≤ 2147483647 := by omega
        obtain ⟨b3, o3, rfl, hrow⟩ := HC.out (by omega)
        obtain ⟨ra, rc, hcell, -⟩ := hrow i hlt
        have x1 := hcell _ (Up.refl _)
        have hlen := HL.out i hlt
        have HF : Hid (R = szF (zs.drop (i + 1)) (m + (zs.getD i []).length)) := by
          unfold Hid
          have hz : i < zs.length := by rw [← HN.out]; exact hlt
          rw [HR.out, List.drop_eq_getElem_cons hz, szF, if_pos hb, List.getD_eq_getElem?_getD, List.getElem?_eq_getElem hz]
          rfl
        clear hcell hrow HR
        generalize (zs.getD i []).length = q at x1 hlen HF
        go_wp2_with fail
        go_roundw
        case rel => exact ⟨i + 1, m + q, by omega, by go_num, by go_num, by first | rfl | trivial, HF.out⟩
        case measure => simp [intOf]; omega
      · have hb2 : ¬ (m : Int) ≤ 2147483647 := by omega
        have HF : Hid (R = m) := by
          unfold Hid
          have hz : i < zs.length := by rw [← HN.out]; exact hlt
          rw [HR.out, List.drop_eq_getElem_cons hz, szF, if_neg hb]
        clear HR
        go_wp2
        go_ret
        exact ⟨by rw [HF.out]; rfl, rfl⟩
    · have hlt2 : ¬ (i : Int) < (n : Int) := by omega
      have HF : Hid (R = m) := by
        unfold Hid
        rw [HR.out, List.drop_of_length_le (by rw [← HN.out]; omega)]
        rfl
      clear HR
      go_wp2
      go_ret
      exact ⟨by rw [HF.out]; rfl, rfl⟩
def Far (s : Stt) : Prop := s.ps.length ≤ 140737488355328 ∧ s.cs.length ≤ 140737488355328 ∧ Near s.zs
def lenS (s : Stt) : Nat := s.ps.length + s.cs.length + (s.zs.length + (flat s).length)
theorem row_flat : ∀ (zs : List (List Int)) (r : Nat), r < zs.length → (zs.getD r []).length ≤ zs.flatten.length := by
  intro zs
  induction zs with
  | nil => intro r h; simp at h
  | cons l zs ih =>
    intro r h
    rw [List.flatten_cons, List.length_append]
    cases r with
    | zero => simp
    | succ r =>
      rw [List.getD_cons_succ]
      have := ih r (by simpa using h)
      omega
theorem small_of {s : Stt} (h : lenS s ≤ 2147483647) : Small s := by
  unfold lenS flat at h
  exact ⟨by omega, by omega, by omega, fun r hr => by have := row_flat s.zs r hr; omega⟩
set_option maxRecDepth 100000 in
set_option maxHeartbeats 2000000 in
theorem sizeState_ (v : Value) (s : Stt) (w : World) (hv : StL w v s) (hn : Far s) :
    Calls Tryz.prog 44 #[v] w fun e w' => e = .returned (.int .i64 ((s.ps.length : Int) + s.cs.length + (szF s.zs s.zs.length : Nat))) ∧ Up w w' := by
  obtain ⟨vp, vc, vz, rfl, h1, h2, h3⟩ := hv
  have hle := szF_le s.zs s.zs.length hn.2.2.2 (by have := hn.2.2.1; omega)
  have HC : Hid (∀ W, Up w W → Calls Tryz.prog 106 #[vz] W fun e w' => e = .returned (.int .i64 (szF s.zs s.zs.length : Nat)) ∧ w' = W) := fun W u => sizeRows_ vz s.zs W (h3.up u) hn.2.2
  have hn1 := hn.1
  have hn2 := hn.2.1
  obtain ⟨a1, k1, rfl, -, -⟩ := lc_at h1
  obtain ⟨a2, k2, rfl, -, -⟩ := lc_at h2
  obtain ⟨a3, k3, rfl, -, -⟩ := zl_at h3
  clear h1 h2 h3 hn
  unfold sv
  generalize szF s.zs s.zs.length = m at *
  generalize s.ps.length = np at *
  generalize s.cs.length = nc at *
  generalize s.zs.length = nz at *
  go_enter Tryz.func44, Tryz.ntmps44
  go_wp2_with fail
  go_quiet (exact Calls.quiet_of_same (HC.out _ (((Up.refl _).alloc _).drewN _)))
  go_wp2
  go_ret
  exact ⟨by go_num, ((Up.refl _).alloc _).drewN _⟩
set_option maxHeartbeats 1000000 in
theorem long1_ (n : Int) (w : World) : Calls Tryz.prog 37 #[.int .i64 n] w fun e w' => e = .returned (.bool (decide (2147483647 < n))) ∧ w' = w := by
  by_cases h : 2147483647 < n
  · go_enter Tryz.func37, Tryz.ntmps37
    go_wp2
    go_ret
    exact ⟨by simp [h], rfl⟩
  · go_enter Tryz.func37, Tryz.ntmps37
    go_wp2
    go_ret
    exact ⟨by simp [h], rfl⟩
end ST
end Go.Proofs.YtabflfcdndioiaaGreatDoor
/-
  The document's small questions, and its entries.
-/
namespace Go.Proofs.YtabflfcdndioiaaGreatDoor
open Go.RowKit
attribute [local go_sem ↓] Go.wp_at_zero Go.wp_at_succ

namespace ST
def fromB (x lo hi : Int) : Bool := decide (lo ≤ x) && decide (x ≤ hi)
theorem from_num (x : Int) (n : Nat) : fromB x 0 ((n : Int) - 1) = numB x n := by
  simp only [fromB, numB]
  congr 1
  apply decide_eq_decide.2
  omega
set_option maxHeartbeats 1000000 in
theorem rfrom_ (x lo hi : Int) (w : World) : Calls Tryz.prog 208 #[.int .i64 x, .int .i64 lo, .int .i64 hi] w fun e w' => e = .returned (.bool (fromB x lo hi)) ∧ w' = w := by
  by_cases h1 : lo ≤ x
  · by_cases h2 : x ≤ hi
    · go_enter Tryz.func208, Tryz.ntmps208
      go_wp2
      go_ret
      exact ⟨by simp [fromB, h1, h2], rfl⟩
    · go_enter Tryz.func208, Tryz.ntmps208
      go_wp2
      go_ret
      exact ⟨by simp [fromB]; omega, rfl⟩
  · go_enter Tryz.func208, Tryz.ntmps208
    go_wp2
    go_ret
    exact ⟨by simp [fromB]; omega, rfl⟩
theorem rfromB (x lo hi : Int) (b : Bool) (h : fromB x lo hi = b) (w : World) : Calls Tryz.prog 208 #[.int .i64 x, .int .i64 lo, .int .i64 hi] w fun e w' => e = .returned (.bool b) ∧ w' = w := by subst h; exact rfrom_ x lo hi w
set_option maxHeartbeats 1000000 in
theorem rStat_ (n : Int) (w : World) : Calls Tryz.prog 209 #[.int .i32 n] w fun e w' => e = .returned (.bool (statB n)) ∧ w' = w := by
  by_cases h1 : -1000000000 ≤ n
  · by_cases h2 : n ≤ 1000000000
    · go_enter Tryz.func209, Tryz.ntmps209
      go_wp2
      go_ret
      exact ⟨by simp [statB, h1, h2], rfl⟩
    · go_enter Tryz.func209, Tryz.ntmps209
      go_wp2
      go_ret
      exact ⟨by simp [statB]; omega, rfl⟩
  · go_enter Tryz.func209, Tryz.ntmps209
    go_wp2
    go_ret
    exact ⟨by simp [statB]; omega, rfl⟩
theorem rStatB (n : Int) (b : Bool) (h : statB n = b) (w : World) : Calls Tryz.prog 209 #[.int .i32 n] w fun e w' => e = .returned (.bool b) ∧ w' = w := by subst h; exact rStat_ n w
theorem crd_ref (c : Crd) (n : Nat) : crdB n c = (fromB c.kind 0 255 && fromB c.owner 0 ((n : Int) - 1) && statB c.power && statB c.health && statB c.damage && statB c.marks) := by
  rw [from_num]
  have e : fromB c.kind 0 255 = numB c.kind 256 := from_num c.kind 256
  rw [e, crdB, crd0B]
  cases numB c.kind 256 <;> cases numB c.owner n <;> cases statB c.power <;> cases statB c.health <;> cases statB c.damage <;> cases statB c.marks <;> rfl
set_option maxHeartbeats 4000000 in
theorem rcard_ (c : Crd) (n : Nat) (hn : n ≤ 4294967296) (w : World) : Calls Tryz.prog 210 #[cag c, .int .i64 n] w fun e w' => e = .returned (.bool (crdB n c)) ∧ Up w w' := by
  obtain ⟨R, hR⟩ : ∃ R, R = crdB n c := ⟨_, rfl⟩
  rw [← hR]
  have HR : Hid (R = (fromB c.kind 0 255 && fromB c.owner 0 ((n : Int) - 1) && statB c.power && statB c.health && statB c.damage && statB c.marks)) := by unfold Hid; rw [hR, crd_ref]
  clear hR
  unfold cag
  cases h0 : fromB c.kind 0 255
  · go_enter Tryz.func210, Tryz.ntmps210
    go_wp2_with fail
    refine Calls.mono (rfromB _ 0 255 false h0 _) ?_
    rintro e w1 ⟨rfl, rfl⟩
    go_wp2
    go_ret
    exact ⟨by rw [HR.out]; simp [h0], (Up.refl _).alloc _⟩
  · cases h1 : fromB c.owner 0 ((n : Int) - 1)
    · go_enter Tryz.func210, Tryz.ntmps210
      go_wp2_with fail
      refine Calls.mono (rfromB _ 0 255 true h0 _) ?_
      rintro e w1 ⟨rfl, rfl⟩
      go_wp2_with fail
      refine Calls.mono (rfromB _ 0 _ false h1 _) ?_
      rintro e w2 ⟨rfl, rfl⟩
      go_wp2
      go_ret
      exact ⟨by rw [HR.out]; simp [h1], (Up.refl _).alloc _⟩
    · cases h2 : statB c.power
      · go_enter Tryz.func210, Tryz.ntmps210
        go_wp2_with fail
        refine Calls.mono (rfromB _ 0 255 true h0 _) ?_
        rintro e w1 ⟨rfl, rfl⟩
        go_wp2_with fail
        refine Calls.mono (rfromB _ 0 _ true h1 _) ?_
        rintro e w2 ⟨rfl, rfl⟩
        go_wp2_with fail
        refine Calls.mono (rStatB _ false h2 _) ?_
        rintro e w3 ⟨rfl, rfl⟩
        go_wp2
        go_ret
        exact ⟨by rw [HR.out]; simp [h2], (Up.refl _).alloc _⟩
      · cases h3 : statB c.health
        · go_enter Tryz.func210, Tryz.ntmps210
          go_wp2_with fail
          refine Calls.mono (rfromB _ 0 255 true h0 _) ?_
          rintro e w1 ⟨rfl, rfl⟩
          go_wp2_with fail
          refine Calls.mono (rfromB _ 0 _ true h1 _) ?_
          rintro e w2 ⟨rfl, rfl⟩
          go_wp2_with fail
          refine Calls.mono (rStatB _ true h2 _) ?_
          rintro e w3 ⟨rfl, rfl⟩
          go_wp2_with fail
          refine Calls.mono (rStatB _ false h3 _) ?_
          rintro e w4 ⟨rfl, rfl⟩
          go_wp2
          go_ret
          exact ⟨by rw [HR.out]; simp [h3], (Up.refl _).alloc _⟩
        · cases h4 : statB c.damage
          · go_enter Tryz.func210, Tryz.ntmps210
            go_wp2_with fail
            refine Calls.mono (rfromB _ 0 255 true h0 _) ?_
            rintro e w1 ⟨rfl, rfl⟩
            go_wp2_with fail
            refine Calls.mono (rfromB _ 0 _ true h1 _) ?_
            rintro e w2 ⟨rfl, rfl⟩
            go_wp2_with fail
            refine Calls.mono (rStatB _ true h2 _) ?_
            rintro e w3 ⟨rfl, rfl⟩
            go_wp2_with fail
            refine Calls.mono (rStatB _ true h3 _) ?_
            rintro e w4 ⟨rfl, rfl⟩
            go_wp2_with fail
            refine Calls.mono (rStatB _ false h4 _) ?_
            rintro e w5 ⟨rfl, rfl⟩
            go_wp2
            go_ret
            exact ⟨by rw [HR.out]; simp [h4], (Up.refl _).alloc _⟩
          · cases h5 : statB c.marks
            · go_enter Tryz.func210, Tryz.ntmps210
              go_wp2_with fail
              refine Calls.mono (rfromB _ 0 255 true h0 _) ?_
              rintro e w1 ⟨rfl, rfl⟩
              go_wp2_with fail
              refine Calls.mono (rfromB _ 0 _ true h1 _) ?_
              rintro e w2 ⟨rfl, rfl⟩
              go_wp2_with fail
              refine Calls.mono (rStatB _ true h2 _) ?_
              rintro e w3 ⟨rfl, rfl⟩
              go_wp2_with fail
              refine Calls.mono (rStatB _ true h3 _) ?_
              rintro e w4 ⟨rfl, rfl⟩
              go_wp2_with fail
              refine Calls.mono (rStatB _ true h4 _) ?_
              rintro e w5 ⟨rfl, rfl⟩
              go_wp2_with fail
              refine Calls.mono (rStatB _ false h5 _) ?_
              rintro e w6 ⟨rfl, rfl⟩
              go_wp2
              go_ret
              exact ⟨by rw [HR.out]; simp [h5], (Up.refl _).alloc _⟩
            · go_enter Tryz.func210, Tryz.ntmps210
              go_wp2_with fail
              refine Calls.mono (rfromB _ 0 255 true h0 _) ?_
              rintro e w1 ⟨rfl, rfl⟩
              go_wp2_with fail
              refine Calls.mono (rfromB _ 0 _ true h1 _) ?_
              rintro e w2 ⟨rfl, rfl⟩
              go_wp2_with fail
              refine Calls.mono (rStatB _ true h2 _) ?_
              rintro e w3 ⟨rfl, rfl⟩
              go_wp2_with fail
              refine Calls.mono (rStatB _ true h3 _) ?_
              rintro e w4 ⟨rfl, rfl⟩
              go_wp2_with fail
              refine Calls.mono (rStatB _ true h4 _) ?_
              rintro e w5 ⟨rfl, rfl⟩
              go_wp2_with fail
              refine Calls.mono (rStatB _ true h5 _) ?_
              rintro e w6 ⟨rfl, rfl⟩
              go_wp2
              go_ret
              exact ⟨by rw [HR.out]; simp [h0, h1, h2, h3, h4, h5], (Up.refl _).alloc _⟩
/- the entries -/
theorem off_le9 (zs : List (List Int)) (z : Nat) : (zs.take z).flatten.length ≤ zs.flatten.length := by
  have : zs.flatten = (zs.take z).flatten ++ (zs.drop z).flatten := by rw [← List.flatten_append, List.take_append_drop]
  rw [this, List.length_append]
  omega
theorem ivs_app9 (a b : List Int) : ivs (a ++ b) = ivs a ++ ivs b := by simp [ivs]
theorem off_flat (zs : List (List Int)) (i : Nat) (hi : i < zs.length) : (zs.take (i + 1)).flatten = (zs.take i).flatten ++ zs.getD i [] := by
  rw [List.take_add_one, List.getElem?_eq_getElem hi, List.flatten_append, List.getD_eq_getElem?_getD, List.getElem?_eq_getElem hi]
  simp
set_option maxRecDepth 100000 in
set_option maxHeartbeats 4000000 in
theorem entries_ (v : Value) (s : Stt) (w : World) (hs : StL w v s) (hz : s.zs.length ≤ 4294967296) (hfl : (flat s).length ≤ 4294967296) (hl : ∀ r, r < s.zs.length → (s.zs.getD r []).length ≤ 4294967296) :
    Calls Tryz.prog 211 #[v] w (CpPost w fun W v' => IRow w.heap.size W v' (flat s)) := by
  obtain ⟨iT, hiT, i0, i1, i2⟩ := info_parts infoI
  obtain ⟨Post, hPost⟩ : ∃ P : Ending → World → Prop, P = CpPost w fun W v' => IRow w.heap.size W v' (flat s) := ⟨_, rfl⟩
  rw [← hPost]
  have HP : Hid (Post = CpPost w fun W v' => IRow w.heap.size W v' (flat s)) := hPost
  obtain ⟨vp, vc, vz, rfl, -, -, h3⟩ := hs
  obtain ⟨a3, k3, rfl, -, c3⟩ := zl_at h3
  have HC : Hid _ := c3
  have HL : Hid _ := hl
  have HFl : Hid (∀ i, i < s.zs.length → (s.zs.take i).flatten.length + (s.zs.getD i []).length ≤ 4294967296) := fun i hi => by
    have h1 := flat_next s.zs i hi
    have h2 := off_le9 s.zs (i + 1)
    unfold flat at hfl
    omega
  obtain ⟨n, hn0⟩ : ∃ n, n = s.zs.length := ⟨_, rfl⟩
  have HN : Hid (n = s.zs.length) := hn0
  rw [← hn0] at hz HC HL HFl ⊢
  clear hPost h3 c3 hl hfl hn0
  unfold sv
  obtain ⟨W0, hW0⟩ : ∃ W, W = w.alloc (.cells #[vp, vc, .slice a3 n k3, .int .i32 s.turn, .int .i64 s.whose, .int .i8 s.fin, .int .i64 s.winner] 27) := ⟨_, rfl⟩
  have HW0 : Hid (Up w W0 ∧ W0.heap[w.heap.size]? = some (.cells #[vp, vc, .slice a3 n k3, .int .i32 s.turn, .int .i64 s.whose, .int .i8 s.fin, .int .i64 s.winner] 27 (0, 0)) ∧ W0.heap.size = w.heap.size + 1) := ⟨by rw [hW0]; exact (Up.refl _).alloc _, by rw [hW0]; exact heap_alloc_new w _, by rw [hW0]; simp⟩
  go_enter Tryz.func211, Tryz.ntmps211
  go_wp2_with fail
  rw [← hW0]
  clear hW0
  go_loopw [3, 4] (fun s3 s4 W => ∃ (i : Nat) (va : Option Addr) (vk : Nat), i ≤ n ∧ s4 = .int .i64 i ∧ s3 = .slice va (s.zs.take i).flatten.length vk ∧ W.ownsRow W0.heap.size 3 1 (.slice va (s.zs.take i).flatten.length vk) (s.zs.take i).flatten.length (ivs (s.zs.take i).flatten) ∧ Up W0 W) (fun _ s4 _ => n - (intOf s4).toNat)
  case atStart => exact ⟨0, none, 0, Nat.zero_le _, rfl, rfl, World.ownsRow_nil _ _ _ _, Up.refl _⟩
  case round =>
    obtain ⟨i, va, vk, hi, rfl, rfl, hz9, hu⟩ := hrel
    have HZ : Hid _ := hz9
    have HU : Hid (Up W0 wr) := hu
    clear hz9 hu
    have y2 : wr.cell? ⟨w.heap.size, 2, none⟩ = some (.slice a3 n k3) := HU.out.cell (seven_cells HW0.out.2.1).2.2.1
    by_cases hlt : i < n
    · have hlt2 : (i : Int) < (n : Int) := by omega
      obtain ⟨b3, o3, rfl, hrow⟩ := HC.out (by omega)
      obtain ⟨ra, rc, hcell, hil⟩ := hrow i hlt
      have x1 := hcell wr (HW0.out.1.trans HU.out)
      have hb := HFl.out i hlt
      have HIL : Hid (LC wr (.slice ra (s.zs.getD i []).length rc) 1 (s.zs.getD i []).length (ivs (s.zs.getD i []))) := hil.up (HW0.out.1.trans HU.out)
      have HOf : Hid ((s.zs.take (i + 1)).flatten = (s.zs.take i).flatten ++ s.zs.getD i []) := off_flat s.zs i (by rw [← HN.out]; exact hlt)
      clear hcell hrow hil
      generalize s.zs.getD i [] = r at x1 hb HIL HOf
      generalize (s.zs.take i).flatten = p at hb HOf HZ ⊢
      have HSz : Hid (W0.heap.size ≤ wr.heap.size) := HU.out.size
      go_wp2_with (at_builtin; (refine wpList_append_lc (by rfl) (.tmp 12) (.tmp 17) 28 (by rfl) W0.heap.size 3 iT (.int .i64 0) 1 8 Tryz.underlying28 hiT i0 i1 i2 (by rfl) (by decide) (.slice va p.length vk) p.length (ivs p) (by rfl) HZ.out (.slice ra r.length rc) r.length (ivs r) (by rfl) HIL.out (ivs_one _) (by unfold maxLen; omega) (by omega) HSz.out ?_; intro v5 w5 hin hg1; have u5 : Up W0 w5 := (by refine Below.grown HU.out hg1 HSz.out ?_; intro k hk; exact (World.ownsRow.lt HZ.out k hk).1); obtain ⟨xa5, xk5, hx5⟩ := row_val hin; have HI5 : Hid (w5.ownsRow W0.heap.size 3 1 v5 (p.length + r.length) (ivs (p ++ r)) ∧ Up W0 w5) := (by refine ⟨?_, u5⟩; rw [ivs_app9]; exact hin); subst hx5; clear hin hg1 u5))
      go_roundw
      case rel =>
        refine ⟨i + 1, xa5, xk5, by omega, by go_num, ?_, ?_, HI5.out.2⟩
        · rw [HOf.out, List.length_append]
        · rw [HOf.out, List.length_append]; exact HI5.out.1
      case measure => simp [intOf]; omega
    · have hlt2 : ¬ (i : Int) < (n : Int) := by omega
      have hfl : (s.zs.take i).flatten = flat s := by rw [List.take_of_length_le (by rw [← HN.out]; omega)]; rfl
      rw [hfl] at HZ ⊢
      clear hfl
      go_wp2
      rw [HP.out]
      exact ⟨_, rfl, own_less HZ.out (by rw [HW0.out.2.2]; omega), HW0.out.1.trans HU.out⟩
end ST
end Go.Proofs.YtabflfcdndioiaaGreatDoor
