/-
  How much is handed in.
-/
import Derived.Test.YtabflfcdndioiabGreatDoorWhToCt
import Derived.Test.YtabflfcdndioiabGreatDoorDr6Q
import Derived.Test.YtabflfcdndioiabGreatDoorPt6ToPw6
namespace Go.Proofs.YtabflfcdndioiabGreatDoor
open Go.RowKit
attribute [local go_sem ↓] Go.wp_at_zero Go.wp_at_succ

namespace ST
def szF : List (List Int) → Nat → Nat
  | [], n => n
  | l :: zs, n => if n ≤ 2147483647 then szF zs (n + l.length) else n
theorem szF_is : ∀ (zs : List (List Int)) (n : Nat), szF zs n = n + zs.flatten.length ∨ 2147483647 < szF zs n ∧ szF zs n ≤ n + zs.flatten.length := by
  intro zs
  induction zs with
  | nil => intro n; left; simp [szF]
  | cons l zs ih =>
    intro n
    simp only [szF, List.flatten_cons, List.length_append]
    split
    · rcases ih (n + l.length) with h | h
      · left; omega
      · right; omega
    · right; omega
def Near (zs : List (List Int)) : Prop := zs.length ≤ 140737488355328 ∧ ∀ r, r < zs.length → (zs.getD r []).length ≤ 140737488355328
theorem szF_le : ∀ (zs : List (List Int)) (n : Nat), (∀ r, r < zs.length → (zs.getD r []).length ≤ 140737488355328) → n ≤ 281474976710656 → szF zs n ≤ 281474976710656 := by
  intro zs
  induction zs with
  | nil => intro n _ h; exact h
  | cons l zs ih =>
    intro n h hn
    simp only [szF]
    split
    · have := h 0 (by simp)
      simp at this
      exact ih _ (fun r hr => by have := h (r + 1) (by simpa using hr); simpa using this) (by omega)
    · exact hn
set_option maxRecDepth 100000 in
set_option maxHeartbeats 2000000 in
theorem sizeRows_ (v : Value) (zs : List (List Int)) (w : World) (hv : ZL w v zs) (hn : Near zs) :
    Calls Tryz.prog 46 #[v] w fun e w' => e = .returned (.int .i64 (szF zs zs.length : Nat)) ∧ w' = w := by
  obtain ⟨a3, k3, rfl, -, c3⟩ := zl_at hv
  obtain ⟨hn1, hl⟩ := hn
  obtain ⟨n, hn0⟩ : ∃ n, n = zs.length := ⟨_, rfl⟩
  obtain ⟨R, hR⟩ : ∃ R, R = szF zs zs.length := ⟨_, rfl⟩
  have HR : Hid (R = szF (zs.drop 0) n) := by unfold Hid; rw [hR, hn0]; rfl
  rw [← hR]
  rw [← hn0] at hn1 hl c3 ⊢
  have HC : Hid _ := c3
  have HL : Hid _ := hl
  have HN : Hid (n = zs.length) := hn0
  clear hv c3 hl hn0 hR
  go_enter Tryz.func46, Tryz.ntmps46
  go_wp2_with fail
  go_loopw [3, 4] (fun s3 s4 W => ∃ i m : Nat, i ≤ n ∧ s4 = .int .i64 i ∧ s3 = .int .i64 m ∧ W = w ∧ R = szF (zs.drop i) m) (fun _ s4 _ => n - (intOf s4).toNat)
  case atStart => exact ⟨0, n, Nat.zero_le _, rfl, rfl, rfl, HR.out⟩
  case round =>
    obtain ⟨i, m, hi, rfl, rfl, rfl, hr⟩ := hrel
    clear HR
    have HR : Hid (R = szF (zs.drop i) m) := hr
    clear hr
    by_cases hlt : i < n
    · have hlt2 : (i : Int) < (n : Int) := by omega
      by_cases hb : m ≤ 2147483647
      · have hb2 : (m : Int) ≤ 2147483647 := by omega
        obtain ⟨b3, o3, rfl, hrow⟩ := HC.out (by omega)
        obtain ⟨ra, rc, hcell, -⟩ := hrow i hlt
        have x1 := hcell _ (Up.refl _)
        have hlen := HL.out i hlt
        have HF : Hid (R = szF (zs.drop (i + 1)) (m + (zs.getD i []).length)) := by
          unfold Hid
          have hz : i < zs.length := by rw [← HN.out]; exact hlt
          rw [HR.out, List.drop_eq_getElem_cons hz, szF, if_pos hb, List.getD_eq_getElem?_getD, List.getElem?_eq_getElem hz]
          rfl
        clear hcell hrow HR
        generalize (zs.getD i []).length = q at x1 hlen HF
        go_wp2_with fail
        go_roundw
        case rel => exact ⟨i + 1, m + q, by omega, by go_num, by go_num, by first | rfl | trivial, HF.out⟩
        case measure => simp [intOf]; omega
      · have hb2 : ¬ (m : Int) ≤ 2147483647 := by omega
        have HF : Hid (R = m) := by
          unfold Hid
          have hz : i < zs.length := by rw [← HN.out]; exact hlt
          rw [HR.out, List.drop_eq_getElem_cons hz, szF, if_neg hb]
        clear HR
        go_wp2
        go_ret
        exact ⟨by rw [HF.out]; rfl, rfl⟩
    · have hlt2 : ¬ (i : Int) < (n : Int) := by omega
      have HF : Hid (R = m) := by
        unfold Hid
        rw [HR.out, List.drop_of_length_le (by rw [← HN.out]; omega)]
        rfl
      clear HR
      go_wp2
      go_ret
      exact ⟨by rw [HF.out]; rfl, rfl⟩
def Far (s : Stt) : Prop := s.ps.length ≤ 140737488355328 ∧ s.cs.length ≤ 140737488355328 ∧ Near s.zs
def lenS (s : Stt) : Nat := s.ps.length + s.cs.length + (s.zs.length + (flat s).length)
theorem row_flat : ∀ (zs : List (List Int)) (r : Nat), r < zs.length → (zs.getD r []).length ≤ zs.flatten.length := by
  intro zs
  induction zs with
  | nil => intro r h; simp at h
  | cons l zs ih =>
    intro r h
    rw [List.flatten_cons, List.length_append]
    cases r with
    | zero => simp
    | succ r =>
      rw [List.getD_cons_succ]
      have := ih r (by simpa using h)
      omega
theorem small_of {s : Stt} (h : lenS s ≤ 2147483647) : Small s := by
  unfold lenS flat at h
  exact ⟨by omega, by omega, by omega, fun r hr => by have := row_flat s.zs r hr; omega⟩
set_option maxRecDepth 100000 in
set_option maxHeartbeats 2000000 in
theorem sizeState_ (v : Value) (s : Stt) (w : World) (hv : StL w v s) (hn : Far s) :
    Calls Tryz.prog 22 #[v] w fun e w' => e = .returned (.int .i64 ((s.ps.length : Int) + s.cs.length + (szF s.zs s.zs.length : Nat))) ∧ Up w w' := by
  obtain ⟨vp, vc, vz, rfl, h1, h2, h3⟩ := hv
  have hle := szF_le s.zs s.zs.length hn.2.2.2 (by have := hn.2.2.1; omega)
  have HC : Hid (∀ W, Up w W → Calls Tryz.prog 46 #[vz] W fun e w' => e = .returned (.int .i64 (szF s.zs s.zs.length : Nat)) ∧ w' = W) := fun W u => sizeRows_ vz s.zs W (h3.up u) hn.2.2
  have hn1 := hn.1
  have hn2 := hn.2.1
  obtain ⟨a1, k1, rfl, -, -⟩ := lc_at h1
  obtain ⟨a2, k2, rfl, -, -⟩ := lc_at h2
  obtain ⟨a3, k3, rfl, -, -⟩ := zl_at h3
  clear h1 h2 h3 hn
  unfold sv
  generalize szF s.zs s.zs.length = m at *
  generalize s.ps.length = np at *
  generalize s.cs.length = nc at *
  generalize s.zs.length = nz at *
  go_enter Tryz.func22, Tryz.ntmps22
  go_wp2_with fail
  go_quiet (exact Calls.quiet_of_same (HC.out _ (((Up.refl _).alloc _).drewN _)))
  go_wp2
  go_ret
  exact ⟨by go_num, ((Up.refl _).alloc _).drewN _⟩
set_option maxHeartbeats 1000000 in
theorem long1_ (n : Int) (w : World) : Calls Tryz.prog 14 #[.int .i64 n] w fun e w' => e = .returned (.bool (decide (2147483647 < n))) ∧ w' = w := by
  by_cases h : 2147483647 < n
  · go_enter Tryz.func14, Tryz.ntmps14
    go_wp2
    go_ret
    exact ⟨by simp [h], rfl⟩
  · go_enter Tryz.func14, Tryz.ntmps14
    go_wp2
    go_ret
    exact ⟨by simp [h], rfl⟩
end ST
end Go.Proofs.YtabflfcdndioiabGreatDoor
/-
  How many things: events; beyond; may.
-/
namespace Go.Proofs.YtabflfcdndioiabGreatDoor
open Go.RowKit
attribute [local go_sem ↓] Go.wp_at_zero Go.wp_at_succ

namespace DE
open Go.Proofs.YtabflfcdndioiabGreatDoor.ST
def ords (l : List Ev) : List (List Int) := l.map Ev.ord
def NearE (l : List Ev) : Prop := l.length ≤ 140737488355328 ∧ ∀ r, r < l.length → (l.getD r dE).ord.length ≤ 140737488355328
theorem ords_get {l : List Ev} {i : Nat} (hi : i < l.length) : (ords l).getD i [] = (l.getD i dE).ord := by
  unfold ords
  rw [List.getD_eq_getElem?_getD, List.getElem?_map, List.getElem?_eq_getElem hi, List.getD_eq_getElem?_getD, List.getElem?_eq_getElem hi]
  rfl
theorem NearE.near {l : List Ev} (h : NearE l) : Near (ords l) := ⟨by simpa [ords] using h.1, fun r hr => by
  have hr : r < l.length := by simpa [ords] using hr
  rw [ords_get hr]
  exact h.2 r hr⟩
set_option maxRecDepth 100000 in
set_option maxHeartbeats 2000000 in
theorem sizeEvents_ (v : Value) (l : List Ev) (w : World) (hv : EVS w v l) (hn : NearE l) :
    Calls Tryz.prog 23 #[v] w fun e w' => e = .returned (.int .i64 (szF (ords l) l.length : Nat)) ∧ w' = w := by
  obtain ⟨a3, k3, rfl, -, c3⟩ := evs_at hv
  obtain ⟨hn1, hl⟩ := hn
  obtain ⟨n, hn0⟩ : ∃ n, n = l.length := ⟨_, rfl⟩
  obtain ⟨R, hR⟩ : ∃ R, R = szF (ords l) l.length := ⟨_, rfl⟩
  have HR : Hid (R = szF ((ords l).drop 0) n) := by unfold Hid; rw [hR, hn0]; rfl
  rw [← hR]
  rw [← hn0] at hn1 hl c3 ⊢
  have HC : Hid _ := c3
  have HL : Hid _ := hl
  have HN : Hid (n = l.length) := hn0
  clear hv c3 hl hn0 hR
  go_enter Tryz.func23, Tryz.ntmps23
  go_wp2_with fail
  go_loopw [3, 4] (fun s3 s4 W => ∃ i m : Nat, i ≤ n ∧ s4 = .int .i64 i ∧ s3 = .int .i64 m ∧ W = w ∧ R = szF ((ords l).drop i) m) (fun _ s4 _ => n - (intOf s4).toNat)
  case atStart => exact ⟨0, n, Nat.zero_le _, rfl, rfl, rfl, HR.out⟩
  case round =>
    obtain ⟨i, m, hi, rfl, rfl, rfl, hr⟩ := hrel
    clear HR
    have HR : Hid (R = szF ((ords l).drop i) m) := hr
    clear hr
    have HLn : Hid ((ords l).length = n) := by unfold Hid ords; rw [List.length_map, ← HN.out]
    by_cases hlt : i < n
    · have hlt2 : (i : Int) < (n : Int) := by omega
      by_cases hb : m ≤ 2147483647
      · have hb2 : (m : Int) ≤ 2147483647 := by omega
        obtain ⟨b3, o3, rfl, -, hrow⟩ := HC.out (by omega)
        obtain ⟨ra, rc, hcell, -⟩ := hrow i hlt
        obtain ⟨-, -, -, -, -, -, -, -, -, -, -, x1⟩ := hcell _ (Up.refl _)
        have hlen := HL.out i hlt
        have HF : Hid (R = szF ((ords l).drop (i + 1)) (m + (l.getD i dE).ord.length)) := by
          unfold Hid
          have hz : i < (ords l).length := by rw [HLn.out]; exact hlt
          rw [HR.out, List.drop_eq_getElem_cons hz, szF, if_pos hb, ← ords_get (by rw [← HN.out]; exact hlt), List.getD_eq_getElem?_getD, List.getElem?_eq_getElem hz]
          rfl
        clear hcell hrow HR HLn
        generalize (l.getD i dE).ord.length = q at x1 hlen HF
        go_wp2_with fail
        go_roundw
        case rel => exact ⟨i + 1, m + q, by omega, by go_num, by go_num, by first | rfl | trivial, HF.out⟩
        case measure => simp [intOf]; omega
      · have hb2 : ¬ (m : Int) ≤ 2147483647 := by omega
        have HF : Hid (R = m) := by
          unfold Hid
          have hz : i < (ords l).length := by rw [HLn.out]; exact hlt
          rw [HR.out, List.drop_eq_getElem_cons hz, szF, if_neg hb]
        clear HR HLn
        go_wp2
        go_ret
        exact ⟨by rw [HF.out]; rfl, rfl⟩
    · have hlt2 : ¬ (i : Int) < (n : Int) := by omega
      have HF : Hid (R = m) := by
        unfold Hid
        rw [HR.out, List.drop_of_length_le (by rw [HLn.out]; omega)]
        rfl
      clear HR HLn
      go_wp2
      go_ret
      exact ⟨by rw [HF.out]; rfl, rfl⟩
def lenE (l : List Ev) : Nat := l.length + (ords l).flatten.length
set_option maxRecDepth 100000 in
set_option maxHeartbeats 2000000 in
theorem beyond_ (v vl : Value) (s : Stt) (l : List Ev) (w : World) (hv : StL w v s) (hn : Far s) (hl : EVS w vl l) (hm : NearE l) :
    Calls Tryz.prog 6 #[v, vl] w fun e w' => e = .returned (.bool (decide (2147483647 < lenS s + lenE l))) ∧ Up w w' := by
  have HC : Hid (∀ W, Up w W → _) := fun W u => sizeState_ v s W (hv.up u) hn
  have HD : Hid (∀ W, Up w W → _) := fun W u => sizeEvents_ vl l W (hl.up u) hm
  have hle := szF_le s.zs s.zs.length hn.2.2.2 (by have := hn.2.2.1; omega)
  have hle2 := szF_le (ords l) l.length hm.near.2 (by have := hm.1; omega)
  have hsz := szF_is s.zs s.zs.length
  have hsz2 := szF_is (ords l) l.length
  have hR : decide (2147483647 < lenS s + lenE l) = decide (2147483647 < (s.ps.length : Int) + s.cs.length + (szF s.zs s.zs.length : Nat) + (szF (ords l) l.length : Nat)) := by
    apply decide_eq_decide.2
    unfold lenS lenE flat
    omega
  rw [hR]
  have hb : (s.ps.length : Int) + s.cs.length + (szF s.zs s.zs.length : Nat) ≤ 1000000000000000 := by have := hn.1; have := hn.2.1; omega
  have hb0 : 0 ≤ (s.ps.length : Int) + s.cs.length + (szF s.zs s.zs.length : Nat) := by omega
  obtain ⟨la, lk, rfl, -, -⟩ := evs_at hl
  obtain ⟨vp, vc, vz, rfl, h1, h2, h3⟩ := hv
  obtain ⟨a1, k1, rfl, -, -⟩ := lc_at h1
  obtain ⟨a2, k2, rfl, -, -⟩ := lc_at h2
  obtain ⟨a3, k3, rfl, -, -⟩ := zl_at h3
  unfold sv at HC ⊢
  generalize (s.ps.length : Int) + s.cs.length + (szF s.zs s.zs.length : Nat) = m at *
  generalize szF (ords l) l.length = q at *
  clear hsz hsz2 hR hn hle hl hm h1 h2 h3
  go_enter Tryz.func6, Tryz.ntmps6
  go_wp2_with fail
  refine Calls.mono (HC.out _ ((Up.refl _).alloc _)) ?_
  rintro e w1 ⟨rfl, u1⟩
  have HU : Hid (Up w w1) := ((Up.refl w).alloc _).trans u1
  clear HC u1
  go_wp2_with fail
  refine Calls.mono (HD.out _ HU.out) ?_
  rintro e w2 ⟨rfl, rfl⟩
  clear HD
  go_wp2_with fail
  refine Calls.mono (long1_ _ _) ?_
  rintro e w2 ⟨rfl, rfl⟩
  go_wp2
  go_ret
  exact ⟨by go_num, HU.out⟩
set_option maxRecDepth 100000 in
set_option maxHeartbeats 2000000 in
theorem may_ (v : Value) (s : Stt) (w : World) (hs : StL w v s) (hsm : Small s) : Calls Tryz.prog 10 #[v] w fun r w' => r = .returned (.bool (decide (ff s = none))) ∧ Up w w' := by
  have HC : Hid (∀ W, Up w W → Calls Tryz.prog 9 #[v] W (CpPost W fun W' v' => SO W.heap.size W' v' s)) := fun W u => copyState_ v s W (hs.up u) hsm
  have HK : Hid (∀ W v', SO w.heap.size W v' s → Calls Tryz.prog 31 #[v'] W fun e w' => e = .returned (.tuple #[.int .i64 (if ff s = none then 0 else 10), .int .i64 ((ff s).getD 0 : Nat)]) ∧ Up W w') := fun W v' h => check_ v' s W (SO.sl h) hsm
  obtain ⟨vp, vc, vz, rfl, h1, h2, h3⟩ := hs
  obtain ⟨a1, k1, rfl, -, -⟩ := lc_at h1
  obtain ⟨a2, k2, rfl, -, -⟩ := lc_at h2
  obtain ⟨a3, k3, rfl, -, -⟩ := zl_at h3
  unfold sv at *
  clear h1 h2 h3 hsm
  by_cases hf : ff s = none
  · simp only [hf, if_true] at HK
    rw [decide_eq_true hf]
    clear hf
    go_enter Tryz.func10, Tryz.ntmps10
    go_wp2_with fail
    refine Calls.mono (HC.out _ ((Up.refl _).alloc _)) ?_
    rintro e w1 ⟨v', rfl, so, u1⟩
    have HU : Hid (Up w w1) := ((Up.refl w).alloc _).trans u1
    have HC2 : Hid _ := HK.out w1 v' (so.less (by simp))
    clear HC u1 so HK
    go_wp2_with fail
    refine Calls.mono HC2.out ?_
    rintro e w2 ⟨rfl, u2⟩
    have HU2 : Hid (Up w w2) := HU.out.trans u2
    clear u2
    go_wp2
    go_ret
    exact ⟨rfl, HU2.out⟩
  · simp only [hf, if_false] at HK
    rw [decide_eq_false hf]
    clear hf
    go_enter Tryz.func10, Tryz.ntmps10
    go_wp2_with fail
    refine Calls.mono (HC.out _ ((Up.refl _).alloc _)) ?_
    rintro e w1 ⟨v', rfl, so, u1⟩
    have HU : Hid (Up w w1) := ((Up.refl w).alloc _).trans u1
    have HC2 : Hid _ := HK.out w1 v' (so.less (by simp))
    clear HC u1 so HK
    go_wp2_with fail
    refine Calls.mono HC2.out ?_
    rintro e w2 ⟨rfl, u2⟩
    have HU2 : Hid (Up w w2) := HU.out.trans u2
    clear u2
    go_wp2
    go_ret
    exact ⟨rfl, HU2.out⟩
end DE
end Go.Proofs.YtabflfcdndioiabGreatDoor
/-
  EqState of any two states.
-/
namespace Go.Proofs.YtabflfcdndioiabGreatDoor
open Go.RowKit
attribute [local go_sem ↓] Go.wp_at_zero Go.wp_at_succ

namespace ST
theorem eqS_comm (a b : Stt) : eqS a b = eqS b a := by
  simp only [eqS, eq_comm]
set_option maxRecDepth 100000 in
set_option maxHeartbeats 4000000 in
theorem eqStateG_ (v u : Value) (a b : Stt) (w : World) (hv : StL w v a) (hu : StL w u b) (hsm : Small a) :
    Calls Tryz.prog 18 #[v, u] w fun e w' => e = .returned (.bool (eqS a b)) ∧ Up w w' := by
  by_cases he : eqS a b = true
  · rw [he]; exact eqState_ v u a b w hv hu hsm he
  · have he2 : eqS a b = false := by simpa using he
    rw [he2]
    simp only [eqS, Bool.and_eq_false_iff, decide_eq_false_iff_not] at he2
    obtain ⟨vp, vc, vz, rfl, h1, h2, h3⟩ := hv
    obtain ⟨up, uc, uz, rfl, g1, g2, g3⟩ := hu
    obtain ⟨pb, hpb⟩ : ∃ p, p = decide (a.ps = b.ps) := ⟨_, rfl⟩
    obtain ⟨cb, hcb⟩ : ∃ p, p = decide (a.cs = b.cs) := ⟨_, rfl⟩
    obtain ⟨zb, hzb⟩ : ∃ p, p = decide (a.zs = b.zs) := ⟨_, rfl⟩
    have HP : Hid (∀ W, Up w W → Calls Tryz.prog 39 #[vp, up] W fun e w' => e = .returned (.bool pb) ∧ ∃ m, w' = W.drewN m) := fun W k => by
      rw [hpb]; exact eqPlayers_ vp up a.ps b.ps W (h1.up k) (g1.up k) hsm.1
    have HC : Hid (∀ W, Up w W → Calls Tryz.prog 40 #[vc, uc] W fun e w' => e = .returned (.bool cb) ∧ ∃ m, w' = W.drewN m) := fun W k => by
      rw [hcb]; exact eqCards_ vc uc a.cs b.cs W (h2.up k) (g2.up k) hsm.2.1
    have HZ : Hid (∀ W, Up w W → Calls Tryz.prog 41 #[vz, uz] W fun e w' => e = .returned (.bool zb) ∧ ∃ m, w' = W.drewN m) := fun W k => by
      rw [hzb]; exact eqRows_ vz uz a.zs b.zs W (h3.up k) (g3.up k) hsm.2.2.1 hsm.2.2.2
    have HB : Hid (pb = false ∨ cb = false ∨ zb = false ∨ a.turn ≠ b.turn ∨ a.whose ≠ b.whose ∨ a.fin ≠ b.fin ∨ a.winner ≠ b.winner) := by
      unfold Hid
      rw [hpb, hcb, hzb]
      simp only [decide_eq_false_iff_not]
      rcases he2 with (((((h | h) | h) | h) | h) | h) | h <;> simp [h]
    obtain ⟨a1, k1, rfl, -, -⟩ := lc_at h1
    obtain ⟨a2, k2, rfl, -, -⟩ := lc_at h2
    obtain ⟨a3, k3, rfl, -, -⟩ := zl_at h3
    obtain ⟨b1, l1, rfl, -, -⟩ := lc_at g1
    obtain ⟨b2, l2, rfl, -, -⟩ := lc_at g2
    obtain ⟨b3, l3, rfl, -, -⟩ := zl_at g3
    unfold sv
    generalize a.turn = x1 at HB ⊢
    generalize b.turn = y1 at HB ⊢
    generalize a.whose = x2 at HB ⊢
    generalize b.whose = y2 at HB ⊢
    generalize a.fin = x3 at HB ⊢
    generalize b.fin = y3 at HB ⊢
    generalize a.winner = x4 at HB ⊢
    generalize b.winner = y4 at HB ⊢
    clear h1 h2 h3 g1 g2 g3 hsm he he2 hpb hcb hzb
    by_cases e1 : x1 = y1
    · subst e1
      by_cases e2 : x2 = y2
      · subst e2
        by_cases e3 : x3 = y3
        · subst e3
          by_cases e4 : x4 = y4
          · subst e4
            cases pb with
            | false =>
              clear HB HC HZ
              go_enter Tryz.func18, Tryz.ntmps18
              go_wp2_with fail
              refine Calls.mono (HP.out _ (((Up.refl _).alloc _).alloc _)) ?_
              rintro e w1 ⟨rfl, m1, rfl⟩
              go_wp2
              go_ret
              exact ⟨rfl, (((Up.refl _).alloc _).alloc _).drewN _⟩
            | true =>
              cases cb with
              | false =>
                clear HB HZ
                go_enter Tryz.func18, Tryz.ntmps18
                go_wp2_with fail
                refine Calls.mono (HP.out _ (((Up.refl _).alloc _).alloc _)) ?_
                rintro e w1 ⟨rfl, m1, rfl⟩
                go_wp2_with fail
                refine Calls.mono (HC.out _ ((((Up.refl _).alloc _).alloc _).drewN _)) ?_
                rintro e w2 ⟨rfl, m2, rfl⟩
                go_wp2
                go_ret
                exact ⟨rfl, by first | exact (((Up.refl _).alloc _).alloc _).drewN _ | exact ((((Up.refl _).alloc _).alloc _).drewN _).drewN _⟩
              | true =>
                have hz : zb = false := by simpa using HB.out
                subst hz
                clear HB
                go_enter Tryz.func18, Tryz.ntmps18
                go_wp2_with fail
                refine Calls.mono (HP.out _ (((Up.refl _).alloc _).alloc _)) ?_
                rintro e w1 ⟨rfl, m1, rfl⟩
                go_wp2_with fail
                refine Calls.mono (HC.out _ ((((Up.refl _).alloc _).alloc _).drewN _)) ?_
                rintro e w2 ⟨rfl, m2, rfl⟩
                go_wp2_with fail
                refine Calls.mono (HZ.out _ (by first | exact (((Up.refl _).alloc _).alloc _).drewN _ | exact ((((Up.refl _).alloc _).alloc _).drewN _).drewN _)) ?_
                rintro e w3 ⟨rfl, m3, rfl⟩
                go_wp2
                go_ret
                exact ⟨rfl, by first | exact (((Up.refl _).alloc _).alloc _).drewN _ | exact ((((Up.refl _).alloc _).alloc _).drewN _).drewN _⟩
          · have e9 : (x4 == y4) = false := beq_eq_false_iff_ne.2 e4
            clear HB HP HC HZ
            go_enter Tryz.func18, Tryz.ntmps18
            go_wp2
            go_ret
            exact ⟨rfl, ((Up.refl _).alloc _).alloc _⟩
        · have e9 : (x3 == y3) = false := beq_eq_false_iff_ne.2 e3
          clear HB HP HC HZ
          go_enter Tryz.func18, Tryz.ntmps18
          go_wp2
          go_ret
          exact ⟨rfl, ((Up.refl _).alloc _).alloc _⟩
      · have e9 : (x2 == y2) = false := beq_eq_false_iff_ne.2 e2
        clear HB HP HC HZ
        go_enter Tryz.func18, Tryz.ntmps18
        go_wp2
        go_ret
        exact ⟨rfl, ((Up.refl _).alloc _).alloc _⟩
    · have e9 : (x1 == y1) = false := beq_eq_false_iff_ne.2 e1
      clear HB HP HC HZ
      go_enter Tryz.func18, Tryz.ntmps18
      go_wp2
      go_ret
      exact ⟨rfl, ((Up.refl _).alloc _).alloc _⟩
end ST
end Go.Proofs.YtabflfcdndioiabGreatDoor
