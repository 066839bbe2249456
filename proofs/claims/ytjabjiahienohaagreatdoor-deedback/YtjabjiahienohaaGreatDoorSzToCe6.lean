/-
  How much is handed in.
-/
import Derived.Test.YtjabjiahienohaaGreatDoorWhToCt
import Derived.Test.YtjabjiahienohaaGreatDoorDr6Q
import Derived.Test.YtjabjiahienohaaGreatDoorAs6ToAt6
import Derived.Test.YtjabjiahienohaaGreatDoorLv6Q
import Derived.Test.YtjabjiahienohaaGreatDoorEe6Q
import Derived.Test.YtjabjiahienohaaGreatDoorEl6ToKp6
namespace Go.Proofs.YtjabjiahienohaaGreatDoor
open Go.RowKit
attribute [local go_sem ↓] Go.wp_at_zero Go.wp_at_succ

namespace ST
def szF : List (List Int) → Nat → Nat
  | [], n => n
  | l :: zs, n => if n ≤ 2147483647 then szF zs (n + l.length) else n
theorem szF_is : ∀ (zs : List (List Int)) (n : Nat), szF zs n = n + zs.flatten.length ∨ 2147483647 < szF zs n ∧ szF zs n ≤ n + zs.flatten.length := by
  intro zs
  induction zs with
  | nil => intro n; left; simp [szF]
  | cons l zs ih =>
    intro n
    simp only [szF, List.flatten_cons, List.length_append]
    split
    · rcases ih (n + l.length) with h | h
      · left; omega
      · right; omega
    · right; omega
def Near (zs : List (List Int)) : Prop := zs.length ≤ 140737488355328 ∧ ∀ r, r < zs.length → (zs.getD r []).length ≤ 140737488355328
theorem szF_le : ∀ (zs : List (List Int)) (n : Nat), (∀ r, r < zs.length → (zs.getD r []).length ≤ 140737488355328) → n ≤ 281474976710656 → szF zs n ≤ 281474976710656 := by
  intro zs
  induction zs with
  | nil => intro n _ h; exact h
  | cons l zs ih =>
    intro n h hn
    simp only [szF]
    split
    · have := h 0 (by simp)
      simp at this
      exact ih _ (fun r hr => by have := h (r + 1) (by simpa using hr); simpa using this) (by omega)
    · exact hn
set_option maxRecDepth 100000 in
set_option maxHeartbeats 2000000 in
theorem sizeRows_ (v : Value) (zs : List (List Int)) (w : World) (hv : ZL w v zs) (hn : Near zs) :
    Calls Tryz.prog 107 #[v] w fun e w' => e = .returned (.int .i64 (szF zs zs.length : Nat)) ∧ w' = w := by
  obtain ⟨a3, k3, rfl, -, c3⟩ := zl_at hv
  obtain ⟨hn1, hl⟩ := hn
  obtain ⟨n, hn0⟩ : ∃ n, n = zs.length := ⟨_, rfl⟩
  obtain ⟨R, hR⟩ : ∃ R, R = szF zs zs.length := ⟨_, rfl⟩
  have HR : Hid (R = szF (zs.drop 0) n) := by unfold Hid; rw [hR, hn0]; rfl
  rw [← hR]
  rw [← hn0] at hn1 hl c3 ⊢
  have HC : Hid _ := c3
  have HL : Hid _ := hl
  have HN : Hid (n = zs.length) := hn0
  clear hv c3 hl hn0 hR
  go_enter Tryz.func107, Tryz.ntmps107
  go_wp2_with fail
  go_loopw [3, 4] (fun s3 s4 W => ∃ i m : Nat, i ≤ n ∧ s4 = .int .i64 i ∧ s3 = .int .i64 m ∧ W = w ∧ R = szF (zs.drop i) m) (fun _ s4 _ => n - (intOf s4).toNat)
  case atStart => exact ⟨0, n, Nat.zero_le _, rfl, rfl, rfl, HR.out⟩
  case round =>
    obtain ⟨i, m, hi, rfl, rfl, rfl, hr⟩ := hrel
    clear HR
    have HR : Hid (R = szF (zs.drop i) m) := hr
    clear hr
    by_cases hlt : i < n
    · have hlt2 : (i : Int) < (n : Int) := by omega
      by_cases hb : m ≤ 2147483647
      · have hb2 : (m : Int) ≤ 2147483647 := by omega
        obtain ⟨b3, o3, rfl, hrow⟩ := HC.out (by omega)
        obtain ⟨ra, rc, hcell, -⟩ := hrow i hlt
        have x1 := hcell _ (Up.refl _)
        have hlen := HL.out i hlt
        have HF : Hid (R = szF (zs.drop (i + 1)) (m + (zs.getD i []).length)) := by
          unfold Hid
          have hz : i < zs.length := by rw [← HN.out]; exact hlt
          rw [HR.out, List.drop_eq_getElem_cons hz, szF, if_pos hb, List.getD_eq_getElem?_getD, List.getElem?_eq_getElem hz]
          rfl
        clear hcell hrow HR
        generalize (zs.getD i []).length = q at x1 hlen HF
        go_wp2_with fail
        go_roundw
        case rel => exact ⟨i + 1, m + q, by omega, by go_num, by go_num, by first | rfl | trivial, HF.out⟩
        case measure => simp [intOf]; omega
      · have hb2 : ¬ (m : Int) ≤ 2147483647 := by omega
        have HF : Hid (R = m) := by
          unfold Hid
          have hz : i < zs.length := by rw [← HN.out]; exact hlt
          rw [HR.out, List.drop_eq_getElem_cons hz, szF, if_neg hb]
        clear HR
        go_wp2
        go_ret
        exact ⟨by rw [HF.out]; rfl, rfl⟩
    · have hlt2 : ¬ (i : Int) < (n : Int) := by omega
      have HF : Hid (R = m) := by
        unfold Hid
        rw [HR.out, List.drop_of_length_le (by rw [← HN.out]; omega)]
        rfl
      clear HR
      go_wp2
      go_ret
      exact ⟨by rw [HF.out]; rfl, rfl⟩
def Far (s : Stt) : Prop := s.ps.length ≤ 140737488355328 ∧ s.cs.length ≤ 140737488355328 ∧ Near s.zs
def lenS (s : Stt) : Nat := s.ps.length + s.cs.length + (s.zs.length + (flat s).length)
theorem row_flat : ∀ (zs : List (List Int)) (r : Nat), r < zs.length → (zs.getD r []).length ≤ zs.flatten.length := by
  intro zs
  induction zs with
  | nil => intro r h; simp at h
  | cons l zs ih =>
    intro r h
    rw [List.flatten_cons, List.length_append]
    cases r with
    | zero => simp
    | succ r =>
      rw [List.getD_cons_succ]
      have := ih r (by simpa using h)
      omega
theorem small_of {s : Stt} (h : lenS s ≤ 2147483647) : Small s := by
  unfold lenS flat at h
  exact ⟨by omega, by omega, by omega, fun r hr => by have := row_flat s.zs r hr; omega⟩
set_option maxRecDepth 100000 in
set_option maxHeartbeats 2000000 in
theorem sizeState_ (v : Value) (s : Stt) (w : World) (hv : StL w v s) (hn : Far s) :
    Calls Tryz.prog 46 #[v] w fun e w' => e = .returned (.int .i64 ((s.ps.length : Int) + s.cs.length + (szF s.zs s.zs.length : Nat))) ∧ Up w w' := by
  obtain ⟨vp, vc, vz, rfl, h1, h2, h3⟩ := hv
  have hle := szF_le s.zs s.zs.length hn.2.2.2 (by have := hn.2.2.1; omega)
  have HC : Hid (∀ W, Up w W → Calls Tryz.prog 107 #[vz] W fun e w' => e = .returned (.int .i64 (szF s.zs s.zs.length : Nat)) ∧ w' = W) := fun W u => sizeRows_ vz s.zs W (h3.up u) hn.2.2
  have hn1 := hn.1
  have hn2 := hn.2.1
  obtain ⟨a1, k1, rfl, -, -⟩ := lc_at h1
  obtain ⟨a2, k2, rfl, -, -⟩ := lc_at h2
  obtain ⟨a3, k3, rfl, -, -⟩ := zl_at h3
  clear h1 h2 h3 hn
  unfold sv
  generalize szF s.zs s.zs.length = m at *
  generalize s.ps.length = np at *
  generalize s.cs.length = nc at *
  generalize s.zs.length = nz at *
  go_enter Tryz.func46, Tryz.ntmps46
  go_wp2_with fail
  go_quiet (exact Calls.quiet_of_same (HC.out _ (((Up.refl _).alloc _).drewN _)))
  go_wp2
  go_ret
  exact ⟨by go_num, ((Up.refl _).alloc _).drewN _⟩
set_option maxHeartbeats 1000000 in
theorem long1_ (n : Int) (w : World) : Calls Tryz.prog 37 #[.int .i64 n] w fun e w' => e = .returned (.bool (decide (2147483647 < n))) ∧ w' = w := by
  by_cases h : 2147483647 < n
  · go_enter Tryz.func37, Tryz.ntmps37
    go_wp2
    go_ret
    exact ⟨by simp [h], rfl⟩
  · go_enter Tryz.func37, Tryz.ntmps37
    go_wp2
    go_ret
    exact ⟨by simp [h], rfl⟩
end ST
end Go.Proofs.YtjabjiahienohaaGreatDoor
/-
  How many things: events; beyond; may.
-/
namespace Go.Proofs.YtjabjiahienohaaGreatDoor
open Go.RowKit
attribute [local go_sem ↓] Go.wp_at_zero Go.wp_at_succ

namespace DE
open Go.Proofs.YtjabjiahienohaaGreatDoor.ST
def ords (l : List Ev) : List (List Int) := l.map Ev.ord
def NearE (l : List Ev) : Prop := l.length ≤ 140737488355328 ∧ ∀ r, r < l.length → (l.getD r dE).ord.length ≤ 140737488355328
theorem ords_get {l : List Ev} {i : Nat} (hi : i < l.length) : (ords l).getD i [] = (l.getD i dE).ord := by
  unfold ords
  rw [List.getD_eq_getElem?_getD, List.getElem?_map, List.getElem?_eq_getElem hi, List.getD_eq_getElem?_getD, List.getElem?_eq_getElem hi]
  rfl
theorem NearE.near {l : List Ev} (h : NearE l) : Near (ords l) := ⟨by simpa [ords] using h.1, fun r hr => by
  have hr : r < l.length := by simpa [ords] using hr
  rw [ords_get hr]
  exact h.2 r hr⟩
set_option maxRecDepth 100000 in
set_option maxHeartbeats 2000000 in
theorem sizeEvents_ (v : Value) (l : List Ev) (w : World) (hv : EVS w v l) (hn : NearE l) :
    Calls Tryz.prog 47 #[v] w fun e w' => e = .returned (.int .i64 (szF (ords l) l.length : Nat)) ∧ w' = w := by
  obtain ⟨a3, k3, rfl, -, c3⟩ := evs_at hv
  obtain ⟨hn1, hl⟩ := hn
  obtain ⟨n, hn0⟩ : ∃ n, n = l.length := ⟨_, rfl⟩
  obtain ⟨R, hR⟩ : ∃ R, R = szF (ords l) l.length := ⟨_, rfl⟩
  have HR : Hid (R = szF ((ords l).drop 0) n) := by unfold Hid; rw [hR, hn0]; rfl
  rw [← hR]
  rw [← hn0] at hn1 hl c3 ⊢
  have HC : Hid _ := c3
  have HL : Hid _ := hl
  have HN : Hid (n = l.length) := hn0
  clear hv c3 hl hn0 hR
  go_enter Tryz.func47, Tryz.ntmps47
  go_wp2_with fail
  go_loopw [3, 4] (fun s3 s4 W => ∃ i m : Nat, i ≤ n ∧ s4 = .int .i64 i ∧ s3 = .int .i64 m ∧ W = w ∧ R = szF ((ords l).drop i) m) (fun _ s4 _ => n - (intOf s4).toNat)
  case atStart => exact ⟨0, n, Nat.zero_le _, rfl, rfl, rfl, HR.out⟩
  case round =>
    obtain ⟨i, m, hi, rfl, rfl, rfl, hr⟩ := hrel
    clear HR
    have HR : Hid (R = szF ((ords l).drop i) m) := hr
    clear hr
    have HLn : Hid ((ords l).length = n) := by unfold Hid ords; rw [List.length_map, ← HN.out]
    by_cases hlt : i < n
    · have hlt2 : (i : Int) < (n : Int) := by omega
      by_cases hb : m ≤ 2147483647
      · have hb2 : (m : Int) ≤ 2147483647 := by omega
        obtain ⟨b3, o3, rfl, -, hrow⟩ := HC.out (by omega)
        obtain ⟨ra, rc, hcell, -⟩ := hrow i hlt
        obtain ⟨-, -, -, -, -, -, -, -, -, -, -, x1⟩ := hcell _ (Up.refl _)
        have hlen := HL.out i hlt
        have HF : Hid (R = szF ((ords l).drop (i + 1)) (m + (l.getD i dE).ord.length)) := by
          unfold Hid
          have hz : i < (ords l).length := by rw [HLn.out]; exact hlt
          rw [HR.out, List.drop_eq_getElem_cons hz, szF, if_pos hb, ← ords_get (by rw [← HN.out]; exact hlt), List.getD_eq_getElem?_getD, List.getElem?_eq_getElem hz]
          rfl
        clear hcell hrow HR HLn
        generalize (l.getD i dE).ord.length = q at x1 hlen HF
        go_wp2_with fail
        go_roundw
        case rel => exact ⟨i + 1, m + q, by omega, by go_num, by go_num, by first | rfl | trivial, HF.out⟩
        case measure => simp [intOf]; omega
      · have hb2 : ¬ (m : Int) ≤ 2147483647 := by omega
        have HF : Hid (R = m) := by
          unfold Hid
          have hz : i < (ords l).length := by rw [HLn.out]; exact hlt
          rw [HR.out, List.drop_eq_getElem_cons hz, szF, if_neg hb]
        clear HR HLn
        go_wp2
        go_ret
        exact ⟨by rw [HF.out]; rfl, rfl⟩
    · have hlt2 : ¬ (i : Int) < (n : Int) := by omega
      have HF : Hid (R = m) := by
        unfold Hid
        rw [HR.out, List.drop_of_length_le (by rw [HLn.out]; omega)]
        rfl
      clear HR HLn
      go_wp2
      go_ret
      exact ⟨by rw [HF.out]; rfl, rfl⟩
def lenE (l : List Ev) : Nat := l.length + (ords l).flatten.length
set_option maxRecDepth 100000 in
set_option maxHeartbeats 2000000 in
theorem beyond_ (v vl : Value) (s : Stt) (l : List Ev) (w : World) (hv : StL w v s) (hn : Far s) (hl : EVS w vl l) (hm : NearE l) :
    Calls Tryz.prog 9 #[v, vl] w fun e w' => e = .returned (.bool (decide (2147483647 < lenS s + lenE l))) ∧ Up w w' := by
  have HC : Hid (∀ W, Up w W → _) := fun W u => sizeState_ v s W (hv.up u) hn
  have HD : Hid (∀ W, Up w W → _) := fun W u => sizeEvents_ vl l W (hl.up u) hm
  have hle := szF_le s.zs s.zs.length hn.2.2.2 (by have := hn.2.2.1; omega)
  have hle2 := szF_le (ords l) l.length hm.near.2 (by have := hm.1; omega)
  have hsz := szF_is s.zs s.zs.length
  have hsz2 := szF_is (ords l) l.length
  have hR : decide (2147483647 < lenS s + lenE l) = decide (2147483647 < (s.ps.length : Int) + s.cs.length + (szF s.zs s.zs.length : Nat) + (szF (ords l) l.length : Nat)) := by
    apply decide_eq_decide.2
    unfold lenS lenE flat
    omega
  rw [hR]
  have hb : (s.ps.length : Int) + s.cs.length + (szF s.zs s.zs.length : Nat) ≤ 1000000000000000 := by have := hn.1; have := hn.2.1; omega
  have hb0 : 0 ≤ (s.ps.length : Int) + s.cs.length + (szF s.zs s.zs.length : Nat) := by omega
  obtain ⟨la, lk, rfl, -, -⟩ := evs_at hl
  obtain ⟨vp, vc, vz, rfl, h1, h2, h3⟩ := hv
  obtain ⟨a1, k1, rfl, -, -⟩ := lc_at h1
  obtain ⟨a2, k2, rfl, -, -⟩ := lc_at h2
  obtain ⟨a3, k3, rfl, -, -⟩ := zl_at h3
  unfold sv at HC ⊢
  generalize (s.ps.length : Int) + s.cs.length + (szF s.zs s.zs.length : Nat) = m at *
  generalize szF (ords l) l.length = q at *
  clear hsz hsz2 hR hn hle hl hm h1 h2 h3
  go_enter Tryz.func9, Tryz.ntmps9
  go_wp2_with fail
  refine Calls.mono (HC.out _ ((Up.refl _).alloc _)) ?_
  rintro e w1 ⟨rfl, u1⟩
  have HU : Hid (Up w w1) := ((Up.refl w).alloc _).trans u1
  clear HC u1
  go_wp2_with fail
  refine Calls.mono (HD.out _ HU.out) ?_
  rintro e w2 ⟨rfl, rfl⟩
  clear HD
  go_wp2_with fail
  refine Calls.mono (long1_ _ _) ?_
  rintro e w2 ⟨rfl, rfl⟩
  go_wp2
  go_ret
  exact ⟨by go_num, HU.out⟩
set_option maxRecDepth 100000 in
set_option maxHeartbeats 2000000 in
theorem may_ (v : Value) (s : Stt) (w : World) (hs : StL w v s) (hsm : Small s) : Calls Tryz.prog 40 #[v] w fun r w' => r = .returned (.bool (decide (ff s = none))) ∧ Up w w' := by
  have HC : Hid (∀ W, Up w W → Calls Tryz.prog 41 #[v] W (CpPost W fun W' v' => SO W.heap.size W' v' s)) := fun W u => copyState_ v s W (hs.up u) hsm
  have HK : Hid (∀ W v', SO w.heap.size W v' s → Calls Tryz.prog 103 #[v'] W fun e w' => e = .returned (.tuple #[.int .i64 (if ff s = none then 0 else 10), .int .i64 ((ff s).getD 0 : Nat)]) ∧ Up W w') := fun W v' h => check_ v' s W (SO.sl h) hsm
  obtain ⟨vp, vc, vz, rfl, h1, h2, h3⟩ := hs
  obtain ⟨a1, k1, rfl, -, -⟩ := lc_at h1
  obtain ⟨a2, k2, rfl, -, -⟩ := lc_at h2
  obtain ⟨a3, k3, rfl, -, -⟩ := zl_at h3
  unfold sv at *
  clear h1 h2 h3 hsm
  by_cases hf : ff s = none
  · simp only [hf, if_true] at HK
    rw [decide_eq_true hf]
    clear hf
    go_enter Tryz.func40, Tryz.ntmps40
    go_wp2_with fail
    refine Calls.mono (HC.out _ ((Up.refl _).alloc _)) ?_
    rintro e w1 ⟨v', rfl, so, u1⟩
    have HU : Hid (Up w w1) := ((Up.refl w).alloc _).trans u1
    have HC2 : Hid _ := HK.out w1 v' (so.less (by simp))
    clear HC u1 so HK
    go_wp2_with fail
    refine Calls.mono HC2.out ?_
    rintro e w2 ⟨rfl, u2⟩
    have HU2 : Hid (Up w w2) := HU.out.trans u2
    clear u2
    go_wp2
    go_ret
    exact ⟨rfl, HU2.out⟩
  · simp only [hf, if_false] at HK
    rw [decide_eq_false hf]
    clear hf
    go_enter Tryz.func40, Tryz.ntmps40
    go_wp2_with fail
    refine Calls.mono (HC.out _ ((Up.refl _).alloc _)) ?_
    rintro e w1 ⟨v', rfl, so, u1⟩
    have HU : Hid (Up w w1) := ((Up.refl w).alloc _).trans u1
    have HC2 : Hid _ := HK.out w1 v' (so.less (by simp))
    clear HC u1 so HK
    go_wp2_with fail
    refine Calls.mono HC2.out ?_
    rintro e w2 ⟨rfl, u2⟩
    have HU2 : Hid (Up w w2) := HU.out.trans u2
    clear u2
    go_wp2
    go_ret
    exact ⟨rfl, HU2.out⟩
end DE
end Go.Proofs.YtjabjiahienohaaGreatDoor
/-
  DeedFits: what a deed answers fits.
-/
namespace Go.Proofs.YtjabjiahienohaaGreatDoor
open Go.RowKit
attribute [local go_sem ↓] Go.wp_at_zero Go.wp_at_succ

namespace DE
open Go.Proofs.YtjabjiahienohaaGreatDoor.ST
theorem infoDo : (Tryz.prog.info? 73).map (·.size) = some 7 := by kernel_rfl
def oEv (l : List Int) : Ev := ⟨0, 0, 0, 0, 0, 0, 0, 0, 0, 0, 0, l⟩
theorem doc_set {W : World} {a : Nat} {d : DoT} {vo vn : Value} {t : TypeId} (h : W.heap[a]? = some (.cells (doc d vo) t (0, 0))) : (W.setCell ⟨a, 6, none⟩ vn).heap[a]? = some (.cells (doc d vn) t (0, 0)) := by
  rw [set_cells h]
  rfl
theorem doc_cells {W : World} {a : Nat} {d : DoT} {vo : Value} {t : TypeId} (h : W.heap[a]? = some (.cells (doc d vo) t (0, 0))) : ∀ j, W.cell? ⟨a, j, none⟩ = (doc d vo)[j]? := fun j => by simp [World.cell?, h]
end DE
end Go.Proofs.YtjabjiahienohaaGreatDoor
/-
  Lists of events of one's own: one more behind.
-/
namespace Go.Proofs.YtjabjiahienohaaGreatDoor
open Go.RowKit
attribute [local go_sem ↓] Go.wp_at_zero Go.wp_at_succ

namespace DE
open Go.Proofs.YtjabjiahienohaaGreatDoor.ST
/- a list of events in a row of its own, each order in a row of its own -/
def EVO (base : Nat) (W : World) (v : Value) (l : List Ev) : Prop := ∃ vs : List Value, vs.length = l.length ∧ W.ownsRow base 30 12 v l.length (evsC l vs) ∧ ∀ i, i < l.length → IRow base W (vs.getD i nl) (l.getD i dE).ord
theorem EVO.evs {base : Nat} {W : World} {v : Value} {l : List Ev} (h : EVO base W v l) : EVS W v l := by
  obtain ⟨vs, -, h1, h2⟩ := h
  exact ⟨vs, own_lc h1, fun i hi => (h2 i hi).il⟩
theorem EVO.nil (base : Nat) (W : World) : EVO base W (.slice none 0 0) [] := ⟨[], rfl, World.ownsRow_nil _ _ _ _, fun i hi => absurd hi (Nat.not_lt_zero i)⟩
theorem EVO.up {base : Nat} {W W' : World} {v : Value} {l : List Ev} (h : EVO base W v l) (u : Up W W') : EVO base W' v l := by
  obtain ⟨vs, h0, h1, h2⟩ := h
  exact ⟨vs, h0, row_up h1 u, fun i hi => row_up (h2 i hi) u⟩
theorem EVO.less {b b' : Nat} {W : World} {v : Value} {l : List Ev} (h : EVO b W v l) (hb : b' ≤ b) : EVO b' W v l := by
  obtain ⟨vs, h0, h1, h2⟩ := h
  exact ⟨vs, h0, own_less h1 hb, fun i hi => own_less (h2 i hi) hb⟩
theorem evsC_snoc (l : List Ev) (vs : List Value) (e : Ev) (x : Value) (h : vs.length = l.length) : evsC (l ++ [e]) (vs ++ [x]) = evsC l vs ++ (evc e x).toList := by
  have key : ∀ k, k ≤ l.length → (List.range k).flatMap (evC (l ++ [e]) (vs ++ [x])) = (List.range k).flatMap (evC l vs) := fun k hk => by
    induction k with
    | zero => rfl
    | succ k ih =>
      rw [List.range_succ, List.flatMap_append, List.flatMap_append, ih (by omega)]
      congr 1
      simp only [List.flatMap_cons, List.flatMap_nil, List.append_nil]
      unfold evC
      have e1 : (l ++ [e]).getD k dE = l.getD k dE := by rw [List.getD_eq_getElem?_getD, List.getElem?_append_left (by omega), ← List.getD_eq_getElem?_getD]
      have e2 : (vs ++ [x]).getD k nl = vs.getD k nl := by rw [List.getD_eq_getElem?_getD, List.getElem?_append_left (by omega), ← List.getD_eq_getElem?_getD]
      rw [e1, e2]
  unfold evsC
  rw [List.length_append, List.length_singleton, List.range_succ, List.flatMap_append, key _ (Nat.le_refl _)]
  congr 1
  simp only [List.flatMap_cons, List.flatMap_nil, List.append_nil]
  unfold evC
  have e1 : (l ++ [e]).getD l.length dE = e := by rw [List.getD_eq_getElem?_getD, List.getElem?_append_right (by omega)]; simp
  have e2 : (vs ++ [x]).getD l.length nl = x := by rw [List.getD_eq_getElem?_getD, List.getElem?_append_right (by omega), h]; simp
  rw [e1, e2]
theorem evsC_one' (l : List Ev) (vs : List Value) (h : ∀ i, i < l.length → (vs.getD i nl).oneCell' = true) : ∀ u ∈ evsC l vs, u.oneCell' = true := by
  intro u hu
  unfold evsC at hu
  rw [List.mem_flatMap] at hu
  obtain ⟨i, hi, hu⟩ := hu
  have hi2 : i < l.length := by simpa using hi
  unfold evC evc at hu
  simp only [List.mem_cons, List.not_mem_nil, or_false] at hu
  have := h i hi2
  rcases hu with rfl | rfl | rfl | rfl | rfl | rfl | rfl | rfl | rfl | rfl | rfl | rfl <;> first | rfl | exact this
theorem evo_more {base : Nat} {W W1 W2 : World} {v v' x : Value} {l : List Ev} {e : Ev} (h : EVO base W v l) (u : Up W W1) (hx : IRow base W1 x e.ord) (hlen : ∀ xs, W.ownsRow base 30 12 v l.length xs → W2.ownsRow base 30 12 v' (l.length + 1) (xs ++ (evc e x).toList)) (hg : W1.grownBy W2 v.ownBlock) : EVO base W2 v' (l ++ [e]) := by
  obtain ⟨vs, h0, h1, h2⟩ := h
  have k1 := row_up h1 u
  refine ⟨vs ++ [x], by simp [h0], ?_, fun j hj => ?_⟩
  · rw [evsC_snoc l vs e x h0, List.length_append, List.length_singleton]
    exact hlen _ h1
  · rw [List.length_append, List.length_singleton] at hj
    by_cases hji : j = l.length
    · subst hji
      have e1 : (l ++ [e]).getD l.length dE = e := by rw [List.getD_eq_getElem?_getD, List.getElem?_append_right (by omega)]; simp
      have e2 : (vs ++ [x]).getD l.length nl = x := by rw [List.getD_eq_getElem?_getD, List.getElem?_append_right (by omega), h0]; simp
      rw [e1, e2]
      exact World.ownsRow.kept hx hg (row_apart hx k1 (by decide))
    · have hj' : j < l.length := by omega
      have e1 : (l ++ [e]).getD j dE = l.getD j dE := by rw [List.getD_eq_getElem?_getD, List.getElem?_append_left (by omega), ← List.getD_eq_getElem?_getD]
      have e2 : (vs ++ [x]).getD j nl = vs.getD j nl := by rw [List.getD_eq_getElem?_getD, List.getElem?_append_left (by omega), ← List.getD_eq_getElem?_getD]
      rw [e1, e2]
      have := row_up (h2 j hj') u
      exact World.ownsRow.kept this hg (row_apart this k1 (by decide))
theorem take_more (l : List Ev) (i : Nat) (hi : i < l.length) : l.take (i + 1) = l.take i ++ [l.getD i dE] := by
  rw [List.take_add_one, List.getElem?_eq_getElem hi, List.getD_eq_getElem?_getD, List.getElem?_eq_getElem hi]
  rfl
end DE
end Go.Proofs.YtjabjiahienohaaGreatDoor
