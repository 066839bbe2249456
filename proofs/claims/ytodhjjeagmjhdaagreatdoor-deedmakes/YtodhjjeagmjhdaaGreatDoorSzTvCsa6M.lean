/- Sz, Ze6, Ft6, Rl6, Csa6 -/
import Derived.Test.YtodhjjeagmjhdaaGreatDoorWhTvDeM
import Derived.Test.YtodhjjeagmjhdaaGreatDoorEl6TvDw6M
import Derived.Test.YtodhjjeagmjhdaaGreatDoorSu6TvAt6M
import Derived.Test.YtodhjjeagmjhdaaGreatDoorLv6VM
import Derived.Test.YtodhjjeagmjhdaaGreatDoorEe6VM
import Derived.Test.YtodhjjeagmjhdaaGreatDoorFf6TvDbM
import Derived.Test.YtodhjjeagmjhdaaGreatDoorDn6VM
import Derived.Test.YtodhjjeagmjhdaaGreatDoorDcTvSh6M
import Derived.Test.YtodhjjeagmjhdaaGreatDoorWsTvEvM
namespace Go.Proofs.YtodhjjeagmjhdaaGreatDoor
open Go.RowKit
attribute [local go_sem ↓] Go.wp_at_zero Go.wp_at_succ
namespace ST
def szF : List (List Int) -> Nat -> Nat
 | [], n => n
 | l :: zs, n => if n <= 2147483647 then szF zs (n + l.length) else n
theorem szF_is : ∀ (zs : List (List Int)) (n : Nat), szF zs n = n + zs.flatten.length ∨ 2147483647 < szF zs n /\ szF zs n <= n + zs.flatten.length := by
 intro zs
 induction zs with
 | nil => intro n; left; simp [szF]
 | cons l zs ih =>
  intro n
  simp only [szF, List.flatten_cons, List.length_append]
  split
  ·rcases ih (n + l.length) with h | h
   ·left; omega
   ·right; omega
  ·right; omega
def Near (zs : List (List Int)) : Prop := zs.length <= 140737488355328 /\ ∀ r, r < zs.length -> (zs.getD r []).length <= 140737488355328
theorem szF_le : ∀ (zs : List (List Int)) (n : Nat), (∀ r, r < zs.length -> (zs.getD r []).length <= 140737488355328) -> n <= 281474976710656 -> szF zs n <= 281474976710656 := by
 intro zs
 induction zs with
 | nil => intro n _ h; exact h
 | cons l zs ih =>
  intro n h hn
  simp only [szF]
  split
  ·have := h 0 (by simp)
   simp at this
   exact ih _ (fun r hr => by have := h (r + 1) (by simpa using hr); simpa using this) (by omega)
  ·exact hn
set_option maxRecDepth 100000 in
set_option maxHeartbeats 2000000 in
theorem sizeRows_ (v : Value) (zs : List (List Int)) (w : World) (hv : ZL w v zs) (hn : Near zs) :
  Calls Tryz.prog 97 #[v] w fun e w' => e = .returned (.int .i64 (szF zs zs.length : Nat)) /\ w' = w := by
 obtain ⟨a3, k3, rfl, -, c3⟩ := zl_at hv
 obtain ⟨hn1, hl⟩ := hn
 obtain ⟨n, hn0⟩ : ∃ n, n = zs.length := ⟨_, rfl⟩
 obtain ⟨R, hR⟩ : ∃ R, R = szF zs zs.length := ⟨_, rfl⟩
 have HR : Hid (R = szF (zs.drop 0) n) := by unfold Hid; rw [hR, hn0]; rfl
 rw [<- hR]
 rw [<- hn0] at hn1 hl c3 ⊢
 have HC : Hid _ := c3
 have HL : Hid _ := hl
 have HN : Hid (n = zs.length) := hn0
 clear hv c3 hl hn0 hR
 go_enter Tryz.func97, Tryz.ntmps97
 go_wp2_with fail
 go_loopw [3, 4] (fun s3 s4 W => ∃ i m : Nat, i <= n /\ s4 = .int .i64 i /\ s3 = .int .i64 m /\ W = w /\ R = szF (zs.drop i) m) (fun _ s4 _ => n - (intOf s4).toNat)
 case atStart => exact ⟨0, n, Nat.zero_le _, rfl, rfl, rfl, HR.out⟩
 case round =>
  obtain ⟨i, m, hi, rfl, rfl, rfl, hr⟩ := hrel
  clear HR
  have HR : Hid (R = szF (zs.drop i) m) := hr
  clear hr
  by_cases hlt : i < n
  ·have hlt2 : (i : Int) < (n : Int) := by omega
   by_cases hb : m <= 2147483647
   ·have hb2 : (m : Int) <= 2147483647 := by omega
    obtain ⟨b3, o3, rfl, hrow⟩ := HC.out (by omega)
    obtain ⟨ra, rc, hcell, -⟩ := hrow i hlt
    have x1 := hcell _ (Up.refl _)
    have hlen := HL.out i hlt
    have HF : Hid (R = szF (zs.drop (i + 1)) (m + (zs.getD i []).length)) := by
     unfold Hid
     have hz : i < zs.length := by rw [<- HN.out]; exact hlt
     rw [HR.out, List.drop_eq_getElem_cons hz, szF, if_pos hb, List.getD_eq_getElem?_getD, List.getElem?_eq_getElem hz]
     rfl
    clear hcell hrow HR
    generalize (zs.getD i []).length = q at x1 hlen HF
    go_wp2_with fail
    go_roundw
    case rel => exact ⟨i + 1, m + q, by omega, by go_num, by go_num, by first | rfl | trivial, HF.out⟩
    case measure => simp [intOf]; omega
   ·have hb2 : ¬ (m : Int) <= 2147483647 := by omega
    have HF : Hid (R = m) := by
     unfold Hid
     have hz : i < zs.length := by rw [<- HN.out]; exact hlt
     rw [HR.out, List.drop_eq_getElem_cons hz, szF, if_neg hb]
    clear HR
    go_wp2
    go_ret
    exact ⟨by rw [HF.out]; rfl, rfl⟩
  ·have hlt2 : ¬ (i : Int) < (n : Int) := by omega
   have HF : Hid (R = m) := by
    unfold Hid
    rw [HR.out, List.drop_of_length_le (by rw [<- HN.out]; omega)]
    rfl
   clear HR
   go_wp2
   go_ret
   exact ⟨by rw [HF.out]; rfl, rfl⟩
def Far (s : Stt) : Prop := s.ps.length <= 140737488355328 /\ s.cs.length <= 140737488355328 /\ Near s.zs
def lenS (s : Stt) : Nat := s.ps.length + s.cs.length + (s.zs.length + (flat s).length)
theorem row_flat : ∀ (zs : List (List Int)) (r : Nat), r < zs.length -> (zs.getD r []).length <= zs.flatten.length := by
 intro zs
 induction zs with
 | nil => intro r h; simp at h
 | cons l zs ih =>
  intro r h
  rw [List.flatten_cons, List.length_append]
  cases r with
  | zero => simp
  | succ r =>
   rw [List.getD_cons_succ]
   have := ih r (by simpa using h)
   omega
theorem small_of {s : Stt} (h : lenS s <= 2147483647) : Small s := by
 unfold lenS flat at h
 exact ⟨by omega, by omega, by omega, fun r hr => by have := row_flat s.zs r hr; omega⟩
set_option maxRecDepth 100000 in
set_option maxHeartbeats 2000000 in
theorem sizeState_ (v : Value) (s : Stt) (w : World) (hv : StL w v s) (hn : Far s) :
  Calls Tryz.prog 39 #[v] w fun e w' => e = .returned (.int .i64 ((s.ps.length : Int) + s.cs.length + (szF s.zs s.zs.length : Nat))) /\ Up w w' := by
 obtain ⟨vp, vc, vz, rfl, h1, h2, h3⟩ := hv
 have hle := szF_le s.zs s.zs.length hn.2.2.2 (by have := hn.2.2.1; omega)
 have HC : Hid (∀ W, Up w W -> Calls Tryz.prog 97 #[vz] W fun e w' => e = .returned (.int .i64 (szF s.zs s.zs.length : Nat)) /\ w' = W) := fun W u => sizeRows_ vz s.zs W (h3.up u) hn.2.2
 have hn1 := hn.1
 have hn2 := hn.2.1
 obtain ⟨a1, k1, rfl, -, -⟩ := lc_at h1
 obtain ⟨a2, k2, rfl, -, -⟩ := lc_at h2
 obtain ⟨a3, k3, rfl, -, -⟩ := zl_at h3
 clear h1 h2 h3 hn
 unfold sv
 generalize szF s.zs s.zs.length = m at *
 generalize s.ps.length = np at *
 generalize s.cs.length = nc at *
 generalize s.zs.length = nz at *
 go_enter Tryz.func39, Tryz.ntmps39
 go_wp2_with fail
 go_quiet (exact Calls.quiet_of_same (HC.out _ (((Up.refl _).alloc _).drewN _)))
 go_wp2
 go_ret
 exact ⟨by go_num, ((Up.refl _).alloc _).drewN _⟩
set_option maxHeartbeats 1000000 in
theorem long1_ (n : Int) (w : World) : Calls Tryz.prog 36 #[.int .i64 n] w fun e w' => e = .returned (.bool (decide (2147483647 < n))) /\ w' = w := by
 by_cases h : 2147483647 < n
 ·go_enter Tryz.func36, Tryz.ntmps36
  go_wp2
  go_ret
  exact ⟨by simp [h], rfl⟩
 ·go_enter Tryz.func36, Tryz.ntmps36
  go_wp2
  go_ret
  exact ⟨by simp [h], rfl⟩
end ST
end Go.Proofs.YtodhjjeagmjhdaaGreatDoor
namespace Go.Proofs.YtodhjjeagmjhdaaGreatDoor
open Go.RowKit
attribute [local go_sem ↓] Go.wp_at_zero Go.wp_at_succ
namespace DE
open Go.Proofs.YtodhjjeagmjhdaaGreatDoor.ST
def ords (l : List Ev) : List (List Int) := l.map Ev.ord
def NearE (l : List Ev) : Prop := l.length <= 140737488355328 /\ ∀ r, r < l.length -> (l.getD r dE).ord.length <= 140737488355328
theorem ords_get {l : List Ev} {i : Nat} (hi : i < l.length) : (ords l).getD i [] = (l.getD i dE).ord := by
 unfold ords
 rw [List.getD_eq_getElem?_getD, List.getElem?_map, List.getElem?_eq_getElem hi, List.getD_eq_getElem?_getD, List.getElem?_eq_getElem hi]
 rfl
theorem NearE.near {l : List Ev} (h : NearE l) : Near (ords l) := ⟨by simpa [ords] using h.1, fun r hr => by
 have hr : r < l.length := by simpa [ords] using hr
 rw [ords_get hr]
 exact h.2 r hr⟩
set_option maxRecDepth 100000 in
set_option maxHeartbeats 2000000 in
theorem sizeEvents_ (v : Value) (l : List Ev) (w : World) (hv : EVS w v l) (hn : NearE l) :
  Calls Tryz.prog 40 #[v] w fun e w' => e = .returned (.int .i64 (szF (ords l) l.length : Nat)) /\ w' = w := by
 obtain ⟨a3, k3, rfl, -, c3⟩ := evs_at hv
 obtain ⟨hn1, hl⟩ := hn
 obtain ⟨n, hn0⟩ : ∃ n, n = l.length := ⟨_, rfl⟩
 obtain ⟨R, hR⟩ : ∃ R, R = szF (ords l) l.length := ⟨_, rfl⟩
 have HR : Hid (R = szF ((ords l).drop 0) n) := by unfold Hid; rw [hR, hn0]; rfl
 rw [<- hR]
 rw [<- hn0] at hn1 hl c3 ⊢
 have HC : Hid _ := c3
 have HL : Hid _ := hl
 have HN : Hid (n = l.length) := hn0
 clear hv c3 hl hn0 hR
 go_enter Tryz.func40, Tryz.ntmps40
 go_wp2_with fail
 go_loopw [3, 4] (fun s3 s4 W => ∃ i m : Nat, i <= n /\ s4 = .int .i64 i /\ s3 = .int .i64 m /\ W = w /\ R = szF ((ords l).drop i) m) (fun _ s4 _ => n - (intOf s4).toNat)
 case atStart => exact ⟨0, n, Nat.zero_le _, rfl, rfl, rfl, HR.out⟩
 case round =>
  obtain ⟨i, m, hi, rfl, rfl, rfl, hr⟩ := hrel
  clear HR
  have HR : Hid (R = szF ((ords l).drop i) m) := hr
  clear hr
  have HLn : Hid ((ords l).length = n) := by unfold Hid ords; rw [List.length_map, <- HN.out]
  by_cases hlt : i < n
  ·have hlt2 : (i : Int) < (n : Int) := by omega
   by_cases hb : m <= 2147483647
   ·have hb2 : (m : Int) <= 2147483647 := by omega
    obtain ⟨b3, o3, rfl, -, hrow⟩ := HC.out (by omega)
    obtain ⟨ra, rc, hcell, -⟩ := hrow i hlt
    obtain ⟨-, -, -, -, -, -, -, -, -, -, -, x1⟩ := hcell _ (Up.refl _)
    have hlen := HL.out i hlt
    have HF : Hid (R = szF ((ords l).drop (i + 1)) (m + (l.getD i dE).ord.length)) := by
     unfold Hid
     have hz : i < (ords l).length := by rw [HLn.out]; exact hlt
     rw [HR.out, List.drop_eq_getElem_cons hz, szF, if_pos hb, <- ords_get (by rw [<- HN.out]; exact hlt), List.getD_eq_getElem?_getD, List.getElem?_eq_getElem hz]
     rfl
    clear hcell hrow HR HLn
    generalize (l.getD i dE).ord.length = q at x1 hlen HF
    go_wp2_with fail
    go_roundw
    case rel => exact ⟨i + 1, m + q, by omega, by go_num, by go_num, by first | rfl | trivial, HF.out⟩
    case measure => simp [intOf]; omega
   ·have hb2 : ¬ (m : Int) <= 2147483647 := by omega
    have HF : Hid (R = m) := by
     unfold Hid
     have hz : i < (ords l).length := by rw [HLn.out]; exact hlt
     rw [HR.out, List.drop_eq_getElem_cons hz, szF, if_neg hb]
    clear HR HLn
    go_wp2
    go_ret
    exact ⟨by rw [HF.out]; rfl, rfl⟩
  ·have hlt2 : ¬ (i : Int) < (n : Int) := by omega
   have HF : Hid (R = m) := by
    unfold Hid
    rw [HR.out, List.drop_of_length_le (by rw [HLn.out]; omega)]
    rfl
   clear HR HLn
   go_wp2
   go_ret
   exact ⟨by rw [HF.out]; rfl, rfl⟩
def lenE (l : List Ev) : Nat := l.length + (ords l).flatten.length
set_option maxRecDepth 100000 in
set_option maxHeartbeats 2000000 in
theorem beyond_ (v vl : Value) (s : Stt) (l : List Ev) (w : World) (hv : StL w v s) (hn : Far s) (hl : EVS w vl l) (hm : NearE l) :
  Calls Tryz.prog 8 #[v, vl] w fun e w' => e = .returned (.bool (decide (2147483647 < lenS s + lenE l))) /\ Up w w' := by
 have HC : Hid (∀ W, Up w W -> _) := fun W u => sizeState_ v s W (hv.up u) hn
 have HD : Hid (∀ W, Up w W -> _) := fun W u => sizeEvents_ vl l W (hl.up u) hm
 have hle := szF_le s.zs s.zs.length hn.2.2.2 (by have := hn.2.2.1; omega)
 have hle2 := szF_le (ords l) l.length hm.near.2 (by have := hm.1; omega)
 have hsz := szF_is s.zs s.zs.length
 have hsz2 := szF_is (ords l) l.length
 have hR : decide (2147483647 < lenS s + lenE l) = decide (2147483647 < (s.ps.length : Int) + s.cs.length + (szF s.zs s.zs.length : Nat) + (szF (ords l) l.length : Nat)) := by
  apply decide_eq_decide.2
  unfold lenS lenE flat
  omega
 rw [hR]
 have hb : (s.ps.length : Int) + s.cs.length + (szF s.zs s.zs.length : Nat) <= 1000000000000000 := by have := hn.1; have := hn.2.1; omega
 have hb0 : 0 <= (s.ps.length : Int) + s.cs.length + (szF s.zs s.zs.length : Nat) := by omega
 obtain ⟨la, lk, rfl, -, -⟩ := evs_at hl
 obtain ⟨vp, vc, vz, rfl, h1, h2, h3⟩ := hv
 obtain ⟨a1, k1, rfl, -, -⟩ := lc_at h1
 obtain ⟨a2, k2, rfl, -, -⟩ := lc_at h2
 obtain ⟨a3, k3, rfl, -, -⟩ := zl_at h3
 unfold sv at HC ⊢
 generalize (s.ps.length : Int) + s.cs.length + (szF s.zs s.zs.length : Nat) = m at *
 generalize szF (ords l) l.length = q at *
 clear hsz hsz2 hR hn hle hl hm h1 h2 h3
 go_enter Tryz.func8, Tryz.ntmps8
 go_wp2_with fail
 refine Calls.mono (HC.out _ ((Up.refl _).alloc _)) ?_
 rintro e w1 ⟨rfl, u1⟩
 have HU : Hid (Up w w1) := ((Up.refl w).alloc _).trans u1
 clear HC u1
 go_wp2_with fail
 refine Calls.mono (HD.out _ HU.out) ?_
 rintro e w2 ⟨rfl, rfl⟩
 clear HD
 go_wp2_with fail
 refine Calls.mono (long1_ _ _) ?_
 rintro e w2 ⟨rfl, rfl⟩
 go_wp2
 go_ret
 exact ⟨by go_num, HU.out⟩
end DE
end Go.Proofs.YtodhjjeagmjhdaaGreatDoor
namespace Go.Proofs.YtodhjjeagmjhdaaGreatDoor
open Go.RowKit
attribute [local go_sem ↓] Go.wp_at_zero Go.wp_at_succ
namespace DE
open Go.Proofs.YtodhjjeagmjhdaaGreatDoor.ST
theorem infoDo : (Tryz.prog.info? 73).map (·.size) = some 7 := by kernel_rfl
def oEv (l : List Int) : Ev := ⟨0, 0, 0, 0, 0, 0, 0, 0, 0, 0, 0, l⟩
theorem doc_set {W : World} {a : Nat} {d : DoT} {vo vn : Value} {t : TypeId} (h : W.heap[a]? = some (.cells (doc d vo) t (0, 0))) : (W.setCell ⟨a, 6, none⟩ vn).heap[a]? = some (.cells (doc d vn) t (0, 0)) := by
 rw [set_cells h]
 rfl
end DE
end Go.Proofs.YtodhjjeagmjhdaaGreatDoor
namespace Go.Proofs.YtodhjjeagmjhdaaGreatDoor
open Go.RowKit
attribute [local go_sem ↓] Go.wp_at_zero Go.wp_at_succ
namespace DE
open Go.Proofs.YtodhjjeagmjhdaaGreatDoor.ST
set_option maxHeartbeats 1000000 in
theorem ris_ (k : Int) (m : Nat) (w : World) : Calls Tryz.prog 103 #[.int .i64 k, .int .i64 m] w fun e w' => e = .returned (.bool (numB k m)) /\ w' = w := by
 unfold numB
 by_cases h0 : 0 <= k
 ·have e0 : decide (0 <= k) = true := decide_eq_true h0
  go_enter Tryz.func103, Tryz.ntmps103
  go_wp2
  go_ret
  exact ⟨by simp [h0], rfl⟩
 ·have e0 : decide (0 <= k) = false := decide_eq_false h0
  go_enter Tryz.func103, Tryz.ntmps103
  go_wp2
  go_ret
  exact ⟨by simp, rfl⟩
set_option maxRecDepth 100000 in
set_option maxHeartbeats 2000000 in
theorem rrises_ (v : Value) (l : List Int) (w : World) (hv : IL w v l) (hn : l.length <= 140737488355328) : Calls Tryz.prog 173 #[v] w fun r w' => r = .returned (.bool (risesB l)) /\ Up w w' := by
 obtain ⟨a, c, rfl, hc, hcl⟩ := il_at hv
 obtain ⟨n, hn0⟩ : ∃ n, n = l.length := ⟨_, rfl⟩
 have HN : Hid (n = l.length) := hn0
 have HC : Hid _ := hcl
 obtain ⟨R, hR⟩ : ∃ R, R = risesB l := ⟨_, rfl⟩
 have HR : Hid (R = risesB l) := hR
 rw [<- hR]
 rw [<- hn0] at hn hc HC ⊢
 clear hv hcl hn0 hR
 go_enter Tryz.func173, Tryz.ntmps173
 go_wp2_with fail
 go_loopw [3] (fun s3 W => ∃ i : Nat, i <= n /\ s3 = .int .i64 i /\ W = w /\ ∀ j, j < i -> l.getD j 0 = (j : Int)) (fun s3 _ => n - (intOf s3).toNat)
 case atStart => exact ⟨0, Nat.zero_le _, rfl, rfl, fun j hj => absurd hj (Nat.not_lt_zero j)⟩
 case round =>
  obtain ⟨i, hi, rfl, rfl, hall⟩ := hrel
  have HA : Hid _ := hall
  clear hall
  by_cases hlt : i < n
  ·have hlt2 : (i : Int) < (n : Int) := by omega
   obtain ⟨b, off, rfl, hcc⟩ := HC.out (by omega)
   have x0 := hcc wr (Up.refl _) i hlt
   obtain ⟨y, hy⟩ : ∃ y, y = l.getD i 0 := ⟨_, rfl⟩
   rw [<- hy] at x0
   have HY : Hid (y = l.getD i 0) := hy
   clear hcc hy
   by_cases he : y = (i : Int)
   ·subst he
    go_wp2_with fail
    go_roundw
    case rel =>
     refine ⟨i + 1, by omega, by go_num, by trivial, fun j hj => ?_⟩
     by_cases e : j = i
     ·subst e; exact HY.out.symm
     ·exact HA.out j (by omega)
    case measure => simp [intOf]; omega
   ·have f0 : (y == (i : Int)) = false := beq_eq_false_iff_ne.2 he
    have hF : R = false := by
     rw [HR.out]
     cases hr : risesB l
     ·rfl
     ·exact absurd (HY.out.trans (rises_at.1 hr i (by rw [<- HN.out]; exact hlt))) he
    subst hF
    clear he
    go_wp2
    go_ret
    exact ⟨rfl, Up.refl _⟩
  ·have hlt2 : ¬ (i : Int) < (n : Int) := by omega
   have hT : R = true := by
    rw [HR.out, rises_at]
    intro j hj
    exact HA.out j (by have := HN.out; omega)
   subst hT
   go_wp2
   go_ret
   exact ⟨rfl, Up.refl _⟩
end DE
end Go.Proofs.YtodhjjeagmjhdaaGreatDoor
namespace Go.Proofs.YtodhjjeagmjhdaaGreatDoor
open Go.RowKit
attribute [local go_sem ↓] Go.wp_at_zero Go.wp_at_succ
namespace ST
theorem RA.push {i : Nat} {vs : List Value} {x : Value} (h : RA i vs) (hi : vs.length = i) (hx : ∀ p g, p < i -> (vs.getD p nl).ownBlock = some g -> x.ownBlock ≠ some g) : RA (i + 1) (vs ++ [x]) := by
 have e1 : (vs ++ [x]).getD i nl = x := by rw [List.getD_eq_getElem?_getD, List.getElem?_append_right (by omega), hi]; simp
 have e2 : ∀ p, p < i -> (vs ++ [x]).getD p nl = vs.getD p nl := fun p hp => by rw [List.getD_eq_getElem?_getD, List.getElem?_append_left (by omega), <- List.getD_eq_getElem?_getD]
 intro p q g hp hq hpq h1 h2
 by_cases ep : p = i
 ·subst ep
  rw [e1] at h1
  rw [e2 q (by omega)] at h2
  exact hx q g (by omega) h2 h1
 ·rw [e2 p (by omega)] at h1
  by_cases eq : q = i
  ·subst eq
   rw [e1] at h2
   exact hx p g (by omega) h1 h2
  ·rw [e2 q (by omega)] at h2
   exact h p q g (by omega) (by omega) hpq h1 h2
def ZOA (base : Nat) (W : World) (v : Value) (zs : List (List Int)) : Prop := ∃ vs, W.ownsRow base 28 1 v zs.length vs /\ (∀ i, i < zs.length -> IRow base W (vs.getD i nl) (zs.getD i [])) /\ RA zs.length vs
theorem ZOA.set {b k j : Nat} {W : World} {v u : Value} {zs : List (List Int)} (h : ZOA b W v zs) (hk : k < b) : ZOA b (W.setCell ⟨k, j, none⟩ u) v zs := by
 obtain ⟨vs, h1, h2, h3⟩ := h
 exact ⟨vs, row_set h1 hk, fun i hi => row_set (h2 i hi) hk, h3⟩
theorem ZOA.less {b b' : Nat} {W : World} {v : Value} {zs : List (List Int)} (h : ZOA b W v zs) (hb : b' <= b) : ZOA b' W v zs := by
 obtain ⟨vs, h1, h2, h3⟩ := h
 exact ⟨vs, own_less h1 hb, fun i hi => own_less (h2 i hi) hb, h3⟩
theorem SOA.set {b k j : Nat} {W : World} {v u : Value} {s : Stt} (h : SOA b W v s) (hk : k < b) : SOA b (W.setCell ⟨k, j, none⟩ u) v s := by
 obtain ⟨vp, vc, vz, hv, h1, h2, vs, h3, h4, h5⟩ := h
 exact ⟨vp, vc, vz, hv, row_set h1 hk, row_set h2 hk, vs, row_set h3 hk, fun i hi => row_set (h4 i hi) hk, h5⟩
end ST
end Go.Proofs.YtodhjjeagmjhdaaGreatDoor
