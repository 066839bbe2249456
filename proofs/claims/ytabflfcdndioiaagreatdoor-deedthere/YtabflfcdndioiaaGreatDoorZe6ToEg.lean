/-
  How many things: events; beyond; may.
-/
import Derived.Test.YtabflfcdndioiaaGreatDoorDr6ToAp6
import Derived.Test.YtabflfcdndioiaaGreatDoorSzToRf
import Derived.Test.YtabflfcdndioiaaGreatDoorPt6ToPw6
namespace Go.Proofs.YtabflfcdndioiaaGreatDoor
open Go.RowKit
attribute [local go_sem ↓] Go.wp_at_zero Go.wp_at_succ

namespace DE
open Go.Proofs.YtabflfcdndioiaaGreatDoor.ST
def ords (l : List Ev) : List (List Int) := l.map Ev.ord
def NearE (l : List Ev) : Prop := l.length ≤ 140737488355328 ∧ ∀ r, r < l.length → (l.getD r dE).ord.length ≤ 140737488355328
theorem ords_get {l : List Ev} {i : Nat} (hi : i < l.length) : (ords l).getD i [] = (l.getD i dE).ord := by
  unfold ords
  rw [List.getD_eq_getElem?_getD, List.getElem?_map, List.getElem?_eq_getElem hi, List.getD_eq_getElem?_getD, List.getElem?_eq_getElem hi]
  rfl
theorem NearE.near {l : List Ev} (h : NearE l) : Near (ords l) := ⟨by simpa [ords] using h.1, fun r hr => by
  have hr : r < l.length := by simpa [ords] using hr
  rw [ords_get hr]
  exact h.2 r hr⟩
set_option maxRecDepth 100000 in
set_option maxHeartbeats 2000000 in
theorem sizeEvents_ (v : Value) (l : List Ev) (w : World) (hv : EVS w v l) (hn : NearE l) :
    Calls Tryz.prog 45 #[v] w fun e w' => e = .returned (.int .i64 (szF (ords l) l.length : Nat)) ∧ w' = w := by
  obtain ⟨a3, k3, rfl, -, c3⟩ := evs_at hv
  obtain ⟨hn1, hl⟩ := hn
  obtain ⟨n, hn0⟩ : ∃ n, n = l.length := ⟨_, rfl⟩
  obtain ⟨R, hR⟩ : ∃ R, R = szF (ords l) l.length := ⟨_, rfl⟩
  have HR : Hid (R = szF ((ords l).drop 0) n) := by unfold Hid; rw [hR, hn0]; rfl
  rw [← hR]
  rw [← hn0] at hn1 hl c3 ⊢
  have HC : Hid _ := c3
  have HL : Hid _ := hl
  have HN : Hid (n = l.length) := hn0
  clear hv c3 hl hn0 hR
  go_enter Tryz.func45, Tryz.ntmps45
  go_wp2_with fail
  go_loopw [3, 4] (fun s3 s4 W => ∃ i m : Nat, i ≤ n ∧ s4 = .int .i64 i ∧ s3 = .int .i64 m ∧ W = w ∧ R = szF ((ords l).drop i) m) (fun _ s4 _ => n - (intOf s4).toNat)
  case atStart => exact ⟨0, n, Nat.zero_le _, rfl, rfl, rfl, HR.out⟩
  case round =>
    obtain ⟨i, m, hi, rfl, rfl, rfl, hr⟩ := hrel
    clear HR
    have HR : Hid (R = szF ((ords l).drop i) m) := hr
    clear hr
    have HLn : Hid ((ords l).length = n) := by unfold Hid ords; rw [List.length_map, ← HN.out]
    by_cases hlt : i < n
    · have hlt2 : (i : Int) < (n : Int) := by omega
      by_cases hb : m ≤ 2147483647
      · have hb2 : (m : Int) ≤ 2147483647 := by omega
        obtain ⟨b3, o3, rfl, -, hrow⟩ := HC.out (by omega)
        obtain ⟨ra, rc, hcell, -⟩ := hrow i hlt
        obtain ⟨-, -, -, -, -, -, -, -, -, -, -, x1⟩ := hcell _ (Up.refl _)
        have hlen := HL.out i hlt
        have HF : Hid (R = szF ((ords l).drop (i + 1)) (m + (l.getD i dE).ord.length)) := by
          unfold Hid
          have hz : i < (ords l).length := by rw [HLn.out]; exact hlt
          rw [HR.out, List.drop_eq_getElem_cons hz, szF, if_pos hb, ← ords_get (by rw [← HN.out]; exact hlt), List.getD_eq_getElem?_getD, List.getElem?_eq_getElem hz]
          rfl
        clear hcell hrow HR HLn
        generalize (l.getD i dE).ord.length = q at x1 hlen HF
        go_wp2_with fail
        go_roundw
        case rel => exact ⟨i + 1, m + q, by omega, by go_num, by go_num, by first | rfl | trivial, HF.out⟩
        case measure => simp [intOf]; omega
      · have hb2 : ¬ (m : Int) ≤ 2147483647 := by omega
        have HF : Hid (R = m) := by
          unfold Hid
          have hz : i < (ords l).length := by rw [HLn.out]; exact hlt
          rw [HR.out, List.drop_eq_getElem_cons hz, szF, if_neg hb]
        clear HR HLn
        go_wp2
        go_ret
        exact ⟨by rw [HF.out]; rfl, rfl⟩
    · have hlt2 : ¬ (i : Int) < (n : Int) := by omega
      have HF : Hid (R = m) := by
        unfold Hid
        rw [HR.out, List.drop_of_length_le (by rw [HLn.out]; omega)]
        rfl
      clear HR HLn
      go_wp2
      go_ret
      exact ⟨by rw [HF.out]; rfl, rfl⟩
def lenE (l : List Ev) : Nat := l.length + (ords l).flatten.length
set_option maxRecDepth 100000 in
set_option maxHeartbeats 2000000 in
theorem beyond_ (v vl : Value) (s : Stt) (l : List Ev) (w : World) (hv : StL w v s) (hn : Far s) (hl : EVS w vl l) (hm : NearE l) :
    Calls Tryz.prog 9 #[v, vl] w fun e w' => e = .returned (.bool (decide (2147483647 < lenS s + lenE l))) ∧ Up w w' := by
  have HC : Hid (∀ W, Up w W → _) := fun W u => sizeState_ v s W (hv.up u) hn
  have HD : Hid (∀ W, Up w W → _) := fun W u => sizeEvents_ vl l W (hl.up u) hm
  have hle := szF_le s.zs s.zs.length hn.2.2.2 (by have := hn.2.2.1; omega)
  have hle2 := szF_le (ords l) l.length hm.near.2 (by have := hm.1; omega)
  have hsz := szF_is s.zs s.zs.length
  have hsz2 := szF_is (ords l) l.length
  have hR : decide (2147483647 < lenS s + lenE l) = decide (2147483647 < (s.ps.length : Int) + s.cs.length + (szF s.zs s.zs.length : Nat) + (szF (ords l) l.length : Nat)) := by
    apply decide_eq_decide.2
    unfold lenS lenE flat
    omega
  rw [hR]
  have hb : (s.ps.length : Int) + s.cs.length + (szF s.zs s.zs.length : Nat) ≤ 1000000000000000 := by have := hn.1; have := hn.2.1; omega
  have hb0 : 0 ≤ (s.ps.length : Int) + s.cs.length + (szF s.zs s.zs.length : Nat) := by omega
  obtain ⟨la, lk, rfl, -, -⟩ := evs_at hl
  obtain ⟨vp, vc, vz, rfl, h1, h2, h3⟩ := hv
  obtain ⟨a1, k1, rfl, -, -⟩ := lc_at h1
  obtain ⟨a2, k2, rfl, -, -⟩ := lc_at h2
  obtain ⟨a3, k3, rfl, -, -⟩ := zl_at h3
  unfold sv at HC ⊢
  generalize (s.ps.length : Int) + s.cs.length + (szF s.zs s.zs.length : Nat) = m at *
  generalize szF (ords l) l.length = q at *
  clear hsz hsz2 hR hn hle hl hm h1 h2 h3
  go_enter Tryz.func9, Tryz.ntmps9
  go_wp2_with fail
  refine Calls.mono (HC.out _ ((Up.refl _).alloc _)) ?_
  rintro e w1 ⟨rfl, u1⟩
  have HU : Hid (Up w w1) := ((Up.refl w).alloc _).trans u1
  clear HC u1
  go_wp2_with fail
  refine Calls.mono (HD.out _ HU.out) ?_
  rintro e w2 ⟨rfl, rfl⟩
  clear HD
  go_wp2_with fail
  refine Calls.mono (long1_ _ _) ?_
  rintro e w2 ⟨rfl, rfl⟩
  go_wp2
  go_ret
  exact ⟨by go_num, HU.out⟩
set_option maxRecDepth 100000 in
set_option maxHeartbeats 2000000 in
theorem may_ (v : Value) (s : Stt) (w : World) (hs : StL w v s) (hsm : Small s) : Calls Tryz.prog 42 #[v] w fun r w' => r = .returned (.bool (decide (ff s = none))) ∧ Up w w' := by
  have HC : Hid (∀ W, Up w W → Calls Tryz.prog 40 #[v] W (CpPost W fun W' v' => SO W.heap.size W' v' s)) := fun W u => copyState_ v s W (hs.up u) hsm
  have HK : Hid (∀ W v', SO w.heap.size W v' s → Calls Tryz.prog 105 #[v'] W fun e w' => e = .returned (.tuple #[.int .i64 (if ff s = none then 0 else 10), .int .i64 ((ff s).getD 0 : Nat)]) ∧ Up W w') := fun W v' h => check_ v' s W (SO.sl h) hsm
  obtain ⟨vp, vc, vz, rfl, h1, h2, h3⟩ := hs
  obtain ⟨a1, k1, rfl, -, -⟩ := lc_at h1
  obtain ⟨a2, k2, rfl, -, -⟩ := lc_at h2
  obtain ⟨a3, k3, rfl, -, -⟩ := zl_at h3
  unfold sv at *
  clear h1 h2 h3 hsm
  by_cases hf : ff s = none
  · simp only [hf, if_true] at HK
    rw [decide_eq_true hf]
    clear hf
    go_enter Tryz.func42, Tryz.ntmps42
    go_wp2_with fail
    refine Calls.mono (HC.out _ ((Up.refl _).alloc _)) ?_
    rintro e w1 ⟨v', rfl, so, u1⟩
    have HU : Hid (Up w w1) := ((Up.refl w).alloc _).trans u1
    have HC2 : Hid _ := HK.out w1 v' (so.less (by simp))
    clear HC u1 so HK
    go_wp2_with fail
    refine Calls.mono HC2.out ?_
    rintro e w2 ⟨rfl, u2⟩
    have HU2 : Hid (Up w w2) := HU.out.trans u2
    clear u2
    go_wp2
    go_ret
    exact ⟨rfl, HU2.out⟩
  · simp only [hf, if_false] at HK
    rw [decide_eq_false hf]
    clear hf
    go_enter Tryz.func42, Tryz.ntmps42
    go_wp2_with fail
    refine Calls.mono (HC.out _ ((Up.refl _).alloc _)) ?_
    rintro e w1 ⟨v', rfl, so, u1⟩
    have HU : Hid (Up w w1) := ((Up.refl w).alloc _).trans u1
    have HC2 : Hid _ := HK.out w1 v' (so.less (by simp))
    clear HC u1 so HK
    go_wp2_with fail
    refine Calls.mono HC2.out ?_
    rintro e w2 ⟨rfl, u2⟩
    have HU2 : Hid (Up w w2) := HU.out.trans u2
    clear u2
    go_wp2
    go_ret
    exact ⟨rfl, HU2.out⟩
end DE
end Go.Proofs.YtabflfcdndioiaaGreatDoor
/-
  What fits changes something: no program.
-/
namespace Go.Proofs.YtabflfcdndioiaaGreatDoor
open Go.RowKit

namespace DE
open Go.Proofs.YtabflfcdndioiaaGreatDoor.ST
theorem eqS_zs {a b : Stt} (h : a.zs ≠ b.zs) : eqS a b = false := by unfold eqS; simp [h]
theorem eqS_cs {a b : Stt} (h : a.cs ≠ b.cs) : eqS a b = false := by unfold eqS; simp [h]
theorem eqS_ps {a b : Stt} (h : a.ps ≠ b.ps) : eqS a b = false := by unfold eqS; simp [h]
theorem none_was {e : Ev} (h : noneB e = false) (h1 : e.fr = 0) (h2 : e.frAt = 0) (h3 : e.to_ = 0) (h4 : e.toAt = 0) : e.was ≠ e.now := by
  unfold noneB at h
  rw [h1, h2, h3, h4] at h
  simpa using h
theorem move_new {s : Stt} {e : Ev} (h : ff s = none) (hr : (nothingB (moveR e)) = true) (hf : moveFitsB s e = true) : moveZ s.zs e.fr.toNat e.frAt.toNat e.to_.toNat e.toAt.toNat e.card ≠ s.zs := by
  intro heq
  have hok := move_ok h hf
  obtain ⟨i, p, j, q, a1, a2, a3, a4, a5, a6, a7, a8, -, -⟩ := move_at (zone_le h) hf
  have hn1 := ((ff_none s).1 h).2.1.1
  unfold moveFitsB at hf
  simp only [Bool.and_eq_true, decide_eq_true_eq, Bool.not_eq_true'] at hf
  obtain ⟨-, -, -, hno, -, hc, -⟩ := hf
  unfold zn at hc
  rw [a1, a2] at hc
  simp only [Int.toNat_natCast] at hc
  have w1 := flat_one s.zs hn1 e.card i p 0 a5 a7 hc
  rw [a1, a2, a3, a4] at heq
  simp only [Int.toNat_natCast] at heq
  have hl := ins_get (c := e.card) a8
  have hj : j < (s.zs.set i (cutL (s.zs.getD i []) p)).length := by simpa using a6
  have e1 : (moveZ s.zs i p j q e.card).getD j [] = insL ((s.zs.set i (cutL (s.zs.getD i []) p)).getD j []) q e.card := by
    unfold moveZ
    rw [set_get hj]
  rw [heq] at e1
  have w2 := flat_one s.zs hn1 e.card j q 0 a6 (by rw [e1, hl.2]; omega) (by rw [e1]; exact hl.1)
  rw [w1] at w2
  simp only [Option.some.injEq, Prod.mk.injEq] at w2
  unfold nothingB moveR at hr
  simp only [Bool.and_eq_true, decide_eq_true_eq] at hr
  unfold noneB at hno
  rw [a1, a2, a3, a4, hr.1.2, hr.2] at hno
  simp at hno
  omega
theorem card_new {s : Stt} {e : Ev} (hr : (nothingB (cardR e)) = true) (hf : cardFitsB s e = true) : s.cs.set e.card.toNat (cSet (s.cs.getD e.card.toNat dc) e.field e.now) ≠ s.cs := by
  intro heq
  obtain ⟨a1, y, a2⟩ := card_at hf
  obtain ⟨i, e1, hi⟩ := num_nat a1
  unfold cardFitsB at hf
  rw [a2] at hf
  simp only [Bool.and_eq_true] at hf
  have hf := hf.2
  unfold statFitsB at hf
  simp only [Bool.and_eq_true, decide_eq_true_eq, Bool.not_eq_true'] at hf
  have hb := card_back (x := e.now) a2
  have : (s.cs.set e.card.toNat (cSet (s.cs.getD e.card.toNat dc) e.field e.now)).getD e.card.toNat dc = s.cs.getD e.card.toNat dc := by rw [heq]
  rw [set_get (by rw [e1, Int.toNat_natCast]; exact hi)] at this
  rw [this, a2] at hb
  have hyn : y = e.now := by simpa using hb.2
  unfold nothingB cardR at hr
  simp only [Bool.and_eq_true, decide_eq_true_eq] at hr
  exact none_was hf.2 hr.1.1.1.1.1.2 hr.1.1.1.1.2 hr.1.1.1.2 hr.1.1.2 (by rw [← hyn, hf.1.1])
theorem player_new {s : Stt} {e : Ev} (hr : (nothingB (playerR e)) = true) (hf : playerFitsB s e = true) : s.ps.set e.player.toNat (pSet (s.ps.getD e.player.toNat dp) e.field e.now) ≠ s.ps := by
  intro heq
  obtain ⟨a1, y, a2⟩ := player_at hf
  obtain ⟨i, e1, hi⟩ := num_nat a1
  unfold playerFitsB at hf
  rw [a2] at hf
  simp only [Bool.and_eq_true] at hf
  have hf := hf.2
  unfold statFitsB at hf
  simp only [Bool.and_eq_true, decide_eq_true_eq, Bool.not_eq_true'] at hf
  have hb := player_back (x := e.now) a2
  have : (s.ps.set e.player.toNat (pSet (s.ps.getD e.player.toNat dp) e.field e.now)).getD e.player.toNat dp = s.ps.getD e.player.toNat dp := by rw [heq]
  rw [set_get (by rw [e1, Int.toNat_natCast]; exact hi)] at this
  rw [this, a2] at hb
  have hyn : y = e.now := by simpa using hb.2
  unfold nothingB playerR at hr
  simp only [Bool.and_eq_true, decide_eq_true_eq] at hr
  exact none_was hf.2 hr.1.1.1.1.1.2 hr.1.1.1.1.2 hr.1.1.1.2 hr.1.1.2 (by rw [← hyn, hf.1.1])
theorem shuf_new {zl ord : List Int} (hn : zl.Nodup) (ho : ordB zl.length ord = true) (hr : risesB ord = false) : shufL zl ord ≠ zl := by
  intro heq
  have hl := (ord_at ho).1
  have hon := ord_num ho
  have : ord = (List.range ord.length).map (fun i : Nat => (i : Int)) := by
    apply List.ext_getElem
    · simp
    · intro i h1 h2
      obtain ⟨k, e1, hk⟩ := num_nat (hon i h1)
      have hi : i < zl.length := by omega
      have hx : (shufL zl ord)[i]? = zl[i]? := by rw [heq]
      unfold shufL at hx
      rw [List.getElem?_map, List.getElem?_eq_getElem h1, List.getElem?_eq_getElem hi] at hx
      rw [List.getD_eq_getElem?_getD, List.getElem?_eq_getElem h1] at e1
      have e1 : ord[i] = (k : Int) := e1
      rw [e1] at hx
      simp only [Option.map_some, Int.toNat_natCast, Option.some.injEq] at hx
      rw [List.getD_eq_getElem?_getD, List.getElem?_eq_getElem hk] at hx
      have := nodup_at hn hk hi hx
      rw [e1, this]
      simp
  unfold risesB at hr
  rw [beq_eq_false_iff_ne] at hr
  exact hr this
theorem behind_new {s : Stt} {e : Ev} (h : ff s = none) (hf : (okB e && fitB s e) = true) : eqS (behindS s e) s = false := by
  unfold okB at hf
  simp only [Bool.and_eq_true] at hf
  obtain ⟨⟨hk, hr⟩, hf⟩ := hf
  unfold restB at hr
  unfold fitB at hf
  unfold behindS
  rcases kinds hk with hk | hk | hk | hk | hk | hk | hk
  · simp only [hk, if_pos] at hf hr ⊢
    simp only [Bool.and_eq_true] at hr
    exact eqS_zs (move_new h hr.1 hf)
  · simp [hk] at hf hr ⊢
    exact eqS_cs (card_new hr.1 hf)
  · simp [hk] at hf hr ⊢
    exact eqS_ps (player_new hr.1 hf)
  · simp [hk] at hf ⊢
    unfold shuffleFitsB at hf
    simp only [Bool.and_eq_true, Bool.not_eq_true'] at hf
    obtain ⟨i, e1, hi⟩ := num_nat hf.1
    refine eqS_zs fun heq => ?_
    have hn1 := ((ff_none s).1 h).2.1.1
    have hz : (s.zs.getD i []).Nodup := by
      have hm : s.zs.getD i [] ∈ s.zs := by rw [List.getD_eq_getElem?_getD, List.getElem?_eq_getElem hi]; exact List.getElem_mem _
      exact (List.sublist_flatten_of_mem hm).nodup hn1
    have e2 : zn s e.fr = s.zs.getD i [] := by unfold zn; rw [e1, Int.toNat_natCast]
    have h2 := hf.2
    rw [e2] at h2
    refine shuf_new hz h2.1 h2.2 ?_
    have this : (s.zs.set e.fr.toNat (shufL (zn s e.fr) e.ord)).getD i [] = s.zs.getD i [] := congrArg (fun l : List (List Int) => l.getD i []) heq
    rw [e2, e1, Int.toNat_natCast, set_get hi] at this
    exact this
  · simp [hk] at hf ⊢
    unfold outFitsB at hf
    simp only [Bool.and_eq_true, Bool.not_eq_true'] at hf
    obtain ⟨i, e1, hi⟩ := num_nat hf.1
    refine eqS_ps fun heq => ?_
    have h3 : ((s.ps.set e.player.toNat { s.ps.getD e.player.toNat dp with out := true }).getD i dp).out = (s.ps.getD i dp).out := congrArg (fun l : List Ply => (l.getD i dp).out) heq
    rw [e1, Int.toNat_natCast, set_get hi] at h3
    have h2 := hf.2
    rw [e1, Int.toNat_natCast, ← h3] at h2
    cases h2
  · simp [hk] at hf ⊢
    unfold turnFitsB behindB at hf
    simp only [Bool.and_eq_true, decide_eq_true_eq] at hf
    obtain ⟨h1, -, -, h3, h4⟩ := hf
    have ht : 1 ≤ s.turn := ((ff_none s).1 h).1.2.2.2.1
    have hw : wrap32 (e.was + 1) = e.was + 1 := by unfold wrap32; omega
    rw [hw] at h4
    unfold eqS
    have : e.now ≠ s.turn := by omega
    simp [this]
  · simp [hk] at hf ⊢
    unfold endFitsB at hf
    simp only [Bool.and_eq_true, decide_eq_true_eq] at hf
    obtain ⟨h1, h2⟩ := hf
    have : IntKind.i8.wrap e.now ≠ s.fin := by
      rw [h1]
      split at h2
      · rename_i h3
        rw [h3]
        decide
      · split at h2
        · rename_i h3
          rw [h3]
          decide
        · cases h2
    unfold eqS
    simp [this]
end DE
end Go.Proofs.YtabflfcdndioiaaGreatDoor
/-
  EqState of any two states.
-/
namespace Go.Proofs.YtabflfcdndioiaaGreatDoor
open Go.RowKit
attribute [local go_sem ↓] Go.wp_at_zero Go.wp_at_succ

namespace ST
theorem eqS_comm (a b : Stt) : eqS a b = eqS b a := by
  simp only [eqS, eq_comm]
set_option maxRecDepth 100000 in
set_option maxHeartbeats 4000000 in
theorem eqStateG_ (v u : Value) (a b : Stt) (w : World) (hv : StL w v a) (hu : StL w u b) (hsm : Small a) :
    Calls Tryz.prog 14 #[v, u] w fun e w' => e = .returned (.bool (eqS a b)) ∧ Up w w' := by
  by_cases he : eqS a b = true
  · rw [he]; exact eqState_ v u a b w hv hu hsm he
  · have he2 : eqS a b = false := by simpa using he
    rw [he2]
    simp only [eqS, Bool.and_eq_false_iff, decide_eq_false_iff_not] at he2
    obtain ⟨vp, vc, vz, rfl, h1, h2, h3⟩ := hv
    obtain ⟨up, uc, uz, rfl, g1, g2, g3⟩ := hu
    obtain ⟨pb, hpb⟩ : ∃ p, p = decide (a.ps = b.ps) := ⟨_, rfl⟩
    obtain ⟨cb, hcb⟩ : ∃ p, p = decide (a.cs = b.cs) := ⟨_, rfl⟩
    obtain ⟨zb, hzb⟩ : ∃ p, p = decide (a.zs = b.zs) := ⟨_, rfl⟩
    have HP : Hid (∀ W, Up w W → Calls Tryz.prog 51 #[vp, up] W fun e w' => e = .returned (.bool pb) ∧ ∃ m, w' = W.drewN m) := fun W k => by
      rw [hpb]; exact eqPlayers_ vp up a.ps b.ps W (h1.up k) (g1.up k) hsm.1
    have HC : Hid (∀ W, Up w W → Calls Tryz.prog 52 #[vc, uc] W fun e w' => e = .returned (.bool cb) ∧ ∃ m, w' = W.drewN m) := fun W k => by
      rw [hcb]; exact eqCards_ vc uc a.cs b.cs W (h2.up k) (g2.up k) hsm.2.1
    have HZ : Hid (∀ W, Up w W → Calls Tryz.prog 53 #[vz, uz] W fun e w' => e = .returned (.bool zb) ∧ ∃ m, w' = W.drewN m) := fun W k => by
      rw [hzb]; exact eqRows_ vz uz a.zs b.zs W (h3.up k) (g3.up k) hsm.2.2.1 hsm.2.2.2
    have HB : Hid (pb = false ∨ cb = false ∨ zb = false ∨ a.turn ≠ b.turn ∨ a.whose ≠ b.whose ∨ a.fin ≠ b.fin ∨ a.winner ≠ b.winner) := by
      unfold Hid
      rw [hpb, hcb, hzb]
      simp only [decide_eq_false_iff_not]
      rcases he2 with (((((h | h) | h) | h) | h) | h) | h <;> simp [h]
    obtain ⟨a1, k1, rfl, -, -⟩ := lc_at h1
    obtain ⟨a2, k2, rfl, -, -⟩ := lc_at h2
    obtain ⟨a3, k3, rfl, -, -⟩ := zl_at h3
    obtain ⟨b1, l1, rfl, -, -⟩ := lc_at g1
    obtain ⟨b2, l2, rfl, -, -⟩ := lc_at g2
    obtain ⟨b3, l3, rfl, -, -⟩ := zl_at g3
    unfold sv
    generalize a.turn = x1 at HB ⊢
    generalize b.turn = y1 at HB ⊢
    generalize a.whose = x2 at HB ⊢
    generalize b.whose = y2 at HB ⊢
    generalize a.fin = x3 at HB ⊢
    generalize b.fin = y3 at HB ⊢
    generalize a.winner = x4 at HB ⊢
    generalize b.winner = y4 at HB ⊢
    clear h1 h2 h3 g1 g2 g3 hsm he he2 hpb hcb hzb
    by_cases e1 : x1 = y1
    · subst e1
      by_cases e2 : x2 = y2
      · subst e2
        by_cases e3 : x3 = y3
        · subst e3
          by_cases e4 : x4 = y4
          · subst e4
            cases pb with
            | false =>
              clear HB HC HZ
              go_enter Tryz.func14, Tryz.ntmps14
              go_wp2_with fail
              refine Calls.mono (HP.out _ (((Up.refl _).alloc _).alloc _)) ?_
              rintro e w1 ⟨rfl, m1, rfl⟩
              go_wp2
              go_ret
              exact ⟨rfl, (((Up.refl _).alloc _).alloc _).drewN _⟩
            | true =>
              cases cb with
              | false =>
                clear HB HZ
                go_enter Tryz.func14, Tryz.ntmps14
                go_wp2_with fail
                refine Calls.mono (HP.out _ (((Up.refl _).alloc _).alloc _)) ?_
                rintro e w1 ⟨rfl, m1, rfl⟩
                go_wp2_with fail
                refine Calls.mono (HC.out _ ((((Up.refl _).alloc _).alloc _).drewN _)) ?_
                rintro e w2 ⟨rfl, m2, rfl⟩
                go_wp2
                go_ret
                exact ⟨rfl, by first | exact (((Up.refl _).alloc _).alloc _).drewN _ | exact ((((Up.refl _).alloc _).alloc _).drewN _).drewN _⟩
              | true =>
                have hz : zb = false := by simpa using HB.out
                subst hz
                clear HB
                go_enter Tryz.func14, Tryz.ntmps14
                go_wp2_with fail
                refine Calls.mono (HP.out _ (((Up.refl _).alloc _).alloc _)) ?_
                rintro e w1 ⟨rfl, m1, rfl⟩
                go_wp2_with fail
                refine Calls.mono (HC.out _ ((((Up.refl _).alloc _).alloc _).drewN _)) ?_
                rintro e w2 ⟨rfl, m2, rfl⟩
                go_wp2_with fail
                refine Calls.mono (HZ.out _ (by first | exact (((Up.refl _).alloc _).alloc _).drewN _ | exact ((((Up.refl _).alloc _).alloc _).drewN _).drewN _)) ?_
                rintro e w3 ⟨rfl, m3, rfl⟩
                go_wp2
                go_ret
                exact ⟨rfl, by first | exact (((Up.refl _).alloc _).alloc _).drewN _ | exact ((((Up.refl _).alloc _).alloc _).drewN _).drewN _⟩
          · have e9 : (x4 == y4) = false := beq_eq_false_iff_ne.2 e4
            clear HB HP HC HZ
            go_enter Tryz.func14, Tryz.ntmps14
            go_wp2
            go_ret
            exact ⟨rfl, ((Up.refl _).alloc _).alloc _⟩
        · have e9 : (x3 == y3) = false := beq_eq_false_iff_ne.2 e3
          clear HB HP HC HZ
          go_enter Tryz.func14, Tryz.ntmps14
          go_wp2
          go_ret
          exact ⟨rfl, ((Up.refl _).alloc _).alloc _⟩
      · have e9 : (x2 == y2) = false := beq_eq_false_iff_ne.2 e2
        clear HB HP HC HZ
        go_enter Tryz.func14, Tryz.ntmps14
        go_wp2
        go_ret
        exact ⟨rfl, ((Up.refl _).alloc _).alloc _⟩
    · have e9 : (x1 == y1) = false := beq_eq_false_iff_ne.2 e1
      clear HB HP HC HZ
      go_enter Tryz.func14, Tryz.ntmps14
      go_wp2
      go_ret
      exact ⟨rfl, ((Up.refl _).alloc _).alloc _⟩
end ST
end Go.Proofs.YtabflfcdndioiaaGreatDoor
