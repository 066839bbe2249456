/-
  DiceShuffles' walk.
-/
import Derived.Test.YthnpdlbcdaodkaaDoorShu
import Derived.Deep.QuietTactic
namespace Go.Proofs.YthnpdlbcdaodkaaDoor
open Go.RowKit

theorem AnsL.ne {a a' N N' : Nat} {W : World} {v : Value} {rs : List (Int × Bool)} (h : AnsL a N W v rs) (ha : N ≤ a') (hN : N ≤ N') : AnsL a' N' W v rs := by
  obtain ⟨ad, cap, rfl, h⟩ := h
  refine ⟨ad, cap, rfl, fun hn => ?_⟩
  obtain ⟨b, off, e, -, hb, hc⟩ := h hn
  exact ⟨b, off, e, by omega, by omega, hc⟩
theorem AnsL.up {a N : Nat} {W W' : World} {v : Value} {rs : List (Int × Bool)} (h : AnsL a N W v rs) (u : Below N W W') : AnsL a N W' v rs := by
  obtain ⟨ad, cap, rfl, h⟩ := h
  refine ⟨ad, cap, rfl, fun hn => ?_⟩
  obtain ⟨b, off, e, hne, hb, hc⟩ := h hn
  refine ⟨b, off, e, hne, hb, fun i hi => ?_⟩
  have e := u.block b hb
  rw [World.cell?_of_block (w := W) (w' := W') (a := ⟨b, off + i * 2, none⟩) e, World.cell?_of_block (w := W) (w' := W') (a := ⟨b, off + i * 2 + 1, none⟩) e]
  exact hc i hi
def askO (lv : Value) : Obj := .cells #[lv, .slice none 0 0] 64
def bagO : Obj := .cells #[.slice none 0 0, .slice none 0 0, .slice none 0 0, .slice none 0 0, .slice none 0 0, .slice none 0 0, .slice none 0 0, .slice none 0 0, .slice none 0 0, .slice none 0 0, .slice none 0 0, .slice none 0 0, .slice none 0 0, .slice none 0 0, .slice none 0 0, .slice none 0 0, .slice none 0 0, .slice none 0 0, .slice none 0 0, .slice none 0 0, .slice none 0 0] 54
theorem two_up {w W W' : World} {gb : Nat} {v : Value} (h : Up w W) (t : Two gb v W W') (h1 : w.heap.size ≤ gb) (h2 : ∀ g, v.ownBlock = some g → w.heap.size ≤ g) : Up w W' :=
  ⟨t.1.1.trans h.os, t.1.2.1.trans h.tape, t.1.2.2.trans h.output, Nat.le_trans h.size t.2.1, fun g hg => by
    have := h.size
    rw [t.2.2 g (by omega) (by omega) (fun e => by have := h2 g e; omega)]; exact h.block g hg⟩
theorem heap_new (w : World) (o : Obj) (n : Nat) (h : n = w.heap.size) : (w.alloc o).heap[n]? = some o := by
  subst h
  show (w.heap.push o)[w.heap.size]? = some o
  exact Array.getElem?_push_size
theorem start (w : World) (lv : Value) : ∀ W1 : World, W1 = (w.alloc (.cells #[lv, .slice none 0 0] 64)).alloc (.cells #[lv, .slice none 0 0] 64) →
    Up w W1 ∧ W1.heap.size = w.heap.size + 2 ∧ W1.heap[w.heap.size]? = some (.cells #[lv, .slice none 0 0] 64 (0, 0)) ∧ W1.heap[w.heap.size + 1]? = some (.cells #[lv, .slice none 0 0] 64 (0, 0)) := by
  rintro W1 rfl
  refine ⟨((Up.refl w).alloc _).alloc _, by simp, ?_, ?_⟩
  · rw [Below.heap_alloc _ _ _ (by simp)]; exact heap_new _ _ _ rfl
  · exact heap_new _ _ _ (by simp)
theorem bag_new (w : World) : BagAt (w.alloc bagO) w.heap.size (.slice none 0 0) := heap_new _ _ _ rfl
/- both lists in the bag: it lies above -/
theorem bag_up {wr W8 W9 : World} {v' : Value} {vs : List Value} {n : Nat} (t1 : Two wr.heap.size (.slice none 0 0) (wr.alloc bagO) W8) (h : W8.ownsRow (wr.heap.size + 1) 65 1 v' n vs) (t2 : Two wr.heap.size v' W8 W9) : Up wr W9 :=
  two_up (two_up ((Up.refl wr).alloc bagO) t1 (Nat.le_refl _) (fun g hg => by cases hg)) t2 (Nat.le_refl _) (fun g hg => by have := (h.lt g hg).1; omega)
set_option maxRecDepth 100000 in
set_option maxHeartbeats 4000000 in
theorem shufflesWalk (z : Int) (lv : Value) (rs : List (Int × Bool)) (w : World) (hl : AnsL w.heap.size w.heap.size w lv rs) :
    Calls Tryd.prog 4 #[.int .i64 z, lv] w fun e w' => e = .returned (.bool true) ∧ Below w.heap.size w w' := by
  obtain ⟨Post, hPost⟩ : ∃ P : Ending → World → Prop, P = fun e w' => e = .returned (.bool true) ∧ Below w.heap.size w w' := ⟨_, rfl⟩
  rw [← hPost]
  have HPost : Hid (Post = fun e w' => e = .returned (.bool true) ∧ Below w.heap.size w w') := hPost
  clear hPost
  have hlv : ∃ ad n cap, lv = .slice ad n cap := by obtain ⟨ad, cap, h, _⟩ := hl; exact ⟨ad, _, cap, h⟩
  obtain ⟨ad, nl, cap, rfl⟩ := hlv
  have HL : Hid (∀ (a' N' : Nat) (W : World), Up w W → w.heap.size ≤ a' → w.heap.size ≤ N' → AnsL a' N' W (.slice ad nl cap) rs) := fun a' N' W u h1 h2 => (hl.up u).ne h1 h2
  have HS : Hid (∀ W1 : World, W1 = (w.alloc (.cells #[.slice ad nl cap, .slice none 0 0] 64)).alloc (.cells #[.slice ad nl cap, .slice none 0 0] 64) →
    Up w W1 ∧ W1.heap.size = w.heap.size + 2 ∧ W1.heap[w.heap.size]? = some (.cells #[.slice ad nl cap, .slice none 0 0] 64 (0, 0)) ∧ W1.heap[w.heap.size + 1]? = some (.cells #[.slice ad nl cap, .slice none 0 0] 64 (0, 0))) := start w _
  clear hl
  obtain ⟨ok, hok⟩ : ∃ o, o = (RZ z rs).isSome := ⟨_, rfl⟩
  obtain ⟨zs, hzs⟩ : ∃ o, o = LZ z rs := ⟨_, rfl⟩
  obtain ⟨qs, hqs⟩ : ∃ o, o = QZ z rs := ⟨_, rfl⟩
  have HE : Hid (ok = (RZ z rs).isSome ∧ zs = LZ z rs ∧ qs = QZ z rs) := ⟨hok, hzs, hqs⟩
  have hzl : zs.length ≤ 65536 := by rw [hzs]; exact LZ_len _ _
  have hql : qs.length ≤ 65536 := by rw [hqs]; exact QZ_len _ _
  have HZL : Hid (zs.length ≤ 65536) := hzl
  clear hok hzs hqs hzl
  go_enter Tryd.func4, Tryd.ntmps4
  go_wp2_with fail
  obtain ⟨s1, s2, s3, s4⟩ := HS.out _ rfl
  refine (shufU z w.heap.size _ rs _ (HL.out _ _ _ s1 (Nat.le_refl _) s1.size) s3).mono ?_
  rintro e W2 ⟨L1, rfl, p1, ⟨A1, p2, p3⟩, p4⟩
  rw [← HE.out.1]
  rw [← HE.out.2.1] at p1
  rw [← HE.out.2.2] at p3
  have HP : Hid (∀ W3 W4 L2 L3 A2 A3, OwnI W3 W2.heap.size 3 L2 zs → W3.heap[w.heap.size + 1]? = some (.cells #[.slice ad nl cap, A2] 64 (0, 0)) → OwnI W3 W2.heap.size 2 A2 qs → Only (w.heap.size + 1) W2 W3 → OwnI W4 W3.heap.size 3 L3 zs → OwnI W4 W3.heap.size 2 A3 qs → Up W3 W4 → Got w w.heap.size (w.heap.size + 1) (.slice ad nl cap) L1 L2 L3 A1 A2 A3 zs qs W4) :=
    fun W3 W4 L2 L3 A2 A3 q1 q2 q3 q4 r1 r2 r3 => Got.mk (Nat.le_refl _) (Nat.lt_succ_self _) (by omega) s1 p1 p2 p3 p4 q1 q2 q3 q4 r1 r2 r3
  have HU2 : Hid (Up w W2) := s1.only p4 (Nat.le_refl _)
  have HB2 : Hid (W2.heap[w.heap.size + 1]? = some (.cells #[.slice ad nl cap, .slice none 0 0] 64 (0, 0))) := by
    unfold Hid; rw [p4.2.2 (w.heap.size + 1) (by omega) (by omega)]; exact s4
  obtain ⟨x1, c1, rfl⟩ := row_val p1
  obtain ⟨y1, d1, rfl⟩ := row_val p3
  clear s1 s2 s3 s4 p1 p2 p3 p4 HS
  go_wp2_with fail
  refine (shufU z (w.heap.size + 1) _ rs _ (HL.out _ _ _ HU2.out (Nat.le_succ _) HU2.out.size) HB2.out).mono ?_
  rintro e W3 ⟨L2, rfl, q1, ⟨A2, q2, q3⟩, q4⟩
  rw [← HE.out.1]
  rw [← HE.out.2.1] at q1
  rw [← HE.out.2.2] at q3
  have HU3 : Hid (Up w W3) := HU2.out.only q4 (Nat.le_succ _)
  have HQ : Hid (∀ W4 L3 A3, OwnI W4 W3.heap.size 3 L3 zs → OwnI W4 W3.heap.size 2 A3 qs → Up W3 W4 → Got w w.heap.size (w.heap.size + 1) (.slice ad nl cap) (.slice x1 zs.length c1) L2 L3 (.slice y1 qs.length d1) A2 A3 zs qs W4) :=
    fun W4 L3 A3 r1 r2 r3 => HP.out W3 W4 L2 L3 A2 A3 q1 q2 q3 q4 r1 r2 r3
  obtain ⟨x2, c2, rfl⟩ := row_val q1
  obtain ⟨y2, d2, rfl⟩ := row_val q3
  clear q1 q2 q3 q4 HP HB2 HU2
  go_wp2_with fail
  refine (rshufU z _ rs _ (HL.out _ _ _ HU3.out HU3.out.size HU3.out.size)).mono ?_
  rintro e W4 ⟨L3, A3, rfl, r1, r2, r3⟩
  rw [← HE.out.1]
  rw [← HE.out.2.1] at r1
  rw [← HE.out.2.2] at r2
  have HG : Hid (Got w w.heap.size (w.heap.size + 1) (.slice ad nl cap) (.slice x1 zs.length c1) (.slice x2 zs.length c2) L3 (.slice y1 qs.length d1) (.slice y2 qs.length d2) A3 zs qs W4) := HQ.out _ _ _ r1 r2 r3
  obtain ⟨x3, c3, rfl⟩ := row_val r1
  obtain ⟨y3, d3, rfl⟩ := row_val r2
  clear r1 r2 r3 HQ HU3 HL HE
  go_wp2_with fail
  refine (eqSame _ _ zs _ HG.out.1.lies HG.out.2.2.1.lies HZL.out).mono ?_
  rintro e W5 ⟨rfl, u5⟩
  have HG5 : Hid (Got w w.heap.size (w.heap.size + 1) (.slice ad nl cap) (.slice x1 zs.length c1) (.slice x2 zs.length c2) (.slice x3 zs.length c3) (.slice y1 qs.length d1) (.slice y2 qs.length d2) (.slice y3 qs.length d3) zs qs W5) := HG.out.up u5
  clear u5 HG
  go_wp2_with fail
  refine (eqSame _ _ zs _ HG5.out.2.1.lies HG5.out.2.2.1.lies HZL.out).mono ?_
  rintro e W6 ⟨rfl, u6⟩
  have HG6 : Hid (Got w w.heap.size (w.heap.size + 1) (.slice ad nl cap) (.slice x1 zs.length c1) (.slice x2 zs.length c2) (.slice x3 zs.length c3) (.slice y1 qs.length d1) (.slice y2 qs.length d2) (.slice y3 qs.length d3) zs qs W6) := HG5.out.up u6
  obtain ⟨f1, f2⟩ := HG6.out.cells
  clear u6 HG5
  obtain ⟨m, hm⟩ : ∃ m, m = qs.length := ⟨_, rfl⟩
  rw [← hm] at f1 f2 hql
  rw [← hm]
  have HM : Hid (m = qs.length) := hm
  clear hm
  go_wp2_with fail
  go_loopw [14] (fun i wr => ∃ k : Nat, k ≤ m ∧ i = .int .i64 k ∧ Up W6 wr) (fun i _ => m - (intOf i).toNat)
  case atStart => exact ⟨0, Nat.zero_le _, rfl, Up.refl _⟩
  case round =>
    obtain ⟨k, hk, rfl, hup⟩ := hrel
    have HG : Hid (Got w w.heap.size (w.heap.size + 1) (.slice ad nl cap) (.slice x1 zs.length c1) (.slice x2 zs.length c2) (.slice x3 zs.length c3) (.slice y1 qs.length d1) (.slice y2 qs.length d2) (.slice y3 qs.length d3) zs qs wr) := HG6.out.up hup
    have HU : Hid (Up W6 wr) := hup
    clear hup f1 f2
    by_cases hlt : k < m
    · have hki : (k : Int) < (m : Int) := by omega
      obtain ⟨f1, f2⟩ := HG.out.cells
      obtain ⟨_, _, e1, g1⟩ := HG.out.2.2.2.1.lies
      obtain ⟨_, _, e2, g2⟩ := HG.out.2.2.2.2.1.lies
      obtain ⟨_, _, e3, g3⟩ := HG.out.2.2.2.2.2.1.lies
      have hk0 : k < qs.length := by rw [← HM.out]; exact hlt
      obtain ⟨b1, o1, rfl, j1⟩ := g1 (by omega)
      obtain ⟨b2, o2, rfl, j2⟩ := g2 (by omega)
      obtain ⟨b3, o3, rfl, j3⟩ := g3 (by omega)
      cases e1; cases e2; cases e3
      have k1 := j1 k hk0
      have k2 := j2 k hk0
      have k3 := j3 k hk0
      rw [← HM.out] at f1 f2
      clear g1 g2 g3 j1 j2 j3 hk0
      generalize qs.getD k 0 = q at k1 k2 k3
      go_wp2_with fail
      go_quiet (fail)
      go_wp2
      go_roundw
      case rel => first | exact ⟨k + 1, by omega, by go_num, HU.out.drewN nq⟩ | ((repeat apply Exists.intro); exact ⟨⟨k + 1, by omega, by go_num, HU.out.drewN nq⟩, rfl⟩)
      case measure => simp [intOf]; omega
    · obtain rfl : k = m := by omega
      clear HG6 HU
      go_wp2_with fail
      refine (addInts wr.heap.size (wr.heap.size + 1) 0 (.slice none 0 0) x1 zs.length c1 [] (wr.alloc bagO) (bag_new wr) (World.ownsRow_nil _ _ _ _) (by decide) (Nat.lt_succ_self _) (by simp)).mono ?_
      rintro e W8 ⟨rfl, v8, hB8, hr8, ht8⟩
      have H8 : Hid (BagAt W8 wr.heap.size v8 ∧ W8.ownsRow (wr.heap.size + 1) 65 1 v8 1 [.slice x1 zs.length c1] ∧ Two wr.heap.size (.slice none 0 0) (wr.alloc bagO) W8) := ⟨hB8, hr8, ht8⟩
      clear hB8 hr8 ht8
      go_wp2_with fail
      refine (addInts wr.heap.size (wr.heap.size + 1) 1 v8 x2 zs.length c2 _ W8 H8.out.1 H8.out.2.1 (by decide) (Nat.lt_succ_self _) (by have := H8.out.2.2.2.1; simp at this; omega)).mono ?_
      rintro e W9 ⟨rfl, v9, hB9, hr9, ht9⟩
      have hu9 : Up wr W9 := bag_up H8.out.2.2 H8.out.2.1 ht9
      have H9 : Hid (BagAt W9 wr.heap.size v9 ∧ W9.ownsRow (wr.heap.size + 1) 65 1 v9 2 [.slice x1 zs.length c1, .slice x2 zs.length c2] ∧ Got w w.heap.size (w.heap.size + 1) (.slice ad nl cap) (.slice x1 zs.length c1) (.slice x2 zs.length c2) (.slice x3 zs.length c3) (.slice y1 qs.length d1) (.slice y2 qs.length d2) (.slice y3 qs.length d3) zs qs W9) := ⟨hB9, hr9, HG.out.up hu9⟩
      clear hB9 hr9 ht9 hu9 H8 HG
      go_wp2_with fail
      refine (bag_apart w W9 wr.heap.size (wr.heap.size + 1) v9 _ _ zs HZL.out H9.out.1 H9.out.2.1 H9.out.2.2.1 H9.out.2.2.2.1 H9.out.2.2.2.2.2.2.2.2.2.2.1 H9.out.2.2.2.2.2.2.2.2.2.2.2.size).mono ?_
      rintro e W10 ⟨rfl, hb10⟩
      have H10 : Hid (Below w.heap.size w W10) := Below.trans H9.out.2.2.2.2.2.2.2.2.2.2.2 hb10
      clear H9 hb10
      go_wp2_with fail
      refine (lives W10).mono ?_
      rintro e W11 ⟨rfl, hu11⟩
      have HF : Hid (Post (.returned (.bool true)) W11) := by unfold Hid; rw [HPost.out]; exact ⟨rfl, Below.trans H10.out (hu11.mono H10.out.size)⟩
      clear H10 hu11
      go_wp2
      first | exact HF.out | (go_ret; exact HF.out)
end Go.Proofs.YthnpdlbcdaodkaaDoor
