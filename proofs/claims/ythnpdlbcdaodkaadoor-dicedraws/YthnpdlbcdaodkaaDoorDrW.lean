/-
  DiceDraws' walk.
-/
import Derived.Test.YthnpdlbcdaodkaaDoorOpenO
import Derived.Test.YthnpdlbcdaodkaaDoorShW
import Derived.Laws.BitsLemmas
import Derived.Deep.QuietTactic
import Derived.BigQuiet
import Derived.Deep.RegionWith
namespace Go.Proofs.YthnpdlbcdaodkaaDoor
open Go.RowKit

theorem i64_and1 (n : Int) : bits .and .i64 n 1 = n % 2 := by
  have h1 : (BitVec.ofInt 64 1).toNat = 2 ^ 1 - 1 := by decide
  have key : (BitVec.ofInt 64 n &&& BitVec.ofInt 64 1).toNat = (n % ((2 ^ 64 : Nat) : Int)).toNat % 2 ^ 1 := by
    rw [BitVec.toNat_and, BitVec.toNat_ofInt, h1, Nat.and_two_pow_sub_one_eq_mod]
  show IntKind.i64.wrap ((BitVec.ofInt 64 n &&& BitVec.ofInt 64 1).toNat : Nat) = n % 2
  rw [key, IntKind.wrap_i64]
  omega
/- two dice, twice; their lists; the bag -/
def Dr (w : World) (W : World) : Prop :=
  (∃ z, Die W w.heap.size z ∧ RDie W (w.heap.size + 3) z) ∧ (∃ z, Die W (w.heap.size + 1) z ∧ RDie W (w.heap.size + 4) z) ∧
  W.heap[w.heap.size + 2]? = some (.cells #[dieA w.heap.size, dieA (w.heap.size + 1)] 24 (0, 0)) ∧ W.heap[w.heap.size + 5]? = some (.cells #[dieA (w.heap.size + 3), dieA (w.heap.size + 4)] 27 (0, 0)) ∧
  (∃ L, BagI W (w.heap.size + 6) (w.heap.size + 7) L) ∧ Up w W
theorem Dr.drewN {w W : World} (h : Dr w W) (n : Nat) : Dr w (W.drewN n) := ⟨h.1, h.2.1, h.2.2.1, h.2.2.2.1, by
  obtain ⟨L, hL⟩ := h.2.2.2.2.1
  exact ⟨L, hL.up ((Up.refl _).drewN n)⟩, h.2.2.2.2.2.drewN n⟩
theorem Dr.cells {w W : World} (h : Dr w W) : W.cell? ⟨w.heap.size + 2, 0, none⟩ = some (dieA w.heap.size) ∧ W.cell? ⟨w.heap.size + 2, 1, none⟩ = some (dieA (w.heap.size + 1)) ∧ W.cell? ⟨w.heap.size + 5, 0, none⟩ = some (dieA (w.heap.size + 3)) ∧ W.cell? ⟨w.heap.size + 5, 1, none⟩ = some (dieA (w.heap.size + 4)) := by
  obtain ⟨-, -, h1, h2, -, -⟩ := h
  refine ⟨?_, ?_, ?_, ?_⟩ <;> (unfold World.cell?; first | (rw [h1]; rfl) | (rw [h2]; rfl))
theorem Dr.cell {w W : World} (h : Dr w W) (k : Nat) (hk : k = 0 ∨ k = 1) : W.cell? ⟨w.heap.size + 2, k, none⟩ = some (dieA (w.heap.size + k)) ∧ W.cell? ⟨w.heap.size + 5, k, none⟩ = some (dieA (w.heap.size + 3 + k)) := by
  rcases hk with rfl | rfl
  · exact ⟨h.cells.1, h.cells.2.2.1⟩
  · exact ⟨h.cells.2.1, h.cells.2.2.2⟩
theorem ok4 (n k : Nat) (hk : k = 0 ∨ k = 1) : Ok4 (n + k) (n + 3 + k) (n + 6) (n + 7) := by
  rcases hk with rfl | rfl <;> exact ⟨by omega, by omega, by omega, by omega, by omega, by omega⟩
/- one thing asked -/
theorem Dr.does {w W : World} (h : Dr w W) (k : Nat) (hk : k = 0 ∨ k = 1) (kd on nn : Int) (hn : -9223372036854775808 ≤ nn ∧ nn ≤ 9223372036854775807) :
    Calls Tryd.prog 8 #[dieA (w.heap.size + k), dieA (w.heap.size + 3 + k), .agg #[.int .i64 kd, .int .i64 on, .int .i64 nn], .pointer (some ⟨w.heap.size + 6, 0, none⟩)] W fun e W' => e = .returned (.bool true) ∧ Dr w W' := by
  obtain ⟨⟨z0, a1, a2⟩, ⟨z1, b1, b2⟩, c1, c2, ⟨L, hL⟩, hu⟩ := h
  have fin : ∀ {e : Ending} {W' : World}, DoPost (w.heap.size + k) (w.heap.size + 3 + k) (w.heap.size + 6) (w.heap.size + 7) W e W' → e = .returned (.bool true) ∧ Dr w W' := by
    rintro e W' ⟨rfl, ⟨z', d1, d2⟩, hb, f1, f2, f3⟩
    have keep : ∀ {g : Nat} {o : Obj}, W.heap[g]? = some o → g < w.heap.size + 7 → g ≠ w.heap.size + k → g ≠ w.heap.size + 3 + k → g ≠ w.heap.size + 6 → W'.heap[g]? = some o := fun hg h1 h2 h3 h4 => (f3 _ h1 h2 h3 h4).trans hg
    refine ⟨rfl, ?_, ?_, keep c1 (by omega) (by omega) (by omega) (by omega), keep c2 (by omega) (by omega) (by omega) (by omega), hb, ?_⟩
    · rcases hk with rfl | rfl
      · exact ⟨z', d1, d2⟩
      · exact ⟨z0, keep a1 (by omega) (by omega) (by omega) (by omega), keep a2 (by omega) (by omega) (by omega) (by omega)⟩
    · rcases hk with rfl | rfl
      · exact ⟨z1, keep b1 (by omega) (by omega) (by omega) (by omega), keep b2 (by omega) (by omega) (by omega) (by omega)⟩
      · exact ⟨z', d1, d2⟩
    · exact ⟨f1.1.trans hu.os, f1.2.1.trans hu.tape, f1.2.2.trans hu.output, Nat.le_trans hu.size f2, fun g hg => (f3 g (by omega) (by omega) (by omega) (by omega)).trans (hu.block g hg)⟩
  rcases hk with rfl | rfl
  · exact (does_ _ _ _ _ z0 kd on nn L W (ok4 _ _ (.inl rfl)) a1 a2 hL hn).mono fun e W' hp => fin hp
  · exact (does_ _ _ _ _ z1 kd on nn L W (ok4 _ _ (.inr rfl)) b1 b2 hL hn).mono fun e W' hp => fin hp
/- the dice, where each of them is -/
def Dz (w : World) (z0 z1 y0 y1 : Nat) (W : World) : Prop :=
  Die W w.heap.size z0 ∧ Die W (w.heap.size + 1) z1 ∧ RDie W (w.heap.size + 3) y0 ∧ RDie W (w.heap.size + 4) y1 ∧
  W.heap[w.heap.size + 2]? = some (.cells #[dieA w.heap.size, dieA (w.heap.size + 1)] 24 (0, 0)) ∧ W.heap[w.heap.size + 5]? = some (.cells #[dieA (w.heap.size + 3), dieA (w.heap.size + 4)] 27 (0, 0)) ∧ Up w W
theorem Dz.cells {w W : World} {z0 z1 y0 y1 : Nat} (h : Dz w z0 z1 y0 y1 W) : W.cell? ⟨w.heap.size + 2, 0, none⟩ = some (.pointer (some ⟨w.heap.size, 0, none⟩)) ∧ W.cell? ⟨w.heap.size + 2, 1, none⟩ = some (.pointer (some ⟨w.heap.size + 1, 0, none⟩)) ∧ W.cell? ⟨w.heap.size + 5, 0, none⟩ = some (.pointer (some ⟨w.heap.size + 3, 0, none⟩)) ∧ W.cell? ⟨w.heap.size + 5, 1, none⟩ = some (.pointer (some ⟨w.heap.size + 4, 0, none⟩)) := by
  obtain ⟨-, -, -, -, h1, h2, -⟩ := h
  refine ⟨?_, ?_, ?_, ?_⟩ <;> (unfold World.cell?; first | (rw [h1]; rfl) | (rw [h2]; rfl))
theorem Dz.only {w W W' : World} {z0 z1 y0 y1 b : Nat} (h : Dz w z0 z1 y0 y1 W) (o : Only b W W') (hb : w.heap.size ≤ b) : (b ≠ w.heap.size → Die W' w.heap.size z0) ∧ (b ≠ w.heap.size + 1 → Die W' (w.heap.size + 1) z1) ∧ (b ≠ w.heap.size + 3 → RDie W' (w.heap.size + 3) y0) ∧ (b ≠ w.heap.size + 4 → RDie W' (w.heap.size + 4) y1) ∧
    (b ≠ w.heap.size + 2 → W'.heap[w.heap.size + 2]? = some (.cells #[dieA w.heap.size, dieA (w.heap.size + 1)] 24 (0, 0))) ∧ (b ≠ w.heap.size + 5 → W'.heap[w.heap.size + 5]? = some (.cells #[dieA (w.heap.size + 3), dieA (w.heap.size + 4)] 27 (0, 0))) ∧ Up w W' := by
  obtain ⟨h1, h2, h3, h4, h5, h6, h7⟩ := h
  exact ⟨fun e => o.heap h1 (Ne.symm e), fun e => o.heap h2 (Ne.symm e), fun e => o.heap h3 (Ne.symm e), fun e => o.heap h4 (Ne.symm e), fun e => o.heap h5 (Ne.symm e), fun e => o.heap h6 (Ne.symm e), h7.only o hb⟩
theorem Dz.next0 {w W : World} {z0 z1 y0 y1 : Nat} (h : Dz w z0 z1 y0 y1 W) : Calls Tryd.prog 10 #[.pointer (some ⟨w.heap.size, 0, none⟩)] W fun e W' => e = .returned (.int .u64 (mx (stp z0) : Nat)) ∧ Dz w (stp z0) z1 y0 y1 W' :=
  (nextU _ _ W h.1).mono fun e W' ⟨h1, h2, o⟩ => by
    obtain ⟨-, g1, g2, g3, g4, g5, g6⟩ := h.only o (Nat.le_refl _)
    exact ⟨h1, h2, g1 (by omega), g2 (by omega), g3 (by omega), g4 (by omega), g5 (by omega), g6⟩
theorem Dz.next1 {w W : World} {z0 z1 y0 y1 : Nat} (h : Dz w z0 z1 y0 y1 W) : Calls Tryd.prog 10 #[.pointer (some ⟨w.heap.size + 1, 0, none⟩)] W fun e W' => e = .returned (.int .u64 (mx (stp z1) : Nat)) ∧ Dz w z0 (stp z1) y0 y1 W' :=
  (nextU _ _ W h.2.1).mono fun e W' ⟨h1, h2, o⟩ => by
    obtain ⟨g0, -, g2, g3, g4, g5, g6⟩ := h.only o (by omega)
    exact ⟨h1, g0 (by omega), h2, g2 (by omega), g3 (by omega), g4 (by omega), g5 (by omega), g6⟩
theorem Dz.rnext0 {w W : World} {z0 z1 y0 y1 : Nat} (h : Dz w z0 z1 y0 y1 W) : Calls Tryd.prog 11 #[.pointer (some ⟨w.heap.size + 3, 0, none⟩)] W fun e W' => e = .returned (.int .u64 (mx (stp y0) : Nat)) ∧ Dz w z0 z1 (stp y0) y1 W' :=
  (rnextU _ _ W h.2.2.1).mono fun e W' ⟨h1, h2, o⟩ => by
    obtain ⟨g0, g1, -, g3, g4, g5, g6⟩ := h.only o (by omega)
    exact ⟨h1, g0 (by omega), g1 (by omega), h2, g3 (by omega), g4 (by omega), g5 (by omega), g6⟩
theorem Dz.rnext1 {w W : World} {z0 z1 y0 y1 : Nat} (h : Dz w z0 z1 y0 y1 W) : Calls Tryd.prog 11 #[.pointer (some ⟨w.heap.size + 4, 0, none⟩)] W fun e W' => e = .returned (.int .u64 (mx (stp y1) : Nat)) ∧ Dz w z0 z1 y0 (stp y1) W' :=
  (rnextU _ _ W h.2.2.2.1).mono fun e W' ⟨h1, h2, o⟩ => by
    obtain ⟨g0, g1, g2, -, g4, g5, g6⟩ := h.only o (by omega)
    exact ⟨h1, g0 (by omega), g1 (by omega), g2 (by omega), h2, g4 (by omega), g5 (by omega), g6⟩
theorem Dz.lives {w W : World} {z0 z1 y0 y1 : Nat} (h : Dz w z0 z1 y0 y1 W) : Calls Tryd.prog 7 #[] W fun e W' => e = .returned (.bool true) ∧ Dz w z0 z1 y0 y1 W' :=
  (Go.Proofs.YthnpdlbcdaodkaaDoor.lives W).mono fun e W' ⟨h1, u⟩ => by
    obtain ⟨g1, g2, g3, g4, g5, g6, g7⟩ := h
    exact ⟨h1, g1.up u, g2.up u, u.heap g3, u.heap g4, u.heap g5, u.heap g6, g7.trans u⟩
theorem Dr.apart {w W : World} (h : Dr w W) : ∃ z0 z1, Calls Tryd.prog 9 #[.pointer (some ⟨w.heap.size + 6, 0, none⟩)] W fun e W' => e = .returned (.bool true) ∧ Dz w z0 z1 z0 z1 W' := by
  obtain ⟨⟨z0, a1, a2⟩, ⟨z1, b1, b2⟩, c1, c2, ⟨L, hL⟩, hu⟩ := h
  refine ⟨z0, z1, (bagI_apart W _ _ L hL).mono fun e W' ⟨h1, hb⟩ => ?_⟩
  have keep : ∀ {g : Nat} {o : Obj}, W.heap[g]? = some o → g < w.heap.size + 7 → W'.heap[g]? = some o := fun hg hl => (hb.block _ hl).trans hg
  exact ⟨h1, keep a1 (by omega), keep b1 (by omega), keep a2 (by omega), keep b2 (by omega), keep c1 (by omega), keep c2 (by omega), Below.trans hu (hb.mono (by omega))⟩
theorem dr_start (w : World) (one two : Nat) : ∀ W0 : World, W0 = ((((((w.alloc (.cells #[.int .u64 one, .bool true] 75)).alloc (.cells #[.int .u64 two, .bool true] 75)).alloc (.cells #[.pointer (some ⟨w.heap.size, 0, none⟩), .pointer (some ⟨w.heap.size + 1, 0, none⟩)] 24)).alloc (.cells #[.int .u64 one, .bool true] 77)).alloc (.cells #[.int .u64 two, .bool true] 77)).alloc (.cells #[.pointer (some ⟨w.heap.size + 3, 0, none⟩), .pointer (some ⟨w.heap.size + 4, 0, none⟩)] 27)).alloc bagO → Dr w W0 := by
  intro W0 hW0
  have hl : W0.heap.toList = w.heap.toList ++ [.cells #[.int .u64 one, .bool true] 75, .cells #[.int .u64 two, .bool true] 75, .cells #[.pointer (some ⟨w.heap.size, 0, none⟩), .pointer (some ⟨w.heap.size + 1, 0, none⟩)] 24, .cells #[.int .u64 one, .bool true] 77, .cells #[.int .u64 two, .bool true] 77, .cells #[.pointer (some ⟨w.heap.size + 3, 0, none⟩), .pointer (some ⟨w.heap.size + 4, 0, none⟩)] 27, bagO] := by
    rw [hW0]
    show (((((((w.heap.push _).push _).push _).push _).push _).push _).push _).toList = _
    simp only [Array.toList_push, List.append_assoc, List.cons_append, List.nil_append]
  have look : ∀ k, W0.heap[w.heap.size + k]? = _ := fun k => by
    rw [← Array.getElem?_toList, hl, List.getElem?_append_right (by simp), Array.length_toList, Nat.add_sub_cancel_left]
  have hsz : W0.heap.size = w.heap.size + 7 := by rw [← Array.length_toList, hl]; simp
  have hu : Up w W0 := by rw [hW0]; exact (((((((Up.refl w).alloc _).alloc _).alloc _).alloc _).alloc _).alloc _).alloc _
  refine ⟨⟨one, look 0, look 3⟩, ⟨two, look 1, look 4⟩, look 2, look 5, ⟨[], ⟨.slice none 0 0, look 6, World.ownsRow_nil _ _ _ _⟩, by decide, fun p hp => absurd hp (Nat.not_lt_zero _), fun p _ _ hp => absurd hp (Nat.not_lt_zero _), fun p hp => absurd hp (Nat.not_lt_zero _), by omega, by omega⟩, hu⟩
set_option maxRecDepth 100000 in
set_option maxHeartbeats 40000000 in
theorem drawsWalk (one two : Nat) (v : Value) (rs : List (Int × Int × Int)) (w : World) (hl : OpL w v rs) :
    Calls Tryd.prog 3 #[.int .u64 one, .int .u64 two, v] w fun e w' => e = .returned (.bool true) ∧ Below w.heap.size w w' := by
  obtain ⟨Post, hPost⟩ : ∃ P : Ending → World → Prop, P = fun e w' => e = .returned (.bool true) ∧ Below w.heap.size w w' := ⟨_, rfl⟩
  rw [← hPost]
  have HPost : Hid (Post = fun e w' => e = .returned (.bool true) ∧ Below w.heap.size w w') := hPost
  clear hPost
  obtain ⟨ad, cap, rfl, hc⟩ := hl
  obtain ⟨m, hm⟩ : ∃ m, m = rs.length := ⟨_, rfl⟩
  rw [← hm] at hc ⊢
  have HC : Hid (∀ i, i < m → ((Lit.int .i64 (rs.getD i d3).2.2).wf = true) ∧ ∃ b off, ad = some ⟨b, off, none⟩ ∧ b < w.heap.size ∧ w.cell? ⟨b, off + i * 3, none⟩ = some (.int .i64 (rs.getD i d3).1) ∧ w.cell? ⟨b, off + i * 3 + 1, none⟩ = some (.int .i64 (rs.getD i d3).2.1) ∧ w.cell? ⟨b, off + i * 3 + 2, none⟩ = some (.int .i64 (rs.getD i d3).2.2)) := hc
  clear hc hm
  go_enter Tryd.func3, Tryd.ntmps3
  go_wp2_with fail
  refine (new one _).mono ?_
  rintro e w1 ⟨rfl, rfl⟩
  unfold dieA
  go_wp2_with fail
  refine (new two _).mono ?_
  rintro e w1 ⟨rfl, rfl⟩
  unfold dieA
  go_wp2_with fail
  refine (rnew one _).mono ?_
  rintro e w1 ⟨rfl, rfl⟩
  unfold dieA
  go_wp2_with fail
  refine (rnew two _).mono ?_
  rintro e w1 ⟨rfl, rfl⟩
  unfold dieA
  by_cases hbig : 1048576 < m
  · have hbig' : (1048576 : Int) < (m : Int) := by omega
    go_wp2_with fail
    refine (lives _).mono ?_
    rintro e w1 ⟨rfl, hu⟩
    have HF : Hid (Post (.returned (.bool true)) w1) := by
      unfold Hid; rw [HPost.out]
      exact ⟨rfl, Up.trans (((((((Up.refl w).alloc _).alloc _).alloc _).alloc _).alloc _).alloc _) hu⟩
    clear hu
    go_wp2
    first | exact HF.out | (go_ret; exact HF.out)
  · have hbig' : ¬ (1048576 : Int) < (m : Int) := by omega
    go_wp2_with fail
    simp only [Nat.add_assoc, Nat.reduceAdd]
    go_loopw [10] (fun i wr => ∃ k : Nat, k ≤ m ∧ i = .int .i64 k ∧ Dr w wr) (fun i _ => m - (intOf i).toNat)
    case atStart => exact ⟨0, Nat.zero_le _, rfl, dr_start w one two _ rfl⟩
    case round =>
      obtain ⟨k, hk, rfl, hD⟩ := hrel
      have HD : Hid (Dr w wr) := hD
      clear hD
      by_cases hlt : k < m
      · have hki : (k : Int) < (m : Int) := by omega
        obtain ⟨hw, b, off, rfl, hb, e0, e1, e2⟩ := HC.out k hlt
        have hn := wf64 hw
        have e0 := HD.out.2.2.2.2.2.cell e0
        have e1 := HD.out.2.2.2.2.2.cell e1
        have e2 := HD.out.2.2.2.2.2.cell e2
        generalize rs.getD k d3 = x at *
        obtain ⟨kd, on, nn⟩ := x
        simp only at e0 e1 e2 hn
        obtain ⟨q, hq, hq1⟩ : ∃ q : Nat, on % 2 = (q : Int) ∧ (q = 0 ∨ q = 1) := by
          rcases (by omega : on % 2 = 0 ∨ on % 2 = 1) with h | h
          · exact ⟨0, h, .inl rfl⟩
          · exact ⟨1, h, .inr rfl⟩
        have hand := i64_and1 on
        rw [hq] at hand
        have hq2 : (q : Int) < 2 := by rcases hq1 with rfl | rfl <;> omega
        obtain ⟨p0, p1⟩ := HD.out.cell q hq1
        unfold dieA at p0 p1
        have HDo : Hid (∀ nq, Calls Tryd.prog 8 #[dieA (w.heap.size + q), dieA (w.heap.size + 3 + q), .agg #[.int .i64 kd, .int .i64 on, .int .i64 nn], .pointer (some ⟨w.heap.size + 6, 0, none⟩)] (wr.drewN nq) fun e W' => e = .returned (.bool true) ∧ Dr w W') := fun nq => (HD.out.drewN nq).does q hq1 kd on nn hn
        unfold dieA at HDo
        clear hw hb hq HC
        go_wp2_with fail
        refine BG.TailR.wp_region_seq 13 (by kernel_rfl) (by kernel_rfl) ?_
        simp only [List.take_succ_cons, List.take_zero, List.drop_succ_cons, List.drop_zero]
        repeat (go_big_quiet_step (fail))
        refine wpQuiet_nil ?_
        intro _ hw'
        obtain ⟨nq, hw''⟩ := hw'
        subst hw''
        go_wp2_with fail
        refine (HDo.out nq).mono ?_
        rintro e w2 ⟨rfl, hd2⟩
        go_wp2_with fail
        go_roundw
        case rel => first | exact ⟨k + 1, by omega, by go_num, hd2⟩ | ((repeat apply Exists.intro); exact ⟨⟨k + 1, by omega, by go_num, hd2⟩, rfl⟩)
        case measure => simp [intOf]; omega
      · obtain rfl : k = m := by omega
        have hd1 : Dr w wr.drew := HD.out.drewN 1
        obtain ⟨z0, z1, hap⟩ := hd1.apart
        have HAp : Hid (Calls Tryd.prog 9 #[.pointer (some ⟨w.heap.size + 6, 0, none⟩)] wr.drew fun e W' => e = .returned (.bool true) ∧ Dz w z0 z1 z0 z1 W') := hap
        have e1 : (((mx (stp z0) : Nat) : Int) == ((mx (stp z0) : Nat) : Int)) = true := by simp
        have e2 : (((mx (stp z1) : Nat) : Int) == ((mx (stp z1) : Nat) : Int)) = true := by simp
        clear hap hd1 HD HC
        go_wp2_with fail
        refine (fun key : ∀ W3, Dz w (stp z0) (stp z1) (stp z0) (stp z1) W3 → (?G : World → Prop) W3 => ?main) ?kp
        case main =>
          go_region_with (first
            | (go_at_call 9; refine HAp.out.mono ?_; rintro e w' ⟨rfl, hst⟩; obtain ⟨q0, q1, q2, q3⟩ := hst.cells)
            | (go_at_call 10; first | with_reducible refine (Dz.next0 (by assumption)).mono ?_ | with_reducible refine (Dz.next1 (by assumption)).mono ?_
               rintro e w' ⟨rfl, hst⟩; obtain ⟨q0, q1, q2, q3⟩ := hst.cells)
            | (go_at_call 11; first | with_reducible refine (Dz.rnext0 (by assumption)).mono ?_ | with_reducible refine (Dz.rnext1 (by assumption)).mono ?_
               rintro e w' ⟨rfl, hst⟩; obtain ⟨q0, q1, q2, q3⟩ := hst.cells)
            | (go_at_call 7; refine (Dz.lives (by assumption)).mono ?_; rintro e w' ⟨rfl, hst⟩))
          all_goals exact key _ (by assumption)
        case kp =>
          intro W3 h3
          have HF : Hid (Post (.returned (.bool true)) W3) := by
            unfold Hid; rw [HPost.out]
            exact ⟨rfl, h3.2.2.2.2.2.2⟩
          clear h3
          go_wp2
          first | exact HF.out | (go_ret; exact HF.out)
end Go.Proofs.YthnpdlbcdaodkaaDoor
