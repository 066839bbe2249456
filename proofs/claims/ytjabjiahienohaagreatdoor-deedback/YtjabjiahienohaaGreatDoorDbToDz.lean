/-
  A player's or a card's cell written, in a state of one's own.
-/
import Derived.Test.YtjabjiahienohaaGreatDoorFf6ToDa
import Derived.Test.YtjabjiahienohaaGreatDoorFaToFc
namespace Go.Proofs.YtjabjiahienohaaGreatDoor
open Go.RowKit
attribute [local go_sem ↓] Go.wp_at_zero Go.wp_at_succ

namespace DE
open Go.Proofs.YtjabjiahienohaaGreatDoor.ST
theorem flat_set {E : Type} (f : E → List Value) (sz : Nat) (hf : ∀ e, (f e).length = sz) (x : Value) (y : E) : ∀ (l : List E) (i k : Nat) (z : E), l[i]? = some z → k < sz → (f z).set k x = f y → (l.flatMap f).set (i * sz + k) x = (l.set i y).flatMap f := by
  intro l
  induction l with
  | nil => intro i k z h; simp at h
  | cons a l ih =>
    intro i k z h hk hy
    cases i with
    | zero =>
      simp only [List.getElem?_cons_zero, Option.some.injEq] at h
      subst h
      rw [Nat.zero_mul, Nat.zero_add, List.flatMap_cons, List.set_append_left _ _ (by rw [hf]; exact hk), hy]
      rfl
    | succ i =>
      rw [List.getElem?_cons_succ] at h
      have e1 : (i + 1) * sz + k = sz + (i * sz + k) := by rw [Nat.succ_mul]; omega
      rw [List.flatMap_cons, List.set_append_right _ _ (by rw [hf, e1]; omega), hf, e1, Nat.add_sub_cancel_left, ih i k z h hk hy]
      rfl
theorem own_setS {W : World} {base e sz n g cap z : Nat} {vs : List Value} {x : Value} (h : W.ownsRow base e sz (.slice (some ⟨g, 0, none⟩) n cap) n vs) : (W.setCell ⟨g, z, none⟩ x).ownsRow base e sz (.slice (some ⟨g, 0, none⟩) n cap) n (vs.set z x) := by
  refine ⟨by simpa using h.1, ?_⟩
  rcases h.2 with ⟨h', _⟩ | ⟨g', cap', cur, h', hb, hg, hnc, hcm, hcs, htake⟩
  · simp at h'
  · simp only [Value.slice.injEq, Option.some.injEq, Addr.mk.injEq, and_true, true_and] at h'
    obtain ⟨rfl, rfl⟩ := h'
    refine .inr ⟨g, cap, cur.setIfInBounds z x, rfl, hb, ?_, hnc, hcm, by simpa using hcs, ?_⟩
    · simp only [World.setCell, Array.getElem?_modify]
      rw [if_pos trivial, hg]
      rfl
    · rw [← htake]
      simp [List.take_set]
/- where the list of an own state lies -/
theorem own_list {W : World} {base e sz n : Nat} {v : Value} {xs : List Value} (h : W.ownsRow base e sz v n xs) (hn : n ≠ 0) : ∃ g cap cur, v = .slice (some ⟨g, 0, none⟩) n cap ∧ base ≤ g ∧ W.heap[g]? = some (.cells cur e (0, 0)) := by
  rcases h.2 with ⟨_, e1⟩ | ⟨g, cap, cur, e1, e2, e3, -⟩
  · exact absurd e1 hn
  · exact ⟨g, cap, cur, e1, e2, e3⟩
theorem kt_set {w : World} {g j : Nat} {u : Value} {c : Array Value} {t0 : TypeId} (h : w.heap[g]? = some (.cells c t0 (0, 0))) (ht0 : t0 = 99 ∨ t0 = 97 ∨ t0 = 28 ∨ t0 = 3) : KT w (w.setCell ⟨g, j, none⟩ u) := fun k cur t hk _ h2 h3 h4 h5 => by
  rw [Below.heap_setCell _ _ _ _ (fun e => ?_)]
  · exact hk
  · have e' : k = g := e
    subst e'
    rw [h] at hk
    simp only [Option.some.injEq, Obj.cells.injEq] at hk
    rcases ht0 with q | q | q | q
    · exact h2 (hk.2.1.symm.trans q)
    · exact h3 (hk.2.1.symm.trans q)
    · exact h4 (hk.2.1.symm.trans q)
    · exact h5 (hk.2.1.symm.trans q)
theorem heap_set_ty {w : World} {g b j : Nat} {u : Value} {c c' : Array Value} {t t' : TypeId} (h : w.heap[g]? = some (.cells c t (0, 0))) (hb : w.heap[b]? = some (.cells c' t' (0, 0))) (ht : t' ≠ t) : (w.setCell ⟨g, j, none⟩ u).heap[b]? = some (.cells c' t' (0, 0)) := by
  rw [Below.heap_setCell _ _ _ _ (fun e => ?_)]
  · exact hb
  · have e' : b = g := e
    subst e'
    rw [h] at hb
    simp only [Option.some.injEq, Obj.cells.injEq] at hb
    exact ht hb.2.1.symm
/- a player -/
theorem own_player {B base b : Nat} {s : Stt} {w : World} (h : Own base w b s) (hB : B ≤ base) (hb : B ≤ b) (i : Nat) (hi : i < s.ps.length) : ∃ g cap vc vz, OwnC w b (.slice (some ⟨g, 0, none⟩) s.ps.length cap) vc vz s ∧ (∀ w1, Up w w1 → (w1.cell? ⟨g, i * 3, none⟩ = some (.int .i32 (s.ps.getD i dp).life) ∧ w1.cell? ⟨g, i * 3 + 1, none⟩ = some (.int .i32 (s.ps.getD i dp).energy) ∧ w1.cell? ⟨g, i * 3 + 2, none⟩ = some (.bool (s.ps.getD i dp).out)) ∧ (∀ j, w1.frozen? ⟨g, j, none⟩ = false) ∧ g ≠ b) ∧
    ∀ k x p', k < 3 → (pv (s.ps.getD i dp)).set k x = pv p' → ∀ w1, Up w w1 → Did B base b { s with ps := s.ps.set i p' } w (w1.setCell ⟨g, i * 3 + k, none⟩ x) := by
  have hlt := h.lt
  obtain ⟨vp, vc, vz, h1, h2⟩ := h
  obtain ⟨vp', vc', vz', hv, p1, p2, vs, p3, p4, p5⟩ := h2
  unfold sv at hv
  simp only [Value.agg.injEq, Array.mk.injEq, List.cons.injEq, and_true] at hv
  obtain ⟨rfl, rfl, rfl⟩ := hv
  obtain ⟨g, cap, cur, rfl, hg, hgc⟩ := own_list p1 (by omega)
  have hgb : g ≠ b := fun e => by
    subst e
    unfold OwnC at h1
    rw [h1] at hgc
    simp at hgc
  refine ⟨g, cap, vc, vz, h1, fun w1 u => ⟨?_, fun j => by simp [World.frozen?, u.heap hgc], hgb⟩, fun k x p' hk hx w1 u => ⟨⟨_, vc, vz, heap_set_ty (u.heap hgc) (u.heap h1) (by decide), ?_⟩, ?_, (KT.up u).trans (kt_set (u.heap hgc) (.inl rfl))⟩⟩
  · have r := row_up p1 u
    have key : ∀ j, j < 3 → w1.cell? ⟨g, i * 3 + j, none⟩ = (pv (s.ps.getD i dp))[j]? := fun j hj => by
      rw [r.cellAt _ (by omega)]
      exact flat_get pv 3 (fun _ => rfl) dp s.ps i j hi hj
    exact ⟨key 0 (by decide), key 1 (by decide), key 2 (by decide)⟩
  · have hz : s.ps[i]? = some (s.ps.getD i dp) := by rw [List.getD_eq_getElem?_getD, List.getElem?_eq_getElem hi]; rfl
    refine ⟨_, vc, vz, rfl, ?_, row_set_ty (row_up p2 u) (u.heap hgc) (by decide), vs, row_set_ty (row_up p3 u) (u.heap hgc) (by decide), fun q hq => row_set_ty (row_up (p4 q hq) u) (u.heap hgc) (by decide), p5⟩
    have r := own_setS (z := i * 3 + k) (x := x) (row_up p1 u)
    unfold PO
    have e1 : (pvs s.ps).set (i * 3 + k) x = pvs (s.ps.set i p') := flat_set pv 3 (fun _ => rfl) x p' s.ps i k _ hz hk hx
    rw [← e1, List.length_set]
    exact r
  · exact Below.setCell (Below.mono u (by omega)) (by show B ≤ g; omega) _
theorem own_card {B base b : Nat} {s : Stt} {w : World} (h : Own base w b s) (hB : B ≤ base) (hb : B ≤ b) (i : Nat) (hi : i < s.cs.length) : ∃ g cap vp vz, OwnC w b vp (.slice (some ⟨g, 0, none⟩) s.cs.length cap) vz s ∧ (∀ w1, Up w w1 → (w1.cell? ⟨g, i * 6 + 2, none⟩ = some (.int .i32 (s.cs.getD i dc).power) ∧ w1.cell? ⟨g, i * 6 + 3, none⟩ = some (.int .i32 (s.cs.getD i dc).health) ∧ w1.cell? ⟨g, i * 6 + 4, none⟩ = some (.int .i32 (s.cs.getD i dc).damage) ∧ w1.cell? ⟨g, i * 6 + 5, none⟩ = some (.int .i32 (s.cs.getD i dc).marks)) ∧ (∀ j, w1.frozen? ⟨g, j, none⟩ = false) ∧ g ≠ b) ∧
    ∀ k x p', k < 6 → (cv (s.cs.getD i dc)).set k x = cv p' → ∀ w1, Up w w1 → Did B base b { s with cs := s.cs.set i p' } w (w1.setCell ⟨g, i * 6 + k, none⟩ x) := by
  have hlt := h.lt
  obtain ⟨vp, vc, vz, h1, h2⟩ := h
  obtain ⟨vp', vc', vz', hv, p1, p2, vs, p3, p4, p5⟩ := h2
  unfold sv at hv
  simp only [Value.agg.injEq, Array.mk.injEq, List.cons.injEq, and_true] at hv
  obtain ⟨rfl, rfl, rfl⟩ := hv
  obtain ⟨g, cap, cur, rfl, hg, hgc⟩ := own_list p2 (by omega)
  have hgb : g ≠ b := fun e => by
    subst e
    unfold OwnC at h1
    rw [h1] at hgc
    simp at hgc
  refine ⟨g, cap, vp, vz, h1, fun w1 u => ⟨?_, fun j => by simp [World.frozen?, u.heap hgc], hgb⟩, fun k x p' hk hx w1 u => ⟨⟨vp, _, vz, heap_set_ty (u.heap hgc) (u.heap h1) (by decide), ?_⟩, ?_, (KT.up u).trans (kt_set (u.heap hgc) (.inr (.inl rfl)))⟩⟩
  · have r := row_up p2 u
    have key : ∀ j, j < 6 → w1.cell? ⟨g, i * 6 + j, none⟩ = (cv (s.cs.getD i dc))[j]? := fun j hj => by
      rw [r.cellAt _ (by omega)]
      exact flat_get cv 6 (fun _ => rfl) dc s.cs i j hi hj
    exact ⟨key 2 (by decide), key 3 (by decide), key 4 (by decide), key 5 (by decide)⟩
  · have hz : s.cs[i]? = some (s.cs.getD i dc) := by rw [List.getD_eq_getElem?_getD, List.getElem?_eq_getElem hi]; rfl
    refine ⟨vp, _, vz, rfl, row_set_ty (row_up p1 u) (u.heap hgc) (by decide), ?_, vs, row_set_ty (row_up p3 u) (u.heap hgc) (by decide), fun q hq => row_set_ty (row_up (p4 q hq) u) (u.heap hgc) (by decide), p5⟩
    have r := own_setS (z := i * 6 + k) (x := x) (row_up p2 u)
    unfold CO
    have e1 : (cvs s.cs).set (i * 6 + k) x = cvs (s.cs.set i p') := flat_set cv 6 (fun _ => rfl) x p' s.cs i k _ hz hk hx
    rw [← e1, List.length_set]
    exact r
  · exact Below.setCell (Below.mono u (by omega)) (by show B ≤ g; omega) _
end DE
end Go.Proofs.YtjabjiahienohaaGreatDoor
/-
  Players out, fields of players and cards: done and taken back.
-/
namespace Go.Proofs.YtjabjiahienohaaGreatDoor
open Go.RowKit
attribute [local go_sem ↓] Go.wp_at_zero Go.wp_at_succ

namespace DE
open Go.Proofs.YtjabjiahienohaaGreatDoor.ST
def pSet (p : Ply) (f x : Int) : Ply := if f = 5 then { p with life := x } else { p with energy := x }
def cSet (c : Crd) (f x : Int) : Crd := if f = 1 then { c with power := x } else if f = 2 then { c with health := x } else if f = 3 then { c with damage := x } else { c with marks := x }
theorem p_set (f : Int) (p : Ply) (y x : Int) (h : pGet p f = some y) : ∃ k, pOff f = some k ∧ k < 3 ∧ (pv p).set k (.int .i32 x) = pv (pSet p f x) := by
  unfold pGet at h
  unfold pOff pSet
  by_cases h1 : f = 5
  · rw [if_pos h1, if_pos h1]
    exact ⟨0, rfl, by decide, rfl⟩
  · rw [if_neg h1] at h
    by_cases h2 : f = 6
    · rw [if_neg h1, if_neg h1, if_pos h2]
      exact ⟨1, rfl, by decide, rfl⟩
    · rw [if_neg h2] at h
      cases h
theorem c_set (f : Int) (p : Crd) (y x : Int) (h : cGet p f = some y) : ∃ k, cOff f = some k ∧ k < 6 ∧ (cv p).set k (.int .i32 x) = cv (cSet p f x) := by
  unfold cGet at h
  unfold cOff cSet
  by_cases h1 : f = 1
  · rw [if_pos h1, if_pos h1]
    exact ⟨2, rfl, by decide, rfl⟩
  · rw [if_neg h1] at h
    by_cases h2 : f = 2
    · rw [if_neg h1, if_neg h1, if_pos h2, if_pos h2]
      exact ⟨3, rfl, by decide, rfl⟩
    · rw [if_neg h2] at h
      by_cases h3 : f = 3
      · rw [if_neg h1, if_neg h1, if_neg h2, if_neg h2, if_pos h3, if_pos h3]
        exact ⟨4, rfl, by decide, rfl⟩
      · rw [if_neg h3] at h
        by_cases h4 : f = 4
        · rw [if_neg h1, if_neg h1, if_neg h2, if_neg h2, if_neg h3, if_neg h3, if_pos h4]
          exact ⟨5, rfl, by decide, rfl⟩
        · rw [if_neg h4] at h
          cases h
set_option maxRecDepth 100000 in
set_option maxHeartbeats 4000000 in
theorem doOut_ (B base b : Nat) (s : Stt) (e : Ev) (oa : Option Addr) (on oc : Nat) (w : World) (h : Own base w b s) (hB : B ≤ base) (hb : B ≤ b) (hn : numB e.player s.ps.length = true) : Calls Tryz.prog 149 #[.pointer (some ⟨b, 0, none⟩), evv e (.slice oa on oc)] w fun x w' => x = .returned (.tuple #[]) ∧ Did B base b { s with ps := s.ps.set e.player.toNat { s.ps.getD e.player.toNat dp with out := true } } w w' := by
  have hlt := h.lt
  unfold evv evc
  obtain ⟨kind, field, card, player, other, fr, frAt, to_, toAt, was, now, ord⟩ := e
  dsimp only at *
  obtain ⟨i, rfl, hi⟩ := num_nat hn
  rw [Int.toNat_natCast]
  obtain ⟨g, cap, vc, vz, h1, h2, h3⟩ := own_player h hB hb i hi
  have HD : Hid _ := h3 2 (.bool true) { s.ps.getD i dp with out := true } (by decide) rfl
  have HC : Hid _ := h2
  obtain ⟨c0, c1, c2, c3, c4, c5, c6⟩ := seven_cells h1
  obtain ⟨⟨x0, x1, x2⟩, xf, hgb⟩ := h2 w (Up.refl _)
  have hgl : g < w.heap.size := World.block_lt_of_cell? w _ x2
  have hi2 : (i : Int) < (s.ps.length : Int) := by omega
  generalize s.ps.length = m at *
  clear h1 h2 h3 hn h
  go_enter Tryz.func149, Tryz.ntmps149
  go_wp2_with fail
  go_region
  go_wp2
  exact bodyPost_end (v := .tuple #[]) (by simp [results, go_sem]) rfl ⟨rfl, Did.up (HD.out w (Up.refl _)) (((Up.refl _).alloc _).drew) (Did.size (HD.out w (Up.refl _)) hb)⟩
set_option maxRecDepth 100000 in
set_option maxHeartbeats 4000000 in
theorem undoOut_ (B base b : Nat) (s : Stt) (e : Ev) (oa : Option Addr) (on oc : Nat) (w : World) (h : Own base w b s) (hB : B ≤ base) (hb : B ≤ b) (hn : numB e.player s.ps.length = true) : Calls Tryz.prog 150 #[.pointer (some ⟨b, 0, none⟩), evv e (.slice oa on oc)] w fun x w' => x = .returned (.tuple #[]) ∧ Did B base b { s with ps := s.ps.set e.player.toNat { s.ps.getD e.player.toNat dp with out := false } } w w' := by
  have hlt := h.lt
  unfold evv evc
  obtain ⟨kind, field, card, player, other, fr, frAt, to_, toAt, was, now, ord⟩ := e
  dsimp only at *
  obtain ⟨i, rfl, hi⟩ := num_nat hn
  rw [Int.toNat_natCast]
  obtain ⟨g, cap, vc, vz, h1, h2, h3⟩ := own_player h hB hb i hi
  have HD : Hid _ := h3 2 (.bool false) { s.ps.getD i dp with out := false } (by decide) rfl
  have HC : Hid _ := h2
  obtain ⟨c0, c1, c2, c3, c4, c5, c6⟩ := seven_cells h1
  obtain ⟨⟨x0, x1, x2⟩, xf, hgb⟩ := h2 w (Up.refl _)
  have hgl : g < w.heap.size := World.block_lt_of_cell? w _ x2
  have hi2 : (i : Int) < (s.ps.length : Int) := by omega
  generalize s.ps.length = m at *
  clear h1 h2 h3 hn h
  go_enter Tryz.func150, Tryz.ntmps150
  go_wp2_with fail
  go_region
  go_wp2
  exact bodyPost_end (v := .tuple #[]) (by simp [results, go_sem]) rfl ⟨rfl, Did.up (HD.out w (Up.refl _)) (((Up.refl _).alloc _).drew) (Did.size (HD.out w (Up.refl _)) hb)⟩
set_option maxRecDepth 100000 in
set_option maxHeartbeats 4000000 in
theorem doPlayer_ (B base b : Nat) (s : Stt) (e : Ev) (oa : Option Addr) (on oc : Nat) (w : World) (h : Own base w b s) (hB : B ≤ base) (hb : B ≤ b) (hn : numB e.player s.ps.length = true) (y : Int) (hy : pGet (s.ps.getD e.player.toNat dp) e.field = some y) : Calls Tryz.prog 138 #[.pointer (some ⟨b, 0, none⟩), evv e (.slice oa on oc)] w fun x w' => x = .returned (.tuple #[]) ∧ Did B base b { s with ps := s.ps.set e.player.toNat (pSet (s.ps.getD e.player.toNat dp) e.field e.now) } w w' := by
  have hlt := h.lt
  have HST : Hid _ := playerStat_
  unfold evv evc
  obtain ⟨kind, field, card, player, other, fr, frAt, to_, toAt, was, now, ord⟩ := e
  dsimp only at *
  obtain ⟨i, rfl, hi⟩ := num_nat hn
  rw [Int.toNat_natCast] at hy ⊢
  obtain ⟨g, cap, vc, vz, h1, h2, h3⟩ := own_player h hB hb i hi
  obtain ⟨kk, q1, q2, q3⟩ := p_set field _ y now hy
  have HD : Hid _ := h3 kk (.int .i32 now) _ q2 q3
  have HS1 : Hid _ := fun b o => HST.out b o field
  simp only [q1, pAt, Option.map_some] at HS1
  obtain ⟨c0, c1, c2, c3, c4, c5, c6⟩ := seven_cells h1
  obtain ⟨xx, xf, hgb⟩ := h2 w (Up.refl _)
  have hx : w.cell? ⟨g, i * 3 + kk, none⟩ = some (.int .i32 y) := by
    rcases p_field field (s.ps.getD i dp) with ⟨z1, z2⟩ | ⟨k', x', z1, z2, z3⟩
    · rw [z2] at hy; cases hy
    · rw [z1] at q1
      rw [z2] at hy
      cases q1
      cases hy
      exact z3 w g (i * 3) ⟨xx.1, xx.2.1⟩
  have hgl : g < w.heap.size := World.block_lt_of_cell? w _ hx
  have hi2 : (i : Int) < (s.ps.length : Int) := by omega
  generalize s.ps.length = m at *
  clear h1 h2 h3 hn h xx HST q1 q2 q3 hy
  go_enter Tryz.func138, Tryz.ntmps138
  go_wp2_with fail
  refine TailR.wp_region_seq 13 (by kernel_rfl) (by kernel_rfl) ?_
  simp only [List.take_succ_cons, List.take_zero, List.drop_succ_cons, List.drop_zero]
  repeat (go_big_quiet_step (exact Calls.quiet_of_same (HS1.out _ _ _)))
  refine wpQuiet_nil ?_
  intro _ hw'
  obtain ⟨nq, hw''⟩ := hw'
  subst hw''
  go_wp2
  first
    | exact bodyPost_end (v := .tuple #[]) (by simp [results, go_sem]) rfl ⟨rfl, HD.out _ (((Up.refl _).alloc _).drewN nq)⟩
    | exact bodyPost_end (v := .tuple #[]) (by simp [results, go_sem]) rfl ⟨rfl, Did.up (HD.out w (Up.refl _)) (((Up.refl _).alloc _).drewN nq) (Did.size (HD.out w (Up.refl _)) hb)⟩
set_option maxRecDepth 100000 in
set_option maxHeartbeats 4000000 in
theorem doCard_ (B base b : Nat) (s : Stt) (e : Ev) (oa : Option Addr) (on oc : Nat) (w : World) (h : Own base w b s) (hB : B ≤ base) (hb : B ≤ b) (hn : numB e.card s.cs.length = true) (y : Int) (hy : cGet (s.cs.getD e.card.toNat dc) e.field = some y) : Calls Tryz.prog 132 #[.pointer (some ⟨b, 0, none⟩), evv e (.slice oa on oc)] w fun x w' => x = .returned (.tuple #[]) ∧ Did B base b { s with cs := s.cs.set e.card.toNat (cSet (s.cs.getD e.card.toNat dc) e.field e.now) } w w' := by
  have hlt := h.lt
  have HST : Hid _ := cardStat_
  unfold evv evc
  obtain ⟨kind, field, card, player, other, fr, frAt, to_, toAt, was, now, ord⟩ := e
  dsimp only at *
  obtain ⟨i, rfl, hi⟩ := num_nat hn
  rw [Int.toNat_natCast] at hy ⊢
  obtain ⟨g, cap, vp, vz, h1, h2, h3⟩ := own_card h hB hb i hi
  obtain ⟨kk, q1, q2, q3⟩ := c_set field _ y now hy
  have HD : Hid _ := h3 kk (.int .i32 now) _ q2 q3
  have HS1 : Hid _ := fun b o => HST.out b o field
  simp only [q1, pAt, Option.map_some] at HS1
  obtain ⟨c0, c1, c2, c3, c4, c5, c6⟩ := seven_cells h1
  obtain ⟨xx, xf, hgb⟩ := h2 w (Up.refl _)
  have hx : w.cell? ⟨g, i * 6 + kk, none⟩ = some (.int .i32 y) := by
    rcases c_field field (s.cs.getD i dc) with ⟨z1, z2⟩ | ⟨k', x', z1, z2, z3⟩
    · rw [z2] at hy; cases hy
    · rw [z1] at q1
      rw [z2] at hy
      cases q1
      cases hy
      exact z3 w g (i * 6) xx
  have hgl : g < w.heap.size := World.block_lt_of_cell? w _ hx
  have hi2 : (i : Int) < (s.cs.length : Int) := by omega
  generalize s.cs.length = m at *
  clear h1 h2 h3 hn h xx HST q1 q2 q3 hy
  go_enter Tryz.func132, Tryz.ntmps132
  go_wp2_with fail
  refine TailR.wp_region_seq 13 (by kernel_rfl) (by kernel_rfl) ?_
  simp only [List.take_succ_cons, List.take_zero, List.drop_succ_cons, List.drop_zero]
  repeat (go_big_quiet_step (exact Calls.quiet_of_same (HS1.out _ _ _)))
  refine wpQuiet_nil ?_
  intro _ hw'
  obtain ⟨nq, hw''⟩ := hw'
  subst hw''
  go_wp2
  first
    | exact bodyPost_end (v := .tuple #[]) (by simp [results, go_sem]) rfl ⟨rfl, HD.out _ (((Up.refl _).alloc _).drewN nq)⟩
    | exact bodyPost_end (v := .tuple #[]) (by simp [results, go_sem]) rfl ⟨rfl, Did.up (HD.out w (Up.refl _)) (((Up.refl _).alloc _).drewN nq) (Did.size (HD.out w (Up.refl _)) hb)⟩
end DE
end Go.Proofs.YtjabjiahienohaaGreatDoor
/-
  Changes taken back.
-/
namespace Go.Proofs.YtjabjiahienohaaGreatDoor
open Go.RowKit
attribute [local go_sem ↓] Go.wp_at_zero Go.wp_at_succ

namespace DE
open Go.Proofs.YtjabjiahienohaaGreatDoor.ST
theorem did_from {B base b : Nat} {s' : Stt} {w w1 W : World} (u : Up w w1) (hB : B ≤ w.heap.size) (h : Did B base b s' w1 W) : Did B base b s' w W := ⟨h.1, Below.trans (Below.mono u hB) h.2.1, (KT.up u).trans h.2.2⟩
set_option maxRecDepth 100000 in
set_option maxHeartbeats 4000000 in
theorem undoPlayer_ (B base b : Nat) (s : Stt) (e : Ev) (oa : Option Addr) (on oc : Nat) (w : World) (h : Own base w b s) (hB : B ≤ base) (hb : B ≤ b) (hn : numB e.player s.ps.length = true) (y : Int) (hy : pGet (s.ps.getD e.player.toNat dp) e.field = some y) : Calls Tryz.prog 139 #[.pointer (some ⟨b, 0, none⟩), evv e (.slice oa on oc)] w fun x w' => x = .returned (.tuple #[]) ∧ Did B base b { s with ps := s.ps.set e.player.toNat (pSet (s.ps.getD e.player.toNat dp) e.field e.was) } w w' := by
  have hsz : B ≤ w.heap.size := Nat.le_trans hb (Nat.le_of_lt h.lt)
  have HT : Hid _ := turned_ e oa on oc
  have HD : Hid (∀ W, Up w W → _) := fun W u => doPlayer_ B base b s (turnedE e) oa on oc W (h.up u) hB hb hn y hy
  have HS : Hid (∀ W W', Up w W → Did B base b { s with ps := s.ps.set e.player.toNat (pSet (s.ps.getD e.player.toNat dp) e.field e.was) } W W' → Did B base b { s with ps := s.ps.set e.player.toNat (pSet (s.ps.getD e.player.toNat dp) e.field e.was) } w W') := fun W W' u hd => did_from u hsz hd
  have e1 : (turnedE e).player = e.player := rfl
  have e2 : (turnedE e).field = e.field := rfl
  have e3 : (turnedE e).now = e.was := rfl
  rw [e1, e2, e3] at HD
  generalize ({ s with ps := s.ps.set e.player.toNat (pSet (s.ps.getD e.player.toNat dp) e.field e.was) } : Stt) = s' at *
  generalize evv (turnedE e) (.slice oa on oc) = te at *
  clear h hn hy e1 e2 e3
  unfold evv evc at *
  go_enter Tryz.func139, Tryz.ntmps139
  go_wp2_with fail
  refine Calls.mono (HT.out _) ?_
  rintro r W1 ⟨rfl, u1⟩
  have HU1 : Hid (Up w W1) := Up.trans ((Up.refl _).alloc _) u1
  clear u1
  go_wp2_with fail
  refine Calls.mono (HD.out _ HU1.out) ?_
  rintro r W2 ⟨rfl, d2⟩
  have HD2 : Hid _ := HS.out _ _ HU1.out d2
  clear d2
  go_wp2
  exact bodyPost_end (v := .tuple #[]) (by simp [results, go_sem]) rfl ⟨rfl, HD2.out⟩
set_option maxRecDepth 100000 in
set_option maxHeartbeats 4000000 in
theorem undoCard_ (B base b : Nat) (s : Stt) (e : Ev) (oa : Option Addr) (on oc : Nat) (w : World) (h : Own base w b s) (hB : B ≤ base) (hb : B ≤ b) (hn : numB e.card s.cs.length = true) (y : Int) (hy : cGet (s.cs.getD e.card.toNat dc) e.field = some y) : Calls Tryz.prog 133 #[.pointer (some ⟨b, 0, none⟩), evv e (.slice oa on oc)] w fun x w' => x = .returned (.tuple #[]) ∧ Did B base b { s with cs := s.cs.set e.card.toNat (cSet (s.cs.getD e.card.toNat dc) e.field e.was) } w w' := by
  have hsz : B ≤ w.heap.size := Nat.le_trans hb (Nat.le_of_lt h.lt)
  have HT : Hid _ := turned_ e oa on oc
  have HD : Hid (∀ W, Up w W → _) := fun W u => doCard_ B base b s (turnedE e) oa on oc W (h.up u) hB hb hn y hy
  have HS : Hid (∀ W W', Up w W → Did B base b { s with cs := s.cs.set e.card.toNat (cSet (s.cs.getD e.card.toNat dc) e.field e.was) } W W' → Did B base b { s with cs := s.cs.set e.card.toNat (cSet (s.cs.getD e.card.toNat dc) e.field e.was) } w W') := fun W W' u hd => did_from u hsz hd
  have e1 : (turnedE e).card = e.card := rfl
  have e2 : (turnedE e).field = e.field := rfl
  have e3 : (turnedE e).now = e.was := rfl
  rw [e1, e2, e3] at HD
  generalize ({ s with cs := s.cs.set e.card.toNat (cSet (s.cs.getD e.card.toNat dc) e.field e.was) } : Stt) = s' at *
  generalize evv (turnedE e) (.slice oa on oc) = te at *
  clear h hn hy e1 e2 e3
  unfold evv evc at *
  go_enter Tryz.func133, Tryz.ntmps133
  go_wp2_with fail
  refine Calls.mono (HT.out _) ?_
  rintro r W1 ⟨rfl, u1⟩
  have HU1 : Hid (Up w W1) := Up.trans ((Up.refl _).alloc _) u1
  clear u1
  go_wp2_with fail
  refine Calls.mono (HD.out _ HU1.out) ?_
  rintro r W2 ⟨rfl, d2⟩
  have HD2 : Hid _ := HS.out _ _ HU1.out d2
  clear d2
  go_wp2
  exact bodyPost_end (v := .tuple #[]) (by simp [results, go_sem]) rfl ⟨rfl, HD2.out⟩
end DE
end Go.Proofs.YtjabjiahienohaaGreatDoor
/-
  A zone of a state of one's own put anew.
-/
namespace Go.Proofs.YtjabjiahienohaaGreatDoor
open Go.RowKit

namespace DE
open Go.Proofs.YtjabjiahienohaaGreatDoor.ST
theorem ra_set {n i : Nat} {vs : List Value} {x : Value} (h : RA n vs) (hi : i < vs.length) (hx : ∀ p g, p < n → p ≠ i → (vs.getD p nl).ownBlock = some g → x.ownBlock ≠ some g) : RA n (vs.set i x) := by
  have e1 : (vs.set i x).getD i nl = x := by rw [List.getD_eq_getElem?_getD, List.getElem?_set_self hi]; rfl
  have e2 : ∀ p, p ≠ i → (vs.set i x).getD p nl = vs.getD p nl := fun p hp => by rw [List.getD_eq_getElem?_getD, List.getElem?_set_ne (fun h => hp h.symm), ← List.getD_eq_getElem?_getD]
  intro p q g hp hq hpq h1 h2
  by_cases ep : p = i
  · subst ep
    rw [e1] at h1
    rw [e2 q (fun h => hpq h.symm)] at h2
    exact hx q g hq (fun h => hpq h.symm) h2 h1
  · rw [e2 p ep] at h1
    by_cases eq : q = i
    · subst eq
      rw [e1] at h2
      exact hx p g hp ep h1 h2
    · rw [e2 q eq] at h2
      exact h p q g hp hq hpq h1 h2
/- the zones of an own state -/
theorem own_zone {B base b : Nat} {s : Stt} {w : World} (h : Own base w b s) (hB : B ≤ base) (hb : B ≤ b) (i : Nat) (hi : i < s.zs.length) : ∃ gz cap vp vc, ∃ vs : List Value, OwnC w b vp vc (.slice (some ⟨gz, 0, none⟩) s.zs.length cap) s ∧ IRow base w (vs.getD i nl) (s.zs.getD i []) ∧
    (∀ w1, Up w w1 → w1.cell? ⟨gz, i, none⟩ = some (vs.getD i nl) ∧ (∀ j, w1.frozen? ⟨gz, j, none⟩ = false) ∧ gz ≠ b) ∧ (∀ p g, p < s.zs.length → (vs.getD p nl).ownBlock = some g → g < w.heap.size) ∧
    ∀ w1 x l', Up w w1 → IRow base w1 x l' → (∀ g, x.ownBlock = some g → ∀ p, p < s.zs.length → p ≠ i → (vs.getD p nl).ownBlock ≠ some g) → Did B base b { s with zs := s.zs.set i l' } w (w1.setCell ⟨gz, i, none⟩ x) := by
  have hlt := h.lt
  obtain ⟨vp, vc, vz, h1, h2⟩ := h
  obtain ⟨vp', vc', vz', hv, p1, p2, vs, p3, p4, p5⟩ := h2
  unfold sv at hv
  simp only [Value.agg.injEq, Array.mk.injEq, List.cons.injEq, and_true] at hv
  obtain ⟨rfl, rfl, rfl⟩ := hv
  obtain ⟨g, cap, cur, rfl, hg, hgc⟩ := own_list p3 (by omega)
  have hvl : vs.length = s.zs.length := by have := p3.1; omega
  have hgb : g ≠ b := fun e => by
    subst e
    unfold OwnC at h1
    rw [h1] at hgc
    simp at hgc
  refine ⟨g, cap, vp, vc, vs, h1, p4 i hi, fun w1 u => ⟨?_, fun j => by simp [World.frozen?, u.heap hgc], hgb⟩, fun p q hp e => ((p4 p hp).lt q e).2, fun w1 x l' u hx hne => ⟨⟨vp, vc, _, heap_set_ty (u.heap hgc) (u.heap h1) (by decide), ?_⟩, ?_, (KT.up u).trans (kt_set (u.heap hgc) (.inr (.inr (.inl rfl))))⟩⟩
  · have r := row_up p3 u
    rw [r.cellAt _ (by omega), List.getD_eq_getElem?_getD, List.getElem?_eq_getElem (by omega)]
    rfl
  · have r := own_setS (z := i) (x := x) (row_up p3 u)
    refine ⟨vp, vc, _, rfl, row_set_ty (row_up p1 u) (u.heap hgc) (by decide), row_set_ty (row_up p2 u) (u.heap hgc) (by decide), vs.set i x, ?_, fun q hq => ?_, ?_⟩
    · rw [List.length_set]
      exact r
    · rw [List.length_set] at hq
      by_cases e : q = i
      · subst e
        have e1 : (vs.set q x).getD q nl = x := by rw [List.getD_eq_getElem?_getD, List.getElem?_set_self (by omega)]; rfl
        have e2 : (s.zs.set q l').getD q [] = l' := by rw [List.getD_eq_getElem?_getD, List.getElem?_set_self hq]; rfl
        rw [e1, e2]
        exact row_set_ty hx (u.heap hgc) (by decide)
      · have e1 : (vs.set i x).getD q nl = vs.getD q nl := by rw [List.getD_eq_getElem?_getD, List.getElem?_set_ne (fun h => e h.symm), ← List.getD_eq_getElem?_getD]
        have e2 : (s.zs.set i l').getD q [] = s.zs.getD q [] := by rw [List.getD_eq_getElem?_getD, List.getElem?_set_ne (fun h => e h.symm), ← List.getD_eq_getElem?_getD]
        rw [e1, e2]
        exact row_set_ty (row_up (p4 q hq) u) (u.heap hgc) (by decide)
    · rw [List.length_set]
      exact ra_set p5 (by omega) (fun p q hp hpi e1 e2 => hne q e2 p hp hpi e1)
  · exact Below.setCell (Below.mono u (by omega)) (by show B ≤ g; omega) _
end DE
end Go.Proofs.YtjabjiahienohaaGreatDoor
