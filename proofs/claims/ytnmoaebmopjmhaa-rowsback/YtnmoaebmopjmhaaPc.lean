/-
  Lists of pairs, cell by cell; Put and Cut of whatever list of pairs.
-/
import Derived.Test.YtnmoaebmopjmhaaBp
import Derived.Test.YtnmoaebmopjmhaaCtP
namespace Go.Proofs.Ytnmoaebmopjmhaa
open Go.RowKit
attribute [local go_sem ↓] Go.wp_at_zero Go.wp_at_succ

namespace PR
open IN AP CU OD
def pcv (p : PX) : List Value := [.int .i8 p.1, .string p.2]
def pcs (ps : List PX) : List Value := ps.flatMap pcv
theorem pcs_len (ps : List PX) : (pcs ps).length = ps.length * 2 := flat_len pcv 2 (fun _ => rfl) ps
theorem pcs_get (ps : List PX) (i j : Nat) (hi : i < ps.length) (hj : j < 2) : (pcs ps)[i * 2 + j]? = (pcv (ps.getD i pdx))[j]? := flat_get pcv 2 (fun _ => rfl) pdx ps i j hi hj
theorem pcs_one (ps : List PX) : ∀ u ∈ pcs ps, u.oneCell' = true := by
  intro u hu
  simp only [pcs, List.mem_flatMap, pcv, List.mem_cons, List.not_mem_nil, or_false] at hu
  obtain ⟨z, _, rfl | rfl⟩ := hu <;> rfl
theorem pcs_app (a b : List PX) : pcs (a ++ b) = pcs a ++ pcs b := by simp [pcs]
theorem pcs_take (ps : List PX) (k : Nat) : (pcs ps).take (k * 2) = pcs (ps.take k) := flat_take pcv 2 (fun _ => rfl) ps k
theorem pcs_drop (ps : List PX) (k : Nat) (hk : k ≤ ps.length) : (pcs ps).drop (k * 2) = pcs (ps.drop k) := by
  have h : pcs ps = pcs (ps.take k) ++ pcs (ps.drop k) := by rw [← pcs_app, List.take_append_drop]
  rw [h, List.drop_append, List.drop_of_length_le (by rw [pcs_len, List.length_take]; omega), pcs_len, List.length_take, Nat.min_eq_left hk, Nat.sub_self]
  rfl
theorem pcs_put (ps : List PX) (k : Nat) (x : PX) (hk : k ≤ ps.length) : (pcs ps).take (k * 2) ++ .int .i8 x.1 :: .string x.2 :: (pcs ps).drop (k * 2) = pcs (putL ps k x) := by
  rw [pcs_take, pcs_drop ps k hk, putL, pcs_app]
  rfl
theorem pcs_cut (ps : List PX) (k : Nat) (x : PX) (hk : k ≤ ps.length) : (pcs (putL ps k x)).take (k * 2) ++ (pcs (putL ps k x)).drop ((k + 1) * 2) = pcs ps := by
  have h1 : (putL ps k x).take k = ps.take k := by
    rw [putL, List.take_append_of_le_length (by simp; omega), List.take_of_length_le (by simp; omega)]
  have h2 : (putL ps k x).drop (k + 1) = ps.drop k := by
    rw [putL, List.drop_append, List.drop_of_length_le (by simp; omega)]
    simp [Nat.min_eq_left hk]
  rw [pcs_take, pcs_drop _ _ (by rw [putL_len ps k x hk]; omega), h1, h2, ← pcs_app, List.take_append_drop]
theorem PL.src {W : World} {b off n cap : Nat} {ps : List PX} (h : PL W (.slice (some ⟨b, off, none⟩) n cap) ps) (hn : n ≠ 0) : ∀ j x, (pcs ps)[j]? = some x → W.cell? ⟨b, off + j, none⟩ = some x := by
  intro j x hx
  obtain ⟨a, c, e, -, h⟩ := h
  cases e
  obtain ⟨b', off', e, hc⟩ := h hn
  cases e
  have hj : j < (pcs ps).length := (List.getElem?_eq_some_iff.1 hx).1
  rw [pcs_len] at hj
  have e2 : j / 2 * 2 + j % 2 = j := by rw [Nat.mul_comm]; exact Nat.div_add_mod j 2
  have hi : j / 2 < ps.length := by omega
  have h3 := pcs_get ps (j / 2) (j % 2) hi (Nat.mod_lt _ (by decide))
  rw [e2, hx] at h3
  obtain ⟨c0, c1⟩ := hc (j / 2) hi
  rcases Nat.mod_two_eq_zero_or_one j with hm | hm
  · rw [hm] at h3
    rw [show off + j = off + j / 2 * 2 by omega, c0, h3]
    rfl
  · rw [hm] at h3
    rw [show off + j = off + j / 2 * 2 + 1 by omega, c1, h3]
    rfl
theorem pl_of {W : World} {g n cap : Nat} {ps : List PX} (h : W.heap[g]? = some (.cells (pcs ps).toArray 82 (0, 0))) (hn : n = ps.length) (hc : n ≤ cap) : PL W (.slice (some ⟨g, 0, none⟩) n cap) ps := by
  subst hn
  refine ⟨_, cap, rfl, hc, fun _ => ⟨g, 0, rfl, fun i hi => ?_⟩⟩
  have k : ∀ j, j < 2 → W.cell? ⟨g, 0 + (i * 2 + j), none⟩ = (pcv (ps.getD i pdx))[j]? := fun j hj => by
    rw [← pcs_get ps i j hi hj, Nat.zero_add]
    simp [World.cell?, h]
  exact ⟨k 0 (by decide), by have := k 1 (by decide); rw [← Nat.add_assoc] at this; exact this⟩
theorem PL.take {W : World} {a : Option Addr} {n k cap : Nat} {ps : List PX} (h : PL W (.slice a n cap) ps) (hk : k ≤ n) : PL W (.slice a k cap) (ps.take k) := by
  obtain ⟨a', c, e, hc, h⟩ := h
  cases e
  have hl : (ps.take k).length = k := by rw [List.length_take]; omega
  refine ⟨a, cap, by rw [hl], by rw [hl]; omega, fun hn => ?_⟩
  rw [hl] at hn
  obtain ⟨b, off, ha, hcell⟩ := h (by omega)
  refine ⟨b, off, ha, fun i hi => ?_⟩
  rw [hl] at hi
  have e : (ps.take k).getD i pdx = ps.getD i pdx := by rw [List.getD_eq_getElem?_getD, List.getElem?_take, if_pos hi, ← List.getD_eq_getElem?_getD]
  rw [e]
  exact hcell i (by omega)
theorem made_pair : (madeCells (Value.agg #[.int .i8 0, .string ⟨#[]⟩]).cells (1 * 2)).toList.toArray = #[.int .i8 0, .string ⟨#[]⟩] := by kernel_rfl
set_option maxRecDepth 100000 in
set_option maxHeartbeats 4000000 in
theorem put_empty (a : Option Addr) (cap : Nat) (x : PX) (w : World) : Calls Try.prog 40 #[.slice a 0 cap, .int .i64 0, .agg #[.int .i8 x.1, .string x.2]] w (PutPostP w 0 0 [] x) := by
  obtain ⟨iT, hiT, z0, z1, z2⟩ := info_parts infoPr
  obtain ⟨Post, hPost⟩ : ∃ P : Ending → World → Prop, P = PutPostP w 0 0 [] x := ⟨_, rfl⟩
  rw [← hPost]
  have HPost : Hid (Post = PutPostP w 0 0 [] x) := hPost
  have hrun : ∀ W dp sp dn dc sc, (Builtin.copy_ #[79, 79] 3 #[.slice dp dn dc, .slice sp 0 sc]).run Try.prog W = .ok (goInt 0) W := fun W dp sp dn dc sc => run_copy0 W 79 79 3 82 2 Try.underlying79 sizePr dp sp dn dc sc
  obtain ⟨W0, hW0⟩ : ∃ W0, W0 = w.alloc (.cells #[.int .i8 x.1, .string x.2] 82) := ⟨_, rfl⟩
  have HW0 : Hid (W0 = w.alloc (.cells #[.int .i8 x.1, .string x.2] 82)) := hW0
  have HU0 : Hid (Up w W0) := by unfold Hid; rw [hW0]; exact (Up.refl _).alloc _
  have HXB : Hid (W0.heap[w.heap.size]? = some (.cells #[.int .i8 x.1, .string x.2] 82 (0, 0))) := by unfold Hid; rw [hW0]; exact heap_alloc_new w _
  obtain ⟨g, hg⟩ : ∃ g, g = W0.heap.size := ⟨_, rfl⟩
  have HG : Hid (g = W0.heap.size) := hg
  have HGX : Hid (w.heap.size ≤ g) := by unfold Hid; rw [hg]; exact HU0.out.size
  clear hPost hW0 hg
  by_cases hc : cap = 0
  · subst hc
    cases a with
    | none =>
      go_enter Try.func40, Try.ntmps40
      go_wp2_with (at_make; (rw [← HW0.out]; refine wpList_make_full _ rfl _ _ 79 rfl W0.heap.size 82 iT (.agg #[.int .i8 0, .string ⟨#[]⟩]) 2 Try.underlying79 hiT z0 z1 .i64 .i64 _ _ 1 rfl rfl rfl rfl (by rw [z2]; omega) (by unfold maxLen; omega) (Nat.le_refl _) ?_; intro w1 hin hg1; rw [← HG.out] at hin ⊢; have hu1 := made_up hg1; have hrow : w1.heap[g]? = some (.cells #[.int .i8 0, .string ⟨#[]⟩] 82 (0, 0)) := (by have h9 := row_made hin; rw [made_pair] at h9; exact h9); have HROW1 : Hid (w1.heap[g]? = some (.cells #[.int .i8 0, .string ⟨#[]⟩] 82 (0, 0))) := hrow; have HU1 : Hid (Up W0 w1) := hu1; have p1 : w1.cell? ⟨g, 0, none⟩ = some (.int .i8 0) := (by simp [World.cell?, hrow]); have p2 : w1.cell? ⟨g, 1, none⟩ = some (.string ⟨#[]⟩) := (by simp [World.cell?, hrow]); have pf1 : ∀ j, w1.frozen? ⟨g, j, none⟩ = false := (fun j => by simp [World.frozen?, hrow]); have bx1 : w1.cell? ⟨w.heap.size, 0, none⟩ = some (.int .i8 x.1) := hu1.cell (by simp [World.cell?, HXB.out]); have bx2 : w1.cell? ⟨w.heap.size, 1, none⟩ = some (.string x.2) := hu1.cell (by simp [World.cell?, HXB.out]); clear hin hg1 hrow hu1))
      have HROW3 : Hid (((w1.setCell ⟨g, 0, none⟩ (.int .i8 x.1)).setCell ⟨g, 1, none⟩ (.string x.2)).heap[g]? = some (.cells #[.int .i8 x.1, .string x.2] 82 (0, 0))) := row_putP (cs := [.int .i8 0, .string ⟨#[]⟩]) HROW1.out 0 _ _
      have HU3 : Hid (Up w ((w1.setCell ⟨g, 0, none⟩ (.int .i8 x.1)).setCell ⟨g, 1, none⟩ (.string x.2))) := Below.setCell (Below.setCell (HU0.out.trans HU1.out) HGX.out _) HGX.out _
      generalize (w1.setCell ⟨g, 0, none⟩ (.int .i8 x.1)).setCell ⟨g, 1, none⟩ (.string x.2) = w3 at *
      clear p1 p2 pf1 bx1 bx2 HROW1 HU1
      go_region
      clear hrun
      go_wp2
      rw [HPost.out]
      exact ⟨g, HGX.out, rfl, HROW3.out, HU3.out.drew⟩
    | some ad =>
      go_enter Try.func40, Try.ntmps40
      go_wp2_with (at_make; (rw [← HW0.out]; refine wpList_make_full _ rfl _ _ 79 rfl W0.heap.size 82 iT (.agg #[.int .i8 0, .string ⟨#[]⟩]) 2 Try.underlying79 hiT z0 z1 .i64 .i64 _ _ 1 rfl rfl rfl rfl (by rw [z2]; omega) (by unfold maxLen; omega) (Nat.le_refl _) ?_; intro w1 hin hg1; rw [← HG.out] at hin ⊢; have hu1 := made_up hg1; have hrow : w1.heap[g]? = some (.cells #[.int .i8 0, .string ⟨#[]⟩] 82 (0, 0)) := (by have h9 := row_made hin; rw [made_pair] at h9; exact h9); have HROW1 : Hid (w1.heap[g]? = some (.cells #[.int .i8 0, .string ⟨#[]⟩] 82 (0, 0))) := hrow; have HU1 : Hid (Up W0 w1) := hu1; have p1 : w1.cell? ⟨g, 0, none⟩ = some (.int .i8 0) := (by simp [World.cell?, hrow]); have p2 : w1.cell? ⟨g, 1, none⟩ = some (.string ⟨#[]⟩) := (by simp [World.cell?, hrow]); have pf1 : ∀ j, w1.frozen? ⟨g, j, none⟩ = false := (fun j => by simp [World.frozen?, hrow]); have bx1 : w1.cell? ⟨w.heap.size, 0, none⟩ = some (.int .i8 x.1) := hu1.cell (by simp [World.cell?, HXB.out]); have bx2 : w1.cell? ⟨w.heap.size, 1, none⟩ = some (.string x.2) := hu1.cell (by simp [World.cell?, HXB.out]); clear hin hg1 hrow hu1))
      have HROW3 : Hid (((w1.setCell ⟨g, 0, none⟩ (.int .i8 x.1)).setCell ⟨g, 1, none⟩ (.string x.2)).heap[g]? = some (.cells #[.int .i8 x.1, .string x.2] 82 (0, 0))) := row_putP (cs := [.int .i8 0, .string ⟨#[]⟩]) HROW1.out 0 _ _
      have HU3 : Hid (Up w ((w1.setCell ⟨g, 0, none⟩ (.int .i8 x.1)).setCell ⟨g, 1, none⟩ (.string x.2))) := Below.setCell (Below.setCell (HU0.out.trans HU1.out) HGX.out _) HGX.out _
      generalize (w1.setCell ⟨g, 0, none⟩ (.int .i8 x.1)).setCell ⟨g, 1, none⟩ (.string x.2) = w3 at *
      clear p1 p2 pf1 bx1 bx2 HROW1 HU1
      go_region
      clear hrun
      go_wp2
      rw [HPost.out]
      exact ⟨g, HGX.out, rfl, HROW3.out, HU3.out.drew⟩
  · cases a with
    | none =>
      go_enter Try.func40, Try.ntmps40
      go_wp2_with (at_make; (rw [← HW0.out]; refine wpList_make_full _ rfl _ _ 79 rfl W0.heap.size 82 iT (.agg #[.int .i8 0, .string ⟨#[]⟩]) 2 Try.underlying79 hiT z0 z1 .i64 .i64 _ _ 1 rfl rfl rfl rfl (by rw [z2]; omega) (by unfold maxLen; omega) (Nat.le_refl _) ?_; intro w1 hin hg1; rw [← HG.out] at hin ⊢; have hu1 := made_up hg1; have hrow : w1.heap[g]? = some (.cells #[.int .i8 0, .string ⟨#[]⟩] 82 (0, 0)) := (by have h9 := row_made hin; rw [made_pair] at h9; exact h9); have HROW1 : Hid (w1.heap[g]? = some (.cells #[.int .i8 0, .string ⟨#[]⟩] 82 (0, 0))) := hrow; have HU1 : Hid (Up W0 w1) := hu1; have p1 : w1.cell? ⟨g, 0, none⟩ = some (.int .i8 0) := (by simp [World.cell?, hrow]); have p2 : w1.cell? ⟨g, 1, none⟩ = some (.string ⟨#[]⟩) := (by simp [World.cell?, hrow]); have pf1 : ∀ j, w1.frozen? ⟨g, j, none⟩ = false := (fun j => by simp [World.frozen?, hrow]); have bx1 : w1.cell? ⟨w.heap.size, 0, none⟩ = some (.int .i8 x.1) := hu1.cell (by simp [World.cell?, HXB.out]); have bx2 : w1.cell? ⟨w.heap.size, 1, none⟩ = some (.string x.2) := hu1.cell (by simp [World.cell?, HXB.out]); clear hin hg1 hrow hu1))
      have HROW3 : Hid (((w1.setCell ⟨g, 0, none⟩ (.int .i8 x.1)).setCell ⟨g, 1, none⟩ (.string x.2)).heap[g]? = some (.cells #[.int .i8 x.1, .string x.2] 82 (0, 0))) := row_putP (cs := [.int .i8 0, .string ⟨#[]⟩]) HROW1.out 0 _ _
      have HU3 : Hid (Up w ((w1.setCell ⟨g, 0, none⟩ (.int .i8 x.1)).setCell ⟨g, 1, none⟩ (.string x.2))) := Below.setCell (Below.setCell (HU0.out.trans HU1.out) HGX.out _) HGX.out _
      generalize (w1.setCell ⟨g, 0, none⟩ (.int .i8 x.1)).setCell ⟨g, 1, none⟩ (.string x.2) = w3 at *
      clear p1 p2 pf1 bx1 bx2 HROW1 HU1
      go_region
      clear hrun
      go_wp2
      rw [HPost.out]
      exact ⟨g, HGX.out, rfl, HROW3.out, HU3.out.drew⟩
    | some ad =>
      go_enter Try.func40, Try.ntmps40
      go_wp2_with (at_make; (rw [← HW0.out]; refine wpList_make_full _ rfl _ _ 79 rfl W0.heap.size 82 iT (.agg #[.int .i8 0, .string ⟨#[]⟩]) 2 Try.underlying79 hiT z0 z1 .i64 .i64 _ _ 1 rfl rfl rfl rfl (by rw [z2]; omega) (by unfold maxLen; omega) (Nat.le_refl _) ?_; intro w1 hin hg1; rw [← HG.out] at hin ⊢; have hu1 := made_up hg1; have hrow : w1.heap[g]? = some (.cells #[.int .i8 0, .string ⟨#[]⟩] 82 (0, 0)) := (by have h9 := row_made hin; rw [made_pair] at h9; exact h9); have HROW1 : Hid (w1.heap[g]? = some (.cells #[.int .i8 0, .string ⟨#[]⟩] 82 (0, 0))) := hrow; have HU1 : Hid (Up W0 w1) := hu1; have p1 : w1.cell? ⟨g, 0, none⟩ = some (.int .i8 0) := (by simp [World.cell?, hrow]); have p2 : w1.cell? ⟨g, 1, none⟩ = some (.string ⟨#[]⟩) := (by simp [World.cell?, hrow]); have pf1 : ∀ j, w1.frozen? ⟨g, j, none⟩ = false := (fun j => by simp [World.frozen?, hrow]); have bx1 : w1.cell? ⟨w.heap.size, 0, none⟩ = some (.int .i8 x.1) := hu1.cell (by simp [World.cell?, HXB.out]); have bx2 : w1.cell? ⟨w.heap.size, 1, none⟩ = some (.string x.2) := hu1.cell (by simp [World.cell?, HXB.out]); clear hin hg1 hrow hu1))
      have HROW3 : Hid (((w1.setCell ⟨g, 0, none⟩ (.int .i8 x.1)).setCell ⟨g, 1, none⟩ (.string x.2)).heap[g]? = some (.cells #[.int .i8 x.1, .string x.2] 82 (0, 0))) := row_putP (cs := [.int .i8 0, .string ⟨#[]⟩]) HROW1.out 0 _ _
      have HU3 : Hid (Up w ((w1.setCell ⟨g, 0, none⟩ (.int .i8 x.1)).setCell ⟨g, 1, none⟩ (.string x.2))) := Below.setCell (Below.setCell (HU0.out.trans HU1.out) HGX.out _) HGX.out _
      generalize (w1.setCell ⟨g, 0, none⟩ (.int .i8 x.1)).setCell ⟨g, 1, none⟩ (.string x.2) = w3 at *
      clear p1 p2 pf1 bx1 bx2 HROW1 HU1
      go_region
      clear hrun
      go_wp2
      rw [HPost.out]
      exact ⟨g, HGX.out, rfl, HROW3.out, HU3.out.drew⟩
theorem put_ok (a : Option Addr) (n cap : Nat) (ps : List PX) (k : Nat) (x : PX) (w : World) (hv : PL w (.slice a n cap) ps) (hn : n = ps.length) (hk : k ≤ n) (hm : n ≤ 4096) : Calls Try.prog 40 #[.slice a n cap, .int .i64 k, .agg #[.int .i8 x.1, .string x.2]] w fun e w' => ∃ g, e = .returned (.tuple #[.slice (some ⟨g, 0, none⟩) (n + 1) (n + 1), .bool true]) ∧ w'.heap[g]? = some (.cells (pcs (putL ps k x)).toArray 82 (0, 0)) ∧ Up w w' := by
  by_cases h0 : n = 0
  · subst h0
    have hk0 : k = 0 := by omega
    subst hk0
    have hps : ps = [] := List.eq_nil_of_length_eq_zero hn.symm
    subst hps
    refine (put_empty a cap x w).mono ?_
    rintro e w' ⟨g, -, rfl, h, u⟩
    exact ⟨g, rfl, h, u⟩
  · have hv' := hv
    obtain ⟨a', c', e, hc, h⟩ := hv
    simp only [Value.slice.injEq] at e
    obtain ⟨b, off, hb, -⟩ := h (by omega)
    have ha : a = some ⟨b, off, none⟩ := by rw [e.1]; exact hb
    subst ha
    refine (putP b off n cap k (pcs ps) x w (fun _ => PL.src hv' h0) (by rw [pcs_len, ← hn]) hk (by omega) (by omega) (pcs_one ps)).mono ?_
    rintro e w' ⟨g, -, rfl, h, u⟩
    rw [pcs_put ps k x (by omega)] at h
    exact ⟨g, rfl, h, u⟩
theorem cut_ok (g : Nat) (ps : List PX) (k : Nat) (x : PX) (w : World) {n : Nat} (hg : w.heap[g]? = some (.cells (pcs (putL ps k x)).toArray 82 (0, 0))) (hn : n = ps.length) (hk : k ≤ n) (hm : n ≤ 4096) : Calls Try.prog 41 #[.slice (some ⟨g, 0, none⟩) (n + 1) (n + 1), .int .i64 k] w fun e w' => ∃ g2, e = .returned (.tuple #[.slice (some ⟨g2, 0, none⟩) n n, .agg #[.int .i8 x.1, .string x.2], .bool true]) ∧ w'.heap[g2]? = some (.cells (pcs ps).toArray 82 (0, 0)) ∧ Up w w' := by
  have hl : (putL ps k x).length = n + 1 := by rw [putL_len ps k x (by omega), hn]
  have hx : ∀ j, j < 2 → (pcs (putL ps k x))[k * 2 + j]? = (pcv x)[j]? := fun j hj => by
    rw [pcs_get _ k j (by omega) hj, putL_at ps k x (by omega)]
  refine (cutP g 0 (n + 1) (n + 1) k (pcs (putL ps k x)) x w (PL.src (pl_of hg hl.symm (Nat.le_refl _)) (by omega)) (by rw [pcs_len, hl]) (by omega) (Nat.le_refl _) (by omega) (pcs_one _) ⟨hx 0 (by decide), hx 1 (by decide)⟩).mono ?_
  rintro e w' ⟨g2, -, rfl, h, u⟩
  rw [pcs_cut ps k x (by omega)] at h
  exact ⟨g2, rfl, h, u⟩
theorem pairNeqF (y x : PX) (h : peq y x = true) (W : World) : (binOp .neq 82 (.agg #[.int .i8 y.1, .string y.2]) (.agg #[.int .i8 x.1, .string x.2])).run Try.prog W = .ok (.bool false) W := by
  have h1 := pairEq y x W
  rw [run_neq_struct, h1]
  simp only [peq] at h
  simp [Result.andThen, h]
end PR
end Go.Proofs.Ytnmoaebmopjmhaa
