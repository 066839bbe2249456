/-
  oneOrNone, Change, Out.
-/
import Derived.Test.YtjabjiahienohaaGreatDoorCh6Q
namespace Go.Proofs.YtjabjiahienohaaGreatDoor
open Go.RowKit
attribute [local go_sem ↓] Go.wp_at_zero Go.wp_at_succ

namespace DE
open Go.Proofs.YtjabjiahienohaaGreatDoor.ST
theorem evc_cells0 {W : World} {a : Nat} {e : Ev} {vo : Value} {t : TypeId} (h : W.heap[a]? = some (.cells (evc e vo) t (0, 0))) : ∀ j, W.cell? ⟨a, j, none⟩ = (evc e vo)[j]? := fun j => by simp [World.cell?, h]
theorem dl_less {b b' : Nat} {W : World} {v : Value} {o : Option Ev} (h : DL b W v o) (hb : b' ≤ b) : DL b' W v o := by
  cases o with
  | none => exact h
  | some e =>
    obtain ⟨g, vo, h1, h2, h3, h4⟩ := h
    exact ⟨g, vo, h1, by omega, h3, own_less h4 hb⟩
def one (e : Ev) : Option Ev := if noneB e = true then none else some e
set_option maxRecDepth 100000 in
set_option maxHeartbeats 2000000 in
theorem oneOrNone_ (e : Ev) (he : e.ord = []) (w : World) : Calls Tryz.prog 169 #[.agg (evc e (.slice none 0 0))] w fun x w' => ∃ v, x = .returned v ∧ DL w.heap.size w' v (one e) ∧ Up w w' := by
  have HN : Hid (∀ W, Calls Tryz.prog 188 #[.agg (evc e (.slice none 0 0))] W fun x w' => x = .returned (.bool (noneB e)) ∧ Up W w') := fun W => changesNothing_ e (.slice none 0 0) W
  have HE : Hid (∀ W g, W.heap[g]? = some (.cells (evc e (.slice none 0 0)) 30 (0, 0)) → w.heap.size ≤ g → DL w.heap.size W (.slice (some ⟨g, 0, none⟩) 1 1) (some e)) := fun W g h hl => ⟨g, .slice none 0 0, rfl, hl, h, by rw [he]; exact World.ownsRow_nil _ _ _ _⟩
  clear he
  unfold one
  unfold evc at HN HE ⊢
  cases hb : noneB e with
  | true =>
    rw [hb] at HN
    rw [if_pos rfl]
    clear HE hb
    go_enter Tryz.func169, Tryz.ntmps169
    go_wp2_with fail
    refine Calls.mono (HN.out _) ?_
    rintro r W1 ⟨rfl, u1⟩
    have HU : Hid (Up w W1) := ((Up.refl _).alloc _).trans u1
    clear u1
    go_wp2
    go_ret
    exact ⟨_, rfl, rfl, HU.out⟩
  | false =>
    rw [hb] at HN
    rw [if_neg (by decide)]
    clear hb
    go_enter Tryz.func169, Tryz.ntmps169
    go_wp2_with fail
    refine Calls.mono (HN.out _) ?_
    rintro r W1 ⟨rfl, u1⟩
    have HU : Hid (Up w W1) := ((Up.refl _).alloc _).trans u1
    have g0 : W1.heap[w.heap.size]? = some (.cells #[.int .i8 e.kind, .int .i8 e.field, .int .i64 e.card, .int .i64 e.player, .int .i64 e.other, .int .i64 e.fr, .int .i64 e.frAt, .int .i64 e.to_, .int .i64 e.toAt, .int .i32 e.was, .int .i32 e.now, .slice none 0 0] 30 (0, 0)) := u1.heap (heap_alloc_new _ _)
    clear u1
    go_wp2_with (refine wpList_load_row rfl 30 (.tmp 1) rfl w.heap.size rfl 30 #[.int .i8 e.kind, .int .i8 e.field, .int .i64 e.card, .int .i64 e.player, .int .i64 e.other, .int .i64 e.fr, .int .i64 e.frAt, .int .i64 e.to_, .int .i64 e.toAt, .int .i32 e.was, .int .i32 e.now, .slice none 0 0] (0, 0) _ g0 Tryz.underlying30 rfl infoEv ?_)
    go_ret
    exact ⟨_, rfl, HE.out _ _ (heap_alloc_new _ _) HU.out.size, HU.out.alloc _⟩
/- Change -/
def chNow (y by_ : Int) : Int := max (-1000000000) (min (cut64 (y + by_)) 1000000000)
def changeO (s : Stt) (f n by_ : Int) : Int × Option Ev := if ff s = none then (match chP s f n with | some r => (0, one { r.1 with was := r.2, now := chNow r.2 by_ }) | none => (1, none)) else (10, none)
theorem chP_at {s : Stt} {f n : Int} {r : Ev × Int} (h : chP s f n = some r) (hok : ff s = none) : r.1.ord = [] ∧ statB r.2 = true := by
  have hc : ∀ r, cPart s f n = some r → r.1.ord = [] ∧ statB r.2 = true := fun r h => by
    unfold cPart at h
    split at h
    · rename_i hn
      obtain ⟨i, rfl, hi⟩ := num_nat hn
      rw [Int.toNat_natCast] at h
      cases hy : cGet (s.cs.getD i dc) f with
      | none => rw [hy] at h; cases h
      | some y =>
        rw [hy] at h
        simp only [Option.map_some, Option.some.injEq] at h
        subst h
        exact ⟨rfl, crd_stat (crd_get hok i hi) hy⟩
    · cases h
  have hp : ∀ r, pPart s f n = some r → r.1.ord = [] ∧ statB r.2 = true := fun r h => by
    unfold pPart at h
    split at h
    · rename_i hn
      obtain ⟨i, rfl, hi⟩ := num_nat hn
      rw [Int.toNat_natCast] at h
      cases hy : pGet (s.ps.getD i dp) f with
      | none => rw [hy] at h; cases h
      | some y =>
        rw [hy] at h
        simp only [Option.map_some, Option.some.injEq] at h
        subst h
        exact ⟨rfl, ply_stat (ply_get hok i hi) hy⟩
    · cases h
  unfold chP at h
  cases hq : cPart s f n with
  | none => rw [hq] at h; exact hp r h
  | some q => rw [hq] at h; cases h; exact hc _ hq
theorem evc_two {W : World} {g : Nat} {e : Ev} {vo : Value} {a b : Int} (h : W.heap[g]? = some (.cells (evc e vo) 30 (0, 0))) : ((W.setCell ⟨g, 9, none⟩ (.int .i32 a)).setCell ⟨g, 10, none⟩ (.int .i32 b)).heap[g]? = some (.cells (evc { e with was := a, now := b } vo) 30 (0, 0)) := by
  rw [set_cells (set_cells h)]
  rfl
set_option maxRecDepth 100000 in
set_option maxHeartbeats 2000000 in
theorem change_ (v : Value) (s : Stt) (f n by_ : Int) (w : World) (hs : StL w v s) (hsm : Small s) (hb1 : -9223372036854775808 ≤ by_) (hb2 : by_ ≤ 9223372036854775807) : Calls Tryz.prog 90 #[v, .int .i8 f, .int .i64 n, .int .i64 by_] w (DeV w (changeO s f n by_)) := by
  obtain ⟨Post, hPost⟩ : ∃ P : Ending → World → Prop, P = DeV w (changeO s f n by_) := ⟨_, rfl⟩
  rw [← hPost]
  have HP : Hid (Post = DeV w (changeO s f n by_)) := hPost
  have HM : Hid (∀ W, Up w W → Calls Tryz.prog 85 #[v] W fun r w' => r = .returned (.bool (decide (ff s = none))) ∧ Up W w') := fun W u => mayBe_ v s W (hs.up u) hsm
  have HC : Hid (∀ W, Up w W → Calls Tryz.prog 170 #[v, .int .i8 f, .int .i64 n] W fun r w' => r = .returned (chV (chP s f n)) ∧ Up W w') := fun W u => changeOf_ v s f n W (hs.up u)
  obtain ⟨vp, vc, vz, hv, h1, h2, h3⟩ := hs
  obtain ⟨a1, k1, rfl, -, -⟩ := lc_at h1
  obtain ⟨a2, k2, rfl, -, -⟩ := lc_at h2
  obtain ⟨a3, k3, rfl, -, -⟩ := zl_at h3
  unfold sv at hv
  clear h1 h2 h3 hPost
  subst hv
  by_cases hf : ff s = none
  · have hat : ∀ r, chP s f n = some r → r.1.ord = [] ∧ statB r.2 = true := fun r h => chP_at h hf
    simp only [hf, decide_true] at HM
    cases hq : chP s f n with
    | none =>
      have HF : Hid (changeO s f n by_ = (1, none)) := by unfold Hid changeO; rw [if_pos hf, hq]
      rw [hq] at HC
      unfold chV at HC
      clear hf hat hq
      go_enter Tryz.func90, Tryz.ntmps90
      go_wp2_with fail
      refine Calls.mono (HM.out _ ((Up.refl _).alloc _)) ?_
      rintro r W1 ⟨rfl, u1⟩
      have HU : Hid (Up w W1) := ((Up.refl _).alloc _).trans u1
      have g0 : W1.heap[w.heap.size]? = some (.cells _ 27 (0, 0)) := u1.heap (heap_alloc_new _ _)
      obtain ⟨q0, q1, q2, q3, q4, q5, q6⟩ := seven_cells g0
      clear u1 g0 HM
      go_wp2_with fail
      refine Calls.mono (HC.out _ HU.out) ?_
      rintro r W2 ⟨rfl, u2⟩
      have HU2 : Hid (Up w W2) := HU.out.trans u2
      clear u2 q0 q1 q2 q3 q4 q5 q6 HC
      go_wp2_with (refine wpList_store_row rfl 30 (.tmp 10) (.tmp 22) rfl W2.heap.size (evc dE (.slice none 0 0)) rfl rfl 30 zEv (heap_alloc_new W2 _) infoEv rfl (evc_one _ _ _ _) ?_)
      rw [HP.out, HF.out]
      exact ⟨_, rfl, rfl, up_setRow (HU2.out.alloc _) HU2.out.size _⟩
    | some r =>
      obtain ⟨ev, y⟩ := r
      obtain ⟨ho, hst⟩ := hat _ hq
      dsimp only at ho hst
      unfold statB at hst
      simp only [Bool.and_eq_true, decide_eq_true_eq] at hst
      obtain ⟨hy1, hy2⟩ := hst
      have HF : Hid (changeO s f n by_ = (0, one { ev with was := y, now := chNow y by_ })) := by unfold Hid changeO; rw [if_pos hf, hq]
      rw [hq] at HC
      unfold chV at HC
      dsimp only at HC
      have HA : Hid (∀ W, Calls Tryz.prog 172 #[.int .i64 y, .int .i64 by_] W fun e w' => e = .returned (.int .i64 (cut64 (y + by_))) ∧ w' = W) := fun W => addI64 y by_ W (by omega) (by omega) hb1 hb2
      have HK : Hid (∀ W, Calls Tryz.prog 171 #[.int .i64 (cut64 (y + by_)), .int .i64 (-1000000000), .int .i64 1000000000] W fun e w' => e = .returned (.int .i64 (chNow y by_)) ∧ w' = W) := fun W => by unfold chNow; exact clampI64 (cut64 (y + by_)) (-1000000000) 1000000000 W
      have HO : Hid (∀ W, Calls Tryz.prog 169 #[.agg (evc { ev with was := y, now := chNow y by_ } (.slice none 0 0))] W fun x w' => ∃ v, x = .returned v ∧ DL W.heap.size w' v (one { ev with was := y, now := chNow y by_ }) ∧ Up W w') := fun W => oneOrNone_ { ev with was := y, now := chNow y by_ } ho W
      have hn1 : -1000000000 ≤ chNow y by_ := by unfold chNow; omega
      have hn2 : chNow y by_ ≤ 1000000000 := by unfold chNow; omega
      generalize cut64 (y + by_) = cy at *
      generalize chNow y by_ = nw at *
      clear hf hat hq ho
      go_enter Tryz.func90, Tryz.ntmps90
      go_wp2_with fail
      refine Calls.mono (HM.out _ ((Up.refl _).alloc _)) ?_
      rintro r W1 ⟨rfl, u1⟩
      have HU : Hid (Up w W1) := ((Up.refl _).alloc _).trans u1
      have g0 : W1.heap[w.heap.size]? = some (.cells _ 27 (0, 0)) := u1.heap (heap_alloc_new _ _)
      obtain ⟨q0, q1, q2, q3, q4, q5, q6⟩ := seven_cells g0
      clear u1 g0 HM
      go_wp2_with fail
      refine Calls.mono (HC.out _ HU.out) ?_
      rintro r W2 ⟨rfl, u2⟩
      have HU2 : Hid (Up w W2) := HU.out.trans u2
      clear u2 q0 q1 q2 q3 q4 q5 q6 HC
      obtain ⟨W3, hW3⟩ : ∃ W3, (W2.alloc (.cells zEv 30)).setRow W2.heap.size (evc ev (.slice none 0 0)) = W3 := ⟨_, rfl⟩
      obtain ⟨f1, f2, -⟩ := filled W2 zEv (evc ev (.slice none 0 0)) 30
      rw [hW3] at f1 f2
      have c9 : W3.cell? ⟨W2.heap.size, 9, none⟩ = some (.int .i32 ev.was) := evc_cells0 f1 9
      have c10 : W3.cell? ⟨W2.heap.size, 10, none⟩ = some (.int .i32 ev.now) := evc_cells0 f1 10
      have cf := seven_f f1
      have g5 := evc_two (a := y) (b := nw) f1
      have HU5 : Hid (Up w ((W3.setCell ⟨W2.heap.size, 9, none⟩ (.int .i32 y)).setCell ⟨W2.heap.size, 10, none⟩ (.int .i32 nw))) := Up.set (Up.set (HU2.out.trans f2) _ _ HU2.out.size) _ _ HU2.out.size
      clear f2
      go_wp2_with (refine wpList_store_row rfl 30 (.tmp 10) (.tmp 22) rfl W2.heap.size (evc ev (.slice none 0 0)) rfl rfl 30 zEv (heap_alloc_new W2 _) infoEv rfl (evc_one _ _ _ _) ?_; refine wpList_world hW3 ?_)
      refine Calls.mono (HA.out _) ?_
      rintro r W9 ⟨rfl, rfl⟩
      go_wp2_with fail
      refine Calls.mono (HK.out _) ?_
      rintro r W9 ⟨rfl, rfl⟩
      have hwr : wrap32 nw = nw := by unfold wrap32; omega
      go_wp2_with (refine wpList_load_row rfl 30 (.tmp 10) rfl W2.heap.size rfl 30 (evc { ev with was := y, now := nw } (.slice none 0 0)) (0, 0) _ g5 Tryz.underlying30 rfl infoEv ?_)
      refine Calls.mono (HO.out _) ?_
      rintro r W6 ⟨v6, rfl, dl, u6⟩
      have HU6 : Hid (Up w W6) := HU5.out.trans u6
      have HDL : Hid (DL w.heap.size W6 v6 (one { ev with was := y, now := nw })) := dl_less dl (by have := HU5.out.size; exact this)
      clear u6 dl
      go_wp2
      rw [HP.out, HF.out]
      exact ⟨_, rfl, HDL.out, HU6.out⟩
  · have HF : Hid (changeO s f n by_ = (10, none)) := by unfold Hid changeO; rw [if_neg hf]
    simp only [hf, decide_false] at HM
    clear HC hf
    go_enter Tryz.func90, Tryz.ntmps90
    go_wp2_with fail
    refine Calls.mono (HM.out _ ((Up.refl _).alloc _)) ?_
    rintro r W1 ⟨rfl, u1⟩
    have HU : Hid (Up w W1) := ((Up.refl _).alloc _).trans u1
    clear u1
    go_wp2
    rw [HP.out, HF.out]
    exact ⟨_, rfl, rfl, HU.out⟩
end DE
end Go.Proofs.YtjabjiahienohaaGreatDoor
