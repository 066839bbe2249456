/-
  A deed that is asked for: what it answers fits.
-/
import Derived.Test.YtjabjiahienohaaGreatDoorMo6ToAq6
namespace Go.Proofs.YtjabjiahienohaaGreatDoor
open Go.RowKit
attribute [local go_sem ↓] Go.wp_at_zero Go.wp_at_succ

structure DoT where
  kind : Int
  number : Int
  zone : Int
  first : Bool
  field : Int
  by_ : Int
  ord : List Int
namespace DE
open Go.Proofs.YtjabjiahienohaaGreatDoor.ST
def doc (d : DoT) (vo : Value) : Array Value := #[.int .i64 d.kind, .int .i64 d.number, .int .i64 d.zone, .bool d.first, .int .i8 d.field, .int .i64 d.by_, vo]
def askO (s : Stt) (d : DoT) : Int × Option Ev := if d.kind = 0 then moveO s d.number d.zone d.first else if d.kind = 1 then changeO s d.field d.number d.by_ else if d.kind = 2 then shufO s d.zone d.ord else if d.kind = 3 then drawO s d.number else outO s d.number
/- what an answer is like -/
def Good (s : Stt) (l : List Int) (r : Int × Option Ev) : Prop := (ff s ≠ none → r = (10, none)) ∧ (ff s = none → r = (1, none) ∨ r = (0, none) ∨ ∃ e, r = (0, some e) ∧ (okB e && fitB s e) = true ∧ (e.ord = [] ∨ e.ord = l))
theorem ok_of {e : Ev} {s : Stt} (h1 : kindB e.kind = true) (h2 : restB e = true) (h3 : fitB s e = true) : (okB e && fitB s e) = true := by
  unfold okB
  rw [h1, h2, h3]
  rfl
theorem zs_len {s : Stt} (h : ff s = none) : s.zs.length = 4 * s.ps.length := by
  have h0 := ((ff_none s).1 h).1.1
  unfold sizesB at h0
  simp only [Bool.and_eq_true, decide_eq_true_eq] at h0
  exact h0.2
theorem num_of {i m : Nat} (h : i < m) : numB (i : Int) m = true := by unfold numB; simp; omega
theorem draw_good (s : Stt) (p : Int) (l : List Int) : Good s l (drawO s p) := by
  unfold drawO
  refine ⟨fun h => by rw [if_neg h], fun h => ?_⟩
  rw [if_pos h]
  by_cases hp : numB p s.ps.length = true
  · rw [if_pos hp]
    by_cases h0 : (zn s (4 * p)).length = 0
    · rw [if_pos h0]; exact .inr (.inl rfl)
    · rw [if_neg h0]
      refine .inr (.inr ⟨_, rfl, ?_, .inl rfl⟩)
      obtain ⟨q, rfl, hq⟩ := num_nat hp
      have hz := zs_len h
      have e1 : zn s (4 * (q : Int)) = s.zs.getD (4 * q) [] := by unfold zn; congr 1
      have e2 : zn s (4 * (q : Int) + 1) = s.zs.getD (4 * q + 1) [] := by unfold zn; congr 1
      have f1 : numB (4 * (q : Int)) s.zs.length = true := num_of (i := 4 * q) (by omega)
      have f2 : numB (4 * (q : Int) + 1) s.zs.length = true := num_of (i := 4 * q + 1) (by omega)
      have hmem : (zn s (4 * (q : Int))).getD 0 0 ∈ s.zs.flatten := by
        rw [e1] at h0 ⊢
        have hm : s.zs.getD (4 * q) [] ∈ s.zs := by rw [List.getD_eq_getElem?_getD, List.getElem?_eq_getElem (by omega)]; exact List.getElem_mem _
        refine List.mem_flatten.2 ⟨_, hm, ?_⟩
        rw [List.getD_eq_getElem?_getD (l := s.zs.getD (4 * q) []), List.getElem?_eq_getElem (by omega)]
        exact List.getElem_mem _
      have f3 := ((ff_none s).1 h).2.1.2 _ hmem
      have f4 : numB 0 (zn s (4 * (q : Int))).length = true := num_of (i := 0) (by omega)
      refine ok_of (by rfl) (by simp [restB, drawE, nothingB, moveR]) ?_
      have hne : (4 * (q : Int)) ≠ 4 * (q : Int) + 1 := by omega
      have hne2 : ¬ (4 * (q : Int) + 1) = 4 * (q : Int) := by omega
      unfold fitB drawE moveFitsB
      dsimp only
      rw [if_pos rfl, f1, f2, f3, f4]
      simp [noneB, others, hne2]
      omega
  · rw [if_neg hp]; exact .inl rfl
theorem move_good (s : Stt) (c z : Int) (first : Bool) (l : List Int) : Good s l (moveO s c z first) := by
  unfold moveO
  refine ⟨fun h => by rw [if_neg h], fun h => ?_⟩
  rw [if_pos h]
  by_cases hp : (numB c s.cs.length && numB z s.zs.length) = true
  · rw [if_pos hp]
    rw [Bool.and_eq_true] at hp
    obtain ⟨fz, fa, hw⟩ := wh_all h hp.1
    rw [hw]
    dsimp only
    unfold one
    cases hn : noneB (mvE s c z fz fa first) with
    | true => rw [if_pos rfl]; exact .inr (.inl rfl)
    | false =>
      rw [if_neg (by decide)]
      refine .inr (.inr ⟨_, rfl, ?_, .inl rfl⟩)
      obtain ⟨-, w1, w2, w3⟩ := wh_some c s.zs 0 fz fa hw
      rw [Nat.sub_zero] at w1 w2 w3
      have e1 : zn s (fz : Int) = s.zs.getD fz [] := by unfold zn; rw [Int.toNat_natCast]
      have f1 : numB (fz : Int) s.zs.length = true := num_of w1
      have f2 : numB (fa : Int) (zn s (fz : Int)).length = true := by rw [e1]; exact num_of w2
      have f3 : (zn s (fz : Int)).getD (fa : Int).toNat 0 = c := by rw [e1, Int.toNat_natCast]; exact w3
      have f4 : 0 ≤ others s z (fz : Int) := by
        unfold others
        split
        · rename_i hz
          rw [hz, e1]
          omega
        · omega
      refine ok_of (by rfl) (by simp [restB, mvE, nothingB, moveR]) ?_
      unfold fitB moveFitsB
      rw [hn]
      unfold mvE
      dsimp only
      rw [if_pos rfl, hp.1, hp.2, f1, f2, f3]
      cases first <;> simp [f4]
  · rw [if_neg hp]; exact .inl rfl
theorem shuf_good (s : Stt) (z : Int) (l : List Int) : Good s l (shufO s z l) := by
  unfold shufO
  refine ⟨fun h => by rw [if_neg h], fun h => ?_⟩
  rw [if_pos h]
  by_cases h1 : numB z s.zs.length = true
  · rw [if_pos h1]
    by_cases h2 : ordB (zn s z).length l = true
    · rw [if_pos h2]
      by_cases h3 : risesB l = true
      · rw [if_pos h3]; exact .inr (.inl rfl)
      · rw [if_neg h3]
        refine .inr (.inr ⟨_, rfl, ?_, .inr rfl⟩)
        refine ok_of (by rfl) (by simp [restB, shE, nothingB, shuffleR]) ?_
        unfold fitB shE shuffleFitsB
        simp [h1, h2, h3]
    · rw [if_neg h2]; exact .inl rfl
  · rw [if_neg h1]; exact .inl rfl
theorem out_good (s : Stt) (p : Int) (l : List Int) : Good s l (outO s p) := by
  unfold outO
  refine ⟨fun h => by rw [if_neg h], fun h => ?_⟩
  rw [if_pos h]
  by_cases h1 : numB p s.ps.length = true
  · rw [if_pos h1]
    by_cases h2 : (s.ps.getD p.toNat dp).out = true
    · rw [if_pos h2]; exact .inr (.inl rfl)
    · rw [if_neg h2]
      refine .inr (.inr ⟨_, rfl, ?_, .inl rfl⟩)
      refine ok_of (by rfl) (by simp [restB, outE, nothingB, outR]) ?_
      have h2' : (s.ps.getD p.toNat dp).out = false := by simpa using h2
      unfold fitB outE outFitsB
      dsimp only
      rw [h1, h2']
      rfl
  · rw [if_neg h1]; exact .inl rfl
theorem change_good (s : Stt) (f n b : Int) (l : List Int) : Good s l (changeO s f n b) := by
  unfold changeO
  refine ⟨fun h => by rw [if_neg h], fun h => ?_⟩
  rw [if_pos h]
  cases hq : chP s f n with
  | none => exact .inl rfl
  | some r =>
    dsimp only
    rw [one_is hq]
    by_cases he : r.2 = chNow r.2 b
    · rw [if_pos he]; exact .inr (.inl rfl)
    · rw [if_neg he]
      exact .inr (.inr ⟨_, rfl, set_fits hq (now_stat _ _) he, .inl (chP_at hq h).1⟩)
theorem ask_good (s : Stt) (d : DoT) : Good s d.ord (askO s d) := by
  unfold askO
  split
  · exact move_good _ _ _ _ _
  split
  · exact change_good _ _ _ _ _
  split
  · exact shuf_good _ _ _
  split
  · exact draw_good _ _ _
  · exact out_good _ _ _
end DE
end Go.Proofs.YtjabjiahienohaaGreatDoor
/-
  A deed that is asked for.
-/
namespace Go.Proofs.YtjabjiahienohaaGreatDoor
open Go.RowKit
attribute [local go_sem ↓] Go.wp_at_zero Go.wp_at_succ

namespace DE
open Go.Proofs.YtjabjiahienohaaGreatDoor.ST
set_option maxRecDepth 100000 in
set_option maxHeartbeats 4000000 in
theorem asked_ (v vo : Value) (s : Stt) (d : DoT) (w : World) (hs : StL w v s) (hsm : Small s) (ho : IL w vo d.ord) (hln : d.ord.length ≤ 4294967296) (hb1 : -9223372036854775808 ≤ d.by_) (hb2 : d.by_ ≤ 9223372036854775807) : Calls Tryz.prog 32 #[.agg (doc d vo), v] w (DeV w (askO s d)) := by
  obtain ⟨Post, hPost⟩ : ∃ P : Ending → World → Prop, P = DeV w (askO s d) := ⟨_, rfl⟩
  rw [← hPost]
  have HP : Hid (Post = DeV w (askO s d)) := hPost
  have H0 : Hid (∀ W, Up w W → Calls Tryz.prog 89 #[v, .int .i64 d.number, .int .i64 d.zone, .bool d.first] W (DeV W (moveO s d.number d.zone d.first))) := fun W u => move_ v s _ _ _ W (hs.up u) hsm
  have H1 : Hid (∀ W, Up w W → Calls Tryz.prog 90 #[v, .int .i8 d.field, .int .i64 d.number, .int .i64 d.by_] W (DeV W (changeO s d.field d.number d.by_))) := fun W u => change_ v s _ _ _ W (hs.up u) hsm hb1 hb2
  have H2 : Hid (∀ W, Up w W → Calls Tryz.prog 91 #[v, .int .i64 d.zone, vo] W (DeV W (shufO s d.zone d.ord))) := fun W u => shuffle_ v vo s _ _ W (hs.up u) hsm (ho.up u) hln
  have H3 : Hid (∀ W, Up w W → Calls Tryz.prog 81 #[v, .int .i64 d.number] W (DeV W (drawO s d.number))) := fun W u => draw_ v s _ W (hs.up u) hsm
  have H4 : Hid (∀ W, Up w W → Calls Tryz.prog 92 #[v, .int .i64 d.number] W (DeV W (outO s d.number))) := fun W u => out_ v s _ W (hs.up u) hsm
  have HK : Hid (∀ (W W' : World) (r : Int × Option Ev) (x : Ending), Up w W → DeV W r x W' → ∃ v', x = .returned (.tuple #[v', .int .i64 r.1]) ∧ DL w.heap.size W' v' r.2 ∧ Up w W') := fun W W' r x u ⟨v', h1, h2, h3⟩ => ⟨v', h1, dl_less h2 u.size, u.trans h3⟩
  unfold askO at HP
  obtain ⟨oa, ok, rfl, -, -⟩ := il_at ho
  obtain ⟨vp, vc, vz, hv, h1, h2, h3⟩ := hs
  obtain ⟨a1, k1, rfl, -, -⟩ := lc_at h1
  obtain ⟨a2, k2, rfl, -, -⟩ := lc_at h2
  obtain ⟨a3, k3, rfl, -, -⟩ := zl_at h3
  unfold sv at hv
  clear h1 h2 h3 hPost ho hln hb1 hb2
  subst hv
  unfold doc
  generalize d.ord.length = n at *
  by_cases e0 : d.kind = 0
  · rw [if_pos e0] at HP
    have f0 : d.kind = 0 := e0
    rw [f0]
    clear e0
    clear H1 H2 H3 H4
    go_enter Tryz.func32, Tryz.ntmps32
    go_wp2_with fail
    refine Calls.mono (H0.out _ (((Up.refl _).alloc _).alloc _)) ?_
    rintro r W1 hd
    obtain ⟨v', rfl, dl, u⟩ := HK.out _ _ _ _ (((Up.refl _).alloc _).alloc _) hd
    have HD : Hid _ := And.intro dl u
    clear hd dl u HK
    go_wp2
    rw [HP.out]
    exact ⟨_, rfl, HD.out.1, HD.out.2⟩
  · rw [if_neg e0] at HP
    have f0 : (d.kind == 0) = false := beq_eq_false_iff_ne.2 e0
    by_cases e1 : d.kind = 1
    · rw [if_pos e1] at HP
      have f1 : d.kind = 1 := e1
      rw [f1]
      clear e1
      clear H0 H2 H3 H4
      go_enter Tryz.func32, Tryz.ntmps32
      go_wp2_with fail
      refine Calls.mono (H1.out _ (((Up.refl _).alloc _).alloc _)) ?_
      rintro r W1 hd
      obtain ⟨v', rfl, dl, u⟩ := HK.out _ _ _ _ (((Up.refl _).alloc _).alloc _) hd
      have HD : Hid _ := And.intro dl u
      clear hd dl u HK
      go_wp2
      rw [HP.out]
      exact ⟨_, rfl, HD.out.1, HD.out.2⟩
    · rw [if_neg e1] at HP
      have f1 : (d.kind == 1) = false := beq_eq_false_iff_ne.2 e1
      by_cases e2 : d.kind = 2
      · rw [if_pos e2] at HP
        have f2 : d.kind = 2 := e2
        rw [f2]
        clear e2
        clear H0 H1 H3 H4
        go_enter Tryz.func32, Tryz.ntmps32
        go_wp2_with fail
        refine Calls.mono (H2.out _ (((Up.refl _).alloc _).alloc _)) ?_
        rintro r W1 hd
        obtain ⟨v', rfl, dl, u⟩ := HK.out _ _ _ _ (((Up.refl _).alloc _).alloc _) hd
        have HD : Hid _ := And.intro dl u
        clear hd dl u HK
        go_wp2
        rw [HP.out]
        exact ⟨_, rfl, HD.out.1, HD.out.2⟩
      · rw [if_neg e2] at HP
        have f2 : (d.kind == 2) = false := beq_eq_false_iff_ne.2 e2
        by_cases e3 : d.kind = 3
        · rw [if_pos e3] at HP
          have f3 : d.kind = 3 := e3
          rw [f3]
          clear e3
          clear H0 H1 H2 H4
          go_enter Tryz.func32, Tryz.ntmps32
          go_wp2_with fail
          refine Calls.mono (H3.out _ (((Up.refl _).alloc _).alloc _)) ?_
          rintro r W1 hd
          obtain ⟨v', rfl, dl, u⟩ := HK.out _ _ _ _ (((Up.refl _).alloc _).alloc _) hd
          have HD : Hid _ := And.intro dl u
          clear hd dl u HK
          go_wp2
          rw [HP.out]
          exact ⟨_, rfl, HD.out.1, HD.out.2⟩
        · rw [if_neg e3] at HP
          have f3 : (d.kind == 3) = false := beq_eq_false_iff_ne.2 e3
          clear H0 H1 H2 H3
          go_enter Tryz.func32, Tryz.ntmps32
          go_wp2_with fail
          refine Calls.mono (H4.out _ (((Up.refl _).alloc _).alloc _)) ?_
          rintro r W1 hd
          obtain ⟨v', rfl, dl, u⟩ := HK.out _ _ _ _ (((Up.refl _).alloc _).alloc _) hd
          have HD : Hid _ := And.intro dl u
          clear hd dl u HK
          go_wp2
          rw [HP.out]
          exact ⟨_, rfl, HD.out.1, HD.out.2⟩
end DE
end Go.Proofs.YtjabjiahienohaaGreatDoor
