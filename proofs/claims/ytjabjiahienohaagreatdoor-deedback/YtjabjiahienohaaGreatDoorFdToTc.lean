/-
  What fits an end; what leads by a change.
-/
import Derived.Test.YtjabjiahienohaaGreatDoorFaToFc
namespace Go.Proofs.YtjabjiahienohaaGreatDoor
open Go.RowKit
attribute [local go_sem ↓] Go.wp_at_zero Go.wp_at_succ

namespace DE
open Go.Proofs.YtjabjiahienohaaGreatDoor.ST
def endFitsB (s : Stt) (e : Ev) : Bool := decide (s.fin = 0) && (if e.now = 1 then numB e.player s.ps.length else if e.now = 2 then decide (e.player = 0) else false)
def endLeadsB (s : Stt) (e : Ev) : Bool := !decide (s.fin = 0) && (decide (wrap32 s.fin = e.now) && decide (s.winner = e.player))
set_option maxRecDepth 100000 in
set_option maxHeartbeats 4000000 in
theorem endFits_ (v : Value) (s : Stt) (e : Ev) (oa : Option Addr) (on oc : Nat) (w : World) (hs : StL w v s) : Calls Tryz.prog 159 #[v, evv e (.slice oa on oc)] w fun r w' => r = .returned (.bool (endFitsB s e)) ∧ Up w w' := by
  have HI : Hid (∀ W, Up w W → _) := fun W u => isPlayer_ v s e.player W (hs.up u)
  unfold endFitsB
  obtain ⟨vp, vc, vz, rfl, h1, h2, h3⟩ := hs
  obtain ⟨a2, k2, rfl, -, -⟩ := pl_at h1
  unfold evv evc at *
  unfold sv at *
  obtain ⟨kind, field, card, player, other, fr, frAt, to_, toAt, was, now, ord⟩ := e
  dsimp only at *
  clear h1 h2 h3
  generalize s.ps.length = m at *
  generalize s.fin = fi at *
  by_cases hf : fi = 0
  · subst hf
    by_cases h1 : now = 1
    · subst h1
      generalize numB player m = nb at *
      go_enter Tryz.func159, Tryz.ntmps159
      go_wp2_with fail
      refine Calls.mono (HI.out _ (((Up.refl _).alloc _).alloc _)) ?_
      rintro r w1 ⟨rfl, u1⟩
      have HU : Hid (Up w w1) := Up.trans (((Up.refl _).alloc _).alloc _) u1
      clear u1
      go_wp2
      go_ret
      exact ⟨by simp, HU.out⟩
    · have f1 : (now == 1) = false := beq_eq_false_iff_ne.2 h1
      by_cases h2 : now = 2
      · subst h2
        go_enter Tryz.func159, Tryz.ntmps159
        go_wp2
        go_ret
        exact ⟨by by_cases h : player = 0 <;> simp [h], ((Up.refl _).alloc _).alloc _⟩
      · have f2 : (now == 2) = false := beq_eq_false_iff_ne.2 h2
        rw [if_neg h1, if_neg h2]
        go_enter Tryz.func159, Tryz.ntmps159
        go_wp2
        go_ret
        exact ⟨by simp, ((Up.refl _).alloc _).alloc _⟩
  · have f0 : (fi == 0) = false := beq_eq_false_iff_ne.2 hf
    have g0 : decide (fi = 0) = false := decide_eq_false hf
    rw [g0, Bool.false_and]
    go_enter Tryz.func159, Tryz.ntmps159
    go_wp2
    go_ret
    exact ⟨by simp, ((Up.refl _).alloc _).alloc _⟩
set_option maxRecDepth 100000 in
set_option maxHeartbeats 4000000 in
theorem endLeads_ (v : Value) (s : Stt) (e : Ev) (oa : Option Addr) (on oc : Nat) (w : World) (hs : StL w v s) : Calls Tryz.prog 160 #[v, evv e (.slice oa on oc)] w fun r w' => r = .returned (.bool (endLeadsB s e)) ∧ Up w w' := by
  unfold endLeadsB
  obtain ⟨vp, vc, vz, rfl, h1, h2, h3⟩ := hs
  obtain ⟨a1, k1, rfl, -, -⟩ := pl_at h1
  obtain ⟨a2, k2, rfl, -, -⟩ := cl_at h2
  obtain ⟨a3, k3, rfl, -, -⟩ := zl_at h3
  unfold evv evc sv
  obtain ⟨kind, field, card, player, other, fr, frAt, to_, toAt, was, now, ord⟩ := e
  dsimp only at *
  clear h1 h2 h3
  generalize s.fin = fi at *
  generalize s.winner = wi at *
  by_cases hf : fi = 0
  · subst hf
    go_enter Tryz.func160, Tryz.ntmps160
    go_wp2
    go_ret
    exact ⟨by simp, ((Up.refl _).alloc _).alloc _⟩
  · have f0 : (fi == 0) = false := beq_eq_false_iff_ne.2 hf
    have g0 : decide (fi = 0) = false := decide_eq_false hf
    rw [g0]
    by_cases hg : wrap32 fi = now
    · have f1 : (wrap32 fi == now) = true := by rw [hg]; simp
      have g1 : decide (wrap32 fi = now) = true := decide_eq_true hg
      rw [g1]
      clear hg
      go_enter Tryz.func160, Tryz.ntmps160
      go_wp2
      go_ret
      refine ⟨?_, ((Up.refl _).alloc _).alloc _⟩
      by_cases h : wi = player
      · subst h; simp [hf]
      · have : (wi == player) = false := beq_eq_false_iff_ne.2 h
        simp [h, this]
    · have f1 : (wrap32 fi == now) = false := beq_eq_false_iff_ne.2 hg
      have g1 : decide (wrap32 fi = now) = false := decide_eq_false hg
      rw [g1]
      clear hg
      go_enter Tryz.func160, Tryz.ntmps160
      go_wp2
      go_ret
      exact ⟨by simp, ((Up.refl _).alloc _).alloc _⟩
set_option maxRecDepth 100000 in
set_option maxHeartbeats 4000000 in
theorem cardLeads_ (v : Value) (s : Stt) (e : Ev) (oa : Option Addr) (on oc : Nat) (w : World) (hs : StL w v s) : Calls Tryz.prog 131 #[v, evv e (.slice oa on oc)] w fun r w' => r = .returned (.bool (cardFitsB s (turnedE e))) ∧ Up w w' := by
  have HT : Hid _ := turned_ e oa on oc
  have HF : Hid (∀ W, Up w W → _) := fun W u => cardFits_ v s (turnedE e) oa on oc W (hs.up u)
  obtain ⟨vp, vc, vz, rfl, h1, h2, h3⟩ := hs
  obtain ⟨a1, k1, rfl, -, -⟩ := pl_at h1
  obtain ⟨a2, k2, rfl, -, -⟩ := cl_at h2
  obtain ⟨a3, k3, rfl, -, -⟩ := zl_at h3
  generalize cardFitsB s (turnedE e) = r0 at *
  generalize evv (turnedE e) (.slice oa on oc) = te at *
  clear h1 h2 h3
  unfold evv evc at *
  unfold sv at *
  go_enter Tryz.func131, Tryz.ntmps131
  go_wp2_with fail
  refine (fun key : ∀ W8, Up w W8 → (?G : World → Prop) W8 => ?main) ?kp
  case main =>
    go_region_with (first
      | (go_at_call 189; go_loud (refine Calls.mono (HT.out _) ?_; rintro r W9 ⟨rfl, u9⟩; have u8 := Up.trans (Up.drew (Up.refl _)) u9; have U9 : Hid (Up w W9) := Up.trans (((Up.refl _).alloc _).alloc _) u8; have s0 := par0 u8 0 _ rfl; have s1 := par0 u8 1 _ rfl; have s2 := par0 u8 2 _ rfl; have s3 := par0 u8 3 _ rfl; have s4 := par0 u8 4 _ rfl; have s5 := par0 u8 5 _ rfl; have s6 := par0 u8 6 _ rfl; clear u9 u8))
      | (go_at_call 130; refine Calls.mono (HF.out _ U9.out) ?_; rintro r W8 ⟨rfl, u8⟩; have U8 : Hid (Up w W8) := U9.out.trans u8; clear u8))
    all_goals exact key W8 U8.out
  case kp =>
    intro W8 hu8
    have HU8 : Hid _ := hu8
    clear hu8
    go_wp2
    go_ret
    exact ⟨rfl, HU8.out⟩
set_option maxRecDepth 100000 in
set_option maxHeartbeats 4000000 in
theorem playerLeads_ (v : Value) (s : Stt) (e : Ev) (oa : Option Addr) (on oc : Nat) (w : World) (hs : StL w v s) : Calls Tryz.prog 137 #[v, evv e (.slice oa on oc)] w fun r w' => r = .returned (.bool (playerFitsB s (turnedE e))) ∧ Up w w' := by
  have HT : Hid _ := turned_ e oa on oc
  have HF : Hid (∀ W, Up w W → _) := fun W u => playerFits_ v s (turnedE e) oa on oc W (hs.up u)
  obtain ⟨vp, vc, vz, rfl, h1, h2, h3⟩ := hs
  obtain ⟨a1, k1, rfl, -, -⟩ := pl_at h1
  obtain ⟨a2, k2, rfl, -, -⟩ := cl_at h2
  obtain ⟨a3, k3, rfl, -, -⟩ := zl_at h3
  generalize playerFitsB s (turnedE e) = r0 at *
  generalize evv (turnedE e) (.slice oa on oc) = te at *
  clear h1 h2 h3
  unfold evv evc at *
  unfold sv at *
  go_enter Tryz.func137, Tryz.ntmps137
  go_wp2_with fail
  refine (fun key : ∀ W8, Up w W8 → (?G : World → Prop) W8 => ?main) ?kp
  case main =>
    go_region_with (first
      | (go_at_call 189; go_loud (refine Calls.mono (HT.out _) ?_; rintro r W9 ⟨rfl, u9⟩; have u8 := Up.trans (Up.drew (Up.refl _)) u9; have U9 : Hid (Up w W9) := Up.trans (((Up.refl _).alloc _).alloc _) u8; have s0 := par0 u8 0 _ rfl; have s1 := par0 u8 1 _ rfl; have s2 := par0 u8 2 _ rfl; have s3 := par0 u8 3 _ rfl; have s4 := par0 u8 4 _ rfl; have s5 := par0 u8 5 _ rfl; have s6 := par0 u8 6 _ rfl; clear u9 u8))
      | (go_at_call 136; refine Calls.mono (HF.out _ U9.out) ?_; rintro r W8 ⟨rfl, u8⟩; have U8 : Hid (Up w W8) := U9.out.trans u8; clear u8))
    all_goals exact key W8 U8.out
  case kp =>
    intro W8 hu8
    have HU8 : Hid _ := hu8
    clear hu8
    go_wp2
    go_ret
    exact ⟨rfl, HU8.out⟩
end DE
end Go.Proofs.YtjabjiahienohaaGreatDoor
/-
  The same law for whatever class of worlds; the worlds behind one world.
-/
namespace Go.Proofs.YtjabjiahienohaaGreatDoor
open Go

/- a world behind w -/
structure UW (w : World) where
  W : World
  up : Up w W
namespace TailR
theorem wp_region_seqC {P : Program} {id : Nat} {Q : Exit → Act → World → Prop} {a : Act} {w : World} {l : List Oper} (n : Nat) (C : World → Prop) (hC : C (w.drewN 1)) (hm : P.follows .mixedOrders = true) (hB : allB0 .any l.toArray n = true)
    (h : wpQuiet P l.toArray C (fun a' => ∀ w', C w' → wpList P l.toArray Q (l.drop n) a' w') (l.take n) a) : (Code.region id l.toArray true).wp P Q a w := by
  simp only [allB0, Bool.and_eq_true, decide_eq_true_eq] at hB
  obtain ⟨⟨⟨⟨hs, hW⟩, hL⟩, hT⟩, hn⟩ := hB
  have hsz : l.toArray.size = l.length := by simp
  rw [hsz] at hn hL hT
  have hl : (l.take n).length = n := by simp; omega
  have hd : (l.drop n).length = l.length - n := by simp
  refine wp_region_any hm ?_
  rw [hsz]
  have key := wpAnyU_lex (P := P) (md := .any) (C := C) (n := n) (R := fun a' => ∀ w', C w' → wpList P l.toArray Q (l.drop n) a' w') hs (l.take n) 0 (Array.replicate l.length false) a
    (fun j o' hj => by
      rw [List.getElem?_take] at hj
      split at hj
      · rw [Nat.zero_add]; simpa using hj
      · cases hj)
    (by rw [hl]; exact hL) h
  rw [hl] at key
  rw [show l.length = (l.drop n).length + n by rw [hd]; omega]
  refine wpAny_of_U (C := C) (t := (l.drop n).length) hW (fun L a' w' hRL hw' => ?_) n _ _ _ ?_ (fun k hk => by omega) hC (by rw [show (l.drop n).length + n = l.length by rw [hd]; omega]; exact key)
  · obtain ⟨rfl, hRL⟩ := hRL
    exact wpAny_tail (l.drop n) n _ a' w' (fun j o' hj => by
      rw [List.getElem?_drop] at hj
      simpa using hj) (by rw [hd]; exact hT) (hRL w' hw')
  · intro j hj o' ho' e he hb
    rw [rep_false] at hj
    cases hj
end TailR
end Go.Proofs.YtjabjiahienohaaGreatDoor
