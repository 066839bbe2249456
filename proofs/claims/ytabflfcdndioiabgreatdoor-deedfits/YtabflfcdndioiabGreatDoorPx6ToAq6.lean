/-
  What fits changes something: no program.
-/
import Derived.Test.YtabflfcdndioiabGreatDoorPt6ToPw6
import Derived.Test.YtabflfcdndioiabGreatDoorOo6Q
namespace Go.Proofs.YtabflfcdndioiabGreatDoor
open Go.RowKit

namespace DE
open Go.Proofs.YtabflfcdndioiabGreatDoor.ST
theorem eqS_zs {a b : Stt} (h : a.zs ≠ b.zs) : eqS a b = false := by unfold eqS; simp [h]
theorem eqS_cs {a b : Stt} (h : a.cs ≠ b.cs) : eqS a b = false := by unfold eqS; simp [h]
theorem eqS_ps {a b : Stt} (h : a.ps ≠ b.ps) : eqS a b = false := by unfold eqS; simp [h]
theorem none_was {e : Ev} (h : noneB e = false) (h1 : e.fr = 0) (h2 : e.frAt = 0) (h3 : e.to_ = 0) (h4 : e.toAt = 0) : e.was ≠ e.now := by
  unfold noneB at h
  rw [h1, h2, h3, h4] at h
  simpa using h
theorem move_new {s : Stt} {e : Ev} (h : ff s = none) (hr : (nothingB (moveR e)) = true) (hf : moveFitsB s e = true) : moveZ s.zs e.fr.toNat e.frAt.toNat e.to_.toNat e.toAt.toNat e.card ≠ s.zs := by
  intro heq
  have hok := move_ok h hf
  obtain ⟨i, p, j, q, a1, a2, a3, a4, a5, a6, a7, a8, -, -⟩ := move_at (zone_le h) hf
  have hn1 := ((ff_none s).1 h).2.1.1
  unfold moveFitsB at hf
  simp only [Bool.and_eq_true, decide_eq_true_eq, Bool.not_eq_true'] at hf
  obtain ⟨-, -, -, hno, -, hc, -⟩ := hf
  unfold zn at hc
  rw [a1, a2] at hc
  simp only [Int.toNat_natCast] at hc
  have w1 := flat_one s.zs hn1 e.card i p 0 a5 a7 hc
  rw [a1, a2, a3, a4] at heq
  simp only [Int.toNat_natCast] at heq
  have hl := ins_get (c := e.card) a8
  have hj : j < (s.zs.set i (cutL (s.zs.getD i []) p)).length := by simpa using a6
  have e1 : (moveZ s.zs i p j q e.card).getD j [] = insL ((s.zs.set i (cutL (s.zs.getD i []) p)).getD j []) q e.card := by
    unfold moveZ
    rw [set_get hj]
  rw [heq] at e1
  have w2 := flat_one s.zs hn1 e.card j q 0 a6 (by rw [e1, hl.2]; omega) (by rw [e1]; exact hl.1)
  rw [w1] at w2
  simp only [Option.some.injEq, Prod.mk.injEq] at w2
  unfold nothingB moveR at hr
  simp only [Bool.and_eq_true, decide_eq_true_eq] at hr
  unfold noneB at hno
  rw [a1, a2, a3, a4, hr.1.2, hr.2] at hno
  simp at hno
  omega
theorem card_new {s : Stt} {e : Ev} (hr : (nothingB (cardR e)) = true) (hf : cardFitsB s e = true) : s.cs.set e.card.toNat (cSet (s.cs.getD e.card.toNat dc) e.field e.now) ≠ s.cs := by
  intro heq
  obtain ⟨a1, y, a2⟩ := card_at hf
  obtain ⟨i, e1, hi⟩ := num_nat a1
  unfold cardFitsB at hf
  rw [a2] at hf
  simp only [Bool.and_eq_true] at hf
  have hf := hf.2
  unfold statFitsB at hf
  simp only [Bool.and_eq_true, decide_eq_true_eq, Bool.not_eq_true'] at hf
  have hb := card_back (x := e.now) a2
  have : (s.cs.set e.card.toNat (cSet (s.cs.getD e.card.toNat dc) e.field e.now)).getD e.card.toNat dc = s.cs.getD e.card.toNat dc := by rw [heq]
  rw [set_get (by rw [e1, Int.toNat_natCast]; exact hi)] at this
  rw [this, a2] at hb
  have hyn : y = e.now := by simpa using hb.2
  unfold nothingB cardR at hr
  simp only [Bool.and_eq_true, decide_eq_true_eq] at hr
  exact none_was hf.2 hr.1.1.1.1.1.2 hr.1.1.1.1.2 hr.1.1.1.2 hr.1.1.2 (by rw [← hyn, hf.1.1])
theorem player_new {s : Stt} {e : Ev} (hr : (nothingB (playerR e)) = true) (hf : playerFitsB s e = true) : s.ps.set e.player.toNat (pSet (s.ps.getD e.player.toNat dp) e.field e.now) ≠ s.ps := by
  intro heq
  obtain ⟨a1, y, a2⟩ := player_at hf
  obtain ⟨i, e1, hi⟩ := num_nat a1
  unfold playerFitsB at hf
  rw [a2] at hf
  simp only [Bool.and_eq_true] at hf
  have hf := hf.2
  unfold statFitsB at hf
  simp only [Bool.and_eq_true, decide_eq_true_eq, Bool.not_eq_true'] at hf
  have hb := player_back (x := e.now) a2
  have : (s.ps.set e.player.toNat (pSet (s.ps.getD e.player.toNat dp) e.field e.now)).getD e.player.toNat dp = s.ps.getD e.player.toNat dp := by rw [heq]
  rw [set_get (by rw [e1, Int.toNat_natCast]; exact hi)] at this
  rw [this, a2] at hb
  have hyn : y = e.now := by simpa using hb.2
  unfold nothingB playerR at hr
  simp only [Bool.and_eq_true, decide_eq_true_eq] at hr
  exact none_was hf.2 hr.1.1.1.1.1.2 hr.1.1.1.1.2 hr.1.1.1.2 hr.1.1.2 (by rw [← hyn, hf.1.1])
theorem shuf_new {zl ord : List Int} (hn : zl.Nodup) (ho : ordB zl.length ord = true) (hr : risesB ord = false) : shufL zl ord ≠ zl := by
  intro heq
  have hl := (ord_at ho).1
  have hon := ord_num ho
  have : ord = (List.range ord.length).map (fun i : Nat => (i : Int)) := by
    apply List.ext_getElem
    · simp
    · intro i h1 h2
      obtain ⟨k, e1, hk⟩ := num_nat (hon i h1)
      have hi : i < zl.length := by omega
      have hx : (shufL zl ord)[i]? = zl[i]? := by rw [heq]
      unfold shufL at hx
      rw [List.getElem?_map, List.getElem?_eq_getElem h1, List.getElem?_eq_getElem hi] at hx
      rw [List.getD_eq_getElem?_getD, List.getElem?_eq_getElem h1] at e1
      have e1 : ord[i] = (k : Int) := e1
      rw [e1] at hx
      simp only [Option.map_some, Int.toNat_natCast, Option.some.injEq] at hx
      rw [List.getD_eq_getElem?_getD, List.getElem?_eq_getElem hk] at hx
      have := nodup_at hn hk hi hx
      rw [e1, this]
      simp
  unfold risesB at hr
  rw [beq_eq_false_iff_ne] at hr
  exact hr this
theorem behind_new {s : Stt} {e : Ev} (h : ff s = none) (hf : (okB e && fitB s e) = true) : eqS (behindS s e) s = false := by
  unfold okB at hf
  simp only [Bool.and_eq_true] at hf
  obtain ⟨⟨hk, hr⟩, hf⟩ := hf
  unfold restB at hr
  unfold fitB at hf
  unfold behindS
  rcases kinds hk with hk | hk | hk | hk | hk | hk | hk
  · simp only [hk, if_pos] at hf hr ⊢
    simp only [Bool.and_eq_true] at hr
    exact eqS_zs (move_new h hr.1 hf)
  · simp [hk] at hf hr ⊢
    exact eqS_cs (card_new hr.1 hf)
  · simp [hk] at hf hr ⊢
    exact eqS_ps (player_new hr.1 hf)
  · simp [hk] at hf ⊢
    unfold shuffleFitsB at hf
    simp only [Bool.and_eq_true, Bool.not_eq_true'] at hf
    obtain ⟨i, e1, hi⟩ := num_nat hf.1
    refine eqS_zs fun heq => ?_
    have hn1 := ((ff_none s).1 h).2.1.1
    have hz : (s.zs.getD i []).Nodup := by
      have hm : s.zs.getD i [] ∈ s.zs := by rw [List.getD_eq_getElem?_getD, List.getElem?_eq_getElem hi]; exact List.getElem_mem _
      exact (List.sublist_flatten_of_mem hm).nodup hn1
    have e2 : zn s e.fr = s.zs.getD i [] := by unfold zn; rw [e1, Int.toNat_natCast]
    have h2 := hf.2
    rw [e2] at h2
    refine shuf_new hz h2.1 h2.2 ?_
    have this : (s.zs.set e.fr.toNat (shufL (zn s e.fr) e.ord)).getD i [] = s.zs.getD i [] := congrArg (fun l : List (List Int) => l.getD i []) heq
    rw [e2, e1, Int.toNat_natCast, set_get hi] at this
    exact this
  · simp [hk] at hf ⊢
    unfold outFitsB at hf
    simp only [Bool.and_eq_true, Bool.not_eq_true'] at hf
    obtain ⟨i, e1, hi⟩ := num_nat hf.1
    refine eqS_ps fun heq => ?_
    have h3 : ((s.ps.set e.player.toNat { s.ps.getD e.player.toNat dp with out := true }).getD i dp).out = (s.ps.getD i dp).out := congrArg (fun l : List Ply => (l.getD i dp).out) heq
    rw [e1, Int.toNat_natCast, set_get hi] at h3
    have h2 := hf.2
    rw [e1, Int.toNat_natCast, ← h3] at h2
    cases h2
  · simp [hk] at hf ⊢
    unfold turnFitsB behindB at hf
    simp only [Bool.and_eq_true, decide_eq_true_eq] at hf
    obtain ⟨h1, -, -, h3, h4⟩ := hf
    have ht : 1 ≤ s.turn := ((ff_none s).1 h).1.2.2.2.1
    have hw : wrap32 (e.was + 1) = e.was + 1 := by unfold wrap32; omega
    rw [hw] at h4
    unfold eqS
    have : e.now ≠ s.turn := by omega
    simp [this]
  · simp [hk] at hf ⊢
    unfold endFitsB at hf
    simp only [Bool.and_eq_true, decide_eq_true_eq] at hf
    obtain ⟨h1, h2⟩ := hf
    have : IntKind.i8.wrap e.now ≠ s.fin := by
      rw [h1]
      split at h2
      · rename_i h3
        rw [h3]
        decide
      · split at h2
        · rename_i h3
          rw [h3]
          decide
        · cases h2
    unfold eqS
    simp [this]
end DE
end Go.Proofs.YtabflfcdndioiabGreatDoor
/-
  A field changed, once and again: no program.
-/
namespace Go.Proofs.YtabflfcdndioiabGreatDoor
open Go.RowKit

namespace DE
open Go.Proofs.YtabflfcdndioiabGreatDoor.ST
def ev2 (f n y x : Int) : Ev := ⟨2, f, n, 0, 0, 0, 0, 0, 0, y, x, []⟩
def ev3 (f n y x : Int) : Ev := ⟨3, f, 0, n, 0, 0, 0, 0, 0, y, x, []⟩
/- what chP answers: a card's or a player's field -/
theorem chP_cases {s : Stt} {f n : Int} {r : Ev × Int} (h : chP s f n = some r) :
    (∃ i : Nat, n = i ∧ i < s.cs.length ∧ cGet (s.cs.getD i dc) f = some r.2 ∧ r.1 = ev2 f n 0 0) ∨ (cPart s f n = none ∧ ∃ i : Nat, n = i ∧ i < s.ps.length ∧ pGet (s.ps.getD i dp) f = some r.2 ∧ r.1 = ev3 f n 0 0) := by
  unfold chP at h
  cases hq : cPart s f n with
  | some q =>
    rw [hq] at h
    cases h
    left
    unfold cPart at hq
    split at hq
    · rename_i hn
      obtain ⟨i, rfl, hi⟩ := num_nat hn
      rw [Int.toNat_natCast] at hq
      cases hy : cGet (s.cs.getD i dc) f with
      | none => rw [hy] at hq; cases hq
      | some y =>
        rw [hy] at hq
        simp only [Option.map_some, Option.some.injEq] at hq
        subst hq
        exact ⟨i, rfl, hi, hy, rfl⟩
    · cases hq
  | none =>
    rw [hq] at h
    right
    refine ⟨rfl, ?_⟩
    have h : pPart s f n = some r := h
    unfold pPart at h
    split at h
    · rename_i hn
      obtain ⟨i, rfl, hi⟩ := num_nat hn
      rw [Int.toNat_natCast] at h
      cases hy : pGet (s.ps.getD i dp) f with
      | none => rw [hy] at h; cases h
      | some y =>
        rw [hy] at h
        simp only [Option.map_some, Option.some.injEq] at h
        subst h
        exact ⟨i, rfl, hi, hy, rfl⟩
    · cases h
def setF (s : Stt) (r : Ev × Int) (x : Int) : Stt := behindS s { r.1 with was := r.2, now := x }
theorem set2 (s : Stt) (f : Int) (i : Nat) (y x : Int) : setF s (ev2 f i 0 0, y) x = { s with cs := s.cs.set i (cSet (s.cs.getD i dc) f x) } := by
  unfold setF behindS ev2
  simp
theorem set3 (s : Stt) (f : Int) (i : Nat) (y x : Int) : setF s (ev3 f i 0 0, y) x = { s with ps := s.ps.set i (pSet (s.ps.getD i dp) f x) } := by
  unfold setF behindS ev3
  simp
theorem cset_same2 {c : Crd} {f y : Int} (h : cGet c f = some y) : cSet c f y = c := by
  unfold cGet at h
  unfold cSet
  split at h
  · rename_i hf; cases h; simp [hf]
  split at h
  · rename_i hf; cases h; simp [hf]
  split at h
  · rename_i hf; cases h; simp [hf]
  split at h
  · rename_i hf; cases h; simp [hf]
  · cases h
theorem pset_same2 {c : Ply} {f y : Int} (h : pGet c f = some y) : pSet c f y = c := by
  unfold pGet at h
  unfold pSet
  split at h
  · rename_i hf; cases h; simp [hf]
  split at h
  · rename_i hf; cases h; simp [hf]
  · cases h
theorem cset_twice (c : Crd) (f x z : Int) : cSet (cSet c f x) f z = cSet c f z := by
  unfold cSet
  split
  · rfl
  split
  · rfl
  split <;> rfl
theorem pset_twice (c : Ply) (f x z : Int) : pSet (pSet c f x) f z = pSet c f z := by
  unfold pSet
  split <;> rfl
theorem set_self2 {s : Stt} {f n : Int} {r : Ev × Int} (h : chP s f n = some r) : setF s r r.2 = s := by
  rcases chP_cases h with ⟨i, rfl, hi, hg, he⟩ | ⟨-, i, rfl, hi, hg, he⟩
  · obtain ⟨ev, y⟩ := r
    dsimp only at he hg ⊢
    rw [he, set2, cset_same2 hg, set_self hi]
  · obtain ⟨ev, y⟩ := r
    dsimp only at he hg ⊢
    rw [he, set3, pset_same2 hg, set_self hi]
theorem set_again {s : Stt} {f n x : Int} {r : Ev × Int} (h : chP s f n = some r) : chP (setF s r x) f n = some (r.1, x) ∧ ∀ z, setF (setF s r x) (r.1, x) z = setF s r z := by
  rcases chP_cases h with ⟨i, rfl, hi, hg, he⟩ | ⟨hc, i, rfl, hi, hg, he⟩
  · obtain ⟨ev, y⟩ := r
    dsimp only at he hg ⊢
    rw [he, set2]
    refine ⟨?_, fun z => ?_⟩
    · have hn : numB (i : Int) (s.cs.set i (cSet (s.cs.getD i dc) f x)).length = true := by unfold numB; simp; omega
      unfold chP cPart
      rw [if_pos hn, Int.toNat_natCast]
      dsimp only
      rw [set_get hi, (card_back hg).2]
      rfl
    · rw [set2, set2]
      dsimp only
      rw [set_get hi, cset_twice, List.set_set]
  · obtain ⟨ev, y⟩ := r
    dsimp only at he hg ⊢
    rw [he, set3]
    refine ⟨?_, fun z => ?_⟩
    · have hn : numB (i : Int) (s.ps.set i (pSet (s.ps.getD i dp) f x)).length = true := by unfold numB; simp; omega
      have hc2 : cPart { s with ps := s.ps.set i (pSet (s.ps.getD i dp) f x) } f (i : Int) = none := hc
      unfold chP
      rw [hc2]
      unfold pPart
      dsimp only
      rw [if_pos hn, Int.toNat_natCast, set_get hi, (player_back hg).2]
      rfl
    · rw [set3, set3]
      dsimp only
      rw [set_get hi, pset_twice, List.set_set]
theorem set_fits {s : Stt} {f n x : Int} {r : Ev × Int} (h : chP s f n = some r) (hx : statB x = true) (hne : r.2 ≠ x) : (okB { r.1 with was := r.2, now := x } && fitB s { r.1 with was := r.2, now := x }) = true := by
  rcases chP_cases h with ⟨i, rfl, hi, hg, he⟩ | ⟨hc, i, rfl, hi, hg, he⟩
  · obtain ⟨ev, y⟩ := r
    dsimp only at he hg hne ⊢
    rw [he]
    have hn : numB (i : Int) s.cs.length = true := by unfold numB; simp; omega
    unfold okB fitB ev2 cardFitsB
    dsimp only
    rw [hn, Int.toNat_natCast, hg]
    simp [kindB, restB, nothingB, cardR, statFitsB, noneB, hx, hne]
  · obtain ⟨ev, y⟩ := r
    dsimp only at he hg hne ⊢
    rw [he]
    have hn : numB (i : Int) s.ps.length = true := by unfold numB; simp; omega
    unfold okB fitB ev3 playerFitsB
    dsimp only
    rw [hn, Int.toNat_natCast, hg]
    simp [kindB, restB, nothingB, playerR, statFitsB, noneB, hx, hne]
theorem one_is {s : Stt} {f n x : Int} {r : Ev × Int} (h : chP s f n = some r) : one { r.1 with was := r.2, now := x } = if r.2 = x then none else some { r.1 with was := r.2, now := x } := by
  have hz : noneB { r.1 with was := r.2, now := x } = decide (r.2 = x) := by
    rcases chP_cases h with ⟨i, rfl, hi, hg, he⟩ | ⟨hc, i, rfl, hi, hg, he⟩ <;> (rw [he]; simp [noneB, ev2, ev3])
  unfold one
  rw [hz]
  simp
/- a change that is made is replayed -/
theorem rep_one {s : Stt} {f n x : Int} {r : Ev × Int} (hok : ff s = none) (h : chP s f n = some r) (hx : statB x = true) : repO s (one { r.1 with was := r.2, now := x }).toList = some (.inr (setF s r x)) ∧ ff (setF s r x) = none := by
  rw [one_is h]
  unfold repO
  rw [if_pos hok]
  by_cases he : r.2 = x
  · rw [if_pos he, ← he, set_self2 h]
    exact ⟨rfl, hok⟩
  · rw [if_neg he]
    have hf := set_fits h hx he
    refine ⟨?_, ok_behind hok hf⟩
    show some (if okB { r.1 with was := r.2, now := x } && fitB s { r.1 with was := r.2, now := x } then repl (behindS s { r.1 with was := r.2, now := x }) [] 1 else Sum.inl 0) = _
    rw [if_pos hf]
    rfl
theorem now_stat (y b : Int) : statB (chNow y b) = true := by
  unfold statB chNow
  simp only [Bool.and_eq_true, decide_eq_true_eq]
  omega
theorem now_in {y b : Int} (h1 : chNow y b ≠ 1000000000) (h2 : chNow y b ≠ -1000000000) : chNow y b = y + b := by
  unfold chNow cut64 cutI at *
  omega
end DE
end Go.Proofs.YtabflfcdndioiabGreatDoor
