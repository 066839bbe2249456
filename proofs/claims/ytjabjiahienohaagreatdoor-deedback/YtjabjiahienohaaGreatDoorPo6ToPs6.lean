/-
  What an event that fits leads to may be; what an event that leads came from may be: all kinds.
-/
import Derived.Test.YtjabjiahienohaaGreatDoorPu6ToPn6
namespace Go.Proofs.YtjabjiahienohaaGreatDoor
open Go.RowKit

namespace DE
open Go.Proofs.YtjabjiahienohaaGreatDoor.ST
theorem turn_ok {s : Stt} (h : ff s = none) {t wh : Int} (ht : 1 ≤ t) (hw : numB wh s.ps.length = true) : ff { s with turn := t, whose := wh } = none := by
  obtain ⟨⟨a1, a2, a3, a4, a5, a6, a7⟩, h2, h3⟩ := (ff_none s).1 h
  exact (ff_none _).2 ⟨⟨a1, a2, a3, ht, hw, a6, a7⟩, h2, h3⟩
theorem end_ok {s : Stt} (h : ff s = none) {f wi : Int} (hf : f = 0 ∨ f = 1 ∨ f = 2) (hw : (if f = 1 then numB wi s.ps.length else decide (wi = 0)) = true) : ff { s with fin := f, winner := wi } = none := by
  obtain ⟨⟨a1, a2, a3, a4, a5, a6, a7⟩, h2, h3⟩ := (ff_none s).1 h
  refine (ff_none _).2 ⟨⟨a1, a2, a3, a4, a5, ?_, hw⟩, h2, h3⟩
  unfold finB
  rcases hf with rfl | rfl | rfl <;> rfl
theorem behind_ok {s : Stt} {e : Ev} (h : ff s = none) (hk : kindB e.kind = true) (hf : fitB s e = true) : ff (behindS s e) = none := by
  unfold fitB at hf
  unfold behindS
  rcases kinds hk with hk | hk | hk | hk | hk | hk | hk
  · simp only [hk, if_pos] at hf ⊢
    exact move_ok h hf
  · simp [hk] at hf ⊢
    simpa using card_ok h hf
  · simp [hk] at hf ⊢
    simpa using player_ok h hf
  · simp [hk] at hf ⊢
    unfold shuffleFitsB at hf
    simp only [Bool.and_eq_true] at hf
    obtain ⟨i, e1, hi⟩ := num_nat hf.1
    have h9 := hf.2.1
    have hz : zn s e.fr = s.zs.getD i [] := by unfold zn; rw [e1, Int.toNat_natCast]
    rw [hz] at h9 ⊢
    rw [e1, Int.toNat_natCast]
    exact perm_ok h hi (shuf_perm h9)
  · simp [hk] at hf ⊢
    unfold outFitsB at hf
    rw [Bool.and_eq_true] at hf
    simpa using out_ok h hf.1 true
  · simp [hk] at hf ⊢
    unfold turnFitsB behindB at hf
    simp only [Bool.and_eq_true, decide_eq_true_eq] at hf
    have ht : 1 ≤ s.turn := ((ff_none s).1 h).1.2.2.2.1
    refine turn_ok h ?_ hf.2.2.1
    rw [hf.2.2.2.2]
    unfold wrap32
    have := hf.1
    have := hf.2.2.2.1
    omega
  · simp [hk] at hf ⊢
    unfold endFitsB at hf
    simp only [Bool.and_eq_true, decide_eq_true_eq] at hf
    by_cases e1 : e.now = 1
    · rw [if_pos e1] at hf
      rw [e1]
      exact end_ok h (f := IntKind.i8.wrap 1) (.inr (.inl (by decide))) (by rw [if_pos (by decide)]; exact hf.2)
    · rw [if_neg e1] at hf
      by_cases e2 : e.now = 2
      · rw [if_pos e2] at hf
        rw [e2]
        exact end_ok h (f := IntKind.i8.wrap 2) (.inr (.inr (by decide))) (by rw [if_neg (by decide)]; exact hf.2)
      · rw [if_neg e2] at hf
        exact absurd hf.2 (by decide)
theorem ahead_ok {s : Stt} {e : Ev} (h : ff s = none) (hk : kindB e.kind = true) (hf : leadB s e = true) : ff (aheadS s e) = none := by
  unfold leadB at hf
  unfold aheadS
  rcases kinds hk with hk | hk | hk | hk | hk | hk | hk
  · simp only [hk, if_pos] at hf ⊢
    exact move_ok h hf
  · simp [hk] at hf ⊢
    exact card_ok h hf
  · simp [hk] at hf ⊢
    exact player_ok h hf
  · simp [hk] at hf ⊢
    unfold shuffleFitsB at hf
    simp only [Bool.and_eq_true] at hf
    obtain ⟨i, e1, hi⟩ := num_nat hf.1
    have h9 := hf.2.1
    have hz : zn s e.fr = s.zs.getD i [] := by unfold zn; rw [e1, Int.toNat_natCast]
    rw [hz] at h9 ⊢
    rw [e1, Int.toNat_natCast]
    exact perm_ok h hi (unsh_perm h9)
  · simp [hk] at hf ⊢
    unfold outLeadsB at hf
    rw [Bool.and_eq_true] at hf
    exact out_ok h hf.1 false
  · simp [hk] at hf ⊢
    unfold turnLeadsB at hf
    simp only [Bool.and_eq_true, decide_eq_true_eq] at hf
    exact turn_ok h hf.2.2.2.2 hf.2.2.1
  · simp [hk]
    exact end_ok h (.inl rfl) rfl
/- each zone of a state that may be is short -/
theorem zone_le {s : Stt} (h : ff s = none) : ∀ r ∈ s.zs, r.length ≤ 256 := fun r hr => by
  obtain ⟨⟨a1, -⟩, -, h3⟩ := (ff_none s).1 h
  simp only [sizesB, ncB, Bool.and_eq_true, decide_eq_true_eq] at a1
  have h4 : r.length ≤ (flat s).length := by
    unfold flat
    exact (List.sublist_flatten_of_mem hr).length_le
  omega
end DE
end Go.Proofs.YtjabjiahienohaaGreatDoor
/-
  There and back.
-/
namespace Go.Proofs.YtjabjiahienohaaGreatDoor
open Go.RowKit

namespace DE
open Go.Proofs.YtjabjiahienohaaGreatDoor.ST
theorem ins_cut {l : List Int} {p : Nat} {c : Int} (hp : p < l.length) (hc : l.getD p 0 = c) : insL (cutL l p) p c = l := by
  have hlt : (l.take p).length = p := by rw [List.length_take]; omega
  unfold insL cutL
  rw [List.take_left' hlt, List.drop_left' hlt]
  rw [List.getD_eq_getElem?_getD, List.getElem?_eq_getElem hp] at hc
  have hc' : l[p] = c := hc
  rw [← hc', ← List.drop_eq_getElem_cons hp, List.take_append_drop]
theorem cut_ins {l : List Int} {q : Nat} {c : Int} (hq : q ≤ l.length) : cutL (insL l q c) q = l := by
  have hlt : (l.take q).length = q := by rw [List.length_take]; omega
  unfold insL cutL
  rw [List.take_left' hlt, ← List.drop_drop, List.drop_left' hlt]
  simp
theorem ins_get {l : List Int} {q : Nat} {c : Int} (hq : q ≤ l.length) : (insL l q c).getD q 0 = c ∧ (insL l q c).length = l.length + 1 := by
  have hlt : (l.take q).length = q := by rw [List.length_take]; omega
  unfold insL
  refine ⟨?_, by simp; omega⟩
  rw [List.getD_eq_getElem?_getD, List.getElem?_append_right (by omega), hlt, Nat.sub_self]
  rfl
theorem set_self {A : Type} {l : List A} {i : Nat} {d : A} (hi : i < l.length) : l.set i (l.getD i d) = l := by
  rw [List.getD_eq_getElem?_getD, List.getElem?_eq_getElem hi]
  exact List.set_getElem_self hi
theorem set_get {A : Type} {l : List A} {i : Nat} {d x : A} (hi : i < l.length) : (l.set i x).getD i d = x := by
  rw [List.getD_eq_getElem?_getD, List.getElem?_set_self hi]
  rfl
theorem move_back {zs : List (List Int)} {i p j q : Nat} {c : Int} (hi : i < zs.length) (hj : j < zs.length) (hp : p < (zs.getD i []).length) (hc : (zs.getD i []).getD p 0 = c) (hq : q ≤ ((zs.set i (cutL (zs.getD i []) p)).getD j []).length) : moveZ (moveZ zs i p j q c) j q i p c = zs := by
  unfold moveZ
  generalize hz1 : zs.set i (cutL (zs.getD i []) p) = z1 at *
  have hl1 : z1.length = zs.length := by rw [← hz1, List.length_set]
  have hg1 : z1.getD i [] = cutL (zs.getD i []) p := by rw [← hz1]; exact set_get hi
  rw [set_get (by omega), cut_ins hq, List.set_set, set_self (by omega), hg1, ins_cut hp hc, ← hz1, List.set_set]
  exact set_self hi
theorem card_back {c : Crd} {f x y : Int} (h : cGet c f = some y) : cSet (cSet c f x) f y = c ∧ cGet (cSet c f x) f = some x := by
  unfold cGet at h
  unfold cSet cGet
  by_cases e1 : f = 1
  · subst e1; simp at h ⊢; subst h; rfl
  · by_cases e2 : f = 2
    · subst e2; simp at h ⊢; subst h; rfl
    · by_cases e3 : f = 3
      · subst e3; simp at h ⊢; subst h; rfl
      · by_cases e4 : f = 4
        · subst e4; simp at h ⊢; subst h; rfl
        · simp [e1, e2, e3, e4] at h
theorem player_back {c : Ply} {f x y : Int} (h : pGet c f = some y) : pSet (pSet c f x) f y = c ∧ pGet (pSet c f x) f = some x := by
  unfold pGet at h
  unfold pSet pGet
  by_cases e1 : f = 5
  · subst e1; simp at h ⊢; subst h; rfl
  · by_cases e2 : f = 6
    · subst e2; simp at h ⊢; subst h; rfl
    · simp [e1, e2] at h
theorem shuf_back {zl ord : List Int} (h : ordB zl.length ord = true) : unshL (shufL zl ord) ord = zl := by
  have hol := (ord_at h).1
  have hsl : (shufL zl ord).length = zl.length := by unfold shufL; rw [List.length_map]; exact hol
  apply List.ext_getElem?
  intro p
  unfold unshL
  rw [List.getElem?_map]
  by_cases hp : p < zl.length
  · rw [List.getElem?_range (by omega), List.getElem?_eq_getElem hp]
    obtain ⟨d1, d2⟩ := ord_idx h p hp
    rw [List.getD_eq_getElem?_getD, List.getElem?_eq_getElem d1] at d2
    have d3 : ord[ord.idxOf (p : Int)] = (p : Int) := d2
    simp only [Option.map_some]
    unfold shufL
    rw [List.getD_eq_getElem?_getD, List.getElem?_map, List.getElem?_eq_getElem d1, Option.map_some, d3, Int.toNat_natCast, Option.getD_some, List.getD_eq_getElem?_getD, List.getElem?_eq_getElem hp]
    rfl
  · rw [List.getElem?_eq_none (by simp; omega), List.getElem?_eq_none (by omega)]
    rfl
theorem unsh_back {zl ord : List Int} (h : ordB zl.length ord = true) : shufL (unshL zl ord) ord = zl := by
  have hol := (ord_at h).1
  have hon := ord_num h
  apply List.ext_getElem?
  intro k
  unfold shufL
  rw [List.getElem?_map]
  by_cases hk : k < ord.length
  · rw [List.getElem?_eq_getElem hk, List.getElem?_eq_getElem (by omega)]
    obtain ⟨n, hn, hnl⟩ := num_nat (hon k hk)
    rw [List.getD_eq_getElem?_getD, List.getElem?_eq_getElem hk] at hn
    have hn' : ord[k] = (n : Int) := hn
    have hi : ord.idxOf (n : Int) = k := by
      have hm : ord.idxOf (n : Int) < ord.length := List.idxOf_lt_length_of_mem (by rw [← hn']; exact List.getElem_mem hk)
      have he : ord[ord.idxOf (n : Int)] = (n : Int) := List.getElem_idxOf hm
      exact nodup_at (ord_ent h).1 hm hk (by rw [he, hn'])
    rw [Option.map_some, hn', Int.toNat_natCast]
    unfold unshL
    rw [List.getD_eq_getElem?_getD, List.getElem?_map, List.getElem?_range hnl, Option.map_some, Option.getD_some, hi, List.getD_eq_getElem?_getD, List.getElem?_eq_getElem (by omega)]
    rfl
  · rw [List.getElem?_eq_none (by omega), List.getElem?_eq_none (by omega)]
    rfl
end DE
end Go.Proofs.YtjabjiahienohaaGreatDoor
/-
  There and back: all kinds.
-/
namespace Go.Proofs.YtjabjiahienohaaGreatDoor
open Go.RowKit

namespace DE
open Go.Proofs.YtjabjiahienohaaGreatDoor.ST
theorem none_turned (e : Ev) : noneB (turnedE e) = noneB e := by
  unfold noneB turnedE
  simp only [eq_comm]
theorem move_leads {s : Stt} {e : Ev} (hf : moveFitsB s e = true) : moveFitsB { s with zs := moveZ s.zs e.fr.toNat e.frAt.toNat e.to_.toNat e.toAt.toNat e.card } (turnedE e) = true ∧ moveZ (moveZ s.zs e.fr.toNat e.frAt.toNat e.to_.toNat e.toAt.toNat e.card) e.to_.toNat e.toAt.toNat e.fr.toNat e.frAt.toNat e.card = s.zs := by
  unfold moveFitsB at hf
  simp only [Bool.and_eq_true, decide_eq_true_eq] at hf
  obtain ⟨h0, h1, h2, h9, h3, h4, h5, h6⟩ := hf
  obtain ⟨i, e1, hi⟩ := num_nat h1
  obtain ⟨j, e2, hj⟩ := num_nat h2
  obtain ⟨p, e3, hp⟩ := num_nat h3
  obtain ⟨q, e4⟩ : ∃ q : Nat, e.toAt = (q : Int) := ⟨e.toAt.toNat, by omega⟩
  unfold zn at hp h4
  rw [e1, Int.toNat_natCast] at hp h4
  rw [e3, Int.toNat_natCast] at h4
  unfold others zn at h6
  rw [e1, e2, e4, Int.toNat_natCast] at h6
  have hlen : (if (j : Int) = (i : Int) then ((s.zs.getD j []).length : Int) - 1 else ((s.zs.getD j []).length : Int)) = (((s.zs.set i (cutL (s.zs.getD i []) p)).getD j []).length : Int) := by
    by_cases e : i = j
    · subst e
      rw [if_pos rfl, set_get hi, cut_len hp]
      omega
    · rw [if_neg (by omega), List.getD_eq_getElem?_getD (l := s.zs.set _ _), List.getElem?_set_ne e, ← List.getD_eq_getElem?_getD]
  rw [hlen] at h6
  have hq : q ≤ ((s.zs.set i (cutL (s.zs.getD i []) p)).getD j []).length := by omega
  have hback := move_back hi hj hp h4 hq
  have hlz : (moveZ s.zs i p j q e.card).length = s.zs.length := by unfold moveZ; simp
  have hgj : (moveZ s.zs i p j q e.card).getD j [] = insL ((s.zs.set i (cutL (s.zs.getD i []) p)).getD j []) q e.card := by
    unfold moveZ
    exact set_get (by simpa using hj)
  have hgi : i ≠ j → (moveZ s.zs i p j q e.card).getD i [] = cutL (s.zs.getD i []) p := fun hne => by
    unfold moveZ
    rw [List.getD_eq_getElem?_getD, List.getElem?_set_ne (fun h => hne h.symm), ← List.getD_eq_getElem?_getD]
    exact set_get hi
  obtain ⟨g1, g2⟩ := ins_get (c := e.card) hq
  rw [e1, e2, e3, e4]
  simp only [Int.toNat_natCast]
  refine ⟨?_, hback⟩
  unfold moveFitsB others zn
  rw [none_turned]
  have t1 : (turnedE e).fr = (j : Int) := e2
  have t2 : (turnedE e).to_ = (i : Int) := e1
  have t3 : (turnedE e).frAt = (q : Int) := e4
  have t4 : (turnedE e).toAt = (p : Int) := e3
  have t5 : (turnedE e).card = e.card := rfl
  rw [t1, t2, t3, t4, t5]
  simp only [Int.toNat_natCast, hlz]
  rw [e1] at h1
  rw [e2] at h2
  have hpl : (p : Int) ≤ (if (i : Int) = (j : Int) then (((moveZ s.zs i p j q e.card).getD i []).length : Int) - 1 else (((moveZ s.zs i p j q e.card).getD i []).length : Int)) := by
    by_cases eij : i = j
    · subst eij
      rw [if_pos rfl, hgj, g2, set_get hi, cut_len hp]
      omega
    · rw [if_neg (by omega), hgi eij, cut_len hp]
      omega
  have hql : numB (q : Int) ((moveZ s.zs i p j q e.card).getD j []).length = true := by
    rw [hgj, g2]
    unfold numB
    rw [Bool.and_eq_true]
    exact ⟨decide_eq_true (by omega), decide_eq_true (by omega)⟩
  rw [hgj] at hql
  simp only [h0, h1, h2, hgj, g1, Bool.true_and, decide_true, Bool.and_eq_true, decide_eq_true_eq]
  exact ⟨by simpa using h9, hql, by omega, hpl⟩
end DE
end Go.Proofs.YtjabjiahienohaaGreatDoor
/-
  There and back: all kinds.
-/
namespace Go.Proofs.YtjabjiahienohaaGreatDoor
open Go.RowKit

namespace DE
open Go.Proofs.YtjabjiahienohaaGreatDoor.ST
theorem crd_stat {n : Nat} {c : Crd} {f y : Int} (h : crdB n c = true) (hy : cGet c f = some y) : statB y = true := by
  unfold crdB crd0B at h
  simp only [Bool.and_eq_true] at h
  obtain ⟨⟨⟨⟨⟨h1, h2⟩, h3⟩, h4⟩, h5⟩, h6⟩ := h
  unfold cGet at hy
  by_cases e1 : f = 1
  · rw [if_pos e1] at hy; cases hy; exact h2
  · rw [if_neg e1] at hy
    by_cases e2 : f = 2
    · rw [if_pos e2] at hy; cases hy; exact h3
    · rw [if_neg e2] at hy
      by_cases e3 : f = 3
      · rw [if_pos e3] at hy; cases hy; exact h4
      · rw [if_neg e3] at hy
        by_cases e4 : f = 4
        · rw [if_pos e4] at hy; cases hy; exact h5
        · rw [if_neg e4] at hy; cases hy
theorem ply_stat {c : Ply} {f y : Int} (h : plyB c = true) (hy : pGet c f = some y) : statB y = true := by
  unfold plyB at h
  simp only [Bool.and_eq_true] at h
  unfold pGet at hy
  by_cases e1 : f = 5
  · rw [if_pos e1] at hy; cases hy; exact h.1
  · rw [if_neg e1] at hy
    by_cases e2 : f = 6
    · rw [if_pos e2] at hy; cases hy; exact h.2
    · rw [if_neg e2] at hy; cases hy
theorem card_leads {s : Stt} {e : Ev} (h : ff s = none) (hf : cardFitsB s e = true) : cardFitsB { s with cs := s.cs.set e.card.toNat (cSet (s.cs.getD e.card.toNat dc) e.field e.now) } (turnedE e) = true ∧ (s.cs.set e.card.toNat (cSet (s.cs.getD e.card.toNat dc) e.field e.now)).set e.card.toNat (cSet ((s.cs.set e.card.toNat (cSet (s.cs.getD e.card.toNat dc) e.field e.now)).getD e.card.toNat dc) e.field e.was) = s.cs := by
  obtain ⟨h1, y, hy⟩ := card_at hf
  obtain ⟨i, e1, hi⟩ := num_nat h1
  obtain ⟨b1, b2⟩ := card_back (x := e.now) hy
  unfold cardFitsB at hf
  rw [hy, Bool.and_eq_true] at hf
  have h2 := hf.2
  simp only [statFitsB, Bool.and_eq_true, decide_eq_true_eq] at h2
  have hst : statB e.was = true := by
    rw [← h2.1.1]
    rw [e1, Int.toNat_natCast] at hy
    exact crd_stat (crd_get h i hi) hy
  have hit : e.card.toNat < s.cs.length := by rw [e1, Int.toNat_natCast]; exact hi
  refine ⟨?_, ?_⟩
  · unfold cardFitsB
    have t1 : (turnedE e).card = e.card := rfl
    have t2 : (turnedE e).field = e.field := rfl
    rw [t1, t2]
    simp only [List.length_set]
    rw [h1, set_get hit, b2]
    simp only [statFitsB, none_turned, Bool.true_and, Bool.and_eq_true, decide_eq_true_eq]
    exact ⟨⟨rfl, hst⟩, h2.2⟩
  · rw [set_get hit, List.set_set, ← h2.1.1, b1]
    exact set_self hit
theorem player_leads {s : Stt} {e : Ev} (h : ff s = none) (hf : playerFitsB s e = true) : playerFitsB { s with ps := s.ps.set e.player.toNat (pSet (s.ps.getD e.player.toNat dp) e.field e.now) } (turnedE e) = true ∧ (s.ps.set e.player.toNat (pSet (s.ps.getD e.player.toNat dp) e.field e.now)).set e.player.toNat (pSet ((s.ps.set e.player.toNat (pSet (s.ps.getD e.player.toNat dp) e.field e.now)).getD e.player.toNat dp) e.field e.was) = s.ps := by
  obtain ⟨h1, y, hy⟩ := player_at hf
  obtain ⟨i, e1, hi⟩ := num_nat h1
  obtain ⟨b1, b2⟩ := player_back (x := e.now) hy
  unfold playerFitsB at hf
  rw [hy, Bool.and_eq_true] at hf
  have h2 := hf.2
  simp only [statFitsB, Bool.and_eq_true, decide_eq_true_eq] at h2
  have hst : statB e.was = true := by
    rw [← h2.1.1]
    rw [e1, Int.toNat_natCast] at hy
    exact ply_stat (ply_get h i hi) hy
  have hit : e.player.toNat < s.ps.length := by rw [e1, Int.toNat_natCast]; exact hi
  refine ⟨?_, ?_⟩
  · unfold playerFitsB
    have t1 : (turnedE e).player = e.player := rfl
    have t2 : (turnedE e).field = e.field := rfl
    rw [t1, t2]
    simp only [List.length_set]
    rw [h1, set_get hit, b2]
    simp only [statFitsB, none_turned, Bool.true_and, Bool.and_eq_true, decide_eq_true_eq]
    exact ⟨⟨rfl, hst⟩, h2.2⟩
  · rw [set_get hit, List.set_set, ← h2.1.1, b1]
    exact set_self hit
end DE
end Go.Proofs.YtjabjiahienohaaGreatDoor
