
/-
  A bag of lists of int8 alone, whenever they were made.
-/
import Derived.Test.YtifabdnjdadkbaaDoorBsm
import Derived.Test.YtifabdnjdadkbaaDoorBkh8
import Derived.Test.YtifabdnjdadkbaaDoorBw
namespace Go.Proofs.YtifabdnjdadkbaaDoor.BG
open Go.RowKit
def nls : Nat → Value := fun _ => .slice none 0 0
/- lists that lie at or above lo, each in a block of its own, beside the bag -/
structure SB (W : World) (lo gb B : Nat) (v : Value) (L : VL) : Prop where
  blk : W.heap[gb]? = some (.cells (bagA (upd nls 5 v)) tBag (0, 0))
  lt : lo ≤ gb ∧ gb < B ∧ B ≤ W.heap.size
  row : W.ownsRow B 51 1 v L.length (L.map (·.1))
  len : L.length ≤ 400
  each : ∀ p, p < L.length → ∃ (g n : Nat) (cs : List Value), L.getD p dv = (.slice (some ⟨g, 0, none⟩) n n, n) ∧ lo ≤ g ∧ n ≤ 100 ∧ cs.length = n ∧ W.heap[g]? = some (.cells cs.toArray 52 (0, 0))
  apart : Apart L
theorem SB.blks {W : World} {lo gb B : Nat} {v : Value} {L : VL} (h : SB W lo gb B v L) {g : Nat} (hg : Blks L g) : lo ≤ g ∧ g < W.heap.size ∧ ∃ cs : List Value, W.heap[g]? = some (.cells cs.toArray 52 (0, 0)) := by
  obtain ⟨p, hp, hg⟩ := hg
  obtain ⟨g', n, cs, e, h1, h2, h3, h4⟩ := h.each p hp
  rw [e] at hg
  have e9 : g' = g := by simpa [Value.ownBlock] using hg
  subst e9
  exact ⟨h1, (Array.getElem?_eq_some_iff.1 h4).1, cs, h4⟩
theorem SB.up {W W' : World} {lo gb B : Nat} {v : Value} {L : VL} (h : SB W lo gb B v L) (u : Up W W') : SB W' lo gb B v L :=
  ⟨u.heap h.blk, ⟨h.lt.1, h.lt.2.1, Nat.le_trans h.lt.2.2 u.size⟩, row_up h.row u, h.len, fun p hp => by
    obtain ⟨g, n, cs, h1, h2, h3, h4, h5⟩ := h.each p hp
    exact ⟨g, n, cs, h1, h2, h3, h4, u.heap h5⟩, h.apart⟩
theorem upd_nls : upd nls 5 (.slice none 0 0) = nls := by
  funext i
  by_cases h : i = 5 <;> simp [upd, nls, h]
theorem sb_start (w : World) : SB (w.alloc (.cells (bagA nls) tBag)) w.heap.size w.heap.size (w.heap.size + 1) (.slice none 0 0) [] :=
  ⟨by rw [upd_nls]; exact heap_alloc_new w _, ⟨Nat.le_refl _, Nat.lt_succ_self _, by simp⟩, World.ownsRow_nil _ _ _ _, Nat.zero_le _, fun p hp => absurd hp (Nat.not_lt_zero _), fun p q g hp => absurd hp (Nat.not_lt_zero _)⟩
/- what else stands there stays -/
def Kp (lo : Nat) (W W' : World) : Prop := Below lo W W' ∧ ∀ (g : Nat) (c : Array Value) (t : TypeId) (fr : Nat × Nat), W.heap[g]? = some (.cells c t fr) → t ≠ tBag → t ≠ 51 → W'.heap[g]? = some (.cells c t fr)
theorem Kp.refl (lo : Nat) (W : World) : Kp lo W W := ⟨Below.refl _ _, fun _ _ _ _ h _ _ => h⟩
theorem Kp.trans {lo : Nat} {A B C : World} (h : Kp lo A B) (k : Kp lo B C) : Kp lo A C := ⟨h.1.trans k.1, fun g c t fr h1 h2 h3 => k.2 g c t fr (h.2 g c t fr h1 h2 h3) h2 h3⟩
theorem Kp.up {lo : Nat} {A B : World} (h : Up A B) (hl : lo ≤ A.heap.size) : Kp lo A B := ⟨Below.mono h hl, fun _ _ _ _ h1 _ _ => h.heap h1⟩
def SbP (lo gb B : Nat) (L : VL) (x : Value × Nat) (W : World) (e : Ending) (W' : World) : Prop := e = .returned (.tuple #[]) ∧ ∃ v' L', SB W' lo gb B v' L' ∧ (L' = L ∨ L' = L ++ [x]) ∧ Kp lo W W'
theorem upd_upd {A : Type} (f : Nat → A) (k : Nat) (u v : A) : upd (upd f k u) k v = upd f k v := by
  funext i
  by_cases h : i = k <;> simp [upd, h]
theorem sb_add (lo gb B : Nat) (v : Value) (L : VL) (g n : Nat) (cs : List Value) (W : World) (h : SB W lo gb B v L) (hg : W.heap[g]? = some (.cells cs.toArray 52 (0, 0))) (hn : n ≤ 100) (hc : cs.length = n) (hlo : lo ≤ g) (hnew : ¬ Blks L g) :
    Calls Tryd.prog 8 #[.pointer (some ⟨gb, 0, none⟩), .slice (some ⟨g, 0, none⟩) n n] W (SbP lo gb B L (.slice (some ⟨g, 0, none⟩) n n, n) W) := by
  have hr : W.ownsRow B 51 1 (upd nls 5 v 5) L.length (L.map (·.1)) := by rw [upd_self]; exact h.row
  refine (addSmalls0 gb B (upd nls 5 v) L (some ⟨g, 0, none⟩) n n W h.blk hr h.lt.2.1 h.lt.2.2 h.len).mono ?_
  rintro e W' ⟨rfl, v', L', h1, h2, h3, h4, h5⟩
  rw [upd_self] at h4 h5
  rw [upd_upd] at h1
  have keep : ∀ (q : Nat) (c : Array Value) (t : TypeId) (fr : Nat × Nat), W.heap[q]? = some (.cells c t fr) → t ≠ tBag → t ≠ 51 → W'.heap[q]? = some (.cells c t fr) := fun q c t fr hq h6 h7 => by
    rw [h4.2.2 q (Array.getElem?_eq_some_iff.1 hq).1 ?_ ?_]
    · exact hq
    · rintro rfl
      rw [h.blk] at hq
      simp only [Option.some.injEq, Obj.cells.injEq] at hq
      exact h6 hq.2.1.symm
    · intro e9
      obtain ⟨cur, h8⟩ := own_ty h.row e9
      rw [h8] at hq
      simp only [Option.some.injEq, Obj.cells.injEq] at hq
      exact h7 hq.2.1.symm
  have each0 : ∀ p, p < L.length → ∃ (g n : Nat) (cs : List Value), L.getD p dv = (.slice (some ⟨g, 0, none⟩) n n, n) ∧ lo ≤ g ∧ n ≤ 100 ∧ cs.length = n ∧ W'.heap[g]? = some (.cells cs.toArray 52 (0, 0)) := fun p hp => by
    obtain ⟨g, n, cs, k1, k2, k3, k4, k5⟩ := h.each p hp
    exact ⟨g, n, cs, k1, k2, k3, k4, keep _ _ _ _ k5 (by decide) (by decide)⟩
  have hkp : Kp lo W W' := by
    refine ⟨⟨h4.1.1, h4.1.2.1, h4.1.2.2, h4.2.1, fun q hq => h4.2.2 q (by have := h.lt; omega) (by have := h.lt; omega) ?_⟩, keep⟩
    intro e9
    have := row_ge h.row e9
    have := h.lt
    omega
  refine ⟨rfl, v', L', ⟨h1, ⟨h.lt.1, h.lt.2.1, Nat.le_trans h.lt.2.2 h4.2.1⟩, h2, ?_, ?_, ?_⟩, h3.imp id (·.1), hkp⟩
  · rcases h3 with rfl | ⟨rfl, h6⟩
    · exact h.len
    · simp; omega
  · rcases h3 with rfl | ⟨rfl, h6⟩
    · exact each0
    · intro p hp
      rw [getD_one]
      by_cases e9 : p = L.length
      · rw [if_pos e9]
        exact ⟨g, n, cs, rfl, hlo, hn, hc, keep _ _ _ _ hg (by decide) (by decide)⟩
      · rw [if_neg e9]
        exact each0 p (by simp at hp; omega)
  · rcases h3 with rfl | ⟨rfl, h6⟩
    · exact h.apart
    · intro p q b hp hq hpq hb hb2
      rw [getD_one] at hb hb2
      simp only [List.length_append, List.length_singleton] at hp hq
      by_cases e1 : p = L.length
      · rw [if_pos e1] at hb
        have e9 : g = b := by simpa [Value.ownBlock] using hb
        subst e9
        rw [if_neg (by omega)] at hb2
        exact hnew ⟨q, by omega, hb2⟩
      · rw [if_neg e1] at hb
        by_cases e2 : q = L.length
        · rw [if_pos e2] at hb2
          have e9 : g = b := by simpa [Value.ownBlock] using hb2
          subst e9
          exact hnew ⟨p, by omega, hb⟩
        · rw [if_neg e2] at hb2
          exact h.apart p q b (by omega) (by omega) hpq hb hb2
theorem own_of {W : World} {lo g n : Nat} {cs : List Value} (h : W.heap[g]? = some (.cells cs.toArray 52 (0, 0))) (hlo : lo ≤ g) (hn : n ≤ 100) (hc : cs.length = n) : W.ownsRow lo 52 1 (.slice (some ⟨g, 0, none⟩) n n) n cs :=
  ⟨by omega, .inr ⟨g, n, cs.toArray, rfl, hlo, h, Nat.le_refl _, by unfold maxLen; omega, by subst hc; simp, by subst hc; simp⟩⟩
theorem SB.bag1 {W : World} {lo gb B : Nat} {v : Value} {L : VL} (h : SB W lo gb B v L) : ∃ a cap, Bag1 5 tBag 51 W gb a L.length cap L ∧ (∀ mk, Rows1 mk lo 52 1 W L 0) := by
  obtain ⟨a, cap, hv⟩ := row_val h.row
  refine ⟨a, cap, ⟨⟨_, h.blk, ?_⟩, rfl, fun hn => ?_⟩, fun mk p hp => ?_⟩
  · have := bag_cell h.blk 5 (by decide)
    simp only [World.cell?, h.blk] at this
    rw [upd_self] at this
    rw [← hv]
    simpa using this
  · rcases h.row.2 with ⟨e, k⟩ | ⟨lb, cap', cur, e, -, hh, -, -, -, ht⟩
    · exact absurd k hn
    · rw [hv] at e
      cases e
      refine ⟨lb, cur, rfl, hh, fun p hp => ?_⟩
      have : (cur.toList.take (L.length * 1))[p]? = (L.map (·.1))[p]? := by rw [ht]
      rw [List.getElem?_take_of_lt (by omega)] at this
      rw [← Array.getElem?_toList, this]
      simp [List.getD, hp]
  · obtain ⟨g, n, cs, k1, k2, k3, k4, k5⟩ := h.each p hp
    rw [k1]
    exact ⟨cs, own_of k5 k2 k3 k4, fun h => absurd h (Nat.not_lt_zero _)⟩
/- the bag's own block, when the lists were written over -/
def SC (L : VL) (gb : Nat) (v : Value) (w W : World) : Prop := W.heap[gb]? = some (.cells (bagA (upd nls 5 v)) tBag (0, 0)) ∧ Exc (Blks L) w W
theorem sb_apartX (lo gb B : Nat) (v : Value) (L : VL) (w : World) (h : SB w lo gb B v L) :
    Calls Tryd.prog 10 #[.pointer (some ⟨gb, 0, none⟩)] w fun e w' => e = .returned (.bool true) ∧ Exc (Blks L) w w' := by
  have nn : ∀ k, k < 21 → k ≠ 5 → ∀ W, SC L gb v w W → W.cell? ⟨gb, k, none⟩ = some (.slice none 0 0) := fun k hk hk5 W hW => by
    have := bag_cell hW.1 k hk
    rw [upd_ne _ _ _ hk5] at this
    exact this
  have st : ∀ (k : Nat) (F : FuncId), k < 21 → k ≠ 5 → (∀ (b : Nat) (a : Option Addr) (m : Nat) (W : World), W.cell? ⟨b, k, none⟩ = some (.slice a 0 m) → Calls Tryd.prog F #[.pointer (some ⟨b, 0, none⟩)] W fun e w' => e = .returned (.bool true) ∧ w' = W) → ∀ W, SC L gb v w W → Calls Tryd.prog F #[.pointer (some ⟨gb, 0, none⟩)] W fun e w' => e = .returned (.bool true) ∧ SC L gb v w w' := fun k F hk hk5 hF W hW =>
    (hF gb none 0 W (nn k hk hk5 W hW)).mono fun e w' ⟨h1, h2⟩ => ⟨h1, by rw [h2]; exact hW⟩
  refine (apartAll gb (fun i W => if i ≤ 5 then W = w else SC L gb v w W) ?_ ?_ ?_ ?_ ?_ ?_ ?_ ?_ ?_ ?_ ?_ ?_ ?_ ?_ ?_ ?_ ?_ ?_ ?_ ?_ ?_ w rfl).mono fun e w' ⟨h1, h2⟩ => ⟨h1, h2.2⟩
  · exact fun W hW => (noneBytes gb none 0 W (by rw [show W = w from hW]; exact nn 0 (by decide) (by decide) w ⟨h.blk, Exc.refl _ _⟩)).mono fun e w' ⟨h1, h2⟩ => ⟨h1, by rw [h2]; exact hW⟩
  · exact fun W hW => (noneInts gb none 0 W (by rw [show W = w from hW]; exact nn 1 (by decide) (by decide) w ⟨h.blk, Exc.refl _ _⟩)).mono fun e w' ⟨h1, h2⟩ => ⟨h1, by rw [h2]; exact hW⟩
  · exact fun W hW => (noneLongs gb none 0 W (by rw [show W = w from hW]; exact nn 2 (by decide) (by decide) w ⟨h.blk, Exc.refl _ _⟩)).mono fun e w' ⟨h1, h2⟩ => ⟨h1, by rw [h2]; exact hW⟩
  · exact fun W hW => (noneWords gb none 0 W (by rw [show W = w from hW]; exact nn 3 (by decide) (by decide) w ⟨h.blk, Exc.refl _ _⟩)).mono fun e w' ⟨h1, h2⟩ => ⟨h1, by rw [h2]; exact hW⟩
  · exact fun W hW => (noneFloats gb none 0 W (by rw [show W = w from hW]; exact nn 4 (by decide) (by decide) w ⟨h.blk, Exc.refl _ _⟩)).mono fun e w' ⟨h1, h2⟩ => ⟨h1, by rw [h2]; exact hW⟩
  · intro W hW
    obtain rfl : W = w := hW
    obtain ⟨a, cap, b1, b2⟩ := h.bag1
    refine (apartSm_ gb a L.length cap lo L W b1 h.len (b2 mkSm) h.apart (fun p hp => ?_) (by have := h.lt; omega)).mono fun e w' ⟨h1, h2⟩ => ⟨h1, ?_⟩
    · obtain ⟨g, n, cs, k1, k2, k3, k4, k5⟩ := h.each p hp
      rw [k1]
      show n ≤ 4294967296
      omega
    · refine ⟨?_, h2⟩
      rw [h2.2.2 gb (by have := h.lt; omega) ?_]
      · exact h.blk
      · intro h9
        obtain ⟨_, _, cs, k5⟩ := h.blks h9
        rw [h.blk] at k5
        simp only [Option.some.injEq, Obj.cells.injEq] at k5
        exact absurd k5.2.1 (by decide)
  · exact st 6 _ (by decide) (by decide) noneTexts
  · exact st 7 _ (by decide) (by decide) nonePlayers
  · exact st 8 _ (by decide) (by decide) noneCards
  · exact st 9 _ (by decide) (by decide) noneTokens
  · exact st 10 _ (by decide) (by decide) noneNodes
  · exact st 11 _ (by decide) (by decide) noneInstrs
  · exact st 12 _ (by decide) (by decide) noneRows
  · exact st 13 _ (by decide) (by decide) noneShapes
  · exact st 14 _ (by decide) (by decide) noneEvents
  · exact st 15 _ (by decide) (by decide) noneValues
  · exact st 16 _ (by decide) (by decide) noneAbilities
  · exact st 17 _ (by decide) (by decide) noneDesigns
  · exact st 18 _ (by decide) (by decide) noneEffects
  · exact st 19 _ (by decide) (by decide) noneKinds
  · exact st 20 _ (by decide) (by decide) noneStates
theorem sb_apart (lo gb B : Nat) (v : Value) (L : VL) (w : World) (h : SB w lo gb B v L) :
    Calls Tryd.prog 10 #[.pointer (some ⟨gb, 0, none⟩)] w fun e w' => e = .returned (.bool true) ∧ Below lo w w' :=
  (sb_apartX lo gb B v L w h).mono fun e w' ⟨h1, h2⟩ => ⟨h1, h2.1.1, h2.1.2.1, h2.1.2.2, h2.2.1, fun g hg => h2.2.2 g (by have := h.lt; omega) (fun h9 => by have := (h.blks h9).1; omega)⟩
/- blocks of another type are written -/
theorem SB.same {W W' : World} {lo gb B : Nat} {v : Value} {L : VL} (h : SB W lo gb B v L) (hs : W.heap.size ≤ W'.heap.size) (k : ∀ (g : Nat) (c : Array Value) (t : TypeId) (fr : Nat × Nat), W.heap[g]? = some (.cells c t fr) → (t = tBag ∨ t = 51 ∨ t = 52) → W'.heap[g]? = some (.cells c t fr)) : SB W' lo gb B v L := by
  refine ⟨k _ _ _ _ h.blk (.inl rfl), ⟨h.lt.1, h.lt.2.1, Nat.le_trans h.lt.2.2 hs⟩, ?_, h.len, fun p hp => ?_, h.apart⟩
  · refine ⟨h.row.1, ?_⟩
    rcases h.row.2 with h9 | ⟨g, cap, cur, e1, e2, e3, e4⟩
    · exact .inl h9
    · exact .inr ⟨g, cap, cur, e1, e2, k _ _ _ _ e3 (.inr (.inl rfl)), e4⟩
  · obtain ⟨g, n, cs, h1, h2, h3, h4, h5⟩ := h.each p hp
    exact ⟨g, n, cs, h1, h2, h3, h4, k _ _ _ _ h5 (.inr (.inr rfl))⟩
end Go.Proofs.YtifabdnjdadkbaaDoor.BG
