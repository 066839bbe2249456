
/-
  Two stacks and what is held: one invariant for every call.
-/
import Derived.Test.YtgonflnmkfgfhaaSyb
import Derived.Test.YtgonflnmkfgfhaaApN
namespace Go.Proofs.Ytgonflnmkfgfhaa
open Go.RowKit

namespace DS
open IN
/- a stack that is nil, or a pair -/
def ps : Option G → Value
  | none => .pointer none
  | some g => .pointer (some ⟨g.sb, 0, none⟩)
def pr : Option G → Value
  | none => .pointer none
  | some g => .pointer (some ⟨g.rb, 0, none⟩)
/- blocks of other types than lists of lists stand -/
def Kp (w w' : World) : Prop := w.heap.size ≤ w'.heap.size ∧ ∀ (b : Nat) (cur : Array Value) (t : TypeId), w.heap[b]? = some (.cells cur t (0, 0)) → t ≠ 37 → t ≠ 30 → w'.heap[b]? = some (.cells cur t (0, 0))
theorem Kp.row {w w' : World} {b n : Nat} {u : Value} {ys : List Value} (k : Kp w w') (h : w.ownsRow b 3 1 u n ys) : w'.ownsRow b 3 1 u n ys := by
  refine ⟨h.1, ?_⟩
  rcases h.2 with h0 | ⟨g, cap, cur, e1, e2, e3, e4⟩
  · exact .inl h0
  · exact .inr ⟨g, cap, cur, e1, e2, k.2 _ _ _ e3 (by decide) (by decide), e4⟩
theorem Kp.g {w w' : World} {N : Nat} {g : G} (k : Kp w w') (h : GOk w N g) : GOk w' N g := by
  obtain ⟨⟨⟨k1, k2, k3⟩, k4, k5, k6, k7⟩, ka, kb, kl⟩ := h
  exact ⟨⟨⟨k.2 _ _ _ k1 (by decide) (by decide), k.row k2, k3⟩, k.2 _ _ _ k4 (by decide) (by decide), k.row k5, k.row k6, k7⟩, ka, Nat.le_trans kb k.1, kl⟩
theorem kp_two {w w' : World} {hb base m : Nat} {v x : Value} {xs : List Value} (hc : w.heap[hb]? = some (.cells #[x] 30 (0, 0))) (hrow : w.ownsRow base 37 1 v m xs) (t : LIS.Two hb v w w') : Kp w w' := by
  refine ⟨t.2.1, fun b cur ty h h1 h2 => ?_⟩
  rw [t.2.2 b (Array.getElem?_eq_some_iff.1 h).1 ?_ ?_]
  · exact h
  · intro e
    subst e
    rw [hc] at h
    simp only [Option.some.injEq, Obj.cells.injEq] at h
    exact h2 h.2.1.symm
  · intro e
    rcases hrow.2 with ⟨rfl, _⟩ | ⟨g', cap, cur', rfl, _, hh, _⟩
    · cases e
    · have e' : g' = b := by simpa [Value.ownBlock] using e
      subst e'
      rw [hh] at h
      simp only [Option.some.injEq, Obj.cells.injEq] at h
      exact h1 h.2.1.symm
theorem GOk.more {w : World} {N M : Nat} {g : G} (h : GOk w N g) (hM : N ≤ M) : GOk w M g := ⟨h.1, h.2.1, h.2.2.1, Nat.le_trans h.2.2.2 hM⟩
/- what is held -/
abbrev VL := AE.VL
def Held (W : World) (hb base N : Nat) (ha : Option Addr) (hcap : Nat) (L : VL) : Prop :=
  W.heap[hb]? = some (.cells #[.slice ha L.length hcap] 30 (0, 0)) ∧ W.ownsRow base 37 1 (.slice ha L.length hcap) L.length (L.map (·.1)) ∧ hb < base ∧ base ≤ W.heap.size ∧ (∀ p, p < L.length → AE.Part W (L.getD p AE.dv).1 (L.getD p AE.dv).2 p 0 ∧ (L.getD p AE.dv).2 ≤ N ∧ ∀ k, (L.getD p AE.dv).1.ownBlock = some k → base ≤ k) ∧ AE.Apart L
/- no list of a pair is one that is held -/
def Away (L : VL) (g : G) : Prop := ∀ p k, p < L.length → (L.getD p AE.dv).1.ownBlock = some k → g.v.ownBlock ≠ some k ∧ g.vd.ownBlock ≠ some k ∧ g.vu.ownBlock ≠ some k
def Fin (W : World) (N : Nat) (L : VL) (o : Option G) : Prop := ∀ g, o = some g → GOk W N g ∧ Away L g
def Bes (o o' : Option G) : Prop := ∀ g f, o = some g → o' = some f → Beside g f
theorem Held.lt {W : World} {hb base N hcap : Nat} {ha : Option Addr} {L : VL} (h : Held W hb base N ha hcap L) {p k : Nat} (hp : p < L.length) (e : (L.getD p AE.dv).1.ownBlock = some k) : k < W.heap.size := by
  rcases (h.2.2.2.2.1 p hp).1.block with ⟨e0, -⟩ | ⟨g, e0, hg⟩
  · rw [e0] at e; cases e
  · rw [e0] at e
    have e' : g = k := by simpa [Value.ownBlock] using e
    omega
/- a call at a pair leaves what is held -/
theorem held_chg {w w' : World} {hb base N M hcap : Nat} {ha : Option Addr} {L : VL} {g : G} (h : Held w hb base N ha hcap L) (hg : GOk w M g) (hw : Away L g) (c : Chg g.sb g.rb g.v w w') : Held w' hb base N ha hcap L := by
  obtain ⟨h1, h2, h3, h4, h5, h6⟩ := h
  have no : ∀ (b : Nat) (cur : Array Value), w.heap[b]? = some (.cells cur 37 (0, 0)) → w'.heap[b]? = some (.cells cur 37 (0, 0)) := fun b cur hx => by
    refine chg_obj hg c hx (by decide) (fun e => ?_) (fun e => ?_)
    · subst e
      have := hg.1.1.1
      rw [LIS.Hd, hx] at this
      cases this
    · subst e
      have := hg.1.2.1
      rw [hx] at this
      cases this
  refine ⟨?_, ?_, h3, Nat.le_trans h4 c.2.1, fun p hp => ⟨?_, (h5 p hp).2⟩, h6⟩
  · refine chg_obj hg c h1 (by decide) (fun e => ?_) (fun e => ?_)
    · subst e
      have := hg.1.1.1
      rw [LIS.Hd, h1] at this
      simp at this
    · subst e
      have := hg.1.2.1
      rw [h1] at this
      simp at this
  · refine ⟨h2.1, ?_⟩
    rcases h2.2 with h0 | ⟨g', cap, cur, e1, e2, e3, e4⟩
    · exact .inl h0
    · exact .inr ⟨g', cap, cur, e1, e2, no _ _ e3, e4⟩
  · exact (h5 p hp).1.keep fun k cs e hk => chg_int hg c hk (fun e2 => (hw p k hp e).1 e2)
theorem away_later {w : World} {hb base N hcap : Nat} {ha : Option Addr} {L : VL} {g g' : G} (h : Held w hb base N ha hcap L) (hw : Away L g) (l : Later w g g') : Away L g' := fun p k hp e => by
  have hk := h.lt hp e
  obtain ⟨a1, a2, a3⟩ := hw p k hp e
  have key : ∀ u u' : Value, New w u u' → u.ownBlock ≠ some k → u'.ownBlock ≠ some k := fun u u' n hu e2 => by
    rcases n with n | n
    · exact hu (by rw [← n]; exact e2)
    · have := n k e2
      omega
  exact ⟨key _ _ l.2.1 a1, key _ _ l.2.2.1 a2, key _ _ l.2.2.2 a3⟩
theorem held_up {w w' : World} {hb base N hcap : Nat} {ha : Option Addr} {L : VL} (h : Held w hb base N ha hcap L) (u : Up w w') : Held w' hb base N ha hcap L := by
  obtain ⟨h1, h2, h3, h4, h5, h6⟩ := h
  exact ⟨u.heap h1, row_up h2 u, h3, Nat.le_trans h4 u.size, fun p hp => ⟨(h5 p hp).1.keep fun k cs _ hk => u.heap hk, (h5 p hp).2⟩, h6⟩
theorem Held.more {W : World} {hb base N M hcap : Nat} {ha : Option Addr} {L : VL} (h : Held W hb base N ha hcap L) (hM : N ≤ M) : Held W hb base M ha hcap L :=
  ⟨h.1, h.2.1, h.2.2.1, h.2.2.2.1, fun p hp => ⟨(h.2.2.2.2.1 p hp).1, Nat.le_trans (h.2.2.2.2.1 p hp).2.1 hM, (h.2.2.2.2.1 p hp).2.2⟩, h.2.2.2.2.2⟩
theorem gok_up {w w' : World} {N : Nat} {g : G} (h : GOk w N g) (u : Up w w') : GOk w' N g := ⟨⟨h.1.1.up u, h.1.2.up u⟩, h.2.1, Nat.le_trans h.2.2.1 u.size, h.2.2.2⟩
theorem getD_app (L : VL) (x : Value × Nat) (p : Nat) : (L ++ [x]).getD p AE.dv = if p < L.length then L.getD p AE.dv else if p = L.length then x else AE.dv := by
  by_cases h : p < L.length
  · rw [if_pos h, List.getD_eq_getElem?_getD, List.getElem?_append_left h, ← List.getD_eq_getElem?_getD]
  · rw [if_neg h, List.getD_eq_getElem?_getD, List.getElem?_append_right (by omega)]
    by_cases h2 : p = L.length
    · subst h2; simp
    · rw [if_neg h2, List.getElem?_eq_none (by simp; omega)]
      rfl
/- one more is held: nothing, or a new list that fills its block -/
theorem held_add {w w' : World} {hb base N hcap hcap' n : Nat} {ha ha' : Option Addr} {L : VL} {x : Value} (h : Held w hb base N ha hcap L) (k : Kp w w') (hx : (x = .slice none 0 0 ∧ n = 0) ∨ ∃ g cs, w.heap.size ≤ g ∧ x = .slice (some ⟨g, 0, none⟩) n n ∧ AE.Blk w' g cs ∧ cs.length = n) (hn : n ≤ N)
    (h1 : w'.heap[hb]? = some (.cells #[.slice ha' (L.length + 1) hcap'] 30 (0, 0))) (h2 : w'.ownsRow base 37 1 (.slice ha' (L.length + 1) hcap') (L.length + 1) (L.map (·.1) ++ [x])) : Held w' hb base N ha' hcap' (L ++ [(x, n)]) := by
  have hlen : (L ++ [(x, n)]).length = L.length + 1 := by simp
  refine ⟨by rw [hlen]; exact h1, ?_, h.2.2.1, Nat.le_trans h.2.2.2.1 k.1, fun p hp => ?_, fun p q b hp hq hne e1 e2 => ?_⟩
  · rw [hlen, List.map_append]; exact h2
  · rw [getD_app]
    by_cases hpl : p < L.length
    · rw [if_pos hpl]
      exact ⟨(h.2.2.2.2.1 p hpl).1.keep fun b cs _ hk => k.2 _ _ _ hk (by decide) (by decide), (h.2.2.2.2.1 p hpl).2⟩
    · rw [if_neg hpl, if_pos (by omega)]
      refine ⟨?_, hn, fun k e => ?_⟩
      rotate_left
      · rcases hx with ⟨hx, -⟩ | ⟨g, cs, hg, e0, -⟩
        · rw [hx] at e; cases e
        · rw [e0] at e
          have e' : g = k := by simpa [Value.ownBlock] using e
          have := h.2.2.2.1
          omega
      rcases hx with hx | ⟨g, cs, _, e, hb, hl⟩
      · exact .inl hx
      · exact .inr ⟨g, cs, e, hb, hl, fun q hq => absurd hq (Nat.not_lt_zero q)⟩
  · rw [getD_app] at e1 e2
    have newB : x.ownBlock = some b → w.heap.size ≤ b := fun e => by
      rcases hx with ⟨hx, -⟩ | ⟨g, cs, hg, e0, -⟩
      · rw [hx] at e; cases e
      · rw [e0] at e
        have e' : g = b := by simpa [Value.ownBlock] using e
        omega
    by_cases hpl : p < L.length
    · rw [if_pos hpl] at e1
      have := h.lt hpl e1
      by_cases hql : q < L.length
      · rw [if_pos hql] at e2
        exact h.2.2.2.2.2 p q b hpl hql hne e1 e2
      · rw [if_neg hql, if_pos (by omega)] at e2
        have := newB e2
        omega
    · rw [if_neg hpl, if_pos (by omega)] at e1
      have := newB e1
      by_cases hql : q < L.length
      · rw [if_pos hql] at e2
        have := h.lt hql e2
        omega
      · omega
theorem away_add {w : World} {N n : Nat} {L : VL} {x : Value} {g : G} (hw : Away L g) (hg : GOk w N g) (hx : ∀ k, x.ownBlock = some k → w.heap.size ≤ k) : Away (L ++ [(x, n)]) g := fun p k hp e => by
  rw [getD_app] at e
  by_cases hpl : p < L.length
  · rw [if_pos hpl] at e
    exact hw p k hpl e
  · have hp : p = L.length := by simp at hp; omega
    rw [if_neg hpl, if_pos hp] at e
    have h1 := hx k e
    obtain ⟨f1, f2, f3⟩ := hg.lt
    exact ⟨fun e2 => by have := f1 k e2; omega, fun e2 => by have := f2 k e2; omega, fun e2 => by have := f3 k e2; omega⟩
/- apart of the first k that are held -/
theorem apart_end {W : World} {base N hcap m k : Nat} {ha : Option Addr} {L : VL} (hrow : W.ownsRow base 37 1 (.slice ha m hcap) m (L.map (·.1))) (hm : m = L.length) (hp : ∀ p, p < L.length → AE.Part W (L.getD p AE.dv).1 (L.getD p AE.dv).2 p 0 ∧ (L.getD p AE.dv).2 ≤ N) (hd : AE.Apart L) (hk : k ≤ L.length) (hk1 : k ≤ 100) (hN : N ≤ 50000) :
    Calls Try.prog 9 #[.slice ha k hcap] W fun e w' => e = .returned (.bool true) ∧ AE.Exc (AE.Own (L.take k)) W w' := by
  subst hm
  by_cases h0 : k = 0
  · subst h0
    refine (AE.apart_nil ha hcap W).mono ?_
    rintro e w' ⟨rfl, rfl⟩
    exact ⟨rfl, AE.Exc.refl _ _⟩
  · have hl : (L.take k).length = k := by rw [List.length_take]; omega
    have hg : ∀ p, p < k → (L.take k).getD p AE.dv = L.getD p AE.dv := fun p hp => by
      rw [List.getD_eq_getElem?_getD, List.getElem?_take_of_lt hp, ← List.getD_eq_getElem?_getD]
    rcases hrow.2 with ⟨-, e0⟩ | ⟨g, cap, cur, e1, e2, e3, e4, e5, e6, e7⟩
    · omega
    · simp only [Value.slice.injEq] at e1
      obtain ⟨rfl, -, rfl⟩ := e1
      have := AE.apart_ g hcap (L.take k) W ⟨cur, e3, fun i hi => ?_⟩ (by rw [hl]; exact hk1) (fun p hp' => ?_) (fun p q b h1 h2 h3 h4 h5 => ?_) (fun p hp' => ?_)
      · rw [hl] at this
        exact this
      · rw [hl] at hi
        rw [hg i hi]
        have e8 : (L.map (·.1))[i]? = some (L.getD i AE.dv).1 := by
          rw [List.getElem?_map, List.getD_eq_getElem?_getD, List.getElem?_eq_getElem (by omega)]
          rfl
        rw [← e7, List.getElem?_take_of_lt (by omega)] at e8
        simpa using e8
      · rw [hl] at hp'
        rw [hg p hp', if_neg (Nat.not_lt_zero p)]
        exact (hp p (by omega)).1
      · rw [hl] at h1 h2
        rw [hg p h1] at h4
        rw [hg q h2] at h5
        exact hd p q b (by omega) (by omega) h3 h4 h5
      · rw [hl] at hp'
        rw [hg p hp']
        have := (hp p (by omega)).2
        omega
theorem own_take {L : VL} {k b : Nat} (h : AE.Own (L.take k) b) : ∃ p, p < L.length ∧ (L.getD p AE.dv).1.ownBlock = some b := by
  obtain ⟨p, hp, e⟩ := h
  rw [List.length_take] at hp
  refine ⟨p, by omega, ?_⟩
  rw [List.getD_eq_getElem?_getD, List.getElem?_take_of_lt (by omega), ← List.getD_eq_getElem?_getD] at e
  exact e
theorem part_blk {W : World} {L : VL} (hp : ∀ p, p < L.length → AE.Part W (L.getD p AE.dv).1 (L.getD p AE.dv).2 p 0) {p b : Nat} (h : p < L.length) (e : (L.getD p AE.dv).1.ownBlock = some b) : ∃ cs, AE.Blk W b cs := by
  rcases hp p h with ⟨e0, -⟩ | ⟨g, cs, e0, hb, -⟩
  · rw [e0] at e; cases e
  · rw [e0] at e
    have e' : g = b := by simpa [Value.ownBlock] using e
    subst e'
    exact ⟨cs, hb⟩
theorem exc_obj {W w' : World} {L : VL} {k b : Nat} {cur : Array Value} {t : TypeId} (hp : ∀ p, p < L.length → AE.Part W (L.getD p AE.dv).1 (L.getD p AE.dv).2 p 0) (x : AE.Exc (AE.Own (L.take k)) W w') (h : W.heap[b]? = some (.cells cur t (0, 0))) (ht : t ≠ 3) : w'.heap[b]? = some (.cells cur t (0, 0)) := by
  rw [x.2.2 b (Array.getElem?_eq_some_iff.1 h).1 (fun o => ?_)]
  · exact h
  · obtain ⟨p, h1, h2⟩ := own_take o
    obtain ⟨cs, h3⟩ := part_blk hp h1 h2
    rw [AE.Blk, h] at h3
    simp only [Option.some.injEq, Obj.cells.injEq] at h3
    exact ht h3.2.1
theorem exc_row {W w' : World} {L : VL} {k b n : Nat} {u : Value} {ys : List Value} (x : AE.Exc (AE.Own (L.take k)) W w') (h : W.ownsRow b 3 1 u n ys) (hu : ∀ p q, p < L.length → (L.getD p AE.dv).1.ownBlock = some q → u.ownBlock ≠ some q) : w'.ownsRow b 3 1 u n ys := by
  refine ⟨h.1, ?_⟩
  rcases h.2 with h0 | ⟨g, cap, cur, e1, e2, e3, e4⟩
  · exact .inl h0
  · refine .inr ⟨g, cap, cur, e1, e2, ?_, e4⟩
    rw [x.2.2 g (Array.getElem?_eq_some_iff.1 e3).1 (fun o => ?_)]
    · exact e3
    · obtain ⟨p, h1, h2⟩ := own_take o
      exact hu p g h1 h2 (by rw [e1]; simp [Value.ownBlock])
theorem exc_g {W w' : World} {N k : Nat} {L : VL} {g : G} (hp : ∀ p, p < L.length → AE.Part W (L.getD p AE.dv).1 (L.getD p AE.dv).2 p 0) (x : AE.Exc (AE.Own (L.take k)) W w') (h : GOk W N g) (a : Away L g) : GOk w' N g := by
  obtain ⟨⟨⟨k1, k2, k3⟩, k4, k5, k6, k7⟩, ka, kb, kl⟩ := h
  exact ⟨⟨⟨exc_obj hp x k1 (by decide), exc_row x k2 (fun p q h1 h2 => (a p q h1 h2).1), k3⟩, exc_obj hp x k4 (by decide), exc_row x k5 (fun p q h1 h2 => (a p q h1 h2).2.1), exc_row x k6 (fun p q h1 h2 => (a p q h1 h2).2.2), k7⟩, ka, Nat.le_trans kb x.2.1, kl⟩
theorem exc_below {W w' : World} {L : VL} {k B : Nat} (x : AE.Exc (AE.Own (L.take k)) W w') (h : ∀ p q, p < L.length → (L.getD p AE.dv).1.ownBlock = some q → B ≤ q) (hB : B ≤ W.heap.size) : Below B W w' :=
  ⟨x.1.1, x.1.2.1, x.1.2.2, x.2.1, fun b hb => x.2.2 b (by omega) (fun o => by
    obtain ⟨p, h1, h2⟩ := own_take o
    have := h p b h1 h2
    omega)⟩
end DS
end Go.Proofs.Ytgonflnmkfgfhaa
