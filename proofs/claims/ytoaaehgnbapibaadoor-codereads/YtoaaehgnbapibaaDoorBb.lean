
/-
  A bag of lists of every kind: what is gathered, and what is left alone.
-/
import Derived.Test.YtoaaehgnbapibaaDoorBki
namespace Go.Proofs.YtoaaehgnbapibaaDoor.BG
open Go.RowKit

def bagA (f : Nat → Value) : Array Value := #[f 0, f 1, f 2, f 3, f 4, f 5, f 6, f 7, f 8, f 9, f 10, f 11, f 12, f 13, f 14, f 15, f 16, f 17, f 18, f 19, f 20]
def upd {A : Type} (f : Nat → A) (k : Nat) (v : A) : Nat → A := fun i => if i = k then v else f i
theorem upd_self {A : Type} (f : Nat → A) (k : Nat) (v : A) : upd f k v k = v := by simp [upd]
theorem upd_ne {A : Type} (f : Nat → A) (k : Nat) (v : A) {j : Nat} (h : j ≠ k) : upd f k v j = f j := by simp [upd, h]
def eT (k : Nat) : Nat := [5, 3, 2, 115, 117, 119, 9, 123, 126, 129, 132, 28, 72, 118, 135, 138, 141, 144, 147, 150, 153].getD k 0
def rT (k : Nat) : Nat := [25, 72, 113, 114, 116, 118, 86, 121, 124, 127, 130, 32, 40, 44, 133, 136, 139, 142, 145, 148, 151].getD k 0
def sT (k : Nat) : Nat := [1, 1, 1, 1, 1, 1, 1, 3, 6, 4, 7, 5, 1, 1, 12, 3, 4, 6, 4, 6, 7].getD k 0
abbrev tBag : Nat := 61
theorem eT_inj : ∀ j, j < 21 → ∀ k, k < 21 → j ≠ k → eT j ≠ eT k := by decide
theorem rT_inj : ∀ j, j < 21 → ∀ k, k < 21 → j ≠ k → rT j ≠ rT k := by decide
theorem bagA_set (f : Nat → Value) (k : Nat) (hk : k < 21) (v : Value) : (bagA f).setIfInBounds k v = bagA (upd f k v) := by
  rcases (by omega : k = 0 ∨ k = 1 ∨ k = 2 ∨ k = 3 ∨ k = 4 ∨ k = 5 ∨ k = 6 ∨ k = 7 ∨ k = 8 ∨ k = 9 ∨ k = 10 ∨ k = 11 ∨ k = 12 ∨ k = 13 ∨ k = 14 ∨ k = 15 ∨ k = 16 ∨ k = 17 ∨ k = 18 ∨ k = 19 ∨ k = 20) with rfl | rfl | rfl | rfl | rfl | rfl | rfl | rfl | rfl | rfl | rfl | rfl | rfl | rfl | rfl | rfl | rfl | rfl | rfl | rfl | rfl <;> rfl
theorem bag_cell {W : World} {gb : Nat} {f : Nat → Value} (h : W.heap[gb]? = some (.cells (bagA f) tBag (0, 0))) (k : Nat) (hk : k < 21) : W.cell? ⟨gb, k, none⟩ = some (f k) := by
  rcases (by omega : k = 0 ∨ k = 1 ∨ k = 2 ∨ k = 3 ∨ k = 4 ∨ k = 5 ∨ k = 6 ∨ k = 7 ∨ k = 8 ∨ k = 9 ∨ k = 10 ∨ k = 11 ∨ k = 12 ∨ k = 13 ∨ k = 14 ∨ k = 15 ∨ k = 16 ∨ k = 17 ∨ k = 18 ∨ k = 19 ∨ k = 20) with rfl | rfl | rfl | rfl | rfl | rfl | rfl | rfl | rfl | rfl | rfl | rfl | rfl | rfl | rfl | rfl | rfl | rfl | rfl | rfl | rfl <;> simp [World.cell?, h, bagA]
/- what changes: the bag's block, the row of lists, new blocks -/
def Two (b : Nat) (v : Value) (w w' : World) : Prop := (w'.os = w.os ∧ w'.tape = w.tape ∧ w'.output = w.output) ∧ w.heap.size ≤ w'.heap.size ∧ ∀ g, g < w.heap.size → g ≠ b → v.ownBlock ≠ some g → w'.heap[g]? = w.heap[g]?
/- one kind: its row of lists lies at or above B, each list at or above lo and below gb -/
structure Kn (W : World) (lo gb B e t1 s : Nat) (v : Value) (L : VL) : Prop where
  row : W.ownsRow B t1 1 v L.length (L.map (·.1))
  len : L.length ≤ 400
  each : ∀ p, p < L.length → (∃ xs, W.ownsRow lo e s (L.getD p dv).1 (L.getD p dv).2 xs) ∧ (L.getD p dv).2 ≤ 4294967296
  below : ∀ g, Blks L g → g < gb
  apart : Apart L
theorem Kn.nil (W : World) (lo gb B e t1 s : Nat) : Kn W lo gb B e t1 s (.slice none 0 0) [] :=
  ⟨World.ownsRow_nil _ _ _ _, Nat.zero_le _, fun _ hp => absurd hp (Nat.not_lt_zero _), fun _ ⟨_, hp, _⟩ => absurd hp (Nat.not_lt_zero _), fun _ _ _ hp => absurd hp (Nat.not_lt_zero _)⟩
theorem Kn.keep {W W' : World} {lo gb B e t1 s : Nat} {v : Value} {L : VL} (h : Kn W lo gb B e t1 s v L) (k1 : ∀ g, v.ownBlock = some g → W'.heap[g]? = W.heap[g]?) (k2 : ∀ g, Blks L g → W'.heap[g]? = W.heap[g]?) : Kn W' lo gb B e t1 s v L :=
  ⟨own_block h.row k1, h.len, fun p hp => ⟨(h.each p hp).1.elim fun xs hx => ⟨xs, own_block hx fun g hg => k2 g ⟨p, hp, hg⟩⟩, (h.each p hp).2⟩, h.below, h.apart⟩
structure BagG (W : World) (lo gb B : Nat) (f : Nat → Value) (L : Nat → VL) : Prop where
  blk : W.heap[gb]? = some (.cells (bagA f) tBag (0, 0))
  lt : gb < B ∧ B ≤ W.heap.size
  kinds : ∀ k, k < 21 → Kn W lo gb B (eT k) (rT k) (sT k) (f k) (L k)
theorem bagG_start (W : World) (lo : Nat) : BagG (W.alloc (.cells (bagA fun _ => .slice none 0 0) tBag)) lo W.heap.size (W.heap.size + 1) (fun _ => .slice none 0 0) (fun _ => []) :=
  ⟨Array.getElem?_push_size, ⟨Nat.lt_succ_self _, by simp⟩, fun k _ => Kn.nil _ _ _ _ _ _ _⟩
theorem row_ge {W : World} {B e s n : Nat} {v : Value} {xs : List Value} (h : W.ownsRow B e s v n xs) {g : Nat} (hg : v.ownBlock = some g) : B ≤ g := by
  rcases h.2 with ⟨rfl, -⟩ | ⟨g', cap, cur, rfl, hb, _⟩
  · cases hg
  · have : g' = g := by simpa [Value.ownBlock] using hg
    omega
theorem row_lt {W : World} {B e s n : Nat} {v : Value} {xs : List Value} (h : W.ownsRow B e s v n xs) {g : Nat} (hg : v.ownBlock = some g) : g < W.heap.size := by
  obtain ⟨cur, hc⟩ := own_ty h hg
  exact (Array.getElem?_eq_some_iff.1 hc).1
theorem BagG.up {W W' : World} {lo gb B : Nat} {f : Nat → Value} {L : Nat → VL} (h : BagG W lo gb B f L) (u : Up W W') : BagG W' lo gb B f L :=
  ⟨u.heap h.blk, ⟨h.lt.1, Nat.le_trans h.lt.2 u.size⟩, fun k hk => (h.kinds k hk).keep (fun g hg => u.block g (row_lt (h.kinds k hk).row hg)) (fun g hg => u.block g (by have := (h.kinds k hk).below g hg; have := h.lt; omega))⟩
def APost (gb B k t1 : Nat) (f : Nat → Value) (L : VL) (x : Value × Nat) (w : World) (e : Ending) (w' : World) : Prop :=
  e = .returned (.tuple #[]) ∧ ∃ v' L', w'.heap[gb]? = some (.cells (bagA (upd f k v')) tBag (0, 0)) ∧ w'.ownsRow B t1 1 v' L'.length (L'.map (·.1)) ∧ (L' = L ∨ (L' = L ++ [x] ∧ L.length < 400)) ∧ Two gb (f k) w w' ∧ ∀ g, v'.ownBlock = some g → (f k).ownBlock = some g ∨ w.heap.size ≤ g
/- blocks that are no part of the bag -/
def Oth (gb : Nat) (f f' : Nat → Value) (W W' : World) : Prop := ∀ g, g < W.heap.size → g ≠ gb → (∀ k, k < 21 → (f k).ownBlock ≠ some g) → W'.heap[g]? = W.heap[g]? ∧ ∀ k, k < 21 → (f' k).ownBlock ≠ some g
theorem Oth.refl (gb : Nat) (f : Nat → Value) (W : World) : Oth gb f f W W := fun _ _ _ h => ⟨rfl, h⟩
theorem Oth.trans {gb : Nat} {f f' f2 : Nat → Value} {W W' W2 : World} (h : Oth gb f f' W W') (k : Oth gb f' f2 W' W2) (hs : W.heap.size ≤ W'.heap.size) : Oth gb f f2 W W2 := fun g h1 h2 h3 => by
  obtain ⟨a, b⟩ := h g h1 h2 h3
  obtain ⟨c, d⟩ := k g (by omega) h2 b
  exact ⟨c.trans a, d⟩
def GPost (gb lo B : Nat) (f : Nat → Value) (L : Nat → VL) (S : Nat → Nat → Prop) (ks : List Nat) (W : World) (e : Ending) (W' : World) : Prop :=
  e = .returned (.tuple #[]) ∧ ∃ f' L', BagG W' lo gb B f' L' ∧ Below gb W W' ∧ (∀ j g, Blks (L' j) g → Blks (L j) g ∨ S j g) ∧ Oth gb f f' W W' ∧ ∀ j, j ∉ ks → L' j = L j
/- a list whose block lies within lo and hi -/
def RowIn (W : World) (lo hi e s : Nat) (v : Value) (n : Nat) : Prop := (∃ xs, W.ownsRow lo e s v n xs) ∧ n ≤ 4294967296 ∧ ∀ g, v.ownBlock = some g → g < hi
theorem own_low {W : World} {b b' e s n : Nat} {v : Value} {xs : List Value} (h : W.ownsRow b e s v n xs) (hb : b' ≤ b) : W.ownsRow b' e s v n xs := by
  refine ⟨h.1, ?_⟩
  rcases h.2 with h | ⟨g, cap, cur, e1, e2, e3⟩
  · exact .inl h
  · exact .inr ⟨g, cap, cur, e1, Nat.le_trans hb e2, e3⟩
theorem RowIn.below {W W' : World} {lo hi e s gb : Nat} {v : Value} {n : Nat} (h : RowIn W lo hi e s v n) (b : Below gb W W') (hh : hi ≤ gb) : RowIn W' lo hi e s v n :=
  ⟨h.1.elim fun xs hx => ⟨xs, own_block hx fun g hg => b.block g (by have := h.2.2 g hg; omega)⟩, h.2⟩
theorem getD_one {L : VL} {x : Value × Nat} (p : Nat) : (L ++ [x]).getD p dv = if p = L.length then x else L.getD p dv := by
  by_cases h : p = L.length
  · subst h; simp [List.getD]
  · rw [if_neg h]
    by_cases h2 : p < L.length
    · simp [List.getD, List.getElem?_append_left h2]
    · simp [List.getD, List.getElem?_eq_none (show L.length ≤ p by omega), List.getElem?_eq_none (show (L ++ [x]).length ≤ p by simp; omega)]
theorem blks_one {L : VL} {x : Value × Nat} {g : Nat} (h : Blks (L ++ [x]) g) : Blks L g ∨ x.1.ownBlock = some g := by
  obtain ⟨p, hp, hg⟩ := h
  rw [getD_one] at hg
  have hp : p < L.length + 1 := by simpa using hp
  by_cases e : p = L.length
  · rw [if_pos e] at hg; exact .inr hg
  · rw [if_neg e] at hg; exact .inl ⟨p, by omega, hg⟩
theorem add_fin {W W' : World} {lo gb B k : Nat} {f : Nat → Value} {L : Nat → VL} {x : Value × Nat} {e : Ending} (h : BagG W lo gb B f L) (hk : k < 21) (hx : (∃ xs, W.ownsRow lo (eT k) (sT k) x.1 x.2 xs) ∧ x.2 ≤ 4294967296 ∧ ∀ g, x.1.ownBlock = some g → g < gb ∧ ¬ Blks (L k) g)
    (hp : APost gb B k (rT k) f (L k) x W e W') : GPost gb lo B f L (fun j g => j = k ∧ x.1.ownBlock = some g) [k] W e W' := by
  obtain ⟨he, v', L', p1, p2, p3, p4, p6⟩ := hp
  have hK := h.kinds k hk
  have bel : Below gb W W' := ⟨p4.1.1, p4.1.2.1, p4.1.2.2, p4.2.1, fun g hg => p4.2.2 g (by have := h.lt; omega) (by omega) (fun e2 => by have := row_ge hK.row e2; have := h.lt; omega)⟩
  refine ⟨he, upd f k v', upd L k L', ⟨p1, ⟨h.lt.1, Nat.le_trans h.lt.2 p4.2.1⟩, fun j hj => ?_⟩, bel, fun j g hg => ?_, fun g g1 g2 g3 => ⟨p4.2.2 g g1 g2 (g3 k hk), fun j hj hg => ?_⟩, fun j hj => upd_ne _ _ _ (by simpa using hj)⟩
  · by_cases e1 : j = k
    · subst e1
      rw [upd_self, upd_self]
      rcases p3 with p3 | ⟨p3, p5⟩
      · subst p3
        exact ⟨p2, hK.len, fun p hp => ⟨(hK.each p hp).1.elim fun xs hx => ⟨xs, own_block hx fun g hg => bel.block g (hK.below g ⟨p, hp, hg⟩)⟩, (hK.each p hp).2⟩, hK.below, hK.apart⟩
      · subst p3
        refine ⟨p2, by simp; omega, fun p hp => ?_, fun g hg => ?_, fun p q g hp hq hpq => ?_⟩
        · rw [getD_one]
          have hp : p < (L j).length + 1 := by simpa using hp
          by_cases e2 : p = (L j).length
          · rw [if_pos e2]
            exact ⟨hx.1.elim fun xs hxx => ⟨xs, own_block hxx fun g hg => bel.block g (hx.2.2 g hg).1⟩, hx.2.1⟩
          · rw [if_neg e2]
            exact ⟨(hK.each p (by omega)).1.elim fun xs hx => ⟨xs, own_block hx fun g hg => bel.block g (hK.below g ⟨p, by omega, hg⟩)⟩, (hK.each p (by omega)).2⟩
        · rcases blks_one hg with hg | hg
          · exact hK.below g hg
          · exact (hx.2.2 g hg).1
        · rw [getD_one, getD_one]
          have hp : p < (L j).length + 1 := by simpa using hp
          have hq : q < (L j).length + 1 := by simpa using hq
          by_cases e2 : p = (L j).length
          · rw [if_pos e2, if_neg (by omega)]
            intro k1 k2
            exact (hx.2.2 g k1).2 ⟨q, by omega, k2⟩
          · rw [if_neg e2]
            by_cases e3 : q = (L j).length
            · rw [if_pos e3]
              intro k1 k2
              exact (hx.2.2 g k2).2 ⟨p, by omega, k1⟩
            · rw [if_neg e3]
              exact hK.apart p q g (by omega) (by omega) hpq
    · rw [upd_ne _ _ _ e1, upd_ne _ _ _ e1]
      have hJ := h.kinds j hj
      refine hJ.keep (fun g hg => p4.2.2 g (row_lt hJ.row hg) (fun e2 => ?_) (fun e2 => ?_)) (fun g hg => bel.block g (hJ.below g hg))
      · have := row_ge hJ.row hg; have := h.lt; omega
      · obtain ⟨cur, hc⟩ := own_ty hJ.row hg
        exact ty_apart hK.row hc (rT_inj k hk j hj (fun e3 => e1 e3.symm)) e2
  · by_cases e1 : j = k
    · subst e1
      rw [upd_self] at hg
      rcases p3 with p3 | ⟨p3, p5⟩
      · subst p3; exact .inl hg
      · subst p3
        rcases blks_one hg with hg | hg
        · exact .inl hg
        · exact .inr ⟨rfl, hg⟩
    · rw [upd_ne _ _ _ e1] at hg
      exact .inl hg
  · by_cases e1 : j = k
    · subst e1
      rw [upd_self] at hg
      rcases p6 g hg with h9 | h9
      · exact g3 j hk h9
      · omega
    · rw [upd_ne _ _ _ e1] at hg
      exact g3 j hj hg
end Go.Proofs.YtoaaehgnbapibaaDoor.BG
