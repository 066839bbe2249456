/-
  A bag of lists of every kind: what is gathered, and what is left alone.
-/
import Derived.Test.YtmpamcdobhiipaaGreatDoorBkiQ
import Derived.Test.YtmpamcdobhiipaaGreatDoorWsToRa
namespace Go.Proofs.YtmpamcdobhiipaaGreatDoor.BG
open Go.RowKit

def bagA (f : Nat → Value) : Array Value := #[f 0, f 1, f 2, f 3, f 4, f 5, f 6, f 7, f 8, f 9, f 10, f 11, f 12, f 13, f 14, f 15, f 16, f 17, f 18, f 19, f 20]
def upd {A : Type} (f : Nat → A) (k : Nat) (v : A) : Nat → A := fun i => if i = k then v else f i
theorem upd_self {A : Type} (f : Nat → A) (k : Nat) (v : A) : upd f k v k = v := by simp [upd]
theorem upd_ne {A : Type} (f : Nat → A) (k : Nat) (v : A) {j : Nat} (h : j ≠ k) : upd f k v j = f j := by simp [upd, h]
def eT (k : Nat) : Nat := [5, 3, 2, 103, 105, 28, 9, 95, 83, 111, 114, 117, 84, 106, 120, 123, 126, 129, 132, 135, 30].getD k 0
def rT (k : Nat) : Nat := [22, 84, 101, 102, 104, 106, 107, 25, 26, 109, 112, 115, 27, 42, 118, 121, 124, 127, 130, 133, 136].getD k 0
def sT (k : Nat) : Nat := [1, 1, 1, 1, 1, 1, 1, 3, 6, 4, 7, 5, 1, 1, 12, 3, 4, 6, 4, 6, 7].getD k 0
abbrev tBag : Nat := 59
theorem eT_inj : ∀ j, j < 21 → ∀ k, k < 21 → j ≠ k → eT j ≠ eT k := by decide
theorem rT_inj : ∀ j, j < 21 → ∀ k, k < 21 → j ≠ k → rT j ≠ rT k := by decide
theorem bagA_set (f : Nat → Value) (k : Nat) (hk : k < 21) (v : Value) : (bagA f).setIfInBounds k v = bagA (upd f k v) := by
  rcases (by omega : k = 0 ∨ k = 1 ∨ k = 2 ∨ k = 3 ∨ k = 4 ∨ k = 5 ∨ k = 6 ∨ k = 7 ∨ k = 8 ∨ k = 9 ∨ k = 10 ∨ k = 11 ∨ k = 12 ∨ k = 13 ∨ k = 14 ∨ k = 15 ∨ k = 16 ∨ k = 17 ∨ k = 18 ∨ k = 19 ∨ k = 20) with rfl | rfl | rfl | rfl | rfl | rfl | rfl | rfl | rfl | rfl | rfl | rfl | rfl | rfl | rfl | rfl | rfl | rfl | rfl | rfl | rfl <;> rfl
theorem bag_cell {W : World} {gb : Nat} {f : Nat → Value} (h : W.heap[gb]? = some (.cells (bagA f) tBag (0, 0))) (k : Nat) (hk : k < 21) : W.cell? ⟨gb, k, none⟩ = some (f k) := by
  rcases (by omega : k = 0 ∨ k = 1 ∨ k = 2 ∨ k = 3 ∨ k = 4 ∨ k = 5 ∨ k = 6 ∨ k = 7 ∨ k = 8 ∨ k = 9 ∨ k = 10 ∨ k = 11 ∨ k = 12 ∨ k = 13 ∨ k = 14 ∨ k = 15 ∨ k = 16 ∨ k = 17 ∨ k = 18 ∨ k = 19 ∨ k = 20) with rfl | rfl | rfl | rfl | rfl | rfl | rfl | rfl | rfl | rfl | rfl | rfl | rfl | rfl | rfl | rfl | rfl | rfl | rfl | rfl | rfl <;> simp [World.cell?, h, bagA]
/- what changes: the bag's block, the row of lists, new blocks -/
def Two (b : Nat) (v : Value) (w w' : World) : Prop := (w'.os = w.os ∧ w'.tape = w.tape ∧ w'.output = w.output) ∧ w.heap.size ≤ w'.heap.size ∧ ∀ g, g < w.heap.size → g ≠ b → v.ownBlock ≠ some g → w'.heap[g]? = w.heap[g]?
/- one kind: its row of lists lies at or above B, each list at or above lo and below gb -/
structure Kn (W : World) (lo gb B e t1 s : Nat) (v : Value) (L : VL) : Prop where
  row : W.ownsRow B t1 1 v L.length (L.map (·.1))
  len : L.length ≤ 400
  each : ∀ p, p < L.length → (∃ xs, W.ownsRow lo e s (L.getD p dv).1 (L.getD p dv).2 xs) ∧ (L.getD p dv).2 ≤ 4294967296
  below : ∀ g, Blks L g → g < gb
  apart : Apart L
theorem Kn.nil (W : World) (lo gb B e t1 s : Nat) : Kn W lo gb B e t1 s (.slice none 0 0) [] :=
  ⟨World.ownsRow_nil _ _ _ _, Nat.zero_le _, fun _ hp => absurd hp (Nat.not_lt_zero _), fun _ ⟨_, hp, _⟩ => absurd hp (Nat.not_lt_zero _), fun _ _ _ hp => absurd hp (Nat.not_lt_zero _)⟩
theorem Kn.keep {W W' : World} {lo gb B e t1 s : Nat} {v : Value} {L : VL} (h : Kn W lo gb B e t1 s v L) (k1 : ∀ g, v.ownBlock = some g → W'.heap[g]? = W.heap[g]?) (k2 : ∀ g, Blks L g → W'.heap[g]? = W.heap[g]?) : Kn W' lo gb B e t1 s v L :=
  ⟨own_block h.row k1, h.len, fun p hp => ⟨(h.each p hp).1.elim fun xs hx => ⟨xs, own_block hx fun g hg => k2 g ⟨p, hp, hg⟩⟩, (h.each p hp).2⟩, h.below, h.apart⟩
structure BagG (W : World) (lo gb B : Nat) (f : Nat → Value) (L : Nat → VL) : Prop where
  blk : W.heap[gb]? = some (.cells (bagA f) tBag (0, 0))
  lt : gb < B ∧ B ≤ W.heap.size
  kinds : ∀ k, k < 21 → Kn W lo gb B (eT k) (rT k) (sT k) (f k) (L k)
theorem bagG_start (W : World) (lo : Nat) : BagG (W.alloc (.cells (bagA fun _ => .slice none 0 0) tBag)) lo W.heap.size (W.heap.size + 1) (fun _ => .slice none 0 0) (fun _ => []) :=
  ⟨Array.getElem?_push_size, ⟨Nat.lt_succ_self _, by simp⟩, fun k _ => Kn.nil _ _ _ _ _ _ _⟩
theorem row_ge {W : World} {B e s n : Nat} {v : Value} {xs : List Value} (h : W.ownsRow B e s v n xs) {g : Nat} (hg : v.ownBlock = some g) : B ≤ g := by
  rcases h.2 with ⟨rfl, -⟩ | ⟨g', cap, cur, rfl, hb, _⟩
  · cases hg
  · have : g' = g := by simpa [Value.ownBlock] using hg
    omega
theorem row_lt {W : World} {B e s n : Nat} {v : Value} {xs : List Value} (h : W.ownsRow B e s v n xs) {g : Nat} (hg : v.ownBlock = some g) : g < W.heap.size := by
  obtain ⟨cur, hc⟩ := own_ty h hg
  exact (Array.getElem?_eq_some_iff.1 hc).1
theorem BagG.up {W W' : World} {lo gb B : Nat} {f : Nat → Value} {L : Nat → VL} (h : BagG W lo gb B f L) (u : Up W W') : BagG W' lo gb B f L :=
  ⟨u.heap h.blk, ⟨h.lt.1, Nat.le_trans h.lt.2 u.size⟩, fun k hk => (h.kinds k hk).keep (fun g hg => u.block g (row_lt (h.kinds k hk).row hg)) (fun g hg => u.block g (by have := (h.kinds k hk).below g hg; have := h.lt; omega))⟩
def APost (gb B k t1 : Nat) (f : Nat → Value) (L : VL) (x : Value × Nat) (w : World) (e : Ending) (w' : World) : Prop :=
  e = .returned (.tuple #[]) ∧ ∃ v' L', w'.heap[gb]? = some (.cells (bagA (upd f k v')) tBag (0, 0)) ∧ w'.ownsRow B t1 1 v' L'.length (L'.map (·.1)) ∧ (L' = L ∨ (L' = L ++ [x] ∧ L.length < 400)) ∧ Two gb (f k) w w' ∧ ∀ g, v'.ownBlock = some g → (f k).ownBlock = some g ∨ w.heap.size ≤ g
/- blocks that are no part of the bag -/
def Oth (gb : Nat) (f f' : Nat → Value) (W W' : World) : Prop := ∀ g, g < W.heap.size → g ≠ gb → (∀ k, k < 21 → (f k).ownBlock ≠ some g) → W'.heap[g]? = W.heap[g]? ∧ ∀ k, k < 21 → (f' k).ownBlock ≠ some g
theorem Oth.refl (gb : Nat) (f : Nat → Value) (W : World) : Oth gb f f W W := fun _ _ _ h => ⟨rfl, h⟩
theorem Oth.trans {gb : Nat} {f f' f2 : Nat → Value} {W W' W2 : World} (h : Oth gb f f' W W') (k : Oth gb f' f2 W' W2) (hs : W.heap.size ≤ W'.heap.size) : Oth gb f f2 W W2 := fun g h1 h2 h3 => by
  obtain ⟨a, b⟩ := h g h1 h2 h3
  obtain ⟨c, d⟩ := k g (by omega) h2 b
  exact ⟨c.trans a, d⟩
def GPost (gb lo B : Nat) (f : Nat → Value) (L : Nat → VL) (S : Nat → Nat → Prop) (ks : List Nat) (W : World) (e : Ending) (W' : World) : Prop :=
  e = .returned (.tuple #[]) ∧ ∃ f' L', BagG W' lo gb B f' L' ∧ Below gb W W' ∧ (∀ j g, Blks (L' j) g → Blks (L j) g ∨ S j g) ∧ Oth gb f f' W W' ∧ ∀ j, j ∉ ks → L' j = L j
/- a list whose block lies within lo and hi -/
def RowIn (W : World) (lo hi e s : Nat) (v : Value) (n : Nat) : Prop := (∃ xs, W.ownsRow lo e s v n xs) ∧ n ≤ 4294967296 ∧ ∀ g, v.ownBlock = some g → g < hi
theorem own_low {W : World} {b b' e s n : Nat} {v : Value} {xs : List Value} (h : W.ownsRow b e s v n xs) (hb : b' ≤ b) : W.ownsRow b' e s v n xs := by
  refine ⟨h.1, ?_⟩
  rcases h.2 with h | ⟨g, cap, cur, e1, e2, e3⟩
  · exact .inl h
  · exact .inr ⟨g, cap, cur, e1, Nat.le_trans hb e2, e3⟩
theorem RowIn.below {W W' : World} {lo hi e s gb : Nat} {v : Value} {n : Nat} (h : RowIn W lo hi e s v n) (b : Below gb W W') (hh : hi ≤ gb) : RowIn W' lo hi e s v n :=
  ⟨h.1.elim fun xs hx => ⟨xs, own_block hx fun g hg => b.block g (by have := h.2.2 g hg; omega)⟩, h.2⟩
theorem getD_one {L : VL} {x : Value × Nat} (p : Nat) : (L ++ [x]).getD p dv = if p = L.length then x else L.getD p dv := by
  by_cases h : p = L.length
  · subst h; simp [List.getD]
  · rw [if_neg h]
    by_cases h2 : p < L.length
    · simp [List.getD, List.getElem?_append_left h2]
    · simp [List.getD, List.getElem?_eq_none (show L.length ≤ p by omega), List.getElem?_eq_none (show (L ++ [x]).length ≤ p by simp; omega)]
theorem blks_one {L : VL} {x : Value × Nat} {g : Nat} (h : Blks (L ++ [x]) g) : Blks L g ∨ x.1.ownBlock = some g := by
  obtain ⟨p, hp, hg⟩ := h
  rw [getD_one] at hg
  have hp : p < L.length + 1 := by simpa using hp
  by_cases e : p = L.length
  · rw [if_pos e] at hg; exact .inr hg
  · rw [if_neg e] at hg; exact .inl ⟨p, by omega, hg⟩
theorem add_fin {W W' : World} {lo gb B k : Nat} {f : Nat → Value} {L : Nat → VL} {x : Value × Nat} {e : Ending} (h : BagG W lo gb B f L) (hk : k < 21) (hx : (∃ xs, W.ownsRow lo (eT k) (sT k) x.1 x.2 xs) ∧ x.2 ≤ 4294967296 ∧ ∀ g, x.1.ownBlock = some g → g < gb ∧ ¬ Blks (L k) g)
    (hp : APost gb B k (rT k) f (L k) x W e W') : GPost gb lo B f L (fun j g => j = k ∧ x.1.ownBlock = some g) [k] W e W' := by
  obtain ⟨he, v', L', p1, p2, p3, p4, p6⟩ := hp
  have hK := h.kinds k hk
  have bel : Below gb W W' := ⟨p4.1.1, p4.1.2.1, p4.1.2.2, p4.2.1, fun g hg => p4.2.2 g (by have := h.lt; omega) (by omega) (fun e2 => by have := row_ge hK.row e2; have := h.lt; omega)⟩
  refine ⟨he, upd f k v', upd L k L', ⟨p1, ⟨h.lt.1, Nat.le_trans h.lt.2 p4.2.1⟩, fun j hj => ?_⟩, bel, fun j g hg => ?_, fun g g1 g2 g3 => ⟨p4.2.2 g g1 g2 (g3 k hk), fun j hj hg => ?_⟩, fun j hj => upd_ne _ _ _ (by simpa using hj)⟩
  · by_cases e1 : j = k
    · subst e1
      rw [upd_self, upd_self]
      rcases p3 with p3 | ⟨p3, p5⟩
      · subst p3
        exact ⟨p2, hK.len, fun p hp => ⟨(hK.each p hp).1.elim fun xs hx => ⟨xs, own_block hx fun g hg => bel.block g (hK.below g ⟨p, hp, hg⟩)⟩, (hK.each p hp).2⟩, hK.below, hK.apart⟩
      · subst p3
        refine ⟨p2, by simp; omega, fun p hp => ?_, fun g hg => ?_, fun p q g hp hq hpq => ?_⟩
        · rw [getD_one]
          have hp : p < (L j).length + 1 := by simpa using hp
          by_cases e2 : p = (L j).length
          · rw [if_pos e2]
            exact ⟨hx.1.elim fun xs hxx => ⟨xs, own_block hxx fun g hg => bel.block g (hx.2.2 g hg).1⟩, hx.2.1⟩
          · rw [if_neg e2]
            exact ⟨(hK.each p (by omega)).1.elim fun xs hx => ⟨xs, own_block hx fun g hg => bel.block g (hK.below g ⟨p, by omega, hg⟩)⟩, (hK.each p (by omega)).2⟩
        · rcases blks_one hg with hg | hg
          · exact hK.below g hg
          · exact (hx.2.2 g hg).1
        · rw [getD_one, getD_one]
          have hp : p < (L j).length + 1 := by simpa using hp
          have hq : q < (L j).length + 1 := by simpa using hq
          by_cases e2 : p = (L j).length
          · rw [if_pos e2, if_neg (by omega)]
            intro k1 k2
            exact (hx.2.2 g k1).2 ⟨q, by omega, k2⟩
          · rw [if_neg e2]
            by_cases e3 : q = (L j).length
            · rw [if_pos e3]
              intro k1 k2
              exact (hx.2.2 g k2).2 ⟨p, by omega, k1⟩
            · rw [if_neg e3]
              exact hK.apart p q g (by omega) (by omega) hpq
    · rw [upd_ne _ _ _ e1, upd_ne _ _ _ e1]
      have hJ := h.kinds j hj
      refine hJ.keep (fun g hg => p4.2.2 g (row_lt hJ.row hg) (fun e2 => ?_) (fun e2 => ?_)) (fun g hg => bel.block g (hJ.below g hg))
      · have := row_ge hJ.row hg; have := h.lt; omega
      · obtain ⟨cur, hc⟩ := own_ty hJ.row hg
        exact ty_apart hK.row hc (rT_inj k hk j hj (fun e3 => e1 e3.symm)) e2
  · by_cases e1 : j = k
    · subst e1
      rw [upd_self] at hg
      rcases p3 with p3 | ⟨p3, p5⟩
      · subst p3; exact .inl hg
      · subst p3
        rcases blks_one hg with hg | hg
        · exact .inl hg
        · exact .inr ⟨rfl, hg⟩
    · rw [upd_ne _ _ _ e1] at hg
      exact .inl hg
  · by_cases e1 : j = k
    · subst e1
      rw [upd_self] at hg
      rcases p6 g hg with h9 | h9
      · exact g3 j hk h9
      · omega
    · rw [upd_ne _ _ _ e1] at hg
      exact g3 j hj hg
end Go.Proofs.YtmpamcdobhiipaaGreatDoor.BG
/-
  One more list into the bag.
-/
namespace Go.Proofs.YtmpamcdobhiipaaGreatDoor.BG
open Go.RowKit
attribute [local go_sem ↓] Go.wp_at_zero Go.wp_at_succ

theorem newCell1 (W : World) (x : Value) (t : Nat) : ∀ j u, [x][j]? = some u → (W.alloc (.cells #[x] t)).cell? ((⟨W.heap.size, 0, none⟩ : Addr).add j) = some u := newCell W x t
theorem bag_frozen {W : World} {gb : Nat} {c : Array Value} {t : Nat} (h : W.heap[gb]? = some (.cells c t (0, 0))) (k : Nat) : W.frozen? ⟨gb, k, none⟩ = false := seven_f h k
theorem upd_same {A : Type} (f : Nat → A) (k : Nat) : upd f k (f k) = f := by
  funext i
  by_cases h : i = k
  · subst h; simp [upd]
  · simp [upd, h]
/- what the append and the store leave -/
theorem apost_of {w W1 : World} {gb B k t1 : Nat} {f : Nat → Value} {L : VL} {x v' : Value} {m : Nat} {o : Obj} (hk : k < 21) (hb : w.heap[gb]? = some (.cells (bagA f) tBag (0, 0))) (hr : w.ownsRow B t1 1 (f k) L.length (L.map (·.1))) (hbb : gb < B) (hbs : B ≤ w.heap.size) (hl : L.length < 400)
    (hown : W1.ownsRow B t1 1 v' (L.length + 1) (L.map (·.1) ++ [x])) (hg : (w.alloc o).grownBy W1 (f k).ownBlock) (hln : LiesNew (f k) v' (w.alloc o)) : APost gb B k t1 f L (x, m) w (.returned (.tuple #[])) (W1.setCell ⟨gb, k, none⟩ v') := by
  have hgl : gb < w.heap.size := by omega
  have h1 : W1.heap[gb]? = some (.cells (bagA f) tBag (0, 0)) := by
    rw [hg.block gb (by simp; omega) (fun e => by have := row_ge hr e.symm; omega), Below.heap_alloc _ _ _ hgl]
    exact hb
  refine ⟨rfl, v', L ++ [(x, m)], ?_, ?_, .inr ⟨rfl, hl⟩, ⟨⟨hg.os, hg.tape, hg.output⟩, by have := hg.size; simp at this ⊢; omega, fun g hg1 hg2 hg3 => ?_⟩, fun g hg => ?_⟩
  · rw [set_cells h1, bagA_set f k hk]
  · rw [List.length_append, List.map_append]
    have := hown
    refine own_block (W' := W1.setCell ⟨gb, k, none⟩ v') this fun g hg => ?_
    exact Below.heap_setCell _ _ _ _ (by show g ≠ gb; have := row_ge hown hg; omega)
  · rw [Below.heap_setCell _ _ _ _ hg2, hg.block g (by simp; omega) (fun e => hg3 e.symm), Below.heap_alloc _ _ _ hg1]
  · rcases hln with h9 | ⟨g9, h9, h8⟩
    · exact .inl (by rw [← h9]; exact hg)
    · rw [h9] at hg
      have e9 : g9 = g := by simpa using hg
      subst e9
      exact .inr (by simp at h8; omega)

theorem infoAInts : (Tryz.prog.info? 84).map (fun i => (i.zero, i.size, i.bytes)) = some (some (.slice none 0 0), 1, 24) := by kernel_rfl
set_option maxRecDepth 100000 in
set_option maxHeartbeats 1000000 in
theorem addInts0 (gb B : Nat) (f : Nat → Value) (L : VL) (ad : Option Addr) (m c : Nat) (w : World) (hb : w.heap[gb]? = some (.cells (bagA f) tBag (0, 0))) (hr : w.ownsRow B 84 1 (f 1) L.length (L.map (·.1))) (hbb : gb < B) (hbs : B ≤ w.heap.size) (hL : L.length ≤ 400) :
    Calls Tryz.prog 56 #[.pointer (some ⟨gb, 0, none⟩), .slice ad m c] w (APost gb B 1 84 f L (.slice ad m c, m) w) := by
  obtain ⟨iI, hiI, z0, z1, z2⟩ := info_parts infoAInts
  obtain ⟨Post, hPost⟩ : ∃ P : Ending → World → Prop, P = APost gb B 1 84 f L (.slice ad m c, m) w := ⟨_, rfl⟩
  rw [← hPost]
  have HPost : Hid (Post = APost gb B 1 84 f L (.slice ad m c, m) w) := hPost
  clear hPost
  obtain ⟨va, vcap, hv⟩ := row_val hr
  have c1 := bag_cell hb 1 (by decide)
  rw [hv] at c1
  have f1 := bag_frozen hb 1
  by_cases hl : L.length < 400
  · have hlt : (L.length : Int) < 400 := by omega
    have hrA : (w.alloc (.cells #[.slice ad m c] 84)).ownsRow B 84 1 (f 1) L.length (L.map (·.1)) := row_up hr ((Up.refl _).alloc _)
    rw [hv] at hrA
    have HF : Hid (∀ v' W1, W1.ownsRow B 84 1 v' (L.length + 1) (L.map (·.1) ++ [.slice ad m c]) → (w.alloc (.cells #[.slice ad m c] 84)).grownBy W1 (Value.slice va L.length vcap).ownBlock → LiesNew (.slice va L.length vcap) v' (w.alloc (.cells #[.slice ad m c] 84)) → Post (.returned (.tuple #[])) (W1.setCell ⟨gb, 1, none⟩ v') ∧ W1.cell? ⟨gb, 1, none⟩ = some (.slice va L.length vcap) ∧ W1.frozen? ⟨gb, 1, none⟩ = false) := fun v' W1 h1 h2 h8 => by
      rw [HPost.out]
      have hgl : gb < w.heap.size := by omega
      have h3 : W1.heap[gb]? = some (.cells (bagA f) tBag (0, 0)) := by
        rw [h2.block gb (by simp; omega) (fun e => by rw [← hv] at e; have := row_ge hr e.symm; omega), Below.heap_alloc _ _ _ hgl]
        exact hb
      exact ⟨apost_of (by decide) hb hr hbb hbs hl h1 (by rw [hv]; exact h2) (by rw [hv]; exact h8), by rw [← hv]; exact bag_cell h3 1 (by decide), bag_frozen h3 1⟩
    have HNw : Hid _ := newCell1 w (.slice ad m c) 84
    have HA : Hid _ := hrA
    clear hb hr hrA hv
    go_enter Tryz.func56, Tryz.ntmps56
    go_wp2_with (at_builtin; go_loud (refine wpList_append_apart _ (by rfl) (.tmp 14) (.tmp 16) 27 (by rfl) B 84 iI (.slice none 0 0) 1 24 Tryz.underlying27 hiI z0 z1 z2 (by rfl) (by decide) (.slice va L.length vcap) L.length (L.map fun y : Value × Nat => y.1) (by rfl) HA.out ⟨w.heap.size, 0, none⟩ 1 [.slice ad m c] (by rfl) (by rfl) HNw.out (oneSl _ _ _) (by unfold maxLen; omega) (by omega) (by simp; omega) ?_; intro v' W1 a1 a2 a3 a4 a5; obtain ⟨hF, d1, e1⟩ := HF.out v' W1 a1 a2 a4; have HF2 : Hid _ := hF; obtain ⟨xa, xk, hx⟩ := row_val a1; subst hx; clear a1 a2 a3 a4 a5 hF))
    first | exact HF2.out | (go_end0; exact HF2.out)
  · have hlt : ¬ (L.length : Int) < 400 := by omega
    have HF : Hid (Post (.returned (.tuple #[])) w) := by
      unfold Hid
      rw [HPost.out]
      exact ⟨rfl, f 1, L, by rw [upd_same]; exact hb, hr, .inl rfl, ⟨⟨rfl, rfl, rfl⟩, Nat.le_refl _, fun _ _ _ _ => rfl⟩, fun _ h => .inl h⟩
    clear hb hr hv
    go_enter Tryz.func56, Tryz.ntmps56
    go_wp2
    first | exact HF.out | (go_end0; exact HF.out)
theorem addInts_ (gb B lo : Nat) (f : Nat → Value) (L : Nat → VL) (v : Value) (m : Nat) (w : World) (h : BagG w lo gb B f L) (hx : (∃ xs, w.ownsRow lo 3 (sT 1) v m xs) ∧ m ≤ 4294967296 ∧ ∀ g, v.ownBlock = some g → g < gb ∧ ¬ Blks (L 1) g) :
    Calls Tryz.prog 56 #[.pointer (some ⟨gb, 0, none⟩), v] w (GPost gb lo B f L (fun j g => j = 1 ∧ v.ownBlock = some g) [1] w) := by
  obtain ⟨xs, hxs⟩ := hx.1
  obtain ⟨ad, c, rfl⟩ := row_val hxs
  exact (addInts0 gb B f (L 1) ad m c w h.blk (h.kinds 1 (by decide)).row h.lt.1 h.lt.2 (h.kinds 1 (by decide)).len).mono fun e w' hp => add_fin (x := (.slice ad m c, m)) h (by decide) hx hp

theorem infoAPlayers : (Tryz.prog.info? 25).map (fun i => (i.zero, i.size, i.bytes)) = some (some (.slice none 0 0), 1, 24) := by kernel_rfl
set_option maxRecDepth 100000 in
set_option maxHeartbeats 1000000 in
theorem addPlayers0 (gb B : Nat) (f : Nat → Value) (L : VL) (ad : Option Addr) (m c : Nat) (w : World) (hb : w.heap[gb]? = some (.cells (bagA f) tBag (0, 0))) (hr : w.ownsRow B 25 1 (f 7) L.length (L.map (·.1))) (hbb : gb < B) (hbs : B ≤ w.heap.size) (hL : L.length ≤ 400) :
    Calls Tryz.prog 23 #[.pointer (some ⟨gb, 0, none⟩), .slice ad m c] w (APost gb B 7 25 f L (.slice ad m c, m) w) := by
  obtain ⟨iI, hiI, z0, z1, z2⟩ := info_parts infoAPlayers
  obtain ⟨Post, hPost⟩ : ∃ P : Ending → World → Prop, P = APost gb B 7 25 f L (.slice ad m c, m) w := ⟨_, rfl⟩
  rw [← hPost]
  have HPost : Hid (Post = APost gb B 7 25 f L (.slice ad m c, m) w) := hPost
  clear hPost
  obtain ⟨va, vcap, hv⟩ := row_val hr
  have c1 := bag_cell hb 7 (by decide)
  rw [hv] at c1
  have f1 := bag_frozen hb 7
  by_cases hl : L.length < 400
  · have hlt : (L.length : Int) < 400 := by omega
    have hrA : (w.alloc (.cells #[.slice ad m c] 25)).ownsRow B 25 1 (f 7) L.length (L.map (·.1)) := row_up hr ((Up.refl _).alloc _)
    rw [hv] at hrA
    have HF : Hid (∀ v' W1, W1.ownsRow B 25 1 v' (L.length + 1) (L.map (·.1) ++ [.slice ad m c]) → (w.alloc (.cells #[.slice ad m c] 25)).grownBy W1 (Value.slice va L.length vcap).ownBlock → LiesNew (.slice va L.length vcap) v' (w.alloc (.cells #[.slice ad m c] 25)) → Post (.returned (.tuple #[])) (W1.setCell ⟨gb, 7, none⟩ v') ∧ W1.cell? ⟨gb, 7, none⟩ = some (.slice va L.length vcap) ∧ W1.frozen? ⟨gb, 7, none⟩ = false) := fun v' W1 h1 h2 h8 => by
      rw [HPost.out]
      have hgl : gb < w.heap.size := by omega
      have h3 : W1.heap[gb]? = some (.cells (bagA f) tBag (0, 0)) := by
        rw [h2.block gb (by simp; omega) (fun e => by rw [← hv] at e; have := row_ge hr e.symm; omega), Below.heap_alloc _ _ _ hgl]
        exact hb
      exact ⟨apost_of (by decide) hb hr hbb hbs hl h1 (by rw [hv]; exact h2) (by rw [hv]; exact h8), by rw [← hv]; exact bag_cell h3 7 (by decide), bag_frozen h3 7⟩
    have HNw : Hid _ := newCell1 w (.slice ad m c) 25
    have HA : Hid _ := hrA
    clear hb hr hrA hv
    go_enter Tryz.func23, Tryz.ntmps23
    go_wp2_with (at_builtin; go_loud (refine wpList_append_apart _ (by rfl) (.tmp 14) (.tmp 16) 44 (by rfl) B 25 iI (.slice none 0 0) 1 24 Tryz.underlying44 hiI z0 z1 z2 (by rfl) (by decide) (.slice va L.length vcap) L.length (L.map fun y : Value × Nat => y.1) (by rfl) HA.out ⟨w.heap.size, 0, none⟩ 1 [.slice ad m c] (by rfl) (by rfl) HNw.out (oneSl _ _ _) (by unfold maxLen; omega) (by omega) (by simp; omega) ?_; intro v' W1 a1 a2 a3 a4 a5; obtain ⟨hF, d1, e1⟩ := HF.out v' W1 a1 a2 a4; have HF2 : Hid _ := hF; obtain ⟨xa, xk, hx⟩ := row_val a1; subst hx; clear a1 a2 a3 a4 a5 hF))
    first | exact HF2.out | (go_end0; exact HF2.out)
  · have hlt : ¬ (L.length : Int) < 400 := by omega
    have HF : Hid (Post (.returned (.tuple #[])) w) := by
      unfold Hid
      rw [HPost.out]
      exact ⟨rfl, f 7, L, by rw [upd_same]; exact hb, hr, .inl rfl, ⟨⟨rfl, rfl, rfl⟩, Nat.le_refl _, fun _ _ _ _ => rfl⟩, fun _ h => .inl h⟩
    clear hb hr hv
    go_enter Tryz.func23, Tryz.ntmps23
    go_wp2
    first | exact HF.out | (go_end0; exact HF.out)
theorem addPlayers_ (gb B lo : Nat) (f : Nat → Value) (L : Nat → VL) (v : Value) (m : Nat) (w : World) (h : BagG w lo gb B f L) (hx : (∃ xs, w.ownsRow lo 95 (sT 7) v m xs) ∧ m ≤ 4294967296 ∧ ∀ g, v.ownBlock = some g → g < gb ∧ ¬ Blks (L 7) g) :
    Calls Tryz.prog 23 #[.pointer (some ⟨gb, 0, none⟩), v] w (GPost gb lo B f L (fun j g => j = 7 ∧ v.ownBlock = some g) [7] w) := by
  obtain ⟨xs, hxs⟩ := hx.1
  obtain ⟨ad, c, rfl⟩ := row_val hxs
  exact (addPlayers0 gb B f (L 7) ad m c w h.blk (h.kinds 7 (by decide)).row h.lt.1 h.lt.2 (h.kinds 7 (by decide)).len).mono fun e w' hp => add_fin (x := (.slice ad m c, m)) h (by decide) hx hp

theorem infoACards : (Tryz.prog.info? 26).map (fun i => (i.zero, i.size, i.bytes)) = some (some (.slice none 0 0), 1, 24) := by kernel_rfl
set_option maxRecDepth 100000 in
set_option maxHeartbeats 1000000 in
theorem addCards0 (gb B : Nat) (f : Nat → Value) (L : VL) (ad : Option Addr) (m c : Nat) (w : World) (hb : w.heap[gb]? = some (.cells (bagA f) tBag (0, 0))) (hr : w.ownsRow B 26 1 (f 8) L.length (L.map (·.1))) (hbb : gb < B) (hbs : B ≤ w.heap.size) (hL : L.length ≤ 400) :
    Calls Tryz.prog 24 #[.pointer (some ⟨gb, 0, none⟩), .slice ad m c] w (APost gb B 8 26 f L (.slice ad m c, m) w) := by
  obtain ⟨iI, hiI, z0, z1, z2⟩ := info_parts infoACards
  obtain ⟨Post, hPost⟩ : ∃ P : Ending → World → Prop, P = APost gb B 8 26 f L (.slice ad m c, m) w := ⟨_, rfl⟩
  rw [← hPost]
  have HPost : Hid (Post = APost gb B 8 26 f L (.slice ad m c, m) w) := hPost
  clear hPost
  obtain ⟨va, vcap, hv⟩ := row_val hr
  have c1 := bag_cell hb 8 (by decide)
  rw [hv] at c1
  have f1 := bag_frozen hb 8
  by_cases hl : L.length < 400
  · have hlt : (L.length : Int) < 400 := by omega
    have hrA : (w.alloc (.cells #[.slice ad m c] 26)).ownsRow B 26 1 (f 8) L.length (L.map (·.1)) := row_up hr ((Up.refl _).alloc _)
    rw [hv] at hrA
    have HF : Hid (∀ v' W1, W1.ownsRow B 26 1 v' (L.length + 1) (L.map (·.1) ++ [.slice ad m c]) → (w.alloc (.cells #[.slice ad m c] 26)).grownBy W1 (Value.slice va L.length vcap).ownBlock → LiesNew (.slice va L.length vcap) v' (w.alloc (.cells #[.slice ad m c] 26)) → Post (.returned (.tuple #[])) (W1.setCell ⟨gb, 8, none⟩ v') ∧ W1.cell? ⟨gb, 8, none⟩ = some (.slice va L.length vcap) ∧ W1.frozen? ⟨gb, 8, none⟩ = false) := fun v' W1 h1 h2 h8 => by
      rw [HPost.out]
      have hgl : gb < w.heap.size := by omega
      have h3 : W1.heap[gb]? = some (.cells (bagA f) tBag (0, 0)) := by
        rw [h2.block gb (by simp; omega) (fun e => by rw [← hv] at e; have := row_ge hr e.symm; omega), Below.heap_alloc _ _ _ hgl]
        exact hb
      exact ⟨apost_of (by decide) hb hr hbb hbs hl h1 (by rw [hv]; exact h2) (by rw [hv]; exact h8), by rw [← hv]; exact bag_cell h3 8 (by decide), bag_frozen h3 8⟩
    have HNw : Hid _ := newCell1 w (.slice ad m c) 26
    have HA : Hid _ := hrA
    clear hb hr hrA hv
    go_enter Tryz.func24, Tryz.ntmps24
    go_wp2_with (at_builtin; go_loud (refine wpList_append_apart _ (by rfl) (.tmp 14) (.tmp 16) 45 (by rfl) B 26 iI (.slice none 0 0) 1 24 Tryz.underlying45 hiI z0 z1 z2 (by rfl) (by decide) (.slice va L.length vcap) L.length (L.map fun y : Value × Nat => y.1) (by rfl) HA.out ⟨w.heap.size, 0, none⟩ 1 [.slice ad m c] (by rfl) (by rfl) HNw.out (oneSl _ _ _) (by unfold maxLen; omega) (by omega) (by simp; omega) ?_; intro v' W1 a1 a2 a3 a4 a5; obtain ⟨hF, d1, e1⟩ := HF.out v' W1 a1 a2 a4; have HF2 : Hid _ := hF; obtain ⟨xa, xk, hx⟩ := row_val a1; subst hx; clear a1 a2 a3 a4 a5 hF))
    first | exact HF2.out | (go_end0; exact HF2.out)
  · have hlt : ¬ (L.length : Int) < 400 := by omega
    have HF : Hid (Post (.returned (.tuple #[])) w) := by
      unfold Hid
      rw [HPost.out]
      exact ⟨rfl, f 8, L, by rw [upd_same]; exact hb, hr, .inl rfl, ⟨⟨rfl, rfl, rfl⟩, Nat.le_refl _, fun _ _ _ _ => rfl⟩, fun _ h => .inl h⟩
    clear hb hr hv
    go_enter Tryz.func24, Tryz.ntmps24
    go_wp2
    first | exact HF.out | (go_end0; exact HF.out)
theorem addCards_ (gb B lo : Nat) (f : Nat → Value) (L : Nat → VL) (v : Value) (m : Nat) (w : World) (h : BagG w lo gb B f L) (hx : (∃ xs, w.ownsRow lo 83 (sT 8) v m xs) ∧ m ≤ 4294967296 ∧ ∀ g, v.ownBlock = some g → g < gb ∧ ¬ Blks (L 8) g) :
    Calls Tryz.prog 24 #[.pointer (some ⟨gb, 0, none⟩), v] w (GPost gb lo B f L (fun j g => j = 8 ∧ v.ownBlock = some g) [8] w) := by
  obtain ⟨xs, hxs⟩ := hx.1
  obtain ⟨ad, c, rfl⟩ := row_val hxs
  exact (addCards0 gb B f (L 8) ad m c w h.blk (h.kinds 8 (by decide)).row h.lt.1 h.lt.2 (h.kinds 8 (by decide)).len).mono fun e w' hp => add_fin (x := (.slice ad m c, m)) h (by decide) hx hp

theorem infoARows : (Tryz.prog.info? 27).map (fun i => (i.zero, i.size, i.bytes)) = some (some (.slice none 0 0), 1, 24) := by kernel_rfl
def RA (n : Nat) (vs : List Value) : Prop := ∀ p q g, p < n → q < n → p ≠ q → (vs.getD p (.slice none 0 0)).ownBlock = some g → (vs.getD q (.slice none 0 0)).ownBlock ≠ some g
set_option maxRecDepth 100000 in
set_option maxHeartbeats 4000000 in
theorem addRows_ (gb B lo : Nat) (f : Nat → Value) (L : Nat → VL) (v : Value) (nz : Nat) (vs : List Value) (ns : Nat → Nat) (w : World) (h : BagG w lo gb B f L) (hv : w.ownsRow lo 84 1 v nz vs) (hnz : nz ≤ 4294967296) (hvb : ∀ g, v.ownBlock = some g → g < gb ∧ ¬ Blks (L 12) g)
    (hr : ∀ i, i < nz → (∃ xs, w.ownsRow lo 3 1 (vs.getD i (.slice none 0 0)) (ns i) xs) ∧ ns i ≤ 4294967296 ∧ ∀ g, (vs.getD i (.slice none 0 0)).ownBlock = some g → g < gb ∧ ¬ Blks (L 1) g) (hra : RA nz vs) :
    Calls Tryz.prog 25 #[.pointer (some ⟨gb, 0, none⟩), v] w (GPost gb lo B f L (fun j g => (j = 12 ∧ v.ownBlock = some g) ∨ (j = 1 ∧ ∃ i, i < nz ∧ (vs.getD i (.slice none 0 0)).ownBlock = some g)) [12, 1] w) := by
  obtain ⟨iI, hiI, z0, z1, z2⟩ := info_parts infoARows
  obtain ⟨ad, c, rfl⟩ := row_val hv
  obtain ⟨Post, hPost⟩ : ∃ P : Ending → World → Prop, P = GPost gb lo B f L (fun j g => (j = 12 ∧ (Value.slice ad nz c).ownBlock = some g) ∨ (j = 1 ∧ ∃ i, i < nz ∧ (vs.getD i (.slice none 0 0)).ownBlock = some g)) [12, 1] w := ⟨_, rfl⟩
  rw [← hPost]
  have HPost : Hid (Post = GPost gb lo B f L (fun j g => (j = 12 ∧ (Value.slice ad nz c).ownBlock = some g) ∨ (j = 1 ∧ ∃ i, i < nz ∧ (vs.getD i (.slice none 0 0)).ownBlock = some g)) [12, 1] w) := hPost
  have HCell : Hid (∀ i, i < nz → ∀ W, Below gb w W → ∃ ab, ad = some ab ∧ W.cell? (ab.add i) = some (vs.getD i (.slice none 0 0))) := fun i hi W b => by
    obtain ⟨g, cap, -, -, e⟩ := row_some hv (by omega)
    simp only [Value.slice.injEq] at e
    have hd := hv
    rw [e.1] at hd
    refine ⟨_, e.1, ?_⟩
    have ha : (⟨g, 0, none⟩ : Addr).add i = ⟨g, i, none⟩ := by
      unfold Addr.add
      by_cases e : i = 0
      · subst e; rfl
      · simp [e]
    rw [ha, World.cell?_of_block (w := w) (w' := W) (a := ⟨g, i, none⟩) (b.block g (hvb g (by rw [e.1]; rfl)).1), World.ownsRow.cellAt hd i (by omega)]
    have hl : vs.length = nz := by have := hv.1; omega
    rw [List.getD_eq_getElem?_getD, List.getElem?_eq_getElem (by omega)]
    rfl
  have HRow : Hid (∀ i, i < nz → ∀ (W : World) (L' : Nat → VL), Below gb w W → (∀ j g, Blks (L' j) g → Blks (L j) g ∨ (j = 12 ∧ (Value.slice ad nz c).ownBlock = some g) ∨ (j = 1 ∧ ∃ q, q < i ∧ (vs.getD q (.slice none 0 0)).ownBlock = some g)) → (∃ xs, W.ownsRow lo 3 (sT 1) (vs.getD i (.slice none 0 0)) (ns i) xs) ∧ ns i ≤ 4294967296 ∧ ∀ g, (vs.getD i (.slice none 0 0)).ownBlock = some g → g < gb ∧ ¬ Blks (L' 1) g) := fun i hi W L' b h3 => by
    refine ⟨(hr i hi).1.elim fun xs hx => ⟨xs, own_block hx fun g hg => b.block g ((hr i hi).2.2 g hg).1⟩, (hr i hi).2.1, fun g hg => ⟨((hr i hi).2.2 g hg).1, fun hb => ?_⟩⟩
    rcases h3 1 g hb with h | ⟨e, -⟩ | ⟨-, q, hq, h⟩
    · exact ((hr i hi).2.2 g hg).2 h
    · omega
    · exact hra q i g (by omega) hi (by omega) h hg
  clear hPost hr hra
  obtain ⟨va, vcap, hv2⟩ := row_val (h.kinds 12 (by decide)).row
  have c1 := bag_cell h.blk 12 (by decide)
  rw [hv2] at c1
  have f1 := bag_frozen h.blk 12
  have hK := h.kinds 12 (by decide)
  by_cases hl : (L 12).length < 400
  · have hlt : ((L 12).length : Int) < 400 := by omega
    have hrA : (w.alloc (.cells #[.slice ad nz c] 27)).ownsRow B 27 1 (f 12) (L 12).length ((L 12).map (·.1)) := row_up hK.row ((Up.refl _).alloc _)
    rw [hv2] at hrA
    have HF : Hid (∀ v' W1, W1.ownsRow B 27 1 v' ((L 12).length + 1) ((L 12).map (·.1) ++ [.slice ad nz c]) → (w.alloc (.cells #[.slice ad nz c] 27)).grownBy W1 (Value.slice va (L 12).length vcap).ownBlock → LiesNew (.slice va (L 12).length vcap) v' (w.alloc (.cells #[.slice ad nz c] 27)) → (∃ f' L', BagG (W1.setCell ⟨gb, 12, none⟩ v') lo gb B f' L' ∧ Below gb w (W1.setCell ⟨gb, 12, none⟩ v') ∧ (∀ j g, Blks (L' j) g → Blks (L j) g ∨ (j = 12 ∧ (Value.slice ad nz c).ownBlock = some g)) ∧ Oth gb f f' w (W1.setCell ⟨gb, 12, none⟩ v') ∧ ∀ j, j ∉ [12] → L' j = L j) ∧ W1.cell? ⟨gb, 12, none⟩ = some (.slice va (L 12).length vcap) ∧ W1.frozen? ⟨gb, 12, none⟩ = false) := fun v' W1 h1 h2 h8 => by
      have hgl : gb < w.heap.size := by have := h.lt; omega
      have h3 : W1.heap[gb]? = some (.cells (bagA f) tBag (0, 0)) := by
        rw [h2.block gb (by simp; omega) (fun e => by rw [← hv2] at e; have := row_ge hK.row e.symm; have := h.lt; omega), Below.heap_alloc _ _ _ hgl]
        exact h.blk
      refine ⟨?_, by rw [← hv2]; exact bag_cell h3 12 (by decide), bag_frozen h3 12⟩
      exact (add_fin (k := 12) (x := (.slice ad nz c, nz)) h (by decide) ⟨⟨vs, hv⟩, hnz, hvb⟩ (apost_of (m := nz) (by decide) h.blk hK.row h.lt.1 h.lt.2 hl h1 (by rw [hv2]; exact h2) (by rw [hv2]; exact h8))).2
    have HNw : Hid _ := newCell1 w (.slice ad nz c) 27
    have HA : Hid _ := hrA
    have HLt : Hid _ := h.lt
    obtain ⟨N, hN⟩ : ∃ N, N = (L 12).length := ⟨_, rfl⟩
    obtain ⟨M, hM⟩ : ∃ M, M = (L 12).map (·.1) := ⟨_, rfl⟩
    rw [← hN] at c1 HF HA hl hlt
    rw [← hM] at HF HA
    clear h hv hrA hv2 hK hvb hN hM
    go_enter Tryz.func25, Tryz.ntmps25
    go_wp2_with (at_builtin; go_loud (refine wpList_append_apart _ (by rfl) (.tmp 15) (.tmp 17) 49 (by rfl) B 27 iI (.slice none 0 0) 1 24 Tryz.underlying49 hiI z0 z1 z2 (by rfl) (by decide) (.slice va N vcap) N M (by rfl) HA.out ⟨w.heap.size, 0, none⟩ 1 [.slice ad nz c] (by rfl) (by rfl) HNw.out (oneSl _ _ _) (by unfold maxLen; omega) (by omega) (by have := HLt.out; simp; omega) ?_; intro v' W1 a1 a2 a3 a4 a5; obtain ⟨hF, d1, e1⟩ := HF.out v' W1 a1 a2 a4; have HS : Hid _ := hF; obtain ⟨xa, xk, hx⟩ := row_val a1; subst hx; clear a1 a2 a3 a4 a5 hF c1 f1))
    clear d1 e1 HF HA HNw
    go_loopw [4] (fun s2 W => ∃ (i : Nat) (f' : Nat → Value) (L' : Nat → VL), i ≤ nz ∧ s2 = .int .i64 i ∧ BagG W lo gb B f' L' ∧ Below gb w W ∧ (∀ j g, Blks (L' j) g → Blks (L j) g ∨ (j = 12 ∧ (Value.slice ad nz c).ownBlock = some g) ∨ (j = 1 ∧ ∃ q, q < i ∧ (vs.getD q (.slice none 0 0)).ownBlock = some g)) ∧ Oth gb f f' w W ∧ ∀ j, j ∉ [12, 1] → L' j = L j) (fun s2 _ => nz - (intOf s2).toNat)
    case atStart => obtain ⟨f', L', b1, b2, b3, b4⟩ := HS.out; exact ⟨0, f', L', Nat.zero_le _, rfl, b1, b2, fun j g hg => (b3 j g hg).imp id .inl, b4.1, fun j hj => b4.2 j (by simp at hj ⊢; omega)⟩
    case round =>
      clear HS
      obtain ⟨i, f', L', hi, rfl, b1, b2, b3, b4⟩ := hrel
      have HB4 : Hid (Oth gb f f' w wr ∧ ∀ j, j ∉ [12, 1] → L' j = L j) := b4
      have HB1 : Hid (BagG wr lo gb B f' L') := b1
      have HB2 : Hid (Below gb w wr) := b2
      have HB3 : Hid (∀ j g, Blks (L' j) g → Blks (L j) g ∨ (j = 12 ∧ (Value.slice ad nz c).ownBlock = some g) ∨ (j = 1 ∧ ∃ q, q < i ∧ (vs.getD q (.slice none 0 0)).ownBlock = some g)) := b3
      have HEnd : Hid (Post (.returned (.tuple #[])) wr) := by
        unfold Hid
        rw [HPost.out]
        exact ⟨rfl, f', L', b1, b2, fun j g hg => (b3 j g hg).imp id (fun h => h.imp id (fun ⟨e, q, hq, h⟩ => ⟨e, q, Nat.lt_of_lt_of_le hq hi, h⟩)), b4⟩
      clear b1 b2 b3 b4
      by_cases hlt : i < nz
      · have hlt2 : (i : Int) < (nz : Int) := by omega
        by_cases h4 : i < 400
        · have h42 : (i : Int) < 400 := by omega
          obtain ⟨ab, rfl, hcell⟩ := HCell.out i hlt wr HB2.out
          have hx : Hid _ := HRow.out i hlt wr L' HB2.out HB3.out
          obtain ⟨xs9, hx9⟩ := hx.out.1
          obtain ⟨xa, xk, hv⟩ := row_val hx9
          rw [hv] at hcell
          have HK : Hid (Calls Tryz.prog 56 #[.pointer (some ⟨gb, 0, none⟩), .slice xa (ns i) xk] wr (GPost gb lo B f' L' (fun j g => j = 1 ∧ (vs.getD i (.slice none 0 0)).ownBlock = some g) [1] wr)) := by
            have := addInts_ gb B lo f' L' (vs.getD i (.slice none 0 0)) (ns i) wr HB1.out hx.out
            rw [hv] at this ⊢
            exact this
          clear hx hx9 hv HB1
          go_wp2_with fail
          refine Calls.mono HK.out ?_
          rintro e w2 ⟨rfl, f2, L2, d1, d2, d3, d4⟩
          clear HK
          have HR2 : Hid (BagG w2 lo gb B f2 L2 ∧ Below gb w w2 ∧ (∀ j g, Blks (L2 j) g → Blks (L j) g ∨ (j = 12 ∧ (Value.slice (some ab) nz c).ownBlock = some g) ∨ (j = 1 ∧ ∃ q, q < i + 1 ∧ (vs.getD q (.slice none 0 0)).ownBlock = some g)) ∧ Oth gb f f2 w w2 ∧ ∀ j, j ∉ [12, 1] → L2 j = L j) := ⟨d1, Below.trans HB2.out d2, fun j g hg => by
            rcases d3 j g hg with h | ⟨rfl, h⟩
            · rcases HB3.out j g h with h | h | ⟨e, q, hq, h⟩
              · exact .inl h
              · exact .inr (.inl h)
              · exact .inr (.inr ⟨e, q, by omega, h⟩)
            · exact .inr (.inr ⟨rfl, i, by omega, h⟩), HB4.out.1.trans d4.1 HB2.out.size, fun j hj => (d4.2 j (by simp at hj ⊢; omega)).trans (HB4.out.2 j hj)⟩
          clear d1 d2 d3 d4
          go_wp2_with fail
          go_roundw
          case rel => exact ⟨i + 1, f2, L2, by omega, by go_num, HR2.out⟩
          case measure => simp [intOf]; omega
        · have h42 : ¬ (i : Int) < 400 := by omega
          go_wp2
          first | exact HEnd.out | (go_end0; exact HEnd.out)
      · have hlt2 : ¬ (i : Int) < (nz : Int) := by omega
        go_wp2
        first | exact HEnd.out | (go_end0; exact HEnd.out)
  · have hlt : ¬ ((L 12).length : Int) < 400 := by omega
    have HS : Hid (∃ f' L', BagG w lo gb B f' L' ∧ Below gb w w ∧ (∀ j g, Blks (L' j) g → Blks (L j) g ∨ (j = 12 ∧ (Value.slice ad nz c).ownBlock = some g)) ∧ Oth gb f f' w w ∧ ∀ j, j ∉ [12] → L' j = L j) := ⟨f, L, h, Below.refl _ _, fun _ _ h => .inl h, Oth.refl _ _ _, fun _ _ => rfl⟩
    obtain ⟨N, hN⟩ : ∃ N, N = (L 12).length := ⟨_, rfl⟩
    rw [← hN] at c1 hlt
    clear h hv hv2 hK hvb hN hl
    go_enter Tryz.func25, Tryz.ntmps25
    go_wp2_with fail
    clear c1 f1
    go_loopw [4] (fun s2 W => ∃ (i : Nat) (f' : Nat → Value) (L' : Nat → VL), i ≤ nz ∧ s2 = .int .i64 i ∧ BagG W lo gb B f' L' ∧ Below gb w W ∧ (∀ j g, Blks (L' j) g → Blks (L j) g ∨ (j = 12 ∧ (Value.slice ad nz c).ownBlock = some g) ∨ (j = 1 ∧ ∃ q, q < i ∧ (vs.getD q (.slice none 0 0)).ownBlock = some g)) ∧ Oth gb f f' w W ∧ ∀ j, j ∉ [12, 1] → L' j = L j) (fun s2 _ => nz - (intOf s2).toNat)
    case atStart => obtain ⟨f', L', b1, b2, b3, b4⟩ := HS.out; exact ⟨0, f', L', Nat.zero_le _, rfl, b1, b2, fun j g hg => (b3 j g hg).imp id .inl, b4.1, fun j hj => b4.2 j (by simp at hj ⊢; omega)⟩
    case round =>
      clear HS
      obtain ⟨i, f', L', hi, rfl, b1, b2, b3, b4⟩ := hrel
      have HB4 : Hid (Oth gb f f' w wr ∧ ∀ j, j ∉ [12, 1] → L' j = L j) := b4
      have HB1 : Hid (BagG wr lo gb B f' L') := b1
      have HB2 : Hid (Below gb w wr) := b2
      have HB3 : Hid (∀ j g, Blks (L' j) g → Blks (L j) g ∨ (j = 12 ∧ (Value.slice ad nz c).ownBlock = some g) ∨ (j = 1 ∧ ∃ q, q < i ∧ (vs.getD q (.slice none 0 0)).ownBlock = some g)) := b3
      have HEnd : Hid (Post (.returned (.tuple #[])) wr) := by
        unfold Hid
        rw [HPost.out]
        exact ⟨rfl, f', L', b1, b2, fun j g hg => (b3 j g hg).imp id (fun h => h.imp id (fun ⟨e, q, hq, h⟩ => ⟨e, q, Nat.lt_of_lt_of_le hq hi, h⟩)), b4⟩
      clear b1 b2 b3 b4
      by_cases hlt : i < nz
      · have hlt2 : (i : Int) < (nz : Int) := by omega
        by_cases h4 : i < 400
        · have h42 : (i : Int) < 400 := by omega
          obtain ⟨ab, rfl, hcell⟩ := HCell.out i hlt wr HB2.out
          have hx : Hid _ := HRow.out i hlt wr L' HB2.out HB3.out
          obtain ⟨xs9, hx9⟩ := hx.out.1
          obtain ⟨xa, xk, hv⟩ := row_val hx9
          rw [hv] at hcell
          have HK : Hid (Calls Tryz.prog 56 #[.pointer (some ⟨gb, 0, none⟩), .slice xa (ns i) xk] wr (GPost gb lo B f' L' (fun j g => j = 1 ∧ (vs.getD i (.slice none 0 0)).ownBlock = some g) [1] wr)) := by
            have := addInts_ gb B lo f' L' (vs.getD i (.slice none 0 0)) (ns i) wr HB1.out hx.out
            rw [hv] at this ⊢
            exact this
          clear hx hx9 hv HB1
          go_wp2_with fail
          refine Calls.mono HK.out ?_
          rintro e w2 ⟨rfl, f2, L2, d1, d2, d3, d4⟩
          clear HK
          have HR2 : Hid (BagG w2 lo gb B f2 L2 ∧ Below gb w w2 ∧ (∀ j g, Blks (L2 j) g → Blks (L j) g ∨ (j = 12 ∧ (Value.slice (some ab) nz c).ownBlock = some g) ∨ (j = 1 ∧ ∃ q, q < i + 1 ∧ (vs.getD q (.slice none 0 0)).ownBlock = some g)) ∧ Oth gb f f2 w w2 ∧ ∀ j, j ∉ [12, 1] → L2 j = L j) := ⟨d1, Below.trans HB2.out d2, fun j g hg => by
            rcases d3 j g hg with h | ⟨rfl, h⟩
            · rcases HB3.out j g h with h | h | ⟨e, q, hq, h⟩
              · exact .inl h
              · exact .inr (.inl h)
              · exact .inr (.inr ⟨e, q, by omega, h⟩)
            · exact .inr (.inr ⟨rfl, i, by omega, h⟩), HB4.out.1.trans d4.1 HB2.out.size, fun j hj => (d4.2 j (by simp at hj ⊢; omega)).trans (HB4.out.2 j hj)⟩
          clear d1 d2 d3 d4
          go_wp2_with fail
          go_roundw
          case rel => exact ⟨i + 1, f2, L2, by omega, by go_num, HR2.out⟩
          case measure => simp [intOf]; omega
        · have h42 : ¬ (i : Int) < 400 := by omega
          go_wp2
          first | exact HEnd.out | (go_end0; exact HEnd.out)
      · have hlt2 : ¬ (i : Int) < (nz : Int) := by omega
        go_wp2
        first | exact HEnd.out | (go_end0; exact HEnd.out)
end Go.Proofs.YtmpamcdobhiipaaGreatDoor.BG
/-
  A state's lists into the bag.
-/
namespace Go.Proofs.YtmpamcdobhiipaaGreatDoor.BG
open Go.RowKit
attribute [local go_sem ↓] Go.wp_at_zero Go.wp_at_succ

/- a state whose lists lie within lo and hi, each in a block of its own -/
def StIn (W : World) (lo hi : Nat) (v : Value) : Prop := ∃ (vp vc vz t0 t1 t2 t3 : Value) (np nc nz : Nat) (vs : List Value) (ns : Nat → Nat), v = .agg #[vp, vc, vz, t0, t1, t2, t3] ∧ RowIn W lo hi 95 3 vp np ∧ RowIn W lo hi 83 6 vc nc ∧
  (W.ownsRow lo 84 1 vz nz vs ∧ nz ≤ 4294967296 ∧ ∀ g, vz.ownBlock = some g → g < hi) ∧ (∀ i, i < nz → RowIn W lo hi 3 1 (vs.getD i (.slice none 0 0)) (ns i)) ∧ RA nz vs
theorem StIn.below {W W' : World} {lo hi gb : Nat} {v : Value} (h : StIn W lo hi v) (b : Below gb W W') (hh : hi ≤ gb) : StIn W' lo hi v := by
  obtain ⟨vp, vc, vz, t0, t1, t2, t3, np, nc, nz, vs, ns, hv, h1, h2, ⟨h3, h4, h5⟩, h6, h7⟩ := h
  exact ⟨vp, vc, vz, t0, t1, t2, t3, np, nc, nz, vs, ns, hv, h1.below b hh, h2.below b hh, ⟨own_block h3 fun g hg => b.block g (by have := h5 g hg; omega), h4, h5⟩, fun i hi => (h6 i hi).below b hh, h7⟩
theorem RowIn.ge {W : World} {lo hi e s : Nat} {v : Value} {n : Nat} (h : RowIn W lo hi e s v n) {g : Nat} (hg : v.ownBlock = some g) : lo ≤ g := h.1.elim fun _ hx => row_ge hx hg
theorem GPost.mono {gb lo B : Nat} {f : Nat → Value} {L : Nat → VL} {S S' : Nat → Nat → Prop} {ks : List Nat} {W W' : World} {e : Ending} (h : GPost gb lo B f L S ks W e W') (k : ∀ j g, S j g → S' j g) : GPost gb lo B f L S' ks W e W' := by
  obtain ⟨he, f', L', h1, h2, h3, h4⟩ := h
  exact ⟨he, f', L', h1, h2, fun j g hg => (h3 j g hg).imp id (k j g), h4⟩
set_option maxRecDepth 100000 in
set_option maxHeartbeats 2000000 in
theorem addState_ (gb B lo0 lo hi : Nat) (f : Nat → Value) (L : Nat → VL) (v : Value) (w : World) (h : BagG w lo0 gb B f L) (hv : StIn w lo hi v) (hlo : lo0 ≤ lo) (hhi : hi ≤ gb) (hout : ∀ j g, Blks (L j) g → g < lo ∨ hi ≤ g) :
    Calls Tryz.prog 11 #[.pointer (some ⟨gb, 0, none⟩), v] w (GPost gb lo0 B f L (fun _ g => lo ≤ g ∧ g < hi) [7, 8, 12, 1] w) := by
  obtain ⟨vp, vc, vz, t0, t1, t2, t3, np, nc, nz, vs, ns, rfl, h1, h2, ⟨h3, h4, h5⟩, h6, h7⟩ := hv
  obtain ⟨Post, hPost⟩ : ∃ P : Ending → World → Prop, P = GPost gb lo0 B f L (fun _ g => lo ≤ g ∧ g < hi) [7, 8, 12, 1] w := ⟨_, rfl⟩
  rw [← hPost]
  have HPost : Hid (Post = GPost gb lo0 B f L (fun _ g => lo ≤ g ∧ g < hi) [7, 8, 12, 1] w) := hPost
  clear hPost
  have hlt := h.lt
  obtain ⟨⟨xs1, k1⟩, k2, k3⟩ := id h1
  obtain ⟨⟨xs2, k4⟩, k5, k6⟩ := id h2
  obtain ⟨a1, c1, e1⟩ := row_val k1
  obtain ⟨a2, c2, e2⟩ := row_val k4
  obtain ⟨a3, c3, e3⟩ := row_val h3
  have HA : Hid (∀ W, Up w W → Calls Tryz.prog 23 #[.pointer (some ⟨gb, 0, none⟩), vp] W (GPost gb lo0 B f L (fun j g => j = 7 ∧ vp.ownBlock = some g) [7] W)) := fun W u =>
    addPlayers_ gb B lo0 f L vp np W (h.up u) ⟨⟨xs1, own_low (row_up k1 u) hlo⟩, k2, fun g hg => ⟨by have := k3 g hg; omega, fun hb => by have := hout 7 g hb; have := h1.ge hg; have := k3 g hg; omega⟩⟩
  have HC : Hid (∀ W f1 (L1 : Nat → VL), Below gb w W → BagG W lo0 gb B f1 L1 → (∀ j g, Blks (L1 j) g → Blks (L j) g ∨ (j = 7 ∧ vp.ownBlock = some g)) → Calls Tryz.prog 24 #[.pointer (some ⟨gb, 0, none⟩), vc] W (GPost gb lo0 B f1 L1 (fun j g => j = 8 ∧ vc.ownBlock = some g) [8] W)) := fun W f1 L1 b hB hL =>
    addCards_ gb B lo0 f1 L1 vc nc W hB ⟨⟨xs2, own_low (own_block k4 fun g hg => b.block g (by have := k6 g hg; omega)) hlo⟩, k5, fun g hg => ⟨by have := k6 g hg; omega, fun hb => by
      rcases hL 8 g hb with hb | hb
      · have := hout 8 g hb; have := h2.ge hg; have := k6 g hg; omega
      · omega⟩⟩
  have HZ : Hid (∀ W f1 (L1 : Nat → VL), Below gb w W → BagG W lo0 gb B f1 L1 → (∀ j g, Blks (L1 j) g → Blks (L j) g ∨ (j = 7 ∧ vp.ownBlock = some g) ∨ (j = 8 ∧ vc.ownBlock = some g)) → Calls Tryz.prog 25 #[.pointer (some ⟨gb, 0, none⟩), vz] W (GPost gb lo0 B f1 L1 (fun j g => (j = 12 ∧ vz.ownBlock = some g) ∨ (j = 1 ∧ ∃ i, i < nz ∧ (vs.getD i (.slice none 0 0)).ownBlock = some g)) [12, 1] W)) := fun W f1 L1 b hB hL =>
    addRows_ gb B lo0 f1 L1 vz nz vs ns W hB (own_low (own_block h3 fun g hg => b.block g (by have := h5 g hg; omega)) hlo) h4 (fun g hg => ⟨by have := h5 g hg; omega, fun hb => by
      rcases hL 12 g hb with hb | hb | hb
      · have := hout 12 g hb; have := row_ge h3 hg; have := h5 g hg; omega
      · omega
      · omega⟩) (fun i hi => by
      obtain ⟨⟨xs, m1⟩, m2, m3⟩ := id (h6 i hi)
      refine ⟨⟨xs, own_low (own_block m1 fun g hg => b.block g (by have := m3 g hg; omega)) hlo⟩, m2, fun g hg => ⟨by have := m3 g hg; omega, fun hb => ?_⟩⟩
      rcases hL 1 g hb with hb | hb | hb
      · have := hout 1 g hb; have := (h6 i hi).ge hg; have := m3 g hg; omega
      · omega
      · omega) h7
  have HE : Hid (∀ W f1 (L1 : Nat → VL), Below gb w W → BagG W lo0 gb B f1 L1 → (∀ j g, Blks (L1 j) g → Blks (L j) g ∨ (j = 7 ∧ vp.ownBlock = some g) ∨ (j = 8 ∧ vc.ownBlock = some g) ∨ (j = 12 ∧ vz.ownBlock = some g) ∨ (j = 1 ∧ ∃ i, i < nz ∧ (vs.getD i (.slice none 0 0)).ownBlock = some g)) → (Oth gb f f1 w W ∧ ∀ j, j ∉ [7, 8, 12, 1] → L1 j = L j) → Post (.returned (.tuple #[])) W) := fun W f1 L1 b hB hL hO => by
    rw [HPost.out]
    refine ⟨rfl, f1, L1, hB, b, fun j g hg => ?_, hO⟩
    rcases hL j g hg with hb | ⟨-, hb⟩ | ⟨-, hb⟩ | ⟨-, hb⟩ | ⟨-, i, hi, hb⟩
    · exact .inl hb
    · exact .inr ⟨h1.ge hb, k3 g hb⟩
    · exact .inr ⟨h2.ge hb, k6 g hb⟩
    · exact .inr ⟨row_ge h3 hb, h5 g hb⟩
    · exact .inr ⟨(h6 i hi).ge hb, (h6 i hi).2.2 g hb⟩
  have hgw : gb ≤ w.heap.size := by omega
  have HX : Hid (∀ (X : Array Value) (T : Nat) (f1 : Nat → Value) (W : World), Oth gb f f1 (w.alloc (.cells X T)) W → W.heap[w.heap.size]? = some (.cells X T (0, 0)) ∧ ∀ k, k < 21 → (f1 k).ownBlock ≠ some w.heap.size) := fun X T f1 W o => by
    obtain ⟨o1, o2⟩ := o w.heap.size (by simp) (by omega) (fun k hk hg => by have := row_lt (h.kinds k hk).row hg; omega)
    exact ⟨o1.trans Array.getElem?_push_size, o2⟩
  have HO : Hid (∀ (X : Array Value) (T : Nat), Oth gb f f w (w.alloc (.cells X T))) := fun X T g g1 _ g3 => ⟨Below.heap_alloc _ _ _ g1, g3⟩
  rw [e1] at HA HC HZ HE ⊢
  rw [e2] at HC HZ HE ⊢
  rw [e3] at HZ HE ⊢
  clear h h1 h2 h3 h4 h5 h6 h7 k1 k2 k3 k4 k5 k6 e1 e2 e3 hout
  go_enter Tryz.func11, Tryz.ntmps11
  go_wp2_with fail
  refine Calls.mono (HA.out _ ((Up.refl _).alloc _)) ?_
  rintro e w1 ⟨rfl, f1, L1, d1, d2, d3, d4⟩
  have HD1 : Hid (BagG w1 lo0 gb B f1 L1) := d1
  have HD2 : Hid (Below gb w w1) := Below.trans ((Below.refl _ _).alloc hgw _) d2
  have HD3 : Hid _ := d3
  have HD4 : Hid (Oth gb f f1 w w1) := (HO.out _ _).trans d4.1 (by simp)
  have HE4 : Hid _ := d4.2
  obtain ⟨x1, x2⟩ := HX.out _ _ _ _ d4.1
  have HX1 : Hid _ := x1
  have HX2 : Hid _ := x2
  have y1 : w1.cell? ⟨w.heap.size, 1, none⟩ = some (.slice a2 nc c2) := by simp [World.cell?, x1]
  have HW1 : Hid (w.heap.size < w1.heap.size) := (Array.getElem?_eq_some_iff.1 x1).1
  clear d1 d2 d3 d4 x1 x2 HA HX HO
  go_wp2_with fail
  refine Calls.mono (HC.out _ f1 L1 HD2.out HD1.out HD3.out) ?_
  rintro e w2 ⟨rfl, f2, L2, d1, d2, d3, d4⟩
  have HB1 : Hid (BagG w2 lo0 gb B f2 L2) := d1
  have HB2 : Hid (Below gb w w2) := Below.trans HD2.out d2
  have HB3 : Hid (∀ j g, Blks (L2 j) g → Blks (L j) g ∨ (j = 7 ∧ (Value.slice a1 np c1).ownBlock = some g) ∨ (j = 8 ∧ (Value.slice a2 nc c2).ownBlock = some g)) := fun j g hg => by
    rcases d3 j g hg with h | h
    · exact (HD3.out j g h).imp id .inl
    · exact .inr (.inr h)
  have HB4 : Hid (Oth gb f f2 w w2 ∧ ∀ j, j ∉ [7, 8] → L2 j = L j) := ⟨HD4.out.trans d4.1 HD2.out.size, fun j hj => (d4.2 j (by simp at hj ⊢; omega)).trans (HE4.out j (by simp at hj ⊢; omega))⟩
  have x1 : w2.heap[w.heap.size]? = _ := (d4.1 w.heap.size HW1.out (by omega) HX2.out).1.trans HX1.out
  have y1 : w2.cell? ⟨w.heap.size, 2, none⟩ = some (.slice a3 nz c3) := by simp [World.cell?, x1]
  clear d1 d2 d3 d4 x1 HC HD1 HD2 HD3 HD4 HE4 HX1 HX2 HW1
  go_wp2_with fail
  refine Calls.mono (HZ.out _ f2 L2 HB2.out HB1.out HB3.out) ?_
  rintro e w3 ⟨rfl, f3, L3, d1, d2, d3, d4⟩
  have HF : Hid (Post (.returned (.tuple #[])) w3) := HE.out w3 f3 L3 (Below.trans HB2.out d2) d1 (fun j g hg => by
    rcases d3 j g hg with h | h
    · rcases HB3.out j g h with h | h | h
      · exact .inl h
      · exact .inr (.inl h)
      · exact .inr (.inr (.inl h))
    · exact .inr (.inr (.inr h))) ⟨HB4.out.1.trans d4.1 HB2.out.size, fun j hj => (d4.2 j (by simp at hj ⊢; omega)).trans (HB4.out.2 j (by simp at hj ⊢; omega))⟩
  clear d1 d2 d3 d4 HZ HE HB1 HB2 HB3 HB4
  go_wp2
  first | exact HF.out | (go_end0; exact HF.out)
end Go.Proofs.YtmpamcdobhiipaaGreatDoor.BG
/-
  States of the program's own, as the bag takes them.
-/
namespace Go.Proofs.YtmpamcdobhiipaaGreatDoor
open Go.RowKit
namespace ST

theorem SOA.stIn {base : Nat} {W : World} {v : Value} {s : Stt} (h : SOA base W v s) (hsm : Small s) : BG.StIn W base W.heap.size v := by
  obtain ⟨vp, vc, vz, rfl, h1, h2, vs, h3, h4, h5⟩ := h
  exact ⟨vp, vc, vz, _, _, _, _, s.ps.length, s.cs.length, s.zs.length, vs, fun i => (s.zs.getD i []).length, rfl, ⟨⟨_, h1⟩, hsm.1, fun g hg => BG.row_lt h1 hg⟩, ⟨⟨_, h2⟩, hsm.2.1, fun g hg => BG.row_lt h2 hg⟩, ⟨h3, hsm.2.2.1, fun g hg => BG.row_lt h3 hg⟩, fun i hi => ⟨⟨_, h4 i hi⟩, hsm.2.2.2 i hi, fun g hg => BG.row_lt (h4 i hi) hg⟩, h5⟩
theorem own_wide {W : World} {base g e s n : Nat} {xs : List Value} (hb : base ≤ g) (h : W.heap[g]? = some (.cells xs.toArray e (0, 0))) (hl : xs.length = (n + 64) * s) (hn : n ≤ 4294967296) : W.ownsRow base e s (.slice (some ⟨g, 0, none⟩) n (n + 64)) n (xs.take (n * s)) :=
  ⟨by rw [List.length_take, hl]; exact Nat.min_eq_left (Nat.mul_le_mul_right _ (by omega)), .inr ⟨g, n + 64, xs.toArray, rfl, hb, h, by omega, by unfold maxLen; omega, by simpa using hl, rfl⟩⟩
theorem WSA.stIn {base : Nat} {W : World} {v : Value} {s : Stt} (h : WSA base W v s) (hsm : Small s) : BG.StIn W base W.heap.size v := by
  obtain ⟨vp, vc, vz, rfl, ⟨g1, p1, rfl, p3⟩, ⟨g2, c1, rfl, c3⟩, g3, vs, z1, rfl, z3, z4, z5, z6⟩ := h
  have o1 := own_wide (s := 3) (n := s.ps.length) p1 p3 (wPs_len _) hsm.1
  have o2 := own_wide (s := 6) (n := s.cs.length) c1 c3 (wCs_len _) hsm.2.1
  have o3 := own_wide (s := 1) (n := s.zs.length) z1 z3 (by omega) hsm.2.2.1
  have o4 : ∀ i, i < s.zs.length → ∃ xs, W.ownsRow base 3 1 ((vs.take (s.zs.length * 1)).getD i (.slice none 0 0)) ((s.zs.getD i []).length) xs := fun i hi => by
    have h := z5 i (by omega)
    rw [WRow, if_pos hi] at h
    obtain ⟨g, q1, q2, q3⟩ := h
    have := own_wide (s := 1) (n := (s.zs.getD i []).length) q1 q3 (by rw [wIs_len]; omega) (hsm.2.2.2 i hi)
    rw [← q2] at this
    have e : (vs.take (s.zs.length * 1)).getD i (.slice none 0 0) = vs.getD i nl := by rw [List.getD_eq_getElem?_getD, List.getElem?_take_of_lt (by omega), ← List.getD_eq_getElem?_getD]; rfl
    exact ⟨_, by rw [e]; exact this⟩
  refine ⟨_, _, _, _, _, _, _, s.ps.length, s.cs.length, s.zs.length, vs.take (s.zs.length * 1), fun i => (s.zs.getD i []).length, rfl, ⟨⟨_, o1⟩, hsm.1, fun g hg => BG.row_lt o1 hg⟩, ⟨⟨_, o2⟩, hsm.2.1, fun g hg => BG.row_lt o2 hg⟩, ⟨o3, hsm.2.2.1, fun g hg => BG.row_lt o3 hg⟩, fun i hi => ⟨o4 i hi, hsm.2.2.2 i hi, fun g hg => (o4 i hi).elim fun _ hx => BG.row_lt hx hg⟩, fun p q g hp hq => ?_⟩
  have e : ∀ i, i < s.zs.length → (vs.take (s.zs.length * 1)).getD i (.slice none 0 0) = vs.getD i nl := fun i hi => by
    rw [List.getD_eq_getElem?_getD, List.getElem?_take_of_lt (by omega), ← List.getD_eq_getElem?_getD]; rfl
  rw [e p hp, e q hq]
  exact z6 p q g hp hq
end ST
end Go.Proofs.YtmpamcdobhiipaaGreatDoor
