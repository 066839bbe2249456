/- Bb, Bad, Bas, Cb, Bn, Bw -/
import Derived.Test.YtodhjjeagmjhdaaGreatDoorBkiVM
import Derived.Test.YtodhjjeagmjhdaaGreatDoorWsTvEvM
namespace Go.Proofs.YtodhjjeagmjhdaaGreatDoor.BG
open Go.RowKit
def bagA (f : Nat -> Value) : Array Value := #[f 0, f 1, f 2, f 3, f 4, f 5, f 6, f 7, f 8, f 9, f 10, f 11, f 12, f 13, f 14, f 15, f 16, f 17, f 18, f 19, f 20]
def upd {A : Type} (f : Nat -> A) (k : Nat) (v : A) : Nat -> A := fun i => if i = k then v else f i
theorem upd_self {A : Type} (f : Nat -> A) (k : Nat) (v : A) : upd f k v k = v := by simp [upd]
theorem upd_ne {A : Type} (f : Nat -> A) (k : Nat) (v : A) {j : Nat} (h : j ≠ k) : upd f k v j = f j := by simp [upd, h]
def eT (k : Nat) : Nat := [5, 3, 2, 133, 135, 25, 9, 97, 95, 141, 144, 147, 28, 136, 30, 150, 153, 156, 159, 162, 27].getD k 0
def rT (k : Nat) : Nat := [130, 28, 131, 132, 134, 136, 137, 22, 23, 139, 142, 145, 24, 47, 32, 148, 151, 154, 157, 160, 163].getD k 0
def sT (k : Nat) : Nat := [1, 1, 1, 1, 1, 1, 1, 3, 6, 4, 7, 5, 1, 1, 12, 3, 4, 6, 4, 6, 7].getD k 0
abbrev tBag : Nat := 64
theorem eT_inj : ∀ j, j < 21 -> ∀ k, k < 21 -> j ≠ k -> eT j ≠ eT k := by decide
theorem rT_inj : ∀ j, j < 21 -> ∀ k, k < 21 -> j ≠ k -> rT j ≠ rT k := by decide
theorem bagA_set (f : Nat -> Value) (k : Nat) (hk : k < 21) (v : Value) : (bagA f).setIfInBounds k v = bagA (upd f k v) := by
 rcases (by omega : k = 0 ∨ k = 1 ∨ k = 2 ∨ k = 3 ∨ k = 4 ∨ k = 5 ∨ k = 6 ∨ k = 7 ∨ k = 8 ∨ k = 9 ∨ k = 10 ∨ k = 11 ∨ k = 12 ∨ k = 13 ∨ k = 14 ∨ k = 15 ∨ k = 16 ∨ k = 17 ∨ k = 18 ∨ k = 19 ∨ k = 20) with rfl | rfl | rfl | rfl | rfl | rfl | rfl | rfl | rfl | rfl | rfl | rfl | rfl | rfl | rfl | rfl | rfl | rfl | rfl | rfl | rfl <;> rfl
theorem bag_cell {W : World} {gb : Nat} {f : Nat -> Value} (h : W.heap[gb]? = some (.cells (bagA f) tBag (0, 0))) (k : Nat) (hk : k < 21) : W.cell? ⟨gb, k, none⟩ = some (f k) := by
 rcases (by omega : k = 0 ∨ k = 1 ∨ k = 2 ∨ k = 3 ∨ k = 4 ∨ k = 5 ∨ k = 6 ∨ k = 7 ∨ k = 8 ∨ k = 9 ∨ k = 10 ∨ k = 11 ∨ k = 12 ∨ k = 13 ∨ k = 14 ∨ k = 15 ∨ k = 16 ∨ k = 17 ∨ k = 18 ∨ k = 19 ∨ k = 20) with rfl | rfl | rfl | rfl | rfl | rfl | rfl | rfl | rfl | rfl | rfl | rfl | rfl | rfl | rfl | rfl | rfl | rfl | rfl | rfl | rfl <;> simp [World.cell?, h, bagA]
def Two (b : Nat) (v : Value) (w w' : World) : Prop := (w'.os = w.os /\ w'.tape = w.tape /\ w'.output = w.output) /\ w.heap.size <= w'.heap.size /\ ∀ g, g < w.heap.size -> g ≠ b -> v.ownBlock ≠ some g -> w'.heap[g]? = w.heap[g]?
structure Kn (W : World) (lo gb B e t1 s : Nat) (v : Value) (L : VL) : Prop where
 row : W.ownsRow B t1 1 v L.length (L.map (·.1))
 len : L.length <= 400
 each : ∀ p, p < L.length -> (∃ xs, W.ownsRow lo e s (L.getD p dv).1 (L.getD p dv).2 xs) /\ (L.getD p dv).2 <= 4294967296
 below : ∀ g, Blks L g -> g < gb
 apart : Apart L
theorem Kn.nil (W : World) (lo gb B e t1 s : Nat) : Kn W lo gb B e t1 s (.slice none 0 0) [] :=
 ⟨World.ownsRow_nil _ _ _ _, Nat.zero_le _, fun _ hp => absurd hp (Nat.not_lt_zero _), fun _ ⟨_, hp, _⟩ => absurd hp (Nat.not_lt_zero _), fun _ _ _ hp => absurd hp (Nat.not_lt_zero _)⟩
theorem Kn.keep {W W' : World} {lo gb B e t1 s : Nat} {v : Value} {L : VL} (h : Kn W lo gb B e t1 s v L) (k1 : ∀ g, v.ownBlock = some g -> W'.heap[g]? = W.heap[g]?) (k2 : ∀ g, Blks L g -> W'.heap[g]? = W.heap[g]?) : Kn W' lo gb B e t1 s v L :=
 ⟨own_block h.row k1, h.len, fun p hp => ⟨(h.each p hp).1.elim fun xs hx => ⟨xs, own_block hx fun g hg => k2 g ⟨p, hp, hg⟩⟩, (h.each p hp).2⟩, h.below, h.apart⟩
structure BagG (W : World) (lo gb B : Nat) (f : Nat -> Value) (L : Nat -> VL) : Prop where
 blk : W.heap[gb]? = some (.cells (bagA f) tBag (0, 0))
 lt : gb < B /\ B <= W.heap.size
 kinds : ∀ k, k < 21 -> Kn W lo gb B (eT k) (rT k) (sT k) (f k) (L k)
theorem bagG_start (W : World) (lo : Nat) : BagG (W.alloc (.cells (bagA fun _ => .slice none 0 0) tBag)) lo W.heap.size (W.heap.size + 1) (fun _ => .slice none 0 0) (fun _ => []) :=
 ⟨Array.getElem?_push_size, ⟨Nat.lt_succ_self _, by simp⟩, fun k _ => Kn.nil _ _ _ _ _ _ _⟩
theorem row_ge {W : World} {B e s n : Nat} {v : Value} {xs : List Value} (h : W.ownsRow B e s v n xs) {g : Nat} (hg : v.ownBlock = some g) : B <= g := by
 rcases h.2 with ⟨rfl, -⟩ | ⟨g', cap, cur, rfl, hb, _⟩
 ·cases hg
 ·have : g' = g := by simpa [Value.ownBlock] using hg
  omega
theorem row_lt {W : World} {B e s n : Nat} {v : Value} {xs : List Value} (h : W.ownsRow B e s v n xs) {g : Nat} (hg : v.ownBlock = some g) : g < W.heap.size := by
 obtain ⟨cur, hc⟩ := own_ty h hg
 exact (Array.getElem?_eq_some_iff.1 hc).1
theorem BagG.up {W W' : World} {lo gb B : Nat} {f : Nat -> Value} {L : Nat -> VL} (h : BagG W lo gb B f L) (u : Up W W') : BagG W' lo gb B f L :=
 ⟨u.heap h.blk, ⟨h.lt.1, Nat.le_trans h.lt.2 u.size⟩, fun k hk => (h.kinds k hk).keep (fun g hg => u.block g (row_lt (h.kinds k hk).row hg)) (fun g hg => u.block g (by have := (h.kinds k hk).below g hg; have := h.lt; omega))⟩
def APost (gb B k t1 : Nat) (f : Nat -> Value) (L : VL) (x : Value × Nat) (w : World) (e : Ending) (w' : World) : Prop :=
 e = .returned (.tuple #[]) /\ ∃ v' L', w'.heap[gb]? = some (.cells (bagA (upd f k v')) tBag (0, 0)) /\ w'.ownsRow B t1 1 v' L'.length (L'.map (·.1)) /\ (L' = L ∨ (L' = L ++ [x] /\ L.length < 400)) /\ Two gb (f k) w w' /\ ∀ g, v'.ownBlock = some g -> (f k).ownBlock = some g ∨ w.heap.size <= g
def Oth (gb : Nat) (f f' : Nat -> Value) (W W' : World) : Prop := ∀ g, g < W.heap.size -> g ≠ gb -> (∀ k, k < 21 -> (f k).ownBlock ≠ some g) -> W'.heap[g]? = W.heap[g]? /\ ∀ k, k < 21 -> (f' k).ownBlock ≠ some g
theorem Oth.refl (gb : Nat) (f : Nat -> Value) (W : World) : Oth gb f f W W := fun _ _ _ h => ⟨rfl, h⟩
theorem Oth.trans {gb : Nat} {f f' f2 : Nat -> Value} {W W' W2 : World} (h : Oth gb f f' W W') (k : Oth gb f' f2 W' W2) (hs : W.heap.size <= W'.heap.size) : Oth gb f f2 W W2 := fun g h1 h2 h3 => by
 obtain ⟨a, b⟩ := h g h1 h2 h3
 obtain ⟨c, d⟩ := k g (by omega) h2 b
 exact ⟨c.trans a, d⟩
def GPost (gb lo B : Nat) (f : Nat -> Value) (L : Nat -> VL) (S : Nat -> Nat -> Prop) (ks : List Nat) (W : World) (e : Ending) (W' : World) : Prop :=
 e = .returned (.tuple #[]) /\ ∃ f' L', BagG W' lo gb B f' L' /\ Below gb W W' /\ (∀ j g, Blks (L' j) g -> Blks (L j) g ∨ S j g) /\ Oth gb f f' W W' /\ ∀ j, j ∉ ks -> L' j = L j
def RowIn (W : World) (lo hi e s : Nat) (v : Value) (n : Nat) : Prop := (∃ xs, W.ownsRow lo e s v n xs) /\ n <= 4294967296 /\ ∀ g, v.ownBlock = some g -> g < hi
theorem own_low {W : World} {b b' e s n : Nat} {v : Value} {xs : List Value} (h : W.ownsRow b e s v n xs) (hb : b' <= b) : W.ownsRow b' e s v n xs := by
 refine ⟨h.1, ?_⟩
 rcases h.2 with h | ⟨g, cap, cur, e1, e2, e3⟩
 ·exact .inl h
 ·exact .inr ⟨g, cap, cur, e1, Nat.le_trans hb e2, e3⟩
theorem RowIn.below {W W' : World} {lo hi e s gb : Nat} {v : Value} {n : Nat} (h : RowIn W lo hi e s v n) (b : Below gb W W') (hh : hi <= gb) : RowIn W' lo hi e s v n :=
 ⟨h.1.elim fun xs hx => ⟨xs, own_block hx fun g hg => b.block g (by have := h.2.2 g hg; omega)⟩, h.2⟩
theorem getD_one {L : VL} {x : Value × Nat} (p : Nat) : (L ++ [x]).getD p dv = if p = L.length then x else L.getD p dv := by
 by_cases h : p = L.length
 ·subst h; simp [List.getD]
 ·rw [if_neg h]
  by_cases h2 : p < L.length
  ·simp [List.getD, List.getElem?_append_left h2]
  ·simp [List.getD, List.getElem?_eq_none (show L.length <= p by omega), List.getElem?_eq_none (show (L ++ [x]).length <= p by simp; omega)]
theorem blks_one {L : VL} {x : Value × Nat} {g : Nat} (h : Blks (L ++ [x]) g) : Blks L g ∨ x.1.ownBlock = some g := by
 obtain ⟨p, hp, hg⟩ := h
 rw [getD_one] at hg
 have hp : p < L.length + 1 := by simpa using hp
 by_cases e : p = L.length
 ·rw [if_pos e] at hg; exact .inr hg
 ·rw [if_neg e] at hg; exact .inl ⟨p, by omega, hg⟩
theorem add_fin {W W' : World} {lo gb B k : Nat} {f : Nat -> Value} {L : Nat -> VL} {x : Value × Nat} {e : Ending} (h : BagG W lo gb B f L) (hk : k < 21) (hx : (∃ xs, W.ownsRow lo (eT k) (sT k) x.1 x.2 xs) /\ x.2 <= 4294967296 /\ ∀ g, x.1.ownBlock = some g -> g < gb /\ ¬ Blks (L k) g)
  (hp : APost gb B k (rT k) f (L k) x W e W') : GPost gb lo B f L (fun j g => j = k /\ x.1.ownBlock = some g) [k] W e W' := by
 obtain ⟨he, v', L', p1, p2, p3, p4, p6⟩ := hp
 have hK := h.kinds k hk
 have bel : Below gb W W' := ⟨p4.1.1, p4.1.2.1, p4.1.2.2, p4.2.1, fun g hg => p4.2.2 g (by have := h.lt; omega) (by omega) (fun e2 => by have := row_ge hK.row e2; have := h.lt; omega)⟩
 refine ⟨he, upd f k v', upd L k L', ⟨p1, ⟨h.lt.1, Nat.le_trans h.lt.2 p4.2.1⟩, fun j hj => ?_⟩, bel, fun j g hg => ?_, fun g g1 g2 g3 => ⟨p4.2.2 g g1 g2 (g3 k hk), fun j hj hg => ?_⟩, fun j hj => upd_ne _ _ _ (by simpa using hj)⟩
 ·by_cases e1 : j = k
  ·subst e1
   rw [upd_self, upd_self]
   rcases p3 with p3 | ⟨p3, p5⟩
   ·subst p3
    exact ⟨p2, hK.len, fun p hp => ⟨(hK.each p hp).1.elim fun xs hx => ⟨xs, own_block hx fun g hg => bel.block g (hK.below g ⟨p, hp, hg⟩)⟩, (hK.each p hp).2⟩, hK.below, hK.apart⟩
   ·subst p3
    refine ⟨p2, by simp; omega, fun p hp => ?_, fun g hg => ?_, fun p q g hp hq hpq => ?_⟩
    ·rw [getD_one]
     have hp : p < (L j).length + 1 := by simpa using hp
     by_cases e2 : p = (L j).length
     ·rw [if_pos e2]
      exact ⟨hx.1.elim fun xs hxx => ⟨xs, own_block hxx fun g hg => bel.block g (hx.2.2 g hg).1⟩, hx.2.1⟩
     ·rw [if_neg e2]
      exact ⟨(hK.each p (by omega)).1.elim fun xs hx => ⟨xs, own_block hx fun g hg => bel.block g (hK.below g ⟨p, by omega, hg⟩)⟩, (hK.each p (by omega)).2⟩
    ·rcases blks_one hg with hg | hg
     ·exact hK.below g hg
     ·exact (hx.2.2 g hg).1
    ·rw [getD_one, getD_one]
     have hp : p < (L j).length + 1 := by simpa using hp
     have hq : q < (L j).length + 1 := by simpa using hq
     by_cases e2 : p = (L j).length
     ·rw [if_pos e2, if_neg (by omega)]
      intro k1 k2
      exact (hx.2.2 g k1).2 ⟨q, by omega, k2⟩
     ·rw [if_neg e2]
      by_cases e3 : q = (L j).length
      ·rw [if_pos e3]
       intro k1 k2
       exact (hx.2.2 g k2).2 ⟨p, by omega, k1⟩
      ·rw [if_neg e3]
       exact hK.apart p q g (by omega) (by omega) hpq
  ·rw [upd_ne _ _ _ e1, upd_ne _ _ _ e1]
   have hJ := h.kinds j hj
   refine hJ.keep (fun g hg => p4.2.2 g (row_lt hJ.row hg) (fun e2 => ?_) (fun e2 => ?_)) (fun g hg => bel.block g (hJ.below g hg))
   ·have := row_ge hJ.row hg; have := h.lt; omega
   ·obtain ⟨cur, hc⟩ := own_ty hJ.row hg
    exact ty_apart hK.row hc (rT_inj k hk j hj (fun e3 => e1 e3.symm)) e2
 ·by_cases e1 : j = k
  ·subst e1
   rw [upd_self] at hg
   rcases p3 with p3 | ⟨p3, p5⟩
   ·subst p3; exact .inl hg
   ·subst p3
    rcases blks_one hg with hg | hg
    ·exact .inl hg
    ·exact .inr ⟨rfl, hg⟩
  ·rw [upd_ne _ _ _ e1] at hg
   exact .inl hg
 ·by_cases e1 : j = k
  ·subst e1
   rw [upd_self] at hg
   rcases p6 g hg with h9 | h9
   ·exact g3 j hk h9
   ·omega
  ·rw [upd_ne _ _ _ e1] at hg
   exact g3 j hj hg
end Go.Proofs.YtodhjjeagmjhdaaGreatDoor.BG
namespace Go.Proofs.YtodhjjeagmjhdaaGreatDoor.BG
open Go.RowKit
attribute [local go_sem ↓] Go.wp_at_zero Go.wp_at_succ
theorem newCell1 (W : World) (x : Value) (t : Nat) : ∀ j u, [x][j]? = some u -> (W.alloc (.cells #[x] t)).cell? ((⟨W.heap.size, 0, none⟩ : Addr).add j) = some u := newCell W x t
theorem bag_frozen {W : World} {gb : Nat} {c : Array Value} {t : Nat} (h : W.heap[gb]? = some (.cells c t (0, 0))) (k : Nat) : W.frozen? ⟨gb, k, none⟩ = false := seven_f h k
theorem upd_same {A : Type} (f : Nat -> A) (k : Nat) : upd f k (f k) = f := by
 funext i
 by_cases h : i = k
 ·subst h; simp [upd]
 ·simp [upd, h]
theorem apost_of {w W1 : World} {gb B k t1 : Nat} {f : Nat -> Value} {L : VL} {x v' : Value} {m : Nat} {o : Obj} (hk : k < 21) (hb : w.heap[gb]? = some (.cells (bagA f) tBag (0, 0))) (hr : w.ownsRow B t1 1 (f k) L.length (L.map (·.1))) (hbb : gb < B) (hbs : B <= w.heap.size) (hl : L.length < 400)
  (hown : W1.ownsRow B t1 1 v' (L.length + 1) (L.map (·.1) ++ [x])) (hg : (w.alloc o).grownBy W1 (f k).ownBlock) (hln : LiesNew (f k) v' (w.alloc o)) : APost gb B k t1 f L (x, m) w (.returned (.tuple #[])) (W1.setCell ⟨gb, k, none⟩ v') := by
 have hgl : gb < w.heap.size := by omega
 have h1 : W1.heap[gb]? = some (.cells (bagA f) tBag (0, 0)) := by
  rw [hg.block gb (by simp; omega) (fun e => by have := row_ge hr e.symm; omega), Below.heap_alloc _ _ _ hgl]
  exact hb
 refine ⟨rfl, v', L ++ [(x, m)], ?_, ?_, .inr ⟨rfl, hl⟩, ⟨⟨hg.os, hg.tape, hg.output⟩, by have := hg.size; simp at this ⊢; omega, fun g hg1 hg2 hg3 => ?_⟩, fun g hg => ?_⟩
 ·rw [set_cells h1, bagA_set f k hk]
 ·rw [List.length_append, List.map_append]
  have := hown
  refine own_block (W' := W1.setCell ⟨gb, k, none⟩ v') this fun g hg => ?_
  exact Below.heap_setCell _ _ _ _ (by show g ≠ gb; have := row_ge hown hg; omega)
 ·rw [Below.heap_setCell _ _ _ _ hg2, hg.block g (by simp; omega) (fun e => hg3 e.symm), Below.heap_alloc _ _ _ hg1]
 ·rcases hln with h9 | ⟨g9, h9, h8⟩
  ·exact .inl (by rw [<- h9]; exact hg)
  ·rw [h9] at hg
   have e9 : g9 = g := by simpa using hg
   subst e9
   exact .inr (by simp at h8; omega)
theorem infoAInts : (Tryz.prog.info? 28).map (fun i => (i.zero, i.size, i.bytes)) = some (some (.slice none 0 0), 1, 24) := by kernel_rfl
set_option maxRecDepth 100000 in
set_option maxHeartbeats 1000000 in
theorem addInts0 (gb B : Nat) (f : Nat -> Value) (L : VL) (ad : Option Addr) (m c : Nat) (w : World) (hb : w.heap[gb]? = some (.cells (bagA f) tBag (0, 0))) (hr : w.ownsRow B 28 1 (f 1) L.length (L.map (·.1))) (hbb : gb < B) (hbs : B <= w.heap.size) (hL : L.length <= 400) :
  Calls Tryz.prog 107 #[.pointer (some ⟨gb, 0, none⟩), .slice ad m c] w (APost gb B 1 28 f L (.slice ad m c, m) w) := by
 obtain ⟨iI, hiI, z0, z1, z2⟩ := info_parts infoAInts
 obtain ⟨Post, hPost⟩ : ∃ P : Ending -> World -> Prop, P = APost gb B 1 28 f L (.slice ad m c, m) w := ⟨_, rfl⟩
 rw [<- hPost]
 have HPost : Hid (Post = APost gb B 1 28 f L (.slice ad m c, m) w) := hPost
 clear hPost
 obtain ⟨va, vcap, hv⟩ := row_val hr
 have c1 := bag_cell hb 1 (by decide)
 rw [hv] at c1
 have f1 := bag_frozen hb 1
 by_cases hl : L.length < 400
 ·have hlt : (L.length : Int) < 400 := by omega
  have hrA : (w.alloc (.cells #[.slice ad m c] 28)).ownsRow B 28 1 (f 1) L.length (L.map (·.1)) := row_up hr ((Up.refl _).alloc _)
  rw [hv] at hrA
  have HF : Hid (∀ v' W1, W1.ownsRow B 28 1 v' (L.length + 1) (L.map (·.1) ++ [.slice ad m c]) -> (w.alloc (.cells #[.slice ad m c] 28)).grownBy W1 (Value.slice va L.length vcap).ownBlock -> LiesNew (.slice va L.length vcap) v' (w.alloc (.cells #[.slice ad m c] 28)) -> Post (.returned (.tuple #[])) (W1.setCell ⟨gb, 1, none⟩ v') /\ W1.cell? ⟨gb, 1, none⟩ = some (.slice va L.length vcap) /\ W1.frozen? ⟨gb, 1, none⟩ = false) := fun v' W1 h1 h2 h8 => by
   rw [HPost.out]
   have hgl : gb < w.heap.size := by omega
   have h3 : W1.heap[gb]? = some (.cells (bagA f) tBag (0, 0)) := by
    rw [h2.block gb (by simp; omega) (fun e => by rw [<- hv] at e; have := row_ge hr e.symm; omega), Below.heap_alloc _ _ _ hgl]
    exact hb
   exact ⟨apost_of (by decide) hb hr hbb hbs hl h1 (by rw [hv]; exact h2) (by rw [hv]; exact h8), by rw [<- hv]; exact bag_cell h3 1 (by decide), bag_frozen h3 1⟩
  have HNw : Hid _ := newCell1 w (.slice ad m c) 28
  have HA : Hid _ := hrA
  clear hb hr hrA hv
  go_enter Tryz.func107, Tryz.ntmps107
  go_wp2_with (at_builtin; go_loud (refine wpList_append_apart _ (by rfl) (.tmp 14) (.tmp 16) 24 (by rfl) B 28 iI (.slice none 0 0) 1 24 Tryz.underlying24 hiI z0 z1 z2 (by rfl) (by decide) (.slice va L.length vcap) L.length (L.map fun y : Value × Nat => y.1) (by rfl) HA.out ⟨w.heap.size, 0, none⟩ 1 [.slice ad m c] (by rfl) (by rfl) HNw.out (oneSl _ _ _) (by unfold maxLen; omega) (by omega) (by simp; omega) ?_; intro v' W1 a1 a2 a3 a4 a5; obtain ⟨hF, d1, e1⟩ := HF.out v' W1 a1 a2 a4; have HF2 : Hid _ := hF; obtain ⟨xa, xk, hx⟩ := row_val a1; subst hx; clear a1 a2 a3 a4 a5 hF))
  first | exact HF2.out | (go_end0; exact HF2.out)
 ·have hlt : ¬ (L.length : Int) < 400 := by omega
  have HF : Hid (Post (.returned (.tuple #[])) w) := by
   unfold Hid
   rw [HPost.out]
   exact ⟨rfl, f 1, L, by rw [upd_same]; exact hb, hr, .inl rfl, ⟨⟨rfl, rfl, rfl⟩, Nat.le_refl _, fun _ _ _ _ => rfl⟩, fun _ h => .inl h⟩
  clear hb hr hv
  go_enter Tryz.func107, Tryz.ntmps107
  go_wp2
  first | exact HF.out | (go_end0; exact HF.out)
theorem addInts_ (gb B lo : Nat) (f : Nat -> Value) (L : Nat -> VL) (v : Value) (m : Nat) (w : World) (h : BagG w lo gb B f L) (hx : (∃ xs, w.ownsRow lo 3 (sT 1) v m xs) /\ m <= 4294967296 /\ ∀ g, v.ownBlock = some g -> g < gb /\ ¬ Blks (L 1) g) :
  Calls Tryz.prog 107 #[.pointer (some ⟨gb, 0, none⟩), v] w (GPost gb lo B f L (fun j g => j = 1 /\ v.ownBlock = some g) [1] w) := by
 obtain ⟨xs, hxs⟩ := hx.1
 obtain ⟨ad, c, rfl⟩ := row_val hxs
 exact (addInts0 gb B f (L 1) ad m c w h.blk (h.kinds 1 (by decide)).row h.lt.1 h.lt.2 (h.kinds 1 (by decide)).len).mono fun e w' hp => add_fin (x := (.slice ad m c, m)) h (by decide) hx hp
def RA (n : Nat) (vs : List Value) : Prop := ∀ p q g, p < n -> q < n -> p ≠ q -> (vs.getD p (.slice none 0 0)).ownBlock = some g -> (vs.getD q (.slice none 0 0)).ownBlock ≠ some g
end Go.Proofs.YtodhjjeagmjhdaaGreatDoor.BG
namespace Go.Proofs.YtodhjjeagmjhdaaGreatDoor.BG
open Go.RowKit
attribute [local go_sem ↓] Go.wp_at_zero Go.wp_at_succ
def StIn (W : World) (lo hi : Nat) (v : Value) : Prop := ∃ (vp vc vz t0 t1 t2 t3 : Value) (np nc nz : Nat) (vs : List Value) (ns : Nat -> Nat), v = .agg #[vp, vc, vz, t0, t1, t2, t3] /\ RowIn W lo hi 97 3 vp np /\ RowIn W lo hi 95 6 vc nc /\
 (W.ownsRow lo 28 1 vz nz vs /\ nz <= 4294967296 /\ ∀ g, vz.ownBlock = some g -> g < hi) /\ (∀ i, i < nz -> RowIn W lo hi 3 1 (vs.getD i (.slice none 0 0)) (ns i)) /\ RA nz vs
theorem StIn.below {W W' : World} {lo hi gb : Nat} {v : Value} (h : StIn W lo hi v) (b : Below gb W W') (hh : hi <= gb) : StIn W' lo hi v := by
 obtain ⟨vp, vc, vz, t0, t1, t2, t3, np, nc, nz, vs, ns, hv, h1, h2, ⟨h3, h4, h5⟩, h6, h7⟩ := h
 exact ⟨vp, vc, vz, t0, t1, t2, t3, np, nc, nz, vs, ns, hv, h1.below b hh, h2.below b hh, ⟨own_block h3 fun g hg => b.block g (by have := h5 g hg; omega), h4, h5⟩, fun i hi => (h6 i hi).below b hh, h7⟩
theorem RowIn.ge {W : World} {lo hi e s : Nat} {v : Value} {n : Nat} (h : RowIn W lo hi e s v n) {g : Nat} (hg : v.ownBlock = some g) : lo <= g := h.1.elim fun _ hx => row_ge hx hg
theorem GPost.mono {gb lo B : Nat} {f : Nat -> Value} {L : Nat -> VL} {S S' : Nat -> Nat -> Prop} {ks : List Nat} {W W' : World} {e : Ending} (h : GPost gb lo B f L S ks W e W') (k : ∀ j g, S j g -> S' j g) : GPost gb lo B f L S' ks W e W' := by
 obtain ⟨he, f', L', h1, h2, h3, h4⟩ := h
 exact ⟨he, f', L', h1, h2, fun j g hg => (h3 j g hg).imp id (k j g), h4⟩
end Go.Proofs.YtodhjjeagmjhdaaGreatDoor.BG
namespace Go.Proofs.YtodhjjeagmjhdaaGreatDoor
open Go.RowKit
namespace ST
end ST
end Go.Proofs.YtodhjjeagmjhdaaGreatDoor
namespace Go.Proofs.YtodhjjeagmjhdaaGreatDoor.BG
open Go.RowKit
attribute [local go_sem ↓] Go.wp_at_zero Go.wp_at_succ
set_option maxRecDepth 100000 in
set_option maxHeartbeats 1000000 in
theorem noneBytes (b : Nat) (a : Option Addr) (m : Nat) (w : World) (c : w.cell? ⟨b, 0, none⟩ = some (.slice a 0 m)) : Calls Tryz.prog 53 #[.pointer (some ⟨b, 0, none⟩)] w fun e w' => e = .returned (.bool true) /\ w' = w := by
 go_enter Tryz.func53, Tryz.ntmps53
 go_wp2_with fail
 go_rounds 1
 go_rounds 1
 go_rounds 1
 go_ret
 exact ⟨rfl, rfl⟩
set_option maxRecDepth 100000 in
set_option maxHeartbeats 1000000 in
theorem noneLongs (b : Nat) (a : Option Addr) (m : Nat) (w : World) (c : w.cell? ⟨b, 2, none⟩ = some (.slice a 0 m)) : Calls Tryz.prog 55 #[.pointer (some ⟨b, 0, none⟩)] w fun e w' => e = .returned (.bool true) /\ w' = w := by
 go_enter Tryz.func55, Tryz.ntmps55
 go_wp2_with fail
 go_rounds 1
 go_rounds 1
 go_rounds 1
 go_ret
 exact ⟨rfl, rfl⟩
set_option maxRecDepth 100000 in
set_option maxHeartbeats 1000000 in
theorem noneWords (b : Nat) (a : Option Addr) (m : Nat) (w : World) (c : w.cell? ⟨b, 3, none⟩ = some (.slice a 0 m)) : Calls Tryz.prog 56 #[.pointer (some ⟨b, 0, none⟩)] w fun e w' => e = .returned (.bool true) /\ w' = w := by
 go_enter Tryz.func56, Tryz.ntmps56
 go_wp2_with fail
 go_rounds 1
 go_rounds 1
 go_rounds 1
 go_ret
 exact ⟨rfl, rfl⟩
set_option maxRecDepth 100000 in
set_option maxHeartbeats 1000000 in
theorem noneFloats (b : Nat) (a : Option Addr) (m : Nat) (w : World) (c : w.cell? ⟨b, 4, none⟩ = some (.slice a 0 m)) : Calls Tryz.prog 57 #[.pointer (some ⟨b, 0, none⟩)] w fun e w' => e = .returned (.bool true) /\ w' = w := by
 go_enter Tryz.func57, Tryz.ntmps57
 go_wp2_with fail
 go_rounds 1
 go_rounds 1
 go_rounds 1
 go_ret
 exact ⟨rfl, rfl⟩
set_option maxRecDepth 100000 in
set_option maxHeartbeats 1000000 in
theorem noneSmalls (b : Nat) (a : Option Addr) (m : Nat) (w : World) (c : w.cell? ⟨b, 5, none⟩ = some (.slice a 0 m)) : Calls Tryz.prog 58 #[.pointer (some ⟨b, 0, none⟩)] w fun e w' => e = .returned (.bool true) /\ w' = w := by
 go_enter Tryz.func58, Tryz.ntmps58
 go_wp2_with fail
 go_rounds 1
 go_rounds 1
 go_rounds 1
 go_ret
 exact ⟨rfl, rfl⟩
set_option maxRecDepth 100000 in
set_option maxHeartbeats 1000000 in
theorem noneTexts (b : Nat) (a : Option Addr) (m : Nat) (w : World) (c : w.cell? ⟨b, 6, none⟩ = some (.slice a 0 m)) : Calls Tryz.prog 59 #[.pointer (some ⟨b, 0, none⟩)] w fun e w' => e = .returned (.bool true) /\ w' = w := by
 go_enter Tryz.func59, Tryz.ntmps59
 go_wp2_with fail
 go_rounds 1
 go_rounds 1
 go_rounds 1
 go_ret
 exact ⟨rfl, rfl⟩
set_option maxRecDepth 100000 in
set_option maxHeartbeats 1000000 in
theorem nonePlayers (b : Nat) (a : Option Addr) (m : Nat) (w : World) (c : w.cell? ⟨b, 7, none⟩ = some (.slice a 0 m)) : Calls Tryz.prog 60 #[.pointer (some ⟨b, 0, none⟩)] w fun e w' => e = .returned (.bool true) /\ w' = w := by
 go_enter Tryz.func60, Tryz.ntmps60
 go_wp2_with fail
 go_rounds 1
 go_rounds 1
 go_rounds 1
 go_ret
 exact ⟨rfl, rfl⟩
set_option maxRecDepth 100000 in
set_option maxHeartbeats 1000000 in
theorem noneCards (b : Nat) (a : Option Addr) (m : Nat) (w : World) (c : w.cell? ⟨b, 8, none⟩ = some (.slice a 0 m)) : Calls Tryz.prog 61 #[.pointer (some ⟨b, 0, none⟩)] w fun e w' => e = .returned (.bool true) /\ w' = w := by
 go_enter Tryz.func61, Tryz.ntmps61
 go_wp2_with fail
 go_rounds 1
 go_rounds 1
 go_rounds 1
 go_ret
 exact ⟨rfl, rfl⟩
set_option maxRecDepth 100000 in
set_option maxHeartbeats 1000000 in
theorem noneTokens (b : Nat) (a : Option Addr) (m : Nat) (w : World) (c : w.cell? ⟨b, 9, none⟩ = some (.slice a 0 m)) : Calls Tryz.prog 62 #[.pointer (some ⟨b, 0, none⟩)] w fun e w' => e = .returned (.bool true) /\ w' = w := by
 go_enter Tryz.func62, Tryz.ntmps62
 go_wp2_with fail
 go_rounds 1
 go_rounds 1
 go_rounds 1
 go_ret
 exact ⟨rfl, rfl⟩
set_option maxRecDepth 100000 in
set_option maxHeartbeats 1000000 in
theorem noneNodes (b : Nat) (a : Option Addr) (m : Nat) (w : World) (c : w.cell? ⟨b, 10, none⟩ = some (.slice a 0 m)) : Calls Tryz.prog 63 #[.pointer (some ⟨b, 0, none⟩)] w fun e w' => e = .returned (.bool true) /\ w' = w := by
 go_enter Tryz.func63, Tryz.ntmps63
 go_wp2_with fail
 go_rounds 1
 go_rounds 1
 go_rounds 1
 go_ret
 exact ⟨rfl, rfl⟩
set_option maxRecDepth 100000 in
set_option maxHeartbeats 1000000 in
theorem noneInstrs (b : Nat) (a : Option Addr) (m : Nat) (w : World) (c : w.cell? ⟨b, 11, none⟩ = some (.slice a 0 m)) : Calls Tryz.prog 64 #[.pointer (some ⟨b, 0, none⟩)] w fun e w' => e = .returned (.bool true) /\ w' = w := by
 go_enter Tryz.func64, Tryz.ntmps64
 go_wp2_with fail
 go_rounds 1
 go_rounds 1
 go_rounds 1
 go_ret
 exact ⟨rfl, rfl⟩
set_option maxRecDepth 100000 in
set_option maxHeartbeats 1000000 in
theorem noneRows (b : Nat) (a : Option Addr) (m : Nat) (w : World) (c : w.cell? ⟨b, 12, none⟩ = some (.slice a 0 m)) : Calls Tryz.prog 65 #[.pointer (some ⟨b, 0, none⟩)] w fun e w' => e = .returned (.bool true) /\ w' = w := by
 go_enter Tryz.func65, Tryz.ntmps65
 go_wp2_with fail
 go_rounds 1
 go_rounds 1
 go_rounds 1
 go_ret
 exact ⟨rfl, rfl⟩
set_option maxRecDepth 100000 in
set_option maxHeartbeats 1000000 in
theorem noneShapes (b : Nat) (a : Option Addr) (m : Nat) (w : World) (c : w.cell? ⟨b, 13, none⟩ = some (.slice a 0 m)) : Calls Tryz.prog 66 #[.pointer (some ⟨b, 0, none⟩)] w fun e w' => e = .returned (.bool true) /\ w' = w := by
 go_enter Tryz.func66, Tryz.ntmps66
 go_wp2_with fail
 go_rounds 1
 go_rounds 1
 go_rounds 1
 go_ret
 exact ⟨rfl, rfl⟩
set_option maxRecDepth 100000 in
set_option maxHeartbeats 1000000 in
theorem noneValues (b : Nat) (a : Option Addr) (m : Nat) (w : World) (c : w.cell? ⟨b, 15, none⟩ = some (.slice a 0 m)) : Calls Tryz.prog 68 #[.pointer (some ⟨b, 0, none⟩)] w fun e w' => e = .returned (.bool true) /\ w' = w := by
 go_enter Tryz.func68, Tryz.ntmps68
 go_wp2_with fail
 go_rounds 1
 go_rounds 1
 go_rounds 1
 go_ret
 exact ⟨rfl, rfl⟩
set_option maxRecDepth 100000 in
set_option maxHeartbeats 1000000 in
theorem noneAbilities (b : Nat) (a : Option Addr) (m : Nat) (w : World) (c : w.cell? ⟨b, 16, none⟩ = some (.slice a 0 m)) : Calls Tryz.prog 69 #[.pointer (some ⟨b, 0, none⟩)] w fun e w' => e = .returned (.bool true) /\ w' = w := by
 go_enter Tryz.func69, Tryz.ntmps69
 go_wp2_with fail
 go_rounds 1
 go_rounds 1
 go_rounds 1
 go_ret
 exact ⟨rfl, rfl⟩
set_option maxRecDepth 100000 in
set_option maxHeartbeats 1000000 in
theorem noneDesigns (b : Nat) (a : Option Addr) (m : Nat) (w : World) (c : w.cell? ⟨b, 17, none⟩ = some (.slice a 0 m)) : Calls Tryz.prog 70 #[.pointer (some ⟨b, 0, none⟩)] w fun e w' => e = .returned (.bool true) /\ w' = w := by
 go_enter Tryz.func70, Tryz.ntmps70
 go_wp2_with fail
 go_rounds 1
 go_rounds 1
 go_rounds 1
 go_ret
 exact ⟨rfl, rfl⟩
set_option maxRecDepth 100000 in
set_option maxHeartbeats 1000000 in
theorem noneEffects (b : Nat) (a : Option Addr) (m : Nat) (w : World) (c : w.cell? ⟨b, 18, none⟩ = some (.slice a 0 m)) : Calls Tryz.prog 71 #[.pointer (some ⟨b, 0, none⟩)] w fun e w' => e = .returned (.bool true) /\ w' = w := by
 go_enter Tryz.func71, Tryz.ntmps71
 go_wp2_with fail
 go_rounds 1
 go_rounds 1
 go_rounds 1
 go_ret
 exact ⟨rfl, rfl⟩
set_option maxRecDepth 100000 in
set_option maxHeartbeats 1000000 in
theorem noneKinds (b : Nat) (a : Option Addr) (m : Nat) (w : World) (c : w.cell? ⟨b, 19, none⟩ = some (.slice a 0 m)) : Calls Tryz.prog 72 #[.pointer (some ⟨b, 0, none⟩)] w fun e w' => e = .returned (.bool true) /\ w' = w := by
 go_enter Tryz.func72, Tryz.ntmps72
 go_wp2_with fail
 go_rounds 1
 go_rounds 1
 go_rounds 1
 go_ret
 exact ⟨rfl, rfl⟩
set_option maxRecDepth 100000 in
set_option maxHeartbeats 1000000 in
theorem noneStates (b : Nat) (a : Option Addr) (m : Nat) (w : World) (c : w.cell? ⟨b, 20, none⟩ = some (.slice a 0 m)) : Calls Tryz.prog 73 #[.pointer (some ⟨b, 0, none⟩)] w fun e w' => e = .returned (.bool true) /\ w' = w := by
 go_enter Tryz.func73, Tryz.ntmps73
 go_wp2_with fail
 go_rounds 1
 go_rounds 1
 go_rounds 1
 go_ret
 exact ⟨rfl, rfl⟩
end Go.Proofs.YtodhjjeagmjhdaaGreatDoor.BG
namespace Go.Proofs.YtodhjjeagmjhdaaGreatDoor.BG
open Go.RowKit
set_option maxRecDepth 100000 in
set_option maxHeartbeats 2000000 in
theorem apartAll (b : Nat) (C : Nat -> World -> Prop)
  (h0 : ∀ w, C 0 w -> Calls Tryz.prog 53 #[.pointer (some ⟨b, 0, none⟩)] w fun e w' => e = .returned (.bool true) /\ C 1 w')
  (h1 : ∀ w, C 1 w -> Calls Tryz.prog 54 #[.pointer (some ⟨b, 0, none⟩)] w fun e w' => e = .returned (.bool true) /\ C 2 w')
  (h2 : ∀ w, C 2 w -> Calls Tryz.prog 55 #[.pointer (some ⟨b, 0, none⟩)] w fun e w' => e = .returned (.bool true) /\ C 3 w')
  (h3 : ∀ w, C 3 w -> Calls Tryz.prog 56 #[.pointer (some ⟨b, 0, none⟩)] w fun e w' => e = .returned (.bool true) /\ C 4 w')
  (h4 : ∀ w, C 4 w -> Calls Tryz.prog 57 #[.pointer (some ⟨b, 0, none⟩)] w fun e w' => e = .returned (.bool true) /\ C 5 w')
  (h5 : ∀ w, C 5 w -> Calls Tryz.prog 58 #[.pointer (some ⟨b, 0, none⟩)] w fun e w' => e = .returned (.bool true) /\ C 6 w')
  (h6 : ∀ w, C 6 w -> Calls Tryz.prog 59 #[.pointer (some ⟨b, 0, none⟩)] w fun e w' => e = .returned (.bool true) /\ C 7 w')
  (h7 : ∀ w, C 7 w -> Calls Tryz.prog 60 #[.pointer (some ⟨b, 0, none⟩)] w fun e w' => e = .returned (.bool true) /\ C 8 w')
  (h8 : ∀ w, C 8 w -> Calls Tryz.prog 61 #[.pointer (some ⟨b, 0, none⟩)] w fun e w' => e = .returned (.bool true) /\ C 9 w')
  (h9 : ∀ w, C 9 w -> Calls Tryz.prog 62 #[.pointer (some ⟨b, 0, none⟩)] w fun e w' => e = .returned (.bool true) /\ C 10 w')
  (h10 : ∀ w, C 10 w -> Calls Tryz.prog 63 #[.pointer (some ⟨b, 0, none⟩)] w fun e w' => e = .returned (.bool true) /\ C 11 w')
  (h11 : ∀ w, C 11 w -> Calls Tryz.prog 64 #[.pointer (some ⟨b, 0, none⟩)] w fun e w' => e = .returned (.bool true) /\ C 12 w')
  (h12 : ∀ w, C 12 w -> Calls Tryz.prog 65 #[.pointer (some ⟨b, 0, none⟩)] w fun e w' => e = .returned (.bool true) /\ C 13 w')
  (h13 : ∀ w, C 13 w -> Calls Tryz.prog 66 #[.pointer (some ⟨b, 0, none⟩)] w fun e w' => e = .returned (.bool true) /\ C 14 w')
  (h14 : ∀ w, C 14 w -> Calls Tryz.prog 67 #[.pointer (some ⟨b, 0, none⟩)] w fun e w' => e = .returned (.bool true) /\ C 15 w')
  (h15 : ∀ w, C 15 w -> Calls Tryz.prog 68 #[.pointer (some ⟨b, 0, none⟩)] w fun e w' => e = .returned (.bool true) /\ C 16 w')
  (h16 : ∀ w, C 16 w -> Calls Tryz.prog 69 #[.pointer (some ⟨b, 0, none⟩)] w fun e w' => e = .returned (.bool true) /\ C 17 w')
  (h17 : ∀ w, C 17 w -> Calls Tryz.prog 70 #[.pointer (some ⟨b, 0, none⟩)] w fun e w' => e = .returned (.bool true) /\ C 18 w')
  (h18 : ∀ w, C 18 w -> Calls Tryz.prog 71 #[.pointer (some ⟨b, 0, none⟩)] w fun e w' => e = .returned (.bool true) /\ C 19 w')
  (h19 : ∀ w, C 19 w -> Calls Tryz.prog 72 #[.pointer (some ⟨b, 0, none⟩)] w fun e w' => e = .returned (.bool true) /\ C 20 w')
  (h20 : ∀ w, C 20 w -> Calls Tryz.prog 73 #[.pointer (some ⟨b, 0, none⟩)] w fun e w' => e = .returned (.bool true) /\ C 21 w')
  (w : World) (h : C 0 w) : Calls Tryz.prog 19 #[.pointer (some ⟨b, 0, none⟩)] w fun e w' => e = .returned (.bool true) /\ C 21 w' := by
 have H0 : Hid _ := h0
 clear h0
 have H1 : Hid _ := h1
 clear h1
 have H2 : Hid _ := h2
 clear h2
 have H3 : Hid _ := h3
 clear h3
 have H4 : Hid _ := h4
 clear h4
 have H5 : Hid _ := h5
 clear h5
 have H6 : Hid _ := h6
 clear h6
 have H7 : Hid _ := h7
 clear h7
 have H8 : Hid _ := h8
 clear h8
 have H9 : Hid _ := h9
 clear h9
 have H10 : Hid _ := h10
 clear h10
 have H11 : Hid _ := h11
 clear h11
 have H12 : Hid _ := h12
 clear h12
 have H13 : Hid _ := h13
 clear h13
 have H14 : Hid _ := h14
 clear h14
 have H15 : Hid _ := h15
 clear h15
 have H16 : Hid _ := h16
 clear h16
 have H17 : Hid _ := h17
 clear h17
 have H18 : Hid _ := h18
 clear h18
 have H19 : Hid _ := h19
 clear h19
 have H20 : Hid _ := h20
 clear h20
 have HC : Hid (C 0 w) := h
 clear h
 go_enter Tryz.func19, Tryz.ntmps19
 go_wp2_with fail
 refine (H0.out _ HC.out).mono ?_
 clear HC H0
 rintro e w1 ⟨rfl, hc⟩
 have HC : Hid _ := hc
 clear hc
 go_wp2_with fail
 refine (H1.out _ HC.out).mono ?_
 clear HC H1
 rintro e w1 ⟨rfl, hc⟩
 have HC : Hid _ := hc
 clear hc
 go_wp2_with fail
 refine (H2.out _ HC.out).mono ?_
 clear HC H2
 rintro e w1 ⟨rfl, hc⟩
 have HC : Hid _ := hc
 clear hc
 go_wp2_with fail
 refine (H3.out _ HC.out).mono ?_
 clear HC H3
 rintro e w1 ⟨rfl, hc⟩
 have HC : Hid _ := hc
 clear hc
 go_wp2_with fail
 refine (H4.out _ HC.out).mono ?_
 clear HC H4
 rintro e w1 ⟨rfl, hc⟩
 have HC : Hid _ := hc
 clear hc
 go_wp2_with fail
 refine (H5.out _ HC.out).mono ?_
 clear HC H5
 rintro e w1 ⟨rfl, hc⟩
 have HC : Hid _ := hc
 clear hc
 go_wp2_with fail
 refine (H6.out _ HC.out).mono ?_
 clear HC H6
 rintro e w1 ⟨rfl, hc⟩
 have HC : Hid _ := hc
 clear hc
 go_wp2_with fail
 refine (H7.out _ HC.out).mono ?_
 clear HC H7
 rintro e w1 ⟨rfl, hc⟩
 have HC : Hid _ := hc
 clear hc
 go_wp2_with fail
 refine (H8.out _ HC.out).mono ?_
 clear HC H8
 rintro e w1 ⟨rfl, hc⟩
 have HC : Hid _ := hc
 clear hc
 go_wp2_with fail
 refine (H9.out _ HC.out).mono ?_
 clear HC H9
 rintro e w1 ⟨rfl, hc⟩
 have HC : Hid _ := hc
 clear hc
 go_wp2_with fail
 refine (H10.out _ HC.out).mono ?_
 clear HC H10
 rintro e w1 ⟨rfl, hc⟩
 have HC : Hid _ := hc
 clear hc
 go_wp2_with fail
 refine (H11.out _ HC.out).mono ?_
 clear HC H11
 rintro e w1 ⟨rfl, hc⟩
 have HC : Hid _ := hc
 clear hc
 go_wp2_with fail
 refine (H12.out _ HC.out).mono ?_
 clear HC H12
 rintro e w1 ⟨rfl, hc⟩
 have HC : Hid _ := hc
 clear hc
 go_wp2_with fail
 refine (H13.out _ HC.out).mono ?_
 clear HC H13
 rintro e w1 ⟨rfl, hc⟩
 have HC : Hid _ := hc
 clear hc
 go_wp2_with fail
 refine (H14.out _ HC.out).mono ?_
 clear HC H14
 rintro e w1 ⟨rfl, hc⟩
 have HC : Hid _ := hc
 clear hc
 go_wp2_with fail
 refine (H15.out _ HC.out).mono ?_
 clear HC H15
 rintro e w1 ⟨rfl, hc⟩
 have HC : Hid _ := hc
 clear hc
 go_wp2_with fail
 refine (H16.out _ HC.out).mono ?_
 clear HC H16
 rintro e w1 ⟨rfl, hc⟩
 have HC : Hid _ := hc
 clear hc
 go_wp2_with fail
 refine (H17.out _ HC.out).mono ?_
 clear HC H17
 rintro e w1 ⟨rfl, hc⟩
 have HC : Hid _ := hc
 clear hc
 go_wp2_with fail
 refine (H18.out _ HC.out).mono ?_
 clear HC H18
 rintro e w1 ⟨rfl, hc⟩
 have HC : Hid _ := hc
 clear hc
 go_wp2_with fail
 refine (H19.out _ HC.out).mono ?_
 clear HC H19
 rintro e w1 ⟨rfl, hc⟩
 have HC : Hid _ := hc
 clear hc
 go_wp2_with fail
 refine (H20.out _ HC.out).mono ?_
 clear HC H20
 rintro e w1 ⟨rfl, hc⟩
 have HC : Hid _ := hc
 clear hc
 go_wp2
 go_ret
 exact ⟨rfl, HC.out⟩
structure BagP (w0 : World) (lo gb B : Nat) (f : Nat -> Value) (L : Nat -> VL) (k : Nat) (W : World) : Prop where
 blk : W.heap[gb]? = some (.cells (bagA f) tBag (0, 0))
 lt : gb < B /\ B <= W.heap.size /\ lo <= gb
 kinds : ∀ j, k <= j -> j < 21 -> Kn W lo gb B (eT j) (rT j) (sT j) (f j) (L j)
 rest : Below lo w0 W
theorem BagG.part {W : World} {lo gb B : Nat} {f : Nat -> Value} {L : Nat -> VL} (h : BagG W lo gb B f L) (hl : lo <= gb) : BagP W lo gb B f L 0 W := ⟨h.blk, ⟨h.lt.1, h.lt.2, hl⟩, fun j _ hj => h.kinds j hj, Below.refl _ _⟩
theorem BagP.next {w0 W W' : World} {lo gb B k : Nat} {f : Nat -> Value} {L : Nat -> VL} (h : BagP w0 lo gb B f L k W) (hk : k < 21) (x : Exc (Blks (L k)) W W') : BagP w0 lo gb B f L (k + 1) W' := by
 have hK := h.kinds k (Nat.le_refl _) hk
 refine ⟨x.heap h.blk (fun hb => by have := hK.below gb hb; omega), ⟨h.lt.1, Nat.le_trans h.lt.2.1 x.2.1, h.lt.2.2⟩, fun j hj hj2 => ?_, Below.trans h.rest (x.below lo (fun b ⟨p, hp, hb⟩ => ?_) (by have := h.lt; omega))⟩
 ·have hJ := h.kinds j (by omega) hj2
  refine hJ.keep (fun g hg => x.2.2 g (row_lt hJ.row hg) (fun hb => ?_)) (fun g hg => x.2.2 g (by have := hJ.below g hg; have := h.lt; omega) (fun hb => ?_))
  ·have := hK.below g hb; have := row_ge hJ.row hg; have := h.lt; omega
  ·obtain ⟨p, hp, hp2⟩ := hb
   obtain ⟨q, hq, hq2⟩ := hg
   obtain ⟨xs, hx⟩ := (hK.each p hp).1
   obtain ⟨ys, hy⟩ := (hJ.each q hq).1
   obtain ⟨cur, hc⟩ := own_ty hy hq2
   exact ty_apart hx hc (eT_inj k hk j hj2 (by omega)) hp2
 ·obtain ⟨xs, hx⟩ := (hK.each p hp).1
  exact row_ge hx hb
theorem BagP.none {w0 W : World} {lo gb B k : Nat} {f : Nat -> Value} {L : Nat -> VL} (h : BagP w0 lo gb B f L k W) : BagP w0 lo gb B f L (k + 1) W := ⟨h.blk, h.lt, fun j hj => h.kinds j (by omega), h.rest⟩
theorem BagP.bag1 {w0 W : World} {lo gb B k : Nat} {f : Nat -> Value} {L : Nat -> VL} (h : BagP w0 lo gb B f L k W) (hk : k < 21) : ∃ a cap, Bag1 k tBag (rT k) W gb a (L k).length cap (L k) /\ (L k).length <= 400 /\ (∀ mk, Rows1 mk lo (eT k) (sT k) W (L k) 0) /\ Apart (L k) /\ (∀ p, p < (L k).length -> ((L k).getD p dv).2 <= 4294967296) /\ lo <= W.heap.size := by
 have hK := h.kinds k (Nat.le_refl _) hk
 obtain ⟨a, cap, hv⟩ := row_val hK.row
 refine ⟨a, cap, ⟨⟨_, h.blk, ?_⟩, rfl, fun hn => ?_⟩, hK.len, fun mk p hp => (hK.each p hp).1.elim fun xs hx => ⟨xs, hx, fun h => absurd h (Nat.not_lt_zero _)⟩, hK.apart, fun p hp => (hK.each p hp).2, by have := h.lt; omega⟩
 ·have := bag_cell h.blk k hk
  simp only [World.cell?, h.blk] at this
  rw [<- hv]
  simpa using this
 ·rcases hK.row.2 with ⟨e, k⟩ | ⟨lb, cap', cur, e, -, hh, -, -, -, ht⟩
  ·exact absurd k hn
  ·rw [hv] at e
   cases e
   refine ⟨lb, cur, rfl, hh, fun p hp => ?_⟩
   have : (cur.toList.take ((L k).length * 1))[p]? = ((L k).map (·.1))[p]? := by rw [ht]
   rw [List.getElem?_take_of_lt (by omega)] at this
   rw [<- Array.getElem?_toList, this]
   simp [List.getD, hp]
end Go.Proofs.YtodhjjeagmjhdaaGreatDoor.BG
