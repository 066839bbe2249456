/-
  Words for what a call leaves alone, and lists of ints in memory.
-/
import Derived.Test.YtkldllnnocdhbaaGreatDoorPy10
import Derived.Test.YtkldllnnocdhbaaGreatDoorProg
import Derived.WalkSpells
import Derived.WalkLawsBesides
import Derived.Handy
import Derived.Below
import Derived.OwnWalk
import Derived.Deep.QuietTactic
import Derived.BigQuiet
import Derived.BigRegion
import Derived.WalkSmall
import Derived.Laws.AppendOwnNone
import Derived.Deep.MidRow
import Derived.Deep.RegionHeld3
import Derived.Deep.DrawnRows
namespace Go.Proofs.YtkldllnnocdhbaaGreatDoor
namespace TP
open TR (Nd)
open TK (Tok)
/- more fuel changes nothing -/
def Lef (a b : Option Rs) : Prop := ∀ R, a = some R → b = some R
theorem Lef_refl (a : Option Rs) : Lef a a := fun _ h => h
theorem Lef_none (b : Option Rs) : Lef none b := fun _ h => by cases h
theorem Lef_bd {a b : Option Rs} {k k2 : Fo → Nat → Option Rs} (h : Lef a b) (hk : ∀ f j, Lef (k f j) (k2 f j)) : Lef (bd a k) (bd b k2) := fun R e => by
  rcases bd_some e with ⟨e1, p1, h1, rfl⟩ | ⟨f, j, h1, h2⟩
  · rw [h _ h1]; rfl
  · rw [h _ h1]; exact hk f j R h2
theorem Lef_ite {p : Prop} [Decidable p] {a b a2 b2 : Option Rs} (h : p → Lef a b) (h2 : ¬ p → Lef a2 b2) : Lef (if p then a else a2) (if p then b else b2) := by
  by_cases hp : p
  · rw [if_pos hp, if_pos hp]; exact h hp
  · rw [if_neg hp, if_neg hp]; exact h2 hp
theorem more (l : List Tok) : ∀ (n m : Nat) (g : G) (i d : Nat), n ≤ m → Lef (P l n g i d) (P l m g i d)
  | 0, _, _, _, _, _ => Lef_none _
  | n + 1, 0, _, _, _, h => absurd h (Nat.not_succ_le_zero _)
  | n + 1, m + 1, g, i, d, h => by
    have ih := fun g i d => more l n m g i d (Nat.le_of_succ_le_succ h)
    cases g with
    | arg =>
      simp only [P]
      refine Lef_ite (fun _ => Lef_refl _) (fun _ => ?_)
      cases zone (tk l i) with
      | none => exact ih _ _ _
      | some z => exact Lef_refl _
    | line =>
      simp only [P]
      refine Lef_ite (fun _ => Lef_refl _) (fun _ => Lef_ite (fun _ => Lef_refl _) (fun _ => Lef_ite (fun _ => ?_) (fun _ => Lef_refl _)))
      cases evnt (tk l (i + 1)) with
      | none => exact Lef_refl _
      | some v => exact Lef_ite (fun _ => Lef_bd (ih _ _ _) (fun _ _ => Lef_bd (ih _ _ _) (fun _ _ => Lef_refl _))) (fun _ => Lef_bd (ih _ _ _) (fun _ _ => Lef_refl _))
    | _ =>
      simp only [P]
      repeat' first
        | exact Lef_refl _
        | exact ih _ _ _
        | refine Lef_bd (ih _ _ _) (fun _ _ => ?_)
        | refine Lef_ite (fun _ => ?_) (fun _ => ?_)
/- a part, and the end behind it -/
def pkR (l : List Tok) (R : Option Rs) : Option Rs := bd R (fun x j => okr (nod 1 0 [] (tk l 0).pos x) j)
def fin (l : List Tok) (R : Option Rs) : Option Rs := bd R (fun f j => if (tk l j).kind = 0 then okr f j else bad (tk l j))
def part (pk : Bool) (l : List Tok) (n : Nat) : Option Rs := if pk = true then pkR l (P l n (.cards .nil) 0 0) else P l n (.row 1) 0 0
def ans (pk : Bool) (l : List Tok) (n : Nat) : Option Rs := fin l (part pk l n)
theorem ans_more (pk : Bool) (l : List Tok) {n m : Nat} (h : n ≤ m) : Lef (ans pk l n) (ans pk l m) := by
  refine Lef_bd ?_ (fun _ _ => Lef_refl _)
  cases pk with
  | false => exact more l n m _ _ _ h
  | true => exact Lef_bd (more l n m _ _ _ h) (fun _ _ => Lef_refl _)
theorem ag_ans (pk : Bool) (l : List Tok) (n N : Nat) (hN : ∀ i, (tk l i).kind ≠ 0 → i < N) (hp : ∀ q, q ≤ N → (tk l q).pos = 10 * (q : Int)) : AG l N 0 (fun _ => True) (fun l' => ans pk l' n) := by
  refine AG_bd (c1 := 0) ?_ (Nat.le_refl _) (fun f j h1 h2 => AG_k0 hN (Nat.le_refl _) (AG_ok (Nat.le_refl _) h2) (fun _ => AG_bad hp (Nat.le_refl _) h2))
  cases pk with
  | false => exact ag l N hN hp n _ 0 0 (Nat.zero_le _)
  | true =>
    refine AG_tok (q := 0) (Nat.le_refl _) ?_
    exact AG_bd ((ag l N hN hp n _ 0 0 (Nat.zero_le _)).sub (fun _ _ => trivial)) (Nat.le_refl _) (fun f j h1 h2 => AG_okS (Nat.le_refl _) h2 (fun l' h => by simp only [h.2]))
theorem ans_ends (pk : Bool) (l : List Tok) : ∃ R, ans pk l (fuel l) = some R := by
  have h1 : ∃ R, part pk l (fuel l) = some R := by
    cases pk with
    | false =>
      obtain ⟨R, h, -⟩ := ends l (.row 1) 0 0 (Nat.zero_le _)
      exact ⟨R, h⟩
    | true =>
      obtain ⟨R, h, -⟩ := ends l (.cards .nil) 0 0 (Nat.zero_le _)
      refine Option.isSome_iff_exists.1 ?_
      show (bd (P l (fuel l) (.cards .nil) 0 0) _).isSome = true
      rw [h]
      cases R <;> rfl
  obtain ⟨R, h⟩ := h1
  refine Option.isSome_iff_exists.1 ?_
  show (bd (part pk l (fuel l)) _).isSome = true
  rw [h]
  cases R with
  | bad e p => rfl
  | ok f j =>
    show (if (tk l j).kind = 0 then okr f j else bad (tk l j)).isSome = true
    by_cases hk : (tk l j).kind = 0
    · rw [if_pos hk]; rfl
    · rw [if_neg hk]; rfl
/- a list that may be parsed, its tokens at 0, 10, 20 -/
structure Std (m : List Tok) : Prop where
  pos : 0 < m.length
  kd : ∀ i, (tk m i).kind ≠ 0 → i < m.length - 1
  at10 : ∀ q, q ≤ m.length - 1 → (tk m q).pos = 10 * (q : Int)
theorem ans_fit {pk : Bool} {m : List Tok} (h : Std m) {R : Rs} (hR : ans pk m (fuel m) = some R) : idx R ≤ m.length - 1 ∧ fit R :=
  ⟨((ag_ans pk m _ _ h.kd h.at10).bound R hR).2, (ag_ans pk m _ _ h.kd h.at10).fits R hR⟩
theorem ans_same {pk : Bool} {m o : List Tok} (h : Std m) {R : Rs} (hR : ans pk m (fuel m) = some R) (hq : ∀ q, q ≤ idx R → tk o q = tk m q) : ans pk o (fuel o) = some R := by
  obtain ⟨F, hF⟩ : ∃ F, F = max (fuel m) (fuel o) := ⟨_, rfl⟩
  have h1 := ans_more pk m (m := F) (by omega) R hR
  have h2 := (ag_ans pk m F _ h.kd h.at10).same o R trivial h1 hq
  obtain ⟨R2, h3⟩ := ans_ends pk o
  have h4 := ans_more pk o (m := F) (by omega) R2 h3
  have h5 : ans pk o F = some R := h2
  rw [h4] at h5
  rw [h3, h5]
/- what is told -/
def told : Rs → Int × Int
  | .ok _ _ => (0, 0)
  | .bad e p => (e, p)
/- the theorem: refused at a token, it is refused there, whatever stands behind -/
theorem stays_bad {pk : Bool} {m o : List Tok} (h : Std m) {R Q : Rs} (hR : ans pk m (fuel m) = some R) (hQ : ans pk o (fuel o) = some Q) (hq : ∀ q, q ≤ idx R → tk o q = tk m q) : told Q = told R := by
  rw [ans_same h hR hq] at hQ
  cases hQ
  rfl
/- and what has not been refused ahead of k is not refused ahead of it -/
theorem stays_ok {pk : Bool} {m o : List Tok} (h : Std o) {R Q : Rs} {k : Nat} (hR : ans pk m (fuel m) = some R) (hQ : ans pk o (fuel o) = some Q) (hk : (told R).1 = 0 ∨ (told R).2 = 10 * (k : Int)) (hq : ∀ q, q < k → tk o q = tk m q) : (told Q).1 = 0 ∨ 10 * (k : Int) ≤ (told Q).2 := by
  rcases Int.lt_or_le (told Q).2 (10 * (k : Int)) with h1 | h1
  · by_cases h2 : (told Q).1 = 0
    · exact .inl h2
    · exfalso
      cases Q with
      | ok f j => exact h2 rfl
      | bad e p =>
        obtain ⟨h3, h4⟩ := ans_fit h hQ
        have h5 : p < 10 * (k : Int) := h1
        have h6 : p = 10 * ((p / 10).toNat : Int) := h4.2
        have h7 : idx (.bad e p) = (p / 10).toNat := rfl
        have h8 := ans_same h hQ (o := m) (fun q hq9 => (hq q (by omega)).symm)
        rw [hR] at h8
        cases h8
        have h9 : e = 22 ∨ e = 23 := h4.1
        rcases hk with h10 | h10
        · have h11 : e = 0 := h10
          omega
        · have h11 : p = 10 * (k : Int) := h10
          omega
  · exact .inr h1
end TP
end Go.Proofs.YtkldllnnocdhbaaGreatDoor
namespace Go.Proofs.YtkldllnnocdhbaaGreatDoor
namespace TP
open TK (Tok)
def atp (t : Tok) (p : Int) : Tok := ⟨t.kind, t.text, t.num, p⟩
def plc : Nat → List Tok → List Tok
  | _, [] => []
  | n, t :: ts => atp t (10 * (n : Int)) :: plc (n + 1) ts
def ent (n : Nat) : Tok := ⟨0, [], 0, 10 * (n : Int)⟩
def rt (K : Tok → Bool) (l : List Tok) : List Tok := plc 0 (l.filter K) ++ [ent (l.filter K).length]
theorem plc_len : ∀ (n : Nat) (a : List Tok), (plc n a).length = a.length
  | _, [] => rfl
  | n, _ :: a => by show (plc (n + 1) a).length + 1 = a.length + 1; rw [plc_len (n + 1) a]
theorem plc_app : ∀ (n : Nat) (a b : List Tok), plc n (a ++ b) = plc n a ++ plc (n + a.length) b
  | n, [], b => rfl
  | n, t :: a, b => by
    show atp t _ :: plc (n + 1) (a ++ b) = atp t _ :: (plc (n + 1) a ++ plc (n + (a.length + 1)) b)
    rw [plc_app (n + 1) a b, show n + 1 + a.length = n + (a.length + 1) by omega]
theorem plc_take : ∀ (n k : Nat) (a : List Tok), (plc n a).take k = plc n (a.take k)
  | n, 0, a => by rw [List.take_zero, List.take_zero]; rfl
  | n, k + 1, [] => rfl
  | n, k + 1, t :: a => by
    show atp t _ :: (plc (n + 1) a).take k = atp t _ :: plc (n + 1) (a.take k)
    rw [plc_take (n + 1) k a]
theorem plc_idem : ∀ (n : Nat) (a : List Tok), plc n (plc n a) = plc n a
  | _, [] => rfl
  | n, t :: a => by
    show atp (atp t _) _ :: plc (n + 1) (plc (n + 1) a) = atp t _ :: plc (n + 1) a
    rw [plc_idem (n + 1) a]
    rfl
theorem plc_filter {K : Tok → Bool} (hK : ∀ t p, K (atp t p) = K t) : ∀ (n : Nat) (a : List Tok), (∀ t ∈ a, K t = true) → (plc n a).filter K = plc n a
  | _, [], _ => rfl
  | n, t :: a, h => by
    show (atp t _ :: plc (n + 1) a).filter K = atp t _ :: plc (n + 1) a
    rw [List.filter_cons_of_pos (by rw [hK]; exact h t (List.mem_cons_self ..)), plc_filter hK (n + 1) a (fun x hx => h x (List.mem_cons_of_mem _ hx))]
theorem plc_at : ∀ (n i : Nat) (a : List Tok), i < a.length → (plc n a).getD i dt = atp (a.getD i dt) (10 * ((n + i : Nat) : Int))
  | _, _, [], h => absurd h (Nat.not_lt_zero _)
  | n, 0, t :: a, _ => rfl
  | n, i + 1, t :: a, h => by
    show (plc (n + 1) a).getD i dt = atp (a.getD i dt) _
    rw [plc_at (n + 1) i a (Nat.lt_of_succ_lt_succ h), show n + 1 + i = n + (i + 1) by omega]
theorem rt_len (K : Tok → Bool) (l : List Tok) : (rt K l).length = (l.filter K).length + 1 := by
  show (plc 0 (l.filter K) ++ [ent (l.filter K).length]).length = _
  rw [List.length_append, plc_len]; rfl
theorem rt_at (K : Tok → Bool) (l : List Tok) {i : Nat} (h : i < (l.filter K).length) : tk (rt K l) i = atp ((l.filter K).getD i dt) (10 * (i : Int)) := by
  show (plc 0 (l.filter K) ++ [ent (l.filter K).length]).getD i dt = _
  rw [List.getD_eq_getElem?_getD, List.getElem?_append_left (by rw [plc_len]; exact h), ← List.getD_eq_getElem?_getD, plc_at 0 i _ h, Nat.zero_add]
theorem rt_end (K : Tok → Bool) (l : List Tok) : tk (rt K l) (l.filter K).length = ent (l.filter K).length := by
  show (plc 0 (l.filter K) ++ [ent (l.filter K).length]).getD _ dt = _
  rw [List.getD_eq_getElem?_getD, List.getElem?_append_right (by rw [plc_len]; exact Nat.le_refl _), plc_len, Nat.sub_self]
  rfl
theorem rt_std (K : Tok → Bool) (l : List Tok) : Std (rt K l) := by
  have hl := rt_len K l
  refine ⟨by omega, fun i hi => ?_, fun q hq => ?_⟩
  · have h1 := kd_len i hi
    rcases Nat.lt_or_ge i (l.filter K).length with h2 | h2
    · omega
    · obtain rfl : i = (l.filter K).length := by omega
      rw [rt_end] at hi
      exact absurd rfl hi
  · rcases Nat.lt_or_ge q (l.filter K).length with h2 | h2
    · rw [rt_at K l h2]; rfl
    · obtain rfl : q = (l.filter K).length := by omega
      rw [rt_end]; rfl
/- what is kept, and gone on with, is the same up to there -/
theorem rt_agree {K : Tok → Bool} (hK : ∀ t p, K (atp t p) = K t) (l more : List Tok) {k q : Nat} (hk : k ≤ (l.filter K).length) (hq : q < k) : tk (rt K ((rt K l).take k ++ more)) q = tk (rt K l) q := by
  have e1 : (rt K l).take k = plc 0 ((l.filter K).take k) := by
    show (plc 0 (l.filter K) ++ [ent (l.filter K).length]).take k = _
    rw [List.take_append_of_le_length (by rw [plc_len]; exact hk), plc_take]
  have e2 : ((rt K l).take k ++ more).filter K = plc 0 ((l.filter K).take k) ++ more.filter K := by
    rw [List.filter_append, e1, plc_filter hK 0 _ (fun t ht => (List.mem_filter.1 (List.mem_of_mem_take ht)).2)]
  have e3 : (plc 0 ((l.filter K).take k)).length = k := by rw [plc_len, List.length_take]; omega
  have h1 : q < (((rt K l).take k ++ more).filter K).length := by rw [e2, List.length_append, e3]; omega
  rw [rt_at _ _ h1, rt_at _ _ (by omega), e2, List.getD_eq_getElem?_getD, List.getElem?_append_left (by omega), ← List.getD_eq_getElem?_getD, plc_at 0 q _ (by rw [List.length_take]; omega), List.getD_eq_getElem?_getD, List.getElem?_take_of_lt hq, ← List.getD_eq_getElem?_getD]
  rfl
/- what holds of each token wherever it stands, and of the end, holds of all of them -/
theorem rt_all {K : Tok → Bool} {Q : Tok → Prop} (hQ : ∀ t p, Q t → Q (atp t p)) (hd : ∀ n, Q (ent n)) (l : List Tok) (hl : ∀ t ∈ l, Q t) : ∀ i, i < (rt K l).length → Q (tk (rt K l) i) := fun i hi => by
  have h0 := rt_len K l
  rcases Nat.lt_or_ge i (l.filter K).length with h2 | h2
  · rw [rt_at K l h2]
    refine hQ _ _ (hl _ ?_)
    rw [List.getD_eq_getElem?_getD, List.getElem?_eq_getElem h2]
    exact (List.mem_filter.1 (List.getElem_mem h2)).1
  · obtain rfl : i = (l.filter K).length := by omega
    rw [rt_end]
    exact hd _
theorem rt_keep {K : Tok → Bool} (hK : ∀ t p, K (atp t p) = K t) (l : List Tok) {i : Nat} (h : i + 1 < (rt K l).length) : K (tk (rt K l) i) = true := by
  have h0 := rt_len K l
  have h2 : i < (l.filter K).length := by omega
  rw [rt_at K l h2, hK, List.getD_eq_getElem?_getD, List.getElem?_eq_getElem h2]
  exact (List.mem_filter.1 (List.getElem_mem h2)).2
/- one token more is looked at -/
theorem plc_more (K : Tok → Bool) (l : List Tok) {i : Nat} (h : i < l.length) : plc 0 ((l.take (i + 1)).filter K) = if K (tk l i) = true then plc 0 ((l.take i).filter K) ++ [atp (tk l i) (10 * (((l.take i).filter K).length : Int))] else plc 0 ((l.take i).filter K) := by
  have e : l.take (i + 1) = l.take i ++ [tk l i] := by
    rw [List.take_add_one, List.getElem?_eq_getElem h]
    show l.take i ++ [l[i]] = l.take i ++ [l.getD i dt]
    rw [List.getD_eq_getElem?_getD, List.getElem?_eq_getElem h]
    rfl
  rw [e, List.filter_append]
  by_cases hk : K (tk l i) = true
  · rw [if_pos hk, List.filter_cons_of_pos hk, plc_app, Nat.zero_add]
    rfl
  · rw [if_neg hk, List.filter_cons_of_neg hk, List.filter_nil, List.append_nil]
end TP
end Go.Proofs.YtkldllnnocdhbaaGreatDoor
namespace Go.Proofs.YtkldllnnocdhbaaGreatDoor
open Go.RowKit

theorem ret_int {k : IntKind} {a b : Int} (h : a = b) : Ending.returned (.int k a) = .returned (.int k b) := by rw [h]
def Up (w w' : World) : Prop := Below w.heap.size w w'
theorem Up.refl (w : World) : Up w w := Below.refl _ _
theorem Up.trans {a b c : World} (h : Up a b) (k : Up b c) : Up a c := Below.trans h (Below.mono k h.size)
theorem Up.alloc {a w : World} (h : Up a w) (o : Obj) : Up a (w.alloc o) := Below.alloc h h.size o
theorem Up.drew {a w : World} (h : Up a w) : Up a w.drew := Below.drew h
theorem Up.drewN {a w : World} (h : Up a w) (n : Nat) : Up a (w.drewN n) := ⟨h.os, h.tape, h.output, h.size, h.block⟩
theorem Up.cell {w w' : World} (h : Up w w') {p : Addr} {v : Value} (hc : w.cell? p = some v) : w'.cell? p = some v := by
  rw [Below.cell h (World.block_lt_of_cell? w p hc)]; exact hc
theorem Up.heap {w w' : World} (h : Up w w') {g : Nat} {o : Obj} (hg : w.heap[g]? = some o) : w'.heap[g]? = some o := by
  rw [h.block g (Array.getElem?_eq_some_iff.1 hg).1]; exact hg
/- at most block b and new ones -/
def Only (b : Nat) (w w' : World) : Prop := (w'.os = w.os ∧ w'.tape = w.tape ∧ w'.output = w.output) ∧ w.heap.size ≤ w'.heap.size ∧ ∀ g, g < w.heap.size → g ≠ b → w'.heap[g]? = w.heap[g]?
theorem Only.refl (b : Nat) (w : World) : Only b w w := ⟨⟨rfl, rfl, rfl⟩, Nat.le_refl _, fun _ _ _ => rfl⟩
theorem Only.trans {b : Nat} {x y z : World} (h : Only b x y) (k : Only b y z) : Only b x z :=
  ⟨⟨k.1.1.trans h.1.1, k.1.2.1.trans h.1.2.1, k.1.2.2.trans h.1.2.2⟩, Nat.le_trans h.2.1 k.2.1, fun g hg hb => (k.2.2 g (Nat.lt_of_lt_of_le hg h.2.1) hb).trans (h.2.2 g hg hb)⟩
theorem Only.up {b : Nat} {x y : World} (h : Up x y) : Only b x y := ⟨⟨h.os, h.tape, h.output⟩, h.size, fun g hg _ => h.block g hg⟩
theorem Only.set {b : Nat} {x y : World} (h : Only b x y) (j : Nat) (u : Value) : Only b x (y.setCell ⟨b, j, none⟩ u) :=
  ⟨h.1, by have := h.2.1; simpa using this, fun g hg hb => by rw [Below.heap_setCell _ _ _ _ hb]; exact h.2.2 g hg hb⟩
theorem Only.below {b B : Nat} {x y : World} (h : Only b x y) (h1 : B ≤ b) (h2 : B ≤ x.heap.size) : Below B x y :=
  ⟨h.1.1, h.1.2.1, h.1.2.2, h.2.1, fun g hg => h.2.2 g (by omega) (by omega)⟩
theorem Only.fresh {b : Nat} {x y : World} (h : Only b x y) (h1 : x.heap.size ≤ b) : Up x y := h.below h1 (Nat.le_refl _)
theorem Only.heap {b : Nat} {x y : World} (h : Only b x y) {g : Nat} {o : Obj} (hg : x.heap[g]? = some o) (hb : g ≠ b) : y.heap[g]? = some o := by
  rw [h.2.2 g (Array.getElem?_eq_some_iff.1 hg).1 hb]; exact hg
theorem row_up {w w' : World} {b e s n : Nat} {v : Value} {xs : List Value} (h : w.ownsRow b e s v n xs) (u : Up w w') : w'.ownsRow b e s v n xs := by
  refine ⟨h.1, ?_⟩
  rcases h.2 with h | ⟨g, cap, cur, e1, e2, e3, e4⟩
  · exact .inl h
  · exact .inr ⟨g, cap, cur, e1, e2, u.heap e3, e4⟩
theorem row_some {w : World} {b e s n : Nat} {v : Value} {xs : List Value} (h : w.ownsRow b e s v n xs) (hn : 0 < n) : ∃ g cap, b ≤ g ∧ n ≤ cap ∧ v = .slice (some ⟨g, 0, none⟩) n cap := by
  rcases h.2 with ⟨rfl, h0⟩ | ⟨g, cap, cur, rfl, hb, _, hc, _⟩
  · omega
  · exact ⟨g, cap, hb, hc, rfl⟩
theorem row_val {w : World} {base e s n : Nat} {v : Value} {xs : List Value} (h : w.ownsRow base e s v n xs) : ∃ ad cap, v = .slice ad n cap := by
  rcases h.2 with ⟨rfl, hn⟩ | ⟨g, cap, cur, rfl, _⟩
  · exact ⟨none, 0, by rw [hn]⟩
  · exact ⟨_, cap, rfl⟩
/- a flag that was set and set back: nothing has turned -/
theorem four_cells {W : World} {a : Nat} {x y z u : Value} {t : TypeId} (h : W.heap[a]? = some (.cells #[x, y, z, u] t (0, 0))) : W.cell? ⟨a, 0, none⟩ = some x ∧ W.cell? ⟨a, 1, none⟩ = some y ∧ W.cell? ⟨a, 2, none⟩ = some z ∧ W.cell? ⟨a, 3, none⟩ = some u ∧ (∀ j, W.frozen? ⟨a, j, none⟩ = false) := by
  refine ⟨by simp [World.cell?, h], by simp [World.cell?, h], by simp [World.cell?, h], by simp [World.cell?, h], fun j => by simp [World.frozen?, h]⟩
theorem set3 {W : World} {a : Nat} {x y z u : Value} {t : TypeId} (h : W.heap[a]? = some (.cells #[x, y, z, u] t (0, 0))) (u' : Value) : (W.setCell ⟨a, 3, none⟩ u').heap[a]? = some (.cells #[x, y, z, u'] t (0, 0)) := by
  simp only [World.setCell, Array.getElem?_modify]; rw [h]; simp
theorem set1 {W : World} {a : Nat} {x y z u : Value} {t : TypeId} (h : W.heap[a]? = some (.cells #[x, y, z, u] t (0, 0))) (y' : Value) : (W.setCell ⟨a, 1, none⟩ y').heap[a]? = some (.cells #[x, y', z, u] t (0, 0)) := by
  simp only [World.setCell, Array.getElem?_modify]; rw [h]; simp
theorem set2 {W : World} {a : Nat} {x y z u : Value} {t : TypeId} (h : W.heap[a]? = some (.cells #[x, y, z, u] t (0, 0))) (z' : Value) : (W.setCell ⟨a, 2, none⟩ z').heap[a]? = some (.cells #[x, y, z', u] t (0, 0)) := by
  simp only [World.setCell, Array.getElem?_modify]; rw [h]; simp
theorem ask_up {W Wa W2 : World} {hb : Nat} {x y z : Value} {t : TypeId} (h : W.heap[hb]? = some (.cells #[x, y, z, .bool false] t (0, 0))) (u : Up W Wa) (k : Up (Wa.setCell ⟨hb, 3, none⟩ (.bool true)) W2) : Up W (W2.setCell ⟨hb, 3, none⟩ (.bool false)) := by
  have hl : hb < W.heap.size := (Array.getElem?_eq_some_iff.1 h).1
  have ha := u.heap h
  have h1 := set3 ha (.bool true)
  have h2 := set3 (k.heap h1) (.bool false)
  have hz : (Wa.setCell ⟨hb, 3, none⟩ (.bool true)).heap.size = Wa.heap.size := by simp
  refine ⟨k.os.trans u.os, k.tape.trans u.tape, k.output.trans u.output, ?_, fun g hg => ?_⟩
  · have a := u.size; have b := k.size; rw [hz] at b; simp; omega
  · by_cases e : g = hb
    · subst e; rw [h2, h]
    · rw [Below.heap_setCell _ _ _ _ e, k.block g (by rw [hz]; exact Nat.lt_of_lt_of_le hg u.size), Below.heap_setCell _ _ _ _ e, u.block g hg]
/- lists of structs, cell by cell -/
theorem flat_len {E : Type} (f : E → List Value) (s : Nat) (hf : ∀ e, (f e).length = s) (l : List E) : (l.flatMap f).length = l.length * s := by
  induction l with
  | nil => simp
  | cons x l ih => rw [List.flatMap_cons, List.length_append, ih, hf, List.length_cons, Nat.succ_mul]; omega
theorem flat_get {E : Type} (f : E → List Value) (s : Nat) (hf : ∀ e, (f e).length = s) (d : E) (l : List E) : ∀ i j, i < l.length → j < s → (l.flatMap f)[i * s + j]? = (f (l.getD i d))[j]? := by
  induction l with
  | nil => intro i j h; simp at h
  | cons x l ih =>
    intro i j hi hj
    rw [List.flatMap_cons]
    cases i with
    | zero => rw [Nat.zero_mul, Nat.zero_add, List.getElem?_append_left (by rw [hf]; exact hj)]; rfl
    | succ i =>
      rw [List.getElem?_append_right (by rw [hf, Nat.succ_mul]; omega), hf, show (i + 1) * s + j - s = i * s + j by rw [Nat.succ_mul]; omega, ih i j (by simpa using hi) hj]
      rfl
theorem flat_take {E : Type} (f : E → List Value) (s : Nat) (hf : ∀ e, (f e).length = s) (l : List E) : ∀ n, (l.flatMap f).take (n * s) = (l.take n).flatMap f := by
  induction l with
  | nil => simp
  | cons x l ih =>
    intro n
    cases n with
    | zero => simp
    | succ n => rw [List.flatMap_cons, List.take_append, hf, List.take_of_length_le (by rw [hf, Nat.succ_mul]; omega), show (n + 1) * s - s = n * s by rw [Nat.succ_mul]; omega, ih n]; rfl
theorem set_mid {A : Type} (p q : List A) (x y : A) : (p ++ x :: q).set p.length y = p ++ y :: q := by simp
theorem flat_set2 {E : Type} (f : E → List Value) (hf : ∀ e, (f e).length = 2) (l : List E) (e : E) : ∀ i, i < l.length → (l.set i e).flatMap f = ((l.flatMap f).set (i * 2) ((f e).getD 0 undef)).set (i * 2 + 1) ((f e).getD 1 undef) := by
  induction l with
  | nil => intro i h; simp at h
  | cons x l ih =>
    intro i hi
    obtain ⟨a, b, hx⟩ : ∃ a b, f x = [a, b] := by
      have := hf x
      match h : f x, this with
      | [a, b], _ => exact ⟨a, b, rfl⟩
    obtain ⟨a', b', he⟩ : ∃ a b, f e = [a, b] := by
      have := hf e
      match h : f e, this with
      | [a, b], _ => exact ⟨a, b, rfl⟩
    cases i with
    | zero => simp [hx, he]
    | succ i =>
      rw [List.set_cons_succ, List.flatMap_cons, List.flatMap_cons, hx, ih i (by simpa using hi), show (i + 1) * 2 = i * 2 + 1 + 1 by omega, show i * 2 + 1 + 1 + 1 = (i * 2 + 1) + 1 + 1 by omega]
      rfl
theorem flat_set3 {E : Type} (f : E → List Value) (hf : ∀ e, (f e).length = 3) (l : List E) (e : E) : ∀ i, i < l.length → (l.set i e).flatMap f = (((l.flatMap f).set (i * 3) ((f e).getD 0 undef)).set (i * 3 + 1) ((f e).getD 1 undef)).set (i * 3 + 2) ((f e).getD 2 undef) := by
  induction l with
  | nil => intro i h; simp at h
  | cons x l ih =>
    intro i hi
    obtain ⟨a, b, c, hx⟩ : ∃ a b c, f x = [a, b, c] := by
      have := hf x
      match h : f x, this with
      | [a, b, c], _ => exact ⟨a, b, c, rfl⟩
    obtain ⟨a', b', c', he⟩ : ∃ a b c, f e = [a, b, c] := by
      have := hf e
      match h : f e, this with
      | [a, b, c], _ => exact ⟨a, b, c, rfl⟩
    cases i with
    | zero => simp [hx, he]
    | succ i =>
      rw [List.set_cons_succ, List.flatMap_cons, List.flatMap_cons, hx, ih i (by simpa using hi), show (i + 1) * 3 = i * 3 + 1 + 1 + 1 by omega]
      rfl
/- a row cut short at its end -/
theorem row_short {w : World} {b e s n m : Nat} {g cap : Nat} {xs : List Value} (h : w.ownsRow b e s (.slice (some ⟨g, 0, none⟩) n cap) n xs) (hm : m ≤ n) : w.ownsRow b e s (.slice (some ⟨g, 0, none⟩) m cap) m (xs.take (m * s)) := by
  rcases h.2 with ⟨h', _⟩ | ⟨g', cap', cur, h', hb, hg, hnc, hcm, hcs, htake⟩
  · simp at h'
  · simp only [Value.slice.injEq, Option.some.injEq, Addr.mk.injEq, and_true, true_and] at h'
    obtain ⟨rfl, rfl⟩ := h'
    have hle : m * s ≤ n * s := Nat.mul_le_mul_right s hm
    refine ⟨by rw [List.length_take, h.1]; omega, .inr ⟨g, cap, cur, rfl, hb, hg, by omega, hcm, hcs, ?_⟩⟩
    rw [← htake, List.take_take, Nat.min_eq_left hle]
theorem cell_first (W : World) (cs : Array Value) (t : TypeId) (o : Obj) (n j : Nat) (h : n = W.heap.size) : ((W.alloc (.cells cs t)).alloc o).cell? ⟨n, j, none⟩ = cs[j]? := by
  subst h
  have : ((W.alloc (.cells cs t)).alloc o).heap[W.heap.size]? = some (.cells cs t (0, 0)) := by rw [Below.heap_alloc _ _ _ (by simp)]; exact heap_alloc_new W _
  simp [World.cell?, this]
theorem cell_second (W : World) (o : Obj) (cs : Array Value) (t : TypeId) (n j : Nat) (h : n = W.heap.size + 1) : ((W.alloc o).alloc (.cells cs t)).cell? ⟨n, j, none⟩ = cs[j]? := by
  subst h
  have : ((W.alloc o).alloc (.cells cs t)).heap[W.heap.size + 1]? = some (.cells cs t (0, 0)) := by
    have := heap_alloc_new (W.alloc o) (.cells cs t)
    simpa using this
  unfold World.cell?
  dsimp only
  rw [this]
  rfl
end Go.Proofs.YtkldllnnocdhbaaGreatDoor
