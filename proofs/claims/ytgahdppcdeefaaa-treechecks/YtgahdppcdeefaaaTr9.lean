
/-
  Rows of numbers, leaning left and right: how deep they are.
-/
import Derived.Test.YtgahdppcdeefaaaTz9
import Derived.Test.YtgahdppcdeefaaaNf9
namespace Go.Proofs.Ytgahdppcdeefaaa
namespace TR
/- what is wanted no more says nothing -/
theorem pop_skip {z : Wt} (hz : z.many = 0) : ∀ A B, pop (A ++ z :: B) = match pop A with
    | [] => pop B
    | x :: A' => x :: (A' ++ z :: B)
  | [], B => by
    show pop (z :: B) = pop B
    rw [pop, if_pos hz]
  | a :: A, B => by
    rw [List.cons_append, pop, pop]
    by_cases h : a.many = 0
    · rw [if_pos h, if_pos h]
      exact pop_skip hz A B
    · rw [if_neg h, if_neg h]
theorem pop_app : ∀ A B, pop (A ++ B) = match pop A with
    | [] => pop B
    | x :: A' => x :: (A' ++ B)
  | [], B => rfl
  | a :: A, B => by
    rw [List.cons_append, pop, pop]
    by_cases h : a.many = 0
    · rw [if_pos h, if_pos h]
      exact pop_app A B
    · rw [if_neg h, if_neg h]
theorem go_cons (a : Nd) (r : List Nd) (S : List Wt) (d p : Nat) : go (a :: r) S d p = match pop S with
    | [] => (0, p, false)
    | x :: S' => match ent a r x with
      | none => (0, p, false)
      | some (o, ws) => go r (ws ++ { x with many := x.many - 1 } :: S') (max d o) (p + 1) := by
  rw [go]
  cases pop S with
  | nil => rfl
  | cons x S' =>
    simp only
    cases ent a r x with
    | none => rfl
    | some q => rfl
theorem go_skip {z : Wt} (hz : z.many = 0) : ∀ (l : List Nd) (A B : List Wt) (d p : Nat), go l (A ++ z :: B) d p = go l (A ++ B) d p
  | [], A, B, d, p => by
    rw [go, go, pop_skip hz, pop_app]
    cases pop A with
    | nil => rfl
    | cons x A' => simp
  | a :: r, A, B, d, p => by
    rw [go_cons, go_cons, pop_skip hz, pop_app]
    cases pop A with
    | nil => rfl
    | cons x A' =>
      simp only
      cases ent a r x with
      | none => rfl
      | some q =>
        obtain ⟨o, ws⟩ := q
        simp only
        have h := go_skip hz r (ws ++ { x with many := x.many - 1 } :: A') B (max d o) (p + 1)
        rw [List.append_assoc, List.append_assoc] at h
        exact h
/- a node with one place left: what it wants, and no more -/
theorem go_one {a : Nd} {r : List Nd} {x : Wt} {S : List Wt} {d p o : Nat} {ws : List Wt} (hx : x.many = 1) (he : ent a r x = some (o, ws)) : go (a :: r) (x :: S) d p = go r (ws ++ S) (max d o) (p + 1) := by
  rw [go_on (by omega), he]
  simp only
  exact go_skip (z := { x with many := x.many - 1 }) (show x.many - 1 = 0 by omega) r ws S _ _
def opN (op : Int) : Nd := ⟨op, 0, 0, 0, [], 0, 2⟩
def numK (i : Nat) : Nd := ⟨30, 0, (i : Int), 0, [], 0, 0⟩
def blkN : Nd := ⟨10, 0, 0, 0, [], 0, 0⟩
structure RowK (op : Int) (r : Nat) : Prop where
  is : (kd op).is = 64
  rank : (kd op).rank = r
  row : (kd op).row = true
  opens : (kd op).opens = 0
  fits : fits (kd op) (opN op) = true
  plcs : plcs (kd op) 2 = some ([⟨64, r⟩, ⟨64, r + 1⟩], 1)
  le : r + 1 ≤ 7
  pos : 1 ≤ r
theorem rowk {op : Int} (h : op = 36 ∨ op = 37 ∨ op = 44 ∨ op = 45 ∨ op = 46 ∨ op = 47 ∨ op = 48) : ∃ r, RowK op r := by
  rcases h with rfl | rfl | rfl | rfl | rfl | rfl | rfl
  · exact ⟨1, by decide, by decide, by decide, by decide, by decide, by decide, by decide, by decide⟩
  · exact ⟨2, by decide, by decide, by decide, by decide, by decide, by decide, by decide, by decide⟩
  · exact ⟨5, by decide, by decide, by decide, by decide, by decide, by decide, by decide, by decide⟩
  · exact ⟨5, by decide, by decide, by decide, by decide, by decide, by decide, by decide, by decide⟩
  · exact ⟨6, by decide, by decide, by decide, by decide, by decide, by decide, by decide, by decide⟩
  · exact ⟨6, by decide, by decide, by decide, by decide, by decide, by decide, by decide, by decide⟩
  · exact ⟨6, by decide, by decide, by decide, by decide, by decide, by decide, by decide, by decide⟩
def pl (b o : Nat) (g : Bool) : Wt := ⟨⟨64, b⟩, 1, o, g⟩
theorem kd10 : kd 10 = ⟨8, 0, false, 1, 0, .none, 16, []⟩ := by decide
theorem kd7 : kd 7 = ⟨4, 0, false, 0, 4, .none, 0, [[⟨8, 0⟩], [⟨64, 0⟩, ⟨8, 0⟩]]⟩ := by decide
theorem kd30 : kd 30 = ⟨64, 8, false, 0, big, .none, 0, []⟩ := by decide
theorem goes_num (i : Nat) (b : Nd) : goes (numK i) b = false := by
  unfold goes
  rw [show (numK i).op = 30 from rfl, kd30]
  rfl
theorem goes_to_num (a : Nd) (i : Nat) : goes a (numK i) = false := by
  unfold goes
  rw [show (numK i).op = 30 from rfl, kd30]
  simp
theorem mks_num (i : Nat) (r : List Nd) : mks (numK i :: r) = 0 := by
  cases r with
  | nil => rfl
  | cons b r =>
    rw [mks, goes_num]
    rfl
theorem gos_num (i : Nat) (r : List Nd) : gos (numK i :: r) = false := by
  cases r with
  | nil => rfl
  | cons b r => exact goes_num i b
theorem ent_num {i : Nat} (hi : i ≤ 1000) (r : List Nd) {b o : Nat} (hb : b ≤ 8) (g : Bool) : ent (numK i) r (pl b o g) = some (o, []) := by
  have hf : fits (kd 30) (numK i) = true := by
    rw [kd30]
    unfold fits
    have h1 : decide (0 ≤ (i : Int)) = true := by simp
    have h2 : decide ((i : Int) ≤ big) = true := by rw [decide_eq_true_eq]; unfold big; omega
    show ((0 : Int) == 0 && ((0 : Int) == 0 && (decide ((0 : Int) ≤ 0) && (decide (0 ≤ (i : Int)) && (decide ((i : Int) ≤ big) && Tx.ok .none []))))) = true
    rw [h1, h2]
    rfl
  unfold ent
  rw [show (numK i).op = 30 from rfl, hf, mks_num, gos_num, kd30]
  rw [if_neg (by
    rintro (h | h)
    · exact absurd h (by show ¬ (64 &&& 64 = 0); decide)
    · cases h)]
  have hp : plcs ⟨64, 8, false, 0, big, .none, 0, []⟩ (numK i).kids = some ([], 1) ∨ plcs ⟨64, 8, false, 0, big, .none, 0, []⟩ (numK i).kids = some ([], 0) := .inr (by show plcs _ 0 = _; decide)
  have hm : more ⟨64, 8, false, 0, big, .none, 0, []⟩ (pl b o g) 0 = 0 := by
    unfold more pl
    simp only
    rw [if_neg (by omega), if_neg (by decide)]
    split <;> rfl
  rcases hp with hp | hp
  all_goals
    rw [hp, hm]
    rfl
/- numbers at their places -/
theorem go_nums : ∀ (L : List Nat) (E : List Wt) (T : List Nd) (S : List Wt) (d p : Nat), L.length = E.length → (∀ i ∈ L, i ≤ 1000) → (∀ e ∈ E, ∃ b o g, e = pl b o g ∧ b ≤ 8 ∧ o ≤ d) → go (L.map numK ++ T) (E ++ S) d p = go T S d (p + L.length)
  | [], [], T, S, d, p, _, _, _ => rfl
  | [], _ :: _, _, _, _, _, h, _, _ => by cases h
  | _ :: _, [], _, _, _, _, h, _, _ => by cases h
  | i :: L, e :: E, T, S, d, p, hl, hi, he => by
    obtain ⟨b, o, g, rfl, hb, ho⟩ := he e (by simp)
    rw [List.map_cons, List.cons_append, List.cons_append, go_one rfl (ent_num (hi i (by simp)) _ hb g), Nat.max_eq_left ho, List.nil_append, go_nums L E T S d (p + 1) (by simpa using hl) (fun j hj => hi j (by simp [hj])) (fun e h => he e (by simp [h])), List.length_cons]
    congr 1
    omega
/- a row's mark -/
theorem ent_op {op : Int} {r : Nat} (h : RowK op r) (R : List Nd) (b o : Nat) (g : Bool) : ent (opN op) R (pl b o g) = some (o + ((if r < b then 1 else 0) + (if g then 0 else mks (opN op :: R))), [pl r (if gos (opN op :: R) then o + ((if r < b then 1 else 0) + (if g then 0 else mks (opN op :: R))) - 1 else o + ((if r < b then 1 else 0) + (if g then 0 else mks (opN op :: R)))) (gos (opN op :: R)), pl (r + 1) (o + ((if r < b then 1 else 0) + (if g then 0 else mks (opN op :: R)))) false]) := by
  unfold ent
  rw [show (opN op).op = op from rfl, h.fits, show (opN op).kids = 2 from rfl, h.plcs, h.is, h.opens]
  rw [if_neg (by
    rintro (h | h)
    · exact absurd h (by show ¬ (64 &&& 64 = 0); decide)
    · cases h)]
  have hm : more (kd op) (pl b o g) (mks (opN op :: R)) = (if r < b then 1 else 0) + (if g then 0 else mks (opN op :: R)) := by
    unfold more pl
    simp only
    rw [h.rank, h.is, if_neg (show ¬ (64 &&& 64 &&& 32 ≠ 0) by decide)]
    omega
  rw [hm]
  rfl
theorem goes_op {op : Int} {r : Nat} (h : RowK op r) : goes (opN op) (opN op) = true := by
  unfold goes
  rw [show (opN op).op = op from rfl, h.row]
  simp
theorem mks_rep {op : Int} {r : Nat} (h : RowK op r) (i : Nat) (T : List Nd) : ∀ k, mks (opN op :: (List.replicate k (opN op) ++ numK i :: T)) = k
  | 0 => by
    show mks (opN op :: numK i :: T) = 0
    rw [mks, goes_to_num]
    rfl
  | k + 1 => by
    show mks (opN op :: opN op :: (List.replicate k (opN op) ++ numK i :: T)) = k + 1
    rw [mks, goes_op h, if_pos rfl, mks_rep h i T k]
theorem gos_rep {op : Int} {r : Nat} (h : RowK op r) (i : Nat) (T : List Nd) : ∀ k, gos (opN op :: (List.replicate k (opN op) ++ numK i :: T)) = decide (0 < k)
  | 0 => by
    show goes (opN op) (numK i) = _
    rw [goes_to_num]
    rfl
  | k + 1 => by
    show goes (opN op) (opN op) = _
    rw [goes_op h]
    simp
/- the right kids of a row that leans left -/
def rts (r k : Nat) : List Wt := (List.range (k + 1)).map fun j => pl (r + 1) j false
theorem rts_succ (r k : Nat) : rts r (k + 1) = rts r k ++ [pl (r + 1) (k + 1) false] := by
  unfold rts
  rw [List.range_succ, List.map_append]
  rfl
theorem go_left {op : Int} {r : Nat} (h : RowK op r) (i : Nat) (T : List Nd) : ∀ (k : Nat) (S : List Wt) (d p : Nat), go (List.replicate (k + 1) (opN op) ++ numK i :: T) (pl r k true :: S) d p = go (numK i :: T) (pl r 0 false :: (rts r k ++ S)) (max d k) (p + (k + 1))
  | 0, S, d, p => by
    have he := ent_op h (numK i :: T) r 0 true
    rw [show gos (opN op :: numK i :: T) = false from gos_rep h i T 0] at he
    rw [if_neg (Nat.lt_irrefl r)] at he
    show go (opN op :: numK i :: T) _ _ _ = _
    rw [go_one rfl he]
    rfl
  | k + 1, S, d, p => by
    have he := ent_op h (List.replicate (k + 1) (opN op) ++ numK i :: T) r (k + 1) true
    rw [gos_rep h i T (k + 1)] at he
    rw [if_neg (Nat.lt_irrefl r)] at he
    show go (opN op :: (List.replicate (k + 1) (opN op) ++ numK i :: T)) _ _ _ = _
    rw [go_one rfl he]
    show go _ (pl r k true :: (pl (r + 1) (k + 1) false :: S)) _ _ = _
    rw [go_left h i T k, rts_succ, List.append_assoc, List.singleton_append]
    congr 1
    · show max (max d (k + 1 + (0 + 0))) k = max d (k + 1)
      omega
    · omega
theorem go_left0 {op : Int} {r : Nat} (h : RowK op r) (i : Nat) (T : List Nd) (k : Nat) (S : List Wt) (d p : Nat) : go (List.replicate (k + 1) (opN op) ++ numK i :: T) (pl 0 0 false :: S) d p = go (numK i :: T) (pl r 0 false :: (rts r k ++ S)) (max d k) (p + (k + 1)) := by
  have he := ent_op h (List.replicate k (opN op) ++ numK i :: T) 0 0 false
  rw [gos_rep h i T k, mks_rep h i T k, if_neg (Nat.not_lt_zero r)] at he
  have he' := ent_op h (List.replicate k (opN op) ++ numK i :: T) r k true
  rw [gos_rep h i T k, if_neg (Nat.lt_irrefl r)] at he'
  rw [← go_left h i T k S d p]
  show go (opN op :: (List.replicate k (opN op) ++ numK i :: T)) _ _ _ = go (opN op :: (List.replicate k (opN op) ++ numK i :: T)) _ _ _
  rw [go_one rfl he, go_one rfl he']
  have e : 0 + (0 + (if false = true then 0 else k)) = k + (0 + if true = true then 0 else mks (opN op :: (List.replicate k (opN op) ++ numK i :: T))) := by simp
  rw [e]
def numsL (j : Nat) : List Nd := (List.range j).map numK
def leftL (op : Int) (m : Nat) : List Nd := List.replicate m (opN op) ++ numsL (m + 1)
def prs (op : Int) (i : Nat) : List Nd := (List.range i).flatMap fun j => [opN op, numK j]
def rightL (op : Int) (m : Nat) : List Nd := prs op m ++ [numK m]
theorem ent_blk (x : Wt) (hx : x.plc = ⟨8, 0⟩) (hr : x.rest = false) : ent blkN [] x = some (x.opn + 1, [⟨⟨16, 0⟩, 0, x.opn + 1, false⟩]) := by
  obtain ⟨⟨tk, rk⟩, mn, op, rs⟩ := x
  simp only [Plc.mk.injEq] at hx
  obtain ⟨rfl, rfl⟩ := hx
  have hr : rs = false := hr
  subst hr
  have hm : more ⟨8, 0, false, 1, 0, .none, 16, []⟩ ⟨⟨8, 0⟩, mn, op, false⟩ 0 = 0 := by
    show (if (0 : Nat) < 0 then 1 else 0) + (if (8 : Nat) &&& 8 &&& 32 ≠ 0 then 1 else 0) + (if false = true then 0 else 0) = 0
    decide
  unfold ent
  rw [show blkN.op = 10 from rfl, kd10, if_neg (by
    rintro (h | h)
    · exact absurd h (show ¬ (8 : Nat) &&& 8 = 0 by decide)
    · exact absurd h (by decide)), show plcs ⟨8, 0, false, 1, 0, .none, 16, []⟩ blkN.kids = some ([⟨16, 0⟩], 0) by decide]
  simp only
  rw [show mks [blkN] = 0 from rfl, show gos [blkN] = false from rfl, hm]
  rfl
/- a block's place, at the end -/
def bpl (o : Nat) : Wt := ⟨⟨8, 0⟩, 1, o, false⟩
theorem go_blk (d p : Nat) : go [blkN] [bpl 0] d p = (max d 1, 0, true) := by
  rw [go_one rfl (ent_blk (bpl 0) rfl rfl)]
  rfl
theorem goes_on (k : Int) (x : Nd) : goes ⟨7, 0, 0, 0, [], 0, k⟩ x = false := by
  unfold goes
  rw [show (⟨7, 0, 0, 0, [], 0, k⟩ : Nd).op = 7 from rfl, kd7]
  rfl
theorem ent_on2 (x : Nd) (R : List Nd) : ent ⟨7, 0, 0, 0, [], 0, 2⟩ (x :: R) ⟨⟨4, 0⟩, 1, 0, false⟩ = some (0, [pl 0 0 false, bpl 0]) := by
  unfold ent
  rw [show mks (⟨7, 0, 0, 0, [], 0, 2⟩ :: x :: R) = 0 by rw [mks, goes_on]; rfl, show gos (⟨7, 0, 0, 0, [], 0, 2⟩ :: x :: R) = false from goes_on 2 x, show (⟨7, 0, 0, 0, [], 0, 2⟩ : Nd).op = 7 from rfl, kd7]
  rfl
theorem go_pre2 (x : Nd) (R : List Nd) : go (one3 2 ++ (x :: R)) [wroot] 0 0 = go (x :: R) [pl 0 0 false, bpl 0] 0 3 := by
  show go (⟨1, 0, 0, 0, [], 0, 1⟩ :: ⟨2, 0, 0, 0, [97], 0, 1⟩ :: ⟨7, 0, 0, 0, [], 0, 2⟩ :: x :: R) [wroot] 0 0 = _
  have h1 := go_one (a := ⟨1, 0, 0, 0, [], 0, 1⟩) (r := ⟨2, 0, 0, 0, [97], 0, 1⟩ :: ⟨7, 0, 0, 0, [], 0, 2⟩ :: x :: R) (x := wroot) (S := []) (d := 0) (p := 0) (o := 0) (ws := [⟨⟨2, 0⟩, 1, 0, false⟩]) rfl rfl
  have h2 := go_one (a := ⟨2, 0, 0, 0, [97], 0, 1⟩) (r := ⟨7, 0, 0, 0, [], 0, 2⟩ :: x :: R) (x := ⟨⟨2, 0⟩, 1, 0, false⟩) (S := []) (d := 0) (p := 1) (o := 0) (ws := [⟨⟨4, 0⟩, 1, 0, false⟩]) rfl rfl
  have h3 := go_one (a := ⟨7, 0, 0, 0, [], 0, 2⟩) (r := x :: R) (x := ⟨⟨4, 0⟩, 1, 0, false⟩) (S := []) (d := 0) (p := 2) (o := 0) (ws := [pl 0 0 false, bpl 0]) rfl (ent_on2 x R)
  exact h1.trans (h2.trans h3)
theorem dpt_left {op : Int} {r m : Nat} (h : RowK op r) (h1 : 1 ≤ m) (h2 : m ≤ 200) : dpt (oneL (leftL op m) [blkN]) = max 1 (m - 1) := by
  obtain ⟨k, rfl⟩ : ∃ k, m = k + 1 := ⟨m - 1, by omega⟩
  have hn : numsL (k + 1 + 1) ++ [blkN] = numK 0 :: (((List.range (k + 1)).map fun j => numK (j + 1)) ++ [blkN]) := by
    unfold numsL
    rw [List.range_succ_eq_map, List.map_cons, List.map_map, List.cons_append]
    rfl
  unfold dpt wlk oneL
  rw [if_neg (by simp [leftL, numsL])]
  unfold leftL
  rw [List.append_assoc, List.append_assoc, hn]
  show (go (one3 2 ++ (opN op :: (List.replicate k (opN op) ++ numK 0 :: (((List.range (k + 1)).map fun j => numK (j + 1)) ++ [blkN])))) [wroot] 0 0).1 = _
  rw [go_pre2]
  show (go (List.replicate (k + 1) (opN op) ++ numK 0 :: (((List.range (k + 1)).map fun j => numK (j + 1)) ++ [blkN])) [pl 0 0 false, bpl 0] 0 3).1 = _
  rw [go_left0 h]
  have h9 := go_nums (0 :: (List.range (k + 1)).map (· + 1)) (pl r 0 false :: rts r k) [blkN] [bpl 0] (max 0 k) (3 + (k + 1)) (by simp [rts]) (fun i hi => by
    rcases List.mem_cons.1 hi with rfl | hi
    · omega
    · obtain ⟨j, hj, rfl⟩ := List.mem_map.1 hi
      have := List.mem_range.1 hj
      omega) (fun e he => by
    rcases List.mem_cons.1 he with rfl | he
    · exact ⟨r, 0, false, rfl, by have := h.le; omega, by omega⟩
    · obtain ⟨j, hj, rfl⟩ := List.mem_map.1 he
      have := List.mem_range.1 hj
      exact ⟨r + 1, j, false, rfl, by have := h.le; omega, by omega⟩)
  rw [List.map_cons, List.map_map] at h9
  have e : go (numK 0 :: (((List.range (k + 1)).map fun j => numK (j + 1)) ++ [blkN])) (pl r 0 false :: (rts r k ++ [bpl 0])) (max 0 k) (3 + (k + 1)) = go [blkN] [bpl 0] (max 0 k) (3 + (k + 1) + (0 :: (List.range (k + 1)).map (· + 1)).length) := h9
  rw [e, go_blk]
  show max (max 0 k) 1 = max 1 (k + 1 - 1)
  omega
/- a row that leans right -/
def prsF (op : Int) (a : Nat) : Nat → List Nd
  | 0 => []
  | k + 1 => opN op :: numK a :: prsF op (a + 1) k
theorem go_right {op : Int} {r : Nat} (h : RowK op r) : ∀ (k a m b o : Nat) (S : List Wt) (d p : Nat), a + k ≤ 1000 → m ≤ 1000 → b ≤ 7 → o ≤ d → go (prsF op a k ++ numK m :: [blkN]) (pl b o false :: S) d p = go [blkN] S (if k = 0 then d else max d (o + (if r < b then 1 else 0) + (k - 1))) (p + 2 * k + 1)
  | 0, a, m, b, o, S, d, p, _, hm, hb, ho => by
    show go (numK m :: [blkN]) _ _ _ = _
    rw [go_one rfl (ent_num hm _ (by omega) false), Nat.max_eq_left ho]
    rfl
  | k + 1, a, m, b, o, S, d, p, ha, hm, hb, ho => by
    have he := ent_op h (numK a :: (prsF op (a + 1) k ++ numK m :: [blkN])) b o false
    rw [show gos (opN op :: numK a :: (prsF op (a + 1) k ++ numK m :: [blkN])) = false from gos_rep h a _ 0, show mks (opN op :: numK a :: (prsF op (a + 1) k ++ numK m :: [blkN])) = 0 from mks_rep h a _ 0] at he
    generalize hq : (if r < b then 1 else 0) = q at he ⊢
    have hq1 : q ≤ 1 := by rw [← hq]; split <;> omega
    show go (opN op :: numK a :: (prsF op (a + 1) k ++ numK m :: [blkN])) _ _ _ = _
    rw [go_one rfl he]
    show go (numK a :: (prsF op (a + 1) k ++ numK m :: [blkN])) (pl r (o + (q + 0)) false :: (pl (r + 1) (o + (q + 0)) false :: S)) (max d (o + (q + 0))) (p + 1) = _
    rw [go_one rfl (ent_num (by omega) _ (by have := h.le; omega) false), List.nil_append, go_right h k (a + 1) m (r + 1) (o + (q + 0)) S _ _ (by omega) hm h.le (by omega), if_pos (Nat.lt_succ_self r), if_neg (Nat.succ_ne_zero k)]
    congr 1
    · split
      · rename_i hk
        subst hk
        omega
      · omega
    · omega
theorem prs_eq (op : Int) : ∀ (k a : Nat), ((List.range k).map (· + a)).flatMap (fun j => [opN op, numK j]) = prsF op a k
  | 0, _ => rfl
  | k + 1, a => by
    rw [List.range_succ_eq_map, List.map_cons, List.flatMap_cons, List.map_map, prsF, ← prs_eq op k (a + 1)]
    have e : (List.range k).map ((fun x => x + a) ∘ Nat.succ) = (List.range k).map (· + (a + 1)) := List.map_congr_left (fun j _ => by show j + 1 + a = j + (a + 1); omega)
    rw [e, Nat.zero_add]
    rfl
theorem dpt_right {op : Int} {r m : Nat} (h : RowK op r) (h1 : 1 ≤ m) (h2 : m ≤ 200) : dpt (oneL (rightL op m) [blkN]) = max 1 (m - 1) := by
  obtain ⟨k, rfl⟩ : ∃ k, m = k + 1 := ⟨m - 1, by omega⟩
  have hp : prs op (k + 1) = prsF op 0 (k + 1) := by
    unfold prs
    rw [← prs_eq op (k + 1) 0]
    congr 1
    simp
  unfold dpt wlk oneL
  rw [if_neg (by simp [rightL])]
  unfold rightL
  rw [hp, List.append_assoc, List.append_assoc]
  show (go (one3 2 ++ (opN op :: (numK 0 :: (prsF op (0 + 1) k ++ numK (k + 1) :: [blkN])))) [wroot] 0 0).1 = _
  rw [go_pre2]
  show (go (prsF op 0 (k + 1) ++ numK (k + 1) :: [blkN]) [pl 0 0 false, bpl 0] 0 3).1 = _
  rw [go_right h (k + 1) 0 (k + 1) 0 0 [bpl 0] 0 3 (by omega) (by omega) (by omega) (Nat.le_refl _), if_neg (Nat.succ_ne_zero k), if_neg (Nat.not_lt_zero r), go_blk]
  show max (max 0 (0 + 0 + (k + 1 - 1))) 1 = max 1 (k + 1 - 1)
  omega
end TR
end Go.Proofs.Ytgahdppcdeefaaa
