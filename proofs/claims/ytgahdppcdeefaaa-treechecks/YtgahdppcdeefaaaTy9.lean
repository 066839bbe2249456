/-
  A block within ifs, rounds, elses: the whole.
-/
import Derived.Test.YtgahdppcdeefaaaTz9
import Derived.Test.YtgahdppcdeefaaaNf9
namespace Go.Proofs.Ytgahdppcdeefaaa
namespace TR
/- what is wanted no more says nothing -/
theorem pop_skip {z : Wt} (hz : z.many = 0) : ∀ A B, pop (A ++ z :: B) = match pop A with
    | [] => pop B
    | x :: A' => x :: (A' ++ z :: B)
  | [], B => by
    show pop (z :: B) = pop B
    rw [pop, if_pos hz]
  | a :: A, B => by
    rw [List.cons_append, pop, pop]
    by_cases h : a.many = 0
    · rw [if_pos h, if_pos h]
      exact pop_skip hz A B
    · rw [if_neg h, if_neg h]
theorem pop_app : ∀ A B, pop (A ++ B) = match pop A with
    | [] => pop B
    | x :: A' => x :: (A' ++ B)
  | [], B => rfl
  | a :: A, B => by
    rw [List.cons_append, pop, pop]
    by_cases h : a.many = 0
    · rw [if_pos h, if_pos h]
      exact pop_app A B
    · rw [if_neg h, if_neg h]
theorem go_cons (a : Nd) (r : List Nd) (S : List Wt) (d p : Nat) : go (a :: r) S d p = match pop S with
    | [] => (0, p, false)
    | x :: S' => match ent a r x with
      | none => (0, p, false)
      | some (o, ws) => go r (ws ++ { x with many := x.many - 1 } :: S') (max d o) (p + 1) := by
  rw [go]
  cases pop S with
  | nil => rfl
  | cons x S' =>
    simp only
    cases ent a r x with
    | none => rfl
    | some q => rfl
theorem go_skip {z : Wt} (hz : z.many = 0) : ∀ (l : List Nd) (A B : List Wt) (d p : Nat), go l (A ++ z :: B) d p = go l (A ++ B) d p
  | [], A, B, d, p => by
    rw [go, go, pop_skip hz, pop_app]
    cases pop A with
    | nil => rfl
    | cons x A' => simp
  | a :: r, A, B, d, p => by
    rw [go_cons, go_cons, pop_skip hz, pop_app]
    cases pop A with
    | nil => rfl
    | cons x A' =>
      simp only
      cases ent a r x with
      | none => rfl
      | some q =>
        obtain ⟨o, ws⟩ := q
        simp only
        have h := go_skip hz r (ws ++ { x with many := x.many - 1 } :: A') B (max d o) (p + 1)
        rw [List.append_assoc, List.append_assoc] at h
        exact h
/- a node with one place left: what it wants, and no more -/
theorem go_one {a : Nd} {r : List Nd} {x : Wt} {S : List Wt} {d p o : Nat} {ws : List Wt} (hx : x.many = 1) (he : ent a r x = some (o, ws)) : go (a :: r) (x :: S) d p = go r (ws ++ S) (max d o) (p + 1) := by
  rw [go_on (by omega), he]
  simp only
  exact go_skip (z := { x with many := x.many - 1 }) (show x.many - 1 = 0 by omega) r ws S _ _
def opN (op : Int) : Nd := ⟨op, 0, 0, 0, [], 0, 2⟩
def numK (i : Nat) : Nd := ⟨30, 0, (i : Int), 0, [], 0, 0⟩
def blkN : Nd := ⟨10, 0, 0, 0, [], 0, 0⟩
structure RowK (op : Int) (r : Nat) : Prop where
  is : (kd op).is = 64
  rank : (kd op).rank = r
  row : (kd op).row = true
  opens : (kd op).opens = 0
  fits : fits (kd op) (opN op) = true
  plcs : plcs (kd op) 2 = some ([⟨64, r⟩, ⟨64, r + 1⟩], 1)
  le : r + 1 ≤ 7
  pos : 1 ≤ r
theorem rowk {op : Int} (h : op = 36 ∨ op = 37 ∨ op = 44 ∨ op = 45 ∨ op = 46 ∨ op = 47 ∨ op = 48) : ∃ r, RowK op r := by
  rcases h with rfl | rfl | rfl | rfl | rfl | rfl | rfl
  · exact ⟨1, by decide, by decide, by decide, by decide, by decide, by decide, by decide, by decide⟩
  · exact ⟨2, by decide, by decide, by decide, by decide, by decide, by decide, by decide, by decide⟩
  · exact ⟨5, by decide, by decide, by decide, by decide, by decide, by decide, by decide, by decide⟩
  · exact ⟨5, by decide, by decide, by decide, by decide, by decide, by decide, by decide, by decide⟩
  · exact ⟨6, by decide, by decide, by decide, by decide, by decide, by decide, by decide, by decide⟩
  · exact ⟨6, by decide, by decide, by decide, by decide, by decide, by decide, by decide, by decide⟩
  · exact ⟨6, by decide, by decide, by decide, by decide, by decide, by decide, by decide, by decide⟩
def pl (b o : Nat) (g : Bool) : Wt := ⟨⟨64, b⟩, 1, o, g⟩
theorem kd10 : kd 10 = ⟨8, 0, false, 1, 0, .none, 16, []⟩ := by decide
theorem kd7 : kd 7 = ⟨4, 0, false, 0, 4, .none, 0, [[⟨8, 0⟩], [⟨64, 0⟩, ⟨8, 0⟩]]⟩ := by decide
theorem kd30 : kd 30 = ⟨64, 8, false, 0, big, .none, 0, []⟩ := by decide
theorem goes_num (i : Nat) (b : Nd) : goes (numK i) b = false := by
  unfold goes
  rw [show (numK i).op = 30 from rfl, kd30]
  rfl
theorem goes_to_num (a : Nd) (i : Nat) : goes a (numK i) = false := by
  unfold goes
  rw [show (numK i).op = 30 from rfl, kd30]
  simp
theorem mks_num (i : Nat) (r : List Nd) : mks (numK i :: r) = 0 := by
  cases r with
  | nil => rfl
  | cons b r =>
    rw [mks, goes_num]
    rfl
theorem gos_num (i : Nat) (r : List Nd) : gos (numK i :: r) = false := by
  cases r with
  | nil => rfl
  | cons b r => exact goes_num i b
theorem ent_num {i : Nat} (hi : i ≤ 1000) (r : List Nd) {b o : Nat} (hb : b ≤ 8) (g : Bool) : ent (numK i) r (pl b o g) = some (o, []) := by
  have hf : fits (kd 30) (numK i) = true := by
    rw [kd30]
    unfold fits
    have h1 : decide (0 ≤ (i : Int)) = true := by simp
    have h2 : decide ((i : Int) ≤ big) = true := by rw [decide_eq_true_eq]; unfold big; omega
    show ((0 : Int) == 0 && ((0 : Int) == 0 && (decide ((0 : Int) ≤ 0) && (decide (0 ≤ (i : Int)) && (decide ((i : Int) ≤ big) && Tx.ok .none []))))) = true
    rw [h1, h2]
    rfl
  unfold ent
  rw [show (numK i).op = 30 from rfl, hf, mks_num, gos_num, kd30]
  rw [if_neg (by
    rintro (h | h)
    · exact absurd h (by show ¬ (64 &&& 64 = 0); decide)
    · cases h)]
  have hp : plcs ⟨64, 8, false, 0, big, .none, 0, []⟩ (numK i).kids = some ([], 1) ∨ plcs ⟨64, 8, false, 0, big, .none, 0, []⟩ (numK i).kids = some ([], 0) := .inr (by show plcs _ 0 = _; decide)
  have hm : more ⟨64, 8, false, 0, big, .none, 0, []⟩ (pl b o g) 0 = 0 := by
    unfold more pl
    simp only
    rw [if_neg (by omega), if_neg (by decide)]
    split <;> rfl
  rcases hp with hp | hp
  all_goals
    rw [hp, hm]
    rfl
/- numbers at their places -/
theorem go_nums : ∀ (L : List Nat) (E : List Wt) (T : List Nd) (S : List Wt) (d p : Nat), L.length = E.length → (∀ i ∈ L, i ≤ 1000) → (∀ e ∈ E, ∃ b o g, e = pl b o g ∧ b ≤ 8 ∧ o ≤ d) → go (L.map numK ++ T) (E ++ S) d p = go T S d (p + L.length)
  | [], [], T, S, d, p, _, _, _ => rfl
  | [], _ :: _, _, _, _, _, h, _, _ => by cases h
  | _ :: _, [], _, _, _, _, h, _, _ => by cases h
  | i :: L, e :: E, T, S, d, p, hl, hi, he => by
    obtain ⟨b, o, g, rfl, hb, ho⟩ := he e (by simp)
    rw [List.map_cons, List.cons_append, List.cons_append, go_one rfl (ent_num (hi i (by simp)) _ hb g), Nat.max_eq_left ho, List.nil_append, go_nums L E T S d (p + 1) (by simpa using hl) (fun j hj => hi j (by simp [hj])) (fun e h => he e (by simp [h])), List.length_cons]
    congr 1
    omega
/- a row's mark -/
theorem ent_op {op : Int} {r : Nat} (h : RowK op r) (R : List Nd) (b o : Nat) (g : Bool) : ent (opN op) R (pl b o g) = some (o + ((if r < b then 1 else 0) + (if g then 0 else mks (opN op :: R))), [pl r (if gos (opN op :: R) then o + ((if r < b then 1 else 0) + (if g then 0 else mks (opN op :: R))) - 1 else o + ((if r < b then 1 else 0) + (if g then 0 else mks (opN op :: R)))) (gos (opN op :: R)), pl (r + 1) (o + ((if r < b then 1 else 0) + (if g then 0 else mks (opN op :: R)))) false]) := by
  unfold ent
  rw [show (opN op).op = op from rfl, h.fits, show (opN op).kids = 2 from rfl, h.plcs, h.is, h.opens]
  rw [if_neg (by
    rintro (h | h)
    · exact absurd h (by show ¬ (64 &&& 64 = 0); decide)
    · cases h)]
  have hm : more (kd op) (pl b o g) (mks (opN op :: R)) = (if r < b then 1 else 0) + (if g then 0 else mks (opN op :: R)) := by
    unfold more pl
    simp only
    rw [h.rank, h.is, if_neg (show ¬ (64 &&& 64 &&& 32 ≠ 0) by decide)]
    omega
  rw [hm]
  rfl
theorem goes_op {op : Int} {r : Nat} (h : RowK op r) : goes (opN op) (opN op) = true := by
  unfold goes
  rw [show (opN op).op = op from rfl, h.row]
  simp
theorem mks_rep {op : Int} {r : Nat} (h : RowK op r) (i : Nat) (T : List Nd) : ∀ k, mks (opN op :: (List.replicate k (opN op) ++ numK i :: T)) = k
  | 0 => by
    show mks (opN op :: numK i :: T) = 0
    rw [mks, goes_to_num]
    rfl
  | k + 1 => by
    show mks (opN op :: opN op :: (List.replicate k (opN op) ++ numK i :: T)) = k + 1
    rw [mks, goes_op h, if_pos rfl, mks_rep h i T k]
theorem gos_rep {op : Int} {r : Nat} (h : RowK op r) (i : Nat) (T : List Nd) : ∀ k, gos (opN op :: (List.replicate k (opN op) ++ numK i :: T)) = decide (0 < k)
  | 0 => by
    show goes (opN op) (numK i) = _
    rw [goes_to_num]
    rfl
  | k + 1 => by
    show goes (opN op) (opN op) = _
    rw [goes_op h]
    simp
/- the right kids of a row that leans left -/
def rts (r k : Nat) : List Wt := (List.range (k + 1)).map fun j => pl (r + 1) j false
theorem rts_succ (r k : Nat) : rts r (k + 1) = rts r k ++ [pl (r + 1) (k + 1) false] := by
  unfold rts
  rw [List.range_succ, List.map_append]
  rfl
theorem go_left {op : Int} {r : Nat} (h : RowK op r) (i : Nat) (T : List Nd) : ∀ (k : Nat) (S : List Wt) (d p : Nat), go (List.replicate (k + 1) (opN op) ++ numK i :: T) (pl r k true :: S) d p = go (numK i :: T) (pl r 0 false :: (rts r k ++ S)) (max d k) (p + (k + 1))
  | 0, S, d, p => by
    have he := ent_op h (numK i :: T) r 0 true
    rw [show gos (opN op :: numK i :: T) = false from gos_rep h i T 0] at he
    rw [if_neg (Nat.lt_irrefl r)] at he
    show go (opN op :: numK i :: T) _ _ _ = _
    rw [go_one rfl he]
    rfl
  | k + 1, S, d, p => by
    have he := ent_op h (List.replicate (k + 1) (opN op) ++ numK i :: T) r (k + 1) true
    rw [gos_rep h i T (k + 1)] at he
    rw [if_neg (Nat.lt_irrefl r)] at he
    show go (opN op :: (List.replicate (k + 1) (opN op) ++ numK i :: T)) _ _ _ = _
    rw [go_one rfl he]
    show go _ (pl r k true :: (pl (r + 1) (k + 1) false :: S)) _ _ = _
    rw [go_left h i T k, rts_succ, List.append_assoc, List.singleton_append]
    congr 1
    · show max (max d (k + 1 + (0 + 0))) k = max d (k + 1)
      omega
    · omega
theorem go_left0 {op : Int} {r : Nat} (h : RowK op r) (i : Nat) (T : List Nd) (k : Nat) (S : List Wt) (d p : Nat) : go (List.replicate (k + 1) (opN op) ++ numK i :: T) (pl 0 0 false :: S) d p = go (numK i :: T) (pl r 0 false :: (rts r k ++ S)) (max d k) (p + (k + 1)) := by
  have he := ent_op h (List.replicate k (opN op) ++ numK i :: T) 0 0 false
  rw [gos_rep h i T k, mks_rep h i T k, if_neg (Nat.not_lt_zero r)] at he
  have he' := ent_op h (List.replicate k (opN op) ++ numK i :: T) r k true
  rw [gos_rep h i T k, if_neg (Nat.lt_irrefl r)] at he'
  rw [← go_left h i T k S d p]
  show go (opN op :: (List.replicate k (opN op) ++ numK i :: T)) _ _ _ = go (opN op :: (List.replicate k (opN op) ++ numK i :: T)) _ _ _
  rw [go_one rfl he, go_one rfl he']
  have e : 0 + (0 + (if false = true then 0 else k)) = k + (0 + if true = true then 0 else mks (opN op :: (List.replicate k (opN op) ++ numK i :: T))) := by simp
  rw [e]
def numsL (j : Nat) : List Nd := (List.range j).map numK
def leftL (op : Int) (m : Nat) : List Nd := List.replicate m (opN op) ++ numsL (m + 1)
def prs (op : Int) (i : Nat) : List Nd := (List.range i).flatMap fun j => [opN op, numK j]
def rightL (op : Int) (m : Nat) : List Nd := prs op m ++ [numK m]
theorem ent_blk (x : Wt) (hx : x.plc = ⟨8, 0⟩) (hr : x.rest = false) : ent blkN [] x = some (x.opn + 1, [⟨⟨16, 0⟩, 0, x.opn + 1, false⟩]) := by
  obtain ⟨⟨tk, rk⟩, mn, op, rs⟩ := x
  simp only [Plc.mk.injEq] at hx
  obtain ⟨rfl, rfl⟩ := hx
  have hr : rs = false := hr
  subst hr
  have hm : more ⟨8, 0, false, 1, 0, .none, 16, []⟩ ⟨⟨8, 0⟩, mn, op, false⟩ 0 = 0 := by
    show (if (0 : Nat) < 0 then 1 else 0) + (if (8 : Nat) &&& 8 &&& 32 ≠ 0 then 1 else 0) + (if false = true then 0 else 0) = 0
    decide
  unfold ent
  rw [show blkN.op = 10 from rfl, kd10, if_neg (by
    rintro (h | h)
    · exact absurd h (show ¬ (8 : Nat) &&& 8 = 0 by decide)
    · exact absurd h (by decide)), show plcs ⟨8, 0, false, 1, 0, .none, 16, []⟩ blkN.kids = some ([⟨16, 0⟩], 0) by decide]
  simp only
  rw [show mks [blkN] = 0 from rfl, show gos [blkN] = false from rfl, hm]
  rfl
/- a block's place, at the end -/
def bpl (o : Nat) : Wt := ⟨⟨8, 0⟩, 1, o, false⟩
theorem go_blk (d p : Nat) : go [blkN] [bpl 0] d p = (max d 1, 0, true) := by
  rw [go_one rfl (ent_blk (bpl 0) rfl rfl)]
  rfl
theorem goes_on (k : Int) (x : Nd) : goes ⟨7, 0, 0, 0, [], 0, k⟩ x = false := by
  unfold goes
  rw [show (⟨7, 0, 0, 0, [], 0, k⟩ : Nd).op = 7 from rfl, kd7]
  rfl
theorem ent_on2 (x : Nd) (R : List Nd) : ent ⟨7, 0, 0, 0, [], 0, 2⟩ (x :: R) ⟨⟨4, 0⟩, 1, 0, false⟩ = some (0, [pl 0 0 false, bpl 0]) := by
  unfold ent
  rw [show mks (⟨7, 0, 0, 0, [], 0, 2⟩ :: x :: R) = 0 by rw [mks, goes_on]; rfl, show gos (⟨7, 0, 0, 0, [], 0, 2⟩ :: x :: R) = false from goes_on 2 x, show (⟨7, 0, 0, 0, [], 0, 2⟩ : Nd).op = 7 from rfl, kd7]
  rfl
theorem go_pre2 (x : Nd) (R : List Nd) : go (one3 2 ++ (x :: R)) [wroot] 0 0 = go (x :: R) [pl 0 0 false, bpl 0] 0 3 := by
  show go (⟨1, 0, 0, 0, [], 0, 1⟩ :: ⟨2, 0, 0, 0, [97], 0, 1⟩ :: ⟨7, 0, 0, 0, [], 0, 2⟩ :: x :: R) [wroot] 0 0 = _
  have h1 := go_one (a := ⟨1, 0, 0, 0, [], 0, 1⟩) (r := ⟨2, 0, 0, 0, [97], 0, 1⟩ :: ⟨7, 0, 0, 0, [], 0, 2⟩ :: x :: R) (x := wroot) (S := []) (d := 0) (p := 0) (o := 0) (ws := [⟨⟨2, 0⟩, 1, 0, false⟩]) rfl rfl
  have h2 := go_one (a := ⟨2, 0, 0, 0, [97], 0, 1⟩) (r := ⟨7, 0, 0, 0, [], 0, 2⟩ :: x :: R) (x := ⟨⟨2, 0⟩, 1, 0, false⟩) (S := []) (d := 0) (p := 1) (o := 0) (ws := [⟨⟨4, 0⟩, 1, 0, false⟩]) rfl rfl
  have h3 := go_one (a := ⟨7, 0, 0, 0, [], 0, 2⟩) (r := x :: R) (x := ⟨⟨4, 0⟩, 1, 0, false⟩) (S := []) (d := 0) (p := 2) (o := 0) (ws := [pl 0 0 false, bpl 0]) rfl (ent_on2 x R)
  exact h1.trans (h2.trans h3)
theorem dpt_left {op : Int} {r m : Nat} (h : RowK op r) (h1 : 1 ≤ m) (h2 : m ≤ 200) : dpt (oneL (leftL op m) [blkN]) = max 1 (m - 1) := by
  obtain ⟨k, rfl⟩ : ∃ k, m = k + 1 := ⟨m - 1, by omega⟩
  have hn : numsL (k + 1 + 1) ++ [blkN] = numK 0 :: (((List.range (k + 1)).map fun j => numK (j + 1)) ++ [blkN]) := by
    unfold numsL
    rw [List.range_succ_eq_map, List.map_cons, List.map_map, List.cons_append]
    rfl
  unfold dpt wlk oneL
  rw [if_neg (by simp [leftL, numsL])]
  unfold leftL
  rw [List.append_assoc, List.append_assoc, hn]
  show (go (one3 2 ++ (opN op :: (List.replicate k (opN op) ++ numK 0 :: (((List.range (k + 1)).map fun j => numK (j + 1)) ++ [blkN])))) [wroot] 0 0).1 = _
  rw [go_pre2]
  show (go (List.replicate (k + 1) (opN op) ++ numK 0 :: (((List.range (k + 1)).map fun j => numK (j + 1)) ++ [blkN])) [pl 0 0 false, bpl 0] 0 3).1 = _
  rw [go_left0 h]
  have h9 := go_nums (0 :: (List.range (k + 1)).map (· + 1)) (pl r 0 false :: rts r k) [blkN] [bpl 0] (max 0 k) (3 + (k + 1)) (by simp [rts]) (fun i hi => by
    rcases List.mem_cons.1 hi with rfl | hi
    · omega
    · obtain ⟨j, hj, rfl⟩ := List.mem_map.1 hi
      have := List.mem_range.1 hj
      omega) (fun e he => by
    rcases List.mem_cons.1 he with rfl | he
    · exact ⟨r, 0, false, rfl, by have := h.le; omega, by omega⟩
    · obtain ⟨j, hj, rfl⟩ := List.mem_map.1 he
      have := List.mem_range.1 hj
      exact ⟨r + 1, j, false, rfl, by have := h.le; omega, by omega⟩)
  rw [List.map_cons, List.map_map] at h9
  have e : go (numK 0 :: (((List.range (k + 1)).map fun j => numK (j + 1)) ++ [blkN])) (pl r 0 false :: (rts r k ++ [bpl 0])) (max 0 k) (3 + (k + 1)) = go [blkN] [bpl 0] (max 0 k) (3 + (k + 1) + (0 :: (List.range (k + 1)).map (· + 1)).length) := h9
  rw [e, go_blk]
  show max (max 0 k) 1 = max 1 (k + 1 - 1)
  omega
/- a row that leans right -/
def prsF (op : Int) (a : Nat) : Nat → List Nd
  | 0 => []
  | k + 1 => opN op :: numK a :: prsF op (a + 1) k
theorem go_right {op : Int} {r : Nat} (h : RowK op r) : ∀ (k a m b o : Nat) (S : List Wt) (d p : Nat), a + k ≤ 1000 → m ≤ 1000 → b ≤ 7 → o ≤ d → go (prsF op a k ++ numK m :: [blkN]) (pl b o false :: S) d p = go [blkN] S (if k = 0 then d else max d (o + (if r < b then 1 else 0) + (k - 1))) (p + 2 * k + 1)
  | 0, a, m, b, o, S, d, p, _, hm, hb, ho => by
    show go (numK m :: [blkN]) _ _ _ = _
    rw [go_one rfl (ent_num hm _ (by omega) false), Nat.max_eq_left ho]
    rfl
  | k + 1, a, m, b, o, S, d, p, ha, hm, hb, ho => by
    have he := ent_op h (numK a :: (prsF op (a + 1) k ++ numK m :: [blkN])) b o false
    rw [show gos (opN op :: numK a :: (prsF op (a + 1) k ++ numK m :: [blkN])) = false from gos_rep h a _ 0, show mks (opN op :: numK a :: (prsF op (a + 1) k ++ numK m :: [blkN])) = 0 from mks_rep h a _ 0] at he
    generalize hq : (if r < b then 1 else 0) = q at he ⊢
    have hq1 : q ≤ 1 := by rw [← hq]; split <;> omega
    show go (opN op :: numK a :: (prsF op (a + 1) k ++ numK m :: [blkN])) _ _ _ = _
    rw [go_one rfl he]
    show go (numK a :: (prsF op (a + 1) k ++ numK m :: [blkN])) (pl r (o + (q + 0)) false :: (pl (r + 1) (o + (q + 0)) false :: S)) (max d (o + (q + 0))) (p + 1) = _
    rw [go_one rfl (ent_num (by omega) _ (by have := h.le; omega) false), List.nil_append, go_right h k (a + 1) m (r + 1) (o + (q + 0)) S _ _ (by omega) hm h.le (by omega), if_pos (Nat.lt_succ_self r), if_neg (Nat.succ_ne_zero k)]
    congr 1
    · split
      · rename_i hk
        subst hk
        omega
      · omega
    · omega
theorem prs_eq (op : Int) : ∀ (k a : Nat), ((List.range k).map (· + a)).flatMap (fun j => [opN op, numK j]) = prsF op a k
  | 0, _ => rfl
  | k + 1, a => by
    rw [List.range_succ_eq_map, List.map_cons, List.flatMap_cons, List.map_map, prsF, ← prs_eq op k (a + 1)]
    have e : (List.range k).map ((fun x => x + a) ∘ Nat.succ) = (List.range k).map (· + (a + 1)) := List.map_congr_left (fun j _ => by show j + 1 + a = j + (a + 1); omega)
    rw [e, Nat.zero_add]
    rfl
theorem dpt_right {op : Int} {r m : Nat} (h : RowK op r) (h1 : 1 ≤ m) (h2 : m ≤ 200) : dpt (oneL (rightL op m) [blkN]) = max 1 (m - 1) := by
  obtain ⟨k, rfl⟩ : ∃ k, m = k + 1 := ⟨m - 1, by omega⟩
  have hp : prs op (k + 1) = prsF op 0 (k + 1) := by
    unfold prs
    rw [← prs_eq op (k + 1) 0]
    congr 1
    simp
  unfold dpt wlk oneL
  rw [if_neg (by simp [rightL])]
  unfold rightL
  rw [hp, List.append_assoc, List.append_assoc]
  show (go (one3 2 ++ (opN op :: (numK 0 :: (prsF op (0 + 1) k ++ numK (k + 1) :: [blkN])))) [wroot] 0 0).1 = _
  rw [go_pre2]
  show (go (prsF op 0 (k + 1) ++ numK (k + 1) :: [blkN]) [pl 0 0 false, bpl 0] 0 3).1 = _
  rw [go_right h (k + 1) 0 (k + 1) 0 0 [bpl 0] 0 3 (by omega) (by omega) (by omega) (Nat.le_refl _), if_neg (Nat.succ_ne_zero k), if_neg (Nat.not_lt_zero r), go_blk]
  show max (max 0 (0 + 0 + (k + 1 - 1))) 1 = max 1 (k + 1 - 1)
  omega
end TR
end Go.Proofs.Ytgahdppcdeefaaa
namespace Go.Proofs.Ytgahdppcdeefaaa
namespace TR
/- a node that is no row -/
theorem mks_flat {a : Nd} (h : (kd a.op).row = false) (R : List Nd) : mks (a :: R) = 0 := by
  cases R with
  | nil => rfl
  | cons b R =>
    rw [mks]
    unfold goes
    rw [h]
    rfl
theorem gos_flat {a : Nd} (h : (kd a.op).row = false) (R : List Nd) : gos (a :: R) = false := by
  cases R with
  | nil => rfl
  | cons b R =>
    show goes a b = false
    unfold goes
    rw [h]
    rfl
/- a node that is no row: what it wants -/
theorem ent_flat {a : Nd} {k : Kd} (hk : kd a.op = k) (hrow : k.row = false) {tk mn c : Nat} {R : List Nd} {ps : List Plc} {many m : Nat} (ht : k.is &&& tk ≠ 0) (hf : fits k a = true) (hp : plcs k a.kids = some (ps, many)) (hm : (if k.rank < 0 then 1 else 0) + (if k.is &&& tk &&& 32 ≠ 0 then 1 else 0) = m) : ent a R ⟨⟨tk, 0⟩, mn, c, false⟩ = some (c + m + k.opens, ps.map fun q => ⟨q, many, c + m + k.opens, false⟩) := by
  unfold ent
  rw [hk, hf, hp, mks_flat (by rw [hk]; exact hrow), gos_flat (by rw [hk]; exact hrow)]
  rw [if_neg (by
    rintro (h | h)
    · exact ht h
    · cases h)]
  have h9 : more k ⟨⟨tk, 0⟩, mn, c, false⟩ 0 = m := by
    unfold more
    rw [← hm]
    rfl
  simp only
  rw [h9, wants_no]
def blk1 : Nd := ⟨10, 0, 0, 0, [], 0, 1⟩
def if2 : Nd := ⟨13, 0, 0, 0, [], 0, 2⟩
def if3 : Nd := ⟨13, 0, 0, 0, [], 0, 3⟩
def truN : Nd := ⟨31, 0, 0, 0, [], 0, 0⟩
def falN : Nd := ⟨32, 0, 0, 0, [], 0, 0⟩
def repN (i : Nat) : Nd := ⟨14, 0, (i : Int), 0, [105], 0, 1⟩
theorem kd13 : kd 13 = ⟨48, 0, false, 0, 0, .none, 0, [[⟨64, 0⟩, ⟨8, 0⟩], [⟨64, 0⟩, ⟨8, 0⟩, ⟨40, 0⟩]]⟩ := by decide
theorem kd14 : kd 14 = ⟨16, 0, false, 0, big, .free [], 0, [[⟨8, 0⟩]]⟩ := by decide
theorem kd31 : kd 31 = ⟨64, 8, false, 0, 0, .none, 0, []⟩ := by decide
theorem kd32 : kd 32 = ⟨64, 8, false, 0, 0, .none, 0, []⟩ := by decide
def spl (o : Nat) : Wt := ⟨⟨16, 0⟩, 1, o, false⟩
def epl (o : Nat) : Wt := ⟨⟨40, 0⟩, 1, o, false⟩
theorem ent_blk1 (c : Nat) (R : List Nd) : ent blk1 R (bpl c) = some (c + 1, [spl (c + 1)]) :=
  ent_flat (a := blk1) kd10 rfl (tk := 8) (mn := 1) (c := c) (R := R) (ps := [⟨16, 0⟩]) (many := 1) (m := 0) (by decide) (by decide) (by decide) (by decide)
theorem ent_blk0 (c : Nat) (R : List Nd) : ent blkN R (bpl c) = some (c + 1, [⟨⟨16, 0⟩, 0, c + 1, false⟩]) :=
  ent_flat (a := blkN) kd10 rfl (tk := 8) (mn := 1) (c := c) (R := R) (ps := [⟨16, 0⟩]) (many := 0) (m := 0) (by decide) (by decide) (by decide) (by decide)
theorem ent_if2 (c : Nat) (R : List Nd) : ent if2 R (spl c) = some (c, [pl 0 c false, bpl c]) :=
  ent_flat (a := if2) kd13 rfl (tk := 16) (mn := 1) (c := c) (R := R) (ps := [⟨64, 0⟩, ⟨8, 0⟩]) (many := 1) (m := 0) (by decide) (by decide) (by decide) (by decide)
theorem ent_if3 (c : Nat) (R : List Nd) : ent if3 R (spl c) = some (c, [pl 0 c false, bpl c, epl c]) :=
  ent_flat (a := if3) kd13 rfl (tk := 16) (mn := 1) (c := c) (R := R) (ps := [⟨64, 0⟩, ⟨8, 0⟩, ⟨40, 0⟩]) (many := 1) (m := 0) (by decide) (by decide) (by decide) (by decide)
theorem ent_if3e (c : Nat) (R : List Nd) : ent if3 R (epl c) = some (c + 1, [pl 0 (c + 1) false, bpl (c + 1), epl (c + 1)]) :=
  ent_flat (a := if3) kd13 rfl (tk := 40) (mn := 1) (c := c) (R := R) (ps := [⟨64, 0⟩, ⟨8, 0⟩, ⟨40, 0⟩]) (many := 1) (m := 1) (by decide) (by decide) (by decide) (by decide)
theorem ent_tru (c : Nat) (R : List Nd) : ent truN R (pl 0 c false) = some (c, []) :=
  ent_flat (a := truN) kd31 rfl (tk := 64) (mn := 1) (c := c) (R := R) (ps := []) (many := 0) (m := 0) (by decide) (by decide) (by decide) (by decide)
theorem ent_fal (c : Nat) (R : List Nd) : ent falN R (pl 0 c false) = some (c, []) :=
  ent_flat (a := falN) kd32 rfl (tk := 64) (mn := 1) (c := c) (R := R) (ps := []) (many := 0) (m := 0) (by decide) (by decide) (by decide) (by decide)
theorem fits_rep {i : Nat} (hi : i ≤ 1000) : fits ⟨16, 0, false, 0, big, .free [], 0, [[⟨8, 0⟩]]⟩ (repN i) = true := by
  have h1 : decide (0 ≤ (i : Int)) = true := by simp
  have h2 : decide ((i : Int) ≤ big) = true := by rw [decide_eq_true_eq]; unfold big; omega
  show ((0 : Int) == 0 && ((0 : Int) == 0 && (decide ((0 : Int) ≤ 0) && (decide (0 ≤ (i : Int)) && (decide ((i : Int) ≤ big) && Tx.ok (.free []) [105]))))) = true
  rw [h1, h2]
  decide
theorem ent_rep {i : Nat} (hi : i ≤ 1000) (c : Nat) (R : List Nd) : ent (repN i) R (spl c) = some (c, [bpl c]) :=
  ent_flat (a := repN i) (k := ⟨16, 0, false, 0, big, .free [], 0, [[⟨8, 0⟩]]⟩) kd14 rfl (tk := 16) (mn := 1) (c := c) (R := R) (ps := [⟨8, 0⟩]) (many := 1) (m := 0) (by decide) (fits_rep hi) (by show plcs _ 1 = _; decide) (by decide)
/- ifs -/
def ifsL : Nat → List Nd
  | 0 => []
  | n + 1 => ifsL n ++ [blk1, if2, truN]
theorem go_if (R : List Nd) (S : List Wt) (c d p : Nat) : go ([blk1, if2, truN] ++ R) (bpl c :: S) d p = go R (bpl (c + 1) :: S) (max d (c + 1)) (p + 3) := by
  have h1 := go_one (a := blk1) (r := if2 :: truN :: R) (x := bpl c) (S := S) (d := d) (p := p) rfl (ent_blk1 c _)
  have h2 := go_one (a := if2) (r := truN :: R) (x := spl (c + 1)) (S := S) (d := max d (c + 1)) (p := p + 1) rfl (ent_if2 (c + 1) _)
  have h3 := go_one (a := truN) (r := R) (x := pl 0 (c + 1) false) (S := bpl (c + 1) :: S) (d := max (max d (c + 1)) (c + 1)) (p := p + 1 + 1) rfl (ent_tru (c + 1) _)
  refine h1.trans (h2.trans (h3.trans ?_))
  show go R (bpl (c + 1) :: S) (max (max (max d (c + 1)) (c + 1)) (c + 1)) (p + 3) = _
  congr 1
  omega
theorem go_ifs (S : List Wt) : ∀ (n : Nat) (R : List Nd) (c d p : Nat), go (ifsL n ++ R) (bpl c :: S) d p = go R (bpl (c + n) :: S) (if n = 0 then d else max d (c + n)) (p + 3 * n)
  | 0, _, _, _, _ => rfl
  | n + 1, R, c, d, p => by
    rw [ifsL, List.append_assoc, go_ifs S n, go_if, if_neg (Nat.succ_ne_zero n)]
    congr 1
    split <;> omega
/- rounds -/
def rndL : Nat → List Nd
  | 0 => []
  | n + 1 => rndL n ++ [blk1, repN n]
theorem go_rnd {i : Nat} (hi : i ≤ 1000) (R : List Nd) (S : List Wt) (c d p : Nat) : go ([blk1, repN i] ++ R) (bpl c :: S) d p = go R (bpl (c + 1) :: S) (max d (c + 1)) (p + 2) := by
  have h1 := go_one (a := blk1) (r := repN i :: R) (x := bpl c) (S := S) (d := d) (p := p) rfl (ent_blk1 c _)
  have h2 := go_one (a := repN i) (r := R) (x := spl (c + 1)) (S := S) (d := max d (c + 1)) (p := p + 1) rfl (ent_rep hi (c + 1) _)
  refine h1.trans (h2.trans ?_)
  show go R (bpl (c + 1) :: S) (max (max d (c + 1)) (c + 1)) (p + 2) = _
  congr 1
  omega
theorem go_rnds (S : List Wt) : ∀ (n : Nat), n ≤ 1000 → ∀ (R : List Nd) (c d p : Nat), go (rndL n ++ R) (bpl c :: S) d p = go R (bpl (c + n) :: S) (if n = 0 then d else max d (c + n)) (p + 2 * n)
  | 0, _, _, _, _, _ => rfl
  | n + 1, hn, R, c, d, p => by
    rw [rndL, List.append_assoc, go_rnds S n (by omega), go_rnd (by omega), if_neg (Nat.succ_ne_zero n)]
    congr 1
    split <;> omega
/- elses -/
def elsL : Nat → List Nd
  | 0 => []
  | n + 1 => elsL n ++ [if3, falN, blkN]
theorem go_els1 {x : Wt} {o : Nat} (hx : x.many = 1) (he : ∀ R, ent if3 R x = some (o, [pl 0 o false, bpl o, epl o])) (R : List Nd) (S : List Wt) (d p : Nat) : go ([if3, falN, blkN] ++ R) (x :: S) d p = go R (epl o :: S) (max d (o + 1)) (p + 3) := by
  have h1 := go_one (a := if3) (r := falN :: blkN :: R) (x := x) (S := S) (d := d) (p := p) hx (he _)
  have h2 := go_one (a := falN) (r := blkN :: R) (x := pl 0 o false) (S := bpl o :: epl o :: S) (d := max d o) (p := p + 1) rfl (ent_fal o _)
  have h3 := go_one (a := blkN) (r := R) (x := bpl o) (S := epl o :: S) (d := max (max d o) o) (p := p + 1 + 1) rfl (ent_blk0 o _)
  have h4 := go_skip (z := ⟨⟨16, 0⟩, 0, o + 1, false⟩) rfl R [] (epl o :: S) (max (max (max d o) o) (o + 1)) (p + 1 + 1 + 1)
  refine h1.trans (h2.trans (h3.trans (h4.trans ?_)))
  show go R (epl o :: S) (max (max (max d o) o) (o + 1)) (p + 3) = _
  congr 1
  omega
theorem go_els (S : List Wt) : ∀ (n : Nat) (R : List Nd) (c d p : Nat), go (elsL (n + 1) ++ R) (spl c :: S) d p = go R (epl (c + n) :: S) (max d (c + n + 1)) (p + 3 * (n + 1))
  | 0, R, c, d, p => by
    show go ([if3, falN, blkN] ++ R) _ _ _ = _
    rw [go_els1 (x := spl c) rfl (ent_if3 c)]
    rfl
  | n + 1, R, c, d, p => by
    rw [elsL, List.append_assoc, go_els S n, go_els1 (x := epl (c + n)) rfl (ent_if3e (c + n))]
    congr 1
    omega
/- more around it -/
def upW (c : Nat) (x : Wt) : Wt := { x with opn := x.opn + c }
theorem pop_up (c : Nat) : ∀ S : List Wt, pop (S.map (upW c)) = (pop S).map (upW c)
  | [] => rfl
  | x :: S => by
    rw [List.map_cons, pop, pop]
    by_cases h : x.many = 0
    · rw [if_pos h, if_pos (show (upW c x).many = 0 from h), pop_up c S]
    · rw [if_neg h, if_neg (show ¬ (upW c x).many = 0 from h), List.map_cons]
theorem ent_up {a : Nd} {r : List Nd} {x : Wt} {o : Nat} {ws : List Wt} (c : Nat) (hr : x.rest = true → mks (a :: r) ≤ x.opn) (h : ent a r x = some (o, ws)) : ent a r (upW c x) = some (o + c, ws.map (upW c)) := by
  unfold ent at h ⊢
  split at h
  · cases h
  · rename_i h0
    rw [if_neg (show ¬ ((kd a.op).is &&& (upW c x).plc.takes = 0 ∨ fits (kd a.op) a = false) from h0)]
    cases hp : plcs (kd a.op) a.kids with
    | none => rw [hp] at h; cases h
    | some q =>
      obtain ⟨ps, many⟩ := q
      rw [hp] at h
      simp only [Option.some.injEq, Prod.mk.injEq] at h ⊢
      obtain ⟨rfl, rfl⟩ := h
      have hm : more (kd a.op) (upW c x) (mks (a :: r)) = more (kd a.op) x (mks (a :: r)) := rfl
      have ho : (upW c x).opn = x.opn + c := rfl
      rw [hm, ho]
      have he : x.opn + c + more (kd a.op) x (mks (a :: r)) + (kd a.op).opens = x.opn + more (kd a.op) x (mks (a :: r)) + (kd a.op).opens + c := by omega
      refine ⟨he, ?_⟩
      rw [he]
      have hg : gos (a :: r) = true → 1 ≤ x.opn + more (kd a.op) x (mks (a :: r)) + (kd a.op).opens := fun hg => by
        have h1 : 1 ≤ mks (a :: r) := by
          cases r with
          | nil => cases hg
          | cons b r =>
            have hg : goes a b = true := hg
            rw [mks, hg, if_pos rfl]
            omega
        cases hx : x.rest with
        | true => have := hr hx; omega
        | false =>
          have : mks (a :: r) ≤ more (kd a.op) x (mks (a :: r)) := by
            unfold more
            rw [hx]
            simp
          omega
      cases ps with
      | nil => rfl
      | cons q ps =>
        cases hgb : gos (a :: r) with
        | true =>
          have h1 := hg hgb
          unfold wants
          rw [List.map_cons, List.map_map, if_pos rfl, if_pos rfl]
          have e9 : x.opn + more (kd a.op) x (mks (a :: r)) + (kd a.op).opens + c - 1 = x.opn + more (kd a.op) x (mks (a :: r)) + (kd a.op).opens - 1 + c := by omega
          rw [e9]
          rfl
        | false =>
          unfold wants
          rw [List.map_cons, List.map_map]
          rfl
theorem rs_pops {l : List Nd} {p : Nat} : ∀ {S : List Wt}, RS l p S → RS l p (pop S)
  | [], h => h
  | x :: S, h => by
    rw [pop]
    split
    · exact rs_pops h.tail
    · exact h
theorem pop_ne : ∀ {S : List Wt} {x : Wt} {S' : List Wt}, pop S = x :: S' → x.many ≠ 0
  | [], x, S', h => by cases h
  | y :: S, x, S', h => by
    rw [pop] at h
    split at h
    · exact pop_ne h
    · rename_i hy
      cases h
      exact hy
theorem go_up (c : Nat) {l : List Nd} (hk : ∀ a ∈ l, a.kids ≤ 9223372036854775807) : ∀ (r : List Nd) (p : Nat) (S : List Wt) (d q : Nat), l.drop p = r → RS l p S → (go r S d q).2.2 = true → ∀ q', go r (S.map (upW c)) (d + c) q' = ((go r S d q).1 + c, 0, true)
  | [], p, S, d, q, _, _, h, q' => by
    unfold go at h ⊢
    rw [pop_up]
    by_cases hp : pop S = []
    · rw [if_pos hp] at h ⊢
      rw [hp, List.map_nil, if_pos rfl]
    · rw [if_neg hp] at h
      cases h
  | a :: r, p, S, d, q, hd, hrs, h, q' => by
    rw [go_cons] at h ⊢
    rw [go_cons, pop_up]
    have hrp := rs_pops hrs
    cases hp : pop S with
    | nil => rw [hp] at h; cases h
    | cons x S' =>
      rw [hp] at h hrp
      have hx : x.many ≠ 0 := pop_ne hp
      rw [List.map_cons]
      simp only at h ⊢
      cases he : ent a r x with
      | none => rw [he] at h; cases h
      | some w =>
        obtain ⟨o, ws⟩ := w
        rw [he] at h
        have hdr : l.drop (p + 1) = r := by
          have : l.drop (p + 1) = (l.drop p).drop 1 := by rw [List.drop_drop]
          rw [this, hd]
          rfl
        have hent : TR.ent a (l.drop (p + 1)) x = some (o, ws) := by rw [hdr]; exact he
        have hmem : a ∈ l := List.mem_of_mem_drop (i := p) (by rw [hd]; simp)
        have h2 := (hrp.ent hx (by rw [hd, hdr]) (hk a hmem) hent).1
        have hru := ent_up c (fun h9 => by
          have h8 := (hrp.2 x S' rfl).1 h9 hx
          rw [hd] at h8
          exact h8) he
        rw [hru]
        simp only at h ⊢
        have h3 := go_up c hk r (p + 1) _ (max d o) (q + 1) hdr h2 h (q' + 1)
        rw [← h3]
        rw [List.map_append, List.map_cons]
        congr 1
        omega
end TR
end Go.Proofs.Ytgahdppcdeefaaa
namespace Go.Proofs.Ytgahdppcdeefaaa
namespace TR
theorem go_ini : ∀ (r : List Nd) (S : List Wt) (d e q : Nat), (go r S (max d e) q).2 = (go r S d q).2 ∧ ((go r S d q).2.2 = true → (go r S (max d e) q).1 = max e ((go r S d q).1))
  | [], S, d, e, q => by
    unfold go
    split
    · exact ⟨rfl, fun _ => Nat.max_comm _ _⟩
    · exact ⟨rfl, fun h => by cases h⟩
  | a :: r, S, d, e, q => by
    rw [go_cons, go_cons]
    cases pop S with
    | nil => exact ⟨rfl, fun h => by cases h⟩
    | cons x S' =>
      simp only
      cases ent a r x with
      | none => exact ⟨rfl, fun h => by cases h⟩
      | some w =>
        obtain ⟨o, ws⟩ := w
        simp only
        have h := go_ini r (ws ++ { x with many := x.many - 1 } :: S') (max d o) e (q + 1)
        rw [show max (max d e) o = max (max d o) e by omega]
        exact h
theorem go_mono : ∀ (r : List Nd) (S : List Wt) (d q : Nat), (go r S d q).2.2 = true → d ≤ (go r S d q).1
  | [], S, d, q, h => by
    unfold go at h ⊢
    split
    · exact Nat.le_refl _
    · rename_i h1; rw [if_neg h1] at h; cases h
  | a :: r, S, d, q, h => by
    rw [go_cons] at h ⊢
    cases hp : pop S with
    | nil => rw [hp] at h; cases h
    | cons x S' =>
      rw [hp] at h
      simp only at h ⊢
      cases he : ent a r x with
      | none => rw [he] at h; cases h
      | some w =>
        obtain ⟨o, ws⟩ := w
        rw [he] at h
        simp only at h ⊢
        exact Nat.le_trans (Nat.le_max_left _ _) (go_mono r _ _ _ h)
theorem look_mem {op : Int} {k : Kd} : ∀ {T : List (Int × Kd)}, T.lookup op = some k → (op, k) ∈ T
  | [], h => by cases h
  | (a, b) :: T, h => by
    rw [List.lookup_cons] at h
    split at h
    · rename_i h1
      have : op = a := by simpa using h1
      cases h
      rw [this]
      simp
    · exact List.mem_cons_of_mem _ (look_mem h)
theorem kd_all {P : Int → Kd → Bool} (h : tab.all (fun p => P p.1 p.2) = true) {op : Int} (h0 : P op k0 = true) : P op (kd op) = true := by
  unfold kd
  cases hl : tab.lookup op with
  | none => exact h0
  | some k => exact List.all_eq_true.1 h (op, k) (look_mem hl)
/- only a block is one for a block's place -/
theorem is_blk {op : Int} (h : (kd op).is &&& 8 ≠ 0) : op = 10 := by
  have h1 : (fun (op : Int) (k : Kd) => k.is &&& 8 == 0 || op == 10) op (kd op) = true := kd_all (P := fun op k => k.is &&& 8 == 0 || op == 10) (by decide) rfl
  simp only [Bool.or_eq_true, beq_iff_eq] at h1
  rcases h1 with h1 | h1
  · exact absurd h1 h
  · exact h1
theorem go_pre1 (x : Nd) (R : List Nd) : wlk (oneL [] (x :: R)) = go (x :: R) [bpl 0] 0 3 := by
  have he : ent ⟨7, 0, 0, 0, [], 0, 1⟩ (x :: R) ⟨⟨4, 0⟩, 1, 0, false⟩ = some (0, [bpl 0]) :=
    ent_flat (a := ⟨7, 0, 0, 0, [], 0, 1⟩) kd7 rfl (tk := 4) (mn := 1) (c := 0) (R := x :: R) (ps := [⟨8, 0⟩]) (many := 1) (m := 0) (by decide) (by decide) (by decide) (by decide)
  have h1 := go_one (a := ⟨1, 0, 0, 0, [], 0, 1⟩) (r := ⟨2, 0, 0, 0, [97], 0, 1⟩ :: ⟨7, 0, 0, 0, [], 0, 1⟩ :: x :: R) (x := wroot) (S := []) (d := 0) (p := 0) (o := 0) (ws := [⟨⟨2, 0⟩, 1, 0, false⟩]) rfl rfl
  have h2 := go_one (a := ⟨2, 0, 0, 0, [97], 0, 1⟩) (r := ⟨7, 0, 0, 0, [], 0, 1⟩ :: x :: R) (x := ⟨⟨2, 0⟩, 1, 0, false⟩) (S := []) (d := 0) (p := 1) (o := 0) (ws := [⟨⟨4, 0⟩, 1, 0, false⟩]) rfl rfl
  have h3 := go_one (a := ⟨7, 0, 0, 0, [], 0, 1⟩) (r := x :: R) (x := ⟨⟨4, 0⟩, 1, 0, false⟩) (S := []) (d := 0) (p := 2) (o := 0) (ws := [bpl 0]) rfl he
  exact h1.trans (h2.trans h3)
/- a block that is one -/
structure Blk (B : List Nd) (D : Nat) : Prop where
  ok : go B [bpl 0] 0 3 = (D, 0, true)
  root : ∃ b R, B = b :: R ∧ b.op = 10
  pos : 1 ≤ D
theorem blk_of {B : List Nd} (h : (wlk (oneL [] B)).2.2 = true) : Blk B (dpt (oneL [] B)) := by
  cases B with
  | nil => exact absurd h (by decide)
  | cons b R =>
    have hg := go_pre1 b R
    unfold dpt
    rw [hg] at h ⊢
    have h0 := go_ok0 _ _ _ _ h
    have hr : b.op = 10 := by
      rw [go_cons] at h
      have hp : pop [bpl 0] = bpl 0 :: [] := rfl
      rw [hp] at h
      simp only at h
      cases he : ent b R (bpl 0) with
      | none => rw [he] at h; cases h
      | some w =>
        unfold ent at he
        split at he
        · cases he
        · rename_i h1
          exact is_blk (fun h2 => h1 (.inl h2))
    refine ⟨?_, ⟨b, R, rfl, hr⟩, ?_⟩
    · exact Prod.ext rfl (Prod.ext h0 h)
    · rw [go_cons] at h ⊢
      have hp : pop [bpl 0] = bpl 0 :: [] := rfl
      rw [hp] at h ⊢
      simp only at h ⊢
      cases he : ent b R (bpl 0) with
      | none => rw [he] at h; cases h
      | some w =>
        obtain ⟨o, ws⟩ := w
        rw [he] at h
        simp only at h ⊢
        have h1 := go_mono _ _ _ _ h
        have h2 : 1 ≤ o := by
          unfold ent at he
          split at he
          · cases he
          · rw [hr, kd10] at he
            split at he
            · cases he
            · simp only [Option.some.injEq, Prod.mk.injEq] at he
              rw [← he.1]
              show 1 ≤ _ + 1
              omega
        omega
theorem rs_blk (B : List Nd) : RS B 0 [bpl 0] :=
  ⟨fun x hx => by
    obtain rfl : x = bpl 0 := by simpa using hx
    exact ⟨by decide, by simp [bpl], fun h => (by cases h), by simp [bpl]⟩, fun x S' e => by
    simp only [List.cons.injEq] at e
    obtain ⟨rfl, rfl⟩ := e
    exact ⟨fun h => (by cases h), fun y hy => (by cases hy)⟩⟩
theorem go_at {B : List Nd} {D : Nat} (h : Blk B D) (hk : ∀ a ∈ B, a.kids ≤ 9223372036854775807) (c d q : Nat) : go B [bpl c] d q = (max d (D + c), 0, true) := by
  have h1 := go_up c hk B 0 [bpl 0] 0 3 rfl (rs_blk B) (by rw [h.ok]) q
  rw [h.ok] at h1
  have h1 : go B [bpl c] c q = (D + c, 0, true) := by
    have e : [bpl 0].map (upW c) = [bpl c] := by simp [upW, bpl]
    rw [e, Nat.zero_add] at h1
    exact h1
  have hA := go_ini B [bpl c] c d q
  have hB := go_ini B [bpl c] d c q
  rw [h1] at hA
  have hok : (go B [bpl c] d q).2 = (0, true) := by
    rw [← hB.1, Nat.max_comm d c, hA.1]
  have h5 := hB.2 (by rw [hok])
  rw [Nat.max_comm d c, hA.2 rfl] at h5
  have h6 : c + 1 ≤ (go B [bpl c] d q).1 := by
    obtain ⟨b, R, rfl, hb⟩ := h.root
    have hok2 : (go (b :: R) [bpl c] d q).2.2 = true := by rw [hok]
    rw [go_cons] at hok2 ⊢
    have hp : pop [bpl c] = bpl c :: [] := rfl
    rw [hp] at hok2 ⊢
    simp only at hok2 ⊢
    cases he : ent b R (bpl c) with
    | none => rw [he] at hok2; cases hok2
    | some w =>
      obtain ⟨o, ws⟩ := w
      rw [he] at hok2
      simp only at hok2 ⊢
      have h7 := go_mono _ _ _ _ hok2
      have h8 : c + 1 ≤ o := by
        unfold ent at he
        split at he
        · cases he
        · rw [hb, kd10] at he
          split at he
          · cases he
          · simp only [Option.some.injEq, Prod.mk.injEq] at he
            rw [← he.1]
            show c + 1 ≤ c + _ + 1
            omega
      omega
  have h9 : (go B [bpl c] d q).1 = max d (D + c) := by
    simp only at h5
    omega
  exact Prod.ext h9 hok
/- behind an else -/
theorem go_epl {B : List Nd} {D : Nat} (h : Blk B D) (c d q : Nat) : go B [epl c] d q = go B [bpl c] d q := by
  obtain ⟨b, R, rfl, hb⟩ := h.root
  have he : ent b R (epl c) = ent b R (bpl c) := by
    have hA : (8 &&& 40 : Nat) = 8 := by decide
    have hB : (8 &&& 8 : Nat) = 8 := by decide
    unfold ent more epl bpl
    rw [hb, kd10]
    simp only [hA, hB]
  rw [go_cons, go_cons]
  show (match ent b R (epl c) with | none => _ | some (o, ws) => _) = (match ent b R (bpl c) with | none => _ | some (o, ws) => _)
  rw [he]
  cases ent b R (bpl c) with
  | none => rfl
  | some w =>
    obtain ⟨o, ws⟩ := w
    show go R (ws ++ { epl c with many := 0 } :: []) _ _ = go R (ws ++ { bpl c with many := 0 } :: []) _ _
    rw [go_skip (z := { epl c with many := 0 }) rfl, go_skip (z := { bpl c with many := 0 }) rfl]
def elsF (e : Nat) : List Nd := if e = 0 then [] else blk1 :: elsL e
def allL (i r e : Nat) (B : List Nd) : List Nd := ifsL i ++ rndL r ++ elsF e ++ B
theorem ne_cons {B : List Nd} {A : List Nd} {b : Nd} {R : List Nd} (h : B = b :: R) : ∃ x X, A ++ B = x :: X := by
  cases A with
  | nil => exact ⟨b, R, h⟩
  | cons x A => exact ⟨x, A ++ B, rfl⟩
theorem wlk_all {B : List Nd} {D : Nat} (h : Blk B D) (hk : ∀ a ∈ B, a.kids ≤ 9223372036854775807) (i r e : Nat) (hr : r ≤ 1000) : wlk (oneL [] (allL i r e B)) = (D + i + r + e, 0, true) := by
  obtain ⟨b, R, hb, -⟩ := h.root
  have hD := h.pos
  have hx : ∃ x X, allL i r e B = x :: X := by
    unfold allL
    exact ne_cons hb
  obtain ⟨x, X, hx⟩ := hx
  rw [hx, go_pre1, ← hx]
  unfold allL
  rw [List.append_assoc, List.append_assoc, go_ifs, go_rnds [] r hr]
  unfold elsF
  by_cases he : e = 0
  · rw [if_pos he, List.nil_append, go_at h hk]
    simp only [Prod.mk.injEq, and_true]
    split <;> split <;> omega
  · rw [if_neg he]
    obtain ⟨n, rfl⟩ : ∃ n, e = n + 1 := ⟨e - 1, by omega⟩
    have h1 := fun c d p => go_one (a := blk1) (r := elsL (n + 1) ++ B) (x := bpl c) (S := []) (d := d) (p := p) rfl (ent_blk1 c (elsL (n + 1) ++ B))
    rw [List.cons_append, h1]
    rw [show [spl (0 + i + r + 1)] ++ ([] : List Wt) = spl (0 + i + r + 1) :: [] from rfl, go_els [] n, go_epl h, go_at h hk]
    simp only [Prod.mk.injEq, and_true]
    split <;> split <;> omega
/- no ability within a block -/
def good : List Nat := [8, 16, 40, 64, 192]
theorem no7 : ∀ (l : List Nd) (S : List (Nat × Nat)) (p : Nat), (gsh l S p).2 = true → (∀ x ∈ S, x.2 ≠ 0 → x.1 ∈ good) → ∀ a ∈ l, a.op ≠ 7
  | [], _, _, _, _, a, ha => by cases ha
  | b :: r, S, p, h, hS, a, ha => by
    obtain ⟨x, S', ws, h1, h2, h3, -⟩ := gsh_ok h
    rw [h3] at h
    have hpm : ∀ (S : List (Nat × Nat)) x S', popS S = x :: S' → x ∈ S ∧ ∀ y ∈ S', y ∈ S := by
      intro S
      induction S with
      | nil => intro x S' h; cases h
      | cons y S ih =>
        intro x S' h
        rw [popS] at h
        split at h
        · obtain ⟨k1, k2⟩ := ih x S' h
          exact ⟨List.mem_cons_of_mem _ k1, fun z hz => List.mem_cons_of_mem _ (k2 z hz)⟩
        · cases h
          exact ⟨by simp, fun z hz => List.mem_cons_of_mem _ hz⟩
    obtain ⟨hx, hS'⟩ := hpm S x S' h1
    have hgx : x.1 ∈ good := hS x hx (pop_many h1)
    have htab : (fun (op : Int) (k : Kd) => good.all fun tk => k.is &&& tk == 0 || (op != 7 && ((k.each == 0 || good.contains k.each) && k.ways.all fun w => w.all fun q => good.contains q.takes))) b.op (kd b.op) = true := kd_all (P := fun op k => good.all fun tk => k.is &&& tk == 0 || (op != 7 && ((k.each == 0 || good.contains k.each) && k.ways.all fun w => w.all fun q => good.contains q.takes))) (by decide) (by simp [k0, good])
    have ht := List.all_eq_true.1 htab x.1 hgx
    unfold ews at h2
    split at h2
    · cases h2
    · rename_i hc
      have hi : (kd b.op).is &&& x.1 ≠ 0 := fun h9 => hc (.inl h9)
      simp only [Bool.or_eq_true, beq_iff_eq, Bool.and_eq_true, bne_iff_ne, List.all_eq_true, List.contains_iff_mem] at ht
      rcases ht with ht | ⟨h7, hea, hwa⟩
      · exact absurd ht hi
      · rcases List.mem_cons.1 ha with rfl | ha
        · exact h7
        · refine no7 r _ _ h (fun y hy hy0 => ?_) a ha
          rcases List.mem_append.1 hy with hy | hy
          · cases hp : plcs (kd b.op) b.kids with
            | none => rw [hp] at h2; cases h2
            | some q =>
              obtain ⟨ps, many⟩ := q
              rw [hp] at h2
              simp only [Option.some.injEq] at h2
              rw [← h2] at hy
              obtain ⟨q, hq, rfl⟩ := List.mem_map.1 hy
              unfold plcs at hp
              split at hp
              · rename_i hne
                split at hp
                · simp only [Option.some.injEq, Prod.mk.injEq] at hp
                  rw [← hp.1] at hq
                  simp only [List.mem_cons, List.not_mem_nil, or_false] at hq
                  rw [hq]
                  rcases hea with h9 | h9
                  · exact absurd h9 hne
                  · exact h9
                · cases hp
              · split at hp
                · rename_i w hf
                  simp only [Option.some.injEq, Prod.mk.injEq] at hp
                  rw [← hp.1] at hq
                  exact hwa w (List.mem_of_find?_eq_some hf) q hq
                · split at hp
                  · simp only [Option.some.injEq, Prod.mk.injEq] at hp
                    rw [← hp.1] at hq
                    cases hq
                  · cases hp
          · rcases List.mem_cons.1 hy with rfl | hy
            · exact hgx
            · exact hS y (hS' y hy) hy0
theorem wgF_none {l : List Nd} : ∀ (n i : Nat) (b : Int), (∀ j, i ≤ j → (l.getD j dn).op ≠ 7) → wgF l n i b = b
  | 0, _, _, _ => rfl
  | n + 1, i, b, h => by
    rw [wgF, if_neg (h i (Nat.le_refl _))]
    exact wgF_none n (i + 1) b (fun j hj => h j (by omega))
/- how heavy the one ability is -/
theorem wgt_one {X : List Nd} (h : (wlk (oneL [] X)).2.2 = true) : wgt (oneL [] X) = X.length := by
  cases X with
  | nil => exact absurd h (by decide)
  | cons x R =>
    have hg := go_pre1 x R
    have hs : (gsh (x :: R) [(8, 1)] 3).2 = true := by
      have h1 := go_sh (x :: R) [bpl 0] 0 3
      rw [hg] at h
      rw [h1] at h
      exact h
    have h7 := no7 (x :: R) _ _ hs (fun y hy _ => by
      simp only [List.mem_cons, List.not_mem_nil, or_false] at hy
      rw [hy]
      decide)
    have hlen : (oneL [] (x :: R)).length = 3 + (x :: R).length := by
      show (one3 1 ++ [] ++ (x :: R)).length = _
      rw [List.append_nil, List.length_append]
      rfl
    have hb2 : bhd (oneL [] (x :: R)) ((2 : Nat) : Int) = ((3 + (x :: R).length : Nat) : Int) := by
      refine bhd_nat ?_
      rw [hlen]
      show bhn (3 + (x :: R).length) (⟨7, 0, 0, 0, [], 0, 1⟩ :: x :: R) (0 + 1) 2 = _
      rw [bhn_cons, if_pos ⟨by show (0 : Int) ≤ 1; decide, by show (1 : Int) ≤ ((3 + (x :: R).length : Nat) : Int); omega⟩]
      exact gsh_bhn (x :: R) [(8, 1)] 3 3 hs (by omega)
    unfold wgt
    rw [h, if_pos rfl, hlen, show 3 + (x :: R).length = (x :: R).length + 1 + 1 + 1 by omega, wgF, wgF, wgF]
    rw [show ((oneL [] (x :: R)).getD 0 dn).op = 1 from rfl, show ((oneL [] (x :: R)).getD (0 + 1) dn).op = 2 from rfl, show ((oneL [] (x :: R)).getD (0 + 1 + 1) dn).op = 7 from rfl]
    rw [if_pos (rfl : (7 : Int) = 7), if_neg (show ¬ (2 : Int) = 7 by decide), if_neg (show ¬ (1 : Int) = 7 by decide), wgF_none]
    · show max (0 : Int) (bhd (oneL [] (x :: R)) ((2 : Nat) : Int) - 2 - 1) = _
      rw [hb2]
      omega
    · intro j hj
      obtain ⟨t, rfl⟩ : ∃ t, j = t + 3 := ⟨j - 3, by omega⟩
      show ((x :: R).getD t dn).op ≠ 7
      by_cases ht : t < (x :: R).length
      · exact h7 _ (getD_mem ht)
      · rw [List.getD_eq_getElem?_getD, List.getElem?_eq_none (by omega)]
        decide
theorem ifsL_len : ∀ n, (ifsL n).length = 3 * n
  | 0 => rfl
  | n + 1 => by rw [ifsL, List.length_append, ifsL_len n]; rfl
theorem rndL_len : ∀ n, (rndL n).length = 2 * n
  | 0 => rfl
  | n + 1 => by rw [rndL, List.length_append, rndL_len n]; rfl
theorem elsL_len : ∀ n, (elsL n).length = 3 * n
  | 0 => rfl
  | n + 1 => by rw [elsL, List.length_append, elsL_len n]; rfl
theorem elsF_len (e : Nat) : (elsF e).length = 3 * e + (if e = 0 then 0 else 1) := by
  unfold elsF
  split
  · rename_i h; subst h; rfl
  · rw [List.length_cons, elsL_len]
theorem allL_len (i r e : Nat) (B : List Nd) : (allL i r e B).length = B.length + 3 * i + 2 * r + 3 * e + (if e = 0 then 0 else 1) := by
  unfold allL
  rw [List.length_append, List.length_append, List.length_append, ifsL_len, rndL_len, elsF_len]
  omega
end TR
end Go.Proofs.Ytgahdppcdeefaaa
