/-
  The parser of the language as a function of its tokens, no program.
-/
import Derived.WalkKit
namespace Go.Proofs.YtkldllnnocdhbaaGreatDoor
namespace TR
structure Nd where
  op : Int
  kind : Int
  n : Int
  m : Int
  text : List Int
  pos : Int
  kids : Int
  deriving DecidableEq
def sml (c : Int) : Bool := decide (97 ≤ c) && decide (c ≤ 122)
def grt (c : Int) : Bool := decide (65 ≤ c) && decide (c ≤ 90)
def dig (c : Int) : Bool := decide (48 ≤ c) && decide (c ≤ 57)
def prt (c : Int) : Bool := sml c || grt c || dig c || c == 95
def pln (c : Int) : Bool := decide (32 ≤ c) && decide (c ≤ 126)
def isN (l : List Int) : Bool := decide (l ≠ []) && (decide (l.length ≤ 32) && (sml (l.getD 0 0) && l.all prt))
def isT (l : List Int) : Bool := decide (l.length ≤ 64) && l.all pln
def wself : List Int := [115, 101, 108, 102]
def wme : List Int := [109, 101]
def whit : List Int := [104, 105, 116]
def wdraw : List Int := [100, 114, 97, 119]
/- the words of the language -/
def words : List (List Int) := [[99, 97, 114, 100], [99, 111, 115, 116], [112, 111, 119, 101, 114], [104, 101, 97, 108, 116, 104], [116, 97, 103], [111, 110], [119, 104, 101, 110], [108, 101, 116], [105, 102], [101, 108, 115, 101], [114, 101, 112, 101, 97, 116], [97, 115], [101, 97, 99, 104], [105, 110], [99, 104, 111, 111, 115, 101], [115, 116, 111, 112], [97, 98, 111, 114, 116], [116, 114, 117, 101], [102, 97, 108, 115, 101], wself, wme, [100, 101, 99, 107], [104, 97, 110, 100], [98, 111, 97, 114, 100], [103, 114, 97, 118, 101], [112, 108, 97, 121], [100, 105, 101], whit, [116, 117, 114, 110], wdraw]
inductive Tx where
  | none
  | txt
  | nam
  | free (also : List (List Int))
  deriving DecidableEq
def Tx.ok : Tx → List Int → Bool
  | .none, l => decide (l = [])
  | .txt, l => isT l
  | .nam, l => isN l
  | .free also, l => isN l && (!words.contains l || also.contains l)
structure Plc where
  takes : Nat
  rank : Nat
  deriving DecidableEq
structure Kd where
  is : Nat
  rank : Nat
  row : Bool
  opens : Nat
  most : Int
  text : Tx
  each : Nat
  ways : List (List Plc)
  deriving DecidableEq
def k0 : Kd := ⟨0, 0, false, 0, 0, .none, 0, []⟩
def big : Int := 9223372036854775807
def mark (r a b : Nat) : Kd := ⟨64, r, r == a, 0, 0, .none, 0, [[⟨64, a⟩, ⟨64, b⟩]]⟩
def ahead (r : Nat) : Kd := ⟨64, r, false, 1, 0, .none, 0, [[⟨64, r⟩]]⟩
/- the kinds, by Op, as the program lays them -/
def tab : List (Int × Kd) := [
  (1, ⟨1, 0, false, 0, 0, .none, 2, []⟩), (2, ⟨2, 0, false, 0, 0, .txt, 4, []⟩), (3, ⟨4, 0, false, 0, big, .none, 0, []⟩), (4, ⟨4, 0, false, 0, big, .none, 0, []⟩), (5, ⟨4, 0, false, 0, big, .none, 0, []⟩), (6, ⟨4, 0, false, 0, 0, .txt, 0, []⟩), (7, ⟨4, 0, false, 0, 4, .none, 0, [[⟨8, 0⟩], [⟨64, 0⟩, ⟨8, 0⟩]]⟩),
  (10, ⟨8, 0, false, 1, 0, .none, 16, []⟩), (11, ⟨16, 0, false, 0, 0, .free [], 0, [[⟨64, 0⟩]]⟩), (12, ⟨16, 0, false, 0, 0, .free [wself, wme], 0, [[⟨64, 0⟩]]⟩), (13, ⟨48, 0, false, 0, 0, .none, 0, [[⟨64, 0⟩, ⟨8, 0⟩], [⟨64, 0⟩, ⟨8, 0⟩, ⟨40, 0⟩]]⟩), (14, ⟨16, 0, false, 0, big, .free [], 0, [[⟨8, 0⟩]]⟩), (15, ⟨16, 0, false, 0, 0, .free [], 0, [[⟨64, 0⟩, ⟨8, 0⟩]]⟩), (16, ⟨16, 0, false, 0, 0, .free [], 0, [[⟨64, 0⟩, ⟨8, 0⟩], [⟨64, 0⟩, ⟨8, 0⟩, ⟨8, 0⟩]]⟩), (17, ⟨16, 0, false, 0, 0, .none, 0, []⟩), (18, ⟨16, 0, false, 0, 0, .none, 0, []⟩), (19, ⟨16, 0, false, 1, 0, .free [whit, wdraw], 64, []⟩),
  (30, ⟨64, 8, false, 0, big, .none, 0, []⟩), (31, ⟨64, 8, false, 0, 0, .none, 0, []⟩), (32, ⟨64, 8, false, 0, 0, .none, 0, []⟩), (33, ⟨64, 8, false, 0, 0, .free [wself, wme], 0, []⟩), (49, ⟨64, 8, true, 0, 0, .nam, 0, [[⟨64, 8⟩]]⟩), (50, ⟨64, 8, false, 1, 0, .free [], 192, []⟩), (51, ⟨128, 0, false, 0, 3, .none, 0, []⟩), (52, ⟨128, 0, false, 0, 0, .txt, 0, []⟩),
  (36, mark 1 1 2), (37, mark 2 2 3), (34, ahead 3), (38, mark 4 5 5), (39, mark 4 5 5), (40, mark 4 5 5), (41, mark 4 5 5), (42, mark 4 5 5), (43, mark 4 5 5), (44, mark 5 5 6), (45, mark 5 5 6), (46, mark 6 6 7), (47, mark 6 6 7), (48, mark 6 6 7), (35, ahead 7)]
def kd (op : Int) : Kd := (tab.lookup op).getD k0
def fits (k : Kd) (x : Nd) : Bool := x.kind == 0 && (x.m == 0 && (decide (0 ≤ x.pos) && (decide (0 ≤ x.n) && (decide (x.n ≤ k.most) && k.text.ok x.text))))
/- what a node with that number of kids asks for, and how many of them at each place -/
def plcs (k : Kd) (kids : Int) : Option (List Plc × Nat) :=
  if k.each ≠ 0 then (if 0 ≤ kids then some ([⟨k.each, 0⟩], kids.toNat) else none)
  else match k.ways.find? fun w => (w.length : Int) == kids with
    | some w => some (w, 1)
    | none => if kids = 0 ∧ k.ways = [] then some ([], 0) else none
structure Wt where
  plc : Plc
  many : Nat
  opn : Nat
  rest : Bool
  deriving DecidableEq
/- the row, or the chain, of the first node goes on with its first kid -/
def goes (a b : Nd) : Bool := (kd a.op).row && ((kd b.op).row && (kd a.op).rank == (kd b.op).rank)
def gos : List Nd → Bool
  | a :: b :: _ => goes a b
  | _ => false
def mks : List Nd → Nat
  | [] => 0
  | [_] => 0
  | a :: b :: r => if goes a b then mks (b :: r) + 1 else 0
def more (k : Kd) (x : Wt) (marks : Nat) : Nat := (if k.rank < x.plc.rank then 1 else 0) + (if k.is &&& x.plc.takes &&& 32 ≠ 0 then 1 else 0) + (if x.rest then 0 else marks)
def wants (ps : List Plc) (many o : Nat) (g : Bool) : List Wt :=
  match ps with
  | [] => []
  | p :: r => ⟨p, many, if g then o - 1 else o, g⟩ :: r.map fun q => ⟨q, many, o, false⟩
/- the node that comes next: how many are open at it, and what it wants -/
def ent (a : Nd) (r : List Nd) (x : Wt) : Option (Nat × List Wt) :=
  if (kd a.op).is &&& x.plc.takes = 0 ∨ fits (kd a.op) a = false then none
  else match plcs (kd a.op) a.kids with
    | none => none
    | some (ps, many) => some (x.opn + more (kd a.op) x (mks (a :: r)) + (kd a.op).opens, wants ps many (x.opn + more (kd a.op) x (mks (a :: r)) + (kd a.op).opens) (gos (a :: r)))
def pop : List Wt → List Wt
  | [] => []
  | x :: S => if x.many = 0 then pop S else x :: S
/- the depth, the first node's place that is none, whether it is a tree -/
def go : List Nd → List Wt → Nat → Nat → Nat × Nat × Bool
  | [], S, d, p => if pop S = [] then (d, 0, true) else (0, p, false)
  | a :: r, S, d, p => match pop S with
    | [] => (0, p, false)
    | x :: S' => match ent a r x with
      | none => (0, p, false)
      | some (o, ws) => go r (ws ++ { x with many := x.many - 1 } :: S') (max d o) (p + 1)
def wroot : Wt := ⟨⟨1, 0⟩, 1, 0, false⟩
def wlk (l : List Nd) : Nat × Nat × Bool := go l [wroot] 0 0
def ckE (l : List Nd) : Int := if (wlk l).2.2 then (if 64 < (wlk l).1 then 23 else 0) else 24
def ckA (l : List Nd) : Nat := (wlk l).2.1
def dpt (l : List Nd) : Nat := (wlk l).1
/- behind so many trees; none, if the list ends, or a number of kids is none -/
def bhn (N : Nat) : List Nd → Nat → Nat → Option Nat
  | _, 0, p => some p
  | [], _ + 1, _ => none
  | a :: r, k + 1, p => if 0 ≤ a.kids ∧ a.kids ≤ N then bhn N r (k + a.kids.toNat) (p + 1) else none
def bhd (l : List Nd) (p : Int) : Int := if p < 0 then -1 else match bhn l.length (l.drop p.toNat) 1 p.toNat with
  | some q => q
  | none => -1
def kdsF (l : List Nd) : Nat → Int → List Int
  | 0, _ => []
  | k + 1, p => p :: kdsF l k (bhd l p)
def dn : Nd := ⟨0, 0, 0, 0, [], 0, 0⟩
def kds (l : List Nd) (p : Int) : List Int := if bhd l p = -1 then [] else kdsF l (l.getD p.toNat dn).kids.toNat (p + 1)
def wgF (l : List Nd) : Nat → Nat → Int → Int
  | 0, _, b => b
  | n + 1, i, b => wgF l n (i + 1) (if (l.getD i dn).op = 7 then max b (bhd l i - i - 1) else b)
def wgt (l : List Nd) : Int := if (wlk l).2.2 then wgF l l.length 0 0 else 0
def nop (a : Nd) : Nd := { a with pos := 0 }
def sam (a b : List Nd) : Bool := decide (a.map nop = b.map nop)
/- the tree that lives has -/
def ltr : List Nd := [⟨1, 0, 0, 0, [], 0, 1⟩, ⟨2, 0, 0, 0, [97], 0, 1⟩, ⟨7, 0, 0, 0, [], 0, 1⟩, ⟨10, 0, 0, 0, [], 0, 1⟩, ⟨19, 0, 0, 0, wdraw, 0, 1⟩, ⟨33, 0, 0, 0, wme, 0, 0⟩]
theorem ltr_wlk : wlk ltr = (2, 0, true) := by decide +kernel
theorem ltr_cut : wlk (ltr.take 5) = (0, 5, false) := by decide +kernel
theorem ltr_wgt : wgt ltr = 3 := by decide +kernel
theorem ltr_bhd : bhd ltr 3 = 6 := by decide +kernel
theorem ltr_kds : kds ltr 4 = [5] := by decide +kernel
end TR
end Go.Proofs.YtkldllnnocdhbaaGreatDoor
namespace Go.Proofs.YtkldllnnocdhbaaGreatDoor
namespace TK
structure Tok where
  kind : Int
  text : List Int
  num : Int
  pos : Int
  deriving DecidableEq
def sml (c : Int) : Bool := decide (97 ≤ c) && decide (c ≤ 122)
def grt (c : Int) : Bool := decide (65 ≤ c) && decide (c ≤ 90)
def dig (c : Int) : Bool := decide (48 ≤ c) && decide (c ≤ 57)
def prt (c : Int) : Bool := sml c || grt c || dig c || c == 95
def blk (c : Int) : Bool := c == 9 || c == 10 || c == 13 || c == 32
def pln (c : Int) : Bool := decide (32 ≤ c) && decide (c ≤ 126)
def esc (c : Int) : Bool := c == 34 || c == 92
def nnl (c : Int) : Bool := c != 10
/- the first place from p on whose byte does not belong, or the end -/
def spn (f : Int → Bool) (B : List Int) (p : Nat) : Nat := p + ((B.drop p).takeWhile f).length
theorem drop_at {B : List Int} {p : Nat} (h : p < B.length) : B.drop p = B.getD p 0 :: B.drop (p + 1) := by
  rw [List.drop_eq_getElem_cons h, List.getD_eq_getElem?_getD, List.getElem?_eq_getElem h]
  rfl
theorem spn_end {f : Int → Bool} {B : List Int} {p : Nat} (h : ¬ p < B.length) : spn f B p = p := by
  unfold spn
  rw [List.drop_eq_nil_of_le (by omega)]
  rfl
theorem spn_more {f : Int → Bool} {B : List Int} {p : Nat} (h : p < B.length) (hf : f (B.getD p 0) = true) : spn f B p = spn f B (p + 1) := by
  unfold spn
  rw [drop_at h, List.takeWhile_cons, if_pos hf, List.length_cons]
  omega
theorem spn_stop {f : Int → Bool} {B : List Int} {p : Nat} (h : p < B.length) (hf : f (B.getD p 0) = false) : spn f B p = p := by
  unfold spn
  rw [drop_at h, List.takeWhile_cons, if_neg (by rw [hf]; decide)]
  rfl
theorem spn_ge (f : Int → Bool) (B : List Int) (p : Nat) : p ≤ spn f B p := Nat.le_add_right _ _
theorem spn_le (f : Int → Bool) {B : List Int} {p : Nat} (h : p ≤ B.length) : spn f B p ≤ B.length := by
  have h1 := (List.takeWhile_sublist (l := B.drop p) f).length_le
  unfold spn
  rw [List.length_drop] at h1
  omega
theorem spn_gt {f : Int → Bool} {B : List Int} {p : Nat} (h : p < B.length) (hf : f (B.getD p 0) = true) : p < spn f B p := by
  rw [spn_more h hf]
  have := spn_ge f B (p + 1)
  omega
theorem spn_all {f : Int → Bool} {B : List Int} {p i : Nat} (h1 : p ≤ i) (h2 : i < spn f B p) : f (B.getD i 0) = true := by
  unfold spn at h2
  have h3 : i - p < ((B.drop p).takeWhile f).length := by omega
  have h4 := List.getElem?_eq_getElem h3
  have h5 := List.all_takeWhile (l := B.drop p) (p := f)
  rw [List.all_eq_true] at h5
  have h6 := h5 _ (List.getElem_mem h3)
  have h7 : ((B.drop p).takeWhile f)[i - p]? = (B.drop p)[i - p]? := by
    have h8 := List.takeWhile_prefix (l := B.drop p) f
    obtain ⟨t, ht⟩ := h8
    have h9 : (B.drop p)[i - p]? = ((B.drop p).takeWhile f ++ t)[i - p]? := by rw [ht]
    rw [h9, List.getElem?_append_left h3]
  rw [h4, List.getElem?_drop, show p + (i - p) = i by omega] at h7
  rw [List.getD_eq_getElem?_getD, ← h7]
  exact h6
/- the number that digits say -/
def val (l : List Int) : Int := l.foldl (fun n c => 10 * n + (c - 48)) 0
def two (a b : Int) : Bool := (b == 61 && (a == 61 || a == 33 || a == 60 || a == 62)) || (a == 38 && b == 38) || (a == 124 && b == 124)
def sgl (a : Int) : Bool := a == 123 || a == 125 || a == 40 || a == 41 || a == 59 || a == 44 || a == 46 || a == 61 || a == 33 || a == 60 || a == 62 || a == 43 || a == 45 || a == 42 || a == 47 || a == 37
def mrk : List Int → Bool
  | [a] => sgl a
  | [a, b] => two a b
  | _ => false
inductive Stp where
  | skip (q : Nat)
  | tok (t : Tok) (q : Nat)
  | bad (q : Nat)
def sub (B : List Int) (p e : Nat) : List Int := (B.drop p).take (e - p)
def txt (B : List Int) (p : Nat) : Nat → Nat → List Int → Stp
  | 0, _, _ => .bad p
  | n + 1, i, acc =>
    if ¬ i < B.length then .bad p
    else if B.getD i 0 == 10 then .bad p
    else if B.getD i 0 == 34 then (if 64 < acc.length then .bad p else .tok ⟨3, acc, 0, p⟩ (i + 1))
    else if B.getD i 0 == 92 then (if ¬ i + 1 < B.length then .bad i else if esc (B.getD (i + 1) 0) then txt B p n (i + 2) (acc ++ [B.getD (i + 1) 0]) else .bad i)
    else if pln (B.getD i 0) then txt B p n (i + 1) (acc ++ [B.getD i 0]) else .bad i
def nme (B : List Int) (p : Nat) : Stp := if 32 < spn prt B p - p then .bad p else .tok ⟨1, sub B p (spn prt B p), 0, p⟩ (spn prt B p)
def nue (B : List Int) (p : Nat) : Nat := if B.getD p 0 == 48 then p + 1 else spn dig B (p + 1)
def nmb (B : List Int) (p : Nat) : Stp :=
  if 9223372036854775807 < val (sub B p (nue B p)) then .bad p
  else if nue B p < spn prt B (nue B p) then .bad (nue B p)
  else .tok ⟨2, [], val (sub B p (nue B p)), p⟩ (nue B p)
def mkk (B : List Int) (p : Nat) : Stp :=
  if p + 1 < B.length ∧ two (B.getD p 0) (B.getD (p + 1) 0) = true then .tok ⟨4, [B.getD p 0, B.getD (p + 1) 0], 0, p⟩ (p + 2)
  else if sgl (B.getD p 0) then .tok ⟨4, [B.getD p 0], 0, p⟩ (p + 1) else .bad p
/- one step at a place within the source -/
def rmk (B : List Int) (p : Nat) : Bool := B.getD p 0 == 47 && (decide (p + 1 < B.length) && B.getD (p + 1) 0 == 47)
def stp (B : List Int) (p : Nat) : Stp :=
  if blk (B.getD p 0) then .skip (p + 1)
  else if rmk B p then .skip (spn nnl B p)
  else if sml (B.getD p 0) then nme B p
  else if dig (B.getD p 0) then nmb B p
  else if B.getD p 0 == 34 then txt B p (B.length - p) (p + 1) []
  else mkk B p
theorem txt_go {B : List Int} {p : Nat} : ∀ (n i : Nat) (acc : List Int) (t : Tok) (q : Nat), txt B p n i acc = .tok t q → i < q ∧ q ≤ B.length ∧ t.pos = p
  | 0, i, acc, t, q, h => by cases h
  | n + 1, i, acc, t, q, h => by
    unfold txt at h
    split at h
    · cases h
    · split at h
      · cases h
      · split at h
        · split at h
          · cases h
          · cases h; refine ⟨by omega, by omega, rfl⟩
        · split at h
          · split at h
            · cases h
            · split at h
              · have := txt_go n _ _ _ _ h; exact ⟨by omega, this.2⟩
              · cases h
          · split at h
            · have := txt_go n _ _ _ _ h; exact ⟨by omega, this.2⟩
            · cases h
theorem nue_in {B : List Int} {p : Nat} (h : p < B.length) : p < nue B p ∧ nue B p ≤ B.length := by
  unfold nue
  split
  · omega
  · have h1 := spn_ge dig B (p + 1)
    have h2 := spn_le dig (B := B) (p := p + 1) (by omega)
    omega
theorem stp_tok {B : List Int} {p q : Nat} {t : Tok} (hp : p < B.length) (h : stp B p = .tok t q) : p < q ∧ q ≤ B.length ∧ t.pos = p := by
  unfold stp at h
  split at h
  · cases h
  · split at h
    · cases h
    · split at h
      · rename_i hs
        unfold nme at h
        split at h
        · cases h
        · cases h
          exact ⟨spn_gt hp (by unfold prt; rw [hs]; rfl), spn_le _ (by omega), rfl⟩
      · split at h
        · unfold nmb at h
          have := nue_in hp
          split at h
          · cases h
          · split at h
            · cases h
            · cases h; exact ⟨this.1, this.2, rfl⟩
        · split at h
          · have := txt_go _ _ _ _ _ h; exact ⟨by omega, this.2⟩
          · unfold mkk at h
            split at h
            · rename_i h2; cases h; exact ⟨by omega, by omega, rfl⟩
            · split at h
              · cases h; exact ⟨by omega, by omega, rfl⟩
              · cases h
theorem stp_skip {B : List Int} {p q : Nat} (hp : p < B.length) (h : stp B p = .skip q) : p < q ∧ q ≤ B.length := by
  have hnt : ∀ n i acc, txt B p n i acc ≠ .skip q := by
    intro n
    induction n with
    | zero => intro i acc h; cases h
    | succ n ih =>
      intro i acc h
      unfold txt at h
      split at h
      · cases h
      · split at h
        · cases h
        · split at h
          · split at h <;> cases h
          · split at h
            · split at h
              · cases h
              · split at h
                · exact ih _ _ h
                · cases h
            · split at h
              · exact ih _ _ h
              · cases h
  unfold stp at h
  split at h
  · cases h; omega
  · split at h
    · rename_i hr
      cases h
      refine ⟨spn_gt hp ?_, spn_le _ (by omega)⟩
      unfold rmk at hr
      have h1 : B.getD p 0 = 47 := by simpa using (Bool.and_eq_true_iff.1 hr).1
      rw [h1]; decide
    · split at h
      · unfold nme at h
        split at h <;> cases h
      · split at h
        · unfold nmb at h
          split at h
          · cases h
          · split at h <;> cases h
        · split at h
          · exact absurd h (hnt _ _ _)
          · unfold mkk at h
            split at h
            · cases h
            · split at h <;> cases h
def cutF (B : List Int) : Nat → Nat → List Tok → Except Nat (List Tok)
  | 0, _, L => .ok L
  | n + 1, p, L =>
    if ¬ p < B.length then .ok (L ++ [⟨0, [], 0, B.length⟩])
    else match stp B p with
      | .skip q => cutF B n q L
      | .tok t q => cutF B n q (L ++ [t])
      | .bad q => .error q
/- what is still to be cut, from the place p on, with the tokens so far -/
def Ct (B : List Int) (p : Nat) (L : List Tok) : Prop := p ≤ B.length ∧ ∃ n, B.length - p ≤ n ∧ cutF B (B.length + 1) 0 [] = cutF B (n + 1) p L
theorem ct_start (B : List Int) : Ct B 0 [] := ⟨Nat.zero_le _, B.length, by omega, rfl⟩
theorem Ct.skip {B : List Int} {p q : Nat} {L : List Tok} (h : Ct B p L) (hp : p < B.length) (hs : stp B p = .skip q) : Ct B q L := by
  obtain ⟨-, n, h1, h2⟩ := h
  have h3 := stp_skip hp hs
  refine ⟨h3.2, n - 1, by omega, ?_⟩
  rw [h2, cutF, if_neg (by omega), hs, show n - 1 + 1 = n by omega]
theorem Ct.tok {B : List Int} {p q : Nat} {t : Tok} {L : List Tok} (h : Ct B p L) (hp : p < B.length) (hs : stp B p = .tok t q) : Ct B q (L ++ [t]) := by
  obtain ⟨-, n, h1, h2⟩ := h
  have h3 := stp_tok hp hs
  refine ⟨h3.2.1, n - 1, by omega, ?_⟩
  rw [h2, cutF, if_neg (by omega), hs, show n - 1 + 1 = n by omega]
theorem Ct.bad {B : List Int} {p q : Nat} {L : List Tok} (h : Ct B p L) (hp : p < B.length) (hs : stp B p = .bad q) : cutF B (B.length + 1) 0 [] = .error q := by
  obtain ⟨-, n, h1, h2⟩ := h
  rw [h2, cutF, if_neg (by omega), hs]
theorem Ct.fin {B : List Int} {p : Nat} {L : List Tok} (h : Ct B p L) (hp : ¬ p < B.length) : cutF B (B.length + 1) 0 [] = .ok (L ++ [⟨0, [], 0, B.length⟩]) := by
  obtain ⟨-, n, h1, h2⟩ := h
  rw [h2, cutF, if_pos hp]
/- what Cut answers -/
def cuL (B : List Int) : List Tok := if 65536 < B.length then [] else match cutF B (B.length + 1) 0 [] with
  | .ok l => l
  | .error _ => []
def cuE (B : List Int) : Int := if 65536 < B.length then 20 else match cutF B (B.length + 1) 0 [] with
  | .ok _ => 0
  | .error _ => 21
def cuA (B : List Int) : Int := if 65536 < B.length then 65536 else match cutF B (B.length + 1) 0 [] with
  | .ok _ => 0
  | .error q => (q : Int)
/- a place's line and column -/
def lnc (l : List Int) : Nat := l.countP (· == 10)
end TK
end Go.Proofs.YtkldllnnocdhbaaGreatDoor
namespace Go.Proofs.YtkldllnnocdhbaaGreatDoor
namespace TP
open TR (Nd)
open TK (Tok)
/- trees side by side: the first one's node, its kids, the others -/
inductive Fo where
  | nil
  | cons (a : Nd) (kids rest : Fo)
  deriving DecidableEq
def flF : Fo → List Nd
  | .nil => []
  | .cons a k r => a :: (flF k ++ flF r)
def cntF : Fo → Nat
  | .nil => 0
  | .cons _ _ r => cntF r + 1
def Fo.app : Fo → Fo → Fo
  | .nil, g => g
  | .cons a k r, g => .cons a k (r.app g)
theorem flF_app : ∀ (f g : Fo), flF (f.app g) = flF f ++ flF g
  | .nil, _ => rfl
  | .cons a k r, g => by
    show a :: (flF k ++ flF (r.app g)) = a :: (flF k ++ flF r) ++ flF g
    rw [flF_app r g, List.cons_append, List.append_assoc]
theorem cntF_app : ∀ (f g : Fo), cntF (f.app g) = cntF f + cntF g
  | .nil, g => by show cntF g = 0 + cntF g; omega
  | .cons _ _ r, g => by
    show cntF (r.app g) + 1 = cntF r + 1 + cntF g
    rw [cntF_app r g]
    omega
theorem app_assoc : ∀ (f g h : Fo), (f.app g).app h = f.app (g.app h)
  | .nil, _, _ => rfl
  | .cons a k r, g, h => by
    show Fo.cons a k ((r.app g).app h) = Fo.cons a k (r.app (g.app h))
    rw [app_assoc r g h]
theorem app_nil : ∀ (f : Fo), f.app .nil = f
  | .nil => rfl
  | .cons a k r => by
    show Fo.cons a k (r.app .nil) = _
    rw [app_nil r]
def nod (op n : Int) (text : List Int) (pos : Int) (k : Fo) : Fo := .cons ⟨op, 0, n, 0, text, pos, (cntF k : Int)⟩ k .nil
def dt : Tok := ⟨0, [], 0, 0⟩
def tk (l : List Tok) (i : Nat) : Tok := l.getD i dt
def mk (t : Tok) (m : List Int) : Bool := t.kind == 4 && t.text == m
def wd (t : Tok) (m : List Int) : Bool := t.kind == 1 && t.text == m
def fre (x : List Int) : Bool := TR.isN x && !TR.words.contains x
def frt (t : Tok) : Bool := t.kind == 1 && fre t.text
def binop (x : List Int) : Int := if x = [124, 124] then 36 else if x = [38, 38] then 37 else if x = [61, 61] then 38 else if x = [33, 61] then 39 else if x = [60] then 40 else if x = [60, 61] then 41 else if x = [62] then 42 else if x = [62, 61] then 43 else if x = [43] then 44 else if x = [45] then 45 else if x = [42] then 46 else if x = [47] then 47 else if x = [37] then 48 else 0
def rnk (op : Int) : Int := if op = 36 then 1 else if op = 37 then 2 else if 38 ≤ op ∧ op ≤ 43 then 4 else if op = 44 ∨ op = 45 then 5 else 6
def bop (t : Tok) (r : Int) : Int := if t.kind = 4 ∧ binop t.text ≠ 0 ∧ rnk (binop t.text) = r then binop t.text else 0
def zone (t : Tok) : Option Int := if wd t [100, 101, 99, 107] = true then some 0 else if wd t [104, 97, 110, 100] = true then some 1 else if wd t [98, 111, 97, 114, 100] = true then some 2 else if wd t [103, 114, 97, 118, 101] = true then some 3 else none
def evnt (t : Tok) : Option Int := if wd t [112, 108, 97, 121] = true then some 0 else if wd t [100, 105, 101] = true then some 1 else if wd t [104, 105, 116] = true then some 2 else if wd t [116, 117, 114, 110] = true then some 3 else if wd t [100, 114, 97, 119] = true then some 4 else none
inductive Rs where
  | bad (e p : Int)
  | ok (f : Fo) (i : Nat)
  deriving DecidableEq
inductive G where
  | row (r : Int) | rowL (r : Int) (x : Fo) (m : Nat) | not | sign | chn (x : Fo) (m : Nat) | item | arg | args (a : Bool) | argL (a : Bool) (acc : Fo)
  | block | blkL (acc : Fo) | stmt | branch | line | lines (acc : Fo) | card | cards (acc : Fo)
def opnd (r : Int) : G := if r = 1 then .row 2 else if r = 2 then .not else if r = 5 then .row 6 else .sign
def bd (r : Option Rs) (k : Fo → Nat → Option Rs) : Option Rs := match r with
  | none => none
  | some (.bad e p) => some (.bad e p)
  | some (.ok f i) => k f i
def okr (f : Fo) (i : Nat) : Option Rs := some (.ok f i)
def bad (t : Tok) : Option Rs := some (.bad 22 t.pos)
def deep (t : Tok) : Option Rs := some (.bad 23 t.pos)
def P (l : List Tok) : Nat → G → Nat → Nat → Option Rs
  | 0, _, _, _ => none
  | n + 1, .row r, i, d => bd (P l n (opnd r) i d) fun x j => P l n (.rowL r x 0) j d
  | n + 1, .rowL r x m, i, d => if bop (tk l i) r = 0 then okr x i
    else if m ≠ 0 ∧ d = 64 then deep (tk l i)
    else bd (P l n (opnd r) (i + 1) (if m = 0 then d else d + 1)) fun y j => P l n (.rowL r (nod (bop (tk l i) r) 0 [] (tk l i).pos (x.app y)) (m + 1)) j (if m = 0 then d else d + 1)
  | n + 1, .not, i, d => if mk (tk l i) [33] = true then (if d = 64 then deep (tk l i) else bd (P l n .not (i + 1) (d + 1)) fun x j => okr (nod 34 0 [] (tk l i).pos x) j)
    else bd (P l n (.row 5) i d) fun x j => if bop (tk l j) 4 = 0 then okr x j else bd (P l n (.row 5) (j + 1) d) fun y k => okr (nod (bop (tk l j) 4) 0 [] (tk l j).pos (x.app y)) k
  | n + 1, .sign, i, d => if mk (tk l i) [45] = true then (if d = 64 then deep (tk l i) else bd (P l n .sign (i + 1) (d + 1)) fun x j => okr (nod 35 0 [] (tk l i).pos x) j)
    else bd (P l n .item i d) fun x j => P l n (.chn x 0) j d
  | n + 1, .chn x m, i, d => if mk (tk l i) [46] = true then (if m ≠ 0 ∧ d = 64 then deep (tk l i)
      else if (tk l (i + 1)).kind = 1 then P l n (.chn (nod 49 0 (tk l (i + 1)).text (tk l (i + 1)).pos x) (m + 1)) (i + 2) (if m = 0 then d else d + 1) else bad (tk l (i + 1)))
    else okr x i
  | n + 1, .item, i, d => if (tk l i).kind = 2 then okr (nod 30 (tk l i).num [] (tk l i).pos .nil) (i + 1)
    else if wd (tk l i) [116, 114, 117, 101] = true then okr (nod 31 0 [] (tk l i).pos .nil) (i + 1)
    else if wd (tk l i) [102, 97, 108, 115, 101] = true then okr (nod 32 0 [] (tk l i).pos .nil) (i + 1)
    else if wd (tk l i) TR.wself = true ∨ wd (tk l i) TR.wme = true then okr (nod 33 0 (tk l i).text (tk l i).pos .nil) (i + 1)
    else if mk (tk l i) [40] = true then (if d = 64 then deep (tk l i) else bd (P l n (.row 1) (i + 1) (d + 1)) fun x j => if mk (tk l j) [41] = true then okr x (j + 1) else bad (tk l j))
    else if frt (tk l i) = true then (if mk (tk l (i + 1)) [40] = true then bd (P l n (.args true) (i + 1) d) fun k j => okr (nod 50 0 (tk l i).text (tk l i).pos k) j else okr (nod 33 0 (tk l i).text (tk l i).pos .nil) (i + 1))
    else bad (tk l i)
  | n + 1, .arg, i, d => if (tk l i).kind = 3 then okr (nod 52 0 (tk l i).text (tk l i).pos .nil) (i + 1)
    else match zone (tk l i) with
      | some z => okr (nod 51 z [] (tk l i).pos .nil) (i + 1)
      | none => P l n (.row 1) i d
  | n + 1, .args a, i, d => if mk (tk l i) [40] = true then (if d = 64 then deep (tk l i) else if mk (tk l (i + 1)) [41] = true then okr .nil (i + 2) else P l n (.argL a .nil) (i + 1) (d + 1)) else bad (tk l i)
  | n + 1, .argL a acc, i, d => bd (P l n (if a = true then .arg else .row 1) i d) fun x j => if mk (tk l j) [44] = true then P l n (.argL a (acc.app x)) (j + 1) d else if mk (tk l j) [41] = true then okr (acc.app x) (j + 1) else bad (tk l j)
  | n + 1, .block, i, d => if mk (tk l i) [123] = true then (if d = 64 then deep (tk l i) else bd (P l n (.blkL .nil) (i + 1) (d + 1)) fun k j => okr (nod 10 0 [] (tk l i).pos k) j) else bad (tk l i)
  | n + 1, .blkL acc, i, d => if mk (tk l i) [125] = true then okr acc (i + 1) else bd (P l n .stmt i d) fun x j => P l n (.blkL (acc.app x)) j d
  | n + 1, .branch, i, d => if wd (tk l i) [105, 102] = true then (bd (P l n (.row 1) (i + 1) d) fun x j => bd (P l n .block j d) fun y k =>
    if wd (tk l k) [101, 108, 115, 101] = true then (if wd (tk l (k + 1)) [105, 102] = true then (if d = 64 then deep (tk l (k + 1)) else bd (P l n .branch (k + 1) (d + 1)) fun z q => okr (nod 13 0 [] (tk l i).pos ((x.app y).app z)) q)
      else bd (P l n .block (k + 1) d) fun z q => okr (nod 13 0 [] (tk l i).pos ((x.app y).app z)) q)
    else okr (nod 13 0 [] (tk l i).pos (x.app y)) k) else bad (tk l i)
  | n + 1, .stmt, i, d =>
    if wd (tk l i) [108, 101, 116] = true then (if frt (tk l (i + 1)) = true then (if mk (tk l (i + 2)) [61] = true then bd (P l n (.row 1) (i + 3) d) fun x j => if mk (tk l j) [59] = true then okr (nod 11 0 (tk l (i + 1)).text (tk l i).pos x) (j + 1) else bad (tk l j) else bad (tk l (i + 2))) else bad (tk l (i + 1)))
    else if wd (tk l i) [105, 102] = true then P l n .branch i d
    else if wd (tk l i) [114, 101, 112, 101, 97, 116] = true then (if (tk l (i + 1)).kind = 2 then (if wd (tk l (i + 2)) [97, 115] = true then (if frt (tk l (i + 3)) = true then bd (P l n .block (i + 4) d) fun x j => okr (nod 14 (tk l (i + 1)).num (tk l (i + 3)).text (tk l i).pos x) j else bad (tk l (i + 3))) else bad (tk l (i + 2))) else bad (tk l (i + 1)))
    else if wd (tk l i) [101, 97, 99, 104] = true ∨ wd (tk l i) [99, 104, 111, 111, 115, 101] = true then (if frt (tk l (i + 1)) = true then (if wd (tk l (i + 2)) [105, 110] = true then bd (P l n (.row 1) (i + 3) d) fun x j => bd (P l n .block j d) fun y k =>
        if wd (tk l i) [99, 104, 111, 111, 115, 101] = true ∧ wd (tk l k) [101, 108, 115, 101] = true then bd (P l n .block (k + 1) d) fun z q => okr (nod 16 0 (tk l (i + 1)).text (tk l i).pos ((x.app y).app z)) q
        else okr (nod (if wd (tk l i) [99, 104, 111, 111, 115, 101] = true then 16 else 15) 0 (tk l (i + 1)).text (tk l i).pos (x.app y)) k else bad (tk l (i + 2))) else bad (tk l (i + 1)))
    else if wd (tk l i) [115, 116, 111, 112] = true ∨ wd (tk l i) [97, 98, 111, 114, 116] = true then (if mk (tk l (i + 1)) [59] = true then okr (nod (if wd (tk l i) [115, 116, 111, 112] = true then 17 else 18) 0 [] (tk l i).pos .nil) (i + 2) else bad (tk l (i + 1)))
    else if (frt (tk l i) || (wd (tk l i) TR.wself || wd (tk l i) TR.wme) || (wd (tk l i) TR.whit || wd (tk l i) TR.wdraw)) = false then bad (tk l i)
    else if (frt (tk l i) || (wd (tk l i) TR.wself || wd (tk l i) TR.wme)) = true ∧ mk (tk l (i + 1)) [61] = true then bd (P l n (.row 1) (i + 2) d) fun x j => if mk (tk l j) [59] = true then okr (nod 12 0 (tk l i).text (tk l i).pos x) (j + 1) else bad (tk l j)
    else if (frt (tk l i) || (wd (tk l i) TR.whit || wd (tk l i) TR.wdraw)) = true ∧ mk (tk l (i + 1)) [40] = true then bd (P l n (.args false) (i + 1) d) fun x j => if mk (tk l j) [59] = true then okr (nod 19 0 (tk l i).text (tk l i).pos x) (j + 1) else bad (tk l j)
    else bad (tk l (i + 1))
  | n + 1, .line, i, d =>
    if wd (tk l i) [99, 111, 115, 116] = true ∨ wd (tk l i) [112, 111, 119, 101, 114] = true ∨ wd (tk l i) [104, 101, 97, 108, 116, 104] = true then (if (tk l (i + 1)).kind = 2 then (if mk (tk l (i + 2)) [59] = true then okr (nod (if wd (tk l i) [99, 111, 115, 116] = true then 3 else if wd (tk l i) [112, 111, 119, 101, 114] = true then 4 else 5) (tk l (i + 1)).num [] (tk l i).pos .nil) (i + 3) else bad (tk l (i + 2))) else bad (tk l (i + 1)))
    else if wd (tk l i) [116, 97, 103] = true then (if (tk l (i + 1)).kind = 3 then (if mk (tk l (i + 2)) [59] = true then okr (nod 6 0 (tk l (i + 1)).text (tk l i).pos .nil) (i + 3) else bad (tk l (i + 2))) else bad (tk l (i + 1)))
    else if wd (tk l i) [111, 110] = true then (match evnt (tk l (i + 1)) with
      | none => bad (tk l (i + 1))
      | some v => if wd (tk l (i + 2)) [119, 104, 101, 110] = true then bd (P l n (.row 1) (i + 3) d) fun x j => bd (P l n .block j d) fun y k => okr (nod 7 v [] (tk l i).pos (x.app y)) k
        else bd (P l n .block (i + 2) d) fun y k => okr (nod 7 v [] (tk l i).pos y) k)
    else bad (tk l i)
  | n + 1, .lines acc, i, d => if mk (tk l i) [125] = true then okr acc (i + 1) else bd (P l n .line i d) fun x j => P l n (.lines (acc.app x)) j d
  | n + 1, .card, i, d => if wd (tk l i) [99, 97, 114, 100] = true then (if (tk l (i + 1)).kind = 3 then (if mk (tk l (i + 2)) [123] = true then bd (P l n (.lines .nil) (i + 3) d) fun k j => okr (nod 2 0 (tk l (i + 1)).text (tk l i).pos k) j else bad (tk l (i + 2))) else bad (tk l (i + 1))) else bad (tk l i)
  | n + 1, .cards acc, i, d => if (tk l i).kind = 0 then okr acc i else bd (P l n .card i d) fun x j => P l n (.cards (acc.app x)) j d
theorem bd_some {r : Option Rs} {k : Fo → Nat → Option Rs} {R : Rs} (h : bd r k = some R) : (∃ e p, r = some (.bad e p) ∧ R = .bad e p) ∨ ∃ f i, r = some (.ok f i) ∧ k f i = some R := by
  cases r with
  | none => cases h
  | some r =>
    cases r with
    | bad e p => exact .inl ⟨e, p, rfl, (Option.some.inj h).symm⟩
    | ok f i => exact .inr ⟨f, i, rfl, h⟩
end TP
end Go.Proofs.YtkldllnnocdhbaaGreatDoor
