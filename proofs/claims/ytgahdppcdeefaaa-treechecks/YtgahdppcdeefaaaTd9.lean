/-
  Trees as lists, no program: what each kind of node asks for, the walk over what is still wanted, Behind, Kids, Weight.
-/
import Derived.WalkKit
namespace Go.Proofs.Ytgahdppcdeefaaa
namespace TR
structure Nd where
  op : Int
  kind : Int
  n : Int
  m : Int
  text : List Int
  pos : Int
  kids : Int
  deriving DecidableEq
def sml (c : Int) : Bool := decide (97 ≤ c) && decide (c ≤ 122)
def grt (c : Int) : Bool := decide (65 ≤ c) && decide (c ≤ 90)
def dig (c : Int) : Bool := decide (48 ≤ c) && decide (c ≤ 57)
def prt (c : Int) : Bool := sml c || grt c || dig c || c == 95
def pln (c : Int) : Bool := decide (32 ≤ c) && decide (c ≤ 126)
def isN (l : List Int) : Bool := decide (l ≠ []) && (decide (l.length ≤ 32) && (sml (l.getD 0 0) && l.all prt))
def isT (l : List Int) : Bool := decide (l.length ≤ 64) && l.all pln
def wself : List Int := [115, 101, 108, 102]
def wme : List Int := [109, 101]
def whit : List Int := [104, 105, 116]
def wdraw : List Int := [100, 114, 97, 119]
/- the words of the language -/
def words : List (List Int) := [[99, 97, 114, 100], [99, 111, 115, 116], [112, 111, 119, 101, 114], [104, 101, 97, 108, 116, 104], [116, 97, 103], [111, 110], [119, 104, 101, 110], [108, 101, 116], [105, 102], [101, 108, 115, 101], [114, 101, 112, 101, 97, 116], [97, 115], [101, 97, 99, 104], [105, 110], [99, 104, 111, 111, 115, 101], [115, 116, 111, 112], [97, 98, 111, 114, 116], [116, 114, 117, 101], [102, 97, 108, 115, 101], wself, wme, [100, 101, 99, 107], [104, 97, 110, 100], [98, 111, 97, 114, 100], [103, 114, 97, 118, 101], [112, 108, 97, 121], [100, 105, 101], whit, [116, 117, 114, 110], wdraw]
inductive Tx where
  | none
  | txt
  | nam
  | free (also : List (List Int))
  deriving DecidableEq
def Tx.ok : Tx → List Int → Bool
  | .none, l => decide (l = [])
  | .txt, l => isT l
  | .nam, l => isN l
  | .free also, l => isN l && (!words.contains l || also.contains l)
structure Plc where
  takes : Nat
  rank : Nat
  deriving DecidableEq
structure Kd where
  is : Nat
  rank : Nat
  row : Bool
  opens : Nat
  most : Int
  text : Tx
  each : Nat
  ways : List (List Plc)
  deriving DecidableEq
def k0 : Kd := ⟨0, 0, false, 0, 0, .none, 0, []⟩
def big : Int := 9223372036854775807
def mark (r a b : Nat) : Kd := ⟨64, r, r == a, 0, 0, .none, 0, [[⟨64, a⟩, ⟨64, b⟩]]⟩
def ahead (r : Nat) : Kd := ⟨64, r, false, 1, 0, .none, 0, [[⟨64, r⟩]]⟩
/- the kinds, by Op, as the program lays them -/
def tab : List (Int × Kd) := [
  (1, ⟨1, 0, false, 0, 0, .none, 2, []⟩), (2, ⟨2, 0, false, 0, 0, .txt, 4, []⟩), (3, ⟨4, 0, false, 0, big, .none, 0, []⟩), (4, ⟨4, 0, false, 0, big, .none, 0, []⟩), (5, ⟨4, 0, false, 0, big, .none, 0, []⟩), (6, ⟨4, 0, false, 0, 0, .txt, 0, []⟩), (7, ⟨4, 0, false, 0, 4, .none, 0, [[⟨8, 0⟩], [⟨64, 0⟩, ⟨8, 0⟩]]⟩),
  (10, ⟨8, 0, false, 1, 0, .none, 16, []⟩), (11, ⟨16, 0, false, 0, 0, .free [], 0, [[⟨64, 0⟩]]⟩), (12, ⟨16, 0, false, 0, 0, .free [wself, wme], 0, [[⟨64, 0⟩]]⟩), (13, ⟨48, 0, false, 0, 0, .none, 0, [[⟨64, 0⟩, ⟨8, 0⟩], [⟨64, 0⟩, ⟨8, 0⟩, ⟨40, 0⟩]]⟩), (14, ⟨16, 0, false, 0, big, .free [], 0, [[⟨8, 0⟩]]⟩), (15, ⟨16, 0, false, 0, 0, .free [], 0, [[⟨64, 0⟩, ⟨8, 0⟩]]⟩), (16, ⟨16, 0, false, 0, 0, .free [], 0, [[⟨64, 0⟩, ⟨8, 0⟩], [⟨64, 0⟩, ⟨8, 0⟩, ⟨8, 0⟩]]⟩), (17, ⟨16, 0, false, 0, 0, .none, 0, []⟩), (18, ⟨16, 0, false, 0, 0, .none, 0, []⟩), (19, ⟨16, 0, false, 1, 0, .free [whit, wdraw], 64, []⟩),
  (30, ⟨64, 8, false, 0, big, .none, 0, []⟩), (31, ⟨64, 8, false, 0, 0, .none, 0, []⟩), (32, ⟨64, 8, false, 0, 0, .none, 0, []⟩), (33, ⟨64, 8, false, 0, 0, .free [wself, wme], 0, []⟩), (49, ⟨64, 8, true, 0, 0, .nam, 0, [[⟨64, 8⟩]]⟩), (50, ⟨64, 8, false, 1, 0, .free [], 192, []⟩), (51, ⟨128, 0, false, 0, 3, .none, 0, []⟩), (52, ⟨128, 0, false, 0, 0, .txt, 0, []⟩),
  (36, mark 1 1 2), (37, mark 2 2 3), (34, ahead 3), (38, mark 4 5 5), (39, mark 4 5 5), (40, mark 4 5 5), (41, mark 4 5 5), (42, mark 4 5 5), (43, mark 4 5 5), (44, mark 5 5 6), (45, mark 5 5 6), (46, mark 6 6 7), (47, mark 6 6 7), (48, mark 6 6 7), (35, ahead 7)]
def kd (op : Int) : Kd := (tab.lookup op).getD k0
def fits (k : Kd) (x : Nd) : Bool := x.kind == 0 && (x.m == 0 && (decide (0 ≤ x.pos) && (decide (0 ≤ x.n) && (decide (x.n ≤ k.most) && k.text.ok x.text))))
/- what a node with that number of kids asks for, and how many of them at each place -/
def plcs (k : Kd) (kids : Int) : Option (List Plc × Nat) :=
  if k.each ≠ 0 then (if 0 ≤ kids then some ([⟨k.each, 0⟩], kids.toNat) else none)
  else match k.ways.find? fun w => (w.length : Int) == kids with
    | some w => some (w, 1)
    | none => if kids = 0 ∧ k.ways = [] then some ([], 0) else none
structure Wt where
  plc : Plc
  many : Nat
  opn : Nat
  rest : Bool
  deriving DecidableEq
/- the row, or the chain, of the first node goes on with its first kid -/
def goes (a b : Nd) : Bool := (kd a.op).row && ((kd b.op).row && (kd a.op).rank == (kd b.op).rank)
def gos : List Nd → Bool
  | a :: b :: _ => goes a b
  | _ => false
def mks : List Nd → Nat
  | [] => 0
  | [_] => 0
  | a :: b :: r => if goes a b then mks (b :: r) + 1 else 0
def more (k : Kd) (x : Wt) (marks : Nat) : Nat := (if k.rank < x.plc.rank then 1 else 0) + (if k.is &&& x.plc.takes &&& 32 ≠ 0 then 1 else 0) + (if x.rest then 0 else marks)
def wants (ps : List Plc) (many o : Nat) (g : Bool) : List Wt :=
  match ps with
  | [] => []
  | p :: r => ⟨p, many, if g then o - 1 else o, g⟩ :: r.map fun q => ⟨q, many, o, false⟩
/- the node that comes next: how many are open at it, and what it wants -/
def ent (a : Nd) (r : List Nd) (x : Wt) : Option (Nat × List Wt) :=
  if (kd a.op).is &&& x.plc.takes = 0 ∨ fits (kd a.op) a = false then none
  else match plcs (kd a.op) a.kids with
    | none => none
    | some (ps, many) => some (x.opn + more (kd a.op) x (mks (a :: r)) + (kd a.op).opens, wants ps many (x.opn + more (kd a.op) x (mks (a :: r)) + (kd a.op).opens) (gos (a :: r)))
def pop : List Wt → List Wt
  | [] => []
  | x :: S => if x.many = 0 then pop S else x :: S
/- the depth, the first node's place that is none, whether it is a tree -/
def go : List Nd → List Wt → Nat → Nat → Nat × Nat × Bool
  | [], S, d, p => if pop S = [] then (d, 0, true) else (0, p, false)
  | a :: r, S, d, p => match pop S with
    | [] => (0, p, false)
    | x :: S' => match ent a r x with
      | none => (0, p, false)
      | some (o, ws) => go r (ws ++ { x with many := x.many - 1 } :: S') (max d o) (p + 1)
def wroot : Wt := ⟨⟨1, 0⟩, 1, 0, false⟩
def wlk (l : List Nd) : Nat × Nat × Bool := go l [wroot] 0 0
def ckE (l : List Nd) : Int := if (wlk l).2.2 then (if 64 < (wlk l).1 then 23 else 0) else 24
def ckA (l : List Nd) : Nat := (wlk l).2.1
def dpt (l : List Nd) : Nat := (wlk l).1
/- behind so many trees; none, if the list ends, or a number of kids is none -/
def bhn (N : Nat) : List Nd → Nat → Nat → Option Nat
  | _, 0, p => some p
  | [], _ + 1, _ => none
  | a :: r, k + 1, p => if 0 ≤ a.kids ∧ a.kids ≤ N then bhn N r (k + a.kids.toNat) (p + 1) else none
def bhd (l : List Nd) (p : Int) : Int := if p < 0 then -1 else match bhn l.length (l.drop p.toNat) 1 p.toNat with
  | some q => q
  | none => -1
def kdsF (l : List Nd) : Nat → Int → List Int
  | 0, _ => []
  | k + 1, p => p :: kdsF l k (bhd l p)
def dn : Nd := ⟨0, 0, 0, 0, [], 0, 0⟩
def kds (l : List Nd) (p : Int) : List Int := if bhd l p = -1 then [] else kdsF l (l.getD p.toNat dn).kids.toNat (p + 1)
def wgF (l : List Nd) : Nat → Nat → Int → Int
  | 0, _, b => b
  | n + 1, i, b => wgF l n (i + 1) (if (l.getD i dn).op = 7 then max b (bhd l i - i - 1) else b)
def wgt (l : List Nd) : Int := if (wlk l).2.2 then wgF l l.length 0 0 else 0
def nop (a : Nd) : Nd := { a with pos := 0 }
def sam (a b : List Nd) : Bool := decide (a.map nop = b.map nop)
/- the tree that lives has -/
def ltr : List Nd := [⟨1, 0, 0, 0, [], 0, 1⟩, ⟨2, 0, 0, 0, [97], 0, 1⟩, ⟨7, 0, 0, 0, [], 0, 1⟩, ⟨10, 0, 0, 0, [], 0, 1⟩, ⟨19, 0, 0, 0, wdraw, 0, 1⟩, ⟨33, 0, 0, 0, wme, 0, 0⟩]
theorem ltr_wlk : wlk ltr = (2, 0, true) := by decide +kernel
theorem ltr_cut : wlk (ltr.take 5) = (0, 5, false) := by decide +kernel
theorem ltr_wgt : wgt ltr = 3 := by decide +kernel
theorem ltr_bhd : bhd ltr 3 = 6 := by decide +kernel
theorem ltr_kds : kds ltr 4 = [5] := by decide +kernel
end TR
end Go.Proofs.Ytgahdppcdeefaaa
