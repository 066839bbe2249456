/- Base, Fr, Copy, Lc, Sl, St -/
import Derived.Test.YtodhjjeagmjhdaaGreatDoorProg
import Derived.WalkSpells
import Derived.WalkLawsBesides
import Derived.Handy
import Derived.Below
import Derived.OwnWalk
import Derived.Deep.QuietTactic
import Derived.BigQuiet
import Derived.BigRegion
import Derived.WalkSmall
import Derived.Laws.AppendOwnNone
import Derived.Deep.MidRow
import Derived.Deep.RegionHeld3
import Derived.Deep.DrawnRows
import Derived.Deep.RegionLaw
import Derived.Deep.AppendLies
import Derived.Laws.CopyOwn
namespace Go.Proofs.YtodhjjeagmjhdaaGreatDoor
open Go.RowKit
theorem ret_int {k : IntKind} {a b : Int} (h : a = b) : Ending.returned (.int k a) = .returned (.int k b) := by rw [h]
def Up (w w' : World) : Prop := Below w.heap.size w w'
theorem Up.refl (w : World) : Up w w := Below.refl _ _
theorem Up.trans {a b c : World} (h : Up a b) (k : Up b c) : Up a c := Below.trans h (Below.mono k h.size)
theorem Up.alloc {a w : World} (h : Up a w) (o : Obj) : Up a (w.alloc o) := Below.alloc h h.size o
theorem Up.drew {a w : World} (h : Up a w) : Up a w.drew := Below.drew h
theorem Up.drewN {a w : World} (h : Up a w) (n : Nat) : Up a (w.drewN n) := ⟨h.os,h.tape,h.output,h.size,h.block⟩
theorem Up.cell {w w' : World} (h : Up w w') {p : Addr} {v : Value} (hc : w.cell? p = some v) : w'.cell? p = some v := by
 rw [Below.cell h (World.block_lt_of_cell? w p hc)]; exact hc
theorem Up.heap {w w' : World} (h : Up w w') {g : Nat} {o : Obj} (hg : w.heap[g]? = some o) : w'.heap[g]? = some o := by
 rw [h.block g (Array.getElem?_eq_some_iff.1 hg).1]; exact hg
def Only (b : Nat) (w w' : World) : Prop := (w'.os = w.os /\ w'.tape = w.tape /\ w'.output = w.output) /\ w.heap.size <= w'.heap.size /\ ∀ g,g < w.heap.size -> g ≠ b -> w'.heap[g]? = w.heap[g]?
theorem Only.refl (b : Nat) (w : World) : Only b w w := ⟨⟨rfl,rfl,rfl⟩,Nat.le_refl _,fun _ _ _=>rfl⟩
theorem Only.trans {b : Nat} {x y z : World} (h : Only b x y) (k : Only b y z) : Only b x z :=
 ⟨⟨k.1.1.trans h.1.1,k.1.2.1.trans h.1.2.1,k.1.2.2.trans h.1.2.2⟩,Nat.le_trans h.2.1 k.2.1,fun g hg hb=>(k.2.2 g (Nat.lt_of_lt_of_le hg h.2.1) hb).trans (h.2.2 g hg hb)⟩
theorem Only.up {b : Nat} {x y : World} (h : Up x y) : Only b x y := ⟨⟨h.os,h.tape,h.output⟩,h.size,fun g hg _=>h.block g hg⟩
theorem Only.set {b : Nat} {x y : World} (h : Only b x y) (j : Nat) (u : Value) : Only b x (y.setCell ⟨b,j,none⟩ u) :=
 ⟨h.1,by have := h.2.1; simpa using this,fun g hg hb=>by rw [Below.heap_setCell _ _ _ _ hb]; exact h.2.2 g hg hb⟩
theorem Only.below {b B : Nat} {x y : World} (h : Only b x y) (h1 : B <= b) (h2 : B <= x.heap.size) : Below B x y :=
 ⟨h.1.1,h.1.2.1,h.1.2.2,h.2.1,fun g hg=>h.2.2 g (by omega) (by omega)⟩
theorem Only.heap {b : Nat} {x y : World} (h : Only b x y) {g : Nat} {o : Obj} (hg : x.heap[g]? = some o) (hb : g ≠ b) : y.heap[g]? = some o := by
 rw [h.2.2 g (Array.getElem?_eq_some_iff.1 hg).1 hb]; exact hg
theorem row_up {w w' : World} {b e s n : Nat} {v : Value} {xs : List Value} (h : w.ownsRow b e s v n xs) (u : Up w w') : w'.ownsRow b e s v n xs := by
 refine ⟨h.1,?_⟩
 rcases h.2 with h | ⟨g,cap,cur,e1,e2,e3,e4⟩
 ·exact .inl h
 ·exact .inr ⟨g,cap,cur,e1,e2,u.heap e3,e4⟩
theorem row_some {w : World} {b e s n : Nat} {v : Value} {xs : List Value} (h : w.ownsRow b e s v n xs) (hn : 0 < n) : ∃ g cap,b <= g /\ n <= cap /\ v = .slice (some ⟨g,0,none⟩) n cap := by
 rcases h.2 with ⟨rfl,h0⟩ | ⟨g,cap,cur,rfl,hb,_,hc,_⟩
 ·omega
 ·exact ⟨g,cap,hb,hc,rfl⟩
theorem row_val {w : World} {base e s n : Nat} {v : Value} {xs : List Value} (h : w.ownsRow base e s v n xs) : ∃ ad cap,v = .slice ad n cap := by
 rcases h.2 with ⟨rfl,hn⟩ | ⟨g,cap,cur,rfl,_⟩
 ·exact ⟨none,0,by rw [hn]⟩
 ·exact ⟨_,cap,rfl⟩
theorem flat_len {E : Type} (f : E -> List Value) (s : Nat) (hf : ∀ e,(f e).length = s) (l : List E) : (l.flatMap f).length = l.length * s := by
 induction l with
 | nil=>simp
 | cons x l ih=>rw [List.flatMap_cons,List.length_append,ih,hf,List.length_cons,Nat.succ_mul]; omega
theorem flat_get {E : Type} (f : E -> List Value) (s : Nat) (hf : ∀ e,(f e).length = s) (d : E) (l : List E) : ∀ i j,i < l.length -> j < s -> (l.flatMap f)[i * s + j]? = (f (l.getD i d))[j]? := by
 induction l with
 | nil=>intro i j h; simp at h
 | cons x l ih =>
  intro i j hi hj
  rw [List.flatMap_cons]
  cases i with
  | zero=>rw [Nat.zero_mul,Nat.zero_add,List.getElem?_append_left (by rw [hf]; exact hj)]; rfl
  | succ i =>
   rw [List.getElem?_append_right (by rw [hf,Nat.succ_mul]; omega),hf,show (i + 1) * s + j - s = i * s + j by rw [Nat.succ_mul]; omega,ih i j (by simpa using hi) hj]
   rfl
theorem qa1 {α : Type} (l : List α) (i : Nat) (a : α) : l.toArray.setIfInBounds i a = (l.set i a).toArray := List.setIfInBounds_toArray l i a
theorem qa2 {α : Type} {x : α} {xs : List α} {a : α} : (x :: xs).set 0 a = a :: xs := rfl
theorem qa3 {α : Type} {x : α} {xs : List α} {i : Nat} {a : α} : (x :: xs).set (i + 1) a = x :: xs.set i a := rfl
theorem qa4 {α : Type} {xs : List α} {i : Nat} (h : i < xs.toArray.size) : xs.toArray[i] = xs[i]'(by simpa using h) := rfl
theorem qa5 {α : Type} (a : α) (ls : List α) (h : 0 < (a :: ls).length) : (a :: ls)[0] = a := rfl
theorem qa6 {α : Type} (a : α) (ls : List α) (i : Nat) (h : i + 1 < (a :: ls).length) : (a :: ls)[i + 1] = ls[i]'(by simpa using h) := rfl
end Go.Proofs.YtodhjjeagmjhdaaGreatDoor
namespace Go.Proofs.YtodhjjeagmjhdaaGreatDoor
open Go.RowKit
theorem row_type {w : World} {b e s n m g cap : Nat} {xs : List Value} (h : w.ownsRow b e s (.slice (some ⟨g,0,none⟩) n cap) m xs) : ∀ o,w.heap[g]? = some o -> ∃ cs fz,o = .cells cs e fz := by
 intro o ho
 rcases h.2 with ⟨h',_⟩ | ⟨g',cap',cur,h',_,hg',_⟩
 ·simp at h'
 ·simp only [Value.slice.injEq,Option.some.injEq,Addr.mk.injEq,and_true] at h'
  rw [<- h'.1] at hg'
  rw [hg'] at ho
  exact ⟨cur,(0,0),(Option.some.inj ho).symm⟩
def Fr (tE hb base : Nat) (W W' : World) : Prop := (W'.os = W.os /\ W'.tape = W.tape /\ W'.output = W.output) /\ W.heap.size <= W'.heap.size /\ ∀ (g : Nat) (o : Obj),W.heap[g]? = some o -> g ≠ hb -> (g < base ∨ ∀ (cs : Array Value) (fz : Nat × Nat),o ≠ .cells cs tE fz) -> W'.heap[g]? = some o
theorem Fr.refl (tE hb base : Nat) (W : World) : Fr tE hb base W W := ⟨⟨rfl,rfl,rfl⟩,Nat.le_refl _,fun _ _ h _ _=>h⟩
theorem Fr.trans {tE hb base : Nat} {a b c : World} (h : Fr tE hb base a b) (k : Fr tE hb base b c) : Fr tE hb base a c :=
 ⟨⟨k.1.1.trans h.1.1,k.1.2.1.trans h.1.2.1,k.1.2.2.trans h.1.2.2⟩,Nat.le_trans h.2.1 k.2.1,fun g o e h1 h2=>k.2.2 g o (h.2.2 g o e h1 h2) h1 h2⟩
theorem Fr.up {tE hb base : Nat} {a b : World} (h : Up a b) : Fr tE hb base a b := ⟨⟨h.os,h.tape,h.output⟩,h.size,fun _ _ e _ _=>h.heap e⟩
theorem Fr.set {tE hb base : Nat} {a b : World} (h : Fr tE hb base a b) (j : Nat) (u : Value) : Fr tE hb base a (b.setCell ⟨hb,j,none⟩ u) :=
 ⟨h.1,by have := h.2.1; simpa using this,fun g o e h1 h2=>by rw [Below.heap_setCell _ _ _ _ h1]; exact h.2.2 g o e h1 h2⟩
theorem Fr.only {tE hb base g : Nat} {a b c : World} (h : Fr tE hb base a b) (k : Only g b c) (hg : base <= g) (ht : ∀ o,b.heap[g]? = some o -> ∃ cs fz,o = .cells cs tE fz) : Fr tE hb base a c := by
 refine ⟨⟨k.1.1.trans h.1.1,k.1.2.1.trans h.1.2.1,k.1.2.2.trans h.1.2.2⟩,Nat.le_trans h.2.1 k.2.1,fun q o e h1 h2=>?_⟩
 have hq := h.2.2 q o e h1 h2
 by_cases eq : q = g
 ·subst eq
  obtain ⟨cs,fz,rfl⟩ := ht o hq
  rcases h2 with h2 | h2
  ·omega
  ·exact absurd rfl (h2 cs fz)
 ·exact k.heap hq eq
theorem Fr.grown {tE hb base s n : Nat} {a b c : World} {v : Value} {xs : List Value} (h : Fr tE hb base a b) (hr : b.ownsRow base tE s v n xs) (k : b.grownBy c v.ownBlock) : Fr tE hb base a c := by
 refine ⟨⟨k.os.trans h.1.1,k.tape.trans h.1.2.1,k.output.trans h.1.2.2⟩,Nat.le_trans h.2.1 k.size,fun q o e h1 h2=>?_⟩
 have hq := h.2.2 q o e h1 h2
 by_cases eq : v.ownBlock = some q
 ·rcases hr.2 with ⟨rfl,_⟩ | ⟨g',cap,cur,rfl,hb',hh,_⟩
  ·cases eq
  ·cases eq
   rw [hh] at hq
   cases hq
   rcases h2 with h2 | h2
   ·have h3 : g' < base := h2
    omega
   ·exact absurd rfl (h2 _ _)
 ·rw [k.block q (Array.getElem?_eq_some_iff.1 hq).1 (fun e=>eq e.symm)]; exact hq
theorem Fr.below {tE hb base : Nat} {a b : World} (h : Fr tE hb base a b) (hb1 : hb < base) (hs : hb <= a.heap.size) : Below hb a b :=
 ⟨h.1.1,h.1.2.1,h.1.2.2,h.2.1,fun g hg=>by
  have hl : g < a.heap.size := by omega
  rw [h.2.2 g a.heap[g] (Array.getElem?_eq_getElem hl) (by omega) (.inl (by omega)),Array.getElem?_eq_getElem hl]⟩
def Safe (tE hb base : Nat) (W : World) (b : Nat) : Prop := b ≠ hb /\ (b < base ∨ ∀ o,W.heap[b]? = some o -> ∀ (cs : Array Value) (fz : Nat × Nat),o ≠ .cells cs tE fz)
theorem Safe.heap {tE hb base : Nat} {W W' : World} {b : Nat} (h : Safe tE hb base W b) (k : Fr tE hb base W W') (hl : b < W.heap.size) : W'.heap[b]? = W.heap[b]? := by
 have e := Array.getElem?_eq_getElem hl
 rw [e]
 exact k.2.2 b _ e h.1 (h.2.imp id (fun h=>h _ e))
theorem Safe.fr {tE hb base : Nat} {W W' : World} {b : Nat} (h : Safe tE hb base W b) (k : Fr tE hb base W W') (hl : b < W.heap.size) : Safe tE hb base W' b := by
 refine ⟨h.1,h.2.imp id (fun h2 o ho=>?_)⟩
 rw [Safe.heap h k hl] at ho
 exact h2 o ho
theorem Safe.cell {tE hb base : Nat} {W W' : World} {b j : Nat} {v : Value} (h : Safe tE hb base W b) (k : Fr tE hb base W W') (hc : W.cell? ⟨b,j,none⟩ = some v) : W'.cell? ⟨b,j,none⟩ = some v := by
 rw [World.cell?_of_block (w := W) (w' := W') (a := ⟨b,j,none⟩) (h.heap k (World.block_lt_of_cell? W _ hc))]; exact hc
end Go.Proofs.YtodhjjeagmjhdaaGreatDoor
namespace Go.Proofs.YtodhjjeagmjhdaaGreatDoor
open Go.RowKit
theorem Only.setRow (w : World) (g : Nat) (cs : Array Value) : Only g w (w.setRow g cs) := ⟨⟨rfl,rfl,rfl⟩,by simp,fun k _ hk=>setRow_other w g k cs hk⟩
theorem run_copyS {P : Program} (w : World) (dT sT ty elem : TypeId) (size : Nat) (hs0 : 0 < size) (dp sp : Option Addr) (dLen dCap sLen sCap g off : Nat) (cur : List Value) (t : TypeId)
  (hu : P.underlying dT = some (.slice elem)) (hsz : (P.info? elem).map (·.size) = some size) (hg : w.heap[g]? = some (.cells cur.toArray t (0,0))) (cs : List Value) (hn : cs.length = Nat.min sLen dLen * size)
  (hpos : 0 < cs.length -> dp = some ⟨g,off,none⟩ /\ ∃ ad,sp = some ad /\ ∀ j v,cs[j]? = some v -> w.cell? (ad.add j) = some v) (hfit : off + cs.length <= cur.length) (h1 : ∀ v ∈ cs,v.oneCell' = true) :
  ∃ w',(Builtin.copy_ #[dT,sT] ty #[.slice dp dLen dCap,.slice sp sLen sCap]).run P w = .ok (goInt (Nat.min sLen dLen : Nat)) w' /\ w'.heap[g]? = some (.cells (splice cur off cs).toArray t (0,0)) /\ Only g w w' := by
 cases hq : P.info? elem with
 | none=>simp [hq] at hsz
 | some i =>
  have hi : i.size = size := by simpa [hq] using hsz
  by_cases h0 : cs.length = 0
  ·obtain rfl : cs = [] := List.eq_nil_of_length_eq_zero h0
   have hm : Nat.min sLen dLen = 0 := by
    rcases Nat.mul_eq_zero.1 hn.symm with h | h
    ·exact h
    ·omega
   refine ⟨w,?_,by simpa [splice] using hg,Only.refl _ _⟩
   have hl0 : ∀ (x : Addr),(loadCells x 0).run P w = .ok #[] w := fun x=>by simpa using run_loadCells_list (P := P) w x [] (by simp)
   cases sp <;> cases dp <;> simp [Builtin.copy_,run_underlying hu,Builtin.lenOf,Builtin.firstCells,sizeOf,typeInfo,hq,hm,storeCells,hl0]
  ·obtain ⟨rfl,ad,rfl,hsrc⟩ := hpos (by omega)
   have hl := run_loadCells_list (P := P) w ad cs hsrc
   have hst := run_storeCells_at P g off t cs 0 cur.toArray w hg (by simpa using hfit) h1
   refine ⟨_,?_,setRow_heap w g _ _ t _ hg,Only.setRow w g _⟩
   rw [hn] at hl
   simp [Builtin.copy_,run_underlying hu,Builtin.lenOf,Builtin.firstCells,sizeOf,typeInfo,hq,hi,hl,hst,splice]
end Go.Proofs.YtodhjjeagmjhdaaGreatDoor
namespace Go.Proofs.YtodhjjeagmjhdaaGreatDoor
open Go.RowKit
theorem Up.trans' {a b c : World} {k : Nat} (h : Up a b) (o : Only k b c) (hk : a.heap.size <= k) : Up a c := Below.trans h (o.below hk h.size)
def LC (W : World) (v : Value) (s n : Nat) (cs : List Value) : Prop := cs.length = n * s /\ ∃ a cap,v = .slice a n cap /\ n <= cap /\ (n ≠ 0 -> ∃ b off,a = some ⟨b,off,none⟩ /\ ∀ j,j < n * s -> W.cell? ⟨b,off + j,none⟩ = cs[j]?)
theorem LC.up {W W' : World} {v : Value} {s n : Nat} {cs : List Value} (h : LC W v s n cs) (u : Up W W') : LC W' v s n cs := by
 obtain ⟨h0,a,cap,hv,hc,h⟩ := h
 refine ⟨h0,a,cap,hv,hc,fun hn=>?_⟩
 obtain ⟨b,off,ha,hcell⟩ := h hn
 refine ⟨b,off,ha,fun j hj=>?_⟩
 have := hcell j hj
 rw [<- this]
 rw [List.getElem?_eq_getElem (by omega)] at this
 rw [this]; exact u.cell this
theorem row_made {w : World} {base g n e s : Nat} {xs : List Value} (h : w.ownsRow base e s (.slice (some ⟨g,0,none⟩) n n) n xs) : w.heap[g]? = some (.cells xs.toArray e (0,0)) := by
 rcases h.2 with ⟨h',_⟩ | ⟨g',cap,cur,h',_,hh,_,_,hs,ht⟩
 ·simp at h'
 ·simp only [Value.slice.injEq,Option.some.injEq,Addr.mk.injEq,and_true,true_and] at h'
  obtain ⟨rfl,rfl⟩ := h'
  rw [hh,<- ht,List.take_of_length_le (by simp; omega)]
theorem lc_row {W : World} {g n e s : Nat} {cs : List Value} (h : W.heap[g]? = some (.cells cs.toArray e (0,0))) (hl : cs.length = n * s) (cap : Nat) (hc : n <= cap) : LC W (.slice (some ⟨g,0,none⟩) n cap) s n cs :=
 ⟨hl,some ⟨g,0,none⟩,cap,rfl,hc,fun _=>⟨g,0,rfl,fun j _=>by simp [World.cell?,h]⟩⟩
end Go.Proofs.YtodhjjeagmjhdaaGreatDoor
namespace Go.Proofs.YtodhjjeagmjhdaaGreatDoor
open Go.RowKit
theorem made_up {w w1 : World} (h : w.grownBy w1 none) : Up w w1 := Below.grown (Up.refl _) h (Nat.le_refl _) (fun k hk=>by cases hk)
end Go.Proofs.YtodhjjeagmjhdaaGreatDoor
namespace Go.Proofs.YtodhjjeagmjhdaaGreatDoor
structure Ply where
 life : Int
 energy : Int
 out : Bool
 deriving DecidableEq
structure Crd where
 kind : Int
 owner : Int
 power : Int
 health : Int
 damage : Int
 marks : Int
 deriving DecidableEq
structure Stt where
 ps : List Ply
 cs : List Crd
 zs : List (List Int)
 turn : Int
 whose : Int
 fin : Int
 winner : Int
namespace ST
def dp : Ply := ⟨0,0,false⟩
def dc : Crd := ⟨0,0,0,0,0,0⟩
def statB (x : Int) : Bool := decide (-1000000000 <= x) && decide (x <= 1000000000)
def numB (x : Int) (n : Nat) : Bool := decide (0 <= x) && decide (x < (n : Int))
def plyB (p : Ply) : Bool := statB p.life && statB p.energy
def crd0B (c : Crd) : Bool := numB c.kind 256 && statB c.power && statB c.health && statB c.damage && statB c.marks
def crdB (n : Nat) (c : Crd) : Bool := crd0B c && numB c.owner n
def npB (n : Nat) : Bool := decide (2 <= n) && decide (n <= 4)
def ncB (m : Nat) : Bool := decide (1 <= m) && decide (m <= 256)
def sizesB (s : Stt) : Bool := npB s.ps.length && ncB s.cs.length && decide (s.zs.length = 4 * s.ps.length)
def okAt (m : Nat) (l : List Int) (k : Nat) : Bool := match l[k]? with
 | some x=>numB x m && !(l.take k).contains x
 | none=>false
def goodF (m : Nat) (l : List Int) : Nat -> Nat -> Nat
 | 0,k=>k
 | f + 1,k=>if okAt m l k then goodF m l f (k + 1) else k
def good (m : Nat) (l : List Int) : Nat := goodF m l l.length 0
theorem goodF_at (m : Nat) (l : List Int) (k : Nat) (hk : k < l.length -> okAt m l k = false) : ∀ f j,j <= k -> k <= j + f -> j + f = l.length -> (∀ i,j <= i -> i < k -> okAt m l i = true) -> goodF m l f j = k := by
 intro f
 induction f with
 | zero=>intro j h1 h2 _ _; simp only [goodF]; omega
 | succ f ih =>
  intro j h1 h2 h3 h
  by_cases e : j = k
  ·subst e
   simp only [goodF]
   rw [hk (by omega)]; simp
  ·simp only [goodF]
   rw [h j (Nat.le_refl _) (by omega),if_pos rfl]
   exact ih (j + 1) (by omega) (by omega) (by omega) (fun i h4 h5=>h i (by omega) h5)
theorem good_at (m : Nat) (l : List Int) (k : Nat) (h1 : k <= l.length) (h2 : ∀ i,i < k -> okAt m l i = true) (h3 : k < l.length -> okAt m l k = false) : good m l = k :=
 goodF_at m l k h3 l.length 0 (Nat.zero_le _) (by omega) (by omega) (fun i _ h=>h2 i h)
theorem goodF_ok (m : Nat) (l : List Int) : ∀ f j,(∀ i,j <= i -> i < goodF m l f j -> okAt m l i = true) /\ j <= goodF m l f j /\ goodF m l f j <= j + f := by
 intro f
 induction f with
 | zero=>intro j; simp only [goodF]; exact ⟨fun i h1 h2=>by omega,Nat.le_refl _,by omega⟩
 | succ f ih =>
  intro j
  simp only [goodF]
  split
  ·rename_i h
   obtain ⟨a,b,c⟩ := ih (j + 1)
   refine ⟨fun i h1 h2=>?_,by omega,by omega⟩
   by_cases e : i = j
   ·subst e; exact h
   ·exact a i (by omega) h2
  ·exact ⟨fun i h1 h2=>by omega,Nat.le_refl _,by omega⟩
theorem good_le (m : Nat) (l : List Int) : good m l <= l.length := by have := (goodF_ok m l l.length 0).2.2; unfold good; omega
theorem good_ok (m : Nat) (l : List Int) (i : Nat) (h : i < good m l) : okAt m l i = true := (goodF_ok m l l.length 0).1 i (Nat.zero_le _) h
def Ent (m : Nat) (l : List Int) : Prop := l.Nodup /\ ∀ x ∈ l,numB x m = true
theorem good_ent (m : Nat) (l : List Int) (k : Nat) (hk : k <= l.length) (h : ∀ i,i < k -> okAt m l i = true) : Ent m (l.take k) := by
 induction k with
 | zero=>simp [Ent]
 | succ k ih =>
  obtain ⟨a,b⟩ := ih (by omega) (fun i hi=>h i (by omega))
  have hx := h k (by omega)
  have e : l.take (k + 1) = l.take k ++ [l[k]'(by omega)] := by rw [List.take_add_one,List.getElem?_eq_getElem (by omega)]; rfl
  simp only [okAt,List.getElem?_eq_getElem (show k < l.length by omega),Bool.and_eq_true,Bool.not_eq_true'] at hx
  obtain ⟨h1,h2⟩ := hx
  have h2 : ¬ l[k]'(by omega) ∈ l.take k := by
   intro hm
   have := List.contains_iff_mem.2 hm
   rw [this] at h2; cases h2
  rw [Ent,e]
  refine ⟨?_,fun x hx=>?_⟩
  ·rw [List.nodup_append]
   refine ⟨a,by simp,fun x hx y hy=>?_⟩
   simp at hy; subst hy
   rintro rfl; exact h2 hx
  ·rcases List.mem_append.1 hx with hx | hx
   ·exact b x hx
   ·simp at hx; subst hx; exact h1
theorem ent_good (m : Nat) (l : List Int) (h : Ent m l) : good m l = l.length := by
 refine good_at m l l.length (Nat.le_refl _) (fun i hi=>?_) (fun h=>by omega)
 simp only [okAt,List.getElem?_eq_getElem hi,Bool.and_eq_true,Bool.not_eq_true']
 refine ⟨h.2 _ (List.getElem_mem hi),?_⟩
 rw [Bool.eq_false_iff]
 intro hc
 have hm := List.contains_iff_mem.1 hc
 have hd : l = l.take i ++ l[i] :: l.drop (i + 1) := by rw [List.getElem_cons_drop]; exact (List.take_append_drop i l).symm
 have hn := h.1
 rw [hd,List.nodup_append] at hn
 exact hn.2.2 _ hm _ (List.mem_cons_self ..) rfl
theorem good_iff (m : Nat) (l : List Int) : good m l = l.length ↔ Ent m l := by
 refine ⟨fun h=>?_,ent_good m l⟩
 have := good_ent m l l.length (Nat.le_refl _) (fun i hi=>good_ok m l i (by omega))
 rwa [List.take_length] at this
theorem sub_len {A : Type} [DecidableEq A] : ∀ (l r : List A),l.Nodup -> (∀ x ∈ l,x ∈ r) -> l.length <= r.length := by
 intro l
 induction l with
 | nil=>intro r _ _; exact Nat.zero_le _
 | cons x l ih =>
  intro r hn h
  have hx := h x (List.mem_cons_self ..)
  rw [List.nodup_cons] at hn
  have := ih (r.erase x) hn.2 (fun y hy=>(List.mem_erase_of_ne (fun e=>hn.1 (by rw [<- e]; exact hy))).2 (h y (List.mem_cons_of_mem _ hy)))
  rw [List.length_erase_of_mem hx] at this
  have : 0 < r.length := List.length_pos_of_mem hx
  simp only [List.length_cons]; omega
def nums (m : Nat) : List Int := (List.range m).map (fun i : Nat=>(i : Int))
theorem mem_nums {m : Nat} {x : Int} : x ∈ nums m ↔ numB x m = true := by
 simp only [nums,List.mem_map,List.mem_range,numB,Bool.and_eq_true,decide_eq_true_eq]
 exact ⟨fun ⟨i,h,e⟩=>by omega,fun ⟨a,b⟩=>⟨x.toNat,by omega,by omega⟩⟩
theorem ent_le {m : Nat} {l : List Int} (h : Ent m l) : l.length <= m := by
 have := sub_len l (nums m) h.1 (fun x hx=>mem_nums.2 (h.2 x hx))
 simpa [nums] using this
theorem ent_all {m : Nat} {l : List Int} (h : Ent m l) (hl : l.length = m) (x : Int) (hx : numB x m = true) : x ∈ l := by
 by_cases hm : x ∈ l
 ·exact hm
 ·have : Ent m (x :: l) := ⟨List.nodup_cons.2 ⟨hm,h.1⟩,fun y hy=>by rcases List.mem_cons.1 hy with rfl | hy; exact hx; exact h.2 y hy⟩
  have := ent_le this
  simp at this; omega
theorem good_small (m : Nat) (l : List Int) (k : Nat) (hk : k <= l.length) (h : ∀ i,i < k -> okAt m l i = true) : k <= m := by
 have := ent_le (good_ent m l k hk h)
 rw [List.length_take] at this; omega
def winB (s : Stt) : Bool := if s.fin = 1 then numB s.winner s.ps.length else decide (s.winner = 0)
def finB (s : Stt) : Bool := decide (s.fin = 0) || decide (s.fin = 1) || decide (s.fin = 2)
def flat (s : Stt) : List Int := s.zs.flatten
def ff (s : Stt) : Option Nat :=
 if sizesB s = false then some 0 else
 match s.ps.findIdx? (fun p=>!plyB p) with
 | some i=>some (1 + i)
 | none=>match s.cs.findIdx? (fun c=>!crdB s.ps.length c) with
  | some i=>some (1 + s.ps.length + i)
  | none=>if good s.cs.length (flat s) < (flat s).length ∨ good s.cs.length (flat s) < s.cs.length then some (1 + s.ps.length + s.cs.length + good s.cs.length (flat s)) else
   if ¬ 1 <= s.turn then some (2 + s.ps.length + 2 * s.cs.length) else
   if numB s.whose s.ps.length = false then some (3 + s.ps.length + 2 * s.cs.length) else
   if finB s = false then some (4 + s.ps.length + 2 * s.cs.length) else
   if winB s = false then some (5 + s.ps.length + 2 * s.cs.length) else none
def Rest (s : Stt) : Prop := sizesB s = true /\ (∀ p ∈ s.ps,plyB p = true) /\ (∀ c ∈ s.cs,crdB s.ps.length c = true) /\ 1 <= s.turn /\ numB s.whose s.ps.length = true /\ finB s = true /\ winB s = true
theorem findIdx_none {A : Type} (l : List A) (f : A -> Bool) : l.findIdx? (fun x=>!f x) = none ↔ ∀ x ∈ l,f x = true := by
 rw [List.findIdx?_eq_none_iff]
 exact ⟨fun h x hx=>by have := h x hx; simpa using this,fun h x hx=>by simp [h x hx]⟩
theorem ff_none (s : Stt) : ff s = none ↔ Rest s /\ Ent s.cs.length (flat s) /\ (flat s).length = s.cs.length := by
 have hg := good_le s.cs.length (flat s)
 have hi := good_iff s.cs.length (flat s)
 constructor
 ·intro h
  unfold ff at h
  split at h
  ·cases h
  rename_i h0
  split at h
  ·cases h
  rename_i h1
  split at h
  ·cases h
  rename_i h2
  split at h
  ·cases h
  rename_i h3
  split at h
  ·cases h
  rename_i h4
  split at h
  ·cases h
  rename_i h5
  split at h
  ·cases h
  rename_i h6
  split at h
  ·cases h
  rename_i h7
  have he : Ent s.cs.length (flat s) := hi.1 (by omega)
  have := ent_le he
  exact ⟨⟨by simpa using h0,(findIdx_none _ _).1 h1,(findIdx_none _ _).1 h2,by omega,by simpa using h5,by simpa using h6,by simpa using h7⟩,he,by omega⟩
 ·rintro ⟨⟨h0,h1,h2,h3,h4,h5,h6⟩,h7,h8⟩
  have := hi.2 h7
  unfold ff
  rw [if_neg (by simp [h0]),(findIdx_none _ _).2 h1,(findIdx_none _ _).2 h2]
  dsimp only
  rw [if_neg (by omega),if_neg (by omega),if_neg (by simp [h4]),if_neg (by simp [h5]),if_neg (by simp [h6])]
def wh (c : Int) : List (List Int) -> Nat -> Option (Nat × Nat)
 | [],_=>none
 | l :: zs,z=>match l.findIdx? (fun x=>decide (x = c)) with
  | some i=>some (z,i)
  | none=>wh c zs (z + 1)
theorem nodup_at {A : Type} {l : List A} (h : l.Nodup) {i j : Nat} (hi : i < l.length) (hj : j < l.length) (e : l[i] = l[j]) : i = j := by
 rw [List.nodup_iff_pairwise_ne] at h
 rw [List.pairwise_iff_getElem] at h
 rcases Nat.lt_trichotomy i j with hl | hl | hl
 ·exact (h i j hi hj hl e).elim
 ·exact hl
 ·exact (h j i hj hi hl e.symm).elim
theorem flat_set : ∀ (zs : List (List Int)) (z : Nat) (l : List Int),z < zs.length -> ((zs.set z l).flatten ++ zs.getD z []).Perm (zs.flatten ++ l) := by
 intro zs
 induction zs with
 | nil=>intro z l h; simp at h
 | cons a zs ih =>
  intro z l h
  cases z with
  | zero =>
   simp only [List.set_cons_zero,List.flatten_cons,List.getD_cons_zero]
   rw [List.append_assoc a]
   exact (List.perm_append_comm).trans (List.Perm.append_left a List.perm_append_comm)
  | succ z =>
   simp only [List.set_cons_succ,List.flatten_cons,List.getD_cons_succ,List.append_assoc]
   exact (ih z l (by simpa using h)).append_left a
def withZ (s : Stt) (zs : List (List Int)) : Stt := { s with zs := zs }
theorem rest_z {s : Stt} (h : Rest s) {zs : List (List Int)} (hl : zs.length = s.zs.length) : Rest (withZ s zs) := by
 obtain ⟨h0,h1⟩ := h
 refine ⟨?_,h1⟩
 simp only [sizesB] at h0 ⊢
 rw [show (withZ s zs).zs.length = s.zs.length from hl]
 exact h0
theorem set_put {zs : List (List Int)} {z : Nat} {l : List Int} {c : Int} (hz : z < zs.length) (h : l.Perm (c :: zs.getD z [])) : (zs.set z l).flatten.Perm (c :: zs.flatten) := by
 have h1 := flat_set zs z l hz
 have h2 : (zs.flatten ++ l).Perm ((c :: zs.flatten) ++ zs.getD z []) := by
  refine (List.Perm.append_left _ h).trans ?_
  exact List.perm_middle
 exact (List.perm_append_right_iff _).1 (h1.trans h2)
theorem set_gone {zs : List (List Int)} {z : Nat} {l : List Int} {c : Int} (hz : z < zs.length) (h : (c :: l).Perm (zs.getD z [])) : (c :: (zs.set z l).flatten).Perm zs.flatten := by
 have h1 := flat_set zs z l hz
 have h2 : ((zs.set z l).flatten ++ zs.getD z []).Perm ((c :: (zs.set z l).flatten) ++ l) := by
  refine (List.Perm.append_left _ h.symm).trans ?_
  exact List.perm_middle
 exact (List.perm_append_right_iff _).1 (h2.symm.trans h1)
theorem moved_ok {s : Stt} (h : ff s = none) {z : Nat} {l : List Int} {c : Int} (hz : z < s.zs.length) (hl : (c :: l).Perm (s.zs.getD z [])) {y : Nat} {r : List Int} (hy : y < s.zs.length) (hr : r.Perm (c :: (s.zs.set z l).getD y [])) : ff (withZ s ((s.zs.set z l).set y r)) = none := by
 obtain ⟨h1,h2,h3⟩ := (ff_none s).1 h
 have p : ((s.zs.set z l).set y r).flatten.Perm s.zs.flatten := (set_put (by simpa using hy) hr).trans (set_gone hz hl)
 refine (ff_none _).2 ⟨rest_z h1 (by simp),⟨?_,fun x hx=>?_⟩,?_⟩
 ·exact p.nodup_iff.2 h2.1
 ·exact h2.2 x (p.mem_iff.1 hx)
 ·exact p.length_eq.trans h3
theorem ins_perm (l : List Int) (c : Int) (k : Nat) : (l.take k ++ c :: l.drop k).Perm (c :: l) := by
 have := List.perm_middle (a := c) (l₁ := l.take k) (l₂ := l.drop k)
 rwa [List.take_append_drop] at this
theorem cut_perm (l : List Int) (c : Int) (k : Nat) (hk : k < l.length) (hc : l.getD k 0 = c) : (c :: (l.take k ++ l.drop (k + 1))).Perm l := by
 have e : l.drop k = c :: l.drop (k + 1) := by
  rw [List.drop_eq_getElem_cons hk]
  rw [List.getD_eq_getElem?_getD,List.getElem?_eq_getElem hk] at hc
  simp at hc; rw [hc]
 have := List.perm_middle (a := c) (l₁ := l.take k) (l₂ := l.drop (k + 1))
 rw [<- e,List.take_append_drop] at this
 exact this.symm
def noS : Stt := ⟨[],[],[],0,0,0,0⟩
end ST
end Go.Proofs.YtodhjjeagmjhdaaGreatDoor
