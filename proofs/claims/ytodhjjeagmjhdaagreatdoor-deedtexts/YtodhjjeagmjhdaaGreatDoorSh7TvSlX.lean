/- Sh7, Base, Fr, Copy, Lc, Sl -/
import Derived.Shelf.Strings.Builder1
import Derived.Shelf.Strings.BuilderF
import Derived.Shelf.Strings.BuilderK
import Derived.Shelf.Strconv.Itoa0
import Derived.Shelf.Strconv.Itoa1
import Derived.Shelf.LaysM
import Derived.Shelf.Strconv.Itoa2
import Derived.Shelf.Strconv.Itoa3
import Derived.Test.YtodhjjeagmjhdaaGreatDoorProg
import Derived.WalkSpells
import Derived.WalkLawsBesides
import Derived.Handy
import Derived.Below
import Derived.OwnWalk
import Derived.Deep.QuietTactic
import Derived.BigQuiet
import Derived.BigRegion
import Derived.WalkSmall
import Derived.Laws.AppendOwnNone
import Derived.Deep.MidRow
import Derived.Deep.RegionHeld3
import Derived.Deep.DrawnRows
import Derived.Deep.RegionLaw
import Derived.Deep.AppendLies
import Derived.Laws.CopyOwn
namespace Go.Proofs
open Go.Shelf
def Tryz.lays169_ren : Go.Shelf.Ren := ⟨fun | 169=>194 | n=>n,fun | 70=>194 | 9=>9 | 0=>0 | 72=>196 | 37=>130 | 127=>218 | 3=>3 | 5=>5 | n=>n,fun | n=>n⟩
theorem Tryz.lays169 : Go.Proofs.Lays.n169 Tryz.prog Tryz.lays169_ren := {
 mixed := by kernel_rfl
 f169 := Tryz.func194.trans (congrArg some (by kernel_rfl))
 t0 := Tryz.underlying0
 a0 := Tryz.isAgg0
 z0 := Tryz.sizeOf0
 v0 := Tryz.zeroValue0
 t3 := Tryz.underlying3
 a3 := Tryz.isAgg3
 z3 := Tryz.sizeOf3
 v3 := Tryz.zeroValue3
 t9 := Tryz.underlying9
 a9 := Tryz.isAgg9
 z9 := Tryz.sizeOf9
 v9 := Tryz.zeroValue9
 t37 := Tryz.underlying130
 a37 := Tryz.isAgg130
 z37 := Tryz.sizeOf130
 v37 := Tryz.zeroValue130
 t70 := Tryz.underlying194
 a70 := Tryz.isAgg194
 z70 := Tryz.sizeOf194
 v70 := Tryz.zeroValue194
 t72 := Tryz.underlying196
 a72 := Tryz.isAgg196
 z72 := Tryz.sizeOf196
 v72 := Tryz.zeroValue196
 t127 := Tryz.underlying218
 a127 := Tryz.isAgg218
 z127 := Tryz.sizeOf218
 v127 := Tryz.zeroValue218 }
theorem Tryz.Builder_Extra_169 : Builder.Extra Tryz.prog Tryz.lays169_ren := {
 sizeBuilder := by kernel_rfl
 liesBuilder := by kernel_rfl
 t5 := Tryz.underlying5
 a5 := Tryz.isAgg5
 z5 := Tryz.sizeOf5
 v5 := Tryz.zeroValue5
 infoByte := by kernel_rfl
 cellsByte := by kernel_rfl
 sizeByte := by kernel_rfl
 neB5 := by decide }
open Go.RowKit in
theorem Tryz.Builder_String_any_k (B b : Nat) (l : List UInt8) (w : World) (h : Lib.IsBuilderF 196 5 B b (Lib.byteCells l) w) (hBw : B <= w.heap.size) :
  Calls Tryz.prog 194 #[.pointer (some ⟨b,0,none⟩)] w fun e w'=>e = .returned (.string ⟨l.toArray⟩) /\ (Lib.IsBuilderF 196 5 B b (Lib.byteCells l) w' /\ Below B w w' /\ Lib.OthersKept 5 (some b) w w') := Any.Builder_String_any_k Tryz.lays169 Tryz.Builder_Extra_169 B b l w h hBw
def Tryz.laysM171_ren : Go.Shelf.Ren := ⟨fun | 171=>95 | 243=>175 | 246=>198 | 283=>214 | 284=>215 | 285=>216 | 286=>217 | 129=>223 | 317=>222 | 318=>224 | 319=>225 | 320=>226 | 337=>228 | 338=>229 | n=>n,fun | 3=>3 | 9=>9 | 2=>2 | 4=>4 | 171=>220 | 0=>0 | 53=>133 | 37=>130 | 5=>5 | 173=>223 | 212=>229 | 51=>230 | 20=>20 | 213=>231 | 46=>232 | 232=>235 | 233=>236 | n=>n,fun | 17=>0 | 18=>1 | 19=>2 | n=>n⟩
theorem Tryz.laysM171 : Go.Proofs.LaysM.n171 Tryz.prog Tryz.laysM171_ren := {
 mixed := by kernel_rfl
 f129 := Tryz.func223.trans (congrArg some (by kernel_rfl))
 f171 := Tryz.func95.trans (congrArg some (by kernel_rfl))
 f243 := Tryz.func175.trans (congrArg some (by kernel_rfl))
 f246 := Tryz.func198.trans (congrArg some (by kernel_rfl))
 f283 := Tryz.func214.trans (congrArg some (by kernel_rfl))
 f284 := Tryz.func215.trans (congrArg some (by kernel_rfl))
 f285 := Tryz.func216.trans (congrArg some (by kernel_rfl))
 f286 := Tryz.func217.trans (congrArg some (by kernel_rfl))
 f317 := Tryz.func222.trans (congrArg some (by kernel_rfl))
 f318 := Tryz.func224.trans (congrArg some (by kernel_rfl))
 f319 := Tryz.func225.trans (congrArg some (by kernel_rfl))
 f320 := Tryz.func226.trans (congrArg some (by kernel_rfl))
 f337 := Tryz.func228.trans (congrArg some (by kernel_rfl))
 f338 := Tryz.func229.trans (congrArg some (by kernel_rfl))
 t0 := Tryz.underlying0
 a0 := Tryz.isAgg0
 z0 := Tryz.sizeOf0
 v0 := Tryz.zeroValue0
 t2 := Tryz.underlying2
 a2 := Tryz.isAgg2
 z2 := Tryz.sizeOf2
 v2 := Tryz.zeroValue2
 t3 := Tryz.underlying3
 a3 := Tryz.isAgg3
 z3 := Tryz.sizeOf3
 v3 := Tryz.zeroValue3
 t4 := Tryz.underlying4
 a4 := Tryz.isAgg4
 z4 := Tryz.sizeOf4
 v4 := Tryz.zeroValue4
 t5 := Tryz.underlying5
 a5 := Tryz.isAgg5
 z5 := Tryz.sizeOf5
 v5 := Tryz.zeroValue5
 t9 := Tryz.underlying9
 a9 := Tryz.isAgg9
 z9 := Tryz.sizeOf9
 v9 := Tryz.zeroValue9
 t20 := Tryz.underlying20
 a20 := Tryz.isAgg20
 z20 := Tryz.sizeOf20
 v20 := Tryz.zeroValue20
 t37 := Tryz.underlying130
 a37 := Tryz.isAgg130
 z37 := Tryz.sizeOf130
 v37 := Tryz.zeroValue130
 t46 := Tryz.underlying232
 a46 := Tryz.isAgg232
 z46 := Tryz.sizeOf232
 v46 := Tryz.zeroValue232
 t51 := Tryz.underlying230
 a51 := Tryz.isAgg230
 z51 := Tryz.sizeOf230
 v51 := Tryz.zeroValue230
 t53 := Tryz.underlying133
 a53 := Tryz.isAgg133
 z53 := Tryz.sizeOf133
 v53 := Tryz.zeroValue133
 t171 := Tryz.underlying220
 a171 := Tryz.isAgg220
 z171 := Tryz.sizeOf220
 v171 := Tryz.zeroValue220
 t173 := Tryz.underlying223
 a173 := Tryz.isAgg223
 z173 := Tryz.sizeOf223
 v173 := Tryz.zeroValue223
 t212 := Tryz.underlying229
 a212 := Tryz.isAgg229
 z212 := Tryz.sizeOf229
 v212 := Tryz.zeroValue229
 t213 := Tryz.underlying231
 a213 := Tryz.isAgg231
 z213 := Tryz.sizeOf231
 t232 := Tryz.underlying235
 a232 := Tryz.isAgg235
 z232 := Tryz.sizeOf235
 v232 := Tryz.zeroValue235
 t233 := Tryz.underlying236
 a233 := Tryz.isAgg236
 z233 := Tryz.sizeOf236
 v233 := Tryz.zeroValue236
 g17 := by kernel_rfl
 g18 := by kernel_rfl
 g19 := by kernel_rfl
 i0 := by kernel_rfl
 i2 := by kernel_rfl
 i3 := by kernel_rfl
 i4 := by kernel_rfl
 i5 := by kernel_rfl
 i9 := by kernel_rfl
 i20 := by kernel_rfl
 i37 := by kernel_rfl
 i46 := by kernel_rfl
 i51 := by kernel_rfl
 i53 := by kernel_rfl
 i171 := by kernel_rfl
 i173 := by kernel_rfl
 i212 := by kernel_rfl
 i232 := by kernel_rfl
 i233 := by kernel_rfl
 m17 := by kernel_rfl
 m18 := by kernel_rfl
 m19 := by kernel_rfl }
open Go.RowKit Go.Sort Go.Lib in
theorem Tryz.strconv_Itoa (n : Int) (h0 : -9223372036854775808 <= n) (h1 : n <= 9223372036854775807) (w : World) (htab : Lib.TabIs Tryz.prog w "internal/strconv.uint64pow10" .u64 Lib.pow10Tab) :
  Calls Tryz.prog 95 #[.int .i64 n] w fun e w'=>e = .returned (.string ⟨(Lib.itoa n).toArray⟩) /\ ∃ k os,w' = grow (w.drewN k) os := Any.strconv_Itoa Tryz.laysM171 n h0 h1 w htab
end Go.Proofs
namespace Go.Proofs.YtodhjjeagmjhdaaGreatDoor
open Go.RowKit
theorem ret_int {k : IntKind} {a b : Int} (h : a = b) : Ending.returned (.int k a) = .returned (.int k b) := by rw [h]
def Up (w w' : World) : Prop := Below w.heap.size w w'
theorem Up.refl (w : World) : Up w w := Below.refl _ _
theorem Up.trans {a b c : World} (h : Up a b) (k : Up b c) : Up a c := Below.trans h (Below.mono k h.size)
theorem Up.alloc {a w : World} (h : Up a w) (o : Obj) : Up a (w.alloc o) := Below.alloc h h.size o
theorem Up.drew {a w : World} (h : Up a w) : Up a w.drew := Below.drew h
theorem Up.drewN {a w : World} (h : Up a w) (n : Nat) : Up a (w.drewN n) := ⟨h.os,h.tape,h.output,h.size,h.block⟩
theorem Up.cell {w w' : World} (h : Up w w') {p : Addr} {v : Value} (hc : w.cell? p = some v) : w'.cell? p = some v := by
 rw [Below.cell h (World.block_lt_of_cell? w p hc)]; exact hc
theorem Up.heap {w w' : World} (h : Up w w') {g : Nat} {o : Obj} (hg : w.heap[g]? = some o) : w'.heap[g]? = some o := by
 rw [h.block g (Array.getElem?_eq_some_iff.1 hg).1]; exact hg
def Only (b : Nat) (w w' : World) : Prop := (w'.os = w.os /\ w'.tape = w.tape /\ w'.output = w.output) /\ w.heap.size <= w'.heap.size /\ ∀ g,g < w.heap.size -> g ≠ b -> w'.heap[g]? = w.heap[g]?
theorem Only.refl (b : Nat) (w : World) : Only b w w := ⟨⟨rfl,rfl,rfl⟩,Nat.le_refl _,fun _ _ _=>rfl⟩
theorem Only.trans {b : Nat} {x y z : World} (h : Only b x y) (k : Only b y z) : Only b x z :=
 ⟨⟨k.1.1.trans h.1.1,k.1.2.1.trans h.1.2.1,k.1.2.2.trans h.1.2.2⟩,Nat.le_trans h.2.1 k.2.1,fun g hg hb=>(k.2.2 g (Nat.lt_of_lt_of_le hg h.2.1) hb).trans (h.2.2 g hg hb)⟩
theorem Only.up {b : Nat} {x y : World} (h : Up x y) : Only b x y := ⟨⟨h.os,h.tape,h.output⟩,h.size,fun g hg _=>h.block g hg⟩
theorem Only.set {b : Nat} {x y : World} (h : Only b x y) (j : Nat) (u : Value) : Only b x (y.setCell ⟨b,j,none⟩ u) :=
 ⟨h.1,by have := h.2.1; simpa using this,fun g hg hb=>by rw [Below.heap_setCell _ _ _ _ hb]; exact h.2.2 g hg hb⟩
theorem Only.below {b B : Nat} {x y : World} (h : Only b x y) (h1 : B <= b) (h2 : B <= x.heap.size) : Below B x y :=
 ⟨h.1.1,h.1.2.1,h.1.2.2,h.2.1,fun g hg=>h.2.2 g (by omega) (by omega)⟩
theorem Only.heap {b : Nat} {x y : World} (h : Only b x y) {g : Nat} {o : Obj} (hg : x.heap[g]? = some o) (hb : g ≠ b) : y.heap[g]? = some o := by
 rw [h.2.2 g (Array.getElem?_eq_some_iff.1 hg).1 hb]; exact hg
theorem row_up {w w' : World} {b e s n : Nat} {v : Value} {xs : List Value} (h : w.ownsRow b e s v n xs) (u : Up w w') : w'.ownsRow b e s v n xs := by
 refine ⟨h.1,?_⟩
 rcases h.2 with h | ⟨g,cap,cur,e1,e2,e3,e4⟩
 ·exact .inl h
 ·exact .inr ⟨g,cap,cur,e1,e2,u.heap e3,e4⟩
theorem row_some {w : World} {b e s n : Nat} {v : Value} {xs : List Value} (h : w.ownsRow b e s v n xs) (hn : 0 < n) : ∃ g cap,b <= g /\ n <= cap /\ v = .slice (some ⟨g,0,none⟩) n cap := by
 rcases h.2 with ⟨rfl,h0⟩ | ⟨g,cap,cur,rfl,hb,_,hc,_⟩
 ·omega
 ·exact ⟨g,cap,hb,hc,rfl⟩
theorem row_val {w : World} {base e s n : Nat} {v : Value} {xs : List Value} (h : w.ownsRow base e s v n xs) : ∃ ad cap,v = .slice ad n cap := by
 rcases h.2 with ⟨rfl,hn⟩ | ⟨g,cap,cur,rfl,_⟩
 ·exact ⟨none,0,by rw [hn]⟩
 ·exact ⟨_,cap,rfl⟩
theorem flat_len {E : Type} (f : E -> List Value) (s : Nat) (hf : ∀ e,(f e).length = s) (l : List E) : (l.flatMap f).length = l.length * s := by
 induction l with
 | nil=>simp
 | cons x l ih=>rw [List.flatMap_cons,List.length_append,ih,hf,List.length_cons,Nat.succ_mul]; omega
theorem flat_get {E : Type} (f : E -> List Value) (s : Nat) (hf : ∀ e,(f e).length = s) (d : E) (l : List E) : ∀ i j,i < l.length -> j < s -> (l.flatMap f)[i * s + j]? = (f (l.getD i d))[j]? := by
 induction l with
 | nil=>intro i j h; simp at h
 | cons x l ih =>
  intro i j hi hj
  rw [List.flatMap_cons]
  cases i with
  | zero=>rw [Nat.zero_mul,Nat.zero_add,List.getElem?_append_left (by rw [hf]; exact hj)]; rfl
  | succ i =>
   rw [List.getElem?_append_right (by rw [hf,Nat.succ_mul]; omega),hf,show (i + 1) * s + j - s = i * s + j by rw [Nat.succ_mul]; omega,ih i j (by simpa using hi) hj]
   rfl
theorem qa1 {α : Type} (l : List α) (i : Nat) (a : α) : l.toArray.setIfInBounds i a = (l.set i a).toArray := List.setIfInBounds_toArray l i a
theorem qa2 {α : Type} {x : α} {xs : List α} {a : α} : (x :: xs).set 0 a = a :: xs := rfl
theorem qa3 {α : Type} {x : α} {xs : List α} {i : Nat} {a : α} : (x :: xs).set (i + 1) a = x :: xs.set i a := rfl
theorem qa4 {α : Type} {xs : List α} {i : Nat} (h : i < xs.toArray.size) : xs.toArray[i] = xs[i]'(by simpa using h) := rfl
theorem qa5 {α : Type} (a : α) (ls : List α) (h : 0 < (a :: ls).length) : (a :: ls)[0] = a := rfl
theorem qa6 {α : Type} (a : α) (ls : List α) (i : Nat) (h : i + 1 < (a :: ls).length) : (a :: ls)[i + 1] = ls[i]'(by simpa using h) := rfl
end Go.Proofs.YtodhjjeagmjhdaaGreatDoor
namespace Go.Proofs.YtodhjjeagmjhdaaGreatDoor
open Go.RowKit
theorem row_type {w : World} {b e s n m g cap : Nat} {xs : List Value} (h : w.ownsRow b e s (.slice (some ⟨g,0,none⟩) n cap) m xs) : ∀ o,w.heap[g]? = some o -> ∃ cs fz,o = .cells cs e fz := by
 intro o ho
 rcases h.2 with ⟨h',_⟩ | ⟨g',cap',cur,h',_,hg',_⟩
 ·simp at h'
 ·simp only [Value.slice.injEq,Option.some.injEq,Addr.mk.injEq,and_true] at h'
  rw [<- h'.1] at hg'
  rw [hg'] at ho
  exact ⟨cur,(0,0),(Option.some.inj ho).symm⟩
def Fr (tE hb base : Nat) (W W' : World) : Prop := (W'.os = W.os /\ W'.tape = W.tape /\ W'.output = W.output) /\ W.heap.size <= W'.heap.size /\ ∀ (g : Nat) (o : Obj),W.heap[g]? = some o -> g ≠ hb -> (g < base ∨ ∀ (cs : Array Value) (fz : Nat × Nat),o ≠ .cells cs tE fz) -> W'.heap[g]? = some o
theorem Fr.refl (tE hb base : Nat) (W : World) : Fr tE hb base W W := ⟨⟨rfl,rfl,rfl⟩,Nat.le_refl _,fun _ _ h _ _=>h⟩
theorem Fr.trans {tE hb base : Nat} {a b c : World} (h : Fr tE hb base a b) (k : Fr tE hb base b c) : Fr tE hb base a c :=
 ⟨⟨k.1.1.trans h.1.1,k.1.2.1.trans h.1.2.1,k.1.2.2.trans h.1.2.2⟩,Nat.le_trans h.2.1 k.2.1,fun g o e h1 h2=>k.2.2 g o (h.2.2 g o e h1 h2) h1 h2⟩
theorem Fr.up {tE hb base : Nat} {a b : World} (h : Up a b) : Fr tE hb base a b := ⟨⟨h.os,h.tape,h.output⟩,h.size,fun _ _ e _ _=>h.heap e⟩
theorem Fr.set {tE hb base : Nat} {a b : World} (h : Fr tE hb base a b) (j : Nat) (u : Value) : Fr tE hb base a (b.setCell ⟨hb,j,none⟩ u) :=
 ⟨h.1,by have := h.2.1; simpa using this,fun g o e h1 h2=>by rw [Below.heap_setCell _ _ _ _ h1]; exact h.2.2 g o e h1 h2⟩
theorem Fr.only {tE hb base g : Nat} {a b c : World} (h : Fr tE hb base a b) (k : Only g b c) (hg : base <= g) (ht : ∀ o,b.heap[g]? = some o -> ∃ cs fz,o = .cells cs tE fz) : Fr tE hb base a c := by
 refine ⟨⟨k.1.1.trans h.1.1,k.1.2.1.trans h.1.2.1,k.1.2.2.trans h.1.2.2⟩,Nat.le_trans h.2.1 k.2.1,fun q o e h1 h2=>?_⟩
 have hq := h.2.2 q o e h1 h2
 by_cases eq : q = g
 ·subst eq
  obtain ⟨cs,fz,rfl⟩ := ht o hq
  rcases h2 with h2 | h2
  ·omega
  ·exact absurd rfl (h2 cs fz)
 ·exact k.heap hq eq
theorem Fr.grown {tE hb base s n : Nat} {a b c : World} {v : Value} {xs : List Value} (h : Fr tE hb base a b) (hr : b.ownsRow base tE s v n xs) (k : b.grownBy c v.ownBlock) : Fr tE hb base a c := by
 refine ⟨⟨k.os.trans h.1.1,k.tape.trans h.1.2.1,k.output.trans h.1.2.2⟩,Nat.le_trans h.2.1 k.size,fun q o e h1 h2=>?_⟩
 have hq := h.2.2 q o e h1 h2
 by_cases eq : v.ownBlock = some q
 ·rcases hr.2 with ⟨rfl,_⟩ | ⟨g',cap,cur,rfl,hb',hh,_⟩
  ·cases eq
  ·cases eq
   rw [hh] at hq
   cases hq
   rcases h2 with h2 | h2
   ·have h3 : g' < base := h2
    omega
   ·exact absurd rfl (h2 _ _)
 ·rw [k.block q (Array.getElem?_eq_some_iff.1 hq).1 (fun e=>eq e.symm)]; exact hq
theorem Fr.below {tE hb base : Nat} {a b : World} (h : Fr tE hb base a b) (hb1 : hb < base) (hs : hb <= a.heap.size) : Below hb a b :=
 ⟨h.1.1,h.1.2.1,h.1.2.2,h.2.1,fun g hg=>by
  have hl : g < a.heap.size := by omega
  rw [h.2.2 g a.heap[g] (Array.getElem?_eq_getElem hl) (by omega) (.inl (by omega)),Array.getElem?_eq_getElem hl]⟩
def Safe (tE hb base : Nat) (W : World) (b : Nat) : Prop := b ≠ hb /\ (b < base ∨ ∀ o,W.heap[b]? = some o -> ∀ (cs : Array Value) (fz : Nat × Nat),o ≠ .cells cs tE fz)
theorem Safe.heap {tE hb base : Nat} {W W' : World} {b : Nat} (h : Safe tE hb base W b) (k : Fr tE hb base W W') (hl : b < W.heap.size) : W'.heap[b]? = W.heap[b]? := by
 have e := Array.getElem?_eq_getElem hl
 rw [e]
 exact k.2.2 b _ e h.1 (h.2.imp id (fun h=>h _ e))
theorem Safe.fr {tE hb base : Nat} {W W' : World} {b : Nat} (h : Safe tE hb base W b) (k : Fr tE hb base W W') (hl : b < W.heap.size) : Safe tE hb base W' b := by
 refine ⟨h.1,h.2.imp id (fun h2 o ho=>?_)⟩
 rw [Safe.heap h k hl] at ho
 exact h2 o ho
theorem Safe.cell {tE hb base : Nat} {W W' : World} {b j : Nat} {v : Value} (h : Safe tE hb base W b) (k : Fr tE hb base W W') (hc : W.cell? ⟨b,j,none⟩ = some v) : W'.cell? ⟨b,j,none⟩ = some v := by
 rw [World.cell?_of_block (w := W) (w' := W') (a := ⟨b,j,none⟩) (h.heap k (World.block_lt_of_cell? W _ hc))]; exact hc
end Go.Proofs.YtodhjjeagmjhdaaGreatDoor
namespace Go.Proofs.YtodhjjeagmjhdaaGreatDoor
open Go.RowKit
theorem Only.setRow (w : World) (g : Nat) (cs : Array Value) : Only g w (w.setRow g cs) := ⟨⟨rfl,rfl,rfl⟩,by simp,fun k _ hk=>setRow_other w g k cs hk⟩
theorem run_copyS {P : Program} (w : World) (dT sT ty elem : TypeId) (size : Nat) (hs0 : 0 < size) (dp sp : Option Addr) (dLen dCap sLen sCap g off : Nat) (cur : List Value) (t : TypeId)
  (hu : P.underlying dT = some (.slice elem)) (hsz : (P.info? elem).map (·.size) = some size) (hg : w.heap[g]? = some (.cells cur.toArray t (0,0))) (cs : List Value) (hn : cs.length = Nat.min sLen dLen * size)
  (hpos : 0 < cs.length -> dp = some ⟨g,off,none⟩ /\ ∃ ad,sp = some ad /\ ∀ j v,cs[j]? = some v -> w.cell? (ad.add j) = some v) (hfit : off + cs.length <= cur.length) (h1 : ∀ v ∈ cs,v.oneCell' = true) :
  ∃ w',(Builtin.copy_ #[dT,sT] ty #[.slice dp dLen dCap,.slice sp sLen sCap]).run P w = .ok (goInt (Nat.min sLen dLen : Nat)) w' /\ w'.heap[g]? = some (.cells (splice cur off cs).toArray t (0,0)) /\ Only g w w' := by
 cases hq : P.info? elem with
 | none=>simp [hq] at hsz
 | some i =>
  have hi : i.size = size := by simpa [hq] using hsz
  by_cases h0 : cs.length = 0
  ·obtain rfl : cs = [] := List.eq_nil_of_length_eq_zero h0
   have hm : Nat.min sLen dLen = 0 := by
    rcases Nat.mul_eq_zero.1 hn.symm with h | h
    ·exact h
    ·omega
   refine ⟨w,?_,by simpa [splice] using hg,Only.refl _ _⟩
   have hl0 : ∀ (x : Addr),(loadCells x 0).run P w = .ok #[] w := fun x=>by simpa using run_loadCells_list (P := P) w x [] (by simp)
   cases sp <;> cases dp <;> simp [Builtin.copy_,run_underlying hu,Builtin.lenOf,Builtin.firstCells,sizeOf,typeInfo,hq,hm,storeCells,hl0]
  ·obtain ⟨rfl,ad,rfl,hsrc⟩ := hpos (by omega)
   have hl := run_loadCells_list (P := P) w ad cs hsrc
   have hst := run_storeCells_at P g off t cs 0 cur.toArray w hg (by simpa using hfit) h1
   refine ⟨_,?_,setRow_heap w g _ _ t _ hg,Only.setRow w g _⟩
   rw [hn] at hl
   simp [Builtin.copy_,run_underlying hu,Builtin.lenOf,Builtin.firstCells,sizeOf,typeInfo,hq,hi,hl,hst,splice]
end Go.Proofs.YtodhjjeagmjhdaaGreatDoor
namespace Go.Proofs.YtodhjjeagmjhdaaGreatDoor
open Go.RowKit
theorem Up.trans' {a b c : World} {k : Nat} (h : Up a b) (o : Only k b c) (hk : a.heap.size <= k) : Up a c := Below.trans h (o.below hk h.size)
def LC (W : World) (v : Value) (s n : Nat) (cs : List Value) : Prop := cs.length = n * s /\ ∃ a cap,v = .slice a n cap /\ n <= cap /\ (n ≠ 0 -> ∃ b off,a = some ⟨b,off,none⟩ /\ ∀ j,j < n * s -> W.cell? ⟨b,off + j,none⟩ = cs[j]?)
theorem LC.up {W W' : World} {v : Value} {s n : Nat} {cs : List Value} (h : LC W v s n cs) (u : Up W W') : LC W' v s n cs := by
 obtain ⟨h0,a,cap,hv,hc,h⟩ := h
 refine ⟨h0,a,cap,hv,hc,fun hn=>?_⟩
 obtain ⟨b,off,ha,hcell⟩ := h hn
 refine ⟨b,off,ha,fun j hj=>?_⟩
 have := hcell j hj
 rw [<- this]
 rw [List.getElem?_eq_getElem (by omega)] at this
 rw [this]; exact u.cell this
theorem row_made {w : World} {base g n e s : Nat} {xs : List Value} (h : w.ownsRow base e s (.slice (some ⟨g,0,none⟩) n n) n xs) : w.heap[g]? = some (.cells xs.toArray e (0,0)) := by
 rcases h.2 with ⟨h',_⟩ | ⟨g',cap,cur,h',_,hh,_,_,hs,ht⟩
 ·simp at h'
 ·simp only [Value.slice.injEq,Option.some.injEq,Addr.mk.injEq,and_true,true_and] at h'
  obtain ⟨rfl,rfl⟩ := h'
  rw [hh,<- ht,List.take_of_length_le (by simp; omega)]
theorem lc_row {W : World} {g n e s : Nat} {cs : List Value} (h : W.heap[g]? = some (.cells cs.toArray e (0,0))) (hl : cs.length = n * s) (cap : Nat) (hc : n <= cap) : LC W (.slice (some ⟨g,0,none⟩) n cap) s n cs :=
 ⟨hl,some ⟨g,0,none⟩,cap,rfl,hc,fun _=>⟨g,0,rfl,fun j _=>by simp [World.cell?,h]⟩⟩
end Go.Proofs.YtodhjjeagmjhdaaGreatDoor
namespace Go.Proofs.YtodhjjeagmjhdaaGreatDoor
open Go.RowKit
theorem made_up {w w1 : World} (h : w.grownBy w1 none) : Up w w1 := Below.grown (Up.refl _) h (Nat.le_refl _) (fun k hk=>by cases hk)
end Go.Proofs.YtodhjjeagmjhdaaGreatDoor
