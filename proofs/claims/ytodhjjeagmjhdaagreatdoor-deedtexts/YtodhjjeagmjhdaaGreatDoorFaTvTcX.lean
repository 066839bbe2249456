/- Fa, Tail, Fb, Fc, Fd, Tc -/
import Derived.Test.YtodhjjeagmjhdaaGreatDoorErVX
namespace Go.Proofs.YtodhjjeagmjhdaaGreatDoor
open Go.RowKit
attribute [local go_sem ↓] Go.wp_at_zero Go.wp_at_succ
namespace DE
open Go.Proofs.YtodhjjeagmjhdaaGreatDoor.ST
def cOff (f : Int) : Option Nat := if f = 1 then some 2 else if f = 2 then some 3 else if f = 3 then some 4 else if f = 4 then some 5 else none
def pOff (f : Int) : Option Nat := if f = 5 then some 0 else if f = 6 then some 1 else none
def pAt (b o : Nat) (k : Option Nat) : Value := .pointer (k.map fun k=>⟨b,o + k,none⟩)
set_option maxHeartbeats 2000000 in
theorem cardStat_ (b o : Nat) (f : Int) (w : World) : Calls Tryz.prog 189 #[.pointer (some ⟨b,o,none⟩),.int .i8 f] w fun x w'=>x = .returned (pAt b o (cOff f)) /\ w' = w := by
 unfold cOff pAt
 by_cases h1 : f = 1
 ·subst h1
  go_enter Tryz.func189,Tryz.ntmps189
  go_wp2
  go_ret
  exact ⟨rfl,rfl⟩
 ·have f1 : (f == 1) = false := beq_eq_false_iff_ne.2 h1
  by_cases h2 : f = 2
  ·subst h2
   go_enter Tryz.func189,Tryz.ntmps189
   go_wp2
   go_ret
   exact ⟨rfl,rfl⟩
  ·have f2 : (f == 2) = false := beq_eq_false_iff_ne.2 h2
   by_cases h3 : f = 3
   ·subst h3
    go_enter Tryz.func189,Tryz.ntmps189
    go_wp2
    go_ret
    exact ⟨rfl,rfl⟩
   ·have f3 : (f == 3) = false := beq_eq_false_iff_ne.2 h3
    by_cases h4 : f = 4
    ·subst h4
     go_enter Tryz.func189,Tryz.ntmps189
     go_wp2
     go_ret
     exact ⟨rfl,rfl⟩
    ·have f4 : (f == 4) = false := beq_eq_false_iff_ne.2 h4
     rw [if_neg h1,if_neg h2,if_neg h3,if_neg h4]
     go_enter Tryz.func189,Tryz.ntmps189
     go_wp2
     go_ret
     exact ⟨rfl,rfl⟩
set_option maxHeartbeats 2000000 in
theorem playerStat_ (b o : Nat) (f : Int) (w : World) : Calls Tryz.prog 192 #[.pointer (some ⟨b,o,none⟩),.int .i8 f] w fun x w'=>x = .returned (pAt b o (pOff f)) /\ w' = w := by
 unfold pOff pAt
 by_cases h1 : f = 5
 ·subst h1
  go_enter Tryz.func192,Tryz.ntmps192
  go_wp2
  go_ret
  exact ⟨rfl,rfl⟩
 ·have f1 : (f == 5) = false := beq_eq_false_iff_ne.2 h1
  by_cases h2 : f = 6
  ·subst h2
   go_enter Tryz.func192,Tryz.ntmps192
   go_wp2
   go_ret
   exact ⟨rfl,rfl⟩
  ·have f2 : (f == 6) = false := beq_eq_false_iff_ne.2 h2
   rw [if_neg h1,if_neg h2]
   go_enter Tryz.func192,Tryz.ntmps192
   go_wp2
   go_ret
   exact ⟨rfl,rfl⟩
def statFitsB (x : Int) (e : Ev) : Bool := decide (x = e.was) && statB e.now && !noneB e
set_option maxRecDepth 100000 in
set_option maxHeartbeats 4000000 in
theorem statFits_ (x : Int) (e : Ev) (oa : Option Addr) (on oc : Nat) (w : World) : Calls Tryz.prog 190 #[.int .i32 x,evv e (.slice oa on oc)] w fun r w'=>r = .returned (.bool (statFitsB x e)) /\ Up w w' := by
 have HS : Hid _ := isStat_ e.now
 have HC : Hid _ := changesNothing_ e (.slice oa on oc)
 unfold statFitsB
 generalize statB e.now = s at *
 generalize noneB e = n at *
 unfold evv evc at *
 by_cases hx : x = e.was
 ·have f0 : (x == e.was) = true := by rw [hx]; simp
  have f1 : decide (x = e.was) = true := decide_eq_true hx
  rw [f1]
  clear hx
  cases s
  ·go_enter Tryz.func190,Tryz.ntmps190
   go_wp2_with fail
   refine Calls.mono (HS.out _) ?_
   rintro r w1 ⟨rfl,rfl⟩
   go_wp2
   go_ret
   exact ⟨by simp,(Up.refl _).alloc _⟩
  ·go_enter Tryz.func190,Tryz.ntmps190
   go_wp2_with fail
   refine Calls.mono (HS.out _) ?_
   rintro r w1 ⟨rfl,rfl⟩
   go_wp2_with fail
   refine Calls.mono (HC.out _) ?_
   rintro r w2 ⟨rfl,u2⟩
   have HU : Hid (Up w w2) := Up.trans ((Up.refl _).alloc _) u2
   clear u2
   go_wp2
   go_ret
   exact ⟨by simp,HU.out⟩
 ·have f0 : (x == e.was) = false := beq_eq_false_iff_ne.2 hx
  have f1 : decide (x = e.was) = false := decide_eq_false hx
  rw [f1]
  clear hx
  go_enter Tryz.func190,Tryz.ntmps190
  go_wp2
  go_ret
  exact ⟨by simp,(Up.refl _).alloc _⟩
def behindB (e : Ev) : Bool := decide (e.was < 2147483647) && decide (e.now = wrap32 (e.was + 1))
set_option maxRecDepth 100000 in
set_option maxHeartbeats 4000000 in
theorem isTurnBehind_ (e : Ev) (oa : Option Addr) (on oc : Nat) (w : World) : Calls Tryz.prog 195 #[evv e (.slice oa on oc)] w fun r w'=>r = .returned (.bool (behindB e)) /\ Up w w' := by
 unfold behindB evv evc
 by_cases hx : e.was < 2147483647
 ·have f1 : decide (e.was < 2147483647) = true := decide_eq_true hx
  go_enter Tryz.func195,Tryz.ntmps195
  go_wp2
  go_ret
  exact ⟨by rw [f1]; by_cases h : e.now = wrap32 (e.was + 1) <;> simp [h],(Up.refl _).alloc _⟩
 ·have f1 : decide (e.was < 2147483647) = false := decide_eq_false hx
  go_enter Tryz.func195,Tryz.ntmps195
  go_wp2
  go_ret
  exact ⟨by simp,(Up.refl _).alloc _⟩
end DE
end Go.Proofs.YtodhjjeagmjhdaaGreatDoor
namespace Go.Proofs.YtodhjjeagmjhdaaGreatDoor
open Go
namespace TailR
section
variable {P : Program} {ops : Array Oper} {md : Region.Mode} {C : World -> Prop}
def edgeB (md : Region.Mode) (ops : Array Oper) (j i : Nat) : Bool := ((ops[j]?).map fun o=>o.after.any fun e=>Region.binds md e && e.on == i).getD false
def depsP (md : Region.Mode) (ops : Array Oper) (listed : Array Bool) (j : Nat) : Prop := ∀ o,ops[j]? = some o -> ∀ e ∈ o.after,Region.binds md e = true -> listed.getD e.on false = true
def closedP (md : Region.Mode) (ops : Array Oper) (listed : Array Bool) : Prop := ∀ j,listed.getD j false = true -> depsP md ops listed j
theorem edge_listed {listed : Array Bool} {j i : Nat} (h : depsP md ops listed j) (he : edgeB md ops j i = true) : listed.getD i false = true := by
 unfold edgeB at he
 cases ho : ops[j]? with
 | none=>rw [ho] at he; cases he
 | some o =>
  rw [ho] at he
  simp only [Option.map_some,Option.getD_some] at he
  obtain ⟨e,he,hb⟩ := Array.any_eq_true'.1 he
  simp only [Bool.and_eq_true,beq_iff_eq] at hb
  have := h o ho e he hb.1
  rw [hb.2] at this
  exact this
theorem closed_set {listed : Array Bool} {i : Nat} (h : closedP md ops listed) (hr : i ∈ Region.ready md ops listed) : closedP md ops (listed.setIfInBounds i true) := by
 intro j hj o ho e he hb
 by_cases hji : i = j
 ·subst hji
  obtain ⟨_,o',ho',hall⟩ := mem_ready.1 hr
  rw [ho] at ho'
  cases ho'
  exact getD_set_true (hall e he hb)
 ·rw [getD_set_ne false hji] at hj
  exact getD_set_true (h j hj o ho e he hb)
def waitsB (md : Region.Mode) (ops : Array Oper) (k0 n : Nat) : Bool := ((List.range n).all fun i=>decide (i < k0) || (List.range (n + 1)).any fun j=>decide (i < j) && edgeB md ops j i) && (List.range ops.size).all fun t=>decide (t <= n) || edgeB md ops t (t - 1)
theorem down {k0 n : Nat} (hW : waitsB md ops k0 n = true) {listed : Array Bool} (hc : closedP md ops listed) (hd : depsP md ops listed n) : ∀ d i,n - i <= d -> k0 <= i -> i < n -> listed.getD i false = true := by
 simp only [waitsB,Bool.and_eq_true] at hW
 intro d
 induction d with
 | zero=>intro i h1 h2 h3; omega
 | succ d ih =>
  intro i h1 h2 h3
  have h4 := List.all_eq_true.1 hW.1 i (List.mem_range.2 h3)
  simp only [Bool.or_eq_true,decide_eq_true_eq] at h4
  rcases h4 with h4 | h4
  ·omega
  ·obtain ⟨j,hj,h5⟩ := List.any_eq_true.1 h4
   simp only [Bool.and_eq_true,decide_eq_true_eq] at h5
   rw [List.mem_range] at hj
   by_cases e : j = n
   ·subst e; exact edge_listed hd h5.2
   ·exact edge_listed (hc j (ih j (by omega) (by omega) (by omega))) h5.2
theorem tail_down {k0 n : Nat} (hW : waitsB md ops k0 n = true) {listed : Array Bool} (hc : closedP md ops listed) : ∀ d t,t = n + d -> t < ops.size -> depsP md ops listed t -> depsP md ops listed n := by
 intro d
 induction d with
 | zero=>intro t h1 _ h2; rw [h1] at h2; exact h2
 | succ d ih =>
  intro t h1 h2 h3
  simp only [waitsB,Bool.and_eq_true] at hW
  have h4 := List.all_eq_true.1 hW.2 t (List.mem_range.2 h2)
  simp only [Bool.or_eq_true,decide_eq_true_eq] at h4
  rcases h4 with h4 | h4
  ·omega
  ·exact ih (t - 1) (by omega) (by omega) (hc (t - 1) (edge_listed h3 h4))
theorem no_tail {k0 n : Nat} (hW : waitsB md ops k0 n = true) {listed : Array Bool} (hc : closedP md ops listed) (h0 : ∀ k,k < k0 -> listed.getD k true = true) {i j : Nat} (hi : i ∈ Region.ready md ops listed) (hin : i < n) (hj : j ∈ Region.ready md ops listed) : j < n := by
 rcases Nat.lt_or_ge j n with h | h
 ·exact h
 ·exfalso
  obtain ⟨_,o,ho,hall⟩ := mem_ready.1 hj
  have hlt : j < ops.size := (Array.getElem?_eq_some_iff.1 ho).1
  have hd : depsP md ops listed j := fun o' ho' e he hb=>by
   rw [ho] at ho'
   cases ho'
   exact hall e he hb
  have hdn := tail_down hW hc (j - n) j (by omega) hlt hd
  have hun := (mem_ready.1 hi).1
  by_cases e : i < k0
  ·rw [h0 i e] at hun; cases hun
  ·have := down hW hc hdn (n - i) i (Nat.le_refl _) (by omega) hin
   rcases Nat.lt_or_ge i listed.size with h' | h'
   ·simp [h'] at this hun; rw [this] at hun; cases hun
   ·simp [Array.getElem?_eq_none h'] at this
def wpAnyU (P : Program) (md : Region.Mode) (ops : Array Oper) (n : Nat) (C : World -> Prop) (R : Array Bool -> Act -> Prop) : Nat -> Array Bool -> Act -> Prop
 | 0,listed,a=>(∀ i ∈ Region.ready md ops listed,n <= i) /\ R listed a
 | fuel + 1,listed,a=>(∃ i,i ∈ Region.ready md ops listed /\ i < n) /\ ∀ i ∈ Region.ready md ops listed,i < n -> qOp P ops C i (wpAnyU P md ops n C R fuel (listed.setIfInBounds i true)) a
theorem wpAnyU_first {n : Nat} {R : Array Bool -> Act -> Prop} {i : Nat} (hin : i < n) {oi : Oper} {v : Value} (hi : ops[i]? = some oi) (hsel : ∀ (j : Nat) (o : Oper) cs b,ops[j]? = some o -> o.op ≠ .select cs b) :
  ∀ (fuel : Nat) (listed : Array Bool) (a : Act),
   (∀ j oj,ops[j]? = some oj -> j ≠ i -> listed.getD j true = false -> (∀ e ∈ oj.after,Region.binds md e = true -> e.on ≠ i) -> oi.apart ops oj = true) ->
   i ∈ Region.ready md ops listed -> YieldsIn P ops C oi v a ->
   wpAnyU P md ops n C R fuel (listed.setIfInBounds i true) (a.put oi.dst v) -> wpAnyU P md ops n C R (fuel + 1) listed a := by
 intro fuel
 induction fuel with
 | zero =>
  intro listed a _ hr hy H
  refine ⟨⟨i,hr,hin⟩,fun j hj hjn=>?_⟩
  by_cases hji : j = i
  ·subst hji; exact hy.qOp hi H
  ·have := H.1 j (ready_mono hj hji)
   omega
 | succ fuel ih =>
  intro listed a hfree hr hy H
  refine ⟨⟨i,hr,hin⟩,fun j hj hjn=>?_⟩
  by_cases hji : j = i
  ·subst hji; exact hy.qOp hi H
  ·have h1 := H.2 j (ready_mono hj hji) hjn
   obtain ⟨hjun,oj,hoj,hall⟩ := mem_ready.1 hj
   have hnot : ∀ e ∈ oj.after,Region.binds md e = true -> e.on ≠ i := fun e he hb heq=>by
    have h1 := hall e he hb
    have h0 := (mem_ready.1 hr).1
    rw [heq] at h1
    rcases Nat.lt_or_ge i listed.size with h' | h'
    ·simp [h'] at h0 h1; rw [h0] at h1; cases h1
    ·simp [Array.getElem?_eq_none h'] at h1
   have h2 := qOp_put hoj (hfree j oj hoj hji hjun hnot) (fun cs b=>hsel i oi cs b hi) (fun cs b=>hsel j oj cs b hoj) hy h1
   have hfree' : ∀ k ok,ops[k]? = some ok -> k ≠ i -> (listed.setIfInBounds j true).getD k true = false ->
     (∀ e ∈ ok.after,Region.binds md e = true -> e.on ≠ i) -> oi.apart ops ok = true := fun k ok hk hki hun hno=>by
    refine hfree k ok hk hki ?_ hno
    by_cases hjk : j = k
    ·subst hjk; exact hjun
    ·rw [getD_set_ne true hjk] at hun; exact hun
   refine qOp_mono (fun a' h3=>ih (listed.setIfInBounds j true) a' hfree' (ready_mono hr (Ne.symm hji)) h3.1 ?_) h2
   rw [Array.setIfInBounds_comm _ _ hji]
   exact h3.2
def lexU (md : Region.Mode) (ops : Array Oper) (n : Nat) : Nat -> Nat -> Array Bool -> Bool
 | 0,_,listed=>(Region.ready md ops listed).all fun i=>decide (n <= i)
 | fuel + 1,k,listed=>(Region.ready md ops listed).contains k && decide (k < n) && Region.free md ops listed k && lexU md ops n fuel (k + 1) (listed.setIfInBounds k true)
def lastU : Nat -> Nat -> Array Bool -> Array Bool
 | 0,_,listed=>listed
 | fuel + 1,k,listed=>lastU fuel (k + 1) (listed.setIfInBounds k true)
theorem wpAnyU_lex {n : Nat} {R : Act -> Prop} (hs : Region.noSelect ops = true) : ∀ (l : List Oper) (k : Nat) (listed : Array Bool) (a : Act),(∀ j o,l[j]? = some o -> ops[k + j]? = some o) ->
  lexU md ops n l.length k listed = true -> wpQuiet P ops C R l a -> wpAnyU P md ops n C (fun L a=>L = lastU l.length k listed /\ R a) l.length listed a
 | [],_,_,_,_,hB,h=>by
  simp only [List.length_nil,lexU,List.all_eq_true,decide_eq_true_eq] at hB
  exact ⟨hB,rfl,h⟩
 | o :: l,k,listed,a,hl,hB,h=>by
  have h0 : ops[k]? = some o := hl 0 o rfl
  simp only [List.length_cons,lexU,Bool.and_eq_true,decide_eq_true_eq] at hB
  obtain ⟨⟨⟨hr,hk⟩,hf⟩,hB'⟩ := hB
  have hst : qOp P ops C k (wpQuiet P ops C R l) a := by unfold qOp; simp only [h0]; exact h
  obtain ⟨v,hy,hK⟩ := yieldsIn_of_qOp h0 hst
  exact wpAnyU_first hk h0 (Region.noSelect_spec hs) l.length listed a (Region.free_spec h0 hf) (by simpa using hr) hy
   (wpAnyU_lex hs l (k + 1) _ _ (fun j o' hj=>by have := hl (j + 1) o' (by simpa using hj); simpa [Nat.add_assoc,Nat.add_comm 1 j] using this) hB' hK)
theorem wpAny_of_U {k0 n t : Nat} (hW : waitsB md ops k0 n = true) {Q : Exit -> Act -> World -> Prop} {R : Array Bool -> Act -> Prop} (hR : ∀ L a w,R L a -> C w -> wpAny P md ops Q t L a w) : ∀ (fuel : Nat) (listed : Array Bool) (a : Act) (w : World),closedP md ops listed -> (∀ k,k < k0 -> listed.getD k true = true) -> C w ->
  wpAnyU P md ops n C R fuel listed a -> wpAny P md ops Q (t + fuel) listed a w
 | 0,_,_,_,_,_,hw,⟨_,h2⟩=>hR _ _ _ h2 hw
 | fuel + 1,listed,a,w,hc,h0,hw,⟨⟨k,hk,hkn⟩,h3⟩=>by
  refine ⟨fun e=>(by rw [e] at hk; cases hk),fun i hi=>?_⟩
  have hin := no_tail hW hc h0 hk hkn hi
  refine wpOp_of_qOp hw (fun a' w' hw' h=>wpAny_of_U hW hR fuel _ a' w' (closed_set hc hi) ?_ hw' h) (h3 i hi hin)
  intro k hk
  by_cases e : i = k
  ·subst e
   have := (mem_ready.1 hi).1
   rw [h0 i hk] at this; cases this
  ·rw [getD_set_ne true e]; exact h0 k hk
def tailB (md : Region.Mode) (ops : Array Oper) : Nat -> Nat -> Array Bool -> Bool
 | 0,_,listed=>(Region.ready md ops listed).isEmpty
 | t + 1,k,listed=>(Region.ready md ops listed == [k]) && tailB md ops t (k + 1) (listed.setIfInBounds k true)
theorem wpAny_tail {Q : Exit -> Act -> World -> Prop} : ∀ (l : List Oper) (k : Nat) (listed : Array Bool) (a : Act) (w : World),(∀ j o,l[j]? = some o -> ops[k + j]? = some o) -> tailB md ops l.length k listed = true -> wpList P ops Q l a w -> wpAny P md ops Q l.length listed a w
 | [],_,listed,a,w,_,hB,h=>by
  simp only [List.length_nil,tailB,List.isEmpty_iff] at hB
  exact ⟨hB,h⟩
 | o :: l,k,listed,a,w,hl,hB,h=>by
  have h0 : ops[k]? = some o := hl 0 o rfl
  simp only [List.length_cons,tailB,Bool.and_eq_true,beq_iff_eq] at hB
  refine ⟨fun e=>(by rw [hB.1] at e; cases e),fun i hi=>?_⟩
  rw [hB.1] at hi
  simp at hi
  subst hi
  have hh : wpOp P ops Q i (wpList P ops Q l) a w := by unfold wpOp; simp only [h0]; exact h
  exact wpOp_mono (fun a' w' h'=>wpAny_tail l (i + 1) _ a' w' (fun j o' hj=>by have := hl (j + 1) o' (by simpa using hj); simpa [Nat.add_assoc,Nat.add_comm 1 j] using this) hB.2 h') hh
end
theorem rep_false (N j : Nat) : (Array.replicate N false).getD j false = false := by
 rw [Array.getD_eq_getD_getElem?,Array.getElem?_replicate]
 split <;> rfl
def allB0 (md : Region.Mode) (ops : Array Oper) (n : Nat) : Bool :=
 Region.noSelect ops && waitsB md ops 0 n && lexU md ops n n 0 (Array.replicate ops.size false) && tailB md ops (ops.size - n) n (lastU n 0 (Array.replicate ops.size false)) && decide (n <= ops.size)
theorem wp_region_seq {P : Program} {id : Nat} {Q : Exit -> Act -> World -> Prop} {a : Act} {w : World} {l : List Oper} (n : Nat) (hm : P.follows .mixedOrders = true) (hB : allB0 .any l.toArray n = true)
  (h : wpQuiet P l.toArray (fun w'=>∃ n,w' = w.drewN n) (fun a'=>∀ w',(∃ n,w' = w.drewN n) -> wpList P l.toArray Q (l.drop n) a' w') (l.take n) a) : (Code.region id l.toArray true).wp P Q a w := by
 simp only [allB0,Bool.and_eq_true,decide_eq_true_eq] at hB
 obtain ⟨⟨⟨⟨hs,hW⟩,hL⟩,hT⟩,hn⟩ := hB
 have hsz : l.toArray.size = l.length := by simp
 rw [hsz] at hn hL hT
 have hl : (l.take n).length = n := by simp; omega
 have hd : (l.drop n).length = l.length - n := by simp
 refine wp_region_any hm ?_
 rw [hsz]
 have key := wpAnyU_lex (P := P) (md := .any) (C := fun w'=>∃ n,w' = w.drewN n) (n := n) (R := fun a'=>∀ w',(∃ n,w' = w.drewN n) -> wpList P l.toArray Q (l.drop n) a' w') hs (l.take n) 0 (Array.replicate l.length false) a
  (fun j o' hj=>by
   rw [List.getElem?_take] at hj
   split at hj
   ·rw [Nat.zero_add]; simpa using hj
   ·cases hj)
  (by rw [hl]; exact hL) h
 rw [hl] at key
 rw [show l.length = (l.drop n).length + n by rw [hd]; omega]
 refine wpAny_of_U (C := fun w'=>∃ n,w' = w.drewN n) (t := (l.drop n).length) hW (fun L a' w' hRL hw'=>?_) n _ _ _ ?_ (fun k hk=>by omega) ⟨1,rfl⟩ (by rw [show (l.drop n).length + n = l.length by rw [hd]; omega]; exact key)
 ·obtain ⟨rfl,hRL⟩ := hRL
  exact wpAny_tail (l.drop n) n _ a' w' (fun j o' hj=>by
   rw [List.getElem?_drop] at hj
   simpa using hj) (by rw [hd]; exact hT) (hRL w' hw')
 ·intro j hj o' ho' e he hb
  rw [rep_false] at hj
  cases hj
end TailR
end Go.Proofs.YtodhjjeagmjhdaaGreatDoor
namespace Go.Proofs.YtodhjjeagmjhdaaGreatDoor
open Go.RowKit
attribute [local go_sem ↓] Go.wp_at_zero Go.wp_at_succ
namespace DE
open Go.Proofs.YtodhjjeagmjhdaaGreatDoor.ST
def cGet (c : Crd) (f : Int) : Option Int := if f = 1 then some c.power else if f = 2 then some c.health else if f = 3 then some c.damage else if f = 4 then some c.marks else none
def pGet (p : Ply) (f : Int) : Option Int := if f = 5 then some p.life else if f = 6 then some p.energy else none
def cardFitsB (s : Stt) (e : Ev) : Bool := numB e.card s.cs.length && (match cGet (s.cs.getD e.card.toNat dc) e.field with
 | none=>false
 | some x=>statFitsB x e)
def playerFitsB (s : Stt) (e : Ev) : Bool := numB e.player s.ps.length && (match pGet (s.ps.getD e.player.toNat dp) e.field with
 | none=>false
 | some x=>statFitsB x e)
theorem c_field (f : Int) (c : Crd) : (cOff f = none /\ cGet c f = none) ∨ ∃ k x,cOff f = some k /\ cGet c f = some x /\ ∀ (W : World) b o,(W.cell? ⟨b,o + 2,none⟩ = some (.int .i32 c.power) /\ W.cell? ⟨b,o + 3,none⟩ = some (.int .i32 c.health) /\ W.cell? ⟨b,o + 4,none⟩ = some (.int .i32 c.damage) /\ W.cell? ⟨b,o + 5,none⟩ = some (.int .i32 c.marks)) -> W.cell? ⟨b,o + k,none⟩ = some (.int .i32 x) := by
 unfold cOff cGet
 by_cases h1 : f = 1
 ·right; refine ⟨2,c.power,by simp [h1],by simp [h1],fun W b o h=>h.1⟩
 ·by_cases h2 : f = 2
  ·right; refine ⟨3,c.health,by simp [h2],by simp [h2],fun W b o h=>h.2.1⟩
  ·by_cases h3 : f = 3
   ·right; refine ⟨4,c.damage,by simp [h3],by simp [h3],fun W b o h=>h.2.2.1⟩
   ·by_cases h4 : f = 4
    ·right; refine ⟨5,c.marks,by simp [h4],by simp [h4],fun W b o h=>h.2.2.2⟩
    ·left; simp [h1,h2,h3,h4]
theorem p_field (f : Int) (c : Ply) : (pOff f = none /\ pGet c f = none) ∨ ∃ k x,pOff f = some k /\ pGet c f = some x /\ ∀ (W : World) b o,(W.cell? ⟨b,o,none⟩ = some (.int .i32 c.life) /\ W.cell? ⟨b,o + 1,none⟩ = some (.int .i32 c.energy)) -> W.cell? ⟨b,o + k,none⟩ = some (.int .i32 x) := by
 unfold pOff pGet
 by_cases h1 : f = 5
 ·right; refine ⟨0,c.life,by simp [h1],by simp [h1],fun W b o h=>h.1⟩
 ·by_cases h2 : f = 6
  ·right; refine ⟨1,c.energy,by simp [h2],by simp [h2],fun W b o h=>h.2⟩
  ·left; simp [h1,h2]
theorem num_nat {x : Int} {m : Nat} (h : numB x m = true) : ∃ i : Nat,x = (i : Int) /\ i < m := by
 unfold numB at h
 simp only [Bool.and_eq_true,decide_eq_true_eq] at h
 exact ⟨x.toNat,by omega,by omega⟩
set_option maxRecDepth 100000 in
set_option maxHeartbeats 4000000 in
theorem cardFits_ (v : Value) (s : Stt) (e : Ev) (oa : Option Addr) (on oc : Nat) (w : World) (hs : StL w v s) : Calls Tryz.prog 124 #[v,evv e (.slice oa on oc)] w fun r w'=>r = .returned (.bool (cardFitsB s e)) /\ Up w w' := by
 have HI : Hid (∀ W,Up w W -> _) := fun W u=>isCard_ v s e.card W (hs.up u)
 have HST : Hid _ := cardStat_
 have HSF : Hid _ := fun x=>statFits_ x e oa on oc
 unfold cardFitsB
 obtain ⟨vp,vc,vz,rfl,h1,h2,h3⟩ := hs
 obtain ⟨a2,k2,rfl,-,hcl⟩ := cl_at h2
 unfold evv evc at *
 unfold sv at *
 obtain ⟨kind,field,card,player,other,fr,frAt,to_,toAt,was,now,ord⟩ := e
 dsimp only at *
 cases hn : numB card s.cs.length
 ·rw [hn] at HI
  rw [Bool.false_and]
  generalize s.cs.length = m at *
  clear h1 h2 h3 hn hcl
  go_enter Tryz.func124,Tryz.ntmps124
  go_wp2_with fail
  refine Calls.mono (HI.out _ (((Up.refl _).alloc _).alloc _)) ?_
  rintro r w1 ⟨rfl,u1⟩
  have HU : Hid (Up w w1) := Up.trans (((Up.refl _).alloc _).alloc _) u1
  clear u1
  go_wp2
  go_ret
  exact ⟨rfl,HU.out⟩
 ·rw [hn] at HI
  obtain ⟨i,rfl,hi⟩ := num_nat hn
  obtain ⟨b,off,rfl,hc⟩ := hcl (by omega)
  have HC : Hid (∀ W,Up w W -> _) := fun W u=>hc W u i hi
  rw [Int.toNat_natCast]
  generalize s.cs.getD i dc = c at *
  generalize s.cs.length = m at *
  have hi2 : (i : Int) < (m : Int) := by omega
  clear h1 h2 h3 hn hcl hc
  rcases c_field field c with ⟨q1,q2⟩ | ⟨k,x,q1,q2,q3⟩
  ·rw [q2]
   have HS1 : Hid _ := fun b o=>HST.out b o field
   simp only [q1,pAt,Option.map_none] at HS1
   clear q1 q2 HST
   go_enter Tryz.func124,Tryz.ntmps124
   go_wp2_with fail
   refine Calls.mono (HI.out _ (((Up.refl _).alloc _).alloc _)) ?_
   rintro r w1 ⟨rfl,u1⟩
   have HU : Hid (Up w w1) := Up.trans (((Up.refl _).alloc _).alloc _) u1
   have y0 := par0 u1 1 _ rfl
   have e0 := par1 u1 0 _ rfl
   have e1 := par1 u1 1 _ rfl
   have e2 := par1 u1 2 _ rfl
   have e3 := par1 u1 3 _ rfl
   have e4 := par1 u1 4 _ rfl
   have e5 := par1 u1 5 _ rfl
   have e6 := par1 u1 6 _ rfl
   have e7 := par1 u1 7 _ rfl
   have e8 := par1 u1 8 _ rfl
   have e9 := par1 u1 9 _ rfl
   have e10 := par1 u1 10 _ rfl
   have e11 := par1 u1 11 _ rfl
   clear u1
   go_wp2_with fail
   go_quiet (exact Calls.quiet_of_same (HS1.out _ _ _))
   go_wp2_with fail
   go_quiet (fail)
   go_wp2
   go_ret
   exact ⟨rfl,(HU.out.drewN _).drewN _⟩
  ·rw [q2]
   have HS1 : Hid _ := fun b o=>HST.out b o field
   simp only [q1,pAt,Option.map_some] at HS1
   have HQ : Hid _ := q3
   clear q1 q2 q3 HST
   go_enter Tryz.func124,Tryz.ntmps124
   go_wp2_with fail
   refine Calls.mono (HI.out _ (((Up.refl _).alloc _).alloc _)) ?_
   rintro r w1 ⟨rfl,u1⟩
   have HU : Hid (Up w w1) := Up.trans (((Up.refl _).alloc _).alloc _) u1
   have y0 := par0 u1 1 _ rfl
   have e0 := par1 u1 0 _ rfl
   have e1 := par1 u1 1 _ rfl
   have e2 := par1 u1 2 _ rfl
   have e3 := par1 u1 3 _ rfl
   have e4 := par1 u1 4 _ rfl
   have e5 := par1 u1 5 _ rfl
   have e6 := par1 u1 6 _ rfl
   have e7 := par1 u1 7 _ rfl
   have e8 := par1 u1 8 _ rfl
   have e9 := par1 u1 9 _ rfl
   have e10 := par1 u1 10 _ rfl
   have e11 := par1 u1 11 _ rfl
   have hcc := HC.out w1 HU.out
   have hx := HQ.out w1 b (off + i * 6) ⟨hcc.2.2.1,hcc.2.2.2.1,hcc.2.2.2.2.1,hcc.2.2.2.2.2⟩
   clear u1 hcc
   go_wp2_with fail
   go_quiet (exact Calls.quiet_of_same (HS1.out _ _ _))
   go_wp2_with fail
   refine TailR.wp_region_seq 7 (by kernel_rfl) (by kernel_rfl) ?_
   simp only [List.take_succ_cons,List.take_zero,List.drop_succ_cons,List.drop_zero]
   repeat (go_big_quiet_step (fail))
   refine wpQuiet_nil ?_
   intro _ hw'
   obtain ⟨nq2,hw''⟩ := hw'
   subst hw''
   go_wp2_with fail
   refine Calls.mono (HSF.out _ _) ?_
   rintro r w3 ⟨rfl,u3⟩
   have HU3 : Hid (Up w w3) := (HU.out.drewN _).trans u3
   clear u3
   go_wp2
   go_ret
   exact ⟨rfl,HU3.out⟩
set_option maxRecDepth 100000 in
set_option maxHeartbeats 4000000 in
theorem playerFits_ (v : Value) (s : Stt) (e : Ev) (oa : Option Addr) (on oc : Nat) (w : World) (hs : StL w v s) : Calls Tryz.prog 130 #[v,evv e (.slice oa on oc)] w fun r w'=>r = .returned (.bool (playerFitsB s e)) /\ Up w w' := by
 have HI : Hid (∀ W,Up w W -> _) := fun W u=>isPlayer_ v s e.player W (hs.up u)
 have HST : Hid _ := playerStat_
 have HSF : Hid _ := fun x=>statFits_ x e oa on oc
 unfold playerFitsB
 obtain ⟨vp,vc,vz,rfl,h1,h2,h3⟩ := hs
 obtain ⟨a2,k2,rfl,-,hcl⟩ := pl_at h1
 unfold evv evc at *
 unfold sv at *
 obtain ⟨kind,field,card,player,other,fr,frAt,to_,toAt,was,now,ord⟩ := e
 dsimp only at *
 cases hn : numB player s.ps.length
 ·rw [hn] at HI
  rw [Bool.false_and]
  generalize s.ps.length = m at *
  clear h1 h2 h3 hn hcl
  go_enter Tryz.func130,Tryz.ntmps130
  go_wp2_with fail
  refine Calls.mono (HI.out _ (((Up.refl _).alloc _).alloc _)) ?_
  rintro r w1 ⟨rfl,u1⟩
  have HU : Hid (Up w w1) := Up.trans (((Up.refl _).alloc _).alloc _) u1
  clear u1
  go_wp2
  go_ret
  exact ⟨rfl,HU.out⟩
 ·rw [hn] at HI
  obtain ⟨i,rfl,hi⟩ := num_nat hn
  obtain ⟨b,off,rfl,hc⟩ := hcl (by omega)
  have HC : Hid (∀ W,Up w W -> _) := fun W u=>hc W u i hi
  rw [Int.toNat_natCast]
  generalize s.ps.getD i dp = c at *
  generalize s.ps.length = m at *
  have hi2 : (i : Int) < (m : Int) := by omega
  clear h1 h2 h3 hn hcl hc
  rcases p_field field c with ⟨q1,q2⟩ | ⟨k,x,q1,q2,q3⟩
  ·rw [q2]
   have HS1 : Hid _ := fun b o=>HST.out b o field
   simp only [q1,pAt,Option.map_none] at HS1
   clear q1 q2 HST
   go_enter Tryz.func130,Tryz.ntmps130
   go_wp2_with fail
   refine Calls.mono (HI.out _ (((Up.refl _).alloc _).alloc _)) ?_
   rintro r w1 ⟨rfl,u1⟩
   have HU : Hid (Up w w1) := Up.trans (((Up.refl _).alloc _).alloc _) u1
   have y0 := par0 u1 0 _ rfl
   have e0 := par1 u1 0 _ rfl
   have e1 := par1 u1 1 _ rfl
   have e2 := par1 u1 2 _ rfl
   have e3 := par1 u1 3 _ rfl
   have e4 := par1 u1 4 _ rfl
   have e5 := par1 u1 5 _ rfl
   have e6 := par1 u1 6 _ rfl
   have e7 := par1 u1 7 _ rfl
   have e8 := par1 u1 8 _ rfl
   have e9 := par1 u1 9 _ rfl
   have e10 := par1 u1 10 _ rfl
   have e11 := par1 u1 11 _ rfl
   clear u1
   go_wp2_with fail
   go_quiet (exact Calls.quiet_of_same (HS1.out _ _ _))
   go_wp2_with fail
   go_quiet (fail)
   go_wp2
   go_ret
   exact ⟨rfl,(HU.out.drewN _).drewN _⟩
  ·rw [q2]
   have HS1 : Hid _ := fun b o=>HST.out b o field
   simp only [q1,pAt,Option.map_some] at HS1
   have HQ : Hid _ := q3
   clear q1 q2 q3 HST
   go_enter Tryz.func130,Tryz.ntmps130
   go_wp2_with fail
   refine Calls.mono (HI.out _ (((Up.refl _).alloc _).alloc _)) ?_
   rintro r w1 ⟨rfl,u1⟩
   have HU : Hid (Up w w1) := Up.trans (((Up.refl _).alloc _).alloc _) u1
   have y0 := par0 u1 0 _ rfl
   have e0 := par1 u1 0 _ rfl
   have e1 := par1 u1 1 _ rfl
   have e2 := par1 u1 2 _ rfl
   have e3 := par1 u1 3 _ rfl
   have e4 := par1 u1 4 _ rfl
   have e5 := par1 u1 5 _ rfl
   have e6 := par1 u1 6 _ rfl
   have e7 := par1 u1 7 _ rfl
   have e8 := par1 u1 8 _ rfl
   have e9 := par1 u1 9 _ rfl
   have e10 := par1 u1 10 _ rfl
   have e11 := par1 u1 11 _ rfl
   have hcc := HC.out w1 HU.out
   have hx := HQ.out w1 b (off + i * 3) ⟨hcc.1,hcc.2.1⟩
   clear u1 hcc
   go_wp2_with fail
   go_quiet (exact Calls.quiet_of_same (HS1.out _ _ _))
   go_wp2_with fail
   refine TailR.wp_region_seq 7 (by kernel_rfl) (by kernel_rfl) ?_
   simp only [List.take_succ_cons,List.take_zero,List.drop_succ_cons,List.drop_zero]
   repeat (go_big_quiet_step (fail))
   refine wpQuiet_nil ?_
   intro _ hw'
   obtain ⟨nq2,hw''⟩ := hw'
   subst hw''
   go_wp2_with fail
   refine Calls.mono (HSF.out _ _) ?_
   rintro r w3 ⟨rfl,u3⟩
   have HU3 : Hid (Up w w3) := (HU.out.drewN _).trans u3
   clear u3
   go_wp2
   go_ret
   exact ⟨rfl,HU3.out⟩
end DE
end Go.Proofs.YtodhjjeagmjhdaaGreatDoor
namespace Go.Proofs.YtodhjjeagmjhdaaGreatDoor
open Go.RowKit
attribute [local go_sem ↓] Go.wp_at_zero Go.wp_at_succ
namespace DE
open Go.Proofs.YtodhjjeagmjhdaaGreatDoor.ST
def outFitsB (s : Stt) (e : Ev) : Bool := numB e.player s.ps.length && !(s.ps.getD e.player.toNat dp).out
def outLeadsB (s : Stt) (e : Ev) : Bool := numB e.player s.ps.length && (s.ps.getD e.player.toNat dp).out
set_option maxRecDepth 100000 in
set_option maxHeartbeats 4000000 in
theorem outFits_ (v : Value) (s : Stt) (e : Ev) (oa : Option Addr) (on oc : Nat) (w : World) (hs : StL w v s) : Calls Tryz.prog 141 #[v,evv e (.slice oa on oc)] w fun r w'=>r = .returned (.bool (outFitsB s e)) /\ Up w w' := by
 have HI : Hid (∀ W,Up w W -> _) := fun W u=>isPlayer_ v s e.player W (hs.up u)
 unfold outFitsB
 obtain ⟨vp,vc,vz,rfl,h1,h2,h3⟩ := hs
 obtain ⟨a2,k2,rfl,-,hcl⟩ := pl_at h1
 unfold evv evc at *
 unfold sv at *
 obtain ⟨kind,field,card,player,other,fr,frAt,to_,toAt,was,now,ord⟩ := e
 dsimp only at *
 cases hn : numB player s.ps.length
 ·rw [hn] at HI
  rw [Bool.false_and]
  generalize s.ps.length = m at *
  clear h1 h2 h3 hn hcl
  go_enter Tryz.func141,Tryz.ntmps141
  go_wp2_with fail
  refine Calls.mono (HI.out _ (((Up.refl _).alloc _).alloc _)) ?_
  rintro r w1 ⟨rfl,u1⟩
  have HU : Hid (Up w w1) := Up.trans (((Up.refl _).alloc _).alloc _) u1
  have y0 := par0 u1 0 _ rfl
  have e3 := par1 u1 3 _ rfl
  clear u1
  go_wp2
  go_ret
  exact ⟨rfl,HU.out⟩
 ·rw [hn] at HI
  obtain ⟨i,rfl,hi⟩ := num_nat hn
  obtain ⟨b,off,rfl,hc⟩ := hcl (by omega)
  have HC : Hid (∀ W,Up w W -> _) := fun W u=>hc W u i hi
  rw [Int.toNat_natCast,Bool.true_and]
  generalize s.ps.getD i dp = c at *
  generalize s.ps.length = m at *
  have hi2 : (i : Int) < (m : Int) := by omega
  clear h1 h2 h3 hn hcl hc
  go_enter Tryz.func141,Tryz.ntmps141
  go_wp2_with fail
  refine Calls.mono (HI.out _ (((Up.refl _).alloc _).alloc _)) ?_
  rintro r w1 ⟨rfl,u1⟩
  have HU : Hid (Up w w1) := Up.trans (((Up.refl _).alloc _).alloc _) u1
  have y0 := par0 u1 0 _ rfl
  have e3 := par1 u1 3 _ rfl
  obtain ⟨x0,x1,x2⟩ := HC.out w1 HU.out
  clear u1
  go_wp2
  go_ret
  exact ⟨rfl,HU.out⟩
set_option maxRecDepth 100000 in
set_option maxHeartbeats 4000000 in
theorem outLeads_ (v : Value) (s : Stt) (e : Ev) (oa : Option Addr) (on oc : Nat) (w : World) (hs : StL w v s) : Calls Tryz.prog 142 #[v,evv e (.slice oa on oc)] w fun r w'=>r = .returned (.bool (outLeadsB s e)) /\ Up w w' := by
 have HI : Hid (∀ W,Up w W -> _) := fun W u=>isPlayer_ v s e.player W (hs.up u)
 unfold outLeadsB
 obtain ⟨vp,vc,vz,rfl,h1,h2,h3⟩ := hs
 obtain ⟨a2,k2,rfl,-,hcl⟩ := pl_at h1
 unfold evv evc at *
 unfold sv at *
 obtain ⟨kind,field,card,player,other,fr,frAt,to_,toAt,was,now,ord⟩ := e
 dsimp only at *
 cases hn : numB player s.ps.length
 ·rw [hn] at HI
  rw [Bool.false_and]
  generalize s.ps.length = m at *
  clear h1 h2 h3 hn hcl
  go_enter Tryz.func142,Tryz.ntmps142
  go_wp2_with fail
  refine Calls.mono (HI.out _ (((Up.refl _).alloc _).alloc _)) ?_
  rintro r w1 ⟨rfl,u1⟩
  have HU : Hid (Up w w1) := Up.trans (((Up.refl _).alloc _).alloc _) u1
  have y0 := par0 u1 0 _ rfl
  have e3 := par1 u1 3 _ rfl
  clear u1
  go_wp2
  go_ret
  exact ⟨rfl,HU.out⟩
 ·rw [hn] at HI
  obtain ⟨i,rfl,hi⟩ := num_nat hn
  obtain ⟨b,off,rfl,hc⟩ := hcl (by omega)
  have HC : Hid (∀ W,Up w W -> _) := fun W u=>hc W u i hi
  rw [Int.toNat_natCast,Bool.true_and]
  generalize s.ps.getD i dp = c at *
  generalize s.ps.length = m at *
  have hi2 : (i : Int) < (m : Int) := by omega
  clear h1 h2 h3 hn hcl hc
  go_enter Tryz.func142,Tryz.ntmps142
  go_wp2_with fail
  refine Calls.mono (HI.out _ (((Up.refl _).alloc _).alloc _)) ?_
  rintro r w1 ⟨rfl,u1⟩
  have HU : Hid (Up w w1) := Up.trans (((Up.refl _).alloc _).alloc _) u1
  have y0 := par0 u1 0 _ rfl
  have e3 := par1 u1 3 _ rfl
  obtain ⟨x0,x1,x2⟩ := HC.out w1 HU.out
  clear u1
  go_wp2
  go_ret
  exact ⟨rfl,HU.out⟩
def turnFitsB (s : Stt) (e : Ev) : Bool := decide (e.was = s.turn) && (decide (e.player = s.whose) && (numB e.other s.ps.length && behindB e))
def turnLeadsB (s : Stt) (e : Ev) : Bool := decide (e.now = s.turn) && (decide (e.other = s.whose) && (numB e.player s.ps.length && (behindB e && decide (1 <= e.was))))
set_option maxRecDepth 100000 in
set_option maxHeartbeats 4000000 in
theorem turnFits_ (v : Value) (s : Stt) (e : Ev) (oa : Option Addr) (on oc : Nat) (w : World) (hs : StL w v s) : Calls Tryz.prog 147 #[v,evv e (.slice oa on oc)] w fun r w'=>r = .returned (.bool (turnFitsB s e)) /\ Up w w' := by
 have HI : Hid (∀ W,Up w W -> _) := fun W u=>isPlayer_ v s e.other W (hs.up u)
 have HB : Hid _ := isTurnBehind_ e oa on oc
 unfold turnFitsB
 generalize behindB e = bb at *
 obtain ⟨vp,vc,vz,rfl,h1,h2,h3⟩ := hs
 obtain ⟨a2,k2,rfl,-,-⟩ := pl_at h1
 unfold evv evc at *
 unfold sv at *
 obtain ⟨kind,field,card,player,other,fr,frAt,to_,toAt,was,now,ord⟩ := e
 dsimp only at *
 clear h1 h2 h3
 generalize s.ps.length = m at *
 generalize s.turn = tu at *
 generalize s.whose = wo at *
 generalize s.fin = fi at *
 generalize s.winner = wi at *
 by_cases ha : was = tu
 ·have fa : (was == tu) = true := by rw [ha]; simp
  have ga : decide (was = tu) = true := decide_eq_true ha
  rw [ga]
  clear ha ga
  by_cases hb : player = wo
  ·have fb : (player == wo) = true := by rw [hb]; simp
   have gb : decide (player = wo) = true := decide_eq_true hb
   rw [gb]
   clear hb gb
   cases hn : numB other m
   ·rw [hn] at HI
    clear hn
    go_enter Tryz.func147,Tryz.ntmps147
    go_wp2_with fail
    refine Calls.mono (HI.out _ (((Up.refl _).alloc _).alloc _)) ?_
    rintro r w1 ⟨rfl,u1⟩
    have HU : Hid (Up w w1) := Up.trans (((Up.refl _).alloc _).alloc _) u1
    have e0 := par1 u1 0 _ rfl
    have e1 := par1 u1 1 _ rfl
    have e2 := par1 u1 2 _ rfl
    have e3 := par1 u1 3 _ rfl
    have e4 := par1 u1 4 _ rfl
    have e5 := par1 u1 5 _ rfl
    have e6 := par1 u1 6 _ rfl
    have e7 := par1 u1 7 _ rfl
    have e8 := par1 u1 8 _ rfl
    have e9 := par1 u1 9 _ rfl
    have e10 := par1 u1 10 _ rfl
    have e11 := par1 u1 11 _ rfl
    clear u1
    go_wp2
    go_ret
    exact ⟨by simp,HU.out⟩
   ·rw [hn] at HI
    clear hn
    go_enter Tryz.func147,Tryz.ntmps147
    go_wp2_with fail
    refine Calls.mono (HI.out _ (((Up.refl _).alloc _).alloc _)) ?_
    rintro r w1 ⟨rfl,u1⟩
    have HU : Hid (Up w w1) := Up.trans (((Up.refl _).alloc _).alloc _) u1
    have e0 := par1 u1 0 _ rfl
    have e1 := par1 u1 1 _ rfl
    have e2 := par1 u1 2 _ rfl
    have e3 := par1 u1 3 _ rfl
    have e4 := par1 u1 4 _ rfl
    have e5 := par1 u1 5 _ rfl
    have e6 := par1 u1 6 _ rfl
    have e7 := par1 u1 7 _ rfl
    have e8 := par1 u1 8 _ rfl
    have e9 := par1 u1 9 _ rfl
    have e10 := par1 u1 10 _ rfl
    have e11 := par1 u1 11 _ rfl
    clear u1
    go_wp2_with fail
    refine Calls.mono (HB.out _) ?_
    rintro r w2 ⟨rfl,u2⟩
    have HU2 : Hid (Up w w2) := HU.out.trans u2
    clear u2
    go_wp2
    go_ret
    exact ⟨by simp,HU2.out⟩
  ·have fb : (player == wo) = false := beq_eq_false_iff_ne.2 hb
   have gb : decide (player = wo) = false := decide_eq_false hb
   rw [gb]
   clear hb gb
   go_enter Tryz.func147,Tryz.ntmps147
   go_wp2
   go_ret
   exact ⟨by simp,((Up.refl _).alloc _).alloc _⟩
 ·have fa : (was == tu) = false := beq_eq_false_iff_ne.2 ha
  have ga : decide (was = tu) = false := decide_eq_false ha
  rw [ga]
  clear ha ga
  go_enter Tryz.func147,Tryz.ntmps147
  go_wp2
  go_ret
  exact ⟨by simp,((Up.refl _).alloc _).alloc _⟩
set_option maxRecDepth 100000 in
set_option maxHeartbeats 4000000 in
theorem turnLeads_ (v : Value) (s : Stt) (e : Ev) (oa : Option Addr) (on oc : Nat) (w : World) (hs : StL w v s) : Calls Tryz.prog 148 #[v,evv e (.slice oa on oc)] w fun r w'=>r = .returned (.bool (turnLeadsB s e)) /\ Up w w' := by
 have HI : Hid (∀ W,Up w W -> _) := fun W u=>isPlayer_ v s e.player W (hs.up u)
 have HB : Hid _ := isTurnBehind_ e oa on oc
 unfold turnLeadsB
 generalize behindB e = bb at *
 obtain ⟨vp,vc,vz,rfl,h1,h2,h3⟩ := hs
 obtain ⟨a2,k2,rfl,-,-⟩ := pl_at h1
 unfold evv evc at *
 unfold sv at *
 obtain ⟨kind,field,card,player,other,fr,frAt,to_,toAt,was,now,ord⟩ := e
 dsimp only at *
 clear h1 h2 h3
 generalize s.ps.length = m at *
 generalize s.turn = tu at *
 generalize s.whose = wo at *
 generalize s.fin = fi at *
 generalize s.winner = wi at *
 by_cases ha : now = tu
 ·have fa : (now == tu) = true := by rw [ha]; simp
  have ga : decide (now = tu) = true := decide_eq_true ha
  rw [ga]
  clear ha ga
  by_cases hb : other = wo
  ·have fb : (other == wo) = true := by rw [hb]; simp
   have gb : decide (other = wo) = true := decide_eq_true hb
   rw [gb]
   clear hb gb
   cases hn : numB player m
   ·rw [hn] at HI
    clear hn
    go_enter Tryz.func148,Tryz.ntmps148
    go_wp2_with fail
    refine Calls.mono (HI.out _ (((Up.refl _).alloc _).alloc _)) ?_
    rintro r w1 ⟨rfl,u1⟩
    have HU : Hid (Up w w1) := Up.trans (((Up.refl _).alloc _).alloc _) u1
    have e0 := par1 u1 0 _ rfl
    have e1 := par1 u1 1 _ rfl
    have e2 := par1 u1 2 _ rfl
    have e3 := par1 u1 3 _ rfl
    have e4 := par1 u1 4 _ rfl
    have e5 := par1 u1 5 _ rfl
    have e6 := par1 u1 6 _ rfl
    have e7 := par1 u1 7 _ rfl
    have e8 := par1 u1 8 _ rfl
    have e9 := par1 u1 9 _ rfl
    have e10 := par1 u1 10 _ rfl
    have e11 := par1 u1 11 _ rfl
    clear u1
    go_wp2
    go_ret
    exact ⟨by simp,HU.out⟩
   ·rw [hn] at HI
    clear hn
    go_enter Tryz.func148,Tryz.ntmps148
    go_wp2_with fail
    refine Calls.mono (HI.out _ (((Up.refl _).alloc _).alloc _)) ?_
    rintro r w1 ⟨rfl,u1⟩
    have HU : Hid (Up w w1) := Up.trans (((Up.refl _).alloc _).alloc _) u1
    have e0 := par1 u1 0 _ rfl
    have e1 := par1 u1 1 _ rfl
    have e2 := par1 u1 2 _ rfl
    have e3 := par1 u1 3 _ rfl
    have e4 := par1 u1 4 _ rfl
    have e5 := par1 u1 5 _ rfl
    have e6 := par1 u1 6 _ rfl
    have e7 := par1 u1 7 _ rfl
    have e8 := par1 u1 8 _ rfl
    have e9 := par1 u1 9 _ rfl
    have e10 := par1 u1 10 _ rfl
    have e11 := par1 u1 11 _ rfl
    clear u1
    go_wp2_with fail
    refine Calls.mono (HB.out _) ?_
    rintro r w2 ⟨rfl,u2⟩
    have HU2 : Hid (Up w w2) := HU.out.trans u2
    have HU2w : Hid (Up w1 w2) := u2
    clear u2
    have z9 : w2.cell? ⟨w.heap.size + 1,9,none⟩ = _ := HU2w.out.cell e9
    cases bb
    ·go_wp2
     go_ret
     exact ⟨by simp,HU2.out⟩
    ·go_wp2
     go_ret
     exact ⟨by simp,HU2.out⟩
  ·have fb : (other == wo) = false := beq_eq_false_iff_ne.2 hb
   have gb : decide (other = wo) = false := decide_eq_false hb
   rw [gb]
   clear hb gb
   go_enter Tryz.func148,Tryz.ntmps148
   go_wp2
   go_ret
   exact ⟨by simp,((Up.refl _).alloc _).alloc _⟩
 ·have fa : (now == tu) = false := beq_eq_false_iff_ne.2 ha
  have ga : decide (now = tu) = false := decide_eq_false ha
  rw [ga]
  clear ha ga
  go_enter Tryz.func148,Tryz.ntmps148
  go_wp2
  go_ret
  exact ⟨by simp,((Up.refl _).alloc _).alloc _⟩
end DE
end Go.Proofs.YtodhjjeagmjhdaaGreatDoor
namespace Go.Proofs.YtodhjjeagmjhdaaGreatDoor
open Go.RowKit
attribute [local go_sem ↓] Go.wp_at_zero Go.wp_at_succ
namespace DE
open Go.Proofs.YtodhjjeagmjhdaaGreatDoor.ST
def endFitsB (s : Stt) (e : Ev) : Bool := decide (s.fin = 0) && (if e.now = 1 then numB e.player s.ps.length else if e.now = 2 then decide (e.player = 0) else false)
def endLeadsB (s : Stt) (e : Ev) : Bool := !decide (s.fin = 0) && (decide (wrap32 s.fin = e.now) && decide (s.winner = e.player))
set_option maxRecDepth 100000 in
set_option maxHeartbeats 4000000 in
theorem endFits_ (v : Value) (s : Stt) (e : Ev) (oa : Option Addr) (on oc : Nat) (w : World) (hs : StL w v s) : Calls Tryz.prog 153 #[v,evv e (.slice oa on oc)] w fun r w'=>r = .returned (.bool (endFitsB s e)) /\ Up w w' := by
 have HI : Hid (∀ W,Up w W -> _) := fun W u=>isPlayer_ v s e.player W (hs.up u)
 unfold endFitsB
 obtain ⟨vp,vc,vz,rfl,h1,h2,h3⟩ := hs
 obtain ⟨a2,k2,rfl,-,-⟩ := pl_at h1
 unfold evv evc at *
 unfold sv at *
 obtain ⟨kind,field,card,player,other,fr,frAt,to_,toAt,was,now,ord⟩ := e
 dsimp only at *
 clear h1 h2 h3
 generalize s.ps.length = m at *
 generalize s.fin = fi at *
 by_cases hf : fi = 0
 ·subst hf
  by_cases h1 : now = 1
  ·subst h1
   generalize numB player m = nb at *
   go_enter Tryz.func153,Tryz.ntmps153
   go_wp2_with fail
   refine Calls.mono (HI.out _ (((Up.refl _).alloc _).alloc _)) ?_
   rintro r w1 ⟨rfl,u1⟩
   have HU : Hid (Up w w1) := Up.trans (((Up.refl _).alloc _).alloc _) u1
   clear u1
   go_wp2
   go_ret
   exact ⟨by simp,HU.out⟩
  ·have f1 : (now == 1) = false := beq_eq_false_iff_ne.2 h1
   by_cases h2 : now = 2
   ·subst h2
    go_enter Tryz.func153,Tryz.ntmps153
    go_wp2
    go_ret
    exact ⟨by by_cases h : player = 0 <;> simp [h],((Up.refl _).alloc _).alloc _⟩
   ·have f2 : (now == 2) = false := beq_eq_false_iff_ne.2 h2
    rw [if_neg h1,if_neg h2]
    go_enter Tryz.func153,Tryz.ntmps153
    go_wp2
    go_ret
    exact ⟨by simp,((Up.refl _).alloc _).alloc _⟩
 ·have f0 : (fi == 0) = false := beq_eq_false_iff_ne.2 hf
  have g0 : decide (fi = 0) = false := decide_eq_false hf
  rw [g0,Bool.false_and]
  go_enter Tryz.func153,Tryz.ntmps153
  go_wp2
  go_ret
  exact ⟨by simp,((Up.refl _).alloc _).alloc _⟩
set_option maxRecDepth 100000 in
set_option maxHeartbeats 4000000 in
theorem endLeads_ (v : Value) (s : Stt) (e : Ev) (oa : Option Addr) (on oc : Nat) (w : World) (hs : StL w v s) : Calls Tryz.prog 154 #[v,evv e (.slice oa on oc)] w fun r w'=>r = .returned (.bool (endLeadsB s e)) /\ Up w w' := by
 unfold endLeadsB
 obtain ⟨vp,vc,vz,rfl,h1,h2,h3⟩ := hs
 obtain ⟨a1,k1,rfl,-,-⟩ := pl_at h1
 obtain ⟨a2,k2,rfl,-,-⟩ := cl_at h2
 obtain ⟨a3,k3,rfl,-,-⟩ := zl_at h3
 unfold evv evc sv
 obtain ⟨kind,field,card,player,other,fr,frAt,to_,toAt,was,now,ord⟩ := e
 dsimp only at *
 clear h1 h2 h3
 generalize s.fin = fi at *
 generalize s.winner = wi at *
 by_cases hf : fi = 0
 ·subst hf
  go_enter Tryz.func154,Tryz.ntmps154
  go_wp2
  go_ret
  exact ⟨by simp,((Up.refl _).alloc _).alloc _⟩
 ·have f0 : (fi == 0) = false := beq_eq_false_iff_ne.2 hf
  have g0 : decide (fi = 0) = false := decide_eq_false hf
  rw [g0]
  by_cases hg : wrap32 fi = now
  ·have f1 : (wrap32 fi == now) = true := by rw [hg]; simp
   have g1 : decide (wrap32 fi = now) = true := decide_eq_true hg
   rw [g1]
   clear hg
   go_enter Tryz.func154,Tryz.ntmps154
   go_wp2
   go_ret
   refine ⟨?_,((Up.refl _).alloc _).alloc _⟩
   by_cases h : wi = player
   ·subst h; simp [hf]
   ·have : (wi == player) = false := beq_eq_false_iff_ne.2 h
    simp [h,this]
  ·have f1 : (wrap32 fi == now) = false := beq_eq_false_iff_ne.2 hg
   have g1 : decide (wrap32 fi = now) = false := decide_eq_false hg
   rw [g1]
   clear hg
   go_enter Tryz.func154,Tryz.ntmps154
   go_wp2
   go_ret
   exact ⟨by simp,((Up.refl _).alloc _).alloc _⟩
set_option maxRecDepth 100000 in
set_option maxHeartbeats 4000000 in
theorem cardLeads_ (v : Value) (s : Stt) (e : Ev) (oa : Option Addr) (on oc : Nat) (w : World) (hs : StL w v s) : Calls Tryz.prog 125 #[v,evv e (.slice oa on oc)] w fun r w'=>r = .returned (.bool (cardFitsB s (turnedE e))) /\ Up w w' := by
 have HT : Hid _ := turned_ e oa on oc
 have HF : Hid (∀ W,Up w W -> _) := fun W u=>cardFits_ v s (turnedE e) oa on oc W (hs.up u)
 obtain ⟨vp,vc,vz,rfl,h1,h2,h3⟩ := hs
 obtain ⟨a1,k1,rfl,-,-⟩ := pl_at h1
 obtain ⟨a2,k2,rfl,-,-⟩ := cl_at h2
 obtain ⟨a3,k3,rfl,-,-⟩ := zl_at h3
 generalize cardFitsB s (turnedE e) = r0 at *
 generalize evv (turnedE e) (.slice oa on oc) = te at *
 clear h1 h2 h3
 unfold evv evc at *
 unfold sv at *
 go_enter Tryz.func125,Tryz.ntmps125
 go_wp2_with fail
 refine (fun key : ∀ W8,Up w W8 -> (?G : World -> Prop) W8=>?main) ?kp
 case main =>
  go_region_with (first
   | (go_at_call 185; go_loud (refine Calls.mono (HT.out _) ?_; rintro r W9 ⟨rfl,u9⟩; have u8 := Up.trans (Up.drew (Up.refl _)) u9; have U9 : Hid (Up w W9) := Up.trans (((Up.refl _).alloc _).alloc _) u8; have s0 := par0 u8 0 _ rfl; have s1 := par0 u8 1 _ rfl; have s2 := par0 u8 2 _ rfl; have s3 := par0 u8 3 _ rfl; have s4 := par0 u8 4 _ rfl; have s5 := par0 u8 5 _ rfl; have s6 := par0 u8 6 _ rfl; clear u9 u8))
   | (go_at_call 124; refine Calls.mono (HF.out _ U9.out) ?_; rintro r W8 ⟨rfl,u8⟩; have U8 : Hid (Up w W8) := U9.out.trans u8; clear u8))
  all_goals exact key W8 U8.out
 case kp =>
  intro W8 hu8
  have HU8 : Hid _ := hu8
  clear hu8
  go_wp2
  go_ret
  exact ⟨rfl,HU8.out⟩
set_option maxRecDepth 100000 in
set_option maxHeartbeats 4000000 in
theorem playerLeads_ (v : Value) (s : Stt) (e : Ev) (oa : Option Addr) (on oc : Nat) (w : World) (hs : StL w v s) : Calls Tryz.prog 131 #[v,evv e (.slice oa on oc)] w fun r w'=>r = .returned (.bool (playerFitsB s (turnedE e))) /\ Up w w' := by
 have HT : Hid _ := turned_ e oa on oc
 have HF : Hid (∀ W,Up w W -> _) := fun W u=>playerFits_ v s (turnedE e) oa on oc W (hs.up u)
 obtain ⟨vp,vc,vz,rfl,h1,h2,h3⟩ := hs
 obtain ⟨a1,k1,rfl,-,-⟩ := pl_at h1
 obtain ⟨a2,k2,rfl,-,-⟩ := cl_at h2
 obtain ⟨a3,k3,rfl,-,-⟩ := zl_at h3
 generalize playerFitsB s (turnedE e) = r0 at *
 generalize evv (turnedE e) (.slice oa on oc) = te at *
 clear h1 h2 h3
 unfold evv evc at *
 unfold sv at *
 go_enter Tryz.func131,Tryz.ntmps131
 go_wp2_with fail
 refine (fun key : ∀ W8,Up w W8 -> (?G : World -> Prop) W8=>?main) ?kp
 case main =>
  go_region_with (first
   | (go_at_call 185; go_loud (refine Calls.mono (HT.out _) ?_; rintro r W9 ⟨rfl,u9⟩; have u8 := Up.trans (Up.drew (Up.refl _)) u9; have U9 : Hid (Up w W9) := Up.trans (((Up.refl _).alloc _).alloc _) u8; have s0 := par0 u8 0 _ rfl; have s1 := par0 u8 1 _ rfl; have s2 := par0 u8 2 _ rfl; have s3 := par0 u8 3 _ rfl; have s4 := par0 u8 4 _ rfl; have s5 := par0 u8 5 _ rfl; have s6 := par0 u8 6 _ rfl; clear u9 u8))
   | (go_at_call 130; refine Calls.mono (HF.out _ U9.out) ?_; rintro r W8 ⟨rfl,u8⟩; have U8 : Hid (Up w W8) := U9.out.trans u8; clear u8))
  all_goals exact key W8 U8.out
 case kp =>
  intro W8 hu8
  have HU8 : Hid _ := hu8
  clear hu8
  go_wp2
  go_ret
  exact ⟨rfl,HU8.out⟩
end DE
end Go.Proofs.YtodhjjeagmjhdaaGreatDoor
namespace Go.Proofs.YtodhjjeagmjhdaaGreatDoor
open Go
structure UW (w : World) where
 W : World
 up : Up w W
namespace TailR
theorem wp_region_seqC {P : Program} {id : Nat} {Q : Exit -> Act -> World -> Prop} {a : Act} {w : World} {l : List Oper} (n : Nat) (C : World -> Prop) (hC : C (w.drewN 1)) (hm : P.follows .mixedOrders = true) (hB : allB0 .any l.toArray n = true)
  (h : wpQuiet P l.toArray C (fun a'=>∀ w',C w' -> wpList P l.toArray Q (l.drop n) a' w') (l.take n) a) : (Code.region id l.toArray true).wp P Q a w := by
 simp only [allB0,Bool.and_eq_true,decide_eq_true_eq] at hB
 obtain ⟨⟨⟨⟨hs,hW⟩,hL⟩,hT⟩,hn⟩ := hB
 have hsz : l.toArray.size = l.length := by simp
 rw [hsz] at hn hL hT
 have hl : (l.take n).length = n := by simp; omega
 have hd : (l.drop n).length = l.length - n := by simp
 refine wp_region_any hm ?_
 rw [hsz]
 have key := wpAnyU_lex (P := P) (md := .any) (C := C) (n := n) (R := fun a'=>∀ w',C w' -> wpList P l.toArray Q (l.drop n) a' w') hs (l.take n) 0 (Array.replicate l.length false) a
  (fun j o' hj=>by
   rw [List.getElem?_take] at hj
   split at hj
   ·rw [Nat.zero_add]; simpa using hj
   ·cases hj)
  (by rw [hl]; exact hL) h
 rw [hl] at key
 rw [show l.length = (l.drop n).length + n by rw [hd]; omega]
 refine wpAny_of_U (C := C) (t := (l.drop n).length) hW (fun L a' w' hRL hw'=>?_) n _ _ _ ?_ (fun k hk=>by omega) hC (by rw [show (l.drop n).length + n = l.length by rw [hd]; omega]; exact key)
 ·obtain ⟨rfl,hRL⟩ := hRL
  exact wpAny_tail (l.drop n) n _ a' w' (fun j o' hj=>by
   rw [List.getElem?_drop] at hj
   simpa using hj) (by rw [hd]; exact hT) (hRL w' hw')
 ·intro j hj o' ho' e he hb
  rw [rep_false] at hj
  cases hj
end TailR
end Go.Proofs.YtodhjjeagmjhdaaGreatDoor
