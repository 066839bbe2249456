/-
  Rows at once; what takes a token answers.
-/
import Derived.Test.YtkldllnnocdhbaaGreatDoorBase
import Derived.Test.YtkldllnnocdhbaaGreatDoorTt8
import Derived.Laws.Tables
namespace Go.Proofs.YtkldllnnocdhbaaGreatDoor
open Go

namespace TailR
section
variable {P : Program} {ops : Array Oper} {md : Region.Mode} {C : World → Prop}
def edgeB (md : Region.Mode) (ops : Array Oper) (j i : Nat) : Bool := ((ops[j]?).map fun o => o.after.any fun e => Region.binds md e && e.on == i).getD false
def depsP (md : Region.Mode) (ops : Array Oper) (listed : Array Bool) (j : Nat) : Prop := ∀ o, ops[j]? = some o → ∀ e ∈ o.after, Region.binds md e = true → listed.getD e.on false = true
def closedP (md : Region.Mode) (ops : Array Oper) (listed : Array Bool) : Prop := ∀ j, listed.getD j false = true → depsP md ops listed j
theorem edge_listed {listed : Array Bool} {j i : Nat} (h : depsP md ops listed j) (he : edgeB md ops j i = true) : listed.getD i false = true := by
  unfold edgeB at he
  cases ho : ops[j]? with
  | none => rw [ho] at he; cases he
  | some o =>
    rw [ho] at he
    simp only [Option.map_some, Option.getD_some] at he
    obtain ⟨e, he, hb⟩ := Array.any_eq_true'.1 he
    simp only [Bool.and_eq_true, beq_iff_eq] at hb
    have := h o ho e he hb.1
    rw [hb.2] at this
    exact this
theorem closed_set {listed : Array Bool} {i : Nat} (h : closedP md ops listed) (hr : i ∈ Region.ready md ops listed) : closedP md ops (listed.setIfInBounds i true) := by
  intro j hj o ho e he hb
  by_cases hji : i = j
  · subst hji
    obtain ⟨_, o', ho', hall⟩ := mem_ready.1 hr
    rw [ho] at ho'
    cases ho'
    exact getD_set_true (hall e he hb)
  · rw [getD_set_ne false hji] at hj
    exact getD_set_true (h j hj o ho e he hb)
def waitsB (md : Region.Mode) (ops : Array Oper) (k0 n : Nat) : Bool := ((List.range n).all fun i => decide (i < k0) || (List.range (n + 1)).any fun j => decide (i < j) && edgeB md ops j i) && (List.range ops.size).all fun t => decide (t ≤ n) || edgeB md ops t (t - 1)
theorem down {k0 n : Nat} (hW : waitsB md ops k0 n = true) {listed : Array Bool} (hc : closedP md ops listed) (hd : depsP md ops listed n) : ∀ d i, n - i ≤ d → k0 ≤ i → i < n → listed.getD i false = true := by
  simp only [waitsB, Bool.and_eq_true] at hW
  intro d
  induction d with
  | zero => intro i h1 h2 h3; omega
  | succ d ih =>
    intro i h1 h2 h3
    have h4 := List.all_eq_true.1 hW.1 i (List.mem_range.2 h3)
    simp only [Bool.or_eq_true, decide_eq_true_eq] at h4
    rcases h4 with h4 | h4
    · omega
    · obtain ⟨j, hj, h5⟩ := List.any_eq_true.1 h4
      simp only [Bool.and_eq_true, decide_eq_true_eq] at h5
      rw [List.mem_range] at hj
      by_cases e : j = n
      · subst e; exact edge_listed hd h5.2
      · exact edge_listed (hc j (ih j (by omega) (by omega) (by omega))) h5.2
theorem tail_down {k0 n : Nat} (hW : waitsB md ops k0 n = true) {listed : Array Bool} (hc : closedP md ops listed) : ∀ d t, t = n + d → t < ops.size → depsP md ops listed t → depsP md ops listed n := by
  intro d
  induction d with
  | zero => intro t h1 _ h2; rw [h1] at h2; exact h2
  | succ d ih =>
    intro t h1 h2 h3
    simp only [waitsB, Bool.and_eq_true] at hW
    have h4 := List.all_eq_true.1 hW.2 t (List.mem_range.2 h2)
    simp only [Bool.or_eq_true, decide_eq_true_eq] at h4
    rcases h4 with h4 | h4
    · omega
    · exact ih (t - 1) (by omega) (by omega) (hc (t - 1) (edge_listed h3 h4))
/- while one of the quiet ones is not listed, none of the tail may come up -/
theorem no_tail {k0 n : Nat} (hW : waitsB md ops k0 n = true) {listed : Array Bool} (hc : closedP md ops listed) (h0 : ∀ k, k < k0 → listed.getD k true = true) {i j : Nat} (hi : i ∈ Region.ready md ops listed) (hin : i < n) (hj : j ∈ Region.ready md ops listed) : j < n := by
  rcases Nat.lt_or_ge j n with h | h
  · exact h
  · exfalso
    obtain ⟨_, o, ho, hall⟩ := mem_ready.1 hj
    have hlt : j < ops.size := (Array.getElem?_eq_some_iff.1 ho).1
    have hd : depsP md ops listed j := fun o' ho' e he hb => by
      rw [ho] at ho'
      cases ho'
      exact hall e he hb
    have hdn := tail_down hW hc (j - n) j (by omega) hlt hd
    have hun := (mem_ready.1 hi).1
    by_cases e : i < k0
    · rw [h0 i e] at hun; cases hun
    · have := down hW hc hdn (n - i) i (Nat.le_refl _) (by omega) hin
      rcases Nat.lt_or_ge i listed.size with h' | h'
      · simp [h'] at this hun; rw [this] at hun; cases hun
      · simp [Array.getElem?_eq_none h'] at this
def wpAnyU (P : Program) (md : Region.Mode) (ops : Array Oper) (n : Nat) (C : World → Prop) (R : Array Bool → Act → Prop) : Nat → Array Bool → Act → Prop
  | 0, listed, a => (∀ i ∈ Region.ready md ops listed, n ≤ i) ∧ R listed a
  | fuel + 1, listed, a => (∃ i, i ∈ Region.ready md ops listed ∧ i < n) ∧ ∀ i ∈ Region.ready md ops listed, i < n → qOp P ops C i (wpAnyU P md ops n C R fuel (listed.setIfInBounds i true)) a
theorem wpAnyU_first {n : Nat} {R : Array Bool → Act → Prop} {i : Nat} (hin : i < n) {oi : Oper} {v : Value} (hi : ops[i]? = some oi) (hsel : ∀ (j : Nat) (o : Oper) cs b, ops[j]? = some o → o.op ≠ .select cs b) :
    ∀ (fuel : Nat) (listed : Array Bool) (a : Act),
      (∀ j oj, ops[j]? = some oj → j ≠ i → listed.getD j true = false → (∀ e ∈ oj.after, Region.binds md e = true → e.on ≠ i) → oi.apart ops oj = true) →
      i ∈ Region.ready md ops listed → YieldsIn P ops C oi v a →
      wpAnyU P md ops n C R fuel (listed.setIfInBounds i true) (a.put oi.dst v) → wpAnyU P md ops n C R (fuel + 1) listed a := by
  intro fuel
  induction fuel with
  | zero =>
    intro listed a _ hr hy H
    refine ⟨⟨i, hr, hin⟩, fun j hj hjn => ?_⟩
    by_cases hji : j = i
    · subst hji; exact hy.qOp hi H
    · have := H.1 j (ready_mono hj hji)
      omega
  | succ fuel ih =>
    intro listed a hfree hr hy H
    refine ⟨⟨i, hr, hin⟩, fun j hj hjn => ?_⟩
    by_cases hji : j = i
    · subst hji; exact hy.qOp hi H
    · have h1 := H.2 j (ready_mono hj hji) hjn
      obtain ⟨hjun, oj, hoj, hall⟩ := mem_ready.1 hj
      have hnot : ∀ e ∈ oj.after, Region.binds md e = true → e.on ≠ i := fun e he hb heq => by
        have h1 := hall e he hb
        have h0 := (mem_ready.1 hr).1
        rw [heq] at h1
        rcases Nat.lt_or_ge i listed.size with h' | h'
        · simp [h'] at h0 h1; rw [h0] at h1; cases h1
        · simp [Array.getElem?_eq_none h'] at h1
      have h2 := qOp_put hoj (hfree j oj hoj hji hjun hnot) (fun cs b => hsel i oi cs b hi) (fun cs b => hsel j oj cs b hoj) hy h1
      have hfree' : ∀ k ok, ops[k]? = some ok → k ≠ i → (listed.setIfInBounds j true).getD k true = false →
          (∀ e ∈ ok.after, Region.binds md e = true → e.on ≠ i) → oi.apart ops ok = true := fun k ok hk hki hun hno => by
        refine hfree k ok hk hki ?_ hno
        by_cases hjk : j = k
        · subst hjk; exact hjun
        · rw [getD_set_ne true hjk] at hun; exact hun
      refine qOp_mono (fun a' h3 => ih (listed.setIfInBounds j true) a' hfree' (ready_mono hr (Ne.symm hji)) h3.1 ?_) h2
      rw [Array.setIfInBounds_comm _ _ hji]
      exact h3.2
def lexU (md : Region.Mode) (ops : Array Oper) (n : Nat) : Nat → Nat → Array Bool → Bool
  | 0, _, listed => (Region.ready md ops listed).all fun i => decide (n ≤ i)
  | fuel + 1, k, listed => (Region.ready md ops listed).contains k && decide (k < n) && Region.free md ops listed k && lexU md ops n fuel (k + 1) (listed.setIfInBounds k true)
def lastU : Nat → Nat → Array Bool → Array Bool
  | 0, _, listed => listed
  | fuel + 1, k, listed => lastU fuel (k + 1) (listed.setIfInBounds k true)
theorem wpAnyU_lex {n : Nat} {R : Act → Prop} (hs : Region.noSelect ops = true) : ∀ (l : List Oper) (k : Nat) (listed : Array Bool) (a : Act), (∀ j o, l[j]? = some o → ops[k + j]? = some o) →
    lexU md ops n l.length k listed = true → wpQuiet P ops C R l a → wpAnyU P md ops n C (fun L a => L = lastU l.length k listed ∧ R a) l.length listed a
  | [], _, _, _, _, hB, h => by
    simp only [List.length_nil, lexU, List.all_eq_true, decide_eq_true_eq] at hB
    exact ⟨hB, rfl, h⟩
  | o :: l, k, listed, a, hl, hB, h => by
    have h0 : ops[k]? = some o := hl 0 o rfl
    simp only [List.length_cons, lexU, Bool.and_eq_true, decide_eq_true_eq] at hB
    obtain ⟨⟨⟨hr, hk⟩, hf⟩, hB'⟩ := hB
    have hst : qOp P ops C k (wpQuiet P ops C R l) a := by unfold qOp; simp only [h0]; exact h
    obtain ⟨v, hy, hK⟩ := yieldsIn_of_qOp h0 hst
    exact wpAnyU_first hk h0 (Region.noSelect_spec hs) l.length listed a (Region.free_spec h0 hf) (by simpa using hr) hy
      (wpAnyU_lex hs l (k + 1) _ _ (fun j o' hj => by have := hl (j + 1) o' (by simpa using hj); simpa [Nat.add_assoc, Nat.add_comm 1 j] using this) hB' hK)
theorem wpAny_of_U {k0 n t : Nat} (hW : waitsB md ops k0 n = true) {Q : Exit → Act → World → Prop} {R : Array Bool → Act → Prop} (hR : ∀ L a w, R L a → C w → wpAny P md ops Q t L a w) : ∀ (fuel : Nat) (listed : Array Bool) (a : Act) (w : World), closedP md ops listed → (∀ k, k < k0 → listed.getD k true = true) → C w →
    wpAnyU P md ops n C R fuel listed a → wpAny P md ops Q (t + fuel) listed a w
  | 0, _, _, _, _, _, hw, ⟨_, h2⟩ => hR _ _ _ h2 hw
  | fuel + 1, listed, a, w, hc, h0, hw, ⟨⟨k, hk, hkn⟩, h3⟩ => by
    refine ⟨fun e => (by rw [e] at hk; cases hk), fun i hi => ?_⟩
    have hin := no_tail hW hc h0 hk hkn hi
    refine wpOp_of_qOp hw (fun a' w' hw' h => wpAny_of_U hW hR fuel _ a' w' (closed_set hc hi) ?_ hw' h) (h3 i hi hin)
    intro k hk
    by_cases e : i = k
    · subst e
      have := (mem_ready.1 hi).1
      rw [h0 i hk] at this; cases this
    · rw [getD_set_ne true e]; exact h0 k hk
def tailB (md : Region.Mode) (ops : Array Oper) : Nat → Nat → Array Bool → Bool
  | 0, _, listed => (Region.ready md ops listed).isEmpty
  | t + 1, k, listed => (Region.ready md ops listed == [k]) && tailB md ops t (k + 1) (listed.setIfInBounds k true)
theorem wpAny_tail {Q : Exit → Act → World → Prop} : ∀ (l : List Oper) (k : Nat) (listed : Array Bool) (a : Act) (w : World), (∀ j o, l[j]? = some o → ops[k + j]? = some o) → tailB md ops l.length k listed = true → wpList P ops Q l a w → wpAny P md ops Q l.length listed a w
  | [], _, listed, a, w, _, hB, h => by
    simp only [List.length_nil, tailB, List.isEmpty_iff] at hB
    exact ⟨hB, h⟩
  | o :: l, k, listed, a, w, hl, hB, h => by
    have h0 : ops[k]? = some o := hl 0 o rfl
    simp only [List.length_cons, tailB, Bool.and_eq_true, beq_iff_eq] at hB
    refine ⟨fun e => (by rw [hB.1] at e; cases e), fun i hi => ?_⟩
    rw [hB.1] at hi
    simp at hi
    subst hi
    have hh : wpOp P ops Q i (wpList P ops Q l) a w := by unfold wpOp; simp only [h0]; exact h
    exact wpOp_mono (fun a' w' h' => wpAny_tail l (i + 1) _ a' w' (fun j o' hj => by have := hl (j + 1) o' (by simpa using hj); simpa [Nat.add_assoc, Nat.add_comm 1 j] using this) hB.2 h') hh
def allB (md : Region.Mode) (ops : Array Oper) (n : Nat) : Bool :=
  Region.noSelect ops && waitsB md ops 1 n && Region.free md ops (Array.replicate ops.size false) 0 && (Region.ready md ops (Array.replicate ops.size false)).contains 0 &&
  lexU md ops n (n - 1) 1 ((Array.replicate ops.size false).setIfInBounds 0 true) && tailB md ops (ops.size - n) n (lastU (n - 1) 1 ((Array.replicate ops.size false).setIfInBounds 0 true)) && decide (1 ≤ n) && decide (n ≤ ops.size)
end
theorem rep_false (N j : Nat) : (Array.replicate N false).getD j false = false := by
  rw [Array.getD_eq_getD_getElem?, Array.getElem?_replicate]
  split <;> rfl
theorem wp_region_tail {P : Program} {id : Nat} {Q : Exit → Act → World → Prop} {a : Act} {w : World} {o : Oper} {l : List Oper} (n : Nat) (v : Value) (hm : P.follows .mixedOrders = true) (hB : allB .any (o :: l).toArray (n + 1) = true)
    (hQ : ∀ c a w, Q (.panic c) (a.put o.dst v) w → Q (.panic c) a w) (hy : Yields P (o :: l).toArray o v a)
    (h : wpQuiet P (o :: l).toArray (fun w' => ∃ n, w' = w.drewN n) (fun a' => ∀ w', (∃ n, w' = w.drewN n) → wpList P (o :: l).toArray Q (l.drop n) a' w') (l.take n) (a.put o.dst v)) : (Code.region id (o :: l).toArray true).wp P Q a w := by
  simp only [allB, Bool.and_eq_true, decide_eq_true_eq] at hB
  obtain ⟨⟨⟨⟨⟨⟨⟨hs, hW⟩, hf⟩, hr⟩, hL⟩, hT⟩, -⟩, hn⟩ := hB
  have hsz : (o :: l).toArray.size = l.length + 1 := by simp
  rw [hsz] at hn hL hT hf hr
  have hl : (l.take n).length = n := by simp; omega
  have hd : (l.drop n).length = l.length + 1 - (n + 1) := by simp
  rw [show n + 1 - 1 = n by omega] at hL hT
  refine wp_region_any hm ?_
  rw [hsz]
  refine wpAny_take (i := 0) (v := v) rfl hs hf hr hQ hy ?_
  have key := wpAnyU_lex (P := P) (md := .any) (C := fun w' => ∃ n, w' = w.drewN n) (n := n + 1) (R := fun a' => ∀ w', (∃ n, w' = w.drewN n) → wpList P (o :: l).toArray Q (l.drop n) a' w') hs (l.take n) 1 ((Array.replicate (l.length + 1) false).setIfInBounds 0 true) (a.put o.dst v)
    (fun j o' hj => by
      rw [List.getElem?_take] at hj
      split at hj
      · rw [Nat.add_comm 1 j]; simpa using hj
      · cases hj)
    (by rw [hl]; exact hL) h
  rw [hl] at key
  rw [show l.length = (l.drop n).length + n by rw [hd]; omega]
  refine wpAny_of_U (C := fun w' => ∃ n, w' = w.drewN n) (t := (l.drop n).length) hW (fun L a' w' hRL hw' => ?_) n _ _ _ ?_ ?_ ⟨1, rfl⟩ (by rw [show (l.drop n).length + n = l.length by rw [hd]; omega]; exact key)
  · obtain ⟨rfl, hRL⟩ := hRL
    exact wpAny_tail (l.drop n) (n + 1) _ a' w' (fun j o' hj => by
      rw [List.getElem?_drop] at hj
      rw [show n + 1 + j = n + j + 1 by omega]
      simpa using hj) (by rw [hd]; exact hT) (hRL w' hw')
  · intro j hj o' ho' e he hb
    exfalso
    by_cases e0 : (0 : Nat) = j
    · subst e0
      have ho2 : o' = o := by simpa using ho'.symm
      subst ho2
      obtain ⟨_, o2, ho2, hall⟩ := mem_ready.1 (show 0 ∈ Region.ready .any (o' :: l).toArray (Array.replicate (l.length + 1) false) by simpa using hr)
      have : o2 = o' := by simpa using ho2.symm
      subst this
      have h9 := hall e he hb
      rcases Nat.lt_or_ge e.on (l.length + 1) with h' | h'
      · simp [h'] at h9
      · simp [h'] at h9
    · rw [getD_set_ne false e0] at hj
      rw [rep_false] at hj
      cases hj
  · intro k hk
    rw [show k = 0 by omega]
    simp
theorem wp_region_tail' {P : Program} {id : Nat} {Q : Exit → Act → World → Prop} {a : Act} {w : World} {o : Oper} {l : List Oper} (n : Nat) (x : Operand) (ho : o.op = .move x) (hg : o.guard = none) (hm : P.follows .mixedOrders = true) (hB : allB .any (o :: l).toArray (n + 1) = true)
    (hQ : ∀ c a v w, Q (.panic c) (a.put o.dst v) w → Q (.panic c) a w)
    (h : wpQuiet P (o :: l).toArray (fun w' => ∃ n, w' = w.drewN n) (fun a' => ∀ w', (∃ n, w' = w.drewN n) → wpList P (o :: l).toArray Q (l.drop n) a' w') (o :: l.take n) a) : (Code.region id (o :: l).toArray true).wp P Q a w := by
  have hw : Region.wanted o (yielded (o :: l).toArray a.tmps) = true := by simp [Region.wanted, hg]
  have hy : Yields P (o :: l).toArray o (a.eval x) a := .inl ⟨hw, fun w => by simp [execOp, ho]⟩
  unfold wpQuiet at h
  rw [if_pos hw] at h
  obtain ⟨v, hq, hn⟩ := h
  have hv : a.eval x = v := by
    have := hq (w.drewN 1) ⟨1, rfl⟩
    simp [Oper.quietAt, execOp, ho, Oper.quietUpon] at this
    exact this
  rw [← hv] at hn
  exact wp_region_tail n (a.eval x) hm hB (fun c a' w' => hQ c a' _ w') hy hn
def allB0 (md : Region.Mode) (ops : Array Oper) (n : Nat) : Bool :=
  Region.noSelect ops && waitsB md ops 0 n && lexU md ops n n 0 (Array.replicate ops.size false) && tailB md ops (ops.size - n) n (lastU n 0 (Array.replicate ops.size false)) && decide (n ≤ ops.size)
theorem wp_region_seq {P : Program} {id : Nat} {Q : Exit → Act → World → Prop} {a : Act} {w : World} {l : List Oper} (n : Nat) (hm : P.follows .mixedOrders = true) (hB : allB0 .any l.toArray n = true)
    (h : wpQuiet P l.toArray (fun w' => ∃ n, w' = w.drewN n) (fun a' => ∀ w', (∃ n, w' = w.drewN n) → wpList P l.toArray Q (l.drop n) a' w') (l.take n) a) : (Code.region id l.toArray true).wp P Q a w := by
  simp only [allB0, Bool.and_eq_true, decide_eq_true_eq] at hB
  obtain ⟨⟨⟨⟨hs, hW⟩, hL⟩, hT⟩, hn⟩ := hB
  have hsz : l.toArray.size = l.length := by simp
  rw [hsz] at hn hL hT
  have hl : (l.take n).length = n := by simp; omega
  have hd : (l.drop n).length = l.length - n := by simp
  refine wp_region_any hm ?_
  rw [hsz]
  have key := wpAnyU_lex (P := P) (md := .any) (C := fun w' => ∃ n, w' = w.drewN n) (n := n) (R := fun a' => ∀ w', (∃ n, w' = w.drewN n) → wpList P l.toArray Q (l.drop n) a' w') hs (l.take n) 0 (Array.replicate l.length false) a
    (fun j o' hj => by
      rw [List.getElem?_take] at hj
      split at hj
      · rw [Nat.zero_add]; simpa using hj
      · cases hj)
    (by rw [hl]; exact hL) h
  rw [hl] at key
  rw [show l.length = (l.drop n).length + n by rw [hd]; omega]
  refine wpAny_of_U (C := fun w' => ∃ n, w' = w.drewN n) (t := (l.drop n).length) hW (fun L a' w' hRL hw' => ?_) n _ _ _ ?_ (fun k hk => by omega) ⟨1, rfl⟩ (by rw [show (l.drop n).length + n = l.length by rw [hd]; omega]; exact key)
  · obtain ⟨rfl, hRL⟩ := hRL
    exact wpAny_tail (l.drop n) n _ a' w' (fun j o' hj => by
      rw [List.getElem?_drop] at hj
      simpa using hj) (by rw [hd]; exact hT) (hRL w' hw')
  · intro j hj o' ho' e he hb
    rw [rep_false] at hj
    cases hj
end TailR
end Go.Proofs.YtkldllnnocdhbaaGreatDoor
namespace Go.Proofs.YtkldllnnocdhbaaGreatDoor
open Go.RowKit
attribute [local go_sem ↓] Go.wp_at_zero Go.wp_at_succ
namespace TK
theorem cls_in (c : Int) : clsI c = 0 ∨ clsI c = 1 ∨ clsI c = 2 ∨ clsI c = 3 ∨ clsI c = 4 ∨ clsI c = 5 ∨ clsI c = 6 ∨ clsI c = 7 := by
  unfold clsI
  split
  · simp
  · split
    · simp
    · split
      · simp
      · split
        · simp
        · split
          · simp
          · split
            · simp
            · split <;> simp
theorem prt_cls (c : Int) : prt c = (clsI c == 2 || clsI c == 3 || clsI c == 4 || clsI c == 5) := by
  unfold clsI prt
  by_cases h0 : blk c = true
  · have h1 : sml c = false ∧ grt c = false ∧ dig c = false ∧ (c == 95) = false := by
      unfold blk at h0
      simp only [Bool.or_eq_true, beq_iff_eq] at h0
      rcases h0 with ((h | h) | h) | h <;> subst h <;> decide
    rw [h1.1, h1.2.1, h1.2.2.1, h1.2.2.2, if_pos h0]
    decide
  · rw [if_neg h0]
    cases sml c with
    | true => simp
    | false =>
      cases grt c with
      | true => simp
      | false =>
        cases dig c with
        | true => simp
        | false =>
          cases h5 : (c == 95) with
          | true => simp
          | false =>
            simp only [Bool.false_eq_true, ↓reduceIte, Bool.or_false]
            split
            · rfl
            · split <;> rfl
theorem dig_cls (c : Int) : dig c = (clsI c == 4) := by
  unfold clsI
  by_cases h0 : dig c = true
  · have h1 : blk c = false ∧ sml c = false ∧ grt c = false := by
      unfold dig at h0
      simp only [Bool.and_eq_true, decide_eq_true_eq] at h0
      unfold blk sml grt
      refine ⟨?_, ?_, ?_⟩ <;> simp <;> omega
    rw [h1.1, h1.2.1, h1.2.2, h0]
    simp
  · have h2 : dig c = false := by simpa using h0
    rw [h2]
    split
    · rfl
    · split
      · rfl
      · split
        · rfl
        · simp only [Bool.false_eq_true, ↓reduceIte]
          split
          · rfl
          · split
            · rfl
            · split <;> rfl
set_option maxRecDepth 100000 in
set_option maxHeartbeats 4000000 in
theorem ofN_ (c : Int) (g : Nat) (w : World) (h : w.cell? ⟨g, 0, none⟩ = some (.int .u64 60)) : Calls Tryz.prog 193 #[.int .u8 c, .pointer (some ⟨g, 0, none⟩)] w fun e w' => e = .returned (.bool (prt c)) ∧ Up w w' := by
  rw [prt_cls]
  have HC : Hid (∀ W, Calls Tryz.prog 161 #[.int .u8 c] W fun e w' => e = .returned (.int .i64 (clsI c)) ∧ w' = W) := fun W => classOf_ c W
  have hin := cls_in c
  generalize clsI c = k at *
  rcases hin with rfl | rfl | rfl | rfl | rfl | rfl | rfl | rfl
  all_goals
    go_enter Tryz.func193, Tryz.ntmps193
    go_wp2_with fail
    go_quiet (exact Calls.quiet_of_same (HC.out _))
    go_wp2
    go_ret
    exact ⟨rfl, (Up.refl _).drewN _⟩
set_option maxRecDepth 100000 in
set_option maxHeartbeats 4000000 in
theorem ofD_ (c : Int) (g : Nat) (w : World) (h : w.cell? ⟨g, 0, none⟩ = some (.int .u64 16)) : Calls Tryz.prog 193 #[.int .u8 c, .pointer (some ⟨g, 0, none⟩)] w fun e w' => e = .returned (.bool (dig c)) ∧ Up w w' := by
  rw [dig_cls]
  have HC : Hid (∀ W, Calls Tryz.prog 161 #[.int .u8 c] W fun e w' => e = .returned (.int .i64 (clsI c)) ∧ w' = W) := fun W => classOf_ c W
  have hin := cls_in c
  generalize clsI c = k at *
  rcases hin with rfl | rfl | rfl | rfl | rfl | rfl | rfl | rfl
  all_goals
    go_enter Tryz.func193, Tryz.ntmps193
    go_wp2_with fail
    go_quiet (exact Calls.quiet_of_same (HC.out _))
    go_wp2
    go_ret
    exact ⟨rfl, (Up.refl _).drewN _⟩
set_option maxRecDepth 100000 in
set_option maxHeartbeats 4000000 in
theorem behind_ (k : Nat) (fst cap : Array Value) (f : Int → Bool) (v : Value) (B : List Int) (p : Nat) (w : World) (hB : BL w v B) (hp : p ≤ B.length) (hn : B.length ≤ 4611686018427387904)
    (hent : ∀ args w, (callFunc k args).run Tryz.prog w = .ok (.enter k args) w) (hask : ∀ W c, Up w W → Calls Tryz.prog k (fst.push (.int .u8 c) ++ cap) W fun e W' => e = .returned (.bool (f c)) ∧ Up W W') :
    Calls Tryz.prog 162 #[v, .int .i64 p, .func (.func k) fst cap] w fun e w' => e = .returned (.int .i64 (spn f B p)) ∧ Up w w' := by
  obtain ⟨Post, hPost⟩ : ∃ P : Ending → World → Prop, P = fun e w' => e = .returned (.int .i64 (spn f B p)) ∧ Up w w' := ⟨_, rfl⟩
  rw [← hPost]
  have HPo : Hid (Post = fun e w' => e = .returned (.int .i64 (spn f B p)) ∧ Up w w') := hPost
  clear hPost
  obtain ⟨a, c, rfl, -, hc⟩ := bl_cells hB
  obtain ⟨n, hN⟩ : ∃ n, n = B.length := ⟨_, rfl⟩
  have HN : Hid (n = B.length) := hN
  rw [← hN] at hp hn hc ⊢
  have HC : Hid (∀ W, Up w W → ∀ q, q < n → ∃ b off, a = some ⟨b, off, none⟩ ∧ W.cell? ⟨b, off + q, none⟩ = some (.int .u8 (B.getD q 0))) := fun W u q hq => by
    obtain ⟨b, off, ha, hcc⟩ := hc (by omega)
    exact ⟨b, off, ha, hcc W u q hq⟩
  have HA : Hid (∀ W c, Up w W → Calls Tryz.prog k (fst.push (.int .u8 c) ++ cap) W fun e W' => e = .returned (.bool (f c)) ∧ Up W W') := hask
  clear hB hc hask hN
  go_enter Tryz.func162, Tryz.ntmps162
  go_wp2_with fail
  go_loopw [1] (fun s1 W => ∃ q : Nat, q ≤ n ∧ s1 = .int .i64 q ∧ spn f B p = spn f B q ∧ Up w W) (fun s1 _ => n - (intOf s1).toNat)
  case atStart => exact ⟨p, hp, rfl, rfl, Up.refl _⟩
  case round =>
    obtain ⟨q, hq, rfl, hs, hu⟩ := hrel
    have HS : Hid (spn f B p = spn f B q ∧ Up w wr) := ⟨hs, hu⟩
    clear hs hu
    by_cases hlt : q < n
    · have hlt2 : (q : Int) < (n : Int) := by omega
      obtain ⟨b, off, rfl, hcell⟩ := HC.out wr HS.out.2 q hlt
      have ei : IntKind.i64.wrap ((q : Int) + 1) = ((q + 1 : Nat) : Int) := by rw [IntKind.wrap_i64]; omega
      have HQ : Hid (q < B.length) := by have := HN.out; unfold Hid; omega
      have HF : Hid (∀ y, y = f (B.getD q 0) → (y = true → spn f B q = spn f B (q + 1)) ∧ (y = false → spn f B q = q)) := fun y hy => ⟨fun h => spn_more HQ.out (by rw [← hy]; exact h), fun h => spn_stop HQ.out (by rw [← hy]; exact h)⟩
      have HA2 : Hid (Calls Tryz.prog k (fst.push (.int .u8 (B.getD q 0)) ++ cap) wr fun e W' => e = .returned (.bool (f (B.getD q 0))) ∧ Up wr W') := HA.out wr _ HS.out.2
      generalize hcv : B.getD q 0 = c9 at *
      clear hcv
      go_wp2_with fail
      refine Calls.mono HA2.out ?_
      rintro r W1 ⟨rfl, u⟩
      obtain ⟨y, hy⟩ : ∃ y, y = f c9 := ⟨_, rfl⟩
      have HY := HF.out y hy
      rw [← hy]
      have HS : Hid (spn f B p = spn f B q ∧ Up w W1) := ⟨HS.out.1, HS.out.2.trans u⟩
      clear hy u hcell HA2 HF
      cases y with
      | true =>
        have HY2 : Hid (spn f B q = spn f B (q + 1)) := HY.1 rfl
        clear HY
        go_wp2_with fail
        go_roundw
        case rel => exact ⟨q + 1, by omega, by go_num, by rw [HS.out.1, HY2.out], HS.out.2⟩
        case measure => simp [intOf]; omega
      | false =>
        have HY2 : Hid (spn f B q = q) := HY.2 rfl
        clear HY
        go_wp2_with fail
        rw [HPo.out]
        exact ⟨by rw [HS.out.1, HY2.out] <;> rfl, HS.out.2⟩
    · have hlt2 : ¬ (q : Int) < (n : Int) := by omega
      have HY2 : Hid (spn f B q = q) := spn_end (by have := HN.out; omega)
      go_wp2_with fail
      rw [HPo.out]
      exact ⟨by rw [HS.out.1, HY2.out] <;> rfl, HS.out.2⟩
end TK
end Go.Proofs.YtkldllnnocdhbaaGreatDoor
namespace Go.Proofs.YtkldllnnocdhbaaGreatDoor
open Go.RowKit
namespace TK
theorem wpList_world {P : Program} {ops : Array Oper} {rest : List Oper} {a : Act} {w : World} {Q : Exit → Act → World → Prop} {W : World} (h : w = W) (k : wpList P ops Q rest a W) : wpList P ops Q rest a w := by subst h; exact k
/- a load behind a guard that says yes -/
theorem calls_world {P : Program} {f : FuncId} {args : Array Value} {a b : World} {R : Ending → World → Prop} (h : a = b) (c : Calls P f args b R) : Calls P f args a R := by rw [h]; exact c
theorem setRow_heap (w : World) (g : Nat) (old : Array Value) (t : TypeId) (fr : Nat × Nat) (C : Array Value) (h : w.heap[g]? = some (.cells old t fr)) : (w.setRow g C).heap[g]? = some (.cells C t fr) := by
  simp only [World.setRow, Array.getElem?_modify]
  rw [if_pos trivial, h]
  rfl
theorem setRow_other (w : World) (g k : Nat) (C : Array Value) (h : k ≠ g) : (w.setRow g C).heap[k]? = w.heap[k]? := by
  simp only [World.setRow, Array.getElem?_modify]
  rw [if_neg (fun e => h e.symm)]
theorem wpList_load_rowG {P : Program} {ops : Array Oper} {rest : List Oper} {o : Oper} {a : Act} {w : World} {Q : Exit → Act → World → Prop} (hw : Region.wanted o (yielded ops a.tmps) = true) (ty : TypeId) (x : Operand) (ho : o.op = .load ty x)
    (g : Nat) (hx : a.eval x = .pointer (some ⟨g, 0, none⟩)) (t : TypeId) (cs : Array Value) (fr : Nat × Nat) (d : TypeDesc) (hg : w.heap[g]? = some (.cells cs t fr))
    (hu : P.underlying ty = some d) (hd : (match d with | .struct _ | .array _ _ => true | _ => false) = true) (hi : (P.info? ty).map (·.size) = some cs.size)
    (h : wpList P ops Q rest (a.put o.dst (.agg cs)) w) : wpList P ops Q (o :: rest) a w := by
  unfold wpList
  rw [if_pos hw]
  exact Or.inl (wp_load_row ty x ho g hx t cs fr d hg hu hd hi h)
theorem up_setRow {w W : World} {g : Nat} (h : Up w W) (hg : w.heap.size ≤ g) (C : Array Value) : Up w (W.setRow g C) := by
  refine ⟨h.os, h.tape, h.output, by have := h.size; simpa [World.setRow] using this, fun k hk => ?_⟩
  rw [← h.block k hk]
  simp only [World.setRow, Array.getElem?_modify]
  rw [if_neg (by omega)]
theorem row_setRow {w : World} {base e s n g : Nat} {v : Value} {xs : List Value} {old C : Array Value} {t : TypeId} {fr : Nat × Nat} (h : w.ownsRow base e s v n xs) (hg : w.heap[g]? = some (.cells old t fr)) (ht : e ≠ t) : (w.setRow g C).ownsRow base e s v n xs := by
  refine ⟨h.1, ?_⟩
  rcases h.2 with h0 | ⟨g', cap, cur, e1, e2, e3, e4⟩
  · exact .inl h0
  · refine .inr ⟨g', cap, cur, e1, e2, ?_, e4⟩
    rw [setRow_other]
    · exact e3
    · rintro rfl
      rw [e3] at hg
      simp only [Option.some.injEq, Obj.cells.injEq] at hg
      exact ht hg.2.1
theorem res_c2 {P : Program} {fn : Func} {p q r : Tmp} {ty : TypeId} (h : fn.results = #[.cell p ty, .tmp q, .tmp r]) (tmps : Array Value) (w : World) (g : Nat) (t : TypeId) (cs : Array Value) (fr : Nat × Nat) (d : TypeDesc) (x y : Value)
    (hp : tmps.getD p undef = .pointer (some ⟨g, 0, none⟩)) (hq : tmps.getD q undef = x) (hr : tmps.getD r undef = y) (hg : w.heap[g]? = some (.cells cs t fr))
    (hu : P.underlying ty = some d) (hd : (match d with | .struct _ | .array _ _ => true | _ => false) = true) (hi : (P.info? ty).map (·.size) = some cs.size) :
    (results fn tmps).run P w = .ok (.tuple #[.agg cs, x, y]) w := by
  have hp' : tmps[p]?.getD undef = .pointer (some ⟨g, 0, none⟩) := by simpa using hp
  have hq' : tmps[q]?.getD undef = x := by simpa using hq
  have hr' : tmps[r]?.getD undef = y := by simpa using hr
  simp [results, h, hp', hq', hr', asAddr, run_loadVar_row w g t ty cs fr d hg hu hd hi]
def tz : Array Value := #[.int .i8 0, .string ⟨#[]⟩, .int .i64 0, .int .i64 0]
def tA (k : Int) (s : List Int) (n : Int) : Array Value := #[.int .i8 k, sv s, .int .i64 n, .int .i64 0]
theorem tz_one : tz.all (·.oneCell') = true := by simp [tz, Value.oneCell']
theorem tA_one (k : Int) (s : List Int) (n : Int) : (tA k s n).all (·.oneCell') = true := by simp [tA, sv, Value.oneCell']
theorem infoTs : (Tryz.prog.info? 45).map (·.size) = some 4 := by kernel_rfl
/- a token without its place, and the place behind it; or the place of the fault -/
def TkA (w : World) (A : Array Value) (q : Nat) (ok : Bool) (e : Ending) (w' : World) : Prop := e = .returned (.tuple #[.agg A, .int .i64 q, .bool ok]) ∧ Up w w'
def TkP (w : World) (s : Stp) (e : Ending) (w' : World) : Prop := match s with
  | .tok t q => TkA w (tA t.kind t.text t.num) q true e w'
  | .bad q => TkA w tz q false e w'
  | .skip _ => False
end TK
end Go.Proofs.YtkldllnnocdhbaaGreatDoor
