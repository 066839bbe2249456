/-
  A region that draws its order: its first operation may be a copy that may come up at any time, the others up to the n-th are quiet, and those from the n-th on wait for them, one behind the other: one walk of the lexical order, and the tail behind it.
-/
import Derived.Test.YtpmdlpjedapbbaaGreatDoorBaseToLc
import Derived.Test.YtpmdlpjedapbbaaGreatDoorEqToIz7
import Derived.Deep.WholeRow
import Derived.Laws.ResultCell
namespace Go.Proofs.YtpmdlpjedapbbaaGreatDoor
open Go

namespace TailR
section
variable {P : Program} {ops : Array Oper} {md : Region.Mode} {C : World → Prop}
def edgeB (md : Region.Mode) (ops : Array Oper) (j i : Nat) : Bool := ((ops[j]?).map fun o => o.after.any fun e => Region.binds md e && e.on == i).getD false
def depsP (md : Region.Mode) (ops : Array Oper) (listed : Array Bool) (j : Nat) : Prop := ∀ o, ops[j]? = some o → ∀ e ∈ o.after, Region.binds md e = true → listed.getD e.on false = true
def closedP (md : Region.Mode) (ops : Array Oper) (listed : Array Bool) : Prop := ∀ j, listed.getD j false = true → depsP md ops listed j
theorem edge_listed {listed : Array Bool} {j i : Nat} (h : depsP md ops listed j) (he : edgeB md ops j i = true) : listed.getD i false = true := by
  unfold edgeB at he
  cases ho : ops[j]? with
  | none => rw [ho] at he; cases he
  | some o =>
    rw [ho] at he
    simp only [Option.map_some, Option.getD_some] at he
    obtain ⟨e, he, hb⟩ := Array.any_eq_true'.1 he
    simp only [Bool.and_eq_true, beq_iff_eq] at hb
    have := h o ho e he hb.1
    rw [hb.2] at this
    exact this
theorem closed_set {listed : Array Bool} {i : Nat} (h : closedP md ops listed) (hr : i ∈ Region.ready md ops listed) : closedP md ops (listed.setIfInBounds i true) := by
  intro j hj o ho e he hb
  by_cases hji : i = j
  · subst hji
    obtain ⟨_, o', ho', hall⟩ := mem_ready.1 hr
    rw [ho] at ho'
    cases ho'
    exact getD_set_true (hall e he hb)
  · rw [getD_set_ne false hji] at hj
    exact getD_set_true (h j hj o ho e he hb)
def waitsB (md : Region.Mode) (ops : Array Oper) (k0 n : Nat) : Bool := ((List.range n).all fun i => decide (i < k0) || (List.range (n + 1)).any fun j => decide (i < j) && edgeB md ops j i) && (List.range ops.size).all fun t => decide (t ≤ n) || edgeB md ops t (t - 1)
theorem down {k0 n : Nat} (hW : waitsB md ops k0 n = true) {listed : Array Bool} (hc : closedP md ops listed) (hd : depsP md ops listed n) : ∀ d i, n - i ≤ d → k0 ≤ i → i < n → listed.getD i false = true := by
  simp only [waitsB, Bool.and_eq_true] at hW
  intro d
  induction d with
  | zero => intro i h1 h2 h3; omega
  | succ d ih =>
    intro i h1 h2 h3
    have h4 := List.all_eq_true.1 hW.1 i (List.mem_range.2 h3)
    simp only [Bool.or_eq_true, decide_eq_true_eq] at h4
    rcases h4 with h4 | h4
    · omega
    · obtain ⟨j, hj, h5⟩ := List.any_eq_true.1 h4
      simp only [Bool.and_eq_true, decide_eq_true_eq] at h5
      rw [List.mem_range] at hj
      by_cases e : j = n
      · subst e; exact edge_listed hd h5.2
      · exact edge_listed (hc j (ih j (by omega) (by omega) (by omega))) h5.2
theorem tail_down {k0 n : Nat} (hW : waitsB md ops k0 n = true) {listed : Array Bool} (hc : closedP md ops listed) : ∀ d t, t = n + d → t < ops.size → depsP md ops listed t → depsP md ops listed n := by
  intro d
  induction d with
  | zero => intro t h1 _ h2; rw [h1] at h2; exact h2
  | succ d ih =>
    intro t h1 h2 h3
    simp only [waitsB, Bool.and_eq_true] at hW
    have h4 := List.all_eq_true.1 hW.2 t (List.mem_range.2 h2)
    simp only [Bool.or_eq_true, decide_eq_true_eq] at h4
    rcases h4 with h4 | h4
    · omega
    · exact ih (t - 1) (by omega) (by omega) (hc (t - 1) (edge_listed h3 h4))
/- while one of the quiet ones is not listed, none of the tail may come up -/
theorem no_tail {k0 n : Nat} (hW : waitsB md ops k0 n = true) {listed : Array Bool} (hc : closedP md ops listed) (h0 : ∀ k, k < k0 → listed.getD k true = true) {i j : Nat} (hi : i ∈ Region.ready md ops listed) (hin : i < n) (hj : j ∈ Region.ready md ops listed) : j < n := by
  rcases Nat.lt_or_ge j n with h | h
  · exact h
  · exfalso
    obtain ⟨_, o, ho, hall⟩ := mem_ready.1 hj
    have hlt : j < ops.size := (Array.getElem?_eq_some_iff.1 ho).1
    have hd : depsP md ops listed j := fun o' ho' e he hb => by
      rw [ho] at ho'
      cases ho'
      exact hall e he hb
    have hdn := tail_down hW hc (j - n) j (by omega) hlt hd
    have hun := (mem_ready.1 hi).1
    by_cases e : i < k0
    · rw [h0 i e] at hun; cases hun
    · have := down hW hc hdn (n - i) i (Nat.le_refl _) (by omega) hin
      rcases Nat.lt_or_ge i listed.size with h' | h'
      · simp [h'] at this hun; rw [this] at hun; cases hun
      · simp [Array.getElem?_eq_none h'] at this
def wpAnyU (P : Program) (md : Region.Mode) (ops : Array Oper) (n : Nat) (C : World → Prop) (R : Array Bool → Act → Prop) : Nat → Array Bool → Act → Prop
  | 0, listed, a => (∀ i ∈ Region.ready md ops listed, n ≤ i) ∧ R listed a
  | fuel + 1, listed, a => (∃ i, i ∈ Region.ready md ops listed ∧ i < n) ∧ ∀ i ∈ Region.ready md ops listed, i < n → qOp P ops C i (wpAnyU P md ops n C R fuel (listed.setIfInBounds i true)) a
theorem wpAnyU_first {n : Nat} {R : Array Bool → Act → Prop} {i : Nat} (hin : i < n) {oi : Oper} {v : Value} (hi : ops[i]? = some oi) (hsel : ∀ (j : Nat) (o : Oper) cs b, ops[j]? = some o → o.op ≠ .select cs b) :
    ∀ (fuel : Nat) (listed : Array Bool) (a : Act),
      (∀ j oj, ops[j]? = some oj → j ≠ i → listed.getD j true = false → (∀ e ∈ oj.after, Region.binds md e = true → e.on ≠ i) → oi.apart ops oj = true) →
      i ∈ Region.ready md ops listed → YieldsIn P ops C oi v a →
      wpAnyU P md ops n C R fuel (listed.setIfInBounds i true) (a.put oi.dst v) → wpAnyU P md ops n C R (fuel + 1) listed a := by
  intro fuel
  induction fuel with
  | zero =>
    intro listed a _ hr hy H
    refine ⟨⟨i, hr, hin⟩, fun j hj hjn => ?_⟩
    by_cases hji : j = i
    · subst hji; exact hy.qOp hi H
    · have := H.1 j (ready_mono hj hji)
      omega
  | succ fuel ih =>
    intro listed a hfree hr hy H
    refine ⟨⟨i, hr, hin⟩, fun j hj hjn => ?_⟩
    by_cases hji : j = i
    · subst hji; exact hy.qOp hi H
    · have h1 := H.2 j (ready_mono hj hji) hjn
      obtain ⟨hjun, oj, hoj, hall⟩ := mem_ready.1 hj
      have hnot : ∀ e ∈ oj.after, Region.binds md e = true → e.on ≠ i := fun e he hb heq => by
        have h1 := hall e he hb
        have h0 := (mem_ready.1 hr).1
        rw [heq] at h1
        rcases Nat.lt_or_ge i listed.size with h' | h'
        · simp [h'] at h0 h1; rw [h0] at h1; cases h1
        · simp [Array.getElem?_eq_none h'] at h1
      have h2 := qOp_put hoj (hfree j oj hoj hji hjun hnot) (fun cs b => hsel i oi cs b hi) (fun cs b => hsel j oj cs b hoj) hy h1
      have hfree' : ∀ k ok, ops[k]? = some ok → k ≠ i → (listed.setIfInBounds j true).getD k true = false →
          (∀ e ∈ ok.after, Region.binds md e = true → e.on ≠ i) → oi.apart ops ok = true := fun k ok hk hki hun hno => by
        refine hfree k ok hk hki ?_ hno
        by_cases hjk : j = k
        · subst hjk; exact hjun
        · rw [getD_set_ne true hjk] at hun; exact hun
      refine qOp_mono (fun a' h3 => ih (listed.setIfInBounds j true) a' hfree' (ready_mono hr (Ne.symm hji)) h3.1 ?_) h2
      rw [Array.setIfInBounds_comm _ _ hji]
      exact h3.2
def lexU (md : Region.Mode) (ops : Array Oper) (n : Nat) : Nat → Nat → Array Bool → Bool
  | 0, _, listed => (Region.ready md ops listed).all fun i => decide (n ≤ i)
  | fuel + 1, k, listed => (Region.ready md ops listed).contains k && decide (k < n) && Region.free md ops listed k && lexU md ops n fuel (k + 1) (listed.setIfInBounds k true)
def lastU : Nat → Nat → Array Bool → Array Bool
  | 0, _, listed => listed
  | fuel + 1, k, listed => lastU fuel (k + 1) (listed.setIfInBounds k true)
theorem wpAnyU_lex {n : Nat} {R : Act → Prop} (hs : Region.noSelect ops = true) : ∀ (l : List Oper) (k : Nat) (listed : Array Bool) (a : Act), (∀ j o, l[j]? = some o → ops[k + j]? = some o) →
    lexU md ops n l.length k listed = true → wpQuiet P ops C R l a → wpAnyU P md ops n C (fun L a => L = lastU l.length k listed ∧ R a) l.length listed a
  | [], _, _, _, _, hB, h => by
    simp only [List.length_nil, lexU, List.all_eq_true, decide_eq_true_eq] at hB
    exact ⟨hB, rfl, h⟩
  | o :: l, k, listed, a, hl, hB, h => by
    have h0 : ops[k]? = some o := hl 0 o rfl
    simp only [List.length_cons, lexU, Bool.and_eq_true, decide_eq_true_eq] at hB
    obtain ⟨⟨⟨hr, hk⟩, hf⟩, hB'⟩ := hB
    have hst : qOp P ops C k (wpQuiet P ops C R l) a := by unfold qOp; simp only [h0]; exact h
    obtain ⟨v, hy, hK⟩ := yieldsIn_of_qOp h0 hst
    exact wpAnyU_first hk h0 (Region.noSelect_spec hs) l.length listed a (Region.free_spec h0 hf) (by simpa using hr) hy
      (wpAnyU_lex hs l (k + 1) _ _ (fun j o' hj => by have := hl (j + 1) o' (by simpa using hj); simpa [Nat.add_assoc, Nat.add_comm 1 j] using this) hB' hK)
theorem wpAny_of_U {k0 n t : Nat} (hW : waitsB md ops k0 n = true) {Q : Exit → Act → World → Prop} {R : Array Bool → Act → Prop} (hR : ∀ L a w, R L a → C w → wpAny P md ops Q t L a w) : ∀ (fuel : Nat) (listed : Array Bool) (a : Act) (w : World), closedP md ops listed → (∀ k, k < k0 → listed.getD k true = true) → C w →
    wpAnyU P md ops n C R fuel listed a → wpAny P md ops Q (t + fuel) listed a w
  | 0, _, _, _, _, _, hw, ⟨_, h2⟩ => hR _ _ _ h2 hw
  | fuel + 1, listed, a, w, hc, h0, hw, ⟨⟨k, hk, hkn⟩, h3⟩ => by
    refine ⟨fun e => (by rw [e] at hk; cases hk), fun i hi => ?_⟩
    have hin := no_tail hW hc h0 hk hkn hi
    refine wpOp_of_qOp hw (fun a' w' hw' h => wpAny_of_U hW hR fuel _ a' w' (closed_set hc hi) ?_ hw' h) (h3 i hi hin)
    intro k hk
    by_cases e : i = k
    · subst e
      have := (mem_ready.1 hi).1
      rw [h0 i hk] at this; cases this
    · rw [getD_set_ne true e]; exact h0 k hk
def tailB (md : Region.Mode) (ops : Array Oper) : Nat → Nat → Array Bool → Bool
  | 0, _, listed => (Region.ready md ops listed).isEmpty
  | t + 1, k, listed => (Region.ready md ops listed == [k]) && tailB md ops t (k + 1) (listed.setIfInBounds k true)
theorem wpAny_tail {Q : Exit → Act → World → Prop} : ∀ (l : List Oper) (k : Nat) (listed : Array Bool) (a : Act) (w : World), (∀ j o, l[j]? = some o → ops[k + j]? = some o) → tailB md ops l.length k listed = true → wpList P ops Q l a w → wpAny P md ops Q l.length listed a w
  | [], _, listed, a, w, _, hB, h => by
    simp only [List.length_nil, tailB, List.isEmpty_iff] at hB
    exact ⟨hB, h⟩
  | o :: l, k, listed, a, w, hl, hB, h => by
    have h0 : ops[k]? = some o := hl 0 o rfl
    simp only [List.length_cons, tailB, Bool.and_eq_true, beq_iff_eq] at hB
    refine ⟨fun e => (by rw [hB.1] at e; cases e), fun i hi => ?_⟩
    rw [hB.1] at hi
    simp at hi
    subst hi
    have hh : wpOp P ops Q i (wpList P ops Q l) a w := by unfold wpOp; simp only [h0]; exact h
    exact wpOp_mono (fun a' w' h' => wpAny_tail l (i + 1) _ a' w' (fun j o' hj => by have := hl (j + 1) o' (by simpa using hj); simpa [Nat.add_assoc, Nat.add_comm 1 j] using this) hB.2 h') hh
def allB (md : Region.Mode) (ops : Array Oper) (n : Nat) : Bool :=
  Region.noSelect ops && waitsB md ops 1 n && Region.free md ops (Array.replicate ops.size false) 0 && (Region.ready md ops (Array.replicate ops.size false)).contains 0 &&
  lexU md ops n (n - 1) 1 ((Array.replicate ops.size false).setIfInBounds 0 true) && tailB md ops (ops.size - n) n (lastU (n - 1) 1 ((Array.replicate ops.size false).setIfInBounds 0 true)) && decide (1 ≤ n) && decide (n ≤ ops.size)
end
theorem rep_false (N j : Nat) : (Array.replicate N false).getD j false = false := by
  rw [Array.getD_eq_getD_getElem?, Array.getElem?_replicate]
  split <;> rfl
theorem wp_region_tail {P : Program} {id : Nat} {Q : Exit → Act → World → Prop} {a : Act} {w : World} {o : Oper} {l : List Oper} (n : Nat) (v : Value) (hm : P.follows .mixedOrders = true) (hB : allB .any (o :: l).toArray (n + 1) = true)
    (hQ : ∀ c a w, Q (.panic c) (a.put o.dst v) w → Q (.panic c) a w) (hy : Yields P (o :: l).toArray o v a)
    (h : wpQuiet P (o :: l).toArray (fun w' => ∃ n, w' = w.drewN n) (fun a' => ∀ w', (∃ n, w' = w.drewN n) → wpList P (o :: l).toArray Q (l.drop n) a' w') (l.take n) (a.put o.dst v)) : (Code.region id (o :: l).toArray true).wp P Q a w := by
  simp only [allB, Bool.and_eq_true, decide_eq_true_eq] at hB
  obtain ⟨⟨⟨⟨⟨⟨⟨hs, hW⟩, hf⟩, hr⟩, hL⟩, hT⟩, -⟩, hn⟩ := hB
  have hsz : (o :: l).toArray.size = l.length + 1 := by simp
  rw [hsz] at hn hL hT hf hr
  have hl : (l.take n).length = n := by simp; omega
  have hd : (l.drop n).length = l.length + 1 - (n + 1) := by simp
  rw [show n + 1 - 1 = n by omega] at hL hT
  refine wp_region_any hm ?_
  rw [hsz]
  refine wpAny_take (i := 0) (v := v) rfl hs hf hr hQ hy ?_
  have key := wpAnyU_lex (P := P) (md := .any) (C := fun w' => ∃ n, w' = w.drewN n) (n := n + 1) (R := fun a' => ∀ w', (∃ n, w' = w.drewN n) → wpList P (o :: l).toArray Q (l.drop n) a' w') hs (l.take n) 1 ((Array.replicate (l.length + 1) false).setIfInBounds 0 true) (a.put o.dst v)
    (fun j o' hj => by
      rw [List.getElem?_take] at hj
      split at hj
      · rw [Nat.add_comm 1 j]; simpa using hj
      · cases hj)
    (by rw [hl]; exact hL) h
  rw [hl] at key
  rw [show l.length = (l.drop n).length + n by rw [hd]; omega]
  refine wpAny_of_U (C := fun w' => ∃ n, w' = w.drewN n) (t := (l.drop n).length) hW (fun L a' w' hRL hw' => ?_) n _ _ _ ?_ ?_ ⟨1, rfl⟩ (by rw [show (l.drop n).length + n = l.length by rw [hd]; omega]; exact key)
  · obtain ⟨rfl, hRL⟩ := hRL
    exact wpAny_tail (l.drop n) (n + 1) _ a' w' (fun j o' hj => by
      rw [List.getElem?_drop] at hj
      rw [show n + 1 + j = n + j + 1 by omega]
      simpa using hj) (by rw [hd]; exact hT) (hRL w' hw')
  · intro j hj o' ho' e he hb
    exfalso
    by_cases e0 : (0 : Nat) = j
    · subst e0
      have ho2 : o' = o := by simpa using ho'.symm
      subst ho2
      obtain ⟨_, o2, ho2, hall⟩ := mem_ready.1 (show 0 ∈ Region.ready .any (o' :: l).toArray (Array.replicate (l.length + 1) false) by simpa using hr)
      have : o2 = o' := by simpa using ho2.symm
      subst this
      have h9 := hall e he hb
      rcases Nat.lt_or_ge e.on (l.length + 1) with h' | h'
      · simp [h'] at h9
      · simp [h'] at h9
    · rw [getD_set_ne false e0] at hj
      rw [rep_false] at hj
      cases hj
  · intro k hk
    rw [show k = 0 by omega]
    simp
theorem wp_region_tail' {P : Program} {id : Nat} {Q : Exit → Act → World → Prop} {a : Act} {w : World} {o : Oper} {l : List Oper} (n : Nat) (x : Operand) (ho : o.op = .move x) (hg : o.guard = none) (hm : P.follows .mixedOrders = true) (hB : allB .any (o :: l).toArray (n + 1) = true)
    (hQ : ∀ c a v w, Q (.panic c) (a.put o.dst v) w → Q (.panic c) a w)
    (h : wpQuiet P (o :: l).toArray (fun w' => ∃ n, w' = w.drewN n) (fun a' => ∀ w', (∃ n, w' = w.drewN n) → wpList P (o :: l).toArray Q (l.drop n) a' w') (o :: l.take n) a) : (Code.region id (o :: l).toArray true).wp P Q a w := by
  have hw : Region.wanted o (yielded (o :: l).toArray a.tmps) = true := by simp [Region.wanted, hg]
  have hy : Yields P (o :: l).toArray o (a.eval x) a := .inl ⟨hw, fun w => by simp [execOp, ho]⟩
  unfold wpQuiet at h
  rw [if_pos hw] at h
  obtain ⟨v, hq, hn⟩ := h
  have hv : a.eval x = v := by
    have := hq (w.drewN 1) ⟨1, rfl⟩
    simp [Oper.quietAt, execOp, ho, Oper.quietUpon] at this
    exact this
  rw [← hv] at hn
  exact wp_region_tail n (a.eval x) hm hB (fun c a' w' => hQ c a' _ w') hy hn
def allB0 (md : Region.Mode) (ops : Array Oper) (n : Nat) : Bool :=
  Region.noSelect ops && waitsB md ops 0 n && lexU md ops n n 0 (Array.replicate ops.size false) && tailB md ops (ops.size - n) n (lastU n 0 (Array.replicate ops.size false)) && decide (n ≤ ops.size)
theorem wp_region_seq {P : Program} {id : Nat} {Q : Exit → Act → World → Prop} {a : Act} {w : World} {l : List Oper} (n : Nat) (hm : P.follows .mixedOrders = true) (hB : allB0 .any l.toArray n = true)
    (h : wpQuiet P l.toArray (fun w' => ∃ n, w' = w.drewN n) (fun a' => ∀ w', (∃ n, w' = w.drewN n) → wpList P l.toArray Q (l.drop n) a' w') (l.take n) a) : (Code.region id l.toArray true).wp P Q a w := by
  simp only [allB0, Bool.and_eq_true, decide_eq_true_eq] at hB
  obtain ⟨⟨⟨⟨hs, hW⟩, hL⟩, hT⟩, hn⟩ := hB
  have hsz : l.toArray.size = l.length := by simp
  rw [hsz] at hn hL hT
  have hl : (l.take n).length = n := by simp; omega
  have hd : (l.drop n).length = l.length - n := by simp
  refine wp_region_any hm ?_
  rw [hsz]
  have key := wpAnyU_lex (P := P) (md := .any) (C := fun w' => ∃ n, w' = w.drewN n) (n := n) (R := fun a' => ∀ w', (∃ n, w' = w.drewN n) → wpList P l.toArray Q (l.drop n) a' w') hs (l.take n) 0 (Array.replicate l.length false) a
    (fun j o' hj => by
      rw [List.getElem?_take] at hj
      split at hj
      · rw [Nat.zero_add]; simpa using hj
      · cases hj)
    (by rw [hl]; exact hL) h
  rw [hl] at key
  rw [show l.length = (l.drop n).length + n by rw [hd]; omega]
  refine wpAny_of_U (C := fun w' => ∃ n, w' = w.drewN n) (t := (l.drop n).length) hW (fun L a' w' hRL hw' => ?_) n _ _ _ ?_ (fun k hk => by omega) ⟨1, rfl⟩ (by rw [show (l.drop n).length + n = l.length by rw [hd]; omega]; exact key)
  · obtain ⟨rfl, hRL⟩ := hRL
    exact wpAny_tail (l.drop n) n _ a' w' (fun j o' hj => by
      rw [List.getElem?_drop] at hj
      simpa using hj) (by rw [hd]; exact hT) (hRL w' hw')
  · intro j hj o' ho' e he hb
    rw [rep_false] at hj
    cases hj
end TailR
end Go.Proofs.YtpmdlpjedapbbaaGreatDoor
/-
  The same law for whatever class of worlds; the worlds behind one world.
-/
namespace Go.Proofs.YtpmdlpjedapbbaaGreatDoor
open Go

/- a world behind w -/
structure UW (w : World) where
  W : World
  up : Up w W
namespace TailR
theorem wp_region_seqC {P : Program} {id : Nat} {Q : Exit → Act → World → Prop} {a : Act} {w : World} {l : List Oper} (n : Nat) (C : World → Prop) (hC : C (w.drewN 1)) (hm : P.follows .mixedOrders = true) (hB : allB0 .any l.toArray n = true)
    (h : wpQuiet P l.toArray C (fun a' => ∀ w', C w' → wpList P l.toArray Q (l.drop n) a' w') (l.take n) a) : (Code.region id l.toArray true).wp P Q a w := by
  simp only [allB0, Bool.and_eq_true, decide_eq_true_eq] at hB
  obtain ⟨⟨⟨⟨hs, hW⟩, hL⟩, hT⟩, hn⟩ := hB
  have hsz : l.toArray.size = l.length := by simp
  rw [hsz] at hn hL hT
  have hl : (l.take n).length = n := by simp; omega
  have hd : (l.drop n).length = l.length - n := by simp
  refine wp_region_any hm ?_
  rw [hsz]
  have key := wpAnyU_lex (P := P) (md := .any) (C := C) (n := n) (R := fun a' => ∀ w', C w' → wpList P l.toArray Q (l.drop n) a' w') hs (l.take n) 0 (Array.replicate l.length false) a
    (fun j o' hj => by
      rw [List.getElem?_take] at hj
      split at hj
      · rw [Nat.zero_add]; simpa using hj
      · cases hj)
    (by rw [hl]; exact hL) h
  rw [hl] at key
  rw [show l.length = (l.drop n).length + n by rw [hd]; omega]
  refine wpAny_of_U (C := C) (t := (l.drop n).length) hW (fun L a' w' hRL hw' => ?_) n _ _ _ ?_ (fun k hk => by omega) hC (by rw [show (l.drop n).length + n = l.length by rw [hd]; omega]; exact key)
  · obtain ⟨rfl, hRL⟩ := hRL
    exact wpAny_tail (l.drop n) n _ a' w' (fun j o' hj => by
      rw [List.getElem?_drop] at hj
      simpa using hj) (by rw [hd]; exact hT) (hRL w' hw')
  · intro j hj o' ho' e he hb
    rw [rep_false] at hj
    cases hj
end TailR
end Go.Proofs.YtpmdlpjedapbbaaGreatDoor
/-
  Encode: a number written behind what was written.
-/
namespace Go.Proofs.YtpmdlpjedapbbaaGreatDoor
open Go.RowKit
attribute [local go_sem ↓] Go.wp_at_zero Go.wp_at_succ

namespace IM
open Go.Proofs.YtpmdlpjedapbbaaGreatDoor.ST
def bvs (l : List Int) : List Value := l.map fun z => .int .u8 z
theorem bvs_len (l : List Int) : (bvs l).length = l.length := by simp [bvs]
theorem bvs_app (l m : List Int) : bvs (l ++ m) = bvs l ++ bvs m := by simp [bvs]
theorem row_keep {W W' : World} {base e s n : Nat} {v : Value} {xs : List Value} (h : W.ownsRow base e s v n xs) (k : ∀ g o, v.ownBlock = some g → W.heap[g]? = some o → W'.heap[g]? = some o) : W'.ownsRow base e s v n xs := by
  refine ⟨h.1, ?_⟩
  rcases h.2 with h0 | ⟨g, cap, cur, e1, e2, e3, e4⟩
  · exact .inl h0
  · exact .inr ⟨g, cap, cur, e1, e2, k _ _ (by rw [e1]; rfl) e3, e4⟩
/- the cell p holds a list of bytes that nobody else has -/
def IsW (base p : Nat) (B : List Int) (W : World) : Prop := base ≤ p ∧ ∃ v, W.heap[p]? = some (.cells #[v] 31 (0, 0)) ∧ W.ownsRow base 5 1 v B.length (bvs B) ∧ v.ownBlock ≠ some p
/- what is no list of bytes, and not the cell p, stays -/
def TK (p : Nat) (w w' : World) : Prop := ∀ g cs t f, w.heap[g]? = some (.cells cs t f) → g ≠ p → t ≠ 5 → w'.heap[g]? = some (.cells cs t f)
theorem TK.refl (p : Nat) (w : World) : TK p w w := fun _ _ _ _ h _ _ => h
theorem TK.trans {p : Nat} {a b c : World} (h : TK p a b) (k : TK p b c) : TK p a c := fun g cs t f hg hp ht => k g cs t f (h g cs t f hg hp ht) hp ht
theorem TK.of_up {p : Nat} {a b : World} (h : Up a b) : TK p a b := fun _ _ _ _ hg _ _ => h.heap hg
theorem infoByte : (Tryz.prog.info? 5).map (fun i => (i.zero, i.size, i.bytes)) = some (some (.int .u8 0), 1, 1) := by kernel_rfl
theorem info4 : (Tryz.prog.info? 104).map (·.size) = some 4 := by kernel_rfl
theorem w24 (n : Int) : IntKind.u8.wrap (n / 16777216) = n / 16777216 % 256 := by rw [IntKind.wrap_u8']
theorem w16 (n : Int) : IntKind.u8.wrap (n / 65536) = n / 65536 % 256 := by rw [IntKind.wrap_u8']
theorem w8 (n : Int) : IntKind.u8.wrap (n / 256) = n / 256 % 256 := by rw [IntKind.wrap_u8']
theorem w0 (n : Int) : IntKind.u8.wrap n = n % 256 := by rw [IntKind.wrap_u8']
/- an append to a row that is full: a new row -/
theorem wpList_append_full {P : Program} {w : World} {ops : Array Oper} {rest : List Oper} {o : Oper} {a : Act} {Q : Exit → Act → World → Prop} (hgd : o.guard = none) (s x : Operand) (t : TypeId)
    (ho : o.op = .call { callee := .builtin .append, args := #[s, x], argTypes := #[t, t] })
    (base : Nat) (e : TypeId) (i : TypeInfo) (z : Value) (size bytes : Nat) (ht : P.underlying t = some (.slice e)) (hi : P.info? e = some i) (hz : i.zero = some z)
    (hsize : i.size = size) (hby : i.bytes = bytes) (hzs : z.cells.size = size) (g n : Nat) (xs : List Value) (hs : a.eval s = .slice (some ⟨g, 0, none⟩) n n) (hxl : xs.length = n * size)
    (hold : ∀ j u, xs[j]? = some u → w.cell? ((⟨g, 0, none⟩ : Addr).add j) = some u) (ad : Addr) (m c : Nat) (news : List Value) (hx : a.eval x = .slice (some ad) m c) (hl : news.length = m * size)
    (hnews : ∀ j u, news[j]? = some u → w.cell? (ad.add j) = some u) (hm : 0 < m) (h63 : n + m ≤ maxLen) (hbytes : (n + m) * bytes ≤ 140737488355328) (hbase : base ≤ w.heap.size)
    (h : ∀ v' w', w'.ownsRow base e size v' (n + m) (xs ++ news) → w.grownBy w' none → wpList P ops Q rest (a.put o.dst v') w') : wpList P ops Q (o :: rest) a w := by
  refine wpList_plain hgd fun K hK => ?_
  subst hsize
  subst hby
  have hlen : (xs ++ news).length = (n + m) * i.size := by rw [List.length_append, hxl, hl, Nat.add_mul]
  have hsmall : n + m ≤ 9223372036854775807 := by simp only [maxLen] at h63; omega
  have hr := run_append_grow (P := P) w t o.type e i z ht hi hz ⟨g, 0, none⟩ n n xs hxl hold ad m c news hl hnews (by omega) (by omega) (growslice_fits (by omega) hbytes)
  have hge := grownCap_ge w (n + m) n e
  have hcm : grownCap w (n + m) n e ≤ maxLen := grownCap_le_maxLen w (n + m) n e h63
  unfold Oper.wp execOp
  simp only [ho, resolve, invoke, builtin, Sem.run_bind, Sem.run_pure, Result.andThen_ok, List.map_toArray, List.map_cons, List.map_nil, hs, hx, hr]
  refine hK _ _ (h _ _ ⟨hlen, .inr ⟨w.heap.size, _, _, rfl, hbase, heap_alloc_new w.drew _, hge, hcm, ?_, ?_⟩⟩ ⟨rfl, rfl, rfl, by simp, fun k hk _ => Go.heap_alloc_old w.drew _ hk⟩)
  · simp only [Array.size_append, List.size_toArray, size_zeroCells, hzs, hxl, hl, ← Nat.add_mul]
    congr 1
    omega
  · simp only [Array.toList_append, List.append_assoc]
    rw [← List.append_assoc, ← hlen]
    exact List.take_left
/- the cell p holds the list that a constant text became -/
def IsM (base p : Nat) (W : World) : Prop := base ≤ p ∧ ∃ g, W.heap[p]? = some (.cells #[.slice (some ⟨g, 0, none⟩) 5 5] 31 (0, 0)) ∧ W.heap[g]? = some (.cells (bvs mk).toArray 5 (5, 6)) ∧ base ≤ g
set_option maxRecDepth 100000 in
set_option maxHeartbeats 2000000 in
theorem write0_ (base p : Nat) (n : Int) (w : World) (h : IsM base p w) (hb : base ≤ w.heap.size) :
    Calls Tryz.prog 73 #[.int .i64 1, .int .i64 n, .pointer (some ⟨p, 0, none⟩)] w fun x w' => x = .returned (.tuple #[]) ∧ IsW base p (mk ++ by1 n) w' ∧ Below base w w' ∧ TK p w w' := by
  obtain ⟨i0, hi, hz0, hz1, hz2⟩ := info_parts infoByte
  obtain ⟨hp, g0, hbk, hg0, hgb⟩ := h
  have hne : g0 ≠ p := fun e => by rw [e, hbk] at hg0; simp at hg0
  obtain ⟨F, hF⟩ : ∃ F : Array Value, F = #[.int .u8 (n / 16777216 % 256), .int .u8 (n / 65536 % 256), .int .u8 (n / 256 % 256), .int .u8 (n % 256)] := ⟨_, rfl⟩
  obtain ⟨W1, hW1⟩ : ∃ W1, w.alloc (.cells F 104) = W1 := ⟨_, rfl⟩
  have hu1 : Up w W1 := by rw [← hW1]; exact (Up.refl _).alloc _
  have hs1 : W1.heap.size = w.heap.size + 1 := by rw [← hW1]; simp
  have hF1 : W1.heap[w.heap.size]? = some (.cells F 104 (0, 0)) := by rw [← hW1]; exact heap_alloc_new _ _
  have hbk1 := hu1.heap hbk
  have hplt : p < w.heap.size := (Array.getElem?_eq_some_iff.1 hbk).1
  have HO : Hid (∀ nq j u, (bvs mk)[j]? = some u → (W1.drewN nq).cell? ((⟨g0, 0, none⟩ : Addr).add j) = some u) := fun nq j u hj => by
    have hh : (W1.drewN nq).heap[g0]? = some (.cells (bvs mk).toArray 5 (5, 6)) := hu1.heap hg0
    rw [Addr.add_mid, Nat.zero_add]
    simp only [World.cell?, hh]
    simpa using hj
  have HFC : Hid (∀ nq j u, (bvs (by1 n))[j]? = some u → (W1.drewN nq).cell? ((⟨w.heap.size, 3, none⟩ : Addr).add j) = some u) := fun nq j u hj => by
    have hh : (W1.drewN nq).heap[w.heap.size]? = some (.cells F 104 (0, 0)) := hF1
    rw [Addr.add_mid]
    simp only [World.cell?, hh]
    have hjl : j < 1 := by
      have := (List.getElem?_eq_some_iff.1 hj).1
      simpa [bvs, by1] using this
    subst hF
    match j, hjl with
    | 0, _ => simpa [bvs, by1] using hj
  have HS : Hid (∀ nq, base ≤ (W1.drewN nq).heap.size) := fun nq => by show base ≤ W1.heap.size; omega
  have HF : Hid (∀ nq v' w2, w2.ownsRow base 5 1 v' (5 + 1) (bvs mk ++ bvs (by1 n)) → (W1.drewN nq).grownBy w2 none → w2.cell? ⟨p, 0, none⟩ = some (.slice (some ⟨g0, 0, none⟩) 5 5) ∧ w2.frozen? ⟨p, 0, none⟩ = false ∧ IsW base p (mk ++ by1 n) (w2.setCell ⟨p, 0, none⟩ v') ∧ Below base w (w2.setCell ⟨p, 0, none⟩ v') ∧ TK p w (w2.setCell ⟨p, 0, none⟩ v')) := fun nq v' w2 h1 hg => by
    have hp2 : w2.heap[p]? = some (.cells #[.slice (some ⟨g0, 0, none⟩) 5 5] 31 (0, 0)) := by
      rw [hg.block p (by show p < W1.heap.size; omega) (fun e => by cases e)]
      exact hbk1
    have hne2 : v'.ownBlock ≠ some p := fun e => by
      rcases h1.2 with ⟨h0, -⟩ | ⟨g, cap, cur, e1, -, e3, -⟩
      · rw [h0] at e; cases e
      · rw [e1] at e
        obtain rfl : g = p := by simpa [Value.ownBlock] using e
        rw [hp2] at e3
        simp at e3
    have hB : Below base w w2 := Below.grown (Below.mono (hu1.drewN nq) hb) hg (by show base ≤ W1.heap.size; omega) (fun k hk => by cases hk)
    refine ⟨by simp [World.cell?, hp2], seven_f hp2 0, ⟨hp, v', ?_, ?_, hne2⟩, hB.setCell (p := ⟨p, 0, none⟩) hp _, fun g cs t f hg9 hgp htu => ?_⟩
    · have := set_cells (W := w2) (j := 0) (x := v') (show w2.heap[p]? = some (.cells [.slice (some ⟨g0, 0, none⟩) 5 5].toArray 31 (0, 0)) from hp2)
      simpa using this
    · rw [bvs_app, List.length_append]
      exact row_keep h1 (fun g o hg ho => by
        have hgp : g ≠ p := fun e => hne2 (by rw [hg, e])
        exact set_other ho hgp)
    · have hg1 := hu1.heap hg9
      have hgl : g < W1.heap.size := (Array.getElem?_eq_some_iff.1 hg1).1
      refine set_other ?_ hgp
      rw [hg.block g hgl (fun e => by cases e)]
      exact hg1
  have c0 : W1.cell? ⟨p, 0, none⟩ = some (.slice (some ⟨g0, 0, none⟩) 5 5) := by simp [World.cell?, hbk1]
  clear hbk hbk1 hg0 hgb hne hF1 hu1 hplt hp
  rw [hF] at hW1
  go_enter Tryz.func73, Tryz.ntmps73
  go_wp2_with fail
  try rw [hW1]
  refine TailR.wp_region_seq 4 (by kernel_rfl) (by kernel_rfl) ?_
  simp only [List.take_succ_cons, List.take_zero, List.drop_succ_cons, List.drop_zero]
  repeat (go_big_quiet_step (fail))
  refine wpQuiet_nil ?_
  intro _ hw'
  obtain ⟨nq, hw''⟩ := hw'
  subst hw''
  go_wp2_with (at_builtin; go_loud (refine wpList_append_full (by rfl) (.tmp 18) (.tmp 21) 31 (by rfl) base 5 i0 _ 1 1 Tryz.underlying31 hi hz0 hz1 hz2 (by rfl) g0 5 (bvs mk) (by rfl) (by rfl) (HO.out nq) ⟨w.heap.size, 3, none⟩ 1 1 (bvs (by1 n)) (by rfl) (by rfl) (HFC.out nq) (by decide) (by unfold maxLen; omega) (by omega) (HS.out nq) ?_; intro v' w2 hin hg1; obtain ⟨d1, d2, d3⟩ := HF.out nq v' w2 hin hg1; have HZ : Hid _ := d3; obtain ⟨va', n', vc', hva⟩ : ∃ a n c, v' = Value.slice a n c := (by rcases hin.2 with ⟨hv, _⟩ | ⟨g, cap, cur, hv, _⟩ <;> exact ⟨_, _, _, hv⟩); subst hva; clear hin hg1 d3))
  go_wp2
  first | exact ⟨rfl, HZ.out⟩ | (go_end0; exact ⟨rfl, HZ.out⟩)
set_option maxRecDepth 100000 in
set_option maxHeartbeats 2000000 in
theorem write1_ (base p : Nat) (B : List Int) (n : Int) (w : World) (h : IsW base p B w) (hlen : B.length ≤ 140000000000000) (hb : base ≤ w.heap.size) :
    Calls Tryz.prog 73 #[.int .i64 1, .int .i64 n, .pointer (some ⟨p, 0, none⟩)] w fun x w' => x = .returned (.tuple #[]) ∧ IsW base p (B ++ by1 n) w' ∧ Below base w w' ∧ TK p w w' := by
  obtain ⟨i0, hi, hz0, hz1, hz2⟩ := info_parts infoByte
  obtain ⟨hp, v, hbk, hown, hne⟩ := h
  obtain ⟨F, hF⟩ : ∃ F : Array Value, F = #[.int .u8 (n / 16777216 % 256), .int .u8 (n / 65536 % 256), .int .u8 (n / 256 % 256), .int .u8 (n % 256)] := ⟨_, rfl⟩
  obtain ⟨W1, hW1⟩ : ∃ W1, w.alloc (.cells F 104) = W1 := ⟨_, rfl⟩
  have hu1 : Up w W1 := by rw [← hW1]; exact (Up.refl _).alloc _
  have hs1 : W1.heap.size = w.heap.size + 1 := by rw [← hW1]; simp
  have hF1 : W1.heap[w.heap.size]? = some (.cells F 104 (0, 0)) := by rw [← hW1]; exact heap_alloc_new _ _
  have hbk1 := hu1.heap hbk
  have hplt : p < w.heap.size := (Array.getElem?_eq_some_iff.1 hbk).1
  have HO : Hid (∀ nq, (W1.drewN nq).ownsRow base 5 1 v B.length (bvs B)) := fun nq => row_up hown (hu1.drewN nq)
  have HFC : Hid (∀ nq j u, (bvs (by1 n))[j]? = some u → (W1.drewN nq).cell? ((⟨w.heap.size, 3, none⟩ : Addr).add j) = some u) := fun nq j u hj => by
    have hh : (W1.drewN nq).heap[w.heap.size]? = some (.cells F 104 (0, 0)) := hF1
    rw [Addr.add_mid]
    simp only [World.cell?, hh]
    have hjl : j < 1 := by
      have := (List.getElem?_eq_some_iff.1 hj).1
      simpa [bvs, by1] using this
    subst hF
    match j, hjl with
    | 0, _ => simpa [bvs, by1] using hj
  have HON : Hid (∀ u ∈ bvs (by1 n), u.oneCell' = true) := fun u hu => by
    simp only [bvs, List.mem_map] at hu
    obtain ⟨z, -, rfl⟩ := hu
    rfl
  have HS : Hid (∀ nq, base ≤ (W1.drewN nq).heap.size) := fun nq => by show base ≤ W1.heap.size; omega
  have HF : Hid (∀ nq v' w2, w2.ownsRow base 5 1 v' (B.length + 1) (bvs B ++ bvs (by1 n)) → (W1.drewN nq).grownBy w2 v.ownBlock → w2.cell? ⟨p, 0, none⟩ = some v ∧ w2.frozen? ⟨p, 0, none⟩ = false ∧ IsW base p (B ++ by1 n) (w2.setCell ⟨p, 0, none⟩ v') ∧ Below base w (w2.setCell ⟨p, 0, none⟩ v') ∧ TK p w (w2.setCell ⟨p, 0, none⟩ v')) := fun nq v' w2 h1 hg => by
    have hp2 : w2.heap[p]? = some (.cells #[v] 31 (0, 0)) := by
      rw [hg.block p (by show p < W1.heap.size; omega) (fun e => hne e.symm)]
      exact hbk1
    have hne2 : v'.ownBlock ≠ some p := fun e => by
      rcases h1.2 with ⟨h0, -⟩ | ⟨g, cap, cur, e1, -, e3, -⟩
      · rw [h0] at e; cases e
      · rw [e1] at e
        obtain rfl : g = p := by simpa [Value.ownBlock] using e
        rw [hp2] at e3
        simp at e3
    have hB : Below base w w2 := Below.grown (Below.mono (hu1.drewN nq) hb) hg (by show base ≤ W1.heap.size; omega) (fun k hk => (hown.lt k hk).1)
    refine ⟨by simp [World.cell?, hp2], seven_f hp2 0, ⟨hp, v', ?_, ?_, hne2⟩, hB.setCell (p := ⟨p, 0, none⟩) hp _, fun g cs t f hg9 hgp htu => ?_⟩
    · have := set_cells (W := w2) (j := 0) (x := v') (show w2.heap[p]? = some (.cells [v].toArray 31 (0, 0)) from hp2)
      simpa using this
    · rw [bvs_app, List.length_append]
      exact row_keep h1 (fun g o hg ho => by
        have hgp : g ≠ p := fun e => hne2 (by rw [hg, e])
        exact set_other ho hgp)
    · have hg1 := hu1.heap hg9
      have hgl : g < W1.heap.size := (Array.getElem?_eq_some_iff.1 hg1).1
      refine set_other ?_ hgp
      rw [hg.block g hgl (fun e => by
        rcases hown.2 with ⟨h0, -⟩ | ⟨g', cap, cur, e1, -, e3, -⟩
        · rw [h0] at e; cases e
        · rw [e1] at e
          obtain rfl : g' = g := by simpa [Value.ownBlock] using e.symm
          rw [hg9] at e3
          simp at e3
          exact htu e3.2.1)]
      exact hg1
  obtain ⟨va, vn, vc, hv⟩ : ∃ a n c, v = .slice a n c := by
    rcases hown.2 with ⟨hv, _⟩ | ⟨g, cap, cur, hv, _⟩
    · exact ⟨_, _, _, hv⟩
    · exact ⟨_, _, _, hv⟩
  have c0 : W1.cell? ⟨p, 0, none⟩ = some v := by simp [World.cell?, hbk1]
  clear hbk hbk1 hown hne hF1 hu1 hplt hp
  subst hv
  rw [hF] at hW1
  go_enter Tryz.func73, Tryz.ntmps73
  go_wp2_with fail
  try rw [hW1]
  refine TailR.wp_region_seq 4 (by kernel_rfl) (by kernel_rfl) ?_
  simp only [List.take_succ_cons, List.take_zero, List.drop_succ_cons, List.drop_zero]
  repeat (go_big_quiet_step (fail))
  refine wpQuiet_nil ?_
  intro _ hw'
  obtain ⟨nq, hw''⟩ := hw'
  subst hw''
  go_wp2_with (at_builtin; go_loud (refine wpList_append_own _ (by rfl) (.tmp 18) (.tmp 21) 31 (by rfl) base 5 i0 _ 1 1 Tryz.underlying31 hi hz0 hz1 hz2 (by rfl) (by decide) (.slice va vn vc) B.length (bvs B) (by rfl) (HO.out nq) ⟨w.heap.size, 3, none⟩ 1 1 (bvs (by1 n)) (by rfl) (by rfl) (HFC.out nq) HON.out (by unfold maxLen; omega) (by omega) (HS.out nq) ?_; intro v' w2 hin hg1 _; obtain ⟨d1, d2, d3⟩ := HF.out nq v' w2 hin hg1; have HZ : Hid _ := d3; obtain ⟨va', n', vc', hva⟩ : ∃ a n c, v' = Value.slice a n c := (by rcases hin.2 with ⟨hv, _⟩ | ⟨g, cap, cur, hv, _⟩ <;> exact ⟨_, _, _, hv⟩); subst hva; clear hin hg1 d3))
  go_wp2
  first | exact ⟨rfl, HZ.out⟩ | (go_end0; exact ⟨rfl, HZ.out⟩)
set_option maxRecDepth 100000 in
set_option maxHeartbeats 2000000 in
theorem write2_ (base p : Nat) (B : List Int) (n : Int) (w : World) (h : IsW base p B w) (hlen : B.length ≤ 140000000000000) (hb : base ≤ w.heap.size) :
    Calls Tryz.prog 73 #[.int .i64 2, .int .i64 n, .pointer (some ⟨p, 0, none⟩)] w fun x w' => x = .returned (.tuple #[]) ∧ IsW base p (B ++ by2 n) w' ∧ Below base w w' ∧ TK p w w' := by
  obtain ⟨i0, hi, hz0, hz1, hz2⟩ := info_parts infoByte
  obtain ⟨hp, v, hbk, hown, hne⟩ := h
  obtain ⟨F, hF⟩ : ∃ F : Array Value, F = #[.int .u8 (n / 16777216 % 256), .int .u8 (n / 65536 % 256), .int .u8 (n / 256 % 256), .int .u8 (n % 256)] := ⟨_, rfl⟩
  obtain ⟨W1, hW1⟩ : ∃ W1, w.alloc (.cells F 104) = W1 := ⟨_, rfl⟩
  have hu1 : Up w W1 := by rw [← hW1]; exact (Up.refl _).alloc _
  have hs1 : W1.heap.size = w.heap.size + 1 := by rw [← hW1]; simp
  have hF1 : W1.heap[w.heap.size]? = some (.cells F 104 (0, 0)) := by rw [← hW1]; exact heap_alloc_new _ _
  have hbk1 := hu1.heap hbk
  have hplt : p < w.heap.size := (Array.getElem?_eq_some_iff.1 hbk).1
  have HO : Hid (∀ nq, (W1.drewN nq).ownsRow base 5 1 v B.length (bvs B)) := fun nq => row_up hown (hu1.drewN nq)
  have HFC : Hid (∀ nq j u, (bvs (by2 n))[j]? = some u → (W1.drewN nq).cell? ((⟨w.heap.size, 2, none⟩ : Addr).add j) = some u) := fun nq j u hj => by
    have hh : (W1.drewN nq).heap[w.heap.size]? = some (.cells F 104 (0, 0)) := hF1
    rw [Addr.add_mid]
    simp only [World.cell?, hh]
    have hjl : j < 2 := by
      have := (List.getElem?_eq_some_iff.1 hj).1
      simpa [bvs, by2] using this
    subst hF
    match j, hjl with
    | 0, _ => simpa [bvs, by2] using hj
    | 1, _ => simpa [bvs, by2] using hj
  have HON : Hid (∀ u ∈ bvs (by2 n), u.oneCell' = true) := fun u hu => by
    simp only [bvs, List.mem_map] at hu
    obtain ⟨z, -, rfl⟩ := hu
    rfl
  have HS : Hid (∀ nq, base ≤ (W1.drewN nq).heap.size) := fun nq => by show base ≤ W1.heap.size; omega
  have HF : Hid (∀ nq v' w2, w2.ownsRow base 5 1 v' (B.length + 2) (bvs B ++ bvs (by2 n)) → (W1.drewN nq).grownBy w2 v.ownBlock → w2.cell? ⟨p, 0, none⟩ = some v ∧ w2.frozen? ⟨p, 0, none⟩ = false ∧ IsW base p (B ++ by2 n) (w2.setCell ⟨p, 0, none⟩ v') ∧ Below base w (w2.setCell ⟨p, 0, none⟩ v') ∧ TK p w (w2.setCell ⟨p, 0, none⟩ v')) := fun nq v' w2 h1 hg => by
    have hp2 : w2.heap[p]? = some (.cells #[v] 31 (0, 0)) := by
      rw [hg.block p (by show p < W1.heap.size; omega) (fun e => hne e.symm)]
      exact hbk1
    have hne2 : v'.ownBlock ≠ some p := fun e => by
      rcases h1.2 with ⟨h0, -⟩ | ⟨g, cap, cur, e1, -, e3, -⟩
      · rw [h0] at e; cases e
      · rw [e1] at e
        obtain rfl : g = p := by simpa [Value.ownBlock] using e
        rw [hp2] at e3
        simp at e3
    have hB : Below base w w2 := Below.grown (Below.mono (hu1.drewN nq) hb) hg (by show base ≤ W1.heap.size; omega) (fun k hk => (hown.lt k hk).1)
    refine ⟨by simp [World.cell?, hp2], seven_f hp2 0, ⟨hp, v', ?_, ?_, hne2⟩, hB.setCell (p := ⟨p, 0, none⟩) hp _, fun g cs t f hg9 hgp htu => ?_⟩
    · have := set_cells (W := w2) (j := 0) (x := v') (show w2.heap[p]? = some (.cells [v].toArray 31 (0, 0)) from hp2)
      simpa using this
    · rw [bvs_app, List.length_append]
      exact row_keep h1 (fun g o hg ho => by
        have hgp : g ≠ p := fun e => hne2 (by rw [hg, e])
        exact set_other ho hgp)
    · have hg1 := hu1.heap hg9
      have hgl : g < W1.heap.size := (Array.getElem?_eq_some_iff.1 hg1).1
      refine set_other ?_ hgp
      rw [hg.block g hgl (fun e => by
        rcases hown.2 with ⟨h0, -⟩ | ⟨g', cap, cur, e1, -, e3, -⟩
        · rw [h0] at e; cases e
        · rw [e1] at e
          obtain rfl : g' = g := by simpa [Value.ownBlock] using e.symm
          rw [hg9] at e3
          simp at e3
          exact htu e3.2.1)]
      exact hg1
  obtain ⟨va, vn, vc, hv⟩ : ∃ a n c, v = .slice a n c := by
    rcases hown.2 with ⟨hv, _⟩ | ⟨g, cap, cur, hv, _⟩
    · exact ⟨_, _, _, hv⟩
    · exact ⟨_, _, _, hv⟩
  have c0 : W1.cell? ⟨p, 0, none⟩ = some v := by simp [World.cell?, hbk1]
  clear hbk hbk1 hown hne hF1 hu1 hplt hp
  subst hv
  rw [hF] at hW1
  go_enter Tryz.func73, Tryz.ntmps73
  go_wp2_with fail
  try rw [hW1]
  refine TailR.wp_region_seq 4 (by kernel_rfl) (by kernel_rfl) ?_
  simp only [List.take_succ_cons, List.take_zero, List.drop_succ_cons, List.drop_zero]
  repeat (go_big_quiet_step (fail))
  refine wpQuiet_nil ?_
  intro _ hw'
  obtain ⟨nq, hw''⟩ := hw'
  subst hw''
  go_wp2_with (at_builtin; go_loud (refine wpList_append_own _ (by rfl) (.tmp 18) (.tmp 21) 31 (by rfl) base 5 i0 _ 1 1 Tryz.underlying31 hi hz0 hz1 hz2 (by rfl) (by decide) (.slice va vn vc) B.length (bvs B) (by rfl) (HO.out nq) ⟨w.heap.size, 2, none⟩ 2 2 (bvs (by2 n)) (by rfl) (by rfl) (HFC.out nq) HON.out (by unfold maxLen; omega) (by omega) (HS.out nq) ?_; intro v' w2 hin hg1 _; obtain ⟨d1, d2, d3⟩ := HF.out nq v' w2 hin hg1; have HZ : Hid _ := d3; obtain ⟨va', n', vc', hva⟩ : ∃ a n c, v' = Value.slice a n c := (by rcases hin.2 with ⟨hv, _⟩ | ⟨g, cap, cur, hv, _⟩ <;> exact ⟨_, _, _, hv⟩); subst hva; clear hin hg1 d3))
  go_wp2
  first | exact ⟨rfl, HZ.out⟩ | (go_end0; exact ⟨rfl, HZ.out⟩)
set_option maxRecDepth 100000 in
set_option maxHeartbeats 2000000 in
theorem write4_ (base p : Nat) (B : List Int) (n : Int) (w : World) (h : IsW base p B w) (hlen : B.length ≤ 140000000000000) (hb : base ≤ w.heap.size) :
    Calls Tryz.prog 73 #[.int .i64 4, .int .i64 n, .pointer (some ⟨p, 0, none⟩)] w fun x w' => x = .returned (.tuple #[]) ∧ IsW base p (B ++ by4 n) w' ∧ Below base w w' ∧ TK p w w' := by
  obtain ⟨i0, hi, hz0, hz1, hz2⟩ := info_parts infoByte
  obtain ⟨hp, v, hbk, hown, hne⟩ := h
  obtain ⟨F, hF⟩ : ∃ F : Array Value, F = #[.int .u8 (n / 16777216 % 256), .int .u8 (n / 65536 % 256), .int .u8 (n / 256 % 256), .int .u8 (n % 256)] := ⟨_, rfl⟩
  obtain ⟨W1, hW1⟩ : ∃ W1, w.alloc (.cells F 104) = W1 := ⟨_, rfl⟩
  have hu1 : Up w W1 := by rw [← hW1]; exact (Up.refl _).alloc _
  have hs1 : W1.heap.size = w.heap.size + 1 := by rw [← hW1]; simp
  have hF1 : W1.heap[w.heap.size]? = some (.cells F 104 (0, 0)) := by rw [← hW1]; exact heap_alloc_new _ _
  have hbk1 := hu1.heap hbk
  have hplt : p < w.heap.size := (Array.getElem?_eq_some_iff.1 hbk).1
  have HO : Hid (∀ nq, (W1.drewN nq).ownsRow base 5 1 v B.length (bvs B)) := fun nq => row_up hown (hu1.drewN nq)
  have HFC : Hid (∀ nq j u, (bvs (by4 n))[j]? = some u → (W1.drewN nq).cell? ((⟨w.heap.size, 0, none⟩ : Addr).add j) = some u) := fun nq j u hj => by
    have hh : (W1.drewN nq).heap[w.heap.size]? = some (.cells F 104 (0, 0)) := hF1
    rw [Addr.add_mid]
    simp only [World.cell?, hh]
    have hjl : j < 4 := by
      have := (List.getElem?_eq_some_iff.1 hj).1
      simpa [bvs, by4] using this
    subst hF
    match j, hjl with
    | 0, _ => simpa [bvs, by4] using hj
    | 1, _ => simpa [bvs, by4] using hj
    | 2, _ => simpa [bvs, by4] using hj
    | 3, _ => simpa [bvs, by4] using hj
  have HON : Hid (∀ u ∈ bvs (by4 n), u.oneCell' = true) := fun u hu => by
    simp only [bvs, List.mem_map] at hu
    obtain ⟨z, -, rfl⟩ := hu
    rfl
  have HS : Hid (∀ nq, base ≤ (W1.drewN nq).heap.size) := fun nq => by show base ≤ W1.heap.size; omega
  have HF : Hid (∀ nq v' w2, w2.ownsRow base 5 1 v' (B.length + 4) (bvs B ++ bvs (by4 n)) → (W1.drewN nq).grownBy w2 v.ownBlock → w2.cell? ⟨p, 0, none⟩ = some v ∧ w2.frozen? ⟨p, 0, none⟩ = false ∧ IsW base p (B ++ by4 n) (w2.setCell ⟨p, 0, none⟩ v') ∧ Below base w (w2.setCell ⟨p, 0, none⟩ v') ∧ TK p w (w2.setCell ⟨p, 0, none⟩ v')) := fun nq v' w2 h1 hg => by
    have hp2 : w2.heap[p]? = some (.cells #[v] 31 (0, 0)) := by
      rw [hg.block p (by show p < W1.heap.size; omega) (fun e => hne e.symm)]
      exact hbk1
    have hne2 : v'.ownBlock ≠ some p := fun e => by
      rcases h1.2 with ⟨h0, -⟩ | ⟨g, cap, cur, e1, -, e3, -⟩
      · rw [h0] at e; cases e
      · rw [e1] at e
        obtain rfl : g = p := by simpa [Value.ownBlock] using e
        rw [hp2] at e3
        simp at e3
    have hB : Below base w w2 := Below.grown (Below.mono (hu1.drewN nq) hb) hg (by show base ≤ W1.heap.size; omega) (fun k hk => (hown.lt k hk).1)
    refine ⟨by simp [World.cell?, hp2], seven_f hp2 0, ⟨hp, v', ?_, ?_, hne2⟩, hB.setCell (p := ⟨p, 0, none⟩) hp _, fun g cs t f hg9 hgp htu => ?_⟩
    · have := set_cells (W := w2) (j := 0) (x := v') (show w2.heap[p]? = some (.cells [v].toArray 31 (0, 0)) from hp2)
      simpa using this
    · rw [bvs_app, List.length_append]
      exact row_keep h1 (fun g o hg ho => by
        have hgp : g ≠ p := fun e => hne2 (by rw [hg, e])
        exact set_other ho hgp)
    · have hg1 := hu1.heap hg9
      have hgl : g < W1.heap.size := (Array.getElem?_eq_some_iff.1 hg1).1
      refine set_other ?_ hgp
      rw [hg.block g hgl (fun e => by
        rcases hown.2 with ⟨h0, -⟩ | ⟨g', cap, cur, e1, -, e3, -⟩
        · rw [h0] at e; cases e
        · rw [e1] at e
          obtain rfl : g' = g := by simpa [Value.ownBlock] using e.symm
          rw [hg9] at e3
          simp at e3
          exact htu e3.2.1)]
      exact hg1
  obtain ⟨va, vn, vc, hv⟩ : ∃ a n c, v = .slice a n c := by
    rcases hown.2 with ⟨hv, _⟩ | ⟨g, cap, cur, hv, _⟩
    · exact ⟨_, _, _, hv⟩
    · exact ⟨_, _, _, hv⟩
  have c0 : W1.cell? ⟨p, 0, none⟩ = some v := by simp [World.cell?, hbk1]
  clear hbk hbk1 hown hne hF1 hu1 hplt hp
  subst hv
  rw [hF] at hW1
  go_enter Tryz.func73, Tryz.ntmps73
  go_wp2_with fail
  try rw [hW1]
  refine TailR.wp_region_seq 4 (by kernel_rfl) (by kernel_rfl) ?_
  simp only [List.take_succ_cons, List.take_zero, List.drop_succ_cons, List.drop_zero]
  repeat (go_big_quiet_step (fail))
  refine wpQuiet_nil ?_
  intro _ hw'
  obtain ⟨nq, hw''⟩ := hw'
  subst hw''
  go_wp2_with (at_builtin; go_loud (refine wpList_append_own _ (by rfl) (.tmp 18) (.tmp 21) 31 (by rfl) base 5 i0 _ 1 1 Tryz.underlying31 hi hz0 hz1 hz2 (by rfl) (by decide) (.slice va vn vc) B.length (bvs B) (by rfl) (HO.out nq) ⟨w.heap.size, 0, none⟩ 4 4 (bvs (by4 n)) (by rfl) (by rfl) (HFC.out nq) HON.out (by unfold maxLen; omega) (by omega) (HS.out nq) ?_; intro v' w2 hin hg1 _; obtain ⟨d1, d2, d3⟩ := HF.out nq v' w2 hin hg1; have HZ : Hid _ := d3; obtain ⟨va', n', vc', hva⟩ : ∃ a n c, v' = Value.slice a n c := (by rcases hin.2 with ⟨hv, _⟩ | ⟨g, cap, cur, hv, _⟩ <;> exact ⟨_, _, _, hv⟩); subst hva; clear hin hg1 d3))
  go_wp2
  first | exact ⟨rfl, HZ.out⟩ | (go_end0; exact ⟨rfl, HZ.out⟩)
end IM
end Go.Proofs.YtpmdlpjedapbbaaGreatDoor
