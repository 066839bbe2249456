
/-
  A region that draws its order, all of whose operations are quiet but the last one, which waits for all others: one walk of the lexical order, and the last operation behind it.
-/
import Derived.Test.YtjjikeehifndhaaDoorBase
namespace Go.Proofs.YtjjikeehifndhaaDoor
open Go

section
variable {P : Program} {ops : Array Oper} {md : Region.Mode} {C : World → Prop}
def wpAnyT (P : Program) (md : Region.Mode) (ops : Array Oper) (n : Nat) (C : World → Prop) (R : Act → Prop) : Nat → Array Bool → Act → Prop
  | 0, listed, a => Region.ready md ops listed = [n] ∧ Region.ready md ops (listed.setIfInBounds n true) = [] ∧ R a
  | fuel + 1, listed, a => Region.ready md ops listed ≠ [] ∧ n ∉ Region.ready md ops listed ∧ ∀ i ∈ Region.ready md ops listed, qOp P ops C i (wpAnyT P md ops n C R fuel (listed.setIfInBounds i true)) a
def waitsB (md : Region.Mode) (ops : Array Oper) (n : Nat) : Bool := ((ops[n]?).map fun o => (List.range n).all fun i => o.after.any fun e => Region.binds md e && e.on == i).getD false && decide (ops.size = n + 1)
theorem waits_spec {n : Nat} (h : waitsB md ops n = true) {i : Nat} (hi : i < n) {listed : Array Bool} (hr : i ∈ Region.ready md ops listed) : n ∉ Region.ready md ops listed := by
  intro hn
  obtain ⟨_, o, ho, hall⟩ := mem_ready.1 hn
  have h0 := (mem_ready.1 hr).1
  simp only [waitsB, ho, Option.map_some, Option.getD_some, Bool.and_eq_true] at h
  have h1 := List.all_eq_true.1 h.1 i (List.mem_range.2 hi)
  obtain ⟨e, he, hb⟩ := Array.any_eq_true'.1 h1
  simp only [Bool.and_eq_true, beq_iff_eq] at hb
  have h2 := hall e he hb.1
  rw [hb.2] at h2
  rcases Nat.lt_or_ge i listed.size with h' | h'
  · simp [h'] at h0 h2; rw [h0] at h2; cases h2
  · simp [Array.getElem?_eq_none h'] at h2
theorem ready_lt {n : Nat} (h : waitsB md ops n = true) {i : Nat} {listed : Array Bool} (hr : i ∈ Region.ready md ops listed) (hi : i ≠ n) : i < n := by
  obtain ⟨_, o, ho, _⟩ := mem_ready.1 hr
  have hlt : i < ops.size := (Array.getElem?_eq_some_iff.1 ho).1
  simp only [waitsB, Bool.and_eq_true, decide_eq_true_eq] at h
  omega
theorem wpAnyT_first {n : Nat} (hW : waitsB md ops n = true) {R : Act → Prop} {i : Nat} (hin : i < n) {oi : Oper} {v : Value} (hi : ops[i]? = some oi) (hsel : ∀ (j : Nat) (o : Oper) cs b, ops[j]? = some o → o.op ≠ .select cs b) :
    ∀ (fuel : Nat) (listed : Array Bool) (a : Act),
      (∀ j oj, ops[j]? = some oj → j ≠ i → listed.getD j true = false → (∀ e ∈ oj.after, Region.binds md e = true → e.on ≠ i) → oi.apart ops oj = true) →
      i ∈ Region.ready md ops listed → YieldsIn P ops C oi v a →
      wpAnyT P md ops n C R fuel (listed.setIfInBounds i true) (a.put oi.dst v) → wpAnyT P md ops n C R (fuel + 1) listed a := by
  intro fuel
  induction fuel with
  | zero =>
    intro listed a _ hr hy H
    have hnn := waits_spec hW hin hr
    refine ⟨fun h => (by rw [h] at hr; cases hr), hnn, fun j hj => ?_⟩
    by_cases hji : j = i
    · subst hji; exact hy.qOp hi H
    · have := ready_mono hj hji
      rw [H.1] at this
      simp at this
      subst this
      exact (hnn hj).elim
  | succ fuel ih =>
    intro listed a hfree hr hy H
    refine ⟨fun h => (by rw [h] at hr; cases hr), waits_spec hW hin hr, fun j hj => ?_⟩
    by_cases hji : j = i
    · subst hji; exact hy.qOp hi H
    · have h1 := H.2.2 j (ready_mono hj hji)
      obtain ⟨hjun, oj, hoj, hall⟩ := mem_ready.1 hj
      have hnot : ∀ e ∈ oj.after, Region.binds md e = true → e.on ≠ i := fun e he hb heq => by
        have h1 := hall e he hb
        have h0 := (mem_ready.1 hr).1
        rw [heq] at h1
        rcases Nat.lt_or_ge i listed.size with h' | h'
        · simp [h'] at h0 h1; rw [h0] at h1; cases h1
        · simp [Array.getElem?_eq_none h'] at h1
      have h2 := qOp_put hoj (hfree j oj hoj hji hjun hnot) (fun cs b => hsel i oi cs b hi) (fun cs b => hsel j oj cs b hoj) hy h1
      have hfree' : ∀ k ok, ops[k]? = some ok → k ≠ i → (listed.setIfInBounds j true).getD k true = false →
          (∀ e ∈ ok.after, Region.binds md e = true → e.on ≠ i) → oi.apart ops ok = true := fun k ok hk hki hun hno => by
        refine hfree k ok hk hki ?_ hno
        by_cases hjk : j = k
        · subst hjk; exact hjun
        · rw [getD_set_ne true hjk] at hun; exact hun
      refine qOp_mono (fun a' h3 => ih (listed.setIfInBounds j true) a' hfree' (ready_mono hr (Ne.symm hji)) h3.1 ?_) h2
      rw [Array.setIfInBounds_comm _ _ hji]
      exact h3.2
def lexT (md : Region.Mode) (ops : Array Oper) (n : Nat) : Nat → Nat → Array Bool → Bool
  | 0, _, listed => (Region.ready md ops listed == [n]) && (Region.ready md ops (listed.setIfInBounds n true)).isEmpty
  | fuel + 1, k, listed => (Region.ready md ops listed).contains k && decide (k < n) && Region.free md ops listed k && lexT md ops n fuel (k + 1) (listed.setIfInBounds k true)
def lastB (md : Region.Mode) (ops : Array Oper) (n : Nat) : Bool := Region.noSelect ops && waitsB md ops n && lexT md ops n n 0 (Array.replicate ops.size false)
theorem wpAnyT_lex {n : Nat} (hW : waitsB md ops n = true) {R : Act → Prop} (hs : Region.noSelect ops = true) : ∀ (l : List Oper) (k : Nat) (listed : Array Bool) (a : Act), (∀ j o, l[j]? = some o → ops[k + j]? = some o) →
    lexT md ops n l.length k listed = true → wpQuiet P ops C R l a → wpAnyT P md ops n C R l.length listed a
  | [], _, _, _, _, hB, h => by
    simp only [List.length_nil, lexT, Bool.and_eq_true, beq_iff_eq, List.isEmpty_iff] at hB
    exact ⟨hB.1, hB.2, h⟩
  | o :: l, k, listed, a, hl, hB, h => by
    have h0 : ops[k]? = some o := hl 0 o rfl
    simp only [List.length_cons, lexT, Bool.and_eq_true, decide_eq_true_eq] at hB
    obtain ⟨⟨⟨hr, hk⟩, hf⟩, hB'⟩ := hB
    have hst : qOp P ops C k (wpQuiet P ops C R l) a := by unfold qOp; simp only [h0]; exact h
    obtain ⟨v, hy, hK⟩ := yieldsIn_of_qOp h0 hst
    exact wpAnyT_first hW hk h0 (Region.noSelect_spec hs) l.length listed a (Region.free_spec h0 hf) (by simpa using hr) hy
      (wpAnyT_lex hW hs l (k + 1) _ _ (fun j o' hj => by have := hl (j + 1) o' (by simpa using hj); simpa [Nat.add_assoc, Nat.add_comm 1 j] using this) hB' hK)
theorem wpAny_of_T {n : Nat} {Q : Exit → Act → World → Prop} : ∀ (fuel : Nat) (listed : Array Bool) (a : Act) (w : World), C w →
    wpAnyT P md ops n C (fun a' => ∀ w', C w' → wpOp P ops Q n (fun a w => Q .normal a w) a' w') fuel listed a → wpAny P md ops Q (fuel + 1) listed a w
  | 0, _, _, _, hw, ⟨h1, h2, h3⟩ => ⟨fun h0 => (by rw [h1] at h0; cases h0), fun i hi => by
      rw [h1] at hi
      simp at hi
      subst hi
      exact wpOp_mono (fun a w h => ⟨h2, h⟩) (h3 _ hw)⟩
  | fuel + 1, _, _, _, hw, ⟨h1, _, h3⟩ => ⟨fun h0 => (h1 h0).elim, fun i hi => wpOp_of_qOp hw (fun a' w' hw' h => wpAny_of_T fuel _ a' w' hw' h) (h3 i hi)⟩
theorem wp_region_last {id : Nat} {Q : Exit → Act → World → Prop} {a : Act} {w : World} {l : List Oper} (n : Nat) (hm : P.follows .mixedOrders = true) (hB : lastB .any l.toArray n = true)
    (h : wpQuiet P l.toArray (fun w' => ∃ n, w' = w.drewN n) (fun a' => ∀ w', (∃ n, w' = w.drewN n) → wpList P l.toArray Q (l.drop n) a' w') (l.take n) a) : (Code.region id l.toArray true).wp P Q a w := by
  simp only [lastB, Bool.and_eq_true] at hB
  obtain ⟨⟨hs, hW⟩, hL⟩ := hB
  have hsz : l.length = n + 1 := by
    simp only [waitsB, Bool.and_eq_true, decide_eq_true_eq] at hW
    simpa using hW.2
  refine wp_region_any hm ?_
  rw [show l.toArray.size = n + 1 by simpa using hsz]
  refine wpAny_of_T (C := fun w' => ∃ n, w' = w.drewN n) (n := n) n _ a _ ⟨1, rfl⟩ ?_
  have hl : (l.take n).length = n := by simp; omega
  have hd : l.drop n = [l[n]'(by omega)] := by
    rw [List.drop_eq_getElem_cons (by omega), List.drop_of_length_le (by omega)]
  have key := wpAnyT_lex (P := P) (md := .any) (C := fun w' => ∃ n, w' = w.drewN n) hW (R := fun a' => ∀ w', (∃ n, w' = w.drewN n) → wpOp P l.toArray Q n (fun a w => Q .normal a w) a' w') hs (l.take n) 0 (Array.replicate (n + 1) false) a
    (fun j o hj => by
      rw [List.getElem?_take] at hj
      split at hj
      · simpa using hj
      · cases hj)
    (by rw [hl]; simpa [hsz] using hL)
    (by
      rw [hd] at h
      have e : ∀ a' w', wpList P l.toArray Q [l[n]'(by omega)] a' w' → wpOp P l.toArray Q n (fun a w => Q .normal a w) a' w' := by
        intro a' w' hh
        unfold wpOp
        rw [show l.toArray[n]? = some (l[n]'(by omega)) by simp [List.getElem?_eq_getElem (show n < l.length by omega)]]
        simpa [wpList] using hh
      have mono : ∀ (r : List Oper) (a : Act), wpQuiet P l.toArray (fun w' => ∃ n, w' = w.drewN n) (fun a' => ∀ w', (∃ n, w' = w.drewN n) → wpList P l.toArray Q [l[n]'(by omega)] a' w') r a → wpQuiet P l.toArray (fun w' => ∃ n, w' = w.drewN n) (fun a' => ∀ w', (∃ n, w' = w.drewN n) → wpOp P l.toArray Q n (fun a w => Q .normal a w) a' w') r a := by
        intro r
        induction r with
        | nil => intro a h w' hw'; exact e _ _ (h w' hw')
        | cons o r ih =>
          intro a h
          unfold wpQuiet at h ⊢
          split
          · rename_i hw
            rw [if_pos hw] at h
            exact Oper.quiet_mono ih h
          · rename_i hw
            rw [if_neg hw] at h
            exact ih _ h
      exact mono _ _ h)
  rw [hl] at key
  exact key
end
end Go.Proofs.YtjjikeehifndhaaDoor
