
/-
  A region that draws its order, whose operations are quiet up to the n-th, of which the last one is waited for by all that come behind: one walk of the lexical order, and then whatever order of the rest.
-/
import Derived.Test.YtgonflnmkfgfhaaTc
namespace Go.Proofs.Ytgonflnmkfgfhaa
open Go

namespace TailR
section
variable {P : Program} {ops : Array Oper} {md : Region.Mode} {C : World → Prop}
def preB (md : Region.Mode) (ops : Array Oper) (n : Nat) : Bool := ((List.range n).all fun i => decide (i + 1 = n) || (List.range n).any fun j => decide (i < j) && edgeB md ops j i) && (List.range ops.size).all fun t => decide (t < n) || edgeB md ops t (n - 1)
theorem pre_down {n : Nat} (hW : preB md ops n = true) {listed : Array Bool} (hc : closedP md ops listed) (hl : listed.getD (n - 1) false = true) : ∀ d i, n - 1 - i ≤ d → i < n → listed.getD i false = true := by
  simp only [preB, Bool.and_eq_true] at hW
  intro d
  induction d with
  | zero =>
    intro i h1 h2
    have : i = n - 1 := by omega
    subst this
    exact hl
  | succ d ih =>
    intro i h1 h2
    have h4 := List.all_eq_true.1 hW.1 i (List.mem_range.2 h2)
    simp only [Bool.or_eq_true, decide_eq_true_eq] at h4
    rcases h4 with h4 | h4
    · have : i = n - 1 := by omega
      subst this
      exact hl
    · obtain ⟨j, hj, h5⟩ := List.any_eq_true.1 h4
      simp only [Bool.and_eq_true, decide_eq_true_eq] at h5
      rw [List.mem_range] at hj
      exact edge_listed (hc j (ih j (by omega) hj)) h5.2
theorem no_rest {n : Nat} (hW : preB md ops n = true) {listed : Array Bool} (hc : closedP md ops listed) {i j : Nat} (hi : i ∈ Region.ready md ops listed) (hin : i < n) (hj : j ∈ Region.ready md ops listed) : j < n := by
  rcases Nat.lt_or_ge j n with h | h
  · exact h
  · exfalso
    obtain ⟨_, o, ho, hall⟩ := mem_ready.1 hj
    have hlt : j < ops.size := (Array.getElem?_eq_some_iff.1 ho).1
    have hd : depsP md ops listed j := fun o' ho' e he hb => by
      rw [ho] at ho'
      cases ho'
      exact hall e he hb
    have hW2 := hW
    simp only [preB, Bool.and_eq_true] at hW2
    have h4 := List.all_eq_true.1 hW2.2 j (List.mem_range.2 hlt)
    simp only [Bool.or_eq_true, decide_eq_true_eq] at h4
    rcases h4 with h4 | h4
    · omega
    · have := pre_down hW hc (edge_listed hd h4) (n - 1 - i) i (Nat.le_refl _) hin
      have hun := (mem_ready.1 hi).1
      rcases Nat.lt_or_ge i listed.size with h' | h'
      · simp [h'] at this hun; rw [this] at hun; cases hun
      · simp [Array.getElem?_eq_none h'] at this
theorem wpAny_of_P {n t : Nat} (hW : preB md ops n = true) {Q : Exit → Act → World → Prop} {R : Array Bool → Act → Prop} (hR : ∀ L a w, R L a → C w → wpAny P md ops Q t L a w) : ∀ (fuel : Nat) (listed : Array Bool) (a : Act) (w : World), closedP md ops listed → C w →
    wpAnyU P md ops n C R fuel listed a → wpAny P md ops Q (t + fuel) listed a w
  | 0, _, _, _, _, hw, ⟨_, h2⟩ => hR _ _ _ h2 hw
  | fuel + 1, listed, a, w, hc, hw, ⟨⟨k, hk, hkn⟩, h3⟩ => by
    refine ⟨fun e => (by rw [e] at hk; cases hk), fun i hi => ?_⟩
    have hin := no_rest hW hc hk hkn hi
    exact wpOp_of_qOp hw (fun a' w' hw' h => wpAny_of_P hW hR fuel _ a' w' (closed_set hc hi) hw' h) (h3 i hi hin)
end
def allP (md : Region.Mode) (ops : Array Oper) (n : Nat) : Bool :=
  Region.noSelect ops && preB md ops n && lexU md ops n n 0 (Array.replicate ops.size false) && decide (n ≤ ops.size)
theorem wp_region_pre {P : Program} {id : Nat} {Q : Exit → Act → World → Prop} {a : Act} {w : World} {l : List Oper} (n t : Nat) (ht : l.length = t + n) (C : World → Prop) (hC : C (w.drewN 1)) (hm : P.follows .mixedOrders = true) (hB : allP .any l.toArray n = true)
    (h : wpQuiet P l.toArray C (fun a' => ∀ w', C w' → wpAny P .any l.toArray Q t (lastU n 0 (Array.replicate (t + n) false)) a' w') (l.take n) a) : (Code.region id l.toArray true).wp P Q a w := by
  simp only [allP, Bool.and_eq_true, decide_eq_true_eq] at hB
  obtain ⟨⟨⟨hs, hW⟩, hL⟩, hn⟩ := hB
  have hsz : l.toArray.size = l.length := by simp
  rw [hsz] at hn hL
  have hl : (l.take n).length = n := by simp; omega
  refine wp_region_any hm ?_
  rw [hsz]
  have key := wpAnyU_lex (P := P) (md := .any) (C := C) (n := n) (R := fun a' => ∀ w', C w' → wpAny P .any l.toArray Q t (lastU n 0 (Array.replicate (t + n) false)) a' w') hs (l.take n) 0 (Array.replicate l.length false) a
    (fun j o' hj => by
      rw [List.getElem?_take] at hj
      split at hj
      · rw [Nat.zero_add]; simpa using hj
      · cases hj)
    (by rw [hl]; exact hL) h
  rw [hl] at key
  rw [ht] at key ⊢
  refine wpAny_of_P (C := C) (t := t) hW (fun L a' w' hRL hw' => ?_) n _ _ _ ?_ hC key
  · obtain ⟨rfl, hRL⟩ := hRL
    exact hRL w' hw'
  · intro j hj o' ho' e he hb
    rw [rep_false] at hj
    cases hj
end TailR
end Go.Proofs.Ytgonflnmkfgfhaa
