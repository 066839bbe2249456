/-
  The program's heap and the document's, side by side in one memory.
-/
import Derived.Test.YtehkjgnhjhdclaaRHp
import Derived.Test.YtehkjgnhjhdclaaHNil
import Derived.Test.YtehkjgnhjhdclaaWorks
namespace Go.Proofs.Ytehkjgnhjhdclaa
open Go.RowKit

abbrev tHp : Nat := 77
abbrev tTh : Nat := 66
/- blocks of heaps and of entries stay -/
def KeepHE (W W' : World) : Prop := ∀ (g : Nat) (cs : Array Value) (t : TypeId) (fz : Nat × Nat), W.heap[g]? = some (.cells cs t fz) → (t = tHp ∨ t = HT.tE) → W'.heap[g]? = some (.cells cs t fz)
theorem KeepHE.refl (W : World) : KeepHE W W := fun _ _ _ _ h _ => h
theorem KeepHE.trans {a b c : World} (h : KeepHE a b) (k : KeepHE b c) : KeepHE a c := fun g cs t fz e ht => k g cs t fz (h g cs t fz e ht) ht
theorem KeepHE.up {a b : World} (h : Up a b) : KeepHE a b := fun _ _ _ _ e _ => h.heap e
theorem KeepHE.only {a b c : World} {p : Nat} {cs : Array Value} {t : TypeId} {fz : Nat × Nat} (h : KeepHE a b) (k : Only p b c) (hp : b.heap[p]? = some (.cells cs t fz)) (h1 : t ≠ tHp) (h2 : t ≠ HT.tE) : KeepHE a c := by
  intro g cs' t' fz' e ht
  have h9 := h g cs' t' fz' e ht
  refine k.heap h9 (fun eq => ?_)
  subst eq
  rw [hp] at h9
  cases h9
  rcases ht with h | h
  · exact h1 h
  · exact h2 h
theorem KeepHE.grown {a b c : World} {base n : Nat} {v : Value} {xs : List Value} (h : KeepHE a b) (hr : b.ownsRow base tTh 2 v n xs) (k : b.grownBy c v.ownBlock) : KeepHE a c := by
  intro g cs' t' fz' e ht
  have h9 := h g cs' t' fz' e ht
  have hl := (Array.getElem?_eq_some_iff.1 h9).1
  rw [k.block g hl ?_]
  · exact h9
  · intro eq
    rcases hr.2 with ⟨rfl, _⟩ | ⟨g', cap, cur, rfl, _, hh, _⟩
    · cases eq
    · have eq' : g = g' := by simpa [Value.ownBlock] using eq
      subst eq'
      rw [hh] at h9
      cases h9
      rcases ht with h | h
      · exact absurd h (by decide)
      · exact absurd h (by decide)
theorem heapOf_keep {W W' : World} {hb k base : Nat} {L : List HT.X} {t : Nat} (h : HT.HeapOf W hb k base L t) (u : KeepHE W W') : HT.HeapOf W' hb k base L t := by
  obtain ⟨v, es, ⟨h1, h2, h3⟩, h4⟩ := h
  refine ⟨v, es, ⟨u _ _ _ _ h1 (.inl rfl), ⟨h2.1, ?_⟩, h3⟩, h4⟩
  rcases h2.2 with h | ⟨g, cap, cur, e1, e2, e3, e4⟩
  · exact .inl h
  · exact .inr ⟨g, cap, cur, e1, e2, u _ _ _ _ e3 (.inr rfl), e4⟩
theorem rat_fr {W W' : World} {hb base rb rbase k t : Nat} {v : Value} {L L' : List HT.X} (h : RH.RAt W rb rbase v L) (hh : HT.HeapOf W hb k base L' t) (f : Fr HT.tE hb base W W') : RH.RAt W' rb rbase v L := by
  obtain ⟨hv, es, hat, -⟩ := hh
  have hne : ∀ (g : Nat) (cs : Array Value) (t : TypeId) (fz : Nat × Nat), W.heap[g]? = some (.cells cs t fz) → t ≠ tHp → t ≠ HT.tE → W'.heap[g]? = some (.cells cs t fz) := by
    intro g cs t fz e h1 h2
    refine f.2.2 g _ e (fun eq => ?_) (.inr (fun cs' fz' e' => ?_))
    · subst eq
      rw [show W.heap[g]? = _ from hat.1] at e
      cases e
      exact h1 rfl
    · cases e'
      exact h2 rfl
  refine ⟨hne _ _ _ _ h.1 (by decide) (by decide), ⟨h.2.1.1, ?_⟩, h.2.2⟩
  rcases h.2.1.2 with h | ⟨g, cap, cur, e1, e2, e3, e4⟩
  · exact .inl h
  · exact .inr ⟨g, cap, cur, e1, e2, hne _ _ _ _ e3 (by decide) (by decide), e4⟩
theorem row_fr {W W' : World} {hb base gl k t : Nat} {cs : Array Value} {L' : List HT.X} (h : W.heap[gl]? = some (.cells cs tTh (0, 0))) (hh : HT.HeapOf W hb k base L' t) (f : Fr HT.tE hb base W W') : W'.heap[gl]? = some (.cells cs tTh (0, 0)) := by
  obtain ⟨hv, es, hat, -⟩ := hh
  refine f.2.2 gl _ h (fun eq => ?_) (.inr (fun cs' fz' e' => by cases e'))
  subst eq
  rw [show W.heap[gl]? = _ from hat.1] at h
  cases h
/- the law's own append to the document's list -/
theorem rat_app {W W1 : World} {rb rbase g cap : Nat} {v : Value} {L : List HT.X} {x : HT.X} {o : Obj} (h : RH.RAt W rb rbase v L) (hbs : rbase ≤ W.heap.size)
    (hown : W1.ownsRow rbase tTh 2 (.slice (some ⟨g, 0, none⟩) (L.length + 1) cap) (L.length + 1) (RH.flX L ++ [.int .i64 x.1, .int .i64 x.2])) (hg : ((W.alloc o).drew).grownBy W1 v.ownBlock) :
    RH.Hd W1 rb v ∧ RH.RAt (W1.setCell ⟨rb, 0, none⟩ (.slice (some ⟨g, 0, none⟩) (L.length + 1) cap)) rb rbase (.slice (some ⟨g, 0, none⟩) (L.length + 1) cap) (L ++ [x]) ∧ KeepHE W (W1.setCell ⟨rb, 0, none⟩ (.slice (some ⟨g, 0, none⟩) (L.length + 1) cap)) ∧ Below rb W (W1.setCell ⟨rb, 0, none⟩ (.slice (some ⟨g, 0, none⟩) (L.length + 1) cap)) := by
  have hne : ∀ k, v.ownBlock = some k → rbase ≤ k := fun k hk => (h.2.1.lt k hk).1
  have u : Up W (W.alloc o).drew := ((Up.refl _).alloc o).drew
  have hB : Below rbase W W1 := Below.grown (Below.mono u hbs) hg (Nat.le_trans hbs u.size) hne
  have h1 : RH.Hd W1 rb v := by unfold RH.Hd; rw [hB.block rb h.2.2]; exact h.1
  refine ⟨h1, ⟨h1.put _, ?_, h.2.2⟩, ?_, ?_⟩
  · have := ownsRow_setCell_below hown (a := ⟨rb, 0, none⟩) h.2.2 (.slice (some ⟨g, 0, none⟩) (L.length + 1) cap)
    rw [List.length_append, List.length_singleton, show RH.flX (L ++ [x]) = RH.flX L ++ [.int .i64 x.1, .int .i64 x.2] by simp [RH.flX, RH.fl]]
    exact this
  · exact KeepHE.only (KeepHE.grown (KeepHE.up u) (row_up h.2.1 u) hg) ((Only.refl _ _).set 0 _) h1 (by decide) (by decide)
  · exact Below.setCell (hB.mono (Nat.le_of_lt h.2.2)) (Nat.le_refl _) _
/- lists of things that came in; turns -/
def TLst (W : World) (v : Value) (xs : List HT.X) : Prop := ∃ a cap, v = .slice a xs.length cap ∧ (xs.length ≠ 0 → ∃ b off, a = some ⟨b, off, none⟩ ∧ ∀ i, i < xs.length → W.cell? ⟨b, off + i * 2, none⟩ = some (.int .i64 (xs.getD i HT.dx).1) ∧ W.cell? ⟨b, off + i * 2 + 1, none⟩ = some (.int .i64 (xs.getD i HT.dx).2))
abbrev Tn := Value × List HT.X × Int
def dTn : Tn := (.slice none 0 0, [], 0)
def TL (W : World) (v : Value) (ts : List Tn) : Prop := ∃ a cap, v = .slice a ts.length cap ∧ (ts.length ≠ 0 → ∃ b off, a = some ⟨b, off, none⟩ ∧ ∀ i, i < ts.length → W.cell? ⟨b, off + i * 2, none⟩ = some (ts.getD i dTn).1 ∧ W.cell? ⟨b, off + i * 2 + 1, none⟩ = some (.int .i64 (ts.getD i dTn).2.2) ∧ TLst W (ts.getD i dTn).1 (ts.getD i dTn).2.1)
def cost : List Tn → Nat
  | [] => 0
  | t :: ts => 1 + t.2.1.length + cost ts
theorem cost_step (ts : List Tn) (i : Nat) (hi : i < ts.length) : cost (ts.take (i + 1)) = cost (ts.take i) + (1 + (ts.getD i dTn).2.1.length) := by
  induction ts generalizing i with
  | nil => simp at hi
  | cons t ts ih =>
    cases i with
    | zero => simp [cost]
    | succ i =>
      have := ih i (by simpa using hi)
      simp only [List.take_succ_cons, cost, this]
      have e : (t :: ts).getD (i + 1) dTn = ts.getD i dTn := rfl
      rw [e]; omega
theorem cost_le (ts : List Tn) : ts.length ≤ cost ts ∧ ∀ i, i < ts.length → cost (ts.take i) + (1 + (ts.getD i dTn).2.1.length) ≤ cost ts := by
  induction ts with
  | nil => exact ⟨Nat.zero_le _, fun i h => by simp at h⟩
  | cons t ts ih =>
    refine ⟨by simp [cost]; omega, fun i hi => ?_⟩
    cases i with
    | zero => simp [cost]
    | succ i =>
      have := ih.2 i (by simpa using hi)
      have e : (t :: ts).getD (i + 1) dTn = ts.getD i dTn := rfl
      rw [e]
      simp only [List.take_succ_cons, cost]; omega
end Go.Proofs.Ytehkjgnhjhdclaa
