/-
  Marks that are lists of their own: which mark stands where is known one after the other.
-/
import Derived.Test.YtmpamcdobhiipaaGreatDoorBwToBks
namespace Go.Proofs.YtmpamcdobhiipaaGreatDoor.BG
open Go.RowKit

theorem mks_congr {mk mk' : Nat → Nat → List Value} {q : Nat} : ∀ {n : Nat}, (∀ x, x < n → mk q x = mk' q x) → mks mk q n = mks mk' q n
  | 0, _ => rfl
  | n + 1, h => by rw [mks_more, mks_more, mks_congr fun x hx => h x (by omega), h n (Nat.lt_succ_self _)]
def mkU (mk : Nat → Nat → List Value) (p i : Nat) (v : Value) : Nat → Nat → List Value := fun q x => if q = p ∧ x = i then [v] else mk q x
theorem mkU_len {mk : Nat → Nat → List Value} (h : ∀ q i, (mk q i).length = 1) (p i : Nat) (v : Value) : ∀ q x, (mkU mk p i v q x).length = 1 := fun q x => by
  unfold mkU
  split
  · rfl
  · exact h q x
theorem mkU_self (mk : Nat → Nat → List Value) (p i : Nat) (v : Value) : mkU mk p i v p i = [v] := by simp [mkU]
theorem mkU_ne (mk : Nat → Nat → List Value) {p i q x : Nat} (v : Value) (h : ¬ (q = p ∧ x = i)) : mkU mk p i v q x = mk q x := by simp [mkU, h]
section
variable {mk : Nat → Nat → List Value} {base b1 e e1 s : Nat}
theorem mks_U {p i q n : Nat} (v : Value) (h : q = p → n ≤ i) : mks mk q n = mks (mkU mk p i v) q n := mks_congr fun x hx => (mkU_ne mk v (fun ⟨h1, h2⟩ => by have := h h1; omega)).symm
theorem Row2.chg {W : World} {L : VL} {p i : Nat} (h : Row2 mk base e s W L p i) (v : Value) : Row2 (mkU mk p i v) base e s W L p i := fun q hq => by
  obtain ⟨xs, h1, h2, h3⟩ := h q hq
  exact ⟨xs, h1, fun hlt => by rw [h2 hlt]; exact mks_U v (by omega), fun eq => by rw [h3 eq]; exact mks_U v (fun _ => Nat.le_refl _)⟩
theorem MB.chg {W : World} {b q m p i : Nat} (h : MB mk e s W b q m) (v : Value) (hq : q = p → m ≤ i) : MB (mkU mk p i v) e s W b q m :=
  ⟨h.1, fun x j hx hj => by rw [h.2 x j hx hj, mkU_ne mk v (fun ⟨h1, h2⟩ => by have := hq h1; omega)]⟩
theorem OneOk.chg {W : World} {q m p i : Nat} {x : Value} (h : OneOk mk e s W q x m) (v : Value) (hq : q = p → m ≤ i) : OneOk (mkU mk p i v) e s W q x m := by
  obtain ⟨o, cap, hx, h⟩ := h
  exact ⟨o, cap, hx, h.chg v hq⟩
theorem In.chg {W : World} {L : VL} {p : Nat} {one more : Value} {os ms : List Value} {l : Value} {i k : Nat} (h : In mk base b1 e e1 s W L p one more os ms l i k) (v : Value) : In (mkU mk p i v) base b1 e e1 s W L p one more os ms l i k := by
  have hK := h.K
  refine ⟨fun r h1 h2 => ?_, fun q hq g hg => (h.B q hq g hg).chg v (fun eq => by subst eq; omega), ⟨h.C.1, fun q hq => (h.C.2 q hq).chg v (fun eq => by subst eq; omega)⟩, ⟨h.D.1, fun q hq => (h.D.2 q hq).chg v (fun eq => by omega)⟩, h.K, ?_, h.S1, h.S2, h.E, h.Z⟩
  · rw [← mks_U v (by omega)]; exact h.A r h1 h2
  · rw [← mks_U v (fun _ => Nat.le_refl _)]; exact h.R
end
/- the marks that are set: each a list of one number, in a block of its own -/
def MkOk (tI : Nat) (mk : Nat → Nat → List Value) (S : Nat → Nat → Prop) (W : World) : Prop := ∀ q x, S q x → ∃ g, mk q x = [.slice (some ⟨g, 0, none⟩) 1 1] ∧ W.heap[g]? = some (.cells #[.int .i64 (bnum q x)] tI (0, 0))
theorem MkOk.keep {tI : Nat} {mk : Nat → Nat → List Value} {S S' : Nat → Nat → Prop} {W W' : World} (h : MkOk tI mk S W) (k : ∀ (g : Nat) (cs : Array Value), W.heap[g]? = some (.cells cs tI (0, 0)) → W'.heap[g]? = some (.cells cs tI (0, 0))) (hS : ∀ q x, S' q x → S q x) : MkOk tI mk S' W' := fun q x hq => by
  obtain ⟨g, h1, h2⟩ := h q x (hS q x hq)
  exact ⟨g, h1, k g _ h2⟩
theorem MkOk.up {tI : Nat} {mk : Nat → Nat → List Value} {S : Nat → Nat → Prop} {W W' : World} (h : MkOk tI mk S W) (u : Up W W') : MkOk tI mk S W' := h.keep (fun _ _ hg => u.heap hg) (fun _ _ h => h)
theorem MkOk.put {tI : Nat} {mk : Nat → Nat → List Value} {S S' : Nat → Nat → Prop} {W : World} {p i g : Nat} (h : MkOk tI mk S W) (hg : W.heap[g]? = some (.cells #[.int .i64 (bnum p i)] tI (0, 0))) (hS : ∀ q x, S' q x → S q x ∨ (q = p ∧ x = i)) : MkOk tI (mkU mk p i (.slice (some ⟨g, 0, none⟩) 1 1)) S' W := fun q x hq => by
  by_cases eq : q = p ∧ x = i
  · obtain ⟨rfl, rfl⟩ := eq
    exact ⟨g, mkU_self _ _ _ _, hg⟩
  · obtain ⟨g', h1, h2⟩ := h q x ((hS q x hq).resolve_right eq)
    exact ⟨g', by rw [mkU_ne mk _ eq]; exact h1, h2⟩
theorem keep_grown {W W' : World} {v : Value} {n base t s tI : Nat} {xs : List Value} (h : W.ownsRow base t s v n xs) (hg : W.grownBy W' v.ownBlock) (ht : t ≠ tI) : ∀ (g : Nat) (cs : Array Value), W.heap[g]? = some (.cells cs tI (0, 0)) → W'.heap[g]? = some (.cells cs tI (0, 0)) := fun g cs hgc => by
  rw [hg.block g (Array.getElem?_eq_some_iff.1 hgc).1 (fun e => ty_apart h hgc ht e.symm)]
  exact hgc
theorem keep_set {W : World} {a j t tI : Nat} {c : Array Value} {x : Value} (h : W.heap[a]? = some (.cells c t (0, 0))) (ht : t ≠ tI) : ∀ (g : Nat) (cs : Array Value), W.heap[g]? = some (.cells cs tI (0, 0)) → (W.setCell ⟨a, j, none⟩ x).heap[g]? = some (.cells cs tI (0, 0)) := fun g cs hgc => by
  rw [Below.heap_setCell _ _ _ _ (by
    show g ≠ a
    rintro rfl
    rw [h] at hgc
    cases hgc
    exact ht rfl)]
  exact hgc
/- which marks are set, at list p and element i, and ahead of list p -/
def S1 (L : VL) (p i q x : Nat) : Prop := (q < p ∧ x < (L.getD q dv).2) ∨ (q = p ∧ x < i)
def S2 (L : VL) (p i q x : Nat) : Prop := (q < p ∧ x < (L.getD q dv).2 + 70) ∨ (q = p ∧ x < i) ∨ (p < q ∧ q < L.length ∧ x < (L.getD q dv).2)
def SP (L : VL) (p q x : Nat) : Prop := (q < p ∧ x < (L.getD q dv).2 + 70) ∨ (p ≤ q ∧ q < L.length ∧ x < (L.getD q dv).2)
theorem s1_next {L : VL} {p i q x : Nat} (h : S1 L p (i + 1) q x) : S1 L p i q x ∨ (q = p ∧ x = i) := by unfold S1 at *; omega
theorem s1_done {L : VL} {p q x : Nat} (h : S1 L (p + 1) 0 q x) : S1 L p (L.getD p dv).2 q x := by
  unfold S1 at *
  rcases h with ⟨h1, h2⟩ | ⟨_, h2⟩
  · by_cases e : q = p
    · subst e; exact .inr ⟨rfl, h2⟩
    · exact .inl ⟨by omega, h2⟩
  · omega
theorem sp_start {L : VL} {q x : Nat} (h : SP L 0 q x) : S1 L L.length 0 q x := by unfold SP at h; unfold S1; omega
theorem s2_start {L : VL} {p q x : Nat} (hp : p < L.length) (h : S2 L p (L.getD p dv).2 q x) : SP L p q x := by
  unfold S2 at h; unfold SP
  rcases h with h | ⟨rfl, h⟩ | h
  · exact .inl h
  · exact .inr ⟨Nat.le_refl _, hp, h⟩
  · exact .inr ⟨by omega, h.2⟩
theorem s2_next {L : VL} {p i q x : Nat} (h : S2 L p (i + 1) q x) : S2 L p i q x ∨ (q = p ∧ x = i) := by unfold S2 at *; omega
theorem s2_done {L : VL} {p q x : Nat} (h : SP L (p + 1) q x) : S2 L p ((L.getD p dv).2 + 70) q x := by
  unfold SP at h; unfold S2
  rcases h with ⟨h1, h2⟩ | ⟨h1, h2⟩
  · by_cases e : q = p
    · subst e; exact .inr (.inl ⟨rfl, h2⟩)
    · exact .inl ⟨by omega, h2⟩
  · exact .inr (.inr ⟨by omega, h2⟩)
end Go.Proofs.YtmpamcdobhiipaaGreatDoor.BG
