/-
  Marks that are lists of their own: which mark stands where is known one after the other.
-/
import Derived.Test.YtodhjjeagmjhdaaGreatDoorBksVX
namespace Go.Proofs.YtodhjjeagmjhdaaGreatDoor.BG
open Go.RowKit
def mkU (mk : Nat -> Nat -> List Value) (p i : Nat) (v : Value) : Nat -> Nat -> List Value := fun q x=>if q = p /\ x = i then [v] else mk q x
theorem mkU_self (mk : Nat -> Nat -> List Value) (p i : Nat) (v : Value) : mkU mk p i v p i = [v] := by simp [mkU]
theorem mkU_ne (mk : Nat -> Nat -> List Value) {p i q x : Nat} (v : Value) (h : ¬ (q = p /\ x = i)) : mkU mk p i v q x = mk q x := by simp [mkU,h]
section
variable {mk : Nat -> Nat -> List Value} {base b1 e e1 s : Nat}
end
def MkOk (tI : Nat) (mk : Nat -> Nat -> List Value) (S : Nat -> Nat -> Prop) (W : World) : Prop := ∀ q x,S q x -> ∃ g,mk q x = [.slice (some ⟨g,0,none⟩) 1 1] /\ W.heap[g]? = some (.cells #[.int .i64 (bnum q x)] tI (0,0))
theorem MkOk.keep {tI : Nat} {mk : Nat -> Nat -> List Value} {S S' : Nat -> Nat -> Prop} {W W' : World} (h : MkOk tI mk S W) (k : ∀ (g : Nat) (cs : Array Value),W.heap[g]? = some (.cells cs tI (0,0)) -> W'.heap[g]? = some (.cells cs tI (0,0))) (hS : ∀ q x,S' q x -> S q x) : MkOk tI mk S' W' := fun q x hq=>by
 obtain ⟨g,h1,h2⟩ := h q x (hS q x hq)
 exact ⟨g,h1,k g _ h2⟩
theorem MkOk.up {tI : Nat} {mk : Nat -> Nat -> List Value} {S : Nat -> Nat -> Prop} {W W' : World} (h : MkOk tI mk S W) (u : Up W W') : MkOk tI mk S W' := h.keep (fun _ _ hg=>u.heap hg) (fun _ _ h=>h)
theorem MkOk.put {tI : Nat} {mk : Nat -> Nat -> List Value} {S S' : Nat -> Nat -> Prop} {W : World} {p i g : Nat} (h : MkOk tI mk S W) (hg : W.heap[g]? = some (.cells #[.int .i64 (bnum p i)] tI (0,0))) (hS : ∀ q x,S' q x -> S q x ∨ (q = p /\ x = i)) : MkOk tI (mkU mk p i (.slice (some ⟨g,0,none⟩) 1 1)) S' W := fun q x hq=>by
 by_cases eq : q = p /\ x = i
 ·obtain ⟨rfl,rfl⟩ := eq
  exact ⟨g,mkU_self _ _ _ _,hg⟩
 ·obtain ⟨g',h1,h2⟩ := h q x ((hS q x hq).resolve_right eq)
  exact ⟨g',by rw [mkU_ne mk _ eq]; exact h1,h2⟩
def S1 (L : VL) (p i q x : Nat) : Prop := (q < p /\ x < (L.getD q dv).2) ∨ (q = p /\ x < i)
def S2 (L : VL) (p i q x : Nat) : Prop := (q < p /\ x < (L.getD q dv).2 + 70) ∨ (q = p /\ x < i) ∨ (p < q /\ q < L.length /\ x < (L.getD q dv).2)
end Go.Proofs.YtodhjjeagmjhdaaGreatDoor.BG
