
/-
  Maps from names, entry by entry.
-/
import Derived.Test.YtifabdnjdadkbaaDoorBase
import Derived.Maps.Own
namespace Go.Proofs.YtifabdnjdadkbaaDoor
open Go.RowKit
namespace KD
/- block m of W is a map from names: what it holds, in the order in which it came -/
def MP (W : World) (m : Nat) (l : List (ByteArray × Value)) : Prop := ∃ es clock, W.heap[m]? = some (.map es clock) ∧ es.toList.map (fun e => (e.key, e.val)) = l.map fun p => (Value.string p.1, p.2)
def lk (l : List (ByteArray × Value)) (s : ByteArray) : Option Value := (l.find? (fun p => decide (p.1 = s))).map (·.2)
theorem MP.lt {W : World} {m : Nat} {l : List (ByteArray × Value)} (h : MP W m l) : m < W.heap.size := by
  obtain ⟨es, c, h1, _⟩ := h
  exact (Array.getElem?_eq_some_iff.1 h1).1
theorem MP.up {W W' : World} {m : Nat} {l : List (ByteArray × Value)} (h : MP W m l) (u : Up W W') : MP W' m l := by
  obtain ⟨es, c, h1, h2⟩ := h
  exact ⟨es, c, u.heap h1, h2⟩
theorem mp_made (W : World) : MP (W.alloc (.map #[] 0)) W.heap.size [] := ⟨#[], 0, heap_alloc_new W _, rfl⟩
theorem findNow_mp (s : ByteArray) : ∀ (es : List MapEntry) (l : List (ByteArray × Value)) (i : Nat), es.map (fun e => (e.key, e.val)) = l.map (fun p => (Value.string p.1, p.2)) →
    (lk l s = none ∧ Instr.findNow .string (.string s) es i = some none) ∨ ∃ j v, lk l s = some v ∧ Instr.findNow .string (.string s) es i = some (some (j, v))
  | [], [], i, _ => .inl ⟨rfl, rfl⟩
  | [], _ :: _, i, h => by simp at h
  | _ :: _, [], i, h => by simp at h
  | e :: es, p :: l, i, h => by
    simp only [List.map_cons, List.cons.injEq, Prod.mk.injEq] at h
    obtain ⟨⟨h1, h2⟩, h3⟩ := h
    obtain ⟨r, hr, hiff⟩ := MapKept.sameNow_of_keys (d := .string) (a := .string s) (b := .string p.1) (by trivial) (by trivial)
    by_cases hs : p.1 = s
    · have hr2 : r = true := hiff.2 (by rw [hs])
      subst hr2
      refine .inr ⟨i, p.2, by simp [lk, hs], ?_⟩
      simp only [Instr.findNow, h1, hr, h2]
    · have hr2 : r = false := by
        cases r with
        | false => rfl
        | true => have h9 := hiff.1 rfl; simp only [Value.string.injEq] at h9; exact absurd h9.symm hs
      subst hr2
      have e1 : lk (p :: l) s = lk l s := by simp [lk, hs]
      have e2 : Instr.findNow .string (.string s) (e :: es) i = Instr.findNow .string (.string s) es (i + 1) := by simp only [Instr.findNow, h1, hr]
      rw [e1, e2]
      exact findNow_mp s es l (i + 1) h3
theorem only_setObj {W : World} {m : Nat} (o : Obj) : Only m W { W with heap := W.heap.setIfInBounds m o } :=
  ⟨⟨rfl, rfl, rfl⟩, by simp, fun g _ hb => by simp [Ne.symm hb]⟩
theorem run_upd {P : Program} {t k e : TypeId} (ht : P.underlying t = some (.map k e)) (hk : P.underlying k = some .string) {W : World} {m : Nat} {l : List (ByteArray × Value)} (h : MP W m l) (s : ByteArray) (v : Value) (hs : lk l s = none) :
    ∃ W', (Instr.mapUpdate t (.map (some m)) (.string s) v).run P W = .ok () W' ∧ MP W' m (l ++ [(s, v)]) ∧ Only m W W' := by
  have hl := h.lt
  obtain ⟨es, c, h1, h2⟩ := h
  refine ⟨{ W with heap := W.heap.setIfInBounds m (.map (es.push ⟨.string s, v, c⟩) (c + 1)) }, ?_, ⟨es.push ⟨.string s, v, c⟩, c + 1, by simp [hl], by simp [h2]⟩, only_setObj _⟩
  rcases findNow_mp s es.toList l 0 h2 with ⟨_, h3⟩ | ⟨j, v', h3, _⟩
  · have e1 := MapKept.run_findKey (P := P) (w := W) hk h3
    have e2 := MapKept.run_checkKey (P := P) (w := W) (k := .string s) hk (by trivial) false 9999
    simp [Instr.mapUpdate, run_underlying ht, MapKept.run_getObj_map h1, e2, e1, MapKept.run_setObj_map _ h1, Result.andThen]
  · rw [hs] at h3; cases h3
theorem run_look {P : Program} {t k e : TypeId} (ht : P.underlying t = some (.map k e)) (hk : P.underlying k = some .string) {W : World} {m : Nat} {l : List (ByteArray × Value)} (h : MP W m l) (s : ByteArray) {z : Value} (hz : (zeroValue e).run P W = .ok z W) :
    (Instr.lookup t (.map (some m)) (.string s) true).run P W = .ok (.tuple #[(lk l s).getD z, .bool (lk l s).isSome]) W := by
  obtain ⟨es, c, h1, h2⟩ := h
  have e2 := fun b => MapKept.run_checkKey (P := P) (w := W) (k := .string s) hk (by trivial) b 9999
  rcases findNow_mp s es.toList l 0 h2 with ⟨h4, h3⟩ | ⟨j, v, h4, h3⟩
  · have e1 := MapKept.run_findKey (P := P) (w := W) hk h3
    simp [Instr.lookup, run_underlying ht, MapKept.run_getObj_map h1, e2, e1, hz, h4, Result.andThen]
  · have e1 := MapKept.run_findKey (P := P) (w := W) hk h3
    simp [Instr.lookup, run_underlying ht, MapKept.run_getObj_map h1, e2, e1, h4, Result.andThen]
theorem wpList_upd {P : Program} {w : World} {ops : Array Oper} {rest : List Oper} {o : Oper} {a : Act} {Q : Exit → Act → World → Prop}
    (hg : o.guard = none) (m x v : Operand) (t : TypeId) (hop : o.op = Op.mapUpdate t m x v ∨ o.op = Op.insert t m x v) (k e : TypeId) (ht : P.underlying t = some (.map k e)) (hk : P.underlying k = some .string)
    (b : Nat) (l : List (ByteArray × Value)) (s : ByteArray) (y : Value) (hm : a.eval m = .map (some b)) (hx : a.eval x = .string s) (hv : a.eval v = y) (h : MP w b l) (hs : lk l s = none)
    (hK : ∀ w', MP w' b (l ++ [(s, y)]) → Only b w w' → wpList P ops Q rest (a.put o.dst undef) w') : wpList P ops Q (o :: rest) a w := by
  refine wpList_plain hg fun K' hK' => ?_
  obtain ⟨w', hrun, r1, r2⟩ := run_upd ht hk h s y hs
  unfold Oper.wp
  rcases hop with hop | hop
  · simp [execOp, hop, hm, hx, hv, hrun, Result.andThen]
    exact hK' _ _ (hK w' r1 r2)
  · simp [execOp, hop, hm, hx, hv, hrun, Result.andThen]
    exact hK' _ _ (hK w' r1 r2)
theorem wpList_look {P : Program} {w : World} {ops : Array Oper} {rest : List Oper} {o : Oper} {a : Act} {Q : Exit → Act → World → Prop}
    (hg : o.guard = none) (m x : Operand) (t : TypeId) (hop : o.op = Op.lookup t m x true) (k e : TypeId) (ht : P.underlying t = some (.map k e)) (hk : P.underlying k = some .string)
    (b : Nat) (l : List (ByteArray × Value)) (s : ByteArray) (z : Value) (hm : a.eval m = .map (some b)) (hx : a.eval x = .string s) (h : MP w b l) (hz : (zeroValue e).run P w = .ok z w)
    (hK : wpList P ops Q rest (a.put o.dst (.tuple #[(lk l s).getD z, .bool (lk l s).isSome])) w) : wpList P ops Q (o :: rest) a w := by
  refine wpList_plain hg fun K' hK' => ?_
  have hrun := run_look ht hk h s hz
  unfold Oper.wp
  simp [execOp, hop, hm, hx, hrun, Result.andThen]
  exact hK' _ _ hK
end KD
end Go.Proofs.YtifabdnjdadkbaaDoor
