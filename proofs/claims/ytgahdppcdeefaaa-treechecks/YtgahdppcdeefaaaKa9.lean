/-
  Maps from small numbers; the kinds of nodes as they lie in memory.
-/
import Derived.Test.YtgahdppcdeefaaaBase
import Derived.Test.YtgahdppcdeefaaaTd9
import Derived.Maps.Own
import Derived.Laws.BytesArg
namespace Go.Proofs.Ytgahdppcdeefaaa
open Go.RowKit
namespace TR
/- block m of W is a map from small numbers: what it holds, in the order in which it came -/
def MP (W : World) (m : Nat) (l : List (Int × Value)) : Prop := ∃ es clock, W.heap[m]? = some (.map es clock) ∧ es.toList.map (fun e => (e.key, e.val)) = l.map fun p => (Value.int .i8 p.1, p.2)
def lk (l : List (Int × Value)) (s : Int) : Option Value := (l.find? (fun p => decide (p.1 = s))).map (·.2)
theorem MP.lt {W : World} {m : Nat} {l : List (Int × Value)} (h : MP W m l) : m < W.heap.size := by
  obtain ⟨es, c, h1, _⟩ := h
  exact (Array.getElem?_eq_some_iff.1 h1).1
theorem MP.up {W W' : World} {m : Nat} {l : List (Int × Value)} (h : MP W m l) (u : Up W W') : MP W' m l := by
  obtain ⟨es, c, h1, h2⟩ := h
  exact ⟨es, c, u.heap h1, h2⟩
theorem mp_made (W : World) : MP (W.alloc (.map #[] 0)) W.heap.size [] := ⟨#[], 0, heap_alloc_new W _, rfl⟩
theorem findNow_mp (s : Int) : ∀ (es : List MapEntry) (l : List (Int × Value)) (i : Nat), es.map (fun e => (e.key, e.val)) = l.map (fun p => (Value.int .i8 p.1, p.2)) →
    (lk l s = none ∧ Instr.findNow (.int .i8) (.int .i8 s) es i = some none) ∨ ∃ j v, lk l s = some v ∧ Instr.findNow (.int .i8) (.int .i8 s) es i = some (some (j, v))
  | [], [], i, _ => .inl ⟨rfl, rfl⟩
  | [], _ :: _, i, h => by simp at h
  | _ :: _, [], i, h => by simp at h
  | e :: es, p :: l, i, h => by
    simp only [List.map_cons, List.cons.injEq, Prod.mk.injEq] at h
    obtain ⟨⟨h1, h2⟩, h3⟩ := h
    obtain ⟨r, hr, hiff⟩ := MapKept.sameNow_of_keys (d := .int .i8) (a := .int .i8 s) (b := .int .i8 p.1) (by trivial) (by trivial)
    by_cases hs : p.1 = s
    · have hr2 : r = true := hiff.2 (by rw [hs])
      subst hr2
      refine .inr ⟨i, p.2, by simp [lk, hs], ?_⟩
      simp only [Instr.findNow, h1, hr, h2]
    · have hr2 : r = false := by
        cases r with
        | false => rfl
        | true => have h9 := hiff.1 rfl; simp only [Value.int.injEq, true_and] at h9; exact absurd h9.symm hs
      subst hr2
      have e1 : lk (p :: l) s = lk l s := by simp [lk, hs]
      have e2 : Instr.findNow (.int .i8) (.int .i8 s) (e :: es) i = Instr.findNow (.int .i8) (.int .i8 s) es (i + 1) := by simp only [Instr.findNow, h1, hr]
      rw [e1, e2]
      exact findNow_mp s es l (i + 1) h3
theorem only_setObj {W : World} {m : Nat} (o : Obj) : Only m W { W with heap := W.heap.setIfInBounds m o } :=
  ⟨⟨rfl, rfl, rfl⟩, by simp, fun g _ hb => by simp [Ne.symm hb]⟩
theorem run_upd {P : Program} {t k e : TypeId} (ht : P.underlying t = some (.map k e)) (hk : P.underlying k = some (.int .i8)) {W : World} {m : Nat} {l : List (Int × Value)} (h : MP W m l) (s : Int) (v : Value) (hs : lk l s = none) :
    ∃ W', (Instr.mapUpdate t (.map (some m)) (.int .i8 s) v).run P W = .ok () W' ∧ MP W' m (l ++ [(s, v)]) ∧ Only m W W' := by
  have hl := h.lt
  obtain ⟨es, c, h1, h2⟩ := h
  refine ⟨{ W with heap := W.heap.setIfInBounds m (.map (es.push ⟨.int .i8 s, v, c⟩) (c + 1)) }, ?_, ⟨es.push ⟨.int .i8 s, v, c⟩, c + 1, by simp [hl], by simp [h2]⟩, only_setObj _⟩
  rcases findNow_mp s es.toList l 0 h2 with ⟨_, h3⟩ | ⟨j, v', h3, _⟩
  · have e1 := MapKept.run_findKey (P := P) (w := W) hk h3
    have e2 := MapKept.run_checkKey (P := P) (w := W) (k := .int .i8 s) hk (by trivial) false 9999
    simp [Instr.mapUpdate, run_underlying ht, MapKept.run_getObj_map h1, e2, e1, MapKept.run_setObj_map _ h1, Result.andThen]
  · rw [hs] at h3; cases h3
theorem run_look {P : Program} {t k e : TypeId} (ht : P.underlying t = some (.map k e)) (hk : P.underlying k = some (.int .i8)) {W : World} {m : Nat} {l : List (Int × Value)} (h : MP W m l) (s : Int) {z : Value} (hz : (zeroValue e).run P W = .ok z W) :
    (Instr.lookup t (.map (some m)) (.int .i8 s) false).run P W = .ok ((lk l s).getD z) W := by
  obtain ⟨es, c, h1, h2⟩ := h
  have e2 := fun b => MapKept.run_checkKey (P := P) (w := W) (k := .int .i8 s) hk (by trivial) b 9999
  rcases findNow_mp s es.toList l 0 h2 with ⟨h4, h3⟩ | ⟨j, v, h4, h3⟩
  · have e1 := MapKept.run_findKey (P := P) (w := W) hk h3
    simp [Instr.lookup, run_underlying ht, MapKept.run_getObj_map h1, e2, e1, hz, h4, Result.andThen]
  · have e1 := MapKept.run_findKey (P := P) (w := W) hk h3
    simp [Instr.lookup, run_underlying ht, MapKept.run_getObj_map h1, e2, e1, h4, Result.andThen]
theorem _root_.Go.Proofs.Ytgahdppcdeefaaa.Up.only {w W W' : World} {m : Nat} (u : Up w W) (o : Only m W W') (h : w.heap.size ≤ m) : Up w W' :=
  ⟨o.1.1.trans u.os, o.1.2.1.trans u.tape, o.1.2.2.trans u.output, Nat.le_trans u.size o.2.1, fun g hg => (o.2.2 g (Nat.lt_of_lt_of_le hg u.size) (by omega)).trans (u.block g hg)⟩
/- what stood in cells still stands there -/
def CP (W W' : World) : Prop := ∀ a v, W.cell? a = some v → W'.cell? a = some v
theorem CP.refl (W : World) : CP W W := fun _ _ h => h
theorem CP.trans {a b c : World} (h : CP a b) (k : CP b c) : CP a c := fun x v e => k x v (h x v e)
theorem up_cp {W W' : World} (u : Up W W') : CP W W' := fun _ _ h => u.cell h
theorem only_cp {W W' : World} {m : Nat} {l : List (Int × Value)} (h : MP W m l) (o : Only m W W') : CP W W' := fun a v e => by
  obtain ⟨es, c, h1, -⟩ := h
  have hlt : a.block < W.heap.size := by
    rcases Nat.lt_or_ge a.block W.heap.size with h9 | h9
    · exact h9
    · simp [World.cell?, Array.getElem?_eq_none h9] at e
  have hne : a.block ≠ m := fun h9 => by
    rw [World.cell?, h9, h1] at e
    simp at e
  unfold World.cell? at e ⊢
  rw [o.2.2 a.block hlt hne]
  exact e
def dp : Plc := ⟨0, 0⟩
def PS (W : World) (v : Value) (l : List Plc) : Prop := ∃ a c, v = .slice a l.length c ∧ l.length ≤ c ∧ (l.length ≠ 0 → ∃ g, a = some ⟨g, 0, none⟩ ∧ ∀ i, i < l.length → W.cell? ⟨g, i * 2, none⟩ = some (.int .i64 (l.getD i dp).takes) ∧ W.cell? ⟨g, i * 2 + 1, none⟩ = some (.int .i64 (l.getD i dp).rank))
theorem PS.cp {W W' : World} {v : Value} {l : List Plc} (h : PS W v l) (k : CP W W') : PS W' v l := by
  obtain ⟨a, c, h1, h2, h3⟩ := h
  refine ⟨a, c, h1, h2, fun h0 => ?_⟩
  obtain ⟨g, h4, h5⟩ := h3 h0
  exact ⟨g, h4, fun i hi => ⟨k _ _ (h5 i hi).1, k _ _ (h5 i hi).2⟩⟩
def WY (W : World) (v : Value) (l : List (List Plc)) : Prop := ∃ a, v = .slice a l.length l.length ∧ (l.length = 0 → a = none) ∧ (l.length ≠ 0 → ∃ g, a = some ⟨g, 0, none⟩ ∧ ∀ i, i < l.length → ∃ u, W.cell? ⟨g, i, none⟩ = some u ∧ PS W u (l.getD i []))
theorem WY.cp {W W' : World} {v : Value} {l : List (List Plc)} (h : WY W v l) (k : CP W W') : WY W' v l := by
  obtain ⟨a, h1, h2, h3⟩ := h
  refine ⟨a, h1, h2, fun h0 => ?_⟩
  obtain ⟨g, h4, h5⟩ := h3 h0
  refine ⟨g, h4, fun i hi => ?_⟩
  obtain ⟨u, h6, h7⟩ := h5 i hi
  exact ⟨u, k _ _ h6, h7.cp k⟩
def SS (W : World) (v : Value) (l : List (List Int)) : Prop := ∃ a c, v = .slice a l.length c ∧ l.length ≤ c ∧ (l.length ≠ 0 → ∃ g, a = some ⟨g, 0, none⟩ ∧ ∀ i, i < l.length → W.cell? ⟨g, i, none⟩ = some (.string (strOfNums (l.getD i []))))
theorem SS.cp {W W' : World} {v : Value} {l : List (List Int)} (h : SS W v l) (k : CP W W') : SS W' v l := by
  obtain ⟨a, c, h1, h2, h3⟩ := h
  refine ⟨a, c, h1, h2, fun h0 => ?_⟩
  obtain ⟨g, h4, h5⟩ := h3 h0
  exact ⟨g, h4, fun i hi => k _ _ (h5 i hi)⟩
def TxR (W : World) (x : Tx) (f : Value) : Prop := match x with
  | .none => f = .nilFunc
  | .txt => f = .func (.func 47) #[] #[]
  | .nam => f = .func (.func 60) #[] #[]
  | .free also => ∃ g u, f = .func (.func 65) #[] #[.pointer (some ⟨g, 0, none⟩)] ∧ W.cell? ⟨g, 0, none⟩ = some u ∧ SS W u also
theorem TxR.cp {W W' : World} {x : Tx} {f : Value} (h : TxR W x f) (k : CP W W') : TxR W' x f := by
  cases x with
  | none => exact h
  | txt => exact h
  | nam => exact h
  | free also =>
    obtain ⟨g, u, h1, h2, h3⟩ := h
    exact ⟨g, u, h1, k _ _ h2, h3.cp k⟩
def kvv (k : Kd) (f u : Value) : Value := .agg #[.int .i64 k.is, .int .i64 k.rank, .bool k.row, .int .i64 k.opens, .int .i64 k.most, f, .int .i64 k.each, u]
def KV (W : World) (k : Kd) (v : Value) : Prop := ∃ f u, v = kvv k f u ∧ TxR W k.text f ∧ WY W u k.ways
theorem KV.cp {W W' : World} {k : Kd} {v : Value} (h : KV W k v) (c : CP W W') : KV W' k v := by
  obtain ⟨f, u, h1, h2, h3⟩ := h
  exact ⟨f, u, h1, h2.cp c, h3.cp c⟩
/- the map holds these kinds -/
def TP (W : World) (m : Nat) (T : List (Int × Kd)) : Prop := ∃ l : List (Int × Value), MP W m l ∧ l.length = T.length ∧ ∀ i, i < T.length → (l.getD i (0, .nilFunc)).1 = (T.getD i (0, k0)).1 ∧ KV W (T.getD i (0, k0)).2 (l.getD i (0, .nilFunc)).2
theorem TP.up {W W' : World} {m : Nat} {T : List (Int × Kd)} (h : TP W m T) (u : Up W W') : TP W' m T := by
  obtain ⟨l, h1, h2, h3⟩ := h
  exact ⟨l, h1.up u, h2, fun i hi => ⟨(h3 i hi).1, (h3 i hi).2.cp (up_cp u)⟩⟩
theorem TP.lt {W : World} {m : Nat} {T : List (Int × Kd)} (h : TP W m T) : m < W.heap.size := by
  obtain ⟨l, h1, -⟩ := h
  exact h1.lt
theorem tp_made (W : World) : TP (W.alloc (.map #[] 0)) W.heap.size [] := ⟨[], mp_made W, rfl, fun i hi => by simp at hi⟩
theorem lk_rel {W : World} : ∀ (T : List (Int × Kd)) (l : List (Int × Value)), l.length = T.length → (∀ i, i < T.length → (l.getD i (0, .nilFunc)).1 = (T.getD i (0, k0)).1 ∧ KV W (T.getD i (0, k0)).2 (l.getD i (0, .nilFunc)).2) → ∀ op, (T.lookup op = none ∧ lk l op = none) ∨ ∃ k v, T.lookup op = some k ∧ lk l op = some v ∧ KV W k v
  | [], [], _, _, op => .inl ⟨rfl, rfl⟩
  | [], _ :: _, h, _, _ => by simp at h
  | _ :: _, [], h, _, _ => by simp at h
  | (a, k) :: T, (b, v) :: l, h, hi, op => by
    have h0 := hi 0 (by simp)
    have h1 : b = a := h0.1
    have h2 : KV W k v := h0.2
    subst h1
    by_cases e : op = b
    · subst e
      exact .inr ⟨k, v, by simp [List.lookup], by simp [lk], h2⟩
    · have ih := lk_rel T l (by simpa using h) (fun i h9 => by simpa using hi (i + 1) (by simpa using h9)) op
      have e1 : ((b, k) :: T).lookup op = T.lookup op := by rw [List.lookup_cons, show (op == b) = false by simpa using e]
      have e2 : lk ((b, v) :: l) op = lk l op := by simp [lk, Ne.symm e]
      rw [e1, e2]
      exact ih
theorem uMap : Try.prog.underlying 46 = some (.map 31 76) := by kernel_rfl
theorem uI8 : Try.prog.underlying 31 = some (.int .i8) := by kernel_rfl
theorem run_put {W : World} {m : Nat} {T : List (Int × Kd)} (h : TP W m T) (op : Int) (k : Kd) (v : Value) (hs : T.lookup op = none) (hk : KV W k v) :
    ∃ W', (Instr.mapUpdate 46 (.map (some m)) (.int .i8 op) v).run Try.prog W = .ok () W' ∧ TP W' m (T ++ [(op, k)]) ∧ Only m W W' ∧ CP W W' := by
  obtain ⟨l, h1, h2, h3⟩ := h
  have hn : lk l op = none := by
    rcases lk_rel T l h2 h3 op with h9 | ⟨k9, v9, h9, -⟩
    · exact h9.2
    · rw [hs] at h9; cases h9
  obtain ⟨W', r1, r2, r3⟩ := run_upd uMap uI8 h1 op v hn
  have c := only_cp h1 r3
  refine ⟨W', r1, ⟨l ++ [(op, v)], r2, by simp [h2], fun i hi => ?_⟩, r3, c⟩
  by_cases hl : i < T.length
  · have e1 : (l ++ [(op, v)]).getD i (0, .nilFunc) = l.getD i (0, .nilFunc) := by simp [List.getD, List.getElem?_append_left (show i < l.length by omega)]
    have e2 : (T ++ [(op, k)]).getD i (0, k0) = T.getD i (0, k0) := by simp [List.getD, List.getElem?_append_left hl]
    rw [e1, e2]
    exact ⟨(h3 i hl).1, (h3 i hl).2.cp c⟩
  · have hi2 : i = T.length := by simp at hi; omega
    have e1 : (l ++ [(op, v)]).getD i (0, .nilFunc) = (op, v) := by rw [hi2, ← h2]; simp [List.getD]
    have e2 : (T ++ [(op, k)]).getD i (0, k0) = (op, k) := by rw [hi2]; simp [List.getD]
    rw [e1, e2]
    exact ⟨rfl, hk.cp c⟩
theorem wpList_put {w w0 : World} {ops : Array Oper} {rest : List Oper} {o : Oper} {a : Act} {Q : Exit → Act → World → Prop}
    (hg : o.guard = none) (m x v : Operand) (hop : o.op = Op.mapUpdate 46 m x v ∨ o.op = Op.insert 46 m x v)
    (b : Nat) (T T' : List (Int × Kd)) (op : Int) (k : Kd) (y : Value) (hm : a.eval m = .map (some b)) (hx : a.eval x = .int .i8 op) (hv : a.eval v = y) (h : TP w b T) (hs : T.lookup op = none) (hT : T ++ [(op, k)] = T') (hk : KV w k y) (hu : Up w0 w) (hb : w0.heap.size ≤ b)
    (hK : ∀ w', TP w' b T' → CP w w' → Up w0 w' → wpList Try.prog ops Q rest (a.put o.dst undef) w') : wpList Try.prog ops Q (o :: rest) a w := by
  subst hT
  refine wpList_plain hg fun K' hK' => ?_
  obtain ⟨w', hrun, r1, r2, r3⟩ := run_put h op k y hs hk
  unfold Oper.wp
  rcases hop with hop | hop
  · simp [execOp, hop, hm, hx, hv, hrun, Result.andThen]
    exact hK' _ _ (hK w' r1 r3 (hu.only r2 hb))
  · simp [execOp, hop, hm, hx, hv, hrun, Result.andThen]
    exact hK' _ _ (hK w' r1 r3 (hu.only r2 hb))
theorem zkind : ∀ W, (zeroValue 76).run Try.prog W = .ok (kvv k0 .nilFunc (.slice none 0 0)) W := fun W => by kernel_rfl
/- what stands for an Op -/
theorem run_kd {W : World} {m : Nat} (h : TP W m tab) (op : Int) : ∃ v, KV W (kd op) v ∧ (Instr.lookup 46 (.map (some m)) (.int .i8 op) false).run Try.prog W = .ok v W := by
  obtain ⟨l, h1, h2, h3⟩ := h
  have hr := run_look uMap uI8 h1 op (zkind W)
  rcases lk_rel tab l h2 h3 op with ⟨h4, h5⟩ | ⟨k, v, h4, h5, h6⟩
  · refine ⟨kvv k0 .nilFunc (.slice none 0 0), ⟨.nilFunc, .slice none 0 0, ?_, ?_, ?_⟩, by rw [hr, h5]; rfl⟩
    · unfold kd; rw [h4]; rfl
    · unfold kd; rw [h4]; exact rfl
    · unfold kd; rw [h4]; exact ⟨none, rfl, fun _ => rfl, fun h9 => absurd rfl h9⟩
  · refine ⟨v, ?_, by rw [hr, h5]; rfl⟩
    unfold kd
    rw [h4]
    exact h6
end TR
end Go.Proofs.Ytgahdppcdeefaaa
