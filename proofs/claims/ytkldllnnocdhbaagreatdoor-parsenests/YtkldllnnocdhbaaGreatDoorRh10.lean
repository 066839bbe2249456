/-
  The small functions of the document's parser.
-/
import Derived.Test.YtkldllnnocdhbaaGreatDoorTail
import Derived.Laws.Tables
import Derived.Deep.Cut
import Derived.Laws.AppendOwn
namespace Go.Proofs.YtkldllnnocdhbaaGreatDoor
open Go

/- a world behind w -/
structure UW (w : World) where
  W : World
  up : Up w W
namespace TailR
theorem wp_region_seqC {P : Program} {id : Nat} {Q : Exit → Act → World → Prop} {a : Act} {w : World} {l : List Oper} (n : Nat) (C : World → Prop) (hC : C (w.drewN 1)) (hm : P.follows .mixedOrders = true) (hB : allB0 .any l.toArray n = true)
    (h : wpQuiet P l.toArray C (fun a' => ∀ w', C w' → wpList P l.toArray Q (l.drop n) a' w') (l.take n) a) : (Code.region id l.toArray true).wp P Q a w := by
  simp only [allB0, Bool.and_eq_true, decide_eq_true_eq] at hB
  obtain ⟨⟨⟨⟨hs, hW⟩, hL⟩, hT⟩, hn⟩ := hB
  have hsz : l.toArray.size = l.length := by simp
  rw [hsz] at hn hL hT
  have hl : (l.take n).length = n := by simp; omega
  have hd : (l.drop n).length = l.length - n := by simp
  refine wp_region_any hm ?_
  rw [hsz]
  have key := wpAnyU_lex (P := P) (md := .any) (C := C) (n := n) (R := fun a' => ∀ w', C w' → wpList P l.toArray Q (l.drop n) a' w') hs (l.take n) 0 (Array.replicate l.length false) a
    (fun j o' hj => by
      rw [List.getElem?_take] at hj
      split at hj
      · rw [Nat.zero_add]; simpa using hj
      · cases hj)
    (by rw [hl]; exact hL) h
  rw [hl] at key
  rw [show l.length = (l.drop n).length + n by rw [hd]; omega]
  refine wpAny_of_U (C := C) (t := (l.drop n).length) hW (fun L a' w' hRL hw' => ?_) n _ _ _ ?_ (fun k hk => by omega) hC (by rw [show (l.drop n).length + n = l.length by rw [hd]; omega]; exact key)
  · obtain ⟨rfl, hRL⟩ := hRL
    exact wpAny_tail (l.drop n) n _ a' w' (fun j o' hj => by
      rw [List.getElem?_drop] at hj
      simpa using hj) (by rw [hd]; exact hT) (hRL w' hw')
  · intro j hj o' ho' e he hb
    rw [rep_false] at hj
    cases hj
end TailR
end Go.Proofs.YtkldllnnocdhbaaGreatDoor
namespace Go.Proofs.YtkldllnnocdhbaaGreatDoor
open Go.RowKit
namespace TP
open TR (Nd Byt nums_inj)
open TK (Tok)
theorem wpList_world {P : Program} {ops : Array Oper} {rest : List Oper} {a : Act} {w : World} {Q : Exit → Act → World → Prop} {W : World} (h : w = W) (k : wpList P ops Q rest a W) : wpList P ops Q rest a w := by subst h; exact k
theorem calls_world {P : Program} {f : FuncId} {args : Array Value} {a b : World} {R : Ending → World → Prop} (h : a = b) (c : Calls P f args b R) : Calls P f args a R := by rw [h]; exact c
theorem setRow_heap (w : World) (g : Nat) (old : Array Value) (t : TypeId) (fr : Nat × Nat) (C : Array Value) (h : w.heap[g]? = some (.cells old t fr)) : (w.setRow g C).heap[g]? = some (.cells C t fr) := by
  simp only [World.setRow, Array.getElem?_modify]
  rw [if_pos trivial, h]
  rfl
theorem setRow_other (w : World) (g k : Nat) (C : Array Value) (h : k ≠ g) : (w.setRow g C).heap[k]? = w.heap[k]? := by
  simp only [World.setRow, Array.getElem?_modify]
  rw [if_neg (fun e => h e.symm)]
theorem wpList_load_rowG {P : Program} {ops : Array Oper} {rest : List Oper} {o : Oper} {a : Act} {w : World} {Q : Exit → Act → World → Prop} (hw : Region.wanted o (yielded ops a.tmps) = true) (ty : TypeId) (x : Operand) (ho : o.op = .load ty x)
    (g : Nat) (hx : a.eval x = .pointer (some ⟨g, 0, none⟩)) (t : TypeId) (cs : Array Value) (fr : Nat × Nat) (d : TypeDesc) (hg : w.heap[g]? = some (.cells cs t fr))
    (hu : P.underlying ty = some d) (hd : (match d with | .struct _ | .array _ _ => true | _ => false) = true) (hi : (P.info? ty).map (·.size) = some cs.size)
    (h : wpList P ops Q rest (a.put o.dst (.agg cs)) w) : wpList P ops Q (o :: rest) a w := by
  unfold wpList
  rw [if_pos hw]
  exact Or.inl (wp_load_row ty x ho g hx t cs fr d hg hu hd hi h)
theorem up_setRow {w W : World} {g : Nat} (h : Up w W) (hg : w.heap.size ≤ g) (C : Array Value) : Up w (W.setRow g C) := by
  refine ⟨h.os, h.tape, h.output, by have := h.size; simpa [World.setRow] using this, fun k hk => ?_⟩
  rw [← h.block k hk]
  simp only [World.setRow, Array.getElem?_modify]
  rw [if_neg (by omega)]
theorem row_setRow {w : World} {base e s n g : Nat} {v : Value} {xs : List Value} {old C : Array Value} {t : TypeId} {fr : Nat × Nat} (h : w.ownsRow base e s v n xs) (hg : w.heap[g]? = some (.cells old t fr)) (ht : e ≠ t) : (w.setRow g C).ownsRow base e s v n xs := by
  refine ⟨h.1, ?_⟩
  rcases h.2 with h0 | ⟨g', cap, cur, e1, e2, e3, e4⟩
  · exact .inl h0
  · refine .inr ⟨g', cap, cur, e1, e2, ?_, e4⟩
    rw [setRow_other]
    · exact e3
    · rintro rfl
      rw [e3] at hg
      simp only [Option.some.injEq, Obj.cells.injEq] at hg
      exact ht hg.2.1
theorem res_c2 {P : Program} {fn : Func} {p q r : Tmp} {ty : TypeId} (h : fn.results = #[.cell p ty, .tmp q, .tmp r]) (tmps : Array Value) (w : World) (g : Nat) (t : TypeId) (cs : Array Value) (fr : Nat × Nat) (d : TypeDesc) (x y : Value)
    (hp : tmps.getD p undef = .pointer (some ⟨g, 0, none⟩)) (hq : tmps.getD q undef = x) (hr : tmps.getD r undef = y) (hg : w.heap[g]? = some (.cells cs t fr))
    (hu : P.underlying ty = some d) (hd : (match d with | .struct _ | .array _ _ => true | _ => false) = true) (hi : (P.info? ty).map (·.size) = some cs.size) :
    (results fn tmps).run P w = .ok (.tuple #[.agg cs, x, y]) w := by
  have hp' : tmps[p]?.getD undef = .pointer (some ⟨g, 0, none⟩) := by simpa using hp
  have hq' : tmps[q]?.getD undef = x := by simpa using hq
  have hr' : tmps[r]?.getD undef = y := by simpa using hr
  simp [results, h, hp', hq', hr', asAddr, run_loadVar_row w g t ty cs fr d hg hu hd hi]
theorem res_c0 {P : Program} {fn : Func} {p : Tmp} {ty : TypeId} (h : fn.results = #[.cell p ty]) (tmps : Array Value) (w : World) (g : Nat) (t : TypeId) (cs : Array Value) (fr : Nat × Nat) (d : TypeDesc)
    (hp : tmps.getD p undef = .pointer (some ⟨g, 0, none⟩)) (hg : w.heap[g]? = some (.cells cs t fr))
    (hu : P.underlying ty = some d) (hd : (match d with | .struct _ | .array _ _ => true | _ => false) = true) (hi : (P.info? ty).map (·.size) = some cs.size) :
    (results fn tmps).run P w = .ok (.agg cs) w := by
  have hp' : tmps[p]?.getD undef = .pointer (some ⟨g, 0, none⟩) := by simpa using hp
  simp [results, h, hp', asAddr, run_loadVar_row w g t ty cs fr d hg hu hd hi]
theorem run_append_lc {P : Program} (w : World) (base : Nat) (t ty e : TypeId) (i : TypeInfo) (z : Value) (size bytes : Nat) (ht : P.underlying t = some (.slice e)) (hi : P.info? e = some i) (hz : i.zero = some z)
    (hsize : i.size = size) (hby : i.bytes = bytes) (hzs : z.cells.size = size) (hsz : 0 < size)
    (v : Value) (n : Nat) (xs : List Value) (hown : w.ownsRow base e size v n xs) (u : Value) (m : Nat) (cs : List Value) (hu : LC w u size m cs) (h1 : ∀ u ∈ cs, u.oneCell' = true)
    (h63 : n + m ≤ maxLen) (hbytes : (n + m) * bytes ≤ 140737488355328) (hbase : base ≤ w.heap.size) :
    ∃ v' w', (Builtin.append_ #[t, t] ty #[v, u]).run P w = .ok v' w' ∧ w'.ownsRow base e size v' (n + m) (xs ++ cs) ∧ w.grownBy w' v.ownBlock := by
  obtain ⟨hl, a, cap, rfl, -, hc⟩ := hu
  by_cases hm : m = 0
  · subst hm
    have hcs : cs = [] := List.eq_nil_of_length_eq_zero (by omega)
    subst hcs
    cases a with
    | some ad =>
      obtain ⟨v', w', h2, h3, h4, -⟩ := run_append_own (P := P) w base t ty e i z size bytes ht hi hz hsize hby hzs hsz v n xs hown ad 0 cap [] (by simp) (by simp) (by simp) h63 hbytes hbase
      exact ⟨v', w', h2, h3, h4⟩
    | none =>
      refine ⟨v, w, ?_, by simpa using hown, ⟨rfl, rfl, rfl, Nat.le_refl _, fun _ _ _ => rfl⟩⟩
      rcases hown.2 with ⟨rfl, rfl⟩ | ⟨g, cap, cur, rfl, _, _, hnc, _⟩
      · simp [Builtin.append_, run_underlying ht, sizeOf, typeInfo, hi, Builtin.lenOf, Builtin.firstCells]
      · simp [Builtin.append_, run_underlying ht, sizeOf, typeInfo, hi, Builtin.lenOf, Builtin.firstCells, hnc, storeCells]
  · obtain ⟨b, off, rfl, hcell⟩ := hc hm
    obtain ⟨v', w', h2, h3, h4, -⟩ := run_append_own (P := P) w base t ty e i z size bytes ht hi hz hsize hby hzs hsz v n xs hown ⟨b, off, none⟩ m cap cs hl (fun j u hj => by
      rw [Addr.add_mid]
      have : j < cs.length := (List.getElem?_eq_some_iff.1 hj).1
      rw [hcell j (by omega)]; exact hj) h1 h63 hbytes hbase
    exact ⟨v', w', h2, h3, h4⟩
theorem wpList_append_lc {P : Program} {w : World} {ops : Array Oper} {rest : List Oper} {o : Oper} {a : Act} {Q : Exit → Act → World → Prop} (hgd : o.guard = none) (s x : Operand) (t : TypeId)
    (ho : o.op = .call { callee := .builtin .append, args := #[s, x], argTypes := #[t, t] })
    (base : Nat) (e : TypeId) (i : TypeInfo) (z : Value) (size bytes : Nat) (ht : P.underlying t = some (.slice e)) (hi : P.info? e = some i) (hz : i.zero = some z)
    (hsize : i.size = size) (hby : i.bytes = bytes) (hzs : z.cells.size = size) (hsz : 0 < size)
    (v : Value) (n : Nat) (xs : List Value) (hs : a.eval s = v) (hown : w.ownsRow base e size v n xs) (u : Value) (m : Nat) (cs : List Value) (hx : a.eval x = u) (hu : LC w u size m cs) (h1 : ∀ u ∈ cs, u.oneCell' = true)
    (h63 : n + m ≤ maxLen) (hbytes : (n + m) * bytes ≤ 140737488355328) (hbase : base ≤ w.heap.size)
    (h : ∀ v' w', w'.ownsRow base e size v' (n + m) (xs ++ cs) → w.grownBy w' v.ownBlock → wpList P ops Q rest (a.put o.dst v') w') : wpList P ops Q (o :: rest) a w := by
  refine wpList_plain hgd fun K hK => ?_
  obtain ⟨v', w', hr, h2, h3⟩ := run_append_lc (P := P) w base t o.type e i z size bytes ht hi hz hsize hby hzs hsz v n xs hown u m cs hu h1 h63 hbytes hbase
  unfold Oper.wp execOp
  simp only [ho, resolve, invoke, builtin, Sem.run_bind, Sem.run_pure, Result.andThen_ok, List.map_toArray, List.map_cons, List.map_nil, hs, hx, hr]
  exact hK _ _ (h v' w' h2 h3)
theorem own_lc {W : World} {base e s n : Nat} {v : Value} {xs : List Value} (h : W.ownsRow base e s v n xs) : LC W v s n xs := by
  refine ⟨h.1, ?_⟩
  rcases h.2 with ⟨rfl, rfl⟩ | ⟨g, cap, cur, rfl, _, _, hnc, _⟩
  · exact ⟨none, 0, rfl, Nat.le_refl _, fun h => absurd rfl h⟩
  · exact ⟨some ⟨g, 0, none⟩, cap, rfl, hnc, fun _ => ⟨g, 0, rfl, fun j hj => by rw [Nat.zero_add]; exact h.cellAt j hj⟩⟩
theorem up_set1 {w W : World} (h : Up w W) {g : Nat} (j : Nat) (u : Value) (hg : w.heap.size ≤ g) : Up w (W.setCell ⟨g, j, none⟩ u) := (Only.up h).set j u |>.below hg (Nat.le_refl _)
def tz : Array Value := #[.int .i8 0, .string ⟨#[]⟩, .int .i64 0, .int .i64 0]
def tkA (t : Tok) : Array Value := #[.int .i8 t.kind, .string (strOfNums t.text), .int .i64 t.num, .int .i64 t.pos]
theorem tkA_one (t : Tok) : (tkA t).all (·.oneCell') = true := by simp [tkA, Value.oneCell']
theorem tz_one : tz.all (·.oneCell') = true := by simp [tz, Value.oneCell']
theorem infoTk : (Tryz.prog.info? 45).map (·.size) = some 4 := by kernel_rfl
theorem fld0 (a x y : Int) (s : ByteArray) : ∀ w, (Instr.field 45 (.agg #[.int .i8 a, .string s, .int .i64 x, .int .i64 y]) 0).run Tryz.prog w = .ok (.int .i8 a) w := fun w => by kernel_rfl
theorem fld1 (a x y : Int) (s : ByteArray) : ∀ w, (Instr.field 45 (.agg #[.int .i8 a, .string s, .int .i64 x, .int .i64 y]) 1).run Tryz.prog w = .ok (.string s) w := fun w => by kernel_rfl
theorem fld2 (a x y : Int) (s : ByteArray) : ∀ w, (Instr.field 45 (.agg #[.int .i8 a, .string s, .int .i64 x, .int .i64 y]) 2).run Tryz.prog w = .ok (.int .i64 x) w := fun w => by kernel_rfl
theorem fld3 (a x y : Int) (s : ByteArray) : ∀ w, (Instr.field 45 (.agg #[.int .i8 a, .string s, .int .i64 x, .int .i64 y]) 3).run Tryz.prog w = .ok (.int .i64 y) w := fun w => by kernel_rfl
end TP
end Go.Proofs.YtkldllnnocdhbaaGreatDoor
namespace Go.Proofs.YtkldllnnocdhbaaGreatDoor
open Go.RowKit
attribute [local go_sem ↓] Go.wp_at_zero Go.wp_at_succ
namespace TP
open TR (Nd Byt nums_inj)
open TK (Tok)
set_option maxRecDepth 100000 in
set_option maxHeartbeats 16000000 in
theorem now_ (w0 W : World) (b bt off n c i d : Nat) (l : List Tok) (hE : Ev w0 b bt off n c l) (ho : Only b w0 W) (hi : i < n) (e p : Int) (hP : PS W b bt off n c i d e p) : Calls Tryz.prog 31 #[.pointer (some ⟨b, 0, none⟩)] W fun r w' => r = .returned (.agg #[.int .i8 (tk l i).kind, .string (strOfNums (tk l i).text), .int .i64 (tk l i).num, .int .i64 (tk l i).pos]) ∧ Up W w' := by
  obtain ⟨a0, a1, a2, a3, a4, fz, hbl⟩ := hP.cells
  have hne : ¬ bt = b := hE.ne
  have hin : (i : Int) < (n : Int) := by omega
  obtain ⟨t0, t1, t2, t3⟩ := hE.tok ho hi
  have hcp := hE.cap
  obtain ⟨W0, hW0⟩ : ∃ W0, W.alloc (.cells tz 45) = W0 := ⟨_, rfl⟩
  have u0 : Up W W0 := by rw [← hW0]; exact (Up.refl _).alloc _
  have b0 := u0.cell a0
  have b1 := u0.cell a1
  have k0 := u0.cell t0
  have k1 := u0.cell t1
  have k2 := u0.cell t2
  have k3 := u0.cell t3
  have g0 : W0.heap[W.heap.size]? = some (.cells tz 45 (0, 0)) := by rw [← hW0]; exact heap_alloc_new _ _
  have HU0 : Hid (Up W W0) := u0
  have hone := tkA_one (tk l i)
  have HTA : Hid (tkA (tk l i) = #[.int .i8 (tk l i).kind, .string (strOfNums (tk l i).text), .int .i64 (tk l i).num, .int .i64 (tk l i).pos]) := rfl
  generalize tk l i = t at *
  have hW0b : W.alloc (.cells #[.int .i8 0, .string ⟨#[]⟩, .int .i64 0, .int .i64 0] 45) = W0 := hW0
  clear hE ho hP a0 a1 a2 a3 a4 t0 t1 t2 t3 u0 fz
  go_enter Tryz.func31, Tryz.ntmps31
  go_wp2_with fail
  try rw [hW0b]
  clear hW0 hW0b
  obtain ⟨g, hg⟩ : ∃ g, g = W.heap.size := ⟨_, rfl⟩
  rw [← hg] at g0 ⊢
  have HG : Hid (g = W.heap.size) := hg
  clear hg
  refine TailR.wp_region_seq 10 (by kernel_rfl) (by kernel_rfl) ?_
  simp only [List.take_succ_cons, List.take_zero, List.drop_succ_cons, List.drop_zero]
  repeat (go_big_quiet_step (fail))
  refine wpQuiet_nil ?_
  intro _ hw'
  obtain ⟨nq, hw''⟩ := hw'
  subst hw''
  have g1 : (W0.drewN nq).heap[g]? = some (.cells tz 45 (0, 0)) := g0
  obtain ⟨W9, hW9⟩ : ∃ W9, (W0.drewN nq).setRow g (tkA t) = W9 := ⟨_, rfl⟩
  have r9 : W9.heap[g]? = some (.cells (tkA t) 45 (0, 0)) := by rw [← hW9]; exact setRow_heap _ _ _ _ _ _ g1
  go_wp2_with (first | (refine wpList_store_row rfl 45 (.tmp 2) (.tmp 12) rfl g (tkA t) rfl rfl 45 tz g1 infoTk rfl hone ?_; refine wpList_world hW9 ?_))
  refine bodyPost_ret (v := .agg (tkA t)) (res_c0 (p := 2) (ty := 45) rfl _ _ g 45 (tkA t) (0, 0) _ rfl r9 Tryz.underlying45 rfl infoTk) rfl ?_
  refine ⟨rfl, ?_⟩
  rw [← hW9]
  exact up_setRow (HU0.out.drewN nq) (by rw [HG.out]; exact Nat.le_refl _) _
/- a fault at the token: the first one alone counts -/
set_option maxRecDepth 100000 in
set_option maxHeartbeats 16000000 in
theorem fail_ (w0 W : World) (b bt off n c i d : Nat) (l : List Tok) (hE : Ev w0 b bt off n c l) (ho : Only b w0 W) (hi : i < n) (er p : Int) (hP : PS W b bt off n c i d er p) (x : Int) : Calls Tryz.prog 35 #[.pointer (some ⟨b, 0, none⟩), .int .i64 x] W fun r w' => r = .returned (.tuple #[]) ∧ Only b W w' ∧ PS w' b bt off n c i d (if er = 0 then x else er) (if er = 0 then (tk l i).pos else p) := by
  obtain ⟨Post, hPost⟩ : ∃ P : Ending → World → Prop, P = fun r w' => r = .returned (.tuple #[]) ∧ Only b W w' ∧ PS w' b bt off n c i d (if er = 0 then x else er) (if er = 0 then (tk l i).pos else p) := ⟨_, rfl⟩
  rw [← hPost]
  have HPo : Hid (Post = fun r w' => r = .returned (.tuple #[]) ∧ Only b W w' ∧ PS w' b bt off n c i d (if er = 0 then x else er) (if er = 0 then (tk l i).pos else p)) := hPost
  clear hPost
  obtain ⟨a0, a1, a2, a3, a4, fz, hbl⟩ := hP.cells
  have hne : ¬ bt = b := hE.ne
  have hin : (i : Int) < (n : Int) := by omega
  have HP : Hid (PS W b bt off n c i d er p) := hP
  have HNW : Hid (∀ W2, Only b w0 W2 → PS W2 b bt off n c i d x p → Calls Tryz.prog 31 #[.pointer (some ⟨b, 0, none⟩)] W2 fun r w' => r = .returned (.agg #[.int .i8 (tk l i).kind, .string (strOfNums (tk l i).text), .int .i64 (tk l i).num, .int .i64 (tk l i).pos]) ∧ Up W2 w') := fun W2 h1 h2 => now_ w0 W2 b bt off n c i d l hE h1 hi x p h2
  have HO : Hid (Only b w0 W) := ho
  clear hE ho hP
  by_cases h0 : er = 0
  · subst h0
    rw [if_pos rfl, if_pos rfl] at HPo
    obtain ⟨W1, hW1⟩ : ∃ W1, W.setCell ⟨b, 3, none⟩ (.int .i64 x) = W1 := ⟨_, rfl⟩
    have HP1 : Hid (PS W1 b bt off n c i d x p) := by
      unfold Hid PS
      rw [← hW1]
      have h9 := set_cells (j := 3) (x := .int .i64 x) HP.out
      simpa using h9
    have HO1 : Hid (Only b W W1) := by unfold Hid; rw [← hW1]; exact (Only.refl b W).set 3 _
    have HC : Hid (Calls Tryz.prog 31 #[.pointer (some ⟨b, 0, none⟩)] W1 fun r w' => r = .returned (.agg #[.int .i8 (tk l i).kind, .string (strOfNums (tk l i).text), .int .i64 (tk l i).num, .int .i64 (tk l i).pos]) ∧ Up W1 w') := by
      unfold Hid
      exact HNW.out W1 (HO.out.trans HO1.out) HP1.out
    generalize tk l i = t at *
    clear HNW
    go_enter Tryz.func35, Tryz.ntmps35
    go_wp2_with fail
    first | (refine Calls.mono HC.out ?_) | (rw [hW1]; refine Calls.mono HC.out ?_)
    rintro r w1 ⟨rfl, u1⟩
    have HP2 : Hid (PS w1 b bt off n c i d x p) := HP1.out.up u1
    have HO2 : Hid (Only b W w1) := HO1.out.trans (Only.up u1)
    have b0 := HP2.out.cells
    obtain ⟨b0, b1, b2, b3, b4, fz1, hbl1⟩ := b0
    have f3 := fld3
    clear u1 hW1 a0 a1 a2 a3 a4 fz hbl
    go_wp2_with fail
    refine bodyPost_end (v := .tuple #[]) (by simp [results, Tryz.results35, go_sem]) rfl ?_
    rw [HPo.out]
    refine ⟨rfl, HO2.out.set 4 _, ?_⟩
    unfold PS
    have h9 := set_cells (j := 4) (x := .int .i64 t.pos) HP2.out
    simpa using h9
  · rw [if_neg h0, if_neg h0] at HPo
    have h1 : (er == 0) = false := by simpa using h0
    clear HNW
    go_enter Tryz.func35, Tryz.ntmps35
    go_wp2_with fail
    refine bodyPost_end (v := .tuple #[]) (by simp [results, Tryz.results35, go_sem]) rfl ?_
    rw [HPo.out]
    exact ⟨rfl, Only.refl _ _, HP.out⟩
end TP
end Go.Proofs.YtkldllnnocdhbaaGreatDoor
