
/-
  The table of opcodes is made.
-/
import Derived.Test.YtoaaehgnbapibaaDoorWa16
import Derived.Deep.WholeRow
import Derived.Great.BuildSlice
namespace Go.Proofs.YtoaaehgnbapibaaDoor
open Go.RowKit
attribute [local go_sem ↓] Go.wp_at_zero Go.wp_at_succ
namespace CD
theorem wpList_world {P : Program} {ops : Array Oper} {rest : List Oper} {a : Act} {w : World} {Q : Exit → Act → World → Prop} {W : World} (h : w = W) (k : wpList P ops Q rest a W) : wpList P ops Q rest a w := by subst h; exact k
theorem calls_world {P : Program} {f : FuncId} {args : Array Value} {a b : World} {R : Ending → World → Prop} (h : a = b) (c : Calls P f args b R) : Calls P f args a R := by rw [h]; exact c
theorem setRow_heap (w : World) (g : Nat) (old : Array Value) (t : TypeId) (fr : Nat × Nat) (C : Array Value) (h : w.heap[g]? = some (.cells old t fr)) : (w.setRow g C).heap[g]? = some (.cells C t fr) := by
  simp only [World.setRow, Array.getElem?_modify]
  rw [if_pos trivial, h]
  rfl
theorem setRow_other (w : World) (g k : Nat) (C : Array Value) (h : k ≠ g) : (w.setRow g C).heap[k]? = w.heap[k]? := by
  simp only [World.setRow, Array.getElem?_modify]
  rw [if_neg (fun e => h e.symm)]
theorem wpList_load_rowG {P : Program} {ops : Array Oper} {rest : List Oper} {o : Oper} {a : Act} {w : World} {Q : Exit → Act → World → Prop} (hw : Region.wanted o (yielded ops a.tmps) = true) (ty : TypeId) (x : Operand) (ho : o.op = .load ty x)
    (g : Nat) (hx : a.eval x = .pointer (some ⟨g, 0, none⟩)) (t : TypeId) (cs : Array Value) (fr : Nat × Nat) (d : TypeDesc) (hg : w.heap[g]? = some (.cells cs t fr))
    (hu : P.underlying ty = some d) (hd : (match d with | .struct _ | .array _ _ => true | _ => false) = true) (hi : (P.info? ty).map (·.size) = some cs.size)
    (h : wpList P ops Q rest (a.put o.dst (.agg cs)) w) : wpList P ops Q (o :: rest) a w := by
  unfold wpList
  rw [if_pos hw]
  exact Or.inl (wp_load_row ty x ho g hx t cs fr d hg hu hd hi h)
theorem up_setRow {w W : World} {g : Nat} (h : Up w W) (hg : w.heap.size ≤ g) (C : Array Value) : Up w (W.setRow g C) := by
  refine ⟨h.os, h.tape, h.output, by have := h.size; simpa [World.setRow] using this, fun k hk => ?_⟩
  rw [← h.block k hk]
  simp only [World.setRow, Array.getElem?_modify]
  rw [if_neg (by omega)]
theorem res_c0 {P : Program} {fn : Func} {p : Tmp} {ty : TypeId} (h : fn.results = #[.cell p ty]) (tmps : Array Value) (w : World) (g : Nat) (t : TypeId) (cs : Array Value) (fr : Nat × Nat) (d : TypeDesc)
    (hp : tmps.getD p undef = .pointer (some ⟨g, 0, none⟩)) (hg : w.heap[g]? = some (.cells cs t fr))
    (hu : P.underlying ty = some d) (hd : (match d with | .struct _ | .array _ _ => true | _ => false) = true) (hi : (P.info? ty).map (·.size) = some cs.size) :
    (results fn tmps).run P w = .ok (.agg cs) w := by
  have hp' : tmps[p]?.getD undef = .pointer (some ⟨g, 0, none⟩) := by simpa using hp
  simp [results, h, hp', asAddr, run_loadVar_row w g t ty cs fr d hg hu hd hi]
theorem res_c1 {P : Program} {fn : Func} {p q : Tmp} {ty : TypeId} (h : fn.results = #[.cell p ty, .tmp q]) (tmps : Array Value) (w : World) (g : Nat) (t : TypeId) (cs : Array Value) (fr : Nat × Nat) (d : TypeDesc) (x : Value)
    (hp : tmps.getD p undef = .pointer (some ⟨g, 0, none⟩)) (hq : tmps.getD q undef = x) (hg : w.heap[g]? = some (.cells cs t fr))
    (hu : P.underlying ty = some d) (hd : (match d with | .struct _ | .array _ _ => true | _ => false) = true) (hi : (P.info? ty).map (·.size) = some cs.size) :
    (results fn tmps).run P w = .ok (.tuple #[.agg cs, x]) w := by
  have hp' : tmps[p]?.getD undef = .pointer (some ⟨g, 0, none⟩) := by simpa using hp
  have hq' : tmps[q]?.getD undef = x := by simpa using hq
  simp [results, h, hp', hq', asAddr, run_loadVar_row w g t ty cs fr d hg hu hd hi]

set_option maxRecDepth 100000 in
set_option maxHeartbeats 8000000 in
theorem bare_ (s : ByteArray) (W : World) : Calls Tryd.prog 73 #[.string s] W fun e w' => e = .returned (.agg #[.string s, .int .i64 0, .int .i64 0, .int .i64 0, .func (.func 88) #[] #[]]) ∧ Up W w' := by
  obtain ⟨Post, hPost⟩ : ∃ P : Ending → World → Prop, P = fun e w' => e = .returned (.agg #[.string s, .int .i64 0, .int .i64 0, .int .i64 0, .func (.func 88) #[] #[]]) ∧ Up W w' := ⟨_, rfl⟩
  rw [← hPost]
  have HPo : Hid (Post = fun e w' => e = .returned (.agg #[.string s, .int .i64 0, .int .i64 0, .int .i64 0, .func (.func 88) #[] #[]]) ∧ Up W w') := hPost
  clear hPost
  obtain ⟨hz, -⟩ := zero_of_info (P := Tryd.prog) infoRow
  obtain ⟨W0, hW0⟩ : ∃ W0, W.alloc (.cells (rwv ([], 0)) 78) = W0 := ⟨_, rfl⟩
  have g0 : W0.heap[W.heap.size]? = some (.cells (rwv ([], 0)) 78 (0, 0)) := by rw [← hW0]; exact heap_alloc_new _ _
  have HU0 : Hid (Up W W0) := by unfold Hid; rw [← hW0]; exact (Up.refl _).alloc _
  go_enter Tryd.func73, Tryd.ntmps73
  go_upto_region 1 with fail
  try rw [hW0]
  clear hW0 hz
  obtain ⟨g, hg⟩ : ∃ g, g = W.heap.size := ⟨_, rfl⟩
  have HG : Hid (g = W.heap.size) := hg
  rw [← hg] at g0 ⊢
  clear hg
  obtain ⟨W9, hW9⟩ : ∃ W9, W0.setRow g #[.string s, .int .i64 0, .int .i64 0, .int .i64 0, .func (.func 88) #[] #[]] = W9 := ⟨_, rfl⟩
  have r9 : W9.heap[g]? = some (.cells #[.string s, .int .i64 0, .int .i64 0, .int .i64 0, .func (.func 88) #[] #[]] 78 (0, 0)) := by rw [← hW9]; exact setRow_heap _ _ _ _ _ _ g0
  go_wp2_with (first | (refine wpList_store_row rfl 78 (.tmp 2) (.tmp 5) rfl g #[.string s, .int .i64 0, .int .i64 0, .int .i64 0, .func (.func 88) #[] #[]] rfl rfl 78 (rwv ([], 0)) g0 sizeRow rfl (by simp [Value.oneCell']) ?_; refine wpList_world hW9 ?_))
  refine bodyPost_ret (v := .agg #[.string s, .int .i64 0, .int .i64 0, .int .i64 0, .func (.func 88) #[] #[]]) (res_c0 (p := 2) (ty := 78) rfl _ _ g 78 #[.string s, .int .i64 0, .int .i64 0, .int .i64 0, .func (.func 88) #[] #[]] (0, 0) _ rfl r9 Tryd.underlying78 rfl sizeRow) rfl ?_
  rw [HPo.out]
  refine ⟨rfl, ?_⟩
  rw [← hW9]
  exact up_setRow HU0.out (by rw [HG.out]; exact Nat.le_refl _) _

set_option maxRecDepth 100000 in
set_option maxHeartbeats 8000000 in
theorem single_ (s : ByteArray) (W : World) : Calls Tryd.prog 74 #[.string s] W fun e w' => e = .returned (.agg #[.string s, .int .i64 1, .int .i64 0, .int .i64 0, .func (.func 89) #[] #[]]) ∧ Up W w' := by
  obtain ⟨Post, hPost⟩ : ∃ P : Ending → World → Prop, P = fun e w' => e = .returned (.agg #[.string s, .int .i64 1, .int .i64 0, .int .i64 0, .func (.func 89) #[] #[]]) ∧ Up W w' := ⟨_, rfl⟩
  rw [← hPost]
  have HPo : Hid (Post = fun e w' => e = .returned (.agg #[.string s, .int .i64 1, .int .i64 0, .int .i64 0, .func (.func 89) #[] #[]]) ∧ Up W w') := hPost
  clear hPost
  obtain ⟨hz, -⟩ := zero_of_info (P := Tryd.prog) infoRow
  obtain ⟨W0, hW0⟩ : ∃ W0, W.alloc (.cells (rwv ([], 0)) 78) = W0 := ⟨_, rfl⟩
  have g0 : W0.heap[W.heap.size]? = some (.cells (rwv ([], 0)) 78 (0, 0)) := by rw [← hW0]; exact heap_alloc_new _ _
  have HU0 : Hid (Up W W0) := by unfold Hid; rw [← hW0]; exact (Up.refl _).alloc _
  go_enter Tryd.func74, Tryd.ntmps74
  go_upto_region 1 with fail
  try rw [hW0]
  clear hW0 hz
  obtain ⟨g, hg⟩ : ∃ g, g = W.heap.size := ⟨_, rfl⟩
  have HG : Hid (g = W.heap.size) := hg
  rw [← hg] at g0 ⊢
  clear hg
  obtain ⟨W9, hW9⟩ : ∃ W9, W0.setRow g #[.string s, .int .i64 1, .int .i64 0, .int .i64 0, .func (.func 89) #[] #[]] = W9 := ⟨_, rfl⟩
  have r9 : W9.heap[g]? = some (.cells #[.string s, .int .i64 1, .int .i64 0, .int .i64 0, .func (.func 89) #[] #[]] 78 (0, 0)) := by rw [← hW9]; exact setRow_heap _ _ _ _ _ _ g0
  go_wp2_with (first | (refine wpList_store_row rfl 78 (.tmp 2) (.tmp 5) rfl g #[.string s, .int .i64 1, .int .i64 0, .int .i64 0, .func (.func 89) #[] #[]] rfl rfl 78 (rwv ([], 0)) g0 sizeRow rfl (by simp [Value.oneCell']) ?_; refine wpList_world hW9 ?_))
  refine bodyPost_ret (v := .agg #[.string s, .int .i64 1, .int .i64 0, .int .i64 0, .func (.func 89) #[] #[]]) (res_c0 (p := 2) (ty := 78) rfl _ _ g 78 #[.string s, .int .i64 1, .int .i64 0, .int .i64 0, .func (.func 89) #[] #[]] (0, 0) _ rfl r9 Tryd.underlying78 rfl sizeRow) rfl ?_
  rw [HPo.out]
  refine ⟨rfl, ?_⟩
  rw [← hW9]
  exact up_setRow HU0.out (by rw [HG.out]; exact Nat.le_refl _) _

set_option maxRecDepth 100000 in
set_option maxHeartbeats 8000000 in
theorem double_ (s : ByteArray) (W : World) : Calls Tryd.prog 72 #[.string s] W fun e w' => e = .returned (.agg #[.string s, .int .i64 2, .int .i64 0, .int .i64 0, .func (.func 86) #[] #[]]) ∧ Up W w' := by
  obtain ⟨Post, hPost⟩ : ∃ P : Ending → World → Prop, P = fun e w' => e = .returned (.agg #[.string s, .int .i64 2, .int .i64 0, .int .i64 0, .func (.func 86) #[] #[]]) ∧ Up W w' := ⟨_, rfl⟩
  rw [← hPost]
  have HPo : Hid (Post = fun e w' => e = .returned (.agg #[.string s, .int .i64 2, .int .i64 0, .int .i64 0, .func (.func 86) #[] #[]]) ∧ Up W w') := hPost
  clear hPost
  obtain ⟨hz, -⟩ := zero_of_info (P := Tryd.prog) infoRow
  obtain ⟨W0, hW0⟩ : ∃ W0, W.alloc (.cells (rwv ([], 0)) 78) = W0 := ⟨_, rfl⟩
  have g0 : W0.heap[W.heap.size]? = some (.cells (rwv ([], 0)) 78 (0, 0)) := by rw [← hW0]; exact heap_alloc_new _ _
  have HU0 : Hid (Up W W0) := by unfold Hid; rw [← hW0]; exact (Up.refl _).alloc _
  go_enter Tryd.func72, Tryd.ntmps72
  go_upto_region 1 with fail
  try rw [hW0]
  clear hW0 hz
  obtain ⟨g, hg⟩ : ∃ g, g = W.heap.size := ⟨_, rfl⟩
  have HG : Hid (g = W.heap.size) := hg
  rw [← hg] at g0 ⊢
  clear hg
  obtain ⟨W9, hW9⟩ : ∃ W9, W0.setRow g #[.string s, .int .i64 2, .int .i64 0, .int .i64 0, .func (.func 86) #[] #[]] = W9 := ⟨_, rfl⟩
  have r9 : W9.heap[g]? = some (.cells #[.string s, .int .i64 2, .int .i64 0, .int .i64 0, .func (.func 86) #[] #[]] 78 (0, 0)) := by rw [← hW9]; exact setRow_heap _ _ _ _ _ _ g0
  go_wp2_with (first | (refine wpList_store_row rfl 78 (.tmp 2) (.tmp 5) rfl g #[.string s, .int .i64 2, .int .i64 0, .int .i64 0, .func (.func 86) #[] #[]] rfl rfl 78 (rwv ([], 0)) g0 sizeRow rfl (by simp [Value.oneCell']) ?_; refine wpList_world hW9 ?_))
  refine bodyPost_ret (v := .agg #[.string s, .int .i64 2, .int .i64 0, .int .i64 0, .func (.func 86) #[] #[]]) (res_c0 (p := 2) (ty := 78) rfl _ _ g 78 #[.string s, .int .i64 2, .int .i64 0, .int .i64 0, .func (.func 86) #[] #[]] (0, 0) _ rfl r9 Tryd.underlying78 rfl sizeRow) rfl ?_
  rw [HPo.out]
  refine ⟨rfl, ?_⟩
  rw [← hW9]
  exact up_setRow HU0.out (by rw [HG.out]; exact Nat.le_refl _) _

set_option maxRecDepth 100000 in
set_option maxHeartbeats 8000000 in
theorem triple_ (s : ByteArray) (W : World) : Calls Tryd.prog 75 #[.string s] W fun e w' => e = .returned (.agg #[.string s, .int .i64 1, .int .i64 1, .int .i64 2, .func (.func 90) #[] #[]]) ∧ Up W w' := by
  obtain ⟨Post, hPost⟩ : ∃ P : Ending → World → Prop, P = fun e w' => e = .returned (.agg #[.string s, .int .i64 1, .int .i64 1, .int .i64 2, .func (.func 90) #[] #[]]) ∧ Up W w' := ⟨_, rfl⟩
  rw [← hPost]
  have HPo : Hid (Post = fun e w' => e = .returned (.agg #[.string s, .int .i64 1, .int .i64 1, .int .i64 2, .func (.func 90) #[] #[]]) ∧ Up W w') := hPost
  clear hPost
  obtain ⟨hz, -⟩ := zero_of_info (P := Tryd.prog) infoRow
  obtain ⟨W0, hW0⟩ : ∃ W0, W.alloc (.cells (rwv ([], 0)) 78) = W0 := ⟨_, rfl⟩
  have g0 : W0.heap[W.heap.size]? = some (.cells (rwv ([], 0)) 78 (0, 0)) := by rw [← hW0]; exact heap_alloc_new _ _
  have HU0 : Hid (Up W W0) := by unfold Hid; rw [← hW0]; exact (Up.refl _).alloc _
  go_enter Tryd.func75, Tryd.ntmps75
  go_upto_region 1 with fail
  try rw [hW0]
  clear hW0 hz
  obtain ⟨g, hg⟩ : ∃ g, g = W.heap.size := ⟨_, rfl⟩
  have HG : Hid (g = W.heap.size) := hg
  rw [← hg] at g0 ⊢
  clear hg
  obtain ⟨W9, hW9⟩ : ∃ W9, W0.setRow g #[.string s, .int .i64 1, .int .i64 1, .int .i64 2, .func (.func 90) #[] #[]] = W9 := ⟨_, rfl⟩
  have r9 : W9.heap[g]? = some (.cells #[.string s, .int .i64 1, .int .i64 1, .int .i64 2, .func (.func 90) #[] #[]] 78 (0, 0)) := by rw [← hW9]; exact setRow_heap _ _ _ _ _ _ g0
  go_wp2_with (first | (refine wpList_store_row rfl 78 (.tmp 2) (.tmp 5) rfl g #[.string s, .int .i64 1, .int .i64 1, .int .i64 2, .func (.func 90) #[] #[]] rfl rfl 78 (rwv ([], 0)) g0 sizeRow rfl (by simp [Value.oneCell']) ?_; refine wpList_world hW9 ?_))
  refine bodyPost_ret (v := .agg #[.string s, .int .i64 1, .int .i64 1, .int .i64 2, .func (.func 90) #[] #[]]) (res_c0 (p := 2) (ty := 78) rfl _ _ g 78 #[.string s, .int .i64 1, .int .i64 1, .int .i64 2, .func (.func 90) #[] #[]] (0, 0) _ rfl r9 Tryd.underlying78 rfl sizeRow) rfl ?_
  rw [HPo.out]
  refine ⟨rfl, ?_⟩
  rw [← hW9]
  exact up_setRow HU0.out (by rw [HG.out]; exact Nat.le_refl _) _

theorem fnv1 : fnv 1 = .func (.func 88) #[] #[] := rfl
theorem fnv2 : fnv 2 = .func (.func 89) #[] #[] := rfl
theorem fnv3 : fnv 3 = .func (.func 86) #[] #[] := rfl
theorem fnv4 : fnv 4 = .func (.func 90) #[] #[] := rfl
set_option maxRecDepth 100000 in
set_option maxHeartbeats 16000000 in
theorem opcodes_ (W : World) : Calls Tryd.prog 32 #[] W fun e w' => e = .returned (.agg TBL) ∧ Up W w' := by
  obtain ⟨Post, hPost⟩ : ∃ P : Ending → World → Prop, P = fun e w' => e = .returned (.agg TBL) ∧ Up W w' := ⟨_, rfl⟩
  rw [← hPost]
  have HPo : Hid (Post = fun e w' => e = .returned (.agg TBL) ∧ Up W w') := hPost
  clear hPost
  obtain ⟨hz, -⟩ := zero_of_info (P := Tryd.prog) infoTbl
  obtain ⟨W0, hW0⟩ : ∃ W0, W.alloc (.cells TBZ 80) = W0 := ⟨_, rfl⟩
  have G0 : Hid (W0.heap[W.heap.size]? = some (.cells TBZ 80 (0, 0))) := by unfold Hid; rw [← hW0]; exact heap_alloc_new _ _
  have HU0 : Hid (Up W W0) := by unfold Hid; rw [← hW0]; exact (Up.refl _).alloc _
  obtain ⟨g, hg⟩ : ∃ g, g = W.heap.size := ⟨_, rfl⟩
  have HG : Hid (g = W.heap.size) := hg
  rw [← hg] at G0
  go_enter Tryd.func32, Tryd.ntmps32
  go_upto_region 1 with fail
  try rw [hW0]
  try rw [← hg]
  clear hW0 hz hg
  have HB : Hid _ := double_ ⟨#[112, 117, 115, 104]⟩ W0
  go_wp2_with fail
  refine Calls.mono HB.out ?_
  rintro r W1 ⟨rfl, u⟩
  have HU1 : Hid (Up W W1) := HU0.out.trans u
  have G1 : Hid (W1.heap[g]? = some (.cells TBZ 80 (0, 0))) := u.heap G0.out
  clear u HB HU0 G0
  have HB : Hid _ := bare_ ⟨#[116, 114, 117, 101]⟩ W1
  go_wp2_with fail
  refine Calls.mono HB.out ?_
  rintro r W2 ⟨rfl, u⟩
  have HU2 : Hid (Up W W2) := HU1.out.trans u
  have G2 : Hid (W2.heap[g]? = some (.cells TBZ 80 (0, 0))) := u.heap G1.out
  clear u HB HU1 G1
  have HB : Hid _ := bare_ ⟨#[102, 97, 108, 115, 101]⟩ W2
  go_wp2_with fail
  refine Calls.mono HB.out ?_
  rintro r W3 ⟨rfl, u⟩
  have HU3 : Hid (Up W W3) := HU2.out.trans u
  have G3 : Hid (W3.heap[g]? = some (.cells TBZ 80 (0, 0))) := u.heap G2.out
  clear u HB HU2 G2
  have HB : Hid _ := single_ ⟨#[108, 111, 97, 100]⟩ W3
  go_wp2_with fail
  refine Calls.mono HB.out ?_
  rintro r W4 ⟨rfl, u⟩
  have HU4 : Hid (Up W W4) := HU3.out.trans u
  have G4 : Hid (W4.heap[g]? = some (.cells TBZ 80 (0, 0))) := u.heap G3.out
  clear u HB HU3 G3
  have HB : Hid _ := single_ ⟨#[115, 116, 111, 114, 101]⟩ W4
  go_wp2_with fail
  refine Calls.mono HB.out ?_
  rintro r W5 ⟨rfl, u⟩
  have HU5 : Hid (Up W W5) := HU4.out.trans u
  have G5 : Hid (W5.heap[g]? = some (.cells TBZ 80 (0, 0))) := u.heap G4.out
  clear u HB HU4 G4
  have HB : Hid _ := bare_ ⟨#[97, 100, 100]⟩ W5
  go_wp2_with fail
  refine Calls.mono HB.out ?_
  rintro r W6 ⟨rfl, u⟩
  have HU6 : Hid (Up W W6) := HU5.out.trans u
  have G6 : Hid (W6.heap[g]? = some (.cells TBZ 80 (0, 0))) := u.heap G5.out
  clear u HB HU5 G5
  have HB : Hid _ := bare_ ⟨#[115, 117, 98]⟩ W6
  go_wp2_with fail
  refine Calls.mono HB.out ?_
  rintro r W7 ⟨rfl, u⟩
  have HU7 : Hid (Up W W7) := HU6.out.trans u
  have G7 : Hid (W7.heap[g]? = some (.cells TBZ 80 (0, 0))) := u.heap G6.out
  clear u HB HU6 G6
  have HB : Hid _ := bare_ ⟨#[109, 117, 108]⟩ W7
  go_wp2_with fail
  refine Calls.mono HB.out ?_
  rintro r W8 ⟨rfl, u⟩
  have HU8 : Hid (Up W W8) := HU7.out.trans u
  have G8 : Hid (W8.heap[g]? = some (.cells TBZ 80 (0, 0))) := u.heap G7.out
  clear u HB HU7 G7
  have HB : Hid _ := bare_ ⟨#[100, 105, 118]⟩ W8
  go_wp2_with fail
  refine Calls.mono HB.out ?_
  rintro r W9 ⟨rfl, u⟩
  have HU9 : Hid (Up W W9) := HU8.out.trans u
  have G9 : Hid (W9.heap[g]? = some (.cells TBZ 80 (0, 0))) := u.heap G8.out
  clear u HB HU8 G8
  have HB : Hid _ := bare_ ⟨#[114, 101, 109]⟩ W9
  go_wp2_with fail
  refine Calls.mono HB.out ?_
  rintro r W10 ⟨rfl, u⟩
  have HU10 : Hid (Up W W10) := HU9.out.trans u
  have G10 : Hid (W10.heap[g]? = some (.cells TBZ 80 (0, 0))) := u.heap G9.out
  clear u HB HU9 G9
  have HB : Hid _ := bare_ ⟨#[110, 101, 103]⟩ W10
  go_wp2_with fail
  refine Calls.mono HB.out ?_
  rintro r W11 ⟨rfl, u⟩
  have HU11 : Hid (Up W W11) := HU10.out.trans u
  have G11 : Hid (W11.heap[g]? = some (.cells TBZ 80 (0, 0))) := u.heap G10.out
  clear u HB HU10 G10
  have HB : Hid _ := bare_ ⟨#[97, 98, 115]⟩ W11
  go_wp2_with fail
  refine Calls.mono HB.out ?_
  rintro r W12 ⟨rfl, u⟩
  have HU12 : Hid (Up W W12) := HU11.out.trans u
  have G12 : Hid (W12.heap[g]? = some (.cells TBZ 80 (0, 0))) := u.heap G11.out
  clear u HB HU11 G11
  have HB : Hid _ := bare_ ⟨#[109, 105, 110]⟩ W12
  go_wp2_with fail
  refine Calls.mono HB.out ?_
  rintro r W13 ⟨rfl, u⟩
  have HU13 : Hid (Up W W13) := HU12.out.trans u
  have G13 : Hid (W13.heap[g]? = some (.cells TBZ 80 (0, 0))) := u.heap G12.out
  clear u HB HU12 G12
  have HB : Hid _ := bare_ ⟨#[109, 97, 120]⟩ W13
  go_wp2_with fail
  refine Calls.mono HB.out ?_
  rintro r W14 ⟨rfl, u⟩
  have HU14 : Hid (Up W W14) := HU13.out.trans u
  have G14 : Hid (W14.heap[g]? = some (.cells TBZ 80 (0, 0))) := u.heap G13.out
  clear u HB HU13 G13
  have HB : Hid _ := bare_ ⟨#[108, 116]⟩ W14
  go_wp2_with fail
  refine Calls.mono HB.out ?_
  rintro r W15 ⟨rfl, u⟩
  have HU15 : Hid (Up W W15) := HU14.out.trans u
  have G15 : Hid (W15.heap[g]? = some (.cells TBZ 80 (0, 0))) := u.heap G14.out
  clear u HB HU14 G14
  have HB : Hid _ := bare_ ⟨#[108, 101]⟩ W15
  go_wp2_with fail
  refine Calls.mono HB.out ?_
  rintro r W16 ⟨rfl, u⟩
  have HU16 : Hid (Up W W16) := HU15.out.trans u
  have G16 : Hid (W16.heap[g]? = some (.cells TBZ 80 (0, 0))) := u.heap G15.out
  clear u HB HU15 G15
  have HB : Hid _ := bare_ ⟨#[103, 116]⟩ W16
  go_wp2_with fail
  refine Calls.mono HB.out ?_
  rintro r W17 ⟨rfl, u⟩
  have HU17 : Hid (Up W W17) := HU16.out.trans u
  have G17 : Hid (W17.heap[g]? = some (.cells TBZ 80 (0, 0))) := u.heap G16.out
  clear u HB HU16 G16
  have HB : Hid _ := bare_ ⟨#[103, 101]⟩ W17
  go_wp2_with fail
  refine Calls.mono HB.out ?_
  rintro r W18 ⟨rfl, u⟩
  have HU18 : Hid (Up W W18) := HU17.out.trans u
  have G18 : Hid (W18.heap[g]? = some (.cells TBZ 80 (0, 0))) := u.heap G17.out
  clear u HB HU17 G17
  have HB : Hid _ := bare_ ⟨#[110, 111, 116]⟩ W18
  go_wp2_with fail
  refine Calls.mono HB.out ?_
  rintro r W19 ⟨rfl, u⟩
  have HU19 : Hid (Up W W19) := HU18.out.trans u
  have G19 : Hid (W19.heap[g]? = some (.cells TBZ 80 (0, 0))) := u.heap G18.out
  clear u HB HU18 G18
  have HB : Hid _ := single_ ⟨#[101, 113]⟩ W19
  go_wp2_with fail
  refine Calls.mono HB.out ?_
  rintro r W20 ⟨rfl, u⟩
  have HU20 : Hid (Up W W20) := HU19.out.trans u
  have G20 : Hid (W20.heap[g]? = some (.cells TBZ 80 (0, 0))) := u.heap G19.out
  clear u HB HU19 G19
  have HB : Hid _ := double_ ⟨#[106, 117, 109, 112]⟩ W20
  go_wp2_with fail
  refine Calls.mono HB.out ?_
  rintro r W21 ⟨rfl, u⟩
  have HU21 : Hid (Up W W21) := HU20.out.trans u
  have G21 : Hid (W21.heap[g]? = some (.cells TBZ 80 (0, 0))) := u.heap G20.out
  clear u HB HU20 G20
  have HB : Hid _ := double_ ⟨#[117, 110, 108, 101, 115, 115]⟩ W21
  go_wp2_with fail
  refine Calls.mono HB.out ?_
  rintro r W22 ⟨rfl, u⟩
  have HU22 : Hid (Up W W22) := HU21.out.trans u
  have G22 : Hid (W22.heap[g]? = some (.cells TBZ 80 (0, 0))) := u.heap G21.out
  clear u HB HU21 G21
  have HB : Hid _ := triple_ ⟨#[101, 97, 99, 104]⟩ W22
  go_wp2_with fail
  refine Calls.mono HB.out ?_
  rintro r W23 ⟨rfl, u⟩
  have HU23 : Hid (Up W W23) := HU22.out.trans u
  have G23 : Hid (W23.heap[g]? = some (.cells TBZ 80 (0, 0))) := u.heap G22.out
  clear u HB HU22 G22
  have HB : Hid _ := double_ ⟨#[99, 104, 111, 111, 115, 101]⟩ W23
  go_wp2_with fail
  refine Calls.mono HB.out ?_
  rintro r W24 ⟨rfl, u⟩
  have HU24 : Hid (Up W W24) := HU23.out.trans u
  have G24 : Hid (W24.heap[g]? = some (.cells TBZ 80 (0, 0))) := u.heap G23.out
  clear u HB HU23 G23
  have HB : Hid _ := bare_ ⟨#[115, 116, 111, 112]⟩ W24
  go_wp2_with fail
  refine Calls.mono HB.out ?_
  rintro r W25 ⟨rfl, u⟩
  have HU25 : Hid (Up W W25) := HU24.out.trans u
  have G25 : Hid (W25.heap[g]? = some (.cells TBZ 80 (0, 0))) := u.heap G24.out
  clear u HB HU24 G24
  have HB : Hid _ := bare_ ⟨#[97, 98, 111, 114, 116]⟩ W25
  go_wp2_with fail
  refine Calls.mono HB.out ?_
  rintro r W26 ⟨rfl, u⟩
  have HU26 : Hid (Up W W26) := HU25.out.trans u
  have G26 : Hid (W26.heap[g]? = some (.cells TBZ 80 (0, 0))) := u.heap G25.out
  clear u HB HU25 G25
  have HB : Hid _ := bare_ ⟨#[110, 101, 120, 116]⟩ W26
  go_wp2_with fail
  refine Calls.mono HB.out ?_
  rintro r W27 ⟨rfl, u⟩
  have HU27 : Hid (Up W W27) := HU26.out.trans u
  have G27 : Hid (W27.heap[g]? = some (.cells TBZ 80 (0, 0))) := u.heap G26.out
  clear u HB HU26 G26
  have HB : Hid _ := single_ ⟨#[122, 111, 110, 101]⟩ W27
  go_wp2_with fail
  refine Calls.mono HB.out ?_
  rintro r W28 ⟨rfl, u⟩
  have HU28 : Hid (Up W W28) := HU27.out.trans u
  have G28 : Hid (W28.heap[g]? = some (.cells TBZ 80 (0, 0))) := u.heap G27.out
  clear u HB HU27 G27
  have HB : Hid _ := bare_ ⟨#[114, 97, 110, 100, 111, 109]⟩ W28
  go_wp2_with fail
  refine Calls.mono HB.out ?_
  rintro r W29 ⟨rfl, u⟩
  have HU29 : Hid (Up W W29) := HU28.out.trans u
  have G29 : Hid (W29.heap[g]? = some (.cells TBZ 80 (0, 0))) := u.heap G28.out
  clear u HB HU28 G28
  have HB : Hid _ := bare_ ⟨#[116, 111, 112]⟩ W29
  go_wp2_with fail
  refine Calls.mono HB.out ?_
  rintro r W30 ⟨rfl, u⟩
  have HU30 : Hid (Up W W30) := HU29.out.trans u
  have G30 : Hid (W30.heap[g]? = some (.cells TBZ 80 (0, 0))) := u.heap G29.out
  clear u HB HU29 G29
  have HB : Hid _ := bare_ ⟨#[104, 97, 115]⟩ W30
  go_wp2_with fail
  refine Calls.mono HB.out ?_
  rintro r W31 ⟨rfl, u⟩
  have HU31 : Hid (Up W W31) := HU30.out.trans u
  have G31 : Hid (W31.heap[g]? = some (.cells TBZ 80 (0, 0))) := u.heap G30.out
  clear u HB HU30 G30
  have HB : Hid _ := double_ ⟨#[105, 115]⟩ W31
  go_wp2_with fail
  refine Calls.mono HB.out ?_
  rintro r W32 ⟨rfl, u⟩
  have HU32 : Hid (Up W W32) := HU31.out.trans u
  have G32 : Hid (W32.heap[g]? = some (.cells TBZ 80 (0, 0))) := u.heap G31.out
  clear u HB HU31 G31
  have HB : Hid _ := single_ ⟨#[102, 105, 101, 108, 100]⟩ W32
  go_wp2_with fail
  refine Calls.mono HB.out ?_
  rintro r W33 ⟨rfl, u⟩
  have HU33 : Hid (Up W W33) := HU32.out.trans u
  have G33 : Hid (W33.heap[g]? = some (.cells TBZ 80 (0, 0))) := u.heap G32.out
  clear u HB HU32 G32
  have HB : Hid _ := single_ ⟨#[100, 111]⟩ W33
  go_wp2_with fail
  refine Calls.mono HB.out ?_
  rintro r W34 ⟨rfl, u⟩
  have HU34 : Hid (Up W W34) := HU33.out.trans u
  have G34 : Hid (W34.heap[g]? = some (.cells TBZ 80 (0, 0))) := u.heap G33.out
  clear u HB HU33 G33
  have hbt : ∀ x : Value, True := fun _ => trivial
  obtain ⟨W9, hW9⟩ : ∃ W9, W34.setRow g TBL = W9 := ⟨_, rfl⟩
  have r9 : W9.heap[g]? = some (.cells TBL 80 (0, 0)) := by rw [← hW9]; exact setRow_heap _ _ _ _ _ _ G34.out
  clear hbt
  go_wp2_with (first | (refine Go.wpList_buildTo rfl 80 _ rfl (some 35) rfl TBL (by kernel_rfl) ?_) | (refine wpList_store_row rfl 80 (.tmp 0) (.tmp 35) rfl g TBL rfl rfl 80 TBZ G34.out (by rw [tbl_size]; exact sizeTbl) (by rw [tbl_size, tbz_size]) tbl_one ?_; refine wpList_world hW9 ?_))
  refine bodyPost_ret (v := .agg TBL) (res_c0 (p := 0) (ty := 80) rfl _ _ g 80 TBL (0, 0) _ rfl r9 Tryd.underlying80 rfl (by rw [tbl_size]; exact sizeTbl)) rfl ?_
  rw [HPo.out]
  refine ⟨rfl, ?_⟩
  rw [← hW9]
  exact up_setRow HU34.out (by rw [HG.out]; exact Nat.le_refl _) _
end CD
end Go.Proofs.YtoaaehgnbapibaaDoor
