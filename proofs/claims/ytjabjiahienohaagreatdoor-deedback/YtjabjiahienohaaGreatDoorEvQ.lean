/-
  Events: as data, as values; the small questions of package deed.
-/
import Derived.Test.YtjabjiahienohaaGreatDoorWhToCt
import Derived.Laws.StructEq
namespace Go.Proofs.YtjabjiahienohaaGreatDoor
open Go.RowKit
attribute [local go_sem ↓] Go.wp_at_zero Go.wp_at_succ

structure Ev where
  kind : Int
  field : Int
  card : Int
  player : Int
  other : Int
  fr : Int
  frAt : Int
  to_ : Int
  toAt : Int
  was : Int
  now : Int
  ord : List Int
namespace DE
open Go.Proofs.YtjabjiahienohaaGreatDoor.ST
def evc (e : Ev) (vo : Value) : Array Value := #[.int .i8 e.kind, .int .i8 e.field, .int .i64 e.card, .int .i64 e.player, .int .i64 e.other, .int .i64 e.fr, .int .i64 e.frAt, .int .i64 e.to_, .int .i64 e.toAt, .int .i32 e.was, .int .i32 e.now, vo]
def evv (e : Ev) (vo : Value) : Value := .agg (evc e vo)
def EvL (W : World) (v : Value) (e : Ev) : Prop := ∃ vo, v = evv e vo ∧ IL W vo e.ord
theorem EvL.up {W W' : World} {v : Value} {e : Ev} (h : EvL W v e) (u : Up W W') : EvL W' v e := by
  obtain ⟨vo, h1, h2⟩ := h
  exact ⟨vo, h1, LC.up h2 u⟩
/- the cells of what was handed over -/
theorem par {w w1 : World} {A : Array Value} {ta : TypeId} (u : Up (w.alloc (.cells A ta)) w1) (j : Nat) (x : Value) (h : A[j]? = some x) : w1.cell? ⟨w.heap.size, j, none⟩ = some x := by
  refine u.cell ?_
  unfold World.cell?
  rw [heap_alloc_new]
  exact h
theorem par0 {w w1 : World} {A B : Array Value} {ta tb : TypeId} (u : Up ((w.alloc (.cells A ta)).alloc (.cells B tb)) w1) (j : Nat) (x : Value) (h : A[j]? = some x) : w1.cell? ⟨w.heap.size, j, none⟩ = some x := by
  refine u.cell ?_
  unfold World.cell?
  rw [heap_alloc2_old]
  exact h
theorem par1 {w w1 : World} {A B : Array Value} {ta tb : TypeId} (u : Up ((w.alloc (.cells A ta)).alloc (.cells B tb)) w1) (j : Nat) (x : Value) (h : B[j]? = some x) : w1.cell? ⟨w.heap.size + 1, j, none⟩ = some x := by
  refine u.cell ?_
  unfold World.cell?
  rw [heap_alloc2_new]
  exact h
/- small questions -/
set_option maxHeartbeats 1000000 in
theorem isNumber_ (n : Int) (m : Nat) (w : World) : Calls Tryz.prog 187 #[.int .i64 n, .int .i64 m] w fun e w' => e = .returned (.bool (numB n m)) ∧ w' = w := by
  unfold numB
  by_cases h0 : 0 ≤ n
  · have e0 : decide (0 ≤ n) = true := decide_eq_true h0
    go_enter Tryz.func187, Tryz.ntmps187
    go_wp2
    go_ret
    exact ⟨by simp [h0], rfl⟩
  · have e0 : decide (0 ≤ n) = false := decide_eq_false h0
    go_enter Tryz.func187, Tryz.ntmps187
    go_wp2
    go_ret
    exact ⟨by simp, rfl⟩
set_option maxHeartbeats 1000000 in
theorem isKind_ (k : Int) (w : World) : Calls Tryz.prog 99 #[.int .i8 k] w fun e w' => e = .returned (.bool (decide (1 ≤ k) && decide (k ≤ 7))) ∧ w' = w := by
  by_cases h0 : 1 ≤ k
  · have e0 : decide (1 ≤ k) = true := decide_eq_true h0
    go_enter Tryz.func99, Tryz.ntmps99
    go_wp2
    go_ret
    exact ⟨by simp [h0], rfl⟩
  · have e0 : decide (1 ≤ k) = false := decide_eq_false h0
    go_enter Tryz.func99, Tryz.ntmps99
    go_wp2
    go_ret
    exact ⟨by simp, rfl⟩
set_option maxHeartbeats 1000000 in
theorem isStat_ (x : Int) (w : World) : Calls Tryz.prog 215 #[.int .i32 x] w fun e w' => e = .returned (.bool (statB x)) ∧ w' = w := by
  unfold statB
  by_cases h0 : -1000000000 ≤ x
  · have e0 : decide (-1000000000 ≤ x) = true := decide_eq_true h0
    go_enter Tryz.func215, Tryz.ntmps215
    go_wp2
    go_ret
    exact ⟨by simp [h0], rfl⟩
  · have e0 : decide (-1000000000 ≤ x) = false := decide_eq_false h0
    go_enter Tryz.func215, Tryz.ntmps215
    go_wp2
    go_ret
    exact ⟨by simp, rfl⟩
/- two sides -/
theorem sSide : Tryz.prog.underlying 218 = some (.struct (Tryz.prog.fieldsOf 218)) := by kernel_rfl
theorem hSide : Tryz.prog.stoodInHeld 218 = false := by kernel_rfl
theorem eqSide (a0 a1 a2 b0 b1 b2 : Int) (W : World) : (binOp .eql 218 (.agg #[.int .i64 a0, .int .i64 a1, .int .i32 a2]) (.agg #[.int .i64 b0, .int .i64 b1, .int .i32 b2])).run Tryz.prog W = .ok (.bool (decide (a0 = b0) && decide (a1 = b1) && decide (a2 = b2))) W := by
  have u3 := Tryz.underlying3
  have v3 := Tryz.isAgg3
  have z3 := Tryz.sizeOf3
  have u4 := Tryz.underlying21
  have v4 := Tryz.isAgg21
  have z4 := Tryz.sizeOf21
  rw [run_eql_struct, show (10000 : Nat) = 9999 + 1 from rfl, run_equalIn_agg W 9999 218 _ _ sSide hSide]
  simp only [Program.fieldsOf, Tryz.underlying218]
  go_simp
  by_cases h0 : a0 = b0 <;> by_cases h1 : a1 = b1 <;> by_cases h2 : a2 = b2 <;> simp [h0, h1, h2]
def noneB (e : Ev) : Bool := decide (e.fr = e.to_) && decide (e.frAt = e.toAt) && decide (e.was = e.now)
set_option maxRecDepth 100000 in
set_option maxHeartbeats 2000000 in
theorem changesNothing_ (e : Ev) (vo : Value) (w : World) : Calls Tryz.prog 188 #[evv e vo] w fun x w' => x = .returned (.bool (noneB e)) ∧ Up w w' := by
  have hq := eqSide e.fr e.frAt e.was e.to_ e.toAt e.now
  unfold evv evc noneB
  generalize hb : (decide (e.fr = e.to_) && decide (e.frAt = e.toAt) && decide (e.was = e.now)) = b at *
  clear hb
  go_enter Tryz.func188, Tryz.ntmps188
  go_wp2
  go_ret
  exact ⟨rfl, (((Up.refl _).alloc _).alloc _).alloc _⟩
/- a state's things by number -/
set_option maxHeartbeats 1000000 in
theorem isPlayer_ (v : Value) (s : Stt) (n : Int) (w : World) (hs : StL w v s) : Calls Tryz.prog 119 #[v, .int .i64 n] w fun e w' => e = .returned (.bool (numB n s.ps.length)) ∧ Up w w' := by
  obtain ⟨vp, vc, vz, rfl, h1, -, -⟩ := hs
  obtain ⟨a1, k1, rfl, -, -⟩ := lc_at h1
  have HN : Hid _ := isNumber_ n s.ps.length
  clear h1
  unfold sv
  generalize s.ps.length = m at *
  go_enter Tryz.func119, Tryz.ntmps119
  go_wp2_with fail
  refine Calls.mono (HN.out _) ?_
  rintro e w1 ⟨rfl, rfl⟩
  go_wp2
  go_ret
  exact ⟨rfl, (Up.refl _).alloc _⟩
set_option maxHeartbeats 1000000 in
theorem isCard_ (v : Value) (s : Stt) (n : Int) (w : World) (hs : StL w v s) : Calls Tryz.prog 165 #[v, .int .i64 n] w fun e w' => e = .returned (.bool (numB n s.cs.length)) ∧ Up w w' := by
  obtain ⟨vp, vc, vz, rfl, -, h1, -⟩ := hs
  obtain ⟨a1, k1, rfl, -, -⟩ := lc_at h1
  have HN : Hid _ := isNumber_ n s.cs.length
  clear h1
  unfold sv
  generalize s.cs.length = m at *
  go_enter Tryz.func165, Tryz.ntmps165
  go_wp2_with fail
  refine Calls.mono (HN.out _) ?_
  rintro e w1 ⟨rfl, rfl⟩
  go_wp2
  go_ret
  exact ⟨rfl, (Up.refl _).alloc _⟩
set_option maxHeartbeats 1000000 in
theorem isZone_ (v : Value) (s : Stt) (n : Int) (w : World) (hs : StL w v s) : Calls Tryz.prog 166 #[v, .int .i64 n] w fun e w' => e = .returned (.bool (numB n s.zs.length)) ∧ Up w w' := by
  obtain ⟨vp, vc, vz, rfl, -, -, h1⟩ := hs
  obtain ⟨a1, k1, rfl, -, -⟩ := zl_at h1
  have HN : Hid _ := isNumber_ n s.zs.length
  clear h1
  unfold sv
  generalize s.zs.length = m at *
  go_enter Tryz.func166, Tryz.ntmps166
  go_wp2_with fail
  refine Calls.mono (HN.out _) ?_
  rintro e w1 ⟨rfl, rfl⟩
  go_wp2
  go_ret
  exact ⟨rfl, (Up.refl _).alloc _⟩
end DE
end Go.Proofs.YtjabjiahienohaaGreatDoor
