/- El6, Mb6, Ry6, Kp6, Dr6, Dw6 -/
import Derived.Test.YtodhjjeagmjhdaaGreatDoorPr6TvPw6M
import Derived.Test.YtodhjjeagmjhdaaGreatDoorWhTvDeM
import Derived.Shelf.Abstract
import Derived.Test.YtodhjjeagmjhdaaGreatDoorWsTvEvM
import Derived.Laws.Tables
import Derived.Deep.RegionHeld
import Derived.Test.YtodhjjeagmjhdaaGreatDoorFaTvTcM
namespace Go.Proofs.YtodhjjeagmjhdaaGreatDoor
open Go.RowKit
namespace DE
open Go.Proofs.YtodhjjeagmjhdaaGreatDoor.ST
def evC (l : List Ev) (vs : List Value) (i : Nat) : List Value := (evc (l.getD i dE) (vs.getD i nl)).toList
def evsC (l : List Ev) (vs : List Value) : List Value := (List.range l.length).flatMap (evC l vs)
theorem evC_len (l : List Ev) (vs : List Value) (i : Nat) : (evC l vs i).length = 12 := rfl
theorem evsC_len (l : List Ev) (vs : List Value) : (evsC l vs).length = l.length * 12 := by
 unfold evsC
 rw [flat_len (evC l vs) 12 (evC_len l vs), List.length_range]
theorem evsC_get (l : List Ev) (vs : List Value) (i j : Nat) (hi : i < l.length) (hj : j < 12) : (evsC l vs)[i * 12 + j]? = (evc (l.getD i dE) (vs.getD i nl))[j]? := by
 unfold evsC
 rw [flat_get (evC l vs) 12 (evC_len l vs) 0 (List.range l.length) i j (by simpa using hi) hj]
 have : (List.range l.length).getD i 0 = i := by simp [List.getD, hi]
 rw [this]
 unfold evC
 simp
def EVS (W : World) (v : Value) (l : List Ev) : Prop := ∃ vs : List Value, LC W v 12 l.length (evsC l vs) /\ ∀ i, i < l.length -> IL W (vs.getD i nl) (l.getD i dE).ord
theorem EVS.up {W W' : World} {v : Value} {l : List Ev} (h : EVS W v l) (u : Up W W') : EVS W' v l := by
 obtain ⟨vs, h1, h2⟩ := h
 exact ⟨vs, h1.up u, fun i hi => (h2 i hi).up u⟩
def Ev12 (W : World) (b o : Nat) (e : Ev) (vo : Value) : Prop :=
 W.cell? ⟨b, o, none⟩ = some (.int .i8 e.kind) /\ W.cell? ⟨b, o + 1, none⟩ = some (.int .i8 e.field) /\ W.cell? ⟨b, o + 2, none⟩ = some (.int .i64 e.card) /\ W.cell? ⟨b, o + 3, none⟩ = some (.int .i64 e.player) /\
 W.cell? ⟨b, o + 4, none⟩ = some (.int .i64 e.other) /\ W.cell? ⟨b, o + 5, none⟩ = some (.int .i64 e.fr) /\ W.cell? ⟨b, o + 6, none⟩ = some (.int .i64 e.frAt) /\ W.cell? ⟨b, o + 7, none⟩ = some (.int .i64 e.to_) /\
 W.cell? ⟨b, o + 8, none⟩ = some (.int .i64 e.toAt) /\ W.cell? ⟨b, o + 9, none⟩ = some (.int .i32 e.was) /\ W.cell? ⟨b, o + 10, none⟩ = some (.int .i32 e.now) /\ W.cell? ⟨b, o + 11, none⟩ = some vo
theorem evs_at {w : World} {v : Value} {l : List Ev} (h : EVS w v l) : ∃ a cap, v = .slice a l.length cap /\ l.length <= cap /\ (l.length ≠ 0 -> ∃ b off, a = some ⟨b, off, none⟩ /\ b < w.heap.size /\ ∀ i, i < l.length -> ∃ oa oc, (∀ W, Up w W -> Ev12 W b (off + i * 12) (l.getD i dE) (.slice oa (l.getD i dE).ord.length oc)) /\ IL w (.slice oa (l.getD i dE).ord.length oc) (l.getD i dE).ord) := by
 obtain ⟨vs, h1, h2⟩ := h
 obtain ⟨a, cap, hv, hc, h⟩ := lc_at h1
 refine ⟨a, cap, hv, hc, fun hn => ?_⟩
 obtain ⟨b, off, ha, hb, hcell⟩ := h hn
 refine ⟨b, off, ha, hb (by decide), fun i hi => ?_⟩
 have hI := h2 i hi
 obtain ⟨oa, oc, hvo, -, -⟩ := il_at hI
 refine ⟨oa, oc, fun W hu => ?_, by rw [hvo] at hI; exact hI⟩
 have k : ∀ j, j < 12 -> W.cell? ⟨b, off + (i * 12 + j), none⟩ = (evc (l.getD i dE) (vs.getD i nl))[j]? := fun j hj => by
  rw [hcell W hu (i * 12 + j) (by omega)]; exact evsC_get l vs i j hi hj
 rw [hvo] at k
 exact ⟨k 0 (by decide), k 1 (by decide), k 2 (by decide), k 3 (by decide), k 4 (by decide), k 5 (by decide), k 6 (by decide), k 7 (by decide), k 8 (by decide), k 9 (by decide), k 10 (by decide), k 11 (by decide)⟩
theorem evs_one {W : World} {g : Nat} {e : Ev} {vo : Value} {t : TypeId} (h : W.heap[g]? = some (.cells (evc e vo) t (0, 0))) (ho : IL W vo e.ord) : EVS W (.slice (some ⟨g, 0, none⟩) 1 1) [e] := by
 refine ⟨[vo], ?_, fun i hi => ?_⟩
 ·refine lc_row (e := t) (cs := evsC [e] [vo]) ?_ (evsC_len _ _) 1 (Nat.le_refl _)
  rw [h]
  rfl
 ·simp only [List.length_singleton] at hi
  obtain rfl : i = 0 := by omega
  exact ho
def placeOf : Option (Sum Nat Stt) -> Nat
 | some (.inl i) => i
 | _ => 0
def errOf : Option (Sum Nat Stt) -> Int
 | none => 10
 | some (.inl _) => 11
 | some (.inr _) => 0
def stOf : Option (Sum Nat Stt) -> Stt
 | some (.inr t) => t
 | _ => noS
def repO (s : Stt) (l : List Ev) : Option (Sum Nat Stt) := if ff s = none then some (repl s l 0) else none
def bckO (s : Stt) (l : List Ev) : Option (Sum Nat Stt) := if ff s = none then some (bck l l.length s) else none
def RepV (w : World) (o : Option (Sum Nat Stt)) (x : Ending) (w' : World) : Prop := ∃ v', x = .returned (.tuple #[v', .int .i64 (placeOf o : Nat), .int .i64 (errOf o)]) /\ SOA w.heap.size w' v' (stOf o) /\ Up w w'
def AppV (w : World) (o : Option (Sum Nat Stt)) (x : Ending) (w' : World) : Prop := ∃ v', x = .returned (.tuple #[v', .int .i64 (errOf o)]) /\ SOA w.heap.size w' v' (stOf o) /\ Up w w'
theorem noS_soa (b : Nat) (W : World) : SOA b W (.agg #[.slice none 0 0, .slice none 0 0, .slice none 0 0, .int .i32 0, .int .i64 0, .int .i8 0, .int .i64 0]) noS :=
 ⟨.slice none 0 0, .slice none 0 0, .slice none 0 0, rfl, ⟨rfl, .inl ⟨rfl, rfl⟩⟩, ⟨rfl, .inl ⟨rfl, rfl⟩⟩, [], ⟨rfl, .inl ⟨rfl, rfl⟩⟩, fun i hi => absurd hi (Nat.not_lt_zero i), RA.nil _⟩
end DE
end Go.Proofs.YtodhjjeagmjhdaaGreatDoor
namespace Go.Proofs.YtodhjjeagmjhdaaGreatDoor
open Go.RowKit
attribute [local go_sem ↓] Go.wp_at_zero Go.wp_at_succ
namespace DE
open Go.Proofs.YtodhjjeagmjhdaaGreatDoor.ST
set_option maxRecDepth 100000 in
set_option maxHeartbeats 2000000 in
theorem mayBe_ (v : Value) (s : Stt) (w : World) (hs : StL w v s) (hsm : Small s) : Calls Tryz.prog 79 #[v] w fun r w' => r = .returned (.bool (decide (ff s = none))) /\ Up w w' := by
 have HC : Hid (∀ W, Up w W -> Calls Tryz.prog 113 #[v] W fun e w' => e = .returned (ckV (ff s)) /\ Up W w') := fun W u => check_ v s W (hs.up u) hsm
 unfold ckV at HC
 obtain ⟨vp, vc, vz, hv, h1, h2, h3⟩ := hs
 unfold sv at hv
 obtain ⟨a1, k1, rfl, -⟩ := lc_at h1
 obtain ⟨a2, k2, rfl, -⟩ := lc_at h2
 obtain ⟨vs, h4, -⟩ := h3
 obtain ⟨a3, k3, rfl, -⟩ := lc_at h4
 subst hv
 generalize s.ps.length = np at *
 generalize s.cs.length = nc at *
 generalize s.zs.length = nz at *
 generalize s.turn = tu at *
 generalize s.whose = wo at *
 generalize s.fin = fi at *
 generalize s.winner = wi at *
 cases hf : ff s with
 | none =>
  rw [hf] at HC
  simp only [if_true, Option.getD_none] at HC
  clear h1 h2 h4 hf
  go_enter Tryz.func79, Tryz.ntmps79
  go_wp2_with fail
  refine Calls.mono (HC.out _ (by first | exact Up.refl _ | exact (Up.refl _).alloc _)) ?_
  rintro r W1 ⟨rfl, u1⟩
  have HU : Hid (Up w W1) := by first | exact u1 | exact Up.trans ((Up.refl _).alloc _) u1
  clear u1
  go_wp2
  all_goals (go_ret; exact ⟨by simp, HU.out⟩)
 | some k =>
  rw [hf] at HC
  simp only [reduceCtorEq, if_false, Option.getD_some] at HC
  clear h1 h2 h4 hf
  go_enter Tryz.func79, Tryz.ntmps79
  go_wp2_with fail
  refine Calls.mono (HC.out _ (by first | exact Up.refl _ | exact (Up.refl _).alloc _)) ?_
  rintro r W1 ⟨rfl, u1⟩
  have HU : Hid (Up w W1) := by first | exact u1 | exact Up.trans ((Up.refl _).alloc _) u1
  clear u1
  go_wp2
  all_goals (go_ret; exact ⟨by simp, HU.out⟩)
end DE
end Go.Proofs.YtodhjjeagmjhdaaGreatDoor
namespace Go.Proofs.YtodhjjeagmjhdaaGreatDoor
open Go.RowKit
namespace DE
open Go.Proofs.YtodhjjeagmjhdaaGreatDoor.ST
def rowOf (e : Ev) : Array Value := if kindB e.kind = true then row e.kind.toNat else row 0
theorem ruleAny_ (e : Ev) (oa : Option Addr) (oc : Nat) (w : World) : Calls Tryz.prog 82 #[.agg tabV, evv e (.slice oa e.ord.length oc)] w fun x w' => x = .returned (.tuple #[.agg (rowOf e), .bool (okB e)]) /\ Up w w' := by
 unfold rowOf okB
 by_cases hk : kindB e.kind = true
 ·rw [if_pos hk, hk]
  simpa using rule_ e oa oc w hk
 ·have hk' : kindB e.kind = false := by simpa using hk
  rw [if_neg hk, hk']
  simpa using ruleOf_none e oa e.ord.length oc w hk'
theorem rowOf_size (e : Ev) : (rowOf e).size = 6 := by
 unfold rowOf
 split
 ·rename_i h
  rcases kinds h with h | h | h | h | h | h | h <;> rw [h] <;> rfl
 ·rfl
theorem rowOf_one (e : Ev) : (rowOf e).all (·.oneCell') = true := by
 unfold rowOf
 split
 ·rename_i h
  rcases kinds h with h | h | h | h | h | h | h <;> rw [h] <;> kernel_rfl
 ·kernel_rfl
theorem infoRule : (Tryz.prog.info? 106).map (·.size) = some 6 := by kernel_rfl
theorem infoEv : (Tryz.prog.info? 30).map (·.size) = some 12 := by kernel_rfl
theorem infoSt : (Tryz.prog.info? 27).map (·.size) = some 7 := by kernel_rfl
theorem rowOf_at {e : Ev} (h : kindB e.kind = true) : (rowOf e)[1]? = some (fv (fitsN e.kind)) /\ (rowOf e)[2]? = some (fv (leadsN e.kind)) /\ (rowOf e)[3]? = some (fv (doN e.kind)) /\ (rowOf e)[4]? = some (fv (undoN e.kind)) := by
 unfold rowOf
 rw [if_pos h]
 exact row_at h
def zS : Array Value := #[.slice none 0 0, .slice none 0 0, .slice none 0 0, .int .i32 0, .int .i64 0, .int .i8 0, .int .i64 0]
def zR : Array Value := #[.nilFunc, .nilFunc, .nilFunc, .nilFunc, .nilFunc, .nilFunc]
def zEv : Array Value := #[.int .i8 0, .int .i8 0, .int .i64 0, .int .i64 0, .int .i64 0, .int .i64 0, .int .i64 0, .int .i64 0, .int .i64 0, .int .i32 0, .int .i32 0, .slice none 0 0]
theorem setRow_other (w : World) (g k : Nat) (C : Array Value) (h : k ≠ g) : (w.setRow g C).heap[k]? = w.heap[k]? := by
 simp only [World.setRow, Array.getElem?_modify]
 rw [if_neg (fun e => h e.symm)]
theorem setRow_size (w : World) (g : Nat) (C : Array Value) : (w.setRow g C).heap.size = w.heap.size := by simp [World.setRow]
theorem filled (w : World) (A C : Array Value) (t : TypeId) : ((w.alloc (.cells A t)).setRow w.heap.size C).heap[w.heap.size]? = some (.cells C t (0, 0)) /\ Up w ((w.alloc (.cells A t)).setRow w.heap.size C) /\ ((w.alloc (.cells A t)).setRow w.heap.size C).heap.size = w.heap.size + 1 :=
 ⟨setRow_heap _ _ A _ _ _ (heap_alloc_new w _), up_row ((Up.refl _).alloc _) (Nat.le_refl _) _, by rw [setRow_size]; simp⟩
theorem wpList_world {P : Program} {ops : Array Oper} {rest : List Oper} {a : Act} {w : World} {Q : Exit -> Act -> World -> Prop} {W : World} (h : w = W) (k : wpList P ops Q rest a W) : wpList P ops Q rest a w := by subst h; exact k
theorem wpList_load_rowG {P : Program} {ops : Array Oper} {rest : List Oper} {o : Oper} {a : Act} {w : World} {Q : Exit -> Act -> World -> Prop} (hw : Region.wanted o (yielded ops a.tmps) = true) (ty : TypeId) (x : Operand) (ho : o.op = .load ty x)
  (g : Nat) (hx : a.eval x = .pointer (some ⟨g, 0, none⟩)) (t : TypeId) (cs : Array Value) (fr : Nat × Nat) (d : TypeDesc) (hg : w.heap[g]? = some (.cells cs t fr))
  (hu : P.underlying ty = some d) (hd : (match d with | .struct _ | .array _ _ => true | _ => false) = true) (hi : (P.info? ty).map (·.size) = some cs.size)
  (h : wpList P ops Q rest (a.put o.dst (.agg cs)) w) : wpList P ops Q (o :: rest) a w := by
 unfold wpList
 rw [if_pos hw]
 exact Or.inl (wp_load_row ty x ho g hx t cs fr d hg hu hd hi h)
theorem fits_enters {k : Int} (h : kindB k = true) : ∀ (args : Array Value) (w : World), (callFunc (fitsN k) args).run Tryz.prog w = .ok (.enter (fitsN k) args) w := by
 rcases kinds h with rfl | rfl | rfl | rfl | rfl | rfl | rfl
 ·exact enters_of Tryz.func118 (by kernel_rfl) rfl
 ·exact enters_of Tryz.func124 (by kernel_rfl) rfl
 ·exact enters_of Tryz.func130 (by kernel_rfl) rfl
 ·exact enters_of Tryz.func136 (by kernel_rfl) rfl
 ·exact enters_of Tryz.func141 (by kernel_rfl) rfl
 ·exact enters_of Tryz.func147 (by kernel_rfl) rfl
 ·exact enters_of Tryz.func153 (by kernel_rfl) rfl
theorem leads_enters {k : Int} (h : kindB k = true) : ∀ (args : Array Value) (w : World), (callFunc (leadsN k) args).run Tryz.prog w = .ok (.enter (leadsN k) args) w := by
 rcases kinds h with rfl | rfl | rfl | rfl | rfl | rfl | rfl
 ·exact enters_of Tryz.func119 (by kernel_rfl) rfl
 ·exact enters_of Tryz.func125 (by kernel_rfl) rfl
 ·exact enters_of Tryz.func131 (by kernel_rfl) rfl
 ·exact enters_of Tryz.func136 (by kernel_rfl) rfl
 ·exact enters_of Tryz.func142 (by kernel_rfl) rfl
 ·exact enters_of Tryz.func148 (by kernel_rfl) rfl
 ·exact enters_of Tryz.func154 (by kernel_rfl) rfl
theorem do_enters {k : Int} (h : kindB k = true) : ∀ (args : Array Value) (w : World), (callFunc (doN k) args).run Tryz.prog w = .ok (.enter (doN k) args) w := by
 rcases kinds h with rfl | rfl | rfl | rfl | rfl | rfl | rfl
 ·exact enters_of Tryz.func120 (by kernel_rfl) rfl
 ·exact enters_of Tryz.func126 (by kernel_rfl) rfl
 ·exact enters_of Tryz.func132 (by kernel_rfl) rfl
 ·exact enters_of Tryz.func137 (by kernel_rfl) rfl
 ·exact enters_of Tryz.func143 (by kernel_rfl) rfl
 ·exact enters_of Tryz.func149 (by kernel_rfl) rfl
 ·exact enters_of Tryz.func155 (by kernel_rfl) rfl
theorem undo_enters {k : Int} (h : kindB k = true) : ∀ (args : Array Value) (w : World), (callFunc (undoN k) args).run Tryz.prog w = .ok (.enter (undoN k) args) w := by
 rcases kinds h with rfl | rfl | rfl | rfl | rfl | rfl | rfl
 ·exact enters_of Tryz.func121 (by kernel_rfl) rfl
 ·exact enters_of Tryz.func127 (by kernel_rfl) rfl
 ·exact enters_of Tryz.func133 (by kernel_rfl) rfl
 ·exact enters_of Tryz.func138 (by kernel_rfl) rfl
 ·exact enters_of Tryz.func144 (by kernel_rfl) rfl
 ·exact enters_of Tryz.func150 (by kernel_rfl) rfl
 ·exact enters_of Tryz.func156 (by kernel_rfl) rfl
theorem evc_one (e : Ev) (oa : Option Addr) (n c : Nat) : (evc e (.slice oa n c)).all (·.oneCell') = true := by simp [evc, Value.oneCell']
end DE
end Go.Proofs.YtodhjjeagmjhdaaGreatDoor
namespace Go.Proofs.YtodhjjeagmjhdaaGreatDoor
open Go.RowKit
namespace ST
def Kp (k : Nat) (W W' : World) : Prop := ∀ (g : Nat) (o : Obj), k <= g -> W.heap[g]? = some o -> W'.heap[g]? = some o
theorem Kp.refl (k : Nat) (W : World) : Kp k W W := fun _ _ _ h => h
theorem Kp.trans {k : Nat} {a b c : World} (h : Kp k a b) (i : Kp k b c) : Kp k a c := fun g o hg ho => i g o hg (h g o hg ho)
theorem Kp.up {k : Nat} {W W' : World} (u : Up W W') : Kp k W W' := fun _ _ _ h => u.heap h
theorem Kp.more {k k' : Nat} {W W' : World} (h : Kp k W W') (hk : k <= k') : Kp k' W W' := fun g o hg ho => h g o (by omega) ho
theorem Kp.set {k b j : Nat} {W : World} {u : Value} (hb : b < k) : Kp k W (W.setCell ⟨b, j, none⟩ u) := fun g _ hg h => by
 rw [Below.heap_setCell _ _ _ _ (by show g ≠ b; omega)]; exact h
theorem Kp.row {k b : Nat} {W : World} {C : Array Value} (hb : b < k) : Kp k W (W.setRow b C) := fun g _ hg h => by
 simp only [World.setRow, Array.getElem?_modify]
 rw [if_neg (by omega)]; exact h
theorem row_kp {W W' : World} {base e s n : Nat} {v : Value} {xs : List Value} (h : W.ownsRow base e s v n xs) (kp : Kp base W W') : W'.ownsRow base e s v n xs := by
 refine ⟨h.1, ?_⟩
 rcases h.2 with h0 | ⟨g, cap, cur, e1, e2, e3, e4⟩
 ·exact .inl h0
 ·exact .inr ⟨g, cap, cur, e1, e2, kp _ _ e2 e3, e4⟩
theorem SOA.kp {base : Nat} {W W' : World} {v : Value} {s : Stt} (h : SOA base W v s) (kp : Kp base W W') : SOA base W' v s := by
 obtain ⟨vp, vc, vz, hv, h1, h2, vs, h3, h4, h5⟩ := h
 exact ⟨vp, vc, vz, hv, row_kp h1 kp, row_kp h2 kp, vs, row_kp h3 kp, fun i hi => row_kp (h4 i hi) kp, h5⟩
theorem SOA.less {b b' : Nat} {W : World} {v : Value} {s : Stt} (h : SOA b W v s) (hb : b' <= b) : SOA b' W v s := by
 obtain ⟨vp, vc, vz, hv, h1, h2, vs, h3, h4, h5⟩ := h
 exact ⟨vp, vc, vz, hv, own_less h1 hb, own_less h2 hb, vs, own_less h3 hb, fun i hi => own_less (h4 i hi) hb, h5⟩
theorem SO.kp {base : Nat} {W W' : World} {v : Value} {s : Stt} (h : SO base W v s) (kp : Kp base W W') : SO base W' v s := by
 obtain ⟨vp, vc, vz, hv, h1, h2, vs, h3, h4⟩ := h
 exact ⟨vp, vc, vz, hv, row_kp h1 kp, row_kp h2 kp, vs, row_kp h3 kp, fun i hi => row_kp (h4 i hi) kp⟩
theorem WI.kp {base : Nat} {W W' : World} {v : Value} {l : List Int} (h : WI base W v l) (kp : Kp base W W') : WI base W' v l := by
 obtain ⟨g, h1, h2, h3⟩ := h
 exact ⟨g, h1, h2, kp _ _ h1 h3⟩
theorem WI.val {b : Nat} {W : World} {v : Value} {l : List Int} (h : WI b W v l) : ∃ a c, v = .slice a l.length c := by
 obtain ⟨g, h1, h2, h3⟩ := h
 exact ⟨_, _, h2⟩
theorem up_setRow {w W : World} {g : Nat} (h : Up w W) (hg : w.heap.size <= g) (C : Array Value) : Up w (W.setRow g C) := by
 refine ⟨h.os, h.tape, h.output, by have := h.size; simpa [World.setRow] using this, fun k hk => ?_⟩
 rw [<- h.block k hk]
 simp only [World.setRow, Array.getElem?_modify]
 rw [if_neg (by omega)]
end ST
end Go.Proofs.YtodhjjeagmjhdaaGreatDoor
namespace Go.Proofs.YtodhjjeagmjhdaaGreatDoor
open Go.RowKit
namespace DE
open Go.Proofs.YtodhjjeagmjhdaaGreatDoor.ST
theorem exec_load_row {P : Program} {o : Oper} {a : Act} (ty : TypeId) (x : Operand) (ho : o.op = .load ty x) (g : Nat) (hx : a.eval x = .pointer (some ⟨g, 0, none⟩)) (t : TypeId) (cs : Array Value) (fr : Nat × Nat) (d : TypeDesc)
  (hu : P.underlying ty = some d) (hd : (match d with | .struct _ | .array _ _ => true | _ => false) = true) (hi : (P.info? ty).map (·.size) = some cs.size) (w : World) (hg : w.heap[g]? = some (.cells cs t fr)) : (execOp a.eval o).run P w = .ok (.value (.agg cs)) w := by
 unfold execOp
 simp only [ho, hx, Instr.loadAt, Instr.sureAddr, Sem.run_bind, Sem.run_pure, Result.andThen_ok, run_loadVar_row w g t ty cs fr d hg hu hd hi]
theorem wpAnyH_world {P : Program} {md : Region.Mode} {ops : Array Oper} {Q : Exit -> Act -> World -> Prop} {S : World -> Prop} {fuel : Nat} {listed : Array Bool} {a : Act} {w W : World} (h : w = W) (k : wpAnyH P md ops Q S fuel listed a W) : wpAnyH P md ops Q S fuel listed a w := by subst h; exact k
theorem stepH_store {P : Program} {o : Oper} {a : Act} {w : World} {K : Act -> World -> Prop} {Q : Exit -> Act -> World -> Prop} {c X : Prop} [Decidable c] (hw : c) (ty : TypeId) (x y : Operand) (ho : o.op = .store ty x y)
  (g : Nat) (cells : Array Value) (hx : a.eval x = .pointer (some ⟨g, 0, none⟩)) (hy : a.eval y = .agg cells)
  (t : TypeId) (old : Array Value) (hg : w.heap[g]? = some (.cells old t (0, 0))) (hi : (P.info? ty).map (·.size) = some cells.size)
  (hold : old.size = cells.size) (h1 : cells.all (·.oneCell') = true) (h : K (a.put o.dst undef) (w.setRow g cells)) :
  if c then Oper.wp P o a w K Q else X := by
 rw [if_pos hw]
 exact wp_store_row ty x y ho g cells hx hy t old hg hi hold h1 h
theorem row_setRow {w : World} {base e s n g : Nat} {v : Value} {xs : List Value} {old C : Array Value} {t : TypeId} {fr : Nat × Nat} (h : w.ownsRow base e s v n xs) (hg : w.heap[g]? = some (.cells old t fr)) (ht : e ≠ t) : (w.setRow g C).ownsRow base e s v n xs := by
 refine ⟨h.1, ?_⟩
 rcases h.2 with h0 | ⟨g', cap, cur, e1, e2, e3, e4⟩
 ·exact .inl h0
 ·refine .inr ⟨g', cap, cur, e1, e2, ?_, e4⟩
  rw [setRow_other]
  ·exact e3
  ·rintro rfl
   rw [e3] at hg
   simp only [Option.some.injEq, Obj.cells.injEq] at hg
   exact ht hg.2.1
theorem SOA.setRow {w : World} {base g : Nat} {v : Value} {s : Stt} {old C : Array Value} {fr : Nat × Nat} (h : SOA base w v s) (hg : w.heap[g]? = some (.cells old 27 fr)) : SOA base (w.setRow g C) v s := by
 obtain ⟨vp, vc, vz, hv, h1, h2, vs, h3, h4, h5⟩ := h
 exact ⟨vp, vc, vz, hv, row_setRow h1 hg (by decide), row_setRow h2 hg (by decide), vs, row_setRow h3 hg (by decide), fun i hi => row_setRow (h4 i hi) hg (by decide), h5⟩
theorem results_c1 {P : Program} {fn : Func} {p q : Tmp} {ty : TypeId} (h : fn.results = #[.cell p ty, .tmp q]) (tmps : Array Value) (w : World) (g : Nat) (t : TypeId) (cs : Array Value) (fr : Nat × Nat) (d : TypeDesc) (x : Value)
  (hp : tmps.getD p undef = .pointer (some ⟨g, 0, none⟩)) (hq : tmps.getD q undef = x) (hg : w.heap[g]? = some (.cells cs t fr))
  (hu : P.underlying ty = some d) (hd : (match d with | .struct _ | .array _ _ => true | _ => false) = true) (hi : (P.info? ty).map (·.size) = some cs.size) :
  (results fn tmps).run P w = .ok (.tuple #[.agg cs, x]) w := by
 have hp' : tmps[p]?.getD undef = .pointer (some ⟨g, 0, none⟩) := by simpa using hp
 have hq' : tmps[q]?.getD undef = x := by simpa using hq
 simp [results, h, hp', hq', asAddr, run_loadVar_row w g t ty cs fr d hg hu hd hi]
theorem results_c2 {P : Program} {fn : Func} {p q r : Tmp} {ty : TypeId} (h : fn.results = #[.cell p ty, .tmp q, .tmp r]) (tmps : Array Value) (w : World) (g : Nat) (t : TypeId) (cs : Array Value) (fr : Nat × Nat) (d : TypeDesc) (x y : Value)
  (hp : tmps.getD p undef = .pointer (some ⟨g, 0, none⟩)) (hq : tmps.getD q undef = x) (hr : tmps.getD r undef = y) (hg : w.heap[g]? = some (.cells cs t fr))
  (hu : P.underlying ty = some d) (hd : (match d with | .struct _ | .array _ _ => true | _ => false) = true) (hi : (P.info? ty).map (·.size) = some cs.size) :
  (results fn tmps).run P w = .ok (.tuple #[.agg cs, x, y]) w := by
 have hp' : tmps[p]?.getD undef = .pointer (some ⟨g, 0, none⟩) := by simpa using hp
 have hq' : tmps[q]?.getD undef = x := by simpa using hq
 have hr' : tmps[r]?.getD undef = y := by simpa using hr
 simp [results, h, hp', hq', hr', asAddr, run_loadVar_row w g t ty cs fr d hg hu hd hi]
theorem calls_world {P : Program} {f : FuncId} {args : Array Value} {w W : World} {Q : Ending -> World -> Prop} (h : w = W) (k : Calls P f args W Q) : Calls P f args w Q := by subst h; exact k
theorem SOA.row {base : Nat} {W : World} {v : Value} {s : Stt} (h : SOA base W v s) : ∃ C : Array Value, v = .agg C /\ C.size = 7 /\ C.all (·.oneCell') = true := by
 obtain ⟨vp, vc, vz, hv, h1, h2, vs, h3, -, -⟩ := h
 obtain ⟨a1, k1, rfl⟩ := row_val h1
 obtain ⟨a2, k2, rfl⟩ := row_val h2
 obtain ⟨a3, k3, rfl⟩ := row_val h3
 unfold sv at hv
 exact ⟨_, hv, rfl, by simp [Value.oneCell']⟩
end DE
end Go.Proofs.YtodhjjeagmjhdaaGreatDoor
namespace Go.Proofs.YtodhjjeagmjhdaaGreatDoor
open Go.RowKit
attribute [local go_sem ↓] Go.wp_at_zero Go.wp_at_succ
namespace DE
open Go.Proofs.YtodhjjeagmjhdaaGreatDoor.ST
def DL (base : Nat) (W : World) (v : Value) : Option Ev -> Prop
 | none => v = .slice none 0 0
 | some e => ∃ g vo, v = .slice (some ⟨g, 0, none⟩) 1 1 /\ base <= g /\ W.heap[g]? = some (.cells (evc e vo) 30 (0, 0)) /\ IRow base W vo e.ord
def DeV (w : World) (r : Int × Option Ev) (x : Ending) (w' : World) : Prop := ∃ v, x = .returned (.tuple #[v, .int .i64 r.1]) /\ DL w.heap.size w' v r.2 /\ Up w w'
theorem DL.up {base : Nat} {W W' : World} {v : Value} {o : Option Ev} (h : DL base W v o) (u : Up W W') : DL base W' v o := by
 cases o with
 | none => exact h
 | some e =>
  obtain ⟨g, vo, h1, h2, h3, h4⟩ := h
  exact ⟨g, vo, h1, h2, u.heap h3, row_up h4 u⟩
def drawE (s : Stt) (p c : Int) : Ev := ⟨1, 0, c, 0, 0, 4 * p, 0, 4 * p + 1, (zn s (4 * p + 1)).length, 0, 0, []⟩
def drawO (s : Stt) (p : Int) : Int × Option Ev := if ff s = none then (if numB p s.ps.length = true then (if (zn s (4 * p)).length = 0 then (0, none) else (0, some (drawE s p ((zn s (4 * p)).getD 0 0)))) else (1, none)) else (10, none)
set_option maxRecDepth 100000 in
set_option maxHeartbeats 4000000 in
theorem draw_ (v : Value) (s : Stt) (p : Int) (w : World) (hs : StL w v s) (hsm : Small s) : Calls Tryz.prog 74 #[v, .int .i64 p] w (DeV w (drawO s p)) := by
 have HM : Hid (∀ W, Up w W -> Calls Tryz.prog 79 #[v] W fun r w' => r = .returned (.bool (decide (ff s = none))) /\ Up W w') := fun W u => mayBe_ v s W (hs.up u) hsm
 have HI : Hid (∀ W, Up w W -> Calls Tryz.prog 109 #[v, .int .i64 p] W fun r w' => r = .returned (.bool (numB p s.ps.length)) /\ Up W w') := fun W u => isPlayer_ v s p W (hs.up u)
 have hs0 := hs
 obtain ⟨vp, vc, vz, hv, h1, h2, h3⟩ := hs
 obtain ⟨a1, k1, rfl, -, -⟩ := lc_at h1
 obtain ⟨a2, k2, rfl, -, -⟩ := lc_at h2
 obtain ⟨a3, k3, rfl, hk3, hz⟩ := zl_at h3
 unfold sv at hv
 clear h1 h2 h3 hs0
 subst hv
 by_cases hf : ff s = none
 ·by_cases hp : numB p s.ps.length = true
  ·obtain ⟨q, rfl, hq⟩ := num_nat hp
   have hzl : s.zs.length = 4 * s.ps.length := by
    have h0 := ((ff_none s).1 hf).1.1
    unfold sizesB at h0
    simp only [Bool.and_eq_true, decide_eq_true_eq] at h0
    exact h0.2
   have hnp : s.ps.length <= 4 := by
    have h0 := ((ff_none s).1 hf).1.1
    unfold sizesB npB at h0
    simp only [Bool.and_eq_true, decide_eq_true_eq] at h0
    exact h0.1.1.2
   have e1 : zn s (4 * (q : Int)) = s.zs.getD (4 * q) [] := by unfold zn; congr 1
   have e2 : zn s (4 * (q : Int) + 1) = s.zs.getD (4 * q + 1) [] := by unfold zn; congr 1
   obtain ⟨zb, zo, rfl, hr⟩ := hz (by omega)
   obtain ⟨ra, rc, d1, d2⟩ := hr (4 * q) (by omega)
   obtain ⟨ra2, rc2, d3, d4⟩ := hr (4 * q + 1) (by omega)
   obtain ⟨ra', rc', hx, -, hcell⟩ := il_at d2
   simp only [Value.slice.injEq, true_and] at hx
   obtain ⟨rfl, rfl⟩ := hx
   have HO : Hid (drawO s (q : Int) = if (s.zs.getD (4 * q) []).length = 0 then (0, none) else (0, some (drawE s (q : Int) ((s.zs.getD (4 * q) []).getD 0 0)))) := by
    unfold Hid drawO
    rw [if_pos hf, if_pos hp, e1]
   have HE : Hid (drawE s (q : Int) ((s.zs.getD (4 * q) []).getD 0 0) = ⟨1, 0, (s.zs.getD (4 * q) []).getD 0 0, 0, 0, 4 * (q : Int), 0, 4 * (q : Int) + 1, ((s.zs.getD (4 * q + 1) []).length : Int), 0, 0, []⟩) := by
    unfold Hid drawE
    rw [e2]
   rw [hp] at HI
   simp only [hf, decide_true] at HM
   generalize s.zs.getD (4 * q) [] = zd at *
   generalize (s.zs.getD (4 * q + 1) []).length = hl at *
   obtain ⟨dk, hdk⟩ : ∃ dk, dk = 4 * q := ⟨_, rfl⟩
   obtain ⟨hd, hhd⟩ : ∃ hd, hd = dk + 1 := ⟨_, rfl⟩
   have hq4 : (4 * (q : Int)) = (dk : Int) := by omega
   have hq5 : ((dk : Int) + 1) = (hd : Int) := by omega
   rw [<- hdk] at d1
   rw [<- hdk, <- hhd] at d3
   rw [hq4, hq5] at HE
   have b1 : (dk : Int) < (s.zs.length : Int) := by omega
   have b2 : (hd : Int) < (s.zs.length : Int) := by omega
   have b3 : dk <= 1000 := by omega
   have b4 : hd <= 1000 := by omega
   have b5 : q <= 4 := by omega
   have HQ : Hid _ := And.intro hdk hhd
   have HD1 : Hid _ := d1
   have HD3 : Hid _ := d3
   have HCE : Hid _ := hcell
   generalize s.zs.length = nz at *
   clear hf hp hr e1 e2 d4 hzl hq hsm d2 hnp hdk hhd d1 d3 hcell hz
   go_enter Tryz.func74, Tryz.ntmps74
   go_wp2_with fail
   refine Calls.mono (HM.out _ ((Up.refl _).alloc _)) ?_
   rintro r W1 ⟨rfl, u1⟩
   have HU : Hid (Up w W1) := ((Up.refl _).alloc _).trans u1
   have g0 : W1.heap[w.heap.size]? = some (.cells _ 27 (0, 0)) := u1.heap (heap_alloc_new _ _)
   obtain ⟨q0, q1, q2, q3, q4, q5, q6⟩ := seven_cells g0
   have HG0 : Hid _ := g0
   clear u1 g0 HM
   go_wp2_with fail
   clear q0 q1 q2 q3 q4 q5 q6
   refine Calls.mono (HI.out _ HU.out) ?_
   rintro r W2 ⟨rfl, u2⟩
   have HU2 : Hid (Up w W2) := HU.out.trans u2
   have g0 := u2.heap HG0.out
   obtain ⟨q0, q1, q2, q3, q4, q5, q6⟩ := seven_cells g0
   have c1 := HD1.out W2 HU2.out
   have c3 := HD3.out W2 HU2.out
   clear u2 g0 HI HG0 HU q0 q1 q3 q4 q5 q6
   by_cases h0 : zd.length = 0
   ·have HF : Hid (drawO s (q : Int) = (0, none)) := by unfold Hid; rw [HO.out, if_pos h0]
    rw [h0] at c1
    clear HO HE HCE HD1 HD3
    go_wp2
    go_ret2
    rw [HF.out]
    exact ⟨_, rfl, rfl, HU2.out⟩
   ·have HF : Hid (drawO s (q : Int) = (0, some ⟨1, 0, zd.getD 0 0, 0, 0, (dk : Int), 0, (hd : Int), (hl : Int), 0, 0, []⟩)) := by unfold Hid; rw [HO.out, if_neg h0, HE.out]
    obtain ⟨rb, ro, rfl, hce⟩ := HCE.out h0
    have c2 : W2.cell? ⟨rb, ro, none⟩ = some (.int .i64 (zd.getD 0 0)) := hce W2 HU2.out 0 (by omega)
    have h1 : ((zd.length : Int) == 0) = false := by rw [beq_eq_false_iff_ne]; omega
    have h2 : (0 : Int) < (zd.length : Int) := by omega
    clear HO HE HCE HD1 HD3 hce
    generalize zd.getD 0 0 = card at *
    generalize zd.length = zl at *
    go_wp2_with fail
    refine TailR.wp_region_seq 16 (by kernel_rfl) (by kernel_rfl) ?_
    simp only [List.take_succ_cons, List.take_zero, List.drop_succ_cons, List.drop_zero]
    repeat (go_big_quiet_step (fail))
    refine wpQuiet_nil ?_
    intro _ hw'
    obtain ⟨nq, hw''⟩ := hw'
    subst hw''
    go_wp2
    go_ret2
    rw [HF.out]
    refine ⟨_, rfl, ⟨W2.heap.size, .slice none 0 0, rfl, HU2.out.size, heap_alloc_new (W2.drewN nq) _, World.ownsRow_nil _ _ _ _⟩, (HU2.out.drewN nq).alloc _⟩
  ·have HF : Hid (drawO s p = (1, none)) := by unfold Hid drawO; rw [if_pos hf, if_neg hp]
   have hp' : numB p s.ps.length = false := by simpa using hp
   rw [hp'] at HI
   simp only [hf, decide_true] at HM
   clear hz hf hp hp'
   go_enter Tryz.func74, Tryz.ntmps74
   go_wp2_with fail
   refine Calls.mono (HM.out _ ((Up.refl _).alloc _)) ?_
   rintro r W1 ⟨rfl, u1⟩
   have HU : Hid (Up w W1) := ((Up.refl _).alloc _).trans u1
   have g0 : W1.heap[w.heap.size]? = some (.cells _ 27 (0, 0)) := u1.heap (heap_alloc_new _ _)
   obtain ⟨q0, q1, q2, q3, q4, q5, q6⟩ := seven_cells g0
   clear u1 g0
   go_wp2_with fail
   clear q0 q1 q2 q3 q4 q5 q6
   refine Calls.mono (HI.out _ HU.out) ?_
   rintro r W2 ⟨rfl, u2⟩
   have HU2 : Hid (Up w W2) := HU.out.trans u2
   clear u2
   go_wp2
   go_ret2
   rw [HF.out]
   exact ⟨_, rfl, rfl, HU2.out⟩
 ·have HF : Hid (drawO s p = (10, none)) := by unfold Hid drawO; rw [if_neg hf]
  simp only [hf, decide_false] at HM
  clear HI hz hf
  go_enter Tryz.func74, Tryz.ntmps74
  go_wp2_with fail
  refine Calls.mono (HM.out _ ((Up.refl _).alloc _)) ?_
  rintro r W1 ⟨rfl, u1⟩
  have HU : Hid (Up w W1) := ((Up.refl _).alloc _).trans u1
  clear u1
  go_wp2
  go_ret2
  rw [HF.out]
  exact ⟨_, rfl, rfl, HU.out⟩
end DE
end Go.Proofs.YtodhjjeagmjhdaaGreatDoor
