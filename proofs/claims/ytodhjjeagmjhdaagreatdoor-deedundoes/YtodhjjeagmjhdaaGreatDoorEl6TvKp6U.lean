/- El6, Mb6, Ry6, Kp6 -/
import Derived.Test.YtodhjjeagmjhdaaGreatDoorPr6TvPw6U
import Derived.Test.YtodhjjeagmjhdaaGreatDoorWhTvDeU
import Derived.Shelf.Abstract
import Derived.Test.YtodhjjeagmjhdaaGreatDoorWsTvEvU
import Derived.Laws.Tables
namespace Go.Proofs.YtodhjjeagmjhdaaGreatDoor
open Go.RowKit
namespace DE
open Go.Proofs.YtodhjjeagmjhdaaGreatDoor.ST
def evC (l : List Ev) (vs : List Value) (i : Nat) : List Value := (evc (l.getD i dE) (vs.getD i nl)).toList
def evsC (l : List Ev) (vs : List Value) : List Value := (List.range l.length).flatMap (evC l vs)
theorem evC_len (l : List Ev) (vs : List Value) (i : Nat) : (evC l vs i).length = 12 := rfl
theorem evsC_len (l : List Ev) (vs : List Value) : (evsC l vs).length = l.length * 12 := by
 unfold evsC
 rw [flat_len (evC l vs) 12 (evC_len l vs), List.length_range]
theorem evsC_get (l : List Ev) (vs : List Value) (i j : Nat) (hi : i < l.length) (hj : j < 12) : (evsC l vs)[i * 12 + j]? = (evc (l.getD i dE) (vs.getD i nl))[j]? := by
 unfold evsC
 rw [flat_get (evC l vs) 12 (evC_len l vs) 0 (List.range l.length) i j (by simpa using hi) hj]
 have : (List.range l.length).getD i 0 = i := by simp [List.getD, hi]
 rw [this]
 unfold evC
 simp
def EVS (W : World) (v : Value) (l : List Ev) : Prop := ∃ vs : List Value, LC W v 12 l.length (evsC l vs) /\ ∀ i, i < l.length -> IL W (vs.getD i nl) (l.getD i dE).ord
theorem EVS.up {W W' : World} {v : Value} {l : List Ev} (h : EVS W v l) (u : Up W W') : EVS W' v l := by
 obtain ⟨vs, h1, h2⟩ := h
 exact ⟨vs, h1.up u, fun i hi => (h2 i hi).up u⟩
def Ev12 (W : World) (b o : Nat) (e : Ev) (vo : Value) : Prop :=
 W.cell? ⟨b, o, none⟩ = some (.int .i8 e.kind) /\ W.cell? ⟨b, o + 1, none⟩ = some (.int .i8 e.field) /\ W.cell? ⟨b, o + 2, none⟩ = some (.int .i64 e.card) /\ W.cell? ⟨b, o + 3, none⟩ = some (.int .i64 e.player) /\
 W.cell? ⟨b, o + 4, none⟩ = some (.int .i64 e.other) /\ W.cell? ⟨b, o + 5, none⟩ = some (.int .i64 e.fr) /\ W.cell? ⟨b, o + 6, none⟩ = some (.int .i64 e.frAt) /\ W.cell? ⟨b, o + 7, none⟩ = some (.int .i64 e.to_) /\
 W.cell? ⟨b, o + 8, none⟩ = some (.int .i64 e.toAt) /\ W.cell? ⟨b, o + 9, none⟩ = some (.int .i32 e.was) /\ W.cell? ⟨b, o + 10, none⟩ = some (.int .i32 e.now) /\ W.cell? ⟨b, o + 11, none⟩ = some vo
theorem evs_at {w : World} {v : Value} {l : List Ev} (h : EVS w v l) : ∃ a cap, v = .slice a l.length cap /\ l.length <= cap /\ (l.length ≠ 0 -> ∃ b off, a = some ⟨b, off, none⟩ /\ b < w.heap.size /\ ∀ i, i < l.length -> ∃ oa oc, (∀ W, Up w W -> Ev12 W b (off + i * 12) (l.getD i dE) (.slice oa (l.getD i dE).ord.length oc)) /\ IL w (.slice oa (l.getD i dE).ord.length oc) (l.getD i dE).ord) := by
 obtain ⟨vs, h1, h2⟩ := h
 obtain ⟨a, cap, hv, hc, h⟩ := lc_at h1
 refine ⟨a, cap, hv, hc, fun hn => ?_⟩
 obtain ⟨b, off, ha, hb, hcell⟩ := h hn
 refine ⟨b, off, ha, hb (by decide), fun i hi => ?_⟩
 have hI := h2 i hi
 obtain ⟨oa, oc, hvo, -, -⟩ := il_at hI
 refine ⟨oa, oc, fun W hu => ?_, by rw [hvo] at hI; exact hI⟩
 have k : ∀ j, j < 12 -> W.cell? ⟨b, off + (i * 12 + j), none⟩ = (evc (l.getD i dE) (vs.getD i nl))[j]? := fun j hj => by
  rw [hcell W hu (i * 12 + j) (by omega)]; exact evsC_get l vs i j hi hj
 rw [hvo] at k
 exact ⟨k 0 (by decide), k 1 (by decide), k 2 (by decide), k 3 (by decide), k 4 (by decide), k 5 (by decide), k 6 (by decide), k 7 (by decide), k 8 (by decide), k 9 (by decide), k 10 (by decide), k 11 (by decide)⟩
theorem evs_one {W : World} {g : Nat} {e : Ev} {vo : Value} {t : TypeId} (h : W.heap[g]? = some (.cells (evc e vo) t (0, 0))) (ho : IL W vo e.ord) : EVS W (.slice (some ⟨g, 0, none⟩) 1 1) [e] := by
 refine ⟨[vo], ?_, fun i hi => ?_⟩
 ·refine lc_row (e := t) (cs := evsC [e] [vo]) ?_ (evsC_len _ _) 1 (Nat.le_refl _)
  rw [h]
  rfl
 ·simp only [List.length_singleton] at hi
  obtain rfl : i = 0 := by omega
  exact ho
def placeOf : Option (Sum Nat Stt) -> Nat
 | some (.inl i) => i
 | _ => 0
def errOf : Option (Sum Nat Stt) -> Int
 | none => 10
 | some (.inl _) => 11
 | some (.inr _) => 0
def stOf : Option (Sum Nat Stt) -> Stt
 | some (.inr t) => t
 | _ => noS
def repO (s : Stt) (l : List Ev) : Option (Sum Nat Stt) := if ff s = none then some (repl s l 0) else none
def bckO (s : Stt) (l : List Ev) : Option (Sum Nat Stt) := if ff s = none then some (bck l l.length s) else none
def RepV (w : World) (o : Option (Sum Nat Stt)) (x : Ending) (w' : World) : Prop := ∃ v', x = .returned (.tuple #[v', .int .i64 (placeOf o : Nat), .int .i64 (errOf o)]) /\ SOA w.heap.size w' v' (stOf o) /\ Up w w'
def AppV (w : World) (o : Option (Sum Nat Stt)) (x : Ending) (w' : World) : Prop := ∃ v', x = .returned (.tuple #[v', .int .i64 (errOf o)]) /\ SOA w.heap.size w' v' (stOf o) /\ Up w w'
theorem noS_soa (b : Nat) (W : World) : SOA b W (.agg #[.slice none 0 0, .slice none 0 0, .slice none 0 0, .int .i32 0, .int .i64 0, .int .i8 0, .int .i64 0]) noS :=
 ⟨.slice none 0 0, .slice none 0 0, .slice none 0 0, rfl, ⟨rfl, .inl ⟨rfl, rfl⟩⟩, ⟨rfl, .inl ⟨rfl, rfl⟩⟩, [], ⟨rfl, .inl ⟨rfl, rfl⟩⟩, fun i hi => absurd hi (Nat.not_lt_zero i), RA.nil _⟩
end DE
end Go.Proofs.YtodhjjeagmjhdaaGreatDoor
namespace Go.Proofs.YtodhjjeagmjhdaaGreatDoor
open Go.RowKit
attribute [local go_sem ↓] Go.wp_at_zero Go.wp_at_succ
namespace DE
open Go.Proofs.YtodhjjeagmjhdaaGreatDoor.ST
set_option maxRecDepth 100000 in
set_option maxHeartbeats 2000000 in
theorem mayBe_ (v : Value) (s : Stt) (w : World) (hs : StL w v s) (hsm : Small s) : Calls Tryz.prog 79 #[v] w fun r w' => r = .returned (.bool (decide (ff s = none))) /\ Up w w' := by
 have HC : Hid (∀ W, Up w W -> Calls Tryz.prog 113 #[v] W fun e w' => e = .returned (ckV (ff s)) /\ Up W w') := fun W u => check_ v s W (hs.up u) hsm
 unfold ckV at HC
 obtain ⟨vp, vc, vz, hv, h1, h2, h3⟩ := hs
 unfold sv at hv
 obtain ⟨a1, k1, rfl, -⟩ := lc_at h1
 obtain ⟨a2, k2, rfl, -⟩ := lc_at h2
 obtain ⟨vs, h4, -⟩ := h3
 obtain ⟨a3, k3, rfl, -⟩ := lc_at h4
 subst hv
 generalize s.ps.length = np at *
 generalize s.cs.length = nc at *
 generalize s.zs.length = nz at *
 generalize s.turn = tu at *
 generalize s.whose = wo at *
 generalize s.fin = fi at *
 generalize s.winner = wi at *
 cases hf : ff s with
 | none =>
  rw [hf] at HC
  simp only [if_true, Option.getD_none] at HC
  clear h1 h2 h4 hf
  go_enter Tryz.func79, Tryz.ntmps79
  go_wp2_with fail
  refine Calls.mono (HC.out _ (by first | exact Up.refl _ | exact (Up.refl _).alloc _)) ?_
  rintro r W1 ⟨rfl, u1⟩
  have HU : Hid (Up w W1) := by first | exact u1 | exact Up.trans ((Up.refl _).alloc _) u1
  clear u1
  go_wp2
  all_goals (go_ret; exact ⟨by simp, HU.out⟩)
 | some k =>
  rw [hf] at HC
  simp only [reduceCtorEq, if_false, Option.getD_some] at HC
  clear h1 h2 h4 hf
  go_enter Tryz.func79, Tryz.ntmps79
  go_wp2_with fail
  refine Calls.mono (HC.out _ (by first | exact Up.refl _ | exact (Up.refl _).alloc _)) ?_
  rintro r W1 ⟨rfl, u1⟩
  have HU : Hid (Up w W1) := by first | exact u1 | exact Up.trans ((Up.refl _).alloc _) u1
  clear u1
  go_wp2
  all_goals (go_ret; exact ⟨by simp, HU.out⟩)
end DE
end Go.Proofs.YtodhjjeagmjhdaaGreatDoor
namespace Go.Proofs.YtodhjjeagmjhdaaGreatDoor
open Go.RowKit
namespace DE
open Go.Proofs.YtodhjjeagmjhdaaGreatDoor.ST
def rowOf (e : Ev) : Array Value := if kindB e.kind = true then row e.kind.toNat else row 0
theorem ruleAny_ (e : Ev) (oa : Option Addr) (oc : Nat) (w : World) : Calls Tryz.prog 82 #[.agg tabV, evv e (.slice oa e.ord.length oc)] w fun x w' => x = .returned (.tuple #[.agg (rowOf e), .bool (okB e)]) /\ Up w w' := by
 unfold rowOf okB
 by_cases hk : kindB e.kind = true
 ·rw [if_pos hk, hk]
  simpa using rule_ e oa oc w hk
 ·have hk' : kindB e.kind = false := by simpa using hk
  rw [if_neg hk, hk']
  simpa using ruleOf_none e oa e.ord.length oc w hk'
theorem rowOf_size (e : Ev) : (rowOf e).size = 6 := by
 unfold rowOf
 split
 ·rename_i h
  rcases kinds h with h | h | h | h | h | h | h <;> rw [h] <;> rfl
 ·rfl
theorem rowOf_one (e : Ev) : (rowOf e).all (·.oneCell') = true := by
 unfold rowOf
 split
 ·rename_i h
  rcases kinds h with h | h | h | h | h | h | h <;> rw [h] <;> kernel_rfl
 ·kernel_rfl
theorem infoRule : (Tryz.prog.info? 106).map (·.size) = some 6 := by kernel_rfl
theorem infoEv : (Tryz.prog.info? 30).map (·.size) = some 12 := by kernel_rfl
theorem infoSt : (Tryz.prog.info? 27).map (·.size) = some 7 := by kernel_rfl
theorem rowOf_at {e : Ev} (h : kindB e.kind = true) : (rowOf e)[1]? = some (fv (fitsN e.kind)) /\ (rowOf e)[2]? = some (fv (leadsN e.kind)) /\ (rowOf e)[3]? = some (fv (doN e.kind)) /\ (rowOf e)[4]? = some (fv (undoN e.kind)) := by
 unfold rowOf
 rw [if_pos h]
 exact row_at h
def zS : Array Value := #[.slice none 0 0, .slice none 0 0, .slice none 0 0, .int .i32 0, .int .i64 0, .int .i8 0, .int .i64 0]
def zR : Array Value := #[.nilFunc, .nilFunc, .nilFunc, .nilFunc, .nilFunc, .nilFunc]
def zEv : Array Value := #[.int .i8 0, .int .i8 0, .int .i64 0, .int .i64 0, .int .i64 0, .int .i64 0, .int .i64 0, .int .i64 0, .int .i64 0, .int .i32 0, .int .i32 0, .slice none 0 0]
theorem setRow_other (w : World) (g k : Nat) (C : Array Value) (h : k ≠ g) : (w.setRow g C).heap[k]? = w.heap[k]? := by
 simp only [World.setRow, Array.getElem?_modify]
 rw [if_neg (fun e => h e.symm)]
theorem setRow_size (w : World) (g : Nat) (C : Array Value) : (w.setRow g C).heap.size = w.heap.size := by simp [World.setRow]
theorem filled (w : World) (A C : Array Value) (t : TypeId) : ((w.alloc (.cells A t)).setRow w.heap.size C).heap[w.heap.size]? = some (.cells C t (0, 0)) /\ Up w ((w.alloc (.cells A t)).setRow w.heap.size C) /\ ((w.alloc (.cells A t)).setRow w.heap.size C).heap.size = w.heap.size + 1 :=
 ⟨setRow_heap _ _ A _ _ _ (heap_alloc_new w _), up_row ((Up.refl _).alloc _) (Nat.le_refl _) _, by rw [setRow_size]; simp⟩
theorem wpList_world {P : Program} {ops : Array Oper} {rest : List Oper} {a : Act} {w : World} {Q : Exit -> Act -> World -> Prop} {W : World} (h : w = W) (k : wpList P ops Q rest a W) : wpList P ops Q rest a w := by subst h; exact k
theorem wpList_load_rowG {P : Program} {ops : Array Oper} {rest : List Oper} {o : Oper} {a : Act} {w : World} {Q : Exit -> Act -> World -> Prop} (hw : Region.wanted o (yielded ops a.tmps) = true) (ty : TypeId) (x : Operand) (ho : o.op = .load ty x)
  (g : Nat) (hx : a.eval x = .pointer (some ⟨g, 0, none⟩)) (t : TypeId) (cs : Array Value) (fr : Nat × Nat) (d : TypeDesc) (hg : w.heap[g]? = some (.cells cs t fr))
  (hu : P.underlying ty = some d) (hd : (match d with | .struct _ | .array _ _ => true | _ => false) = true) (hi : (P.info? ty).map (·.size) = some cs.size)
  (h : wpList P ops Q rest (a.put o.dst (.agg cs)) w) : wpList P ops Q (o :: rest) a w := by
 unfold wpList
 rw [if_pos hw]
 exact Or.inl (wp_load_row ty x ho g hx t cs fr d hg hu hd hi h)
theorem fits_enters {k : Int} (h : kindB k = true) : ∀ (args : Array Value) (w : World), (callFunc (fitsN k) args).run Tryz.prog w = .ok (.enter (fitsN k) args) w := by
 rcases kinds h with rfl | rfl | rfl | rfl | rfl | rfl | rfl
 ·exact enters_of Tryz.func118 (by kernel_rfl) rfl
 ·exact enters_of Tryz.func124 (by kernel_rfl) rfl
 ·exact enters_of Tryz.func130 (by kernel_rfl) rfl
 ·exact enters_of Tryz.func136 (by kernel_rfl) rfl
 ·exact enters_of Tryz.func141 (by kernel_rfl) rfl
 ·exact enters_of Tryz.func147 (by kernel_rfl) rfl
 ·exact enters_of Tryz.func153 (by kernel_rfl) rfl
theorem leads_enters {k : Int} (h : kindB k = true) : ∀ (args : Array Value) (w : World), (callFunc (leadsN k) args).run Tryz.prog w = .ok (.enter (leadsN k) args) w := by
 rcases kinds h with rfl | rfl | rfl | rfl | rfl | rfl | rfl
 ·exact enters_of Tryz.func119 (by kernel_rfl) rfl
 ·exact enters_of Tryz.func125 (by kernel_rfl) rfl
 ·exact enters_of Tryz.func131 (by kernel_rfl) rfl
 ·exact enters_of Tryz.func136 (by kernel_rfl) rfl
 ·exact enters_of Tryz.func142 (by kernel_rfl) rfl
 ·exact enters_of Tryz.func148 (by kernel_rfl) rfl
 ·exact enters_of Tryz.func154 (by kernel_rfl) rfl
theorem do_enters {k : Int} (h : kindB k = true) : ∀ (args : Array Value) (w : World), (callFunc (doN k) args).run Tryz.prog w = .ok (.enter (doN k) args) w := by
 rcases kinds h with rfl | rfl | rfl | rfl | rfl | rfl | rfl
 ·exact enters_of Tryz.func120 (by kernel_rfl) rfl
 ·exact enters_of Tryz.func126 (by kernel_rfl) rfl
 ·exact enters_of Tryz.func132 (by kernel_rfl) rfl
 ·exact enters_of Tryz.func137 (by kernel_rfl) rfl
 ·exact enters_of Tryz.func143 (by kernel_rfl) rfl
 ·exact enters_of Tryz.func149 (by kernel_rfl) rfl
 ·exact enters_of Tryz.func155 (by kernel_rfl) rfl
theorem undo_enters {k : Int} (h : kindB k = true) : ∀ (args : Array Value) (w : World), (callFunc (undoN k) args).run Tryz.prog w = .ok (.enter (undoN k) args) w := by
 rcases kinds h with rfl | rfl | rfl | rfl | rfl | rfl | rfl
 ·exact enters_of Tryz.func121 (by kernel_rfl) rfl
 ·exact enters_of Tryz.func127 (by kernel_rfl) rfl
 ·exact enters_of Tryz.func133 (by kernel_rfl) rfl
 ·exact enters_of Tryz.func138 (by kernel_rfl) rfl
 ·exact enters_of Tryz.func144 (by kernel_rfl) rfl
 ·exact enters_of Tryz.func150 (by kernel_rfl) rfl
 ·exact enters_of Tryz.func156 (by kernel_rfl) rfl
theorem evc_one (e : Ev) (oa : Option Addr) (n c : Nat) : (evc e (.slice oa n c)).all (·.oneCell') = true := by simp [evc, Value.oneCell']
end DE
end Go.Proofs.YtodhjjeagmjhdaaGreatDoor
namespace Go.Proofs.YtodhjjeagmjhdaaGreatDoor
open Go.RowKit
namespace ST
def Kp (k : Nat) (W W' : World) : Prop := ∀ (g : Nat) (o : Obj), k <= g -> W.heap[g]? = some o -> W'.heap[g]? = some o
theorem Kp.refl (k : Nat) (W : World) : Kp k W W := fun _ _ _ h => h
theorem Kp.trans {k : Nat} {a b c : World} (h : Kp k a b) (i : Kp k b c) : Kp k a c := fun g o hg ho => i g o hg (h g o hg ho)
theorem Kp.up {k : Nat} {W W' : World} (u : Up W W') : Kp k W W' := fun _ _ _ h => u.heap h
theorem Kp.more {k k' : Nat} {W W' : World} (h : Kp k W W') (hk : k <= k') : Kp k' W W' := fun g o hg ho => h g o (by omega) ho
theorem Kp.set {k b j : Nat} {W : World} {u : Value} (hb : b < k) : Kp k W (W.setCell ⟨b, j, none⟩ u) := fun g _ hg h => by
 rw [Below.heap_setCell _ _ _ _ (by show g ≠ b; omega)]; exact h
theorem Kp.row {k b : Nat} {W : World} {C : Array Value} (hb : b < k) : Kp k W (W.setRow b C) := fun g _ hg h => by
 simp only [World.setRow, Array.getElem?_modify]
 rw [if_neg (by omega)]; exact h
theorem row_kp {W W' : World} {base e s n : Nat} {v : Value} {xs : List Value} (h : W.ownsRow base e s v n xs) (kp : Kp base W W') : W'.ownsRow base e s v n xs := by
 refine ⟨h.1, ?_⟩
 rcases h.2 with h0 | ⟨g, cap, cur, e1, e2, e3, e4⟩
 ·exact .inl h0
 ·exact .inr ⟨g, cap, cur, e1, e2, kp _ _ e2 e3, e4⟩
theorem SOA.kp {base : Nat} {W W' : World} {v : Value} {s : Stt} (h : SOA base W v s) (kp : Kp base W W') : SOA base W' v s := by
 obtain ⟨vp, vc, vz, hv, h1, h2, vs, h3, h4, h5⟩ := h
 exact ⟨vp, vc, vz, hv, row_kp h1 kp, row_kp h2 kp, vs, row_kp h3 kp, fun i hi => row_kp (h4 i hi) kp, h5⟩
theorem SOA.less {b b' : Nat} {W : World} {v : Value} {s : Stt} (h : SOA b W v s) (hb : b' <= b) : SOA b' W v s := by
 obtain ⟨vp, vc, vz, hv, h1, h2, vs, h3, h4, h5⟩ := h
 exact ⟨vp, vc, vz, hv, own_less h1 hb, own_less h2 hb, vs, own_less h3 hb, fun i hi => own_less (h4 i hi) hb, h5⟩
theorem SO.kp {base : Nat} {W W' : World} {v : Value} {s : Stt} (h : SO base W v s) (kp : Kp base W W') : SO base W' v s := by
 obtain ⟨vp, vc, vz, hv, h1, h2, vs, h3, h4⟩ := h
 exact ⟨vp, vc, vz, hv, row_kp h1 kp, row_kp h2 kp, vs, row_kp h3 kp, fun i hi => row_kp (h4 i hi) kp⟩
theorem WI.kp {base : Nat} {W W' : World} {v : Value} {l : List Int} (h : WI base W v l) (kp : Kp base W W') : WI base W' v l := by
 obtain ⟨g, h1, h2, h3⟩ := h
 exact ⟨g, h1, h2, kp _ _ h1 h3⟩
theorem WI.val {b : Nat} {W : World} {v : Value} {l : List Int} (h : WI b W v l) : ∃ a c, v = .slice a l.length c := by
 obtain ⟨g, h1, h2, h3⟩ := h
 exact ⟨_, _, h2⟩
theorem up_setRow {w W : World} {g : Nat} (h : Up w W) (hg : w.heap.size <= g) (C : Array Value) : Up w (W.setRow g C) := by
 refine ⟨h.os, h.tape, h.output, by have := h.size; simpa [World.setRow] using this, fun k hk => ?_⟩
 rw [<- h.block k hk]
 simp only [World.setRow, Array.getElem?_modify]
 rw [if_neg (by omega)]
end ST
end Go.Proofs.YtodhjjeagmjhdaaGreatDoor
