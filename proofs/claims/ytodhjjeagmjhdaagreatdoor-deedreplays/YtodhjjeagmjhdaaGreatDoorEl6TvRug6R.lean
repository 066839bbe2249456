/- El6, Mb6, Ry6, Kp6, Dr6, Rug6 -/
import Derived.Test.YtodhjjeagmjhdaaGreatDoorPr6TvPw6R
import Derived.Shelf.Abstract
import Derived.Deep.RegionHeld
import Derived.Deep.Cut
namespace Go.Proofs.YtodhjjeagmjhdaaGreatDoor
open Go.RowKit
namespace DE
open Go.Proofs.YtodhjjeagmjhdaaGreatDoor.ST
def evC (l : List Ev) (vs : List Value) (i : Nat) : List Value := (evc (l.getD i dE) (vs.getD i nl)).toList
def evsC (l : List Ev) (vs : List Value) : List Value := (List.range l.length).flatMap (evC l vs)
theorem evC_len (l : List Ev) (vs : List Value) (i : Nat) : (evC l vs i).length = 12 := rfl
theorem evsC_len (l : List Ev) (vs : List Value) : (evsC l vs).length = l.length * 12 := by
 unfold evsC
 rw [flat_len (evC l vs) 12 (evC_len l vs),List.length_range]
theorem evsC_get (l : List Ev) (vs : List Value) (i j : Nat) (hi : i < l.length) (hj : j < 12) : (evsC l vs)[i * 12 + j]? = (evc (l.getD i dE) (vs.getD i nl))[j]? := by
 unfold evsC
 rw [flat_get (evC l vs) 12 (evC_len l vs) 0 (List.range l.length) i j (by simpa using hi) hj]
 have : (List.range l.length).getD i 0 = i := by simp [List.getD,hi]
 rw [this]
 unfold evC
 simp
def EVS (W : World) (v : Value) (l : List Ev) : Prop := ∃ vs : List Value,LC W v 12 l.length (evsC l vs) /\ ∀ i,i < l.length -> IL W (vs.getD i nl) (l.getD i dE).ord
theorem EVS.up {W W' : World} {v : Value} {l : List Ev} (h : EVS W v l) (u : Up W W') : EVS W' v l := by
 obtain ⟨vs,h1,h2⟩ := h
 exact ⟨vs,h1.up u,fun i hi=>(h2 i hi).up u⟩
def Ev12 (W : World) (b o : Nat) (e : Ev) (vo : Value) : Prop :=
 W.cell? ⟨b,o,none⟩ = some (.int .i8 e.kind) /\ W.cell? ⟨b,o + 1,none⟩ = some (.int .i8 e.field) /\ W.cell? ⟨b,o + 2,none⟩ = some (.int .i64 e.card) /\ W.cell? ⟨b,o + 3,none⟩ = some (.int .i64 e.player) /\
 W.cell? ⟨b,o + 4,none⟩ = some (.int .i64 e.other) /\ W.cell? ⟨b,o + 5,none⟩ = some (.int .i64 e.fr) /\ W.cell? ⟨b,o + 6,none⟩ = some (.int .i64 e.frAt) /\ W.cell? ⟨b,o + 7,none⟩ = some (.int .i64 e.to_) /\
 W.cell? ⟨b,o + 8,none⟩ = some (.int .i64 e.toAt) /\ W.cell? ⟨b,o + 9,none⟩ = some (.int .i32 e.was) /\ W.cell? ⟨b,o + 10,none⟩ = some (.int .i32 e.now) /\ W.cell? ⟨b,o + 11,none⟩ = some vo
theorem evs_at {w : World} {v : Value} {l : List Ev} (h : EVS w v l) : ∃ a cap,v = .slice a l.length cap /\ l.length <= cap /\ (l.length ≠ 0 -> ∃ b off,a = some ⟨b,off,none⟩ /\ b < w.heap.size /\ ∀ i,i < l.length -> ∃ oa oc,(∀ W,Up w W -> Ev12 W b (off + i * 12) (l.getD i dE) (.slice oa (l.getD i dE).ord.length oc)) /\ IL w (.slice oa (l.getD i dE).ord.length oc) (l.getD i dE).ord) := by
 obtain ⟨vs,h1,h2⟩ := h
 obtain ⟨a,cap,hv,hc,h⟩ := lc_at h1
 refine ⟨a,cap,hv,hc,fun hn=>?_⟩
 obtain ⟨b,off,ha,hb,hcell⟩ := h hn
 refine ⟨b,off,ha,hb (by decide),fun i hi=>?_⟩
 have hI := h2 i hi
 obtain ⟨oa,oc,hvo,-,-⟩ := il_at hI
 refine ⟨oa,oc,fun W hu=>?_,by rw [hvo] at hI; exact hI⟩
 have k : ∀ j,j < 12 -> W.cell? ⟨b,off + (i * 12 + j),none⟩ = (evc (l.getD i dE) (vs.getD i nl))[j]? := fun j hj=>by
  rw [hcell W hu (i * 12 + j) (by omega)]; exact evsC_get l vs i j hi hj
 rw [hvo] at k
 exact ⟨k 0 (by decide),k 1 (by decide),k 2 (by decide),k 3 (by decide),k 4 (by decide),k 5 (by decide),k 6 (by decide),k 7 (by decide),k 8 (by decide),k 9 (by decide),k 10 (by decide),k 11 (by decide)⟩
theorem evs_one {W : World} {g : Nat} {e : Ev} {vo : Value} {t : TypeId} (h : W.heap[g]? = some (.cells (evc e vo) t (0,0))) (ho : IL W vo e.ord) : EVS W (.slice (some ⟨g,0,none⟩) 1 1) [e] := by
 refine ⟨[vo],?_,fun i hi=>?_⟩
 ·refine lc_row (e := t) (cs := evsC [e] [vo]) ?_ (evsC_len _ _) 1 (Nat.le_refl _)
  rw [h]
  rfl
 ·simp only [List.length_singleton] at hi
  obtain rfl : i = 0 := by omega
  exact ho
def placeOf : Option (Sum Nat Stt) -> Nat
 | some (.inl i)=>i
 | _=>0
def errOf : Option (Sum Nat Stt) -> Int
 | none=>10
 | some (.inl _)=>11
 | some (.inr _)=>0
def stOf : Option (Sum Nat Stt) -> Stt
 | some (.inr t)=>t
 | _=>noS
def repO (s : Stt) (l : List Ev) : Option (Sum Nat Stt) := if ff s = none then some (repl s l 0) else none
def bckO (s : Stt) (l : List Ev) : Option (Sum Nat Stt) := if ff s = none then some (bck l l.length s) else none
def RepV (w : World) (o : Option (Sum Nat Stt)) (x : Ending) (w' : World) : Prop := ∃ v',x = .returned (.tuple #[v',.int .i64 (placeOf o : Nat),.int .i64 (errOf o)]) /\ SOA w.heap.size w' v' (stOf o) /\ Up w w'
def AppV (w : World) (o : Option (Sum Nat Stt)) (x : Ending) (w' : World) : Prop := ∃ v',x = .returned (.tuple #[v',.int .i64 (errOf o)]) /\ SOA w.heap.size w' v' (stOf o) /\ Up w w'
theorem noS_soa (b : Nat) (W : World) : SOA b W (.agg #[.slice none 0 0,.slice none 0 0,.slice none 0 0,.int .i32 0,.int .i64 0,.int .i8 0,.int .i64 0]) noS :=
 ⟨.slice none 0 0,.slice none 0 0,.slice none 0 0,rfl,⟨rfl,.inl ⟨rfl,rfl⟩⟩,⟨rfl,.inl ⟨rfl,rfl⟩⟩,[],⟨rfl,.inl ⟨rfl,rfl⟩⟩,fun i hi=>absurd hi (Nat.not_lt_zero i),RA.nil _⟩
end DE
end Go.Proofs.YtodhjjeagmjhdaaGreatDoor
namespace Go.Proofs.YtodhjjeagmjhdaaGreatDoor
open Go.RowKit
attribute [local go_sem ↓] Go.wp_at_zero Go.wp_at_succ
namespace DE
open Go.Proofs.YtodhjjeagmjhdaaGreatDoor.ST
set_option maxRecDepth 100000 in
set_option maxHeartbeats 2000000 in
theorem mayBe_ (v : Value) (s : Stt) (w : World) (hs : StL w v s) (hsm : Small s) : Calls Tryz.prog 79 #[v] w fun r w'=>r = .returned (.bool (decide (ff s = none))) /\ Up w w' := by
 have HC : Hid (∀ W,Up w W -> Calls Tryz.prog 113 #[v] W fun e w'=>e = .returned (ckV (ff s)) /\ Up W w') := fun W u=>check_ v s W (hs.up u) hsm
 unfold ckV at HC
 obtain ⟨vp,vc,vz,hv,h1,h2,h3⟩ := hs
 unfold sv at hv
 obtain ⟨a1,k1,rfl,-⟩ := lc_at h1
 obtain ⟨a2,k2,rfl,-⟩ := lc_at h2
 obtain ⟨vs,h4,-⟩ := h3
 obtain ⟨a3,k3,rfl,-⟩ := lc_at h4
 subst hv
 generalize s.ps.length = np at *
 generalize s.cs.length = nc at *
 generalize s.zs.length = nz at *
 generalize s.turn = tu at *
 generalize s.whose = wo at *
 generalize s.fin = fi at *
 generalize s.winner = wi at *
 cases hf : ff s with
 | none =>
  rw [hf] at HC
  simp only [if_true,Option.getD_none] at HC
  clear h1 h2 h4 hf
  go_enter Tryz.func79,Tryz.ntmps79
  go_wp2_with fail
  refine Calls.mono (HC.out _ (by first | exact Up.refl _ | exact (Up.refl _).alloc _)) ?_
  rintro r W1 ⟨rfl,u1⟩
  have HU : Hid (Up w W1) := by first | exact u1 | exact Up.trans ((Up.refl _).alloc _) u1
  clear u1
  go_wp2
  all_goals (go_ret; exact ⟨by simp,HU.out⟩)
 | some k =>
  rw [hf] at HC
  simp only [reduceCtorEq,if_false,Option.getD_some] at HC
  clear h1 h2 h4 hf
  go_enter Tryz.func79,Tryz.ntmps79
  go_wp2_with fail
  refine Calls.mono (HC.out _ (by first | exact Up.refl _ | exact (Up.refl _).alloc _)) ?_
  rintro r W1 ⟨rfl,u1⟩
  have HU : Hid (Up w W1) := by first | exact u1 | exact Up.trans ((Up.refl _).alloc _) u1
  clear u1
  go_wp2
  all_goals (go_ret; exact ⟨by simp,HU.out⟩)
end DE
end Go.Proofs.YtodhjjeagmjhdaaGreatDoor
namespace Go.Proofs.YtodhjjeagmjhdaaGreatDoor
open Go.RowKit
namespace DE
open Go.Proofs.YtodhjjeagmjhdaaGreatDoor.ST
def rowOf (e : Ev) : Array Value := if kindB e.kind = true then row e.kind.toNat else row 0
theorem rowOf_size (e : Ev) : (rowOf e).size = 6 := by
 unfold rowOf
 split
 ·rename_i h
  rcases kinds h with h | h | h | h | h | h | h <;> rw [h] <;> rfl
 ·rfl
theorem rowOf_one (e : Ev) : (rowOf e).all (·.oneCell') = true := by
 unfold rowOf
 split
 ·rename_i h
  rcases kinds h with h | h | h | h | h | h | h <;> rw [h] <;> kernel_rfl
 ·kernel_rfl
theorem infoRule : (Tryz.prog.info? 106).map (·.size) = some 6 := by kernel_rfl
theorem infoEv : (Tryz.prog.info? 30).map (·.size) = some 12 := by kernel_rfl
theorem infoSt : (Tryz.prog.info? 27).map (·.size) = some 7 := by kernel_rfl
theorem rowOf_at {e : Ev} (h : kindB e.kind = true) : (rowOf e)[1]? = some (fv (fitsN e.kind)) /\ (rowOf e)[2]? = some (fv (leadsN e.kind)) /\ (rowOf e)[3]? = some (fv (doN e.kind)) /\ (rowOf e)[4]? = some (fv (undoN e.kind)) := by
 unfold rowOf
 rw [if_pos h]
 exact row_at h
def zS : Array Value := #[.slice none 0 0,.slice none 0 0,.slice none 0 0,.int .i32 0,.int .i64 0,.int .i8 0,.int .i64 0]
def zR : Array Value := #[.nilFunc,.nilFunc,.nilFunc,.nilFunc,.nilFunc,.nilFunc]
def zEv : Array Value := #[.int .i8 0,.int .i8 0,.int .i64 0,.int .i64 0,.int .i64 0,.int .i64 0,.int .i64 0,.int .i64 0,.int .i64 0,.int .i32 0,.int .i32 0,.slice none 0 0]
theorem setRow_other (w : World) (g k : Nat) (C : Array Value) (h : k ≠ g) : (w.setRow g C).heap[k]? = w.heap[k]? := by
 simp only [World.setRow,Array.getElem?_modify]
 rw [if_neg (fun e=>h e.symm)]
theorem setRow_size (w : World) (g : Nat) (C : Array Value) : (w.setRow g C).heap.size = w.heap.size := by simp [World.setRow]
theorem filled (w : World) (A C : Array Value) (t : TypeId) : ((w.alloc (.cells A t)).setRow w.heap.size C).heap[w.heap.size]? = some (.cells C t (0,0)) /\ Up w ((w.alloc (.cells A t)).setRow w.heap.size C) /\ ((w.alloc (.cells A t)).setRow w.heap.size C).heap.size = w.heap.size + 1 :=
 ⟨setRow_heap _ _ A _ _ _ (heap_alloc_new w _),up_row ((Up.refl _).alloc _) (Nat.le_refl _) _,by rw [setRow_size]; simp⟩
theorem wpList_world {P : Program} {ops : Array Oper} {rest : List Oper} {a : Act} {w : World} {Q : Exit -> Act -> World -> Prop} {W : World} (h : w = W) (k : wpList P ops Q rest a W) : wpList P ops Q rest a w := by subst h; exact k
theorem wpList_load_rowG {P : Program} {ops : Array Oper} {rest : List Oper} {o : Oper} {a : Act} {w : World} {Q : Exit -> Act -> World -> Prop} (hw : Region.wanted o (yielded ops a.tmps) = true) (ty : TypeId) (x : Operand) (ho : o.op = .load ty x)
  (g : Nat) (hx : a.eval x = .pointer (some ⟨g,0,none⟩)) (t : TypeId) (cs : Array Value) (fr : Nat × Nat) (d : TypeDesc) (hg : w.heap[g]? = some (.cells cs t fr))
  (hu : P.underlying ty = some d) (hd : (match d with | .struct _ | .array _ _=>true | _=>false) = true) (hi : (P.info? ty).map (·.size) = some cs.size)
  (h : wpList P ops Q rest (a.put o.dst (.agg cs)) w) : wpList P ops Q (o :: rest) a w := by
 unfold wpList
 rw [if_pos hw]
 exact Or.inl (wp_load_row ty x ho g hx t cs fr d hg hu hd hi h)
theorem fits_enters {k : Int} (h : kindB k = true) : ∀ (args : Array Value) (w : World),(callFunc (fitsN k) args).run Tryz.prog w = .ok (.enter (fitsN k) args) w := by
 rcases kinds h with rfl | rfl | rfl | rfl | rfl | rfl | rfl
 ·exact enters_of Tryz.func118 (by kernel_rfl) rfl
 ·exact enters_of Tryz.func124 (by kernel_rfl) rfl
 ·exact enters_of Tryz.func130 (by kernel_rfl) rfl
 ·exact enters_of Tryz.func136 (by kernel_rfl) rfl
 ·exact enters_of Tryz.func141 (by kernel_rfl) rfl
 ·exact enters_of Tryz.func147 (by kernel_rfl) rfl
 ·exact enters_of Tryz.func153 (by kernel_rfl) rfl
theorem leads_enters {k : Int} (h : kindB k = true) : ∀ (args : Array Value) (w : World),(callFunc (leadsN k) args).run Tryz.prog w = .ok (.enter (leadsN k) args) w := by
 rcases kinds h with rfl | rfl | rfl | rfl | rfl | rfl | rfl
 ·exact enters_of Tryz.func119 (by kernel_rfl) rfl
 ·exact enters_of Tryz.func125 (by kernel_rfl) rfl
 ·exact enters_of Tryz.func131 (by kernel_rfl) rfl
 ·exact enters_of Tryz.func136 (by kernel_rfl) rfl
 ·exact enters_of Tryz.func142 (by kernel_rfl) rfl
 ·exact enters_of Tryz.func148 (by kernel_rfl) rfl
 ·exact enters_of Tryz.func154 (by kernel_rfl) rfl
theorem do_enters {k : Int} (h : kindB k = true) : ∀ (args : Array Value) (w : World),(callFunc (doN k) args).run Tryz.prog w = .ok (.enter (doN k) args) w := by
 rcases kinds h with rfl | rfl | rfl | rfl | rfl | rfl | rfl
 ·exact enters_of Tryz.func120 (by kernel_rfl) rfl
 ·exact enters_of Tryz.func126 (by kernel_rfl) rfl
 ·exact enters_of Tryz.func132 (by kernel_rfl) rfl
 ·exact enters_of Tryz.func137 (by kernel_rfl) rfl
 ·exact enters_of Tryz.func143 (by kernel_rfl) rfl
 ·exact enters_of Tryz.func149 (by kernel_rfl) rfl
 ·exact enters_of Tryz.func155 (by kernel_rfl) rfl
theorem undo_enters {k : Int} (h : kindB k = true) : ∀ (args : Array Value) (w : World),(callFunc (undoN k) args).run Tryz.prog w = .ok (.enter (undoN k) args) w := by
 rcases kinds h with rfl | rfl | rfl | rfl | rfl | rfl | rfl
 ·exact enters_of Tryz.func121 (by kernel_rfl) rfl
 ·exact enters_of Tryz.func127 (by kernel_rfl) rfl
 ·exact enters_of Tryz.func133 (by kernel_rfl) rfl
 ·exact enters_of Tryz.func138 (by kernel_rfl) rfl
 ·exact enters_of Tryz.func144 (by kernel_rfl) rfl
 ·exact enters_of Tryz.func150 (by kernel_rfl) rfl
 ·exact enters_of Tryz.func156 (by kernel_rfl) rfl
theorem evc_one (e : Ev) (oa : Option Addr) (n c : Nat) : (evc e (.slice oa n c)).all (·.oneCell') = true := by simp [evc,Value.oneCell']
end DE
end Go.Proofs.YtodhjjeagmjhdaaGreatDoor
namespace Go.Proofs.YtodhjjeagmjhdaaGreatDoor
open Go.RowKit
namespace ST
def Kp (k : Nat) (W W' : World) : Prop := ∀ (g : Nat) (o : Obj),k <= g -> W.heap[g]? = some o -> W'.heap[g]? = some o
theorem Kp.refl (k : Nat) (W : World) : Kp k W W := fun _ _ _ h=>h
theorem Kp.trans {k : Nat} {a b c : World} (h : Kp k a b) (i : Kp k b c) : Kp k a c := fun g o hg ho=>i g o hg (h g o hg ho)
theorem Kp.up {k : Nat} {W W' : World} (u : Up W W') : Kp k W W' := fun _ _ _ h=>u.heap h
theorem Kp.more {k k' : Nat} {W W' : World} (h : Kp k W W') (hk : k <= k') : Kp k' W W' := fun g o hg ho=>h g o (by omega) ho
theorem Kp.set {k b j : Nat} {W : World} {u : Value} (hb : b < k) : Kp k W (W.setCell ⟨b,j,none⟩ u) := fun g _ hg h=>by
 rw [Below.heap_setCell _ _ _ _ (by show g ≠ b; omega)]; exact h
theorem Kp.row {k b : Nat} {W : World} {C : Array Value} (hb : b < k) : Kp k W (W.setRow b C) := fun g _ hg h=>by
 simp only [World.setRow,Array.getElem?_modify]
 rw [if_neg (by omega)]; exact h
theorem row_kp {W W' : World} {base e s n : Nat} {v : Value} {xs : List Value} (h : W.ownsRow base e s v n xs) (kp : Kp base W W') : W'.ownsRow base e s v n xs := by
 refine ⟨h.1,?_⟩
 rcases h.2 with h0 | ⟨g,cap,cur,e1,e2,e3,e4⟩
 ·exact .inl h0
 ·exact .inr ⟨g,cap,cur,e1,e2,kp _ _ e2 e3,e4⟩
theorem SOA.kp {base : Nat} {W W' : World} {v : Value} {s : Stt} (h : SOA base W v s) (kp : Kp base W W') : SOA base W' v s := by
 obtain ⟨vp,vc,vz,hv,h1,h2,vs,h3,h4,h5⟩ := h
 exact ⟨vp,vc,vz,hv,row_kp h1 kp,row_kp h2 kp,vs,row_kp h3 kp,fun i hi=>row_kp (h4 i hi) kp,h5⟩
theorem SOA.less {b b' : Nat} {W : World} {v : Value} {s : Stt} (h : SOA b W v s) (hb : b' <= b) : SOA b' W v s := by
 obtain ⟨vp,vc,vz,hv,h1,h2,vs,h3,h4,h5⟩ := h
 exact ⟨vp,vc,vz,hv,own_less h1 hb,own_less h2 hb,vs,own_less h3 hb,fun i hi=>own_less (h4 i hi) hb,h5⟩
theorem SO.kp {base : Nat} {W W' : World} {v : Value} {s : Stt} (h : SO base W v s) (kp : Kp base W W') : SO base W' v s := by
 obtain ⟨vp,vc,vz,hv,h1,h2,vs,h3,h4⟩ := h
 exact ⟨vp,vc,vz,hv,row_kp h1 kp,row_kp h2 kp,vs,row_kp h3 kp,fun i hi=>row_kp (h4 i hi) kp⟩
theorem WI.kp {base : Nat} {W W' : World} {v : Value} {l : List Int} (h : WI base W v l) (kp : Kp base W W') : WI base W' v l := by
 obtain ⟨g,h1,h2,h3⟩ := h
 exact ⟨g,h1,h2,kp _ _ h1 h3⟩
theorem WI.val {b : Nat} {W : World} {v : Value} {l : List Int} (h : WI b W v l) : ∃ a c,v = .slice a l.length c := by
 obtain ⟨g,h1,h2,h3⟩ := h
 exact ⟨_,_,h2⟩
theorem up_setRow {w W : World} {g : Nat} (h : Up w W) (hg : w.heap.size <= g) (C : Array Value) : Up w (W.setRow g C) := by
 refine ⟨h.os,h.tape,h.output,by have := h.size; simpa [World.setRow] using this,fun k hk=>?_⟩
 rw [<- h.block k hk]
 simp only [World.setRow,Array.getElem?_modify]
 rw [if_neg (by omega)]
end ST
end Go.Proofs.YtodhjjeagmjhdaaGreatDoor
namespace Go.Proofs.YtodhjjeagmjhdaaGreatDoor
open Go.RowKit
namespace DE
open Go.Proofs.YtodhjjeagmjhdaaGreatDoor.ST
theorem exec_load_row {P : Program} {o : Oper} {a : Act} (ty : TypeId) (x : Operand) (ho : o.op = .load ty x) (g : Nat) (hx : a.eval x = .pointer (some ⟨g,0,none⟩)) (t : TypeId) (cs : Array Value) (fr : Nat × Nat) (d : TypeDesc)
  (hu : P.underlying ty = some d) (hd : (match d with | .struct _ | .array _ _=>true | _=>false) = true) (hi : (P.info? ty).map (·.size) = some cs.size) (w : World) (hg : w.heap[g]? = some (.cells cs t fr)) : (execOp a.eval o).run P w = .ok (.value (.agg cs)) w := by
 unfold execOp
 simp only [ho,hx,Instr.loadAt,Instr.sureAddr,Sem.run_bind,Sem.run_pure,Result.andThen_ok,run_loadVar_row w g t ty cs fr d hg hu hd hi]
theorem wpAnyH_world {P : Program} {md : Region.Mode} {ops : Array Oper} {Q : Exit -> Act -> World -> Prop} {S : World -> Prop} {fuel : Nat} {listed : Array Bool} {a : Act} {w W : World} (h : w = W) (k : wpAnyH P md ops Q S fuel listed a W) : wpAnyH P md ops Q S fuel listed a w := by subst h; exact k
theorem stepH_store {P : Program} {o : Oper} {a : Act} {w : World} {K : Act -> World -> Prop} {Q : Exit -> Act -> World -> Prop} {c X : Prop} [Decidable c] (hw : c) (ty : TypeId) (x y : Operand) (ho : o.op = .store ty x y)
  (g : Nat) (cells : Array Value) (hx : a.eval x = .pointer (some ⟨g,0,none⟩)) (hy : a.eval y = .agg cells)
  (t : TypeId) (old : Array Value) (hg : w.heap[g]? = some (.cells old t (0,0))) (hi : (P.info? ty).map (·.size) = some cells.size)
  (hold : old.size = cells.size) (h1 : cells.all (·.oneCell') = true) (h : K (a.put o.dst undef) (w.setRow g cells)) :
  if c then Oper.wp P o a w K Q else X := by
 rw [if_pos hw]
 exact wp_store_row ty x y ho g cells hx hy t old hg hi hold h1 h
theorem row_setRow {w : World} {base e s n g : Nat} {v : Value} {xs : List Value} {old C : Array Value} {t : TypeId} {fr : Nat × Nat} (h : w.ownsRow base e s v n xs) (hg : w.heap[g]? = some (.cells old t fr)) (ht : e ≠ t) : (w.setRow g C).ownsRow base e s v n xs := by
 refine ⟨h.1,?_⟩
 rcases h.2 with h0 | ⟨g',cap,cur,e1,e2,e3,e4⟩
 ·exact .inl h0
 ·refine .inr ⟨g',cap,cur,e1,e2,?_,e4⟩
  rw [setRow_other]
  ·exact e3
  ·rintro rfl
   rw [e3] at hg
   simp only [Option.some.injEq,Obj.cells.injEq] at hg
   exact ht hg.2.1
theorem SOA.setRow {w : World} {base g : Nat} {v : Value} {s : Stt} {old C : Array Value} {fr : Nat × Nat} (h : SOA base w v s) (hg : w.heap[g]? = some (.cells old 27 fr)) : SOA base (w.setRow g C) v s := by
 obtain ⟨vp,vc,vz,hv,h1,h2,vs,h3,h4,h5⟩ := h
 exact ⟨vp,vc,vz,hv,row_setRow h1 hg (by decide),row_setRow h2 hg (by decide),vs,row_setRow h3 hg (by decide),fun i hi=>row_setRow (h4 i hi) hg (by decide),h5⟩
theorem results_c1 {P : Program} {fn : Func} {p q : Tmp} {ty : TypeId} (h : fn.results = #[.cell p ty,.tmp q]) (tmps : Array Value) (w : World) (g : Nat) (t : TypeId) (cs : Array Value) (fr : Nat × Nat) (d : TypeDesc) (x : Value)
  (hp : tmps.getD p undef = .pointer (some ⟨g,0,none⟩)) (hq : tmps.getD q undef = x) (hg : w.heap[g]? = some (.cells cs t fr))
  (hu : P.underlying ty = some d) (hd : (match d with | .struct _ | .array _ _=>true | _=>false) = true) (hi : (P.info? ty).map (·.size) = some cs.size) :
  (results fn tmps).run P w = .ok (.tuple #[.agg cs,x]) w := by
 have hp' : tmps[p]?.getD undef = .pointer (some ⟨g,0,none⟩) := by simpa using hp
 have hq' : tmps[q]?.getD undef = x := by simpa using hq
 simp [results,h,hp',hq',asAddr,run_loadVar_row w g t ty cs fr d hg hu hd hi]
theorem results_c2 {P : Program} {fn : Func} {p q r : Tmp} {ty : TypeId} (h : fn.results = #[.cell p ty,.tmp q,.tmp r]) (tmps : Array Value) (w : World) (g : Nat) (t : TypeId) (cs : Array Value) (fr : Nat × Nat) (d : TypeDesc) (x y : Value)
  (hp : tmps.getD p undef = .pointer (some ⟨g,0,none⟩)) (hq : tmps.getD q undef = x) (hr : tmps.getD r undef = y) (hg : w.heap[g]? = some (.cells cs t fr))
  (hu : P.underlying ty = some d) (hd : (match d with | .struct _ | .array _ _=>true | _=>false) = true) (hi : (P.info? ty).map (·.size) = some cs.size) :
  (results fn tmps).run P w = .ok (.tuple #[.agg cs,x,y]) w := by
 have hp' : tmps[p]?.getD undef = .pointer (some ⟨g,0,none⟩) := by simpa using hp
 have hq' : tmps[q]?.getD undef = x := by simpa using hq
 have hr' : tmps[r]?.getD undef = y := by simpa using hr
 simp [results,h,hp',hq',hr',asAddr,run_loadVar_row w g t ty cs fr d hg hu hd hi]
theorem calls_world {P : Program} {f : FuncId} {args : Array Value} {w W : World} {Q : Ending -> World -> Prop} (h : w = W) (k : Calls P f args W Q) : Calls P f args w Q := by subst h; exact k
theorem SOA.row {base : Nat} {W : World} {v : Value} {s : Stt} (h : SOA base W v s) : ∃ C : Array Value,v = .agg C /\ C.size = 7 /\ C.all (·.oneCell') = true := by
 obtain ⟨vp,vc,vz,hv,h1,h2,vs,h3,-,-⟩ := h
 obtain ⟨a1,k1,rfl⟩ := row_val h1
 obtain ⟨a2,k2,rfl⟩ := row_val h2
 obtain ⟨a3,k3,rfl⟩ := row_val h3
 unfold sv at hv
 exact ⟨_,hv,rfl,by simp [Value.oneCell']⟩
theorem tk {P : Program} {ops : Array Oper} {Q : Exit -> Act -> World -> Prop} {md : Region.Mode} {S : World -> Prop} {i : Nat} {oi : Oper} {v : Value} {fuel : Nat} {listed : Array Bool} {a : Act} {w : World} (hi : ops[i]? = some oi) (hy : YieldsIf P ops S oi v a) (h : wpAnyH P md ops Q S fuel (listed.setIfInBounds i true) (a.put oi.dst v) w)
  (h1 : Region.noSelect ops = true := by kernel_rfl) (h2 : Region.free md ops listed i = true := by kernel_rfl) (h3 : (Region.ready md ops listed).contains i = true := by kernel_rfl) (h4 : ∀ c a w,Q (.panic c) (a.put oi.dst v) w -> Q (.panic c) a w := by exact fun _ _ _ h=>h) (hs : S w := by assumption) : wpAnyH P md ops Q S (fuel + 1) listed a w := wpAnyH_take hi h1 h2 h3 h4 hy hs h
end DE
end Go.Proofs.YtodhjjeagmjhdaaGreatDoor
namespace Go.Proofs.YtodhjjeagmjhdaaGreatDoor
open Go.RowKit
attribute [local go_sem ↓] Go.wp_at_zero Go.wp_at_succ
namespace DE
open Go.Proofs.YtodhjjeagmjhdaaGreatDoor.ST
def restN (k : Int) : Nat := if k = 1 then 117 else if k = 2 then 123 else if k = 3 then 129 else if k = 4 then 135 else if k = 5 then 140 else if k = 6 then 146 else 152
theorem rest_enters {k : Int} (h : kindB k = true) : ∀ (args : Array Value) (w : World),(callFunc (restN k) args).run Tryz.prog w = .ok (.enter (restN k) args) w := by
 rcases kinds h with rfl | rfl | rfl | rfl | rfl | rfl | rfl
 ·exact enters_of Tryz.func117 (by kernel_rfl) rfl
 ·exact enters_of Tryz.func123 (by kernel_rfl) rfl
 ·exact enters_of Tryz.func129 (by kernel_rfl) rfl
 ·exact enters_of Tryz.func135 (by kernel_rfl) rfl
 ·exact enters_of Tryz.func140 (by kernel_rfl) rfl
 ·exact enters_of Tryz.func146 (by kernel_rfl) rfl
 ·exact enters_of Tryz.func152 (by kernel_rfl) rfl
theorem rest_ (e : Ev) (oa : Option Addr) (oc : Nat) (h : kindB e.kind = true) : ∃ X : Array Value,(∀ W,Calls Tryz.prog (restN e.kind) #[.agg (evc e (.slice oa e.ord.length oc))] W fun x w'=>x = .returned (.agg X) /\ Up W w') /\ ∀ W,Calls Tryz.prog 158 #[.agg X] W fun x w'=>x = .returned (.bool (restB e)) /\ Up W w' := by
 unfold restN restB
 rcases kinds h with h | h | h | h | h | h | h
 ·rw [h]; exact ⟨_,moveRest_ e oa _ oc,saysNothing_ (moveR e) oa _ oc⟩
 ·rw [h]; exact ⟨_,cardRest_ e oa _ oc,saysNothing_ (cardR e) oa _ oc⟩
 ·rw [h]; exact ⟨_,playerRest_ e oa _ oc,saysNothing_ (playerR e) oa _ oc⟩
 ·rw [h]; exact ⟨_,shuffleRest_ e oa _ oc,fun W=>by
  have h9 := saysNothing_ (shuffleR e) none 0 0 W
  rw [decide_eq_true rfl,Bool.and_true] at h9
  exact h9⟩
 ·rw [h]; exact ⟨_,outRest_ e oa _ oc,saysNothing_ (outR e) oa _ oc⟩
 ·rw [h]; exact ⟨_,turnRest_ e oa _ oc,saysNothing_ (turnR e) oa _ oc⟩
 ·rw [h]; exact ⟨_,endRest_ e oa _ oc,saysNothing_ (endR e) oa _ oc⟩
theorem tab_row {q : Nat} (h1 : 1 <= q) (h7 : q <= 7) : (tabV.extract (q * 6) (q * 6 + 6)).toList = (row q).toList := by
 rcases (by omega : q = 1 ∨ q = 2 ∨ q = 3 ∨ q = 4 ∨ q = 5 ∨ q = 6 ∨ q = 7) with rfl | rfl | rfl | rfl | rfl | rfl | rfl <;> kernel_rfl
theorem row_rest {k : Int} (h : kindB k = true) : (row k.toNat)[0]? = some (fv (restN k)) := by
 rcases kinds h with rfl | rfl | rfl | rfl | rfl | rfl | rfl <;> rfl
theorem row_sz {k : Int} (h : kindB k = true) : (row k.toNat).size = 6 /\ (row k.toNat).all (·.oneCell') = true := by
 rcases kinds h with rfl | rfl | rfl | rfl | rfl | rfl | rfl <;> exact ⟨rfl,by kernel_rfl⟩
set_option maxRecDepth 100000 in
set_option maxHeartbeats 4000000 in
theorem rule_ (e : Ev) (oa : Option Addr) (oc : Nat) (w : World) (hk : kindB e.kind = true) : Calls Tryz.prog 82 #[.agg tabV,evv e (.slice oa e.ord.length oc)] w fun x w'=>x = .returned (.tuple #[.agg (row e.kind.toNat),.bool (restB e)]) /\ Up w w' := by
 have HK : Hid (∀ w,Calls Tryz.prog 93 #[.int .i8 e.kind] w fun r w'=>r = .returned (.bool true) /\ w' = w) := fun w=>by
  have h9 := isKind_ e.kind w
  unfold kindB at hk
  rw [hk] at h9
  exact h9
 obtain ⟨X,q1,q2⟩ := rest_ e oa oc hk
 have HQ1 : Hid _ := q1
 have HQ2 : Hid _ := q2
 have HR0 : Hid _ := row_rest hk
 obtain ⟨hR1,hR2⟩ := row_sz hk
 have hen := rest_enters hk
 have hq : 1 <= e.kind.toNat /\ e.kind.toNat <= 7 /\ e.kind = (e.kind.toNat : Int) := by rcases kinds hk with h | h | h | h | h | h | h <;> rw [h] <;> decide
 have HT := tab_row hq.1 hq.2.1
 have k0 : (0 : Int) <= e.kind := by omega
 have k8 : e.kind < 8 := by omega
 obtain ⟨q,hq9⟩ : ∃ q,q = e.kind.toNat := ⟨_,rfl⟩
 rw [<- hq9] at HT HR0 hR1 hR2 ⊢
 have hkq : e.kind.toNat = q := hq9.symm
 have hq9' : q = e.kind.toNat := hq9
 obtain ⟨R,hR9⟩ : ∃ R,R = row q := ⟨_,rfl⟩
 rw [<- hR9] at HT HR0 hR1 hR2 ⊢
 have T48 := tabV_size
 obtain ⟨T,hT9⟩ : ∃ T,T = tabV := ⟨_,rfl⟩
 rw [<- hT9] at HT T48 ⊢
 unfold evv
 unfold evc at *
 clear hT9 q1 q2 hq9 hq
 obtain ⟨x0,x1,x2,x3,x4,x5,hR5⟩ : ∃ x0 x1 x2 x3 x4 x5 : Value,R = #[x0,x1,x2,x3,x4,x5] := by
  rw [hR9,hq9']
  rcases kinds hk with h | h | h | h | h | h | h <;> rw [h] <;> exact ⟨_,_,_,_,_,_,rfl⟩
 clear hR9 hq9'
 subst hR5
 have HR0 : Hid (x0 = .func (.func (restN e.kind)) #[] #[]) := by unfold Hid; have h9 := HR0.out; simpa [fv] using h9
 have hx0 := HR0.out
 clear HR0
 subst hx0
 obtain ⟨W3,hW3⟩ : ∃ W3,((w.alloc (.cells T 107)).alloc (.cells #[.int .i8 e.kind,.int .i8 e.field,.int .i64 e.card,.int .i64 e.player,.int .i64 e.other,.int .i64 e.fr,.int .i64 e.frAt,.int .i64 e.to_,.int .i64 e.toAt,.int .i32 e.was,.int .i32 e.now,.slice oa e.ord.length oc] 30)).alloc (.cells zR 106) = W3 := ⟨_,rfl⟩
 have hT : W3.heap[w.heap.size]? = some (.cells T 107 (0,0)) := by rw [<- hW3,Below.heap_alloc _ _ _ (by simp; omega)]; exact heap_alloc2_old _ _ _
 have hE : W3.heap[w.heap.size + 1]? = some (.cells #[.int .i8 e.kind,.int .i8 e.field,.int .i64 e.card,.int .i64 e.player,.int .i64 e.other,.int .i64 e.fr,.int .i64 e.frAt,.int .i64 e.to_,.int .i64 e.toAt,.int .i32 e.was,.int .i32 e.now,.slice oa e.ord.length oc] 30 (0,0)) := by rw [<- hW3,Below.heap_alloc _ _ _ (by simp)]; exact heap_alloc2_new _ _ _
 have h2 : W3.heap[w.heap.size + 1 + 1]? = some (.cells zR 106 (0,0)) := by
  rw [<- hW3]
  have := heap_alloc_new ((w.alloc (.cells T 107)).alloc (.cells #[.int .i8 e.kind,.int .i8 e.field,.int .i64 e.card,.int .i64 e.player,.int .i64 e.other,.int .i64 e.fr,.int .i64 e.frAt,.int .i64 e.to_,.int .i64 e.toAt,.int .i32 e.was,.int .i32 e.now,.slice oa e.ord.length oc] 30)) (.cells zR 106)
  simpa using this
 have HU : Up w W3 := by rw [<- hW3]; exact (((Up.refl _).alloc _).alloc _).alloc _
 have hl3 : w.heap.size + 1 + 1 < W3.heap.size := (Array.getElem?_eq_some_iff.1 h2).1
 have e0 : W3.cell? ⟨w.heap.size + 1,0,none⟩ = some (.int .i8 e.kind) := by simp only [World.cell?,hE]; rfl
 have hrg : W3.rangeAt w.heap.size (q * 6) #[.func (.func (restN e.kind)) #[] #[],x1,x2,x3,x4,x5].toList := by
  have h9 := World.rangeAt_of_block hT (q * 6) 6
  rw [HT] at h9
  exact h9
 have hRl : #[.func (.func (restN e.kind)) #[] #[],x1,x2,x3,x4,x5].toList.length = 6 := by rw [Array.length_toList]; exact hR1
 go_enter Tryz.func82,Tryz.ntmps82
 go_wp2_with (first | (refine wpList_world hW3 ?_; clear hW3))
 refine Calls.mono (HK.out _) ?_
 rintro r W4 ⟨rfl,hw4⟩
 subst hw4
 obtain ⟨W5,hW5⟩ : ∃ W5,(W4.alloc (.cells zR 106)).setRow W4.heap.size #[.func (.func (restN e.kind)) #[] #[],x1,x2,x3,x4,x5] = W5 := ⟨_,rfl⟩
 obtain ⟨h5,u5,-⟩ := filled W4 zR #[.func (.func (restN e.kind)) #[] #[],x1,x2,x3,x4,x5] 106
 rw [hW5] at h5 u5
 have hRR : #[.func (.func (restN e.kind)) #[] #[],x1,x2,x3,x4,x5].toList.toArray = #[.func (.func (restN e.kind)) #[] #[],x1,x2,x3,x4,x5] := by simp
 go_wp2_with (first | (refine wpList_load_mid (by rfl) 106 (.tmp 14) (by rfl) w.heap.size (q * 6) (by rfl) #[.func (.func (restN e.kind)) #[] #[],x1,x2,x3,x4,x5].toList _ hrg Tryz.underlying106 (by rfl) (by rw [hRl]; exact infoRule) ?_; (try rw [hRR])) | (refine wpList_store_row rfl 106 (.tmp 6) (.tmp 15) rfl W4.heap.size #[.func (.func (restN e.kind)) #[] #[],x1,x2,x3,x4,x5] rfl rfl 106 zR (heap_alloc_new W4 _) (by rw [hR1]; exact infoRule) (by rw [hR1]; rfl) hR2 ?_; refine wpList_world hW5 ?_))
 have hE := u5.heap hE
 have h2 := u5.heap h2
 have HU := HU.trans u5
 have hl2 : W5.heap.size <= W5.heap.size := Nat.le_refl _
 clear hW5 u5 hrg hRR hRl e0 hT
 have ne : Nonempty (UW W5) := ⟨⟨W5,Up.refl _⟩⟩
 have mk : ∀ {f : Nat} {args : Array Value} {Rv : Value} (U : UW W5),Calls Tryz.prog f args U.W (fun e w'=>e = .returned Rv /\ Up U.W w') -> Calls Tryz.prog f args U.W (fun e w'=>e = .returned Rv /\ ∃ V : UW W5,w' = V.W) := fun U h=>h.mono fun e w' ⟨h1,h2⟩=>⟨h1,⟨w',U.up.trans h2⟩,rfl⟩
 have HQ1 : Hid (∀ U : UW W5,_) := fun U=>mk U (HQ1.out U.W)
 have HQ2 : Hid (∀ U : UW W5,_) := fun U=>mk U (HQ2.out U.W)
 have e0 : ∀ U : UW W5,U.W.cell? ⟨w.heap.size + 1,0,none⟩ = some _ := fun U=>by rw [World.cell?,U.up.heap hE]; rfl
 have e1 : ∀ U : UW W5,U.W.cell? ⟨w.heap.size + 1,1,none⟩ = some _ := fun U=>by rw [World.cell?,U.up.heap hE]; rfl
 have e2 : ∀ U : UW W5,U.W.cell? ⟨w.heap.size + 1,2,none⟩ = some _ := fun U=>by rw [World.cell?,U.up.heap hE]; rfl
 have e3 : ∀ U : UW W5,U.W.cell? ⟨w.heap.size + 1,3,none⟩ = some _ := fun U=>by rw [World.cell?,U.up.heap hE]; rfl
 have e4 : ∀ U : UW W5,U.W.cell? ⟨w.heap.size + 1,4,none⟩ = some _ := fun U=>by rw [World.cell?,U.up.heap hE]; rfl
 have e5 : ∀ U : UW W5,U.W.cell? ⟨w.heap.size + 1,5,none⟩ = some _ := fun U=>by rw [World.cell?,U.up.heap hE]; rfl
 have e6 : ∀ U : UW W5,U.W.cell? ⟨w.heap.size + 1,6,none⟩ = some _ := fun U=>by rw [World.cell?,U.up.heap hE]; rfl
 have e7 : ∀ U : UW W5,U.W.cell? ⟨w.heap.size + 1,7,none⟩ = some _ := fun U=>by rw [World.cell?,U.up.heap hE]; rfl
 have e8 : ∀ U : UW W5,U.W.cell? ⟨w.heap.size + 1,8,none⟩ = some _ := fun U=>by rw [World.cell?,U.up.heap hE]; rfl
 have e9 : ∀ U : UW W5,U.W.cell? ⟨w.heap.size + 1,9,none⟩ = some _ := fun U=>by rw [World.cell?,U.up.heap hE]; rfl
 have e10 : ∀ U : UW W5,U.W.cell? ⟨w.heap.size + 1,10,none⟩ = some _ := fun U=>by rw [World.cell?,U.up.heap hE]; rfl
 have e11 : ∀ U : UW W5,U.W.cell? ⟨w.heap.size + 1,11,none⟩ = some _ := fun U=>by rw [World.cell?,U.up.heap hE]; rfl
 have r0 : ∀ U : UW W5,U.W.cell? ⟨W4.heap.size,0,none⟩ = some _ := fun U=>by rw [World.cell?,U.up.heap h5]; rfl
 have r1 : ∀ U : UW W5,U.W.cell? ⟨W4.heap.size,1,none⟩ = some _ := fun U=>by rw [World.cell?,U.up.heap h5]; rfl
 have r2 : ∀ U : UW W5,U.W.cell? ⟨W4.heap.size,2,none⟩ = some _ := fun U=>by rw [World.cell?,U.up.heap h5]; rfl
 have r3 : ∀ U : UW W5,U.W.cell? ⟨W4.heap.size,3,none⟩ = some _ := fun U=>by rw [World.cell?,U.up.heap h5]; rfl
 have r4 : ∀ U : UW W5,U.W.cell? ⟨W4.heap.size,4,none⟩ = some _ := fun U=>by rw [World.cell?,U.up.heap h5]; rfl
 have r5 : ∀ U : UW W5,U.W.cell? ⟨W4.heap.size,5,none⟩ = some _ := fun U=>by rw [World.cell?,U.up.heap h5]; rfl
 have HZ2 : Hid _ := h2
 have HU5 : Hid _ := HU
 clear mk hE h5 h2 HU
 simp only [Act.put]
 refine TailR.wp_region_seqC 6 (fun w'=>∃ U : UW W5,w' = U.W) ⟨⟨_,(Up.refl _).drewN 1⟩,rfl⟩ (by kernel_rfl) (by kernel_rfl) ?_
 simp only [List.take_succ_cons,List.take_zero,List.drop_succ_cons,List.drop_zero]
 repeat (go_big_quiet_step (first | with_reducible exact HQ1.out _ | with_reducible exact HQ2.out _))
 refine wpQuiet_nil ?_
 intro _ hw'
 obtain ⟨U,hw''⟩ := hw'
 subst hw''
 have h2 := U.up.heap HZ2.out
 have HUU : Hid (Up w U.W) := Up.trans HU5.out U.up
 clear e0 e1 e2 e3 e4 e5 e6 e7 e8 e9 e10 e11 r0 r1 r2 r3 r4 r5 HQ1 HQ2 HZ2 HU5
 generalize U.W = V at *
 go_wp2_with (first | (refine wpList_store_row rfl 106 (.tmp 4) (.tmp 16) rfl (w.heap.size + 1 + 1) #[.func (.func (restN e.kind)) #[] #[],x1,x2,x3,x4,x5] rfl rfl 106 zR h2 infoRule rfl hR2 ?_))
 have h3 := setRow_heap _ _ _ _ _ #[.func (.func (restN e.kind)) #[] #[],x1,x2,x3,x4,x5] h2
 refine bodyPost_ret (v := .tuple #[.agg #[.func (.func (restN e.kind)) #[] #[],x1,x2,x3,x4,x5],.bool (restB e)]) (results_c1 rfl _ _ (w.heap.size + 1 + 1) 106 #[.func (.func (restN e.kind)) #[] #[],x1,x2,x3,x4,x5] (0,0) _ (.bool (restB e)) rfl rfl h3 Tryz.underlying106 rfl infoRule) rfl ?_
 exact ⟨rfl,up_setRow HUU.out (by omega) _⟩
theorem ruleAny_ (e : Ev) (oa : Option Addr) (oc : Nat) (w : World) : Calls Tryz.prog 82 #[.agg tabV,evv e (.slice oa e.ord.length oc)] w fun x w'=>x = .returned (.tuple #[.agg (rowOf e),.bool (okB e)]) /\ Up w w' := by
 unfold rowOf okB
 by_cases hk : kindB e.kind = true
 ·rw [if_pos hk,hk]
  simpa using rule_ e oa oc w hk
 ·have hk' : kindB e.kind = false := by simpa using hk
  rw [if_neg hk,hk']
  simpa using ruleOf_none e oa e.ord.length oc w hk'
end DE
end Go.Proofs.YtodhjjeagmjhdaaGreatDoor
