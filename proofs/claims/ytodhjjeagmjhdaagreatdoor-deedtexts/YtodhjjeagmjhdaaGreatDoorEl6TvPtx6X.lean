/- El6, Mb6, Ry6, Itx6, Ptx6 -/
import Derived.Test.YtodhjjeagmjhdaaGreatDoorPr6TvPw6X
import Derived.Shelf.Abstract
import Derived.Lib.ItoaLen
namespace Go.Proofs.YtodhjjeagmjhdaaGreatDoor
open Go.RowKit
namespace DE
open Go.Proofs.YtodhjjeagmjhdaaGreatDoor.ST
def evC (l : List Ev) (vs : List Value) (i : Nat) : List Value := (evc (l.getD i dE) (vs.getD i nl)).toList
def evsC (l : List Ev) (vs : List Value) : List Value := (List.range l.length).flatMap (evC l vs)
theorem evC_len (l : List Ev) (vs : List Value) (i : Nat) : (evC l vs i).length = 12 := rfl
theorem evsC_len (l : List Ev) (vs : List Value) : (evsC l vs).length = l.length * 12 := by
 unfold evsC
 rw [flat_len (evC l vs) 12 (evC_len l vs),List.length_range]
theorem evsC_get (l : List Ev) (vs : List Value) (i j : Nat) (hi : i < l.length) (hj : j < 12) : (evsC l vs)[i * 12 + j]? = (evc (l.getD i dE) (vs.getD i nl))[j]? := by
 unfold evsC
 rw [flat_get (evC l vs) 12 (evC_len l vs) 0 (List.range l.length) i j (by simpa using hi) hj]
 have : (List.range l.length).getD i 0 = i := by simp [List.getD,hi]
 rw [this]
 unfold evC
 simp
def EVS (W : World) (v : Value) (l : List Ev) : Prop := ∃ vs : List Value,LC W v 12 l.length (evsC l vs) /\ ∀ i,i < l.length -> IL W (vs.getD i nl) (l.getD i dE).ord
theorem EVS.up {W W' : World} {v : Value} {l : List Ev} (h : EVS W v l) (u : Up W W') : EVS W' v l := by
 obtain ⟨vs,h1,h2⟩ := h
 exact ⟨vs,h1.up u,fun i hi=>(h2 i hi).up u⟩
def Ev12 (W : World) (b o : Nat) (e : Ev) (vo : Value) : Prop :=
 W.cell? ⟨b,o,none⟩ = some (.int .i8 e.kind) /\ W.cell? ⟨b,o + 1,none⟩ = some (.int .i8 e.field) /\ W.cell? ⟨b,o + 2,none⟩ = some (.int .i64 e.card) /\ W.cell? ⟨b,o + 3,none⟩ = some (.int .i64 e.player) /\
 W.cell? ⟨b,o + 4,none⟩ = some (.int .i64 e.other) /\ W.cell? ⟨b,o + 5,none⟩ = some (.int .i64 e.fr) /\ W.cell? ⟨b,o + 6,none⟩ = some (.int .i64 e.frAt) /\ W.cell? ⟨b,o + 7,none⟩ = some (.int .i64 e.to_) /\
 W.cell? ⟨b,o + 8,none⟩ = some (.int .i64 e.toAt) /\ W.cell? ⟨b,o + 9,none⟩ = some (.int .i32 e.was) /\ W.cell? ⟨b,o + 10,none⟩ = some (.int .i32 e.now) /\ W.cell? ⟨b,o + 11,none⟩ = some vo
theorem evs_at {w : World} {v : Value} {l : List Ev} (h : EVS w v l) : ∃ a cap,v = .slice a l.length cap /\ l.length <= cap /\ (l.length ≠ 0 -> ∃ b off,a = some ⟨b,off,none⟩ /\ b < w.heap.size /\ ∀ i,i < l.length -> ∃ oa oc,(∀ W,Up w W -> Ev12 W b (off + i * 12) (l.getD i dE) (.slice oa (l.getD i dE).ord.length oc)) /\ IL w (.slice oa (l.getD i dE).ord.length oc) (l.getD i dE).ord) := by
 obtain ⟨vs,h1,h2⟩ := h
 obtain ⟨a,cap,hv,hc,h⟩ := lc_at h1
 refine ⟨a,cap,hv,hc,fun hn=>?_⟩
 obtain ⟨b,off,ha,hb,hcell⟩ := h hn
 refine ⟨b,off,ha,hb (by decide),fun i hi=>?_⟩
 have hI := h2 i hi
 obtain ⟨oa,oc,hvo,-,-⟩ := il_at hI
 refine ⟨oa,oc,fun W hu=>?_,by rw [hvo] at hI; exact hI⟩
 have k : ∀ j,j < 12 -> W.cell? ⟨b,off + (i * 12 + j),none⟩ = (evc (l.getD i dE) (vs.getD i nl))[j]? := fun j hj=>by
  rw [hcell W hu (i * 12 + j) (by omega)]; exact evsC_get l vs i j hi hj
 rw [hvo] at k
 exact ⟨k 0 (by decide),k 1 (by decide),k 2 (by decide),k 3 (by decide),k 4 (by decide),k 5 (by decide),k 6 (by decide),k 7 (by decide),k 8 (by decide),k 9 (by decide),k 10 (by decide),k 11 (by decide)⟩
theorem evs_one {W : World} {g : Nat} {e : Ev} {vo : Value} {t : TypeId} (h : W.heap[g]? = some (.cells (evc e vo) t (0,0))) (ho : IL W vo e.ord) : EVS W (.slice (some ⟨g,0,none⟩) 1 1) [e] := by
 refine ⟨[vo],?_,fun i hi=>?_⟩
 ·refine lc_row (e := t) (cs := evsC [e] [vo]) ?_ (evsC_len _ _) 1 (Nat.le_refl _)
  rw [h]
  rfl
 ·simp only [List.length_singleton] at hi
  obtain rfl : i = 0 := by omega
  exact ho
def placeOf : Option (Sum Nat Stt) -> Nat
 | some (.inl i)=>i
 | _=>0
def errOf : Option (Sum Nat Stt) -> Int
 | none=>10
 | some (.inl _)=>11
 | some (.inr _)=>0
def stOf : Option (Sum Nat Stt) -> Stt
 | some (.inr t)=>t
 | _=>noS
def repO (s : Stt) (l : List Ev) : Option (Sum Nat Stt) := if ff s = none then some (repl s l 0) else none
def bckO (s : Stt) (l : List Ev) : Option (Sum Nat Stt) := if ff s = none then some (bck l l.length s) else none
def RepV (w : World) (o : Option (Sum Nat Stt)) (x : Ending) (w' : World) : Prop := ∃ v',x = .returned (.tuple #[v',.int .i64 (placeOf o : Nat),.int .i64 (errOf o)]) /\ SOA w.heap.size w' v' (stOf o) /\ Up w w'
def AppV (w : World) (o : Option (Sum Nat Stt)) (x : Ending) (w' : World) : Prop := ∃ v',x = .returned (.tuple #[v',.int .i64 (errOf o)]) /\ SOA w.heap.size w' v' (stOf o) /\ Up w w'
theorem noS_soa (b : Nat) (W : World) : SOA b W (.agg #[.slice none 0 0,.slice none 0 0,.slice none 0 0,.int .i32 0,.int .i64 0,.int .i8 0,.int .i64 0]) noS :=
 ⟨.slice none 0 0,.slice none 0 0,.slice none 0 0,rfl,⟨rfl,.inl ⟨rfl,rfl⟩⟩,⟨rfl,.inl ⟨rfl,rfl⟩⟩,[],⟨rfl,.inl ⟨rfl,rfl⟩⟩,fun i hi=>absurd hi (Nat.not_lt_zero i),RA.nil _⟩
end DE
end Go.Proofs.YtodhjjeagmjhdaaGreatDoor
namespace Go.Proofs.YtodhjjeagmjhdaaGreatDoor
open Go.RowKit
attribute [local go_sem ↓] Go.wp_at_zero Go.wp_at_succ
namespace DE
open Go.Proofs.YtodhjjeagmjhdaaGreatDoor.ST
set_option maxRecDepth 100000 in
set_option maxHeartbeats 2000000 in
theorem mayBe_ (v : Value) (s : Stt) (w : World) (hs : StL w v s) (hsm : Small s) : Calls Tryz.prog 79 #[v] w fun r w'=>r = .returned (.bool (decide (ff s = none))) /\ Up w w' := by
 have HC : Hid (∀ W,Up w W -> Calls Tryz.prog 113 #[v] W fun e w'=>e = .returned (ckV (ff s)) /\ Up W w') := fun W u=>check_ v s W (hs.up u) hsm
 unfold ckV at HC
 obtain ⟨vp,vc,vz,hv,h1,h2,h3⟩ := hs
 unfold sv at hv
 obtain ⟨a1,k1,rfl,-⟩ := lc_at h1
 obtain ⟨a2,k2,rfl,-⟩ := lc_at h2
 obtain ⟨vs,h4,-⟩ := h3
 obtain ⟨a3,k3,rfl,-⟩ := lc_at h4
 subst hv
 generalize s.ps.length = np at *
 generalize s.cs.length = nc at *
 generalize s.zs.length = nz at *
 generalize s.turn = tu at *
 generalize s.whose = wo at *
 generalize s.fin = fi at *
 generalize s.winner = wi at *
 cases hf : ff s with
 | none =>
  rw [hf] at HC
  simp only [if_true,Option.getD_none] at HC
  clear h1 h2 h4 hf
  go_enter Tryz.func79,Tryz.ntmps79
  go_wp2_with fail
  refine Calls.mono (HC.out _ (by first | exact Up.refl _ | exact (Up.refl _).alloc _)) ?_
  rintro r W1 ⟨rfl,u1⟩
  have HU : Hid (Up w W1) := by first | exact u1 | exact Up.trans ((Up.refl _).alloc _) u1
  clear u1
  go_wp2
  all_goals (go_ret; exact ⟨by simp,HU.out⟩)
 | some k =>
  rw [hf] at HC
  simp only [reduceCtorEq,if_false,Option.getD_some] at HC
  clear h1 h2 h4 hf
  go_enter Tryz.func79,Tryz.ntmps79
  go_wp2_with fail
  refine Calls.mono (HC.out _ (by first | exact Up.refl _ | exact (Up.refl _).alloc _)) ?_
  rintro r W1 ⟨rfl,u1⟩
  have HU : Hid (Up w W1) := by first | exact u1 | exact Up.trans ((Up.refl _).alloc _) u1
  clear u1
  go_wp2
  all_goals (go_ret; exact ⟨by simp,HU.out⟩)
end DE
end Go.Proofs.YtodhjjeagmjhdaaGreatDoor
namespace Go.Proofs.YtodhjjeagmjhdaaGreatDoor
open Go.RowKit
namespace DE
open Go.Proofs.YtodhjjeagmjhdaaGreatDoor.ST
def rowOf (e : Ev) : Array Value := if kindB e.kind = true then row e.kind.toNat else row 0
theorem rowOf_size (e : Ev) : (rowOf e).size = 6 := by
 unfold rowOf
 split
 ·rename_i h
  rcases kinds h with h | h | h | h | h | h | h <;> rw [h] <;> rfl
 ·rfl
theorem rowOf_one (e : Ev) : (rowOf e).all (·.oneCell') = true := by
 unfold rowOf
 split
 ·rename_i h
  rcases kinds h with h | h | h | h | h | h | h <;> rw [h] <;> kernel_rfl
 ·kernel_rfl
theorem infoRule : (Tryz.prog.info? 106).map (·.size) = some 6 := by kernel_rfl
theorem infoEv : (Tryz.prog.info? 30).map (·.size) = some 12 := by kernel_rfl
theorem infoSt : (Tryz.prog.info? 27).map (·.size) = some 7 := by kernel_rfl
theorem rowOf_at {e : Ev} (h : kindB e.kind = true) : (rowOf e)[1]? = some (fv (fitsN e.kind)) /\ (rowOf e)[2]? = some (fv (leadsN e.kind)) /\ (rowOf e)[3]? = some (fv (doN e.kind)) /\ (rowOf e)[4]? = some (fv (undoN e.kind)) := by
 unfold rowOf
 rw [if_pos h]
 exact row_at h
def zS : Array Value := #[.slice none 0 0,.slice none 0 0,.slice none 0 0,.int .i32 0,.int .i64 0,.int .i8 0,.int .i64 0]
def zR : Array Value := #[.nilFunc,.nilFunc,.nilFunc,.nilFunc,.nilFunc,.nilFunc]
def zEv : Array Value := #[.int .i8 0,.int .i8 0,.int .i64 0,.int .i64 0,.int .i64 0,.int .i64 0,.int .i64 0,.int .i64 0,.int .i64 0,.int .i32 0,.int .i32 0,.slice none 0 0]
theorem setRow_other (w : World) (g k : Nat) (C : Array Value) (h : k ≠ g) : (w.setRow g C).heap[k]? = w.heap[k]? := by
 simp only [World.setRow,Array.getElem?_modify]
 rw [if_neg (fun e=>h e.symm)]
theorem setRow_size (w : World) (g : Nat) (C : Array Value) : (w.setRow g C).heap.size = w.heap.size := by simp [World.setRow]
theorem filled (w : World) (A C : Array Value) (t : TypeId) : ((w.alloc (.cells A t)).setRow w.heap.size C).heap[w.heap.size]? = some (.cells C t (0,0)) /\ Up w ((w.alloc (.cells A t)).setRow w.heap.size C) /\ ((w.alloc (.cells A t)).setRow w.heap.size C).heap.size = w.heap.size + 1 :=
 ⟨setRow_heap _ _ A _ _ _ (heap_alloc_new w _),up_row ((Up.refl _).alloc _) (Nat.le_refl _) _,by rw [setRow_size]; simp⟩
theorem wpList_world {P : Program} {ops : Array Oper} {rest : List Oper} {a : Act} {w : World} {Q : Exit -> Act -> World -> Prop} {W : World} (h : w = W) (k : wpList P ops Q rest a W) : wpList P ops Q rest a w := by subst h; exact k
theorem wpList_load_rowG {P : Program} {ops : Array Oper} {rest : List Oper} {o : Oper} {a : Act} {w : World} {Q : Exit -> Act -> World -> Prop} (hw : Region.wanted o (yielded ops a.tmps) = true) (ty : TypeId) (x : Operand) (ho : o.op = .load ty x)
  (g : Nat) (hx : a.eval x = .pointer (some ⟨g,0,none⟩)) (t : TypeId) (cs : Array Value) (fr : Nat × Nat) (d : TypeDesc) (hg : w.heap[g]? = some (.cells cs t fr))
  (hu : P.underlying ty = some d) (hd : (match d with | .struct _ | .array _ _=>true | _=>false) = true) (hi : (P.info? ty).map (·.size) = some cs.size)
  (h : wpList P ops Q rest (a.put o.dst (.agg cs)) w) : wpList P ops Q (o :: rest) a w := by
 unfold wpList
 rw [if_pos hw]
 exact Or.inl (wp_load_row ty x ho g hx t cs fr d hg hu hd hi h)
theorem fits_enters {k : Int} (h : kindB k = true) : ∀ (args : Array Value) (w : World),(callFunc (fitsN k) args).run Tryz.prog w = .ok (.enter (fitsN k) args) w := by
 rcases kinds h with rfl | rfl | rfl | rfl | rfl | rfl | rfl
 ·exact enters_of Tryz.func118 (by kernel_rfl) rfl
 ·exact enters_of Tryz.func124 (by kernel_rfl) rfl
 ·exact enters_of Tryz.func130 (by kernel_rfl) rfl
 ·exact enters_of Tryz.func136 (by kernel_rfl) rfl
 ·exact enters_of Tryz.func141 (by kernel_rfl) rfl
 ·exact enters_of Tryz.func147 (by kernel_rfl) rfl
 ·exact enters_of Tryz.func153 (by kernel_rfl) rfl
theorem leads_enters {k : Int} (h : kindB k = true) : ∀ (args : Array Value) (w : World),(callFunc (leadsN k) args).run Tryz.prog w = .ok (.enter (leadsN k) args) w := by
 rcases kinds h with rfl | rfl | rfl | rfl | rfl | rfl | rfl
 ·exact enters_of Tryz.func119 (by kernel_rfl) rfl
 ·exact enters_of Tryz.func125 (by kernel_rfl) rfl
 ·exact enters_of Tryz.func131 (by kernel_rfl) rfl
 ·exact enters_of Tryz.func136 (by kernel_rfl) rfl
 ·exact enters_of Tryz.func142 (by kernel_rfl) rfl
 ·exact enters_of Tryz.func148 (by kernel_rfl) rfl
 ·exact enters_of Tryz.func154 (by kernel_rfl) rfl
theorem do_enters {k : Int} (h : kindB k = true) : ∀ (args : Array Value) (w : World),(callFunc (doN k) args).run Tryz.prog w = .ok (.enter (doN k) args) w := by
 rcases kinds h with rfl | rfl | rfl | rfl | rfl | rfl | rfl
 ·exact enters_of Tryz.func120 (by kernel_rfl) rfl
 ·exact enters_of Tryz.func126 (by kernel_rfl) rfl
 ·exact enters_of Tryz.func132 (by kernel_rfl) rfl
 ·exact enters_of Tryz.func137 (by kernel_rfl) rfl
 ·exact enters_of Tryz.func143 (by kernel_rfl) rfl
 ·exact enters_of Tryz.func149 (by kernel_rfl) rfl
 ·exact enters_of Tryz.func155 (by kernel_rfl) rfl
theorem undo_enters {k : Int} (h : kindB k = true) : ∀ (args : Array Value) (w : World),(callFunc (undoN k) args).run Tryz.prog w = .ok (.enter (undoN k) args) w := by
 rcases kinds h with rfl | rfl | rfl | rfl | rfl | rfl | rfl
 ·exact enters_of Tryz.func121 (by kernel_rfl) rfl
 ·exact enters_of Tryz.func127 (by kernel_rfl) rfl
 ·exact enters_of Tryz.func133 (by kernel_rfl) rfl
 ·exact enters_of Tryz.func138 (by kernel_rfl) rfl
 ·exact enters_of Tryz.func144 (by kernel_rfl) rfl
 ·exact enters_of Tryz.func150 (by kernel_rfl) rfl
 ·exact enters_of Tryz.func156 (by kernel_rfl) rfl
theorem evc_one (e : Ev) (oa : Option Addr) (n c : Nat) : (evc e (.slice oa n c)).all (·.oneCell') = true := by simp [evc,Value.oneCell']
end DE
end Go.Proofs.YtodhjjeagmjhdaaGreatDoor
namespace Go.Proofs.YtodhjjeagmjhdaaGreatDoor
open Go.RowKit
attribute [local go_sem ↓] Go.wp_at_zero Go.wp_at_succ
namespace DE
open Go.Proofs.YtodhjjeagmjhdaaGreatDoor.ST
def TabP (W : World) : Prop := Lib.TabIs Tryz.prog W "internal/strconv.uint64pow10" .u64 Lib.pow10Tab
theorem gPow : Tryz.prog.globalNamed "internal/strconv.uint64pow10" = some 0 := by kernel_rfl
theorem TabP.up {w W : World} (h : TabP w) (u : Up w W) : TabP W := by
 unfold TabP Lib.TabIs World.var? at h ⊢
 rw [gPow] at h ⊢
 simp only [Option.bind_some] at h ⊢
 have hlt : 0 < w.heap.size := by
  rcases Nat.lt_or_ge 0 w.heap.size with h' | h'
  ·exact h'
  ·rw [Array.getElem?_eq_none h'] at h; cases h
 rw [u.block 0 hlt]
 exact h
def I64 (n : Int) : Prop := -9223372036854775808 <= n /\ n <= 9223372036854775807
theorem grow_up (w : World) (k : Nat) (os : Array Obj) : Up w (Go.Sort.grow (w.drewN k) os) :=
 ⟨rfl,rfl,rfl,by show w.heap.size <= (w.heap ++ os).size; simp,fun g hg=>by show (w.heap ++ os)[g]? = _; rw [Array.getElem?_append_left hg]⟩
theorem itoa_ (n : Int) (h : I64 n) (w : World) (hT : TabP w) : Calls Tryz.prog 95 #[.int .i64 n] w fun e w'=>e = .returned (.string ⟨(Lib.itoa n).toArray⟩) /\ Up w w' := by
 refine (Tryz.strconv_Itoa n h.1 h.2 w hT).mono ?_
 rintro e w' ⟨rfl,k,os,rfl⟩
 exact ⟨rfl,grow_up w k os⟩
theorem tens_ (n : Int) (h : I64 n) (w : World) (hT : TabP w) : Calls Tryz.prog 188 #[.int .i64 n] w fun e w'=>e = .returned (.string ⟨(Lib.itoa n).toArray⟩) /\ Up w w' := by
 have HI : Hid _ := itoa_ n h w hT
 generalize Lib.itoa n = l at *
 go_enter Tryz.func188,Tryz.ntmps188
 go_wp2_with fail
 refine Calls.mono HI.out ?_
 rintro e w1 ⟨rfl,u1⟩
 have HU : Hid _ := u1
 clear u1
 go_wp2
 go_ret
 exact ⟨rfl,HU.out⟩
theorem tens8_ (n : Int) (h : -128 <= n /\ n <= 127) (w : World) (hT : TabP w) : Calls Tryz.prog 94 #[.int .i8 n] w fun e w'=>e = .returned (.string ⟨(Lib.itoa n).toArray⟩) /\ Up w w' := by
 have HI : Hid _ := itoa_ n ⟨by omega,by omega⟩ w hT
 generalize Lib.itoa n = l at *
 have h1 := h.1
 have h2 := h.2
 clear h
 go_enter Tryz.func94,Tryz.ntmps94
 go_wp2_with fail
 refine Calls.mono HI.out ?_
 rintro e w1 ⟨rfl,u1⟩
 have HU : Hid _ := u1
 clear u1
 go_wp2
 go_ret
 exact ⟨rfl,HU.out⟩
theorem tens32_ (n : Int) (h : -2147483648 <= n /\ n <= 2147483647) (w : World) (hT : TabP w) : Calls Tryz.prog 196 #[.int .i32 n] w fun e w'=>e = .returned (.string ⟨(Lib.itoa n).toArray⟩) /\ Up w w' := by
 have HI : Hid _ := itoa_ n ⟨by omega,by omega⟩ w hT
 generalize Lib.itoa n = l at *
 have h1 := h.1
 have h2 := h.2
 clear h
 go_enter Tryz.func196,Tryz.ntmps196
 go_wp2_with fail
 refine Calls.mono HI.out ?_
 rintro e w1 ⟨rfl,u1⟩
 have HU : Hid _ := u1
 clear u1
 go_wp2
 go_ret
 exact ⟨rfl,HU.out⟩
theorem ret_str {x : ByteArray} {l : List UInt8} (h : x.data.toList = l) : Ending.returned (.string x) = .returned (.string ⟨l.toArray⟩) := by
 obtain ⟨d⟩ := x
 dsimp only at h
 subst h
 rfl
def outL (e : Ev) : List UInt8 := [111,117,116,32] ++ Lib.itoa e.player
set_option maxRecDepth 100000 in
set_option maxHeartbeats 2000000 in
theorem outText_ (e : Ev) (oa : Option Addr) (n oc : Nat) (w : World) (hT : TabP w) (h3 : I64 e.player) : Calls Tryz.prog 145 #[evv e (.slice oa n oc)] w fun x w'=>x = .returned (.string ⟨(outL e).toArray⟩) /\ Up w w' := by
 have HI : Hid (∀ W,Up w W -> Calls Tryz.prog 188 #[.int .i64 e.player] W fun x w'=>x = .returned (.string ⟨(Lib.itoa e.player).toArray⟩) /\ Up W w') := fun W u=>tens_ e.player h3 W (hT.up u)
 have hl := Lib.itoa_length_le e.player h3.1 h3.2
 clear hT h3
 unfold evv evc outL
 generalize Lib.itoa e.player = l at *
 go_enter Tryz.func145,Tryz.ntmps145
 go_wp2_with fail
 refine Calls.mono (HI.out _ ((Up.refl _).alloc _)) ?_
 rintro r W1 ⟨rfl,u1⟩
 have HU : Hid (Up w W1) := ((Up.refl _).alloc _).trans u1
 clear u1
 go_wp2
 go_ret
 exact ⟨ret_str (by simp),HU.out⟩
end DE
end Go.Proofs.YtodhjjeagmjhdaaGreatDoor
namespace Go.Proofs.YtodhjjeagmjhdaaGreatDoor
open Go.RowKit
attribute [local go_sem ↓] Go.wp_at_zero Go.wp_at_succ
namespace DE
open Go.Proofs.YtodhjjeagmjhdaaGreatDoor.ST
structure EvW (e : Ev) : Prop where
 kind : -128 <= e.kind /\ e.kind <= 127
 field : -128 <= e.field /\ e.field <= 127
 card : I64 e.card
 player : I64 e.player
 other : I64 e.other
 fr : I64 e.fr
 frAt : I64 e.frAt
 to_ : I64 e.to_
 toAt : I64 e.toAt
 was : -2147483648 <= e.was /\ e.was <= 2147483647
 now : -2147483648 <= e.now /\ e.now <= 2147483647
 ord : ∀ i,i < e.ord.length -> I64 (e.ord.getD i 0)
def nmL (f : Int) : List UInt8 := if f = 1 then [112,111,119,101,114] else if f = 2 then [104,101,97,108,116,104] else if f = 3 then [100,97,109,97,103,101] else if f = 4 then [109,97,114,107,115] else if f = 5 then [108,105,102,101] else if f = 6 then [101,110,101,114,103,121] else Lib.itoa f
theorem nmL_le {f : Int} (h : -128 <= f /\ f <= 127) : (nmL f).length <= 21 := by
 have := Lib.itoa_length_le f (by omega) (by omega)
 unfold nmL
 repeat (split; · decide)
 exact this
set_option maxRecDepth 100000 in
set_option maxHeartbeats 2000000 in
theorem fieldText_ (f : Int) (h : -128 <= f /\ f <= 127) (w : World) (hT : TabP w) : Calls Tryz.prog 212 #[.int .i8 f] w fun x w'=>x = .returned (.string ⟨(nmL f).toArray⟩) /\ Up w w' := by
 have HI : Hid _ := tens8_ f h w hT
 unfold nmL
 have h1 := h.1
 have h2 := h.2
 clear h hT
 by_cases c1 : f = 1
 ·subst c1
  clear HI
  go_enter Tryz.func212,Tryz.ntmps212
  go_wp2
  go_ret
  exact ⟨ret_str (by simp),Up.refl _⟩
 rw [if_neg c1]
 have b1 : (f == 1) = false := beq_eq_false_iff_ne.2 c1
 by_cases c2 : f = 2
 ·subst c2
  clear HI
  go_enter Tryz.func212,Tryz.ntmps212
  go_wp2
  go_ret
  exact ⟨ret_str (by simp),Up.refl _⟩
 rw [if_neg c2]
 have b2 : (f == 2) = false := beq_eq_false_iff_ne.2 c2
 by_cases c3 : f = 3
 ·subst c3
  clear HI
  go_enter Tryz.func212,Tryz.ntmps212
  go_wp2
  go_ret
  exact ⟨ret_str (by simp),Up.refl _⟩
 rw [if_neg c3]
 have b3 : (f == 3) = false := beq_eq_false_iff_ne.2 c3
 by_cases c4 : f = 4
 ·subst c4
  clear HI
  go_enter Tryz.func212,Tryz.ntmps212
  go_wp2
  go_ret
  exact ⟨ret_str (by simp),Up.refl _⟩
 rw [if_neg c4]
 have b4 : (f == 4) = false := beq_eq_false_iff_ne.2 c4
 by_cases c5 : f = 5
 ·subst c5
  clear HI
  go_enter Tryz.func212,Tryz.ntmps212
  go_wp2
  go_ret
  exact ⟨ret_str (by simp),Up.refl _⟩
 rw [if_neg c5]
 have b5 : (f == 5) = false := beq_eq_false_iff_ne.2 c5
 by_cases c6 : f = 6
 ·subst c6
  clear HI
  go_enter Tryz.func212,Tryz.ntmps212
  go_wp2
  go_ret
  exact ⟨ret_str (by simp),Up.refl _⟩
 rw [if_neg c6]
 have b6 : (f == 6) = false := beq_eq_false_iff_ne.2 c6
 generalize Lib.itoa f = l at *
 go_enter Tryz.func212,Tryz.ntmps212
 go_wp2_with fail
 refine Calls.mono HI.out ?_
 rintro r W1 ⟨rfl,u1⟩
 have HU : Hid _ := u1
 clear u1
 go_wp2
 go_ret
 exact ⟨rfl,HU.out⟩
def changeL (e : Ev) : List UInt8 := [32] ++ nmL e.field ++ [32] ++ Lib.itoa e.was ++ [32,116,111,32] ++ Lib.itoa e.now
theorem changeL_le {e : Ev} (h : EvW e) : (changeL e).length <= 100 := by
 have h1 := nmL_le h.field
 have h2 := Lib.itoa_length_le e.was (by have := h.was; omega) (by have := h.was; omega)
 have h3 := Lib.itoa_length_le e.now (by have := h.now; omega) (by have := h.now; omega)
 unfold changeL
 simp only [List.length_append,List.length_cons,List.length_nil]
 omega
set_option maxRecDepth 100000 in
set_option maxHeartbeats 4000000 in
theorem changeText_ (e : Ev) (oa : Option Addr) (n oc : Nat) (w : World) (hT : TabP w) (hw : EvW e) : Calls Tryz.prog 191 #[.agg #[.int .i8 e.kind,.int .i8 e.field,.int .i64 e.card,.int .i64 e.player,.int .i64 e.other,.int .i64 e.fr,.int .i64 e.frAt,.int .i64 e.to_,.int .i64 e.toAt,.int .i32 e.was,.int .i32 e.now,.slice oa n oc]] w fun x w'=>x = .returned (.string ⟨(changeL e).toArray⟩) /\ Up w w' := by
 obtain ⟨W0,hW0⟩ : ∃ W0,w.alloc (.cells #[.int .i8 e.kind,.int .i8 e.field,.int .i64 e.card,.int .i64 e.player,.int .i64 e.other,.int .i64 e.fr,.int .i64 e.frAt,.int .i64 e.to_,.int .i64 e.toAt,.int .i32 e.was,.int .i32 e.now,.slice oa n oc] 30) = W0 := ⟨_,rfl⟩
 have g0 : W0.heap[w.heap.size]? = some (.cells #[.int .i8 e.kind,.int .i8 e.field,.int .i64 e.card,.int .i64 e.player,.int .i64 e.other,.int .i64 e.fr,.int .i64 e.frAt,.int .i64 e.to_,.int .i64 e.toAt,.int .i32 e.was,.int .i32 e.now,.slice oa n oc] 30 (0,0)) := by rw [<- hW0]; exact heap_alloc_new _ _
 have u0 : Up w W0 := by rw [<- hW0]; exact (Up.refl _).alloc _
 have ne : Nonempty (UW W0) := ⟨⟨W0,Up.refl _⟩⟩
 have mk : ∀ {f : Nat} {args : Array Value} {Rv : Value} (U : UW W0),Calls Tryz.prog f args U.W (fun e w'=>e = .returned Rv /\ Up U.W w') -> Calls Tryz.prog f args U.W (fun e w'=>e = .returned Rv /\ ∃ V : UW W0,w' = V.W) := fun U h=>h.mono fun e w' ⟨h1,h2⟩=>⟨h1,⟨w',U.up.trans h2⟩,rfl⟩
 have HC0 : Hid (∀ U : UW W0,Calls Tryz.prog 196 #[.int .i32 e.was] U.W fun x w'=>x = .returned (.string ⟨(Lib.itoa e.was).toArray⟩) /\ ∃ V : UW W0,w' = V.W) := fun U=>mk U (tens32_ e.was hw.was U.W (hT.up (u0.trans U.up)))
 have hl0 := Lib.itoa_length_le e.was (by have := hw.was.1; omega) (by have := hw.was.2; omega)
 have HC1 : Hid (∀ U : UW W0,Calls Tryz.prog 196 #[.int .i32 e.now] U.W fun x w'=>x = .returned (.string ⟨(Lib.itoa e.now).toArray⟩) /\ ∃ V : UW W0,w' = V.W) := fun U=>mk U (tens32_ e.now hw.now U.W (hT.up (u0.trans U.up)))
 have hl1 := Lib.itoa_length_le e.now (by have := hw.now.1; omega) (by have := hw.now.2; omega)
 have HC2 : Hid (∀ U : UW W0,Calls Tryz.prog 212 #[.int .i8 e.field] U.W fun x w'=>x = .returned (.string ⟨(nmL e.field).toArray⟩) /\ ∃ V : UW W0,w' = V.W) := fun U=>mk U (fieldText_ e.field hw.field U.W (hT.up (u0.trans U.up)))
 have hl2 := nmL_le hw.field
 have e0 : ∀ U : UW W0,U.W.cell? ⟨w.heap.size,0,none⟩ = some (.int .i8 e.kind) := fun U=>by rw [World.cell?,U.up.heap g0]; rfl
 have e1 : ∀ U : UW W0,U.W.cell? ⟨w.heap.size,1,none⟩ = some (.int .i8 e.field) := fun U=>by rw [World.cell?,U.up.heap g0]; rfl
 have e2 : ∀ U : UW W0,U.W.cell? ⟨w.heap.size,2,none⟩ = some (.int .i64 e.card) := fun U=>by rw [World.cell?,U.up.heap g0]; rfl
 have e3 : ∀ U : UW W0,U.W.cell? ⟨w.heap.size,3,none⟩ = some (.int .i64 e.player) := fun U=>by rw [World.cell?,U.up.heap g0]; rfl
 have e4 : ∀ U : UW W0,U.W.cell? ⟨w.heap.size,4,none⟩ = some (.int .i64 e.other) := fun U=>by rw [World.cell?,U.up.heap g0]; rfl
 have e5 : ∀ U : UW W0,U.W.cell? ⟨w.heap.size,5,none⟩ = some (.int .i64 e.fr) := fun U=>by rw [World.cell?,U.up.heap g0]; rfl
 have e6 : ∀ U : UW W0,U.W.cell? ⟨w.heap.size,6,none⟩ = some (.int .i64 e.frAt) := fun U=>by rw [World.cell?,U.up.heap g0]; rfl
 have e7 : ∀ U : UW W0,U.W.cell? ⟨w.heap.size,7,none⟩ = some (.int .i64 e.to_) := fun U=>by rw [World.cell?,U.up.heap g0]; rfl
 have e8 : ∀ U : UW W0,U.W.cell? ⟨w.heap.size,8,none⟩ = some (.int .i64 e.toAt) := fun U=>by rw [World.cell?,U.up.heap g0]; rfl
 have e9 : ∀ U : UW W0,U.W.cell? ⟨w.heap.size,9,none⟩ = some (.int .i32 e.was) := fun U=>by rw [World.cell?,U.up.heap g0]; rfl
 have e10 : ∀ U : UW W0,U.W.cell? ⟨w.heap.size,10,none⟩ = some (.int .i32 e.now) := fun U=>by rw [World.cell?,U.up.heap g0]; rfl
 have e11 : ∀ U : UW W0,U.W.cell? ⟨w.heap.size,11,none⟩ = some (.slice oa n oc) := fun U=>by rw [World.cell?,U.up.heap g0]; rfl
 have HU0 : Hid _ := u0
 clear mk hT hw g0 u0
 unfold changeL
 generalize Lib.itoa e.was = l0 at *
 generalize Lib.itoa e.now = l1 at *
 generalize nmL e.field = l2 at *
 go_enter Tryz.func191,Tryz.ntmps191
 go_wp2_with fail
 try rw [hW0]
 clear hW0
 refine TailR.wp_region_seqC 14 (fun w'=>∃ U : UW W0,w' = U.W) ⟨⟨_,(Up.refl _).drewN 1⟩,rfl⟩ (by kernel_rfl) (by kernel_rfl) ?_
 simp only [List.take_succ_cons,List.take_zero,List.drop_succ_cons,List.drop_zero]
 repeat (go_big_quiet_step (first | with_reducible exact HC0.out _ | with_reducible exact HC1.out _ | with_reducible exact HC2.out _))
 refine wpQuiet_nil ?_
 intro _ hw'
 obtain ⟨U,hw''⟩ := hw'
 subst hw''
 have HUU : Hid (Up w U.W) := Up.trans HU0.out U.up
 clear e0 e1 e2 e3 e4 e5 e6 e7 e8 e9 e10 e11 HU0
 generalize U.W = V at *
 go_wp2
 go_ret
 exact ⟨ret_str (by simp),HUU.out⟩
def moveL (e : Ev) : List UInt8 := [109,111,118,101,32] ++ Lib.itoa e.card ++ [32,102,114,111,109,32] ++ Lib.itoa e.fr ++ [32] ++ Lib.itoa e.frAt ++ [32,116,111,32] ++ Lib.itoa e.to_ ++ [32] ++ Lib.itoa e.toAt
set_option maxRecDepth 100000 in
set_option maxHeartbeats 4000000 in
theorem moveText_ (e : Ev) (oa : Option Addr) (n oc : Nat) (w : World) (hT : TabP w) (hw : EvW e) : Calls Tryz.prog 122 #[.agg #[.int .i8 e.kind,.int .i8 e.field,.int .i64 e.card,.int .i64 e.player,.int .i64 e.other,.int .i64 e.fr,.int .i64 e.frAt,.int .i64 e.to_,.int .i64 e.toAt,.int .i32 e.was,.int .i32 e.now,.slice oa n oc]] w fun x w'=>x = .returned (.string ⟨(moveL e).toArray⟩) /\ Up w w' := by
 obtain ⟨W0,hW0⟩ : ∃ W0,w.alloc (.cells #[.int .i8 e.kind,.int .i8 e.field,.int .i64 e.card,.int .i64 e.player,.int .i64 e.other,.int .i64 e.fr,.int .i64 e.frAt,.int .i64 e.to_,.int .i64 e.toAt,.int .i32 e.was,.int .i32 e.now,.slice oa n oc] 30) = W0 := ⟨_,rfl⟩
 have g0 : W0.heap[w.heap.size]? = some (.cells #[.int .i8 e.kind,.int .i8 e.field,.int .i64 e.card,.int .i64 e.player,.int .i64 e.other,.int .i64 e.fr,.int .i64 e.frAt,.int .i64 e.to_,.int .i64 e.toAt,.int .i32 e.was,.int .i32 e.now,.slice oa n oc] 30 (0,0)) := by rw [<- hW0]; exact heap_alloc_new _ _
 have u0 : Up w W0 := by rw [<- hW0]; exact (Up.refl _).alloc _
 have ne : Nonempty (UW W0) := ⟨⟨W0,Up.refl _⟩⟩
 have mk : ∀ {f : Nat} {args : Array Value} {Rv : Value} (U : UW W0),Calls Tryz.prog f args U.W (fun e w'=>e = .returned Rv /\ Up U.W w') -> Calls Tryz.prog f args U.W (fun e w'=>e = .returned Rv /\ ∃ V : UW W0,w' = V.W) := fun U h=>h.mono fun e w' ⟨h1,h2⟩=>⟨h1,⟨w',U.up.trans h2⟩,rfl⟩
 have HC0 : Hid (∀ U : UW W0,Calls Tryz.prog 188 #[.int .i64 e.card] U.W fun x w'=>x = .returned (.string ⟨(Lib.itoa e.card).toArray⟩) /\ ∃ V : UW W0,w' = V.W) := fun U=>mk U (tens_ e.card hw.card U.W (hT.up (u0.trans U.up)))
 have hl0 := Lib.itoa_length_le e.card (by have := hw.card.1; omega) (by have := hw.card.2; omega)
 have HC1 : Hid (∀ U : UW W0,Calls Tryz.prog 188 #[.int .i64 e.fr] U.W fun x w'=>x = .returned (.string ⟨(Lib.itoa e.fr).toArray⟩) /\ ∃ V : UW W0,w' = V.W) := fun U=>mk U (tens_ e.fr hw.fr U.W (hT.up (u0.trans U.up)))
 have hl1 := Lib.itoa_length_le e.fr (by have := hw.fr.1; omega) (by have := hw.fr.2; omega)
 have HC2 : Hid (∀ U : UW W0,Calls Tryz.prog 188 #[.int .i64 e.frAt] U.W fun x w'=>x = .returned (.string ⟨(Lib.itoa e.frAt).toArray⟩) /\ ∃ V : UW W0,w' = V.W) := fun U=>mk U (tens_ e.frAt hw.frAt U.W (hT.up (u0.trans U.up)))
 have hl2 := Lib.itoa_length_le e.frAt (by have := hw.frAt.1; omega) (by have := hw.frAt.2; omega)
 have HC3 : Hid (∀ U : UW W0,Calls Tryz.prog 188 #[.int .i64 e.to_] U.W fun x w'=>x = .returned (.string ⟨(Lib.itoa e.to_).toArray⟩) /\ ∃ V : UW W0,w' = V.W) := fun U=>mk U (tens_ e.to_ hw.to_ U.W (hT.up (u0.trans U.up)))
 have hl3 := Lib.itoa_length_le e.to_ (by have := hw.to_.1; omega) (by have := hw.to_.2; omega)
 have HC4 : Hid (∀ U : UW W0,Calls Tryz.prog 188 #[.int .i64 e.toAt] U.W fun x w'=>x = .returned (.string ⟨(Lib.itoa e.toAt).toArray⟩) /\ ∃ V : UW W0,w' = V.W) := fun U=>mk U (tens_ e.toAt hw.toAt U.W (hT.up (u0.trans U.up)))
 have hl4 := Lib.itoa_length_le e.toAt (by have := hw.toAt.1; omega) (by have := hw.toAt.2; omega)
 have e0 : ∀ U : UW W0,U.W.cell? ⟨w.heap.size,0,none⟩ = some (.int .i8 e.kind) := fun U=>by rw [World.cell?,U.up.heap g0]; rfl
 have e1 : ∀ U : UW W0,U.W.cell? ⟨w.heap.size,1,none⟩ = some (.int .i8 e.field) := fun U=>by rw [World.cell?,U.up.heap g0]; rfl
 have e2 : ∀ U : UW W0,U.W.cell? ⟨w.heap.size,2,none⟩ = some (.int .i64 e.card) := fun U=>by rw [World.cell?,U.up.heap g0]; rfl
 have e3 : ∀ U : UW W0,U.W.cell? ⟨w.heap.size,3,none⟩ = some (.int .i64 e.player) := fun U=>by rw [World.cell?,U.up.heap g0]; rfl
 have e4 : ∀ U : UW W0,U.W.cell? ⟨w.heap.size,4,none⟩ = some (.int .i64 e.other) := fun U=>by rw [World.cell?,U.up.heap g0]; rfl
 have e5 : ∀ U : UW W0,U.W.cell? ⟨w.heap.size,5,none⟩ = some (.int .i64 e.fr) := fun U=>by rw [World.cell?,U.up.heap g0]; rfl
 have e6 : ∀ U : UW W0,U.W.cell? ⟨w.heap.size,6,none⟩ = some (.int .i64 e.frAt) := fun U=>by rw [World.cell?,U.up.heap g0]; rfl
 have e7 : ∀ U : UW W0,U.W.cell? ⟨w.heap.size,7,none⟩ = some (.int .i64 e.to_) := fun U=>by rw [World.cell?,U.up.heap g0]; rfl
 have e8 : ∀ U : UW W0,U.W.cell? ⟨w.heap.size,8,none⟩ = some (.int .i64 e.toAt) := fun U=>by rw [World.cell?,U.up.heap g0]; rfl
 have e9 : ∀ U : UW W0,U.W.cell? ⟨w.heap.size,9,none⟩ = some (.int .i32 e.was) := fun U=>by rw [World.cell?,U.up.heap g0]; rfl
 have e10 : ∀ U : UW W0,U.W.cell? ⟨w.heap.size,10,none⟩ = some (.int .i32 e.now) := fun U=>by rw [World.cell?,U.up.heap g0]; rfl
 have e11 : ∀ U : UW W0,U.W.cell? ⟨w.heap.size,11,none⟩ = some (.slice oa n oc) := fun U=>by rw [World.cell?,U.up.heap g0]; rfl
 have HU0 : Hid _ := u0
 clear mk hT hw g0 u0
 unfold moveL
 generalize Lib.itoa e.card = l0 at *
 generalize Lib.itoa e.fr = l1 at *
 generalize Lib.itoa e.frAt = l2 at *
 generalize Lib.itoa e.to_ = l3 at *
 generalize Lib.itoa e.toAt = l4 at *
 go_enter Tryz.func122,Tryz.ntmps122
 go_wp2_with fail
 try rw [hW0]
 clear hW0
 refine TailR.wp_region_seqC 24 (fun w'=>∃ U : UW W0,w' = U.W) ⟨⟨_,(Up.refl _).drewN 1⟩,rfl⟩ (by kernel_rfl) (by kernel_rfl) ?_
 simp only [List.take_succ_cons,List.take_zero,List.drop_succ_cons,List.drop_zero]
 repeat (go_big_quiet_step (first | with_reducible exact HC0.out _ | with_reducible exact HC1.out _ | with_reducible exact HC2.out _ | with_reducible exact HC3.out _ | with_reducible exact HC4.out _))
 refine wpQuiet_nil ?_
 intro _ hw'
 obtain ⟨U,hw''⟩ := hw'
 subst hw''
 have HUU : Hid (Up w U.W) := Up.trans HU0.out U.up
 clear e0 e1 e2 e3 e4 e5 e6 e7 e8 e9 e10 e11 HU0
 generalize U.W = V at *
 go_wp2
 go_ret
 exact ⟨ret_str (by simp),HUU.out⟩
def cardL (e : Ev) : List UInt8 := [99,97,114,100,32] ++ Lib.itoa e.card ++ changeL e
set_option maxRecDepth 100000 in
set_option maxHeartbeats 4000000 in
theorem cardText_ (e : Ev) (oa : Option Addr) (n oc : Nat) (w : World) (hT : TabP w) (hw : EvW e) : Calls Tryz.prog 128 #[.agg #[.int .i8 e.kind,.int .i8 e.field,.int .i64 e.card,.int .i64 e.player,.int .i64 e.other,.int .i64 e.fr,.int .i64 e.frAt,.int .i64 e.to_,.int .i64 e.toAt,.int .i32 e.was,.int .i32 e.now,.slice oa n oc]] w fun x w'=>x = .returned (.string ⟨(cardL e).toArray⟩) /\ Up w w' := by
 obtain ⟨W0,hW0⟩ : ∃ W0,w.alloc (.cells #[.int .i8 e.kind,.int .i8 e.field,.int .i64 e.card,.int .i64 e.player,.int .i64 e.other,.int .i64 e.fr,.int .i64 e.frAt,.int .i64 e.to_,.int .i64 e.toAt,.int .i32 e.was,.int .i32 e.now,.slice oa n oc] 30) = W0 := ⟨_,rfl⟩
 have g0 : W0.heap[w.heap.size]? = some (.cells #[.int .i8 e.kind,.int .i8 e.field,.int .i64 e.card,.int .i64 e.player,.int .i64 e.other,.int .i64 e.fr,.int .i64 e.frAt,.int .i64 e.to_,.int .i64 e.toAt,.int .i32 e.was,.int .i32 e.now,.slice oa n oc] 30 (0,0)) := by rw [<- hW0]; exact heap_alloc_new _ _
 have u0 : Up w W0 := by rw [<- hW0]; exact (Up.refl _).alloc _
 have ne : Nonempty (UW W0) := ⟨⟨W0,Up.refl _⟩⟩
 have mk : ∀ {f : Nat} {args : Array Value} {Rv : Value} (U : UW W0),Calls Tryz.prog f args U.W (fun e w'=>e = .returned Rv /\ Up U.W w') -> Calls Tryz.prog f args U.W (fun e w'=>e = .returned Rv /\ ∃ V : UW W0,w' = V.W) := fun U h=>h.mono fun e w' ⟨h1,h2⟩=>⟨h1,⟨w',U.up.trans h2⟩,rfl⟩
 have HC0 : Hid (∀ U : UW W0,Calls Tryz.prog 188 #[.int .i64 e.card] U.W fun x w'=>x = .returned (.string ⟨(Lib.itoa e.card).toArray⟩) /\ ∃ V : UW W0,w' = V.W) := fun U=>mk U (tens_ e.card hw.card U.W (hT.up (u0.trans U.up)))
 have hl0 := Lib.itoa_length_le e.card (by have := hw.card.1; omega) (by have := hw.card.2; omega)
 have HC1 : Hid (∀ U : UW W0,Calls Tryz.prog 191 #[.agg #[.int .i8 e.kind,.int .i8 e.field,.int .i64 e.card,.int .i64 e.player,.int .i64 e.other,.int .i64 e.fr,.int .i64 e.frAt,.int .i64 e.to_,.int .i64 e.toAt,.int .i32 e.was,.int .i32 e.now,.slice oa n oc]] U.W fun x w'=>x = .returned (.string ⟨(changeL e).toArray⟩) /\ ∃ V : UW W0,w' = V.W) := fun U=>mk U (changeText_ e oa n oc U.W (hT.up (u0.trans U.up)) hw)
 have hl1 := changeL_le hw
 have e0 : ∀ U : UW W0,U.W.cell? ⟨w.heap.size,0,none⟩ = some (.int .i8 e.kind) := fun U=>by rw [World.cell?,U.up.heap g0]; rfl
 have e1 : ∀ U : UW W0,U.W.cell? ⟨w.heap.size,1,none⟩ = some (.int .i8 e.field) := fun U=>by rw [World.cell?,U.up.heap g0]; rfl
 have e2 : ∀ U : UW W0,U.W.cell? ⟨w.heap.size,2,none⟩ = some (.int .i64 e.card) := fun U=>by rw [World.cell?,U.up.heap g0]; rfl
 have e3 : ∀ U : UW W0,U.W.cell? ⟨w.heap.size,3,none⟩ = some (.int .i64 e.player) := fun U=>by rw [World.cell?,U.up.heap g0]; rfl
 have e4 : ∀ U : UW W0,U.W.cell? ⟨w.heap.size,4,none⟩ = some (.int .i64 e.other) := fun U=>by rw [World.cell?,U.up.heap g0]; rfl
 have e5 : ∀ U : UW W0,U.W.cell? ⟨w.heap.size,5,none⟩ = some (.int .i64 e.fr) := fun U=>by rw [World.cell?,U.up.heap g0]; rfl
 have e6 : ∀ U : UW W0,U.W.cell? ⟨w.heap.size,6,none⟩ = some (.int .i64 e.frAt) := fun U=>by rw [World.cell?,U.up.heap g0]; rfl
 have e7 : ∀ U : UW W0,U.W.cell? ⟨w.heap.size,7,none⟩ = some (.int .i64 e.to_) := fun U=>by rw [World.cell?,U.up.heap g0]; rfl
 have e8 : ∀ U : UW W0,U.W.cell? ⟨w.heap.size,8,none⟩ = some (.int .i64 e.toAt) := fun U=>by rw [World.cell?,U.up.heap g0]; rfl
 have e9 : ∀ U : UW W0,U.W.cell? ⟨w.heap.size,9,none⟩ = some (.int .i32 e.was) := fun U=>by rw [World.cell?,U.up.heap g0]; rfl
 have e10 : ∀ U : UW W0,U.W.cell? ⟨w.heap.size,10,none⟩ = some (.int .i32 e.now) := fun U=>by rw [World.cell?,U.up.heap g0]; rfl
 have e11 : ∀ U : UW W0,U.W.cell? ⟨w.heap.size,11,none⟩ = some (.slice oa n oc) := fun U=>by rw [World.cell?,U.up.heap g0]; rfl
 have HU0 : Hid _ := u0
 clear mk hT hw g0 u0
 unfold cardL
 generalize Lib.itoa e.card = l0 at *
 generalize changeL e = l1 at *
 go_enter Tryz.func128,Tryz.ntmps128
 go_wp2_with fail
 try rw [hW0]
 clear hW0
 refine TailR.wp_region_seqC 7 (fun w'=>∃ U : UW W0,w' = U.W) ⟨⟨_,(Up.refl _).drewN 1⟩,rfl⟩ (by kernel_rfl) (by kernel_rfl) ?_
 simp only [List.take_succ_cons,List.take_zero,List.drop_succ_cons,List.drop_zero]
 repeat (go_big_quiet_step (first | with_reducible exact HC0.out _ | with_reducible exact HC1.out _))
 refine wpQuiet_nil ?_
 intro _ hw'
 obtain ⟨U,hw''⟩ := hw'
 subst hw''
 have HUU : Hid (Up w U.W) := Up.trans HU0.out U.up
 clear e0 e1 e2 e3 e4 e5 e6 e7 e8 e9 e10 e11 HU0
 generalize U.W = V at *
 go_wp2
 go_ret
 exact ⟨ret_str (by simp),HUU.out⟩
def playerL (e : Ev) : List UInt8 := [112,108,97,121,101,114,32] ++ Lib.itoa e.player ++ changeL e
set_option maxRecDepth 100000 in
set_option maxHeartbeats 4000000 in
theorem playerText_ (e : Ev) (oa : Option Addr) (n oc : Nat) (w : World) (hT : TabP w) (hw : EvW e) : Calls Tryz.prog 134 #[.agg #[.int .i8 e.kind,.int .i8 e.field,.int .i64 e.card,.int .i64 e.player,.int .i64 e.other,.int .i64 e.fr,.int .i64 e.frAt,.int .i64 e.to_,.int .i64 e.toAt,.int .i32 e.was,.int .i32 e.now,.slice oa n oc]] w fun x w'=>x = .returned (.string ⟨(playerL e).toArray⟩) /\ Up w w' := by
 obtain ⟨W0,hW0⟩ : ∃ W0,w.alloc (.cells #[.int .i8 e.kind,.int .i8 e.field,.int .i64 e.card,.int .i64 e.player,.int .i64 e.other,.int .i64 e.fr,.int .i64 e.frAt,.int .i64 e.to_,.int .i64 e.toAt,.int .i32 e.was,.int .i32 e.now,.slice oa n oc] 30) = W0 := ⟨_,rfl⟩
 have g0 : W0.heap[w.heap.size]? = some (.cells #[.int .i8 e.kind,.int .i8 e.field,.int .i64 e.card,.int .i64 e.player,.int .i64 e.other,.int .i64 e.fr,.int .i64 e.frAt,.int .i64 e.to_,.int .i64 e.toAt,.int .i32 e.was,.int .i32 e.now,.slice oa n oc] 30 (0,0)) := by rw [<- hW0]; exact heap_alloc_new _ _
 have u0 : Up w W0 := by rw [<- hW0]; exact (Up.refl _).alloc _
 have ne : Nonempty (UW W0) := ⟨⟨W0,Up.refl _⟩⟩
 have mk : ∀ {f : Nat} {args : Array Value} {Rv : Value} (U : UW W0),Calls Tryz.prog f args U.W (fun e w'=>e = .returned Rv /\ Up U.W w') -> Calls Tryz.prog f args U.W (fun e w'=>e = .returned Rv /\ ∃ V : UW W0,w' = V.W) := fun U h=>h.mono fun e w' ⟨h1,h2⟩=>⟨h1,⟨w',U.up.trans h2⟩,rfl⟩
 have HC0 : Hid (∀ U : UW W0,Calls Tryz.prog 188 #[.int .i64 e.player] U.W fun x w'=>x = .returned (.string ⟨(Lib.itoa e.player).toArray⟩) /\ ∃ V : UW W0,w' = V.W) := fun U=>mk U (tens_ e.player hw.player U.W (hT.up (u0.trans U.up)))
 have hl0 := Lib.itoa_length_le e.player (by have := hw.player.1; omega) (by have := hw.player.2; omega)
 have HC1 : Hid (∀ U : UW W0,Calls Tryz.prog 191 #[.agg #[.int .i8 e.kind,.int .i8 e.field,.int .i64 e.card,.int .i64 e.player,.int .i64 e.other,.int .i64 e.fr,.int .i64 e.frAt,.int .i64 e.to_,.int .i64 e.toAt,.int .i32 e.was,.int .i32 e.now,.slice oa n oc]] U.W fun x w'=>x = .returned (.string ⟨(changeL e).toArray⟩) /\ ∃ V : UW W0,w' = V.W) := fun U=>mk U (changeText_ e oa n oc U.W (hT.up (u0.trans U.up)) hw)
 have hl1 := changeL_le hw
 have e0 : ∀ U : UW W0,U.W.cell? ⟨w.heap.size,0,none⟩ = some (.int .i8 e.kind) := fun U=>by rw [World.cell?,U.up.heap g0]; rfl
 have e1 : ∀ U : UW W0,U.W.cell? ⟨w.heap.size,1,none⟩ = some (.int .i8 e.field) := fun U=>by rw [World.cell?,U.up.heap g0]; rfl
 have e2 : ∀ U : UW W0,U.W.cell? ⟨w.heap.size,2,none⟩ = some (.int .i64 e.card) := fun U=>by rw [World.cell?,U.up.heap g0]; rfl
 have e3 : ∀ U : UW W0,U.W.cell? ⟨w.heap.size,3,none⟩ = some (.int .i64 e.player) := fun U=>by rw [World.cell?,U.up.heap g0]; rfl
 have e4 : ∀ U : UW W0,U.W.cell? ⟨w.heap.size,4,none⟩ = some (.int .i64 e.other) := fun U=>by rw [World.cell?,U.up.heap g0]; rfl
 have e5 : ∀ U : UW W0,U.W.cell? ⟨w.heap.size,5,none⟩ = some (.int .i64 e.fr) := fun U=>by rw [World.cell?,U.up.heap g0]; rfl
 have e6 : ∀ U : UW W0,U.W.cell? ⟨w.heap.size,6,none⟩ = some (.int .i64 e.frAt) := fun U=>by rw [World.cell?,U.up.heap g0]; rfl
 have e7 : ∀ U : UW W0,U.W.cell? ⟨w.heap.size,7,none⟩ = some (.int .i64 e.to_) := fun U=>by rw [World.cell?,U.up.heap g0]; rfl
 have e8 : ∀ U : UW W0,U.W.cell? ⟨w.heap.size,8,none⟩ = some (.int .i64 e.toAt) := fun U=>by rw [World.cell?,U.up.heap g0]; rfl
 have e9 : ∀ U : UW W0,U.W.cell? ⟨w.heap.size,9,none⟩ = some (.int .i32 e.was) := fun U=>by rw [World.cell?,U.up.heap g0]; rfl
 have e10 : ∀ U : UW W0,U.W.cell? ⟨w.heap.size,10,none⟩ = some (.int .i32 e.now) := fun U=>by rw [World.cell?,U.up.heap g0]; rfl
 have e11 : ∀ U : UW W0,U.W.cell? ⟨w.heap.size,11,none⟩ = some (.slice oa n oc) := fun U=>by rw [World.cell?,U.up.heap g0]; rfl
 have HU0 : Hid _ := u0
 clear mk hT hw g0 u0
 unfold playerL
 generalize Lib.itoa e.player = l0 at *
 generalize changeL e = l1 at *
 go_enter Tryz.func134,Tryz.ntmps134
 go_wp2_with fail
 try rw [hW0]
 clear hW0
 refine TailR.wp_region_seqC 7 (fun w'=>∃ U : UW W0,w' = U.W) ⟨⟨_,(Up.refl _).drewN 1⟩,rfl⟩ (by kernel_rfl) (by kernel_rfl) ?_
 simp only [List.take_succ_cons,List.take_zero,List.drop_succ_cons,List.drop_zero]
 repeat (go_big_quiet_step (first | with_reducible exact HC0.out _ | with_reducible exact HC1.out _))
 refine wpQuiet_nil ?_
 intro _ hw'
 obtain ⟨U,hw''⟩ := hw'
 subst hw''
 have HUU : Hid (Up w U.W) := Up.trans HU0.out U.up
 clear e0 e1 e2 e3 e4 e5 e6 e7 e8 e9 e10 e11 HU0
 generalize U.W = V at *
 go_wp2
 go_ret
 exact ⟨ret_str (by simp),HUU.out⟩
def turnL (e : Ev) : List UInt8 := [116,117,114,110,32] ++ Lib.itoa e.was ++ [32,111,102,32] ++ Lib.itoa e.player ++ [32,116,111,32] ++ Lib.itoa e.now ++ [32,111,102,32] ++ Lib.itoa e.other
set_option maxRecDepth 100000 in
set_option maxHeartbeats 4000000 in
theorem turnText_ (e : Ev) (oa : Option Addr) (n oc : Nat) (w : World) (hT : TabP w) (hw : EvW e) : Calls Tryz.prog 151 #[.agg #[.int .i8 e.kind,.int .i8 e.field,.int .i64 e.card,.int .i64 e.player,.int .i64 e.other,.int .i64 e.fr,.int .i64 e.frAt,.int .i64 e.to_,.int .i64 e.toAt,.int .i32 e.was,.int .i32 e.now,.slice oa n oc]] w fun x w'=>x = .returned (.string ⟨(turnL e).toArray⟩) /\ Up w w' := by
 obtain ⟨W0,hW0⟩ : ∃ W0,w.alloc (.cells #[.int .i8 e.kind,.int .i8 e.field,.int .i64 e.card,.int .i64 e.player,.int .i64 e.other,.int .i64 e.fr,.int .i64 e.frAt,.int .i64 e.to_,.int .i64 e.toAt,.int .i32 e.was,.int .i32 e.now,.slice oa n oc] 30) = W0 := ⟨_,rfl⟩
 have g0 : W0.heap[w.heap.size]? = some (.cells #[.int .i8 e.kind,.int .i8 e.field,.int .i64 e.card,.int .i64 e.player,.int .i64 e.other,.int .i64 e.fr,.int .i64 e.frAt,.int .i64 e.to_,.int .i64 e.toAt,.int .i32 e.was,.int .i32 e.now,.slice oa n oc] 30 (0,0)) := by rw [<- hW0]; exact heap_alloc_new _ _
 have u0 : Up w W0 := by rw [<- hW0]; exact (Up.refl _).alloc _
 have ne : Nonempty (UW W0) := ⟨⟨W0,Up.refl _⟩⟩
 have mk : ∀ {f : Nat} {args : Array Value} {Rv : Value} (U : UW W0),Calls Tryz.prog f args U.W (fun e w'=>e = .returned Rv /\ Up U.W w') -> Calls Tryz.prog f args U.W (fun e w'=>e = .returned Rv /\ ∃ V : UW W0,w' = V.W) := fun U h=>h.mono fun e w' ⟨h1,h2⟩=>⟨h1,⟨w',U.up.trans h2⟩,rfl⟩
 have HC0 : Hid (∀ U : UW W0,Calls Tryz.prog 196 #[.int .i32 e.was] U.W fun x w'=>x = .returned (.string ⟨(Lib.itoa e.was).toArray⟩) /\ ∃ V : UW W0,w' = V.W) := fun U=>mk U (tens32_ e.was hw.was U.W (hT.up (u0.trans U.up)))
 have hl0 := Lib.itoa_length_le e.was (by have := hw.was.1; omega) (by have := hw.was.2; omega)
 have HC1 : Hid (∀ U : UW W0,Calls Tryz.prog 188 #[.int .i64 e.player] U.W fun x w'=>x = .returned (.string ⟨(Lib.itoa e.player).toArray⟩) /\ ∃ V : UW W0,w' = V.W) := fun U=>mk U (tens_ e.player hw.player U.W (hT.up (u0.trans U.up)))
 have hl1 := Lib.itoa_length_le e.player (by have := hw.player.1; omega) (by have := hw.player.2; omega)
 have HC2 : Hid (∀ U : UW W0,Calls Tryz.prog 196 #[.int .i32 e.now] U.W fun x w'=>x = .returned (.string ⟨(Lib.itoa e.now).toArray⟩) /\ ∃ V : UW W0,w' = V.W) := fun U=>mk U (tens32_ e.now hw.now U.W (hT.up (u0.trans U.up)))
 have hl2 := Lib.itoa_length_le e.now (by have := hw.now.1; omega) (by have := hw.now.2; omega)
 have HC3 : Hid (∀ U : UW W0,Calls Tryz.prog 188 #[.int .i64 e.other] U.W fun x w'=>x = .returned (.string ⟨(Lib.itoa e.other).toArray⟩) /\ ∃ V : UW W0,w' = V.W) := fun U=>mk U (tens_ e.other hw.other U.W (hT.up (u0.trans U.up)))
 have hl3 := Lib.itoa_length_le e.other (by have := hw.other.1; omega) (by have := hw.other.2; omega)
 have e0 : ∀ U : UW W0,U.W.cell? ⟨w.heap.size,0,none⟩ = some (.int .i8 e.kind) := fun U=>by rw [World.cell?,U.up.heap g0]; rfl
 have e1 : ∀ U : UW W0,U.W.cell? ⟨w.heap.size,1,none⟩ = some (.int .i8 e.field) := fun U=>by rw [World.cell?,U.up.heap g0]; rfl
 have e2 : ∀ U : UW W0,U.W.cell? ⟨w.heap.size,2,none⟩ = some (.int .i64 e.card) := fun U=>by rw [World.cell?,U.up.heap g0]; rfl
 have e3 : ∀ U : UW W0,U.W.cell? ⟨w.heap.size,3,none⟩ = some (.int .i64 e.player) := fun U=>by rw [World.cell?,U.up.heap g0]; rfl
 have e4 : ∀ U : UW W0,U.W.cell? ⟨w.heap.size,4,none⟩ = some (.int .i64 e.other) := fun U=>by rw [World.cell?,U.up.heap g0]; rfl
 have e5 : ∀ U : UW W0,U.W.cell? ⟨w.heap.size,5,none⟩ = some (.int .i64 e.fr) := fun U=>by rw [World.cell?,U.up.heap g0]; rfl
 have e6 : ∀ U : UW W0,U.W.cell? ⟨w.heap.size,6,none⟩ = some (.int .i64 e.frAt) := fun U=>by rw [World.cell?,U.up.heap g0]; rfl
 have e7 : ∀ U : UW W0,U.W.cell? ⟨w.heap.size,7,none⟩ = some (.int .i64 e.to_) := fun U=>by rw [World.cell?,U.up.heap g0]; rfl
 have e8 : ∀ U : UW W0,U.W.cell? ⟨w.heap.size,8,none⟩ = some (.int .i64 e.toAt) := fun U=>by rw [World.cell?,U.up.heap g0]; rfl
 have e9 : ∀ U : UW W0,U.W.cell? ⟨w.heap.size,9,none⟩ = some (.int .i32 e.was) := fun U=>by rw [World.cell?,U.up.heap g0]; rfl
 have e10 : ∀ U : UW W0,U.W.cell? ⟨w.heap.size,10,none⟩ = some (.int .i32 e.now) := fun U=>by rw [World.cell?,U.up.heap g0]; rfl
 have e11 : ∀ U : UW W0,U.W.cell? ⟨w.heap.size,11,none⟩ = some (.slice oa n oc) := fun U=>by rw [World.cell?,U.up.heap g0]; rfl
 have HU0 : Hid _ := u0
 clear mk hT hw g0 u0
 unfold turnL
 generalize Lib.itoa e.was = l0 at *
 generalize Lib.itoa e.player = l1 at *
 generalize Lib.itoa e.now = l2 at *
 generalize Lib.itoa e.other = l3 at *
 go_enter Tryz.func151,Tryz.ntmps151
 go_wp2_with fail
 try rw [hW0]
 clear hW0
 refine TailR.wp_region_seqC 19 (fun w'=>∃ U : UW W0,w' = U.W) ⟨⟨_,(Up.refl _).drewN 1⟩,rfl⟩ (by kernel_rfl) (by kernel_rfl) ?_
 simp only [List.take_succ_cons,List.take_zero,List.drop_succ_cons,List.drop_zero]
 repeat (go_big_quiet_step (first | with_reducible exact HC0.out _ | with_reducible exact HC1.out _ | with_reducible exact HC2.out _ | with_reducible exact HC3.out _))
 refine wpQuiet_nil ?_
 intro _ hw'
 obtain ⟨U,hw''⟩ := hw'
 subst hw''
 have HUU : Hid (Up w U.W) := Up.trans HU0.out U.up
 clear e0 e1 e2 e3 e4 e5 e6 e7 e8 e9 e10 e11 HU0
 generalize U.W = V at *
 go_wp2
 go_ret
 exact ⟨ret_str (by simp),HUU.out⟩
def endL (e : Ev) : List UInt8 := [101,110,100,32] ++ Lib.itoa e.now ++ [32] ++ Lib.itoa e.player
set_option maxRecDepth 100000 in
set_option maxHeartbeats 4000000 in
theorem endText_ (e : Ev) (oa : Option Addr) (n oc : Nat) (w : World) (hT : TabP w) (hw : EvW e) : Calls Tryz.prog 157 #[.agg #[.int .i8 e.kind,.int .i8 e.field,.int .i64 e.card,.int .i64 e.player,.int .i64 e.other,.int .i64 e.fr,.int .i64 e.frAt,.int .i64 e.to_,.int .i64 e.toAt,.int .i32 e.was,.int .i32 e.now,.slice oa n oc]] w fun x w'=>x = .returned (.string ⟨(endL e).toArray⟩) /\ Up w w' := by
 obtain ⟨W0,hW0⟩ : ∃ W0,w.alloc (.cells #[.int .i8 e.kind,.int .i8 e.field,.int .i64 e.card,.int .i64 e.player,.int .i64 e.other,.int .i64 e.fr,.int .i64 e.frAt,.int .i64 e.to_,.int .i64 e.toAt,.int .i32 e.was,.int .i32 e.now,.slice oa n oc] 30) = W0 := ⟨_,rfl⟩
 have g0 : W0.heap[w.heap.size]? = some (.cells #[.int .i8 e.kind,.int .i8 e.field,.int .i64 e.card,.int .i64 e.player,.int .i64 e.other,.int .i64 e.fr,.int .i64 e.frAt,.int .i64 e.to_,.int .i64 e.toAt,.int .i32 e.was,.int .i32 e.now,.slice oa n oc] 30 (0,0)) := by rw [<- hW0]; exact heap_alloc_new _ _
 have u0 : Up w W0 := by rw [<- hW0]; exact (Up.refl _).alloc _
 have ne : Nonempty (UW W0) := ⟨⟨W0,Up.refl _⟩⟩
 have mk : ∀ {f : Nat} {args : Array Value} {Rv : Value} (U : UW W0),Calls Tryz.prog f args U.W (fun e w'=>e = .returned Rv /\ Up U.W w') -> Calls Tryz.prog f args U.W (fun e w'=>e = .returned Rv /\ ∃ V : UW W0,w' = V.W) := fun U h=>h.mono fun e w' ⟨h1,h2⟩=>⟨h1,⟨w',U.up.trans h2⟩,rfl⟩
 have HC0 : Hid (∀ U : UW W0,Calls Tryz.prog 196 #[.int .i32 e.now] U.W fun x w'=>x = .returned (.string ⟨(Lib.itoa e.now).toArray⟩) /\ ∃ V : UW W0,w' = V.W) := fun U=>mk U (tens32_ e.now hw.now U.W (hT.up (u0.trans U.up)))
 have hl0 := Lib.itoa_length_le e.now (by have := hw.now.1; omega) (by have := hw.now.2; omega)
 have HC1 : Hid (∀ U : UW W0,Calls Tryz.prog 188 #[.int .i64 e.player] U.W fun x w'=>x = .returned (.string ⟨(Lib.itoa e.player).toArray⟩) /\ ∃ V : UW W0,w' = V.W) := fun U=>mk U (tens_ e.player hw.player U.W (hT.up (u0.trans U.up)))
 have hl1 := Lib.itoa_length_le e.player (by have := hw.player.1; omega) (by have := hw.player.2; omega)
 have e0 : ∀ U : UW W0,U.W.cell? ⟨w.heap.size,0,none⟩ = some (.int .i8 e.kind) := fun U=>by rw [World.cell?,U.up.heap g0]; rfl
 have e1 : ∀ U : UW W0,U.W.cell? ⟨w.heap.size,1,none⟩ = some (.int .i8 e.field) := fun U=>by rw [World.cell?,U.up.heap g0]; rfl
 have e2 : ∀ U : UW W0,U.W.cell? ⟨w.heap.size,2,none⟩ = some (.int .i64 e.card) := fun U=>by rw [World.cell?,U.up.heap g0]; rfl
 have e3 : ∀ U : UW W0,U.W.cell? ⟨w.heap.size,3,none⟩ = some (.int .i64 e.player) := fun U=>by rw [World.cell?,U.up.heap g0]; rfl
 have e4 : ∀ U : UW W0,U.W.cell? ⟨w.heap.size,4,none⟩ = some (.int .i64 e.other) := fun U=>by rw [World.cell?,U.up.heap g0]; rfl
 have e5 : ∀ U : UW W0,U.W.cell? ⟨w.heap.size,5,none⟩ = some (.int .i64 e.fr) := fun U=>by rw [World.cell?,U.up.heap g0]; rfl
 have e6 : ∀ U : UW W0,U.W.cell? ⟨w.heap.size,6,none⟩ = some (.int .i64 e.frAt) := fun U=>by rw [World.cell?,U.up.heap g0]; rfl
 have e7 : ∀ U : UW W0,U.W.cell? ⟨w.heap.size,7,none⟩ = some (.int .i64 e.to_) := fun U=>by rw [World.cell?,U.up.heap g0]; rfl
 have e8 : ∀ U : UW W0,U.W.cell? ⟨w.heap.size,8,none⟩ = some (.int .i64 e.toAt) := fun U=>by rw [World.cell?,U.up.heap g0]; rfl
 have e9 : ∀ U : UW W0,U.W.cell? ⟨w.heap.size,9,none⟩ = some (.int .i32 e.was) := fun U=>by rw [World.cell?,U.up.heap g0]; rfl
 have e10 : ∀ U : UW W0,U.W.cell? ⟨w.heap.size,10,none⟩ = some (.int .i32 e.now) := fun U=>by rw [World.cell?,U.up.heap g0]; rfl
 have e11 : ∀ U : UW W0,U.W.cell? ⟨w.heap.size,11,none⟩ = some (.slice oa n oc) := fun U=>by rw [World.cell?,U.up.heap g0]; rfl
 have HU0 : Hid _ := u0
 clear mk hT hw g0 u0
 unfold endL
 generalize Lib.itoa e.now = l0 at *
 generalize Lib.itoa e.player = l1 at *
 go_enter Tryz.func157,Tryz.ntmps157
 go_wp2_with fail
 try rw [hW0]
 clear hW0
 refine TailR.wp_region_seqC 9 (fun w'=>∃ U : UW W0,w' = U.W) ⟨⟨_,(Up.refl _).drewN 1⟩,rfl⟩ (by kernel_rfl) (by kernel_rfl) ?_
 simp only [List.take_succ_cons,List.take_zero,List.drop_succ_cons,List.drop_zero]
 repeat (go_big_quiet_step (first | with_reducible exact HC0.out _ | with_reducible exact HC1.out _))
 refine wpQuiet_nil ?_
 intro _ hw'
 obtain ⟨U,hw''⟩ := hw'
 subst hw''
 have HUU : Hid (Up w U.W) := Up.trans HU0.out U.up
 clear e0 e1 e2 e3 e4 e5 e6 e7 e8 e9 e10 e11 HU0
 generalize U.W = V at *
 go_wp2
 go_ret
 exact ⟨ret_str (by simp),HUU.out⟩
end DE
end Go.Proofs.YtodhjjeagmjhdaaGreatDoor
