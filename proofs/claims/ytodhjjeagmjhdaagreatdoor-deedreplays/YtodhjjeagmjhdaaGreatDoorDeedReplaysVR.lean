/- The law DeedReplays returns true for every state and every list of events: what Replay and Back answer, with the place, is what the document answers; what was handed in stays, and is not kept; the answers are lists of their own; no conditions. -/
import Derived.Test.YtodhjjeagmjhdaaGreatDoorMo6TvOpenDoR
import Derived.Test.YtodhjjeagmjhdaaGreatDoorRows
import Derived.Test.YtodhjjeagmjhdaaGreatDoorCards
import Derived.Test.YtodhjjeagmjhdaaGreatDoorTie
import Derived.LaidMore
import Derived.ShutString
import Derived.SevenTiedAt
import Derived.Stop.Joined
namespace Go.Proofs.YtodhjjeagmjhdaaGreatDoor
open Go.ChangeShapes Go.WideShapes Go.ChangeAt Go.RowKit
namespace DE
open Go.Proofs.YtodhjjeagmjhdaaGreatDoor.ST
section
variable {H : Type} {enc : TypeId × Value -> H} {W : World}
theorem c28 : Tryz.prog.cellsOf 28 = 1 := by kernel_rfl
end
end DE
end Go.Proofs.YtodhjjeagmjhdaaGreatDoor
namespace Go.Proofs.YtodhjjeagmjhdaaGreatDoor
open Go.ChangeShapes Go.WideShapes Go.ChangeAt Go.RowKit
namespace DE
open Go.Proofs.YtodhjjeagmjhdaaGreatDoor.ST
section
variable {H : Type} {enc : TypeId × Value -> H} {W : World}
theorem open_flatP {E : Type} (t e s bytes fuel : Nat) (ht : Tryz.prog.underlying t = some (.slice e)) (ce : Tryz.prog.cellsOf e = s) (hs : 0 < s) (hby : Tryz.prog.bytesOf e = bytes) (hb2 : 2 <= bytes) (f : E -> List Value) (Pr : E -> Prop) (dx : E) (hf : ∀ x,(f x).length = s)
  (he : ∀ cs n d p,DataW.trod enc Tryz.prog W 0 (fun _=>true) true n e cs = some (d,p) -> (∀ n,n ∈ DataW.weights Tryz.prog e d -> n <= reachBytes) -> ∃ x : E,cs = f x /\ Pr x) {v : Value} {d : DataW H} {p : List MemPlace}
  (h : DataW.trod enc Tryz.prog W 0 (fun _=>true) true fuel t [v] = some (d,p)) (hz : ∀ n,n ∈ DataW.weights Tryz.prog t d -> n <= reachBytes) :
  ∃ xs : List E,LC W v s xs.length (xs.flatMap f) /\ (∀ x ∈ xs,Pr x) /\ xs.length <= 140737488355328 := by
 rcases Deep.open_slice ht h with ⟨hcs,_⟩ | ⟨a,len,cap,m,n,D,Pl,hcs,_,hl,hm,hmm,hx,hel⟩
 ·obtain rfl : v = .slice none 0 0 := by simpa using hcs
  exact ⟨[],⟨by simp,none,0,rfl,Nat.le_refl _,fun h=>absurd rfl h⟩,fun x hx=>absurd hx (List.not_mem_nil),Nat.zero_le _⟩
 ·obtain rfl : v = .slice (some a) len cap := by simpa using hcs
  have hmm : m = cap := by simpa using hmm
  subst hmm
  have hd : d = _ := congrArg Prod.fst hx
  have hb := hz ((len + (m - len)) * bytes) (by rw [hd]; simp [DataW.weights,ht,hby])
  have hr : reachBytes <= 281474976710656 := by decide
  have hlen2 : len * 2 <= 281474976710656 := by
   have h1 : len * 2 <= (len + (m - len)) * bytes := Nat.mul_le_mul (by omega) hb2
   omega
  have each : ∀ i,∃ x : E,i < len -> W.cells? 0 (a.add (i * s)) s = some (f x) /\ Pr x := by
   intro i
   by_cases hi : i < len
   ·obtain ⟨cs',h1,h2⟩ := hel i (by omega)
    obtain ⟨x,hx',hp⟩ := he cs' n _ _ h2 (fun n hn=>by
     refine hz n ?_
     rw [hd]
     simp only [DataW.weights,ht]
     exact List.mem_cons_of_mem _ (List.mem_append_left _ (weightsAll_mem hn _ (List.mem_map.2 ⟨i,List.mem_range.2 hi,rfl⟩))))
    rw [ce] at h1
    exact ⟨x,fun _=>⟨by rw [h1,hx'],hp⟩⟩
   ·exact ⟨dx,fun h=>absurd h hi⟩
  obtain ⟨X,hX⟩ := Classical.axiomOfChoice each
  have hlen : ((List.range len).map X).length = len := by simp
  refine ⟨(List.range len).map X,⟨by rw [flat_len f s hf],some a,m,by rw [hlen],by rw [hlen]; exact hl,fun hn=>?_⟩,fun x hx=>?_,by rw [hlen]; omega⟩
  ·rw [hlen] at hn
   have hspot : a.spot = none := by
    obtain ⟨_,hl0,hc0⟩ := World.cells?_some (hX 0 (by omega)).1
    have := hc0 0 (by omega)
    rw [List.getElem?_eq_getElem (by omega)] at this
    simpa [Addr.add] using World.cell?_spot this
   obtain ⟨b,off,spot⟩ := a
   simp only at hspot
   subst hspot
   refine ⟨b,off,rfl,fun j hj=>?_⟩
   rw [hlen] at hj
   have hi : j / s < len := (Nat.div_lt_iff_lt_mul hs).2 hj
   have hmod : j % s < s := Nat.mod_lt _ hs
   obtain ⟨_,hl0,hc0⟩ := World.cells?_some (hX (j / s) hi).1
   have h1 := hc0 (j % s) hmod
   rw [Addr.add_mid,Addr.add_mid] at h1
   have e1 : j / s * s + j % s = j := by rw [Nat.mul_comm]; exact Nat.div_add_mod j s
   rw [Nat.add_assoc,e1] at h1
   rw [h1]
   have h2 := flat_get f s hf dx ((List.range len).map X) (j / s) (j % s) (by rw [hlen]; exact hi) hmod
   rw [e1] at h2
   rw [h2]
   simp [List.getD,hi]
  ·obtain ⟨i,hi,rfl⟩ := List.mem_map.1 hx
   exact (hX i (List.mem_range.1 hi)).2
def evF (x : Ev × Value) : List Value := (evc x.1 x.2).toList
theorem evF_evsC (xs : List (Ev × Value)) : xs.flatMap evF = evsC (xs.map (·.1)) (xs.map (·.2)) := by
 unfold evsC
 rw [List.length_map]
 have key : ∀ k,k <= xs.length -> (xs.take k).flatMap evF = (List.range k).flatMap (evC (xs.map (·.1)) (xs.map (·.2))) := fun k hk=>by
  induction k with
  | zero=>rfl
  | succ k ih =>
   have hk' : k < xs.length := by omega
   rw [List.range_succ,List.flatMap_append,<- ih (by omega),List.take_add_one,List.getElem?_eq_getElem hk',List.flatMap_append]
   congr 1
   simp only [List.flatMap_cons,List.flatMap_nil,List.append_nil,Option.toList]
   unfold evC evF
   have e1 : (xs.map (·.1)).getD k dE = (xs[k]).1 := by simp [List.getD,hk']
   have e2 : (xs.map (·.2)).getD k nl = (xs[k]).2 := by simp [List.getD,hk']
   rw [e1,e2]
 have := key xs.length (Nat.le_refl _)
 rw [List.take_length] at this
 exact this
end
end DE
end Go.Proofs.YtodhjjeagmjhdaaGreatDoor
namespace Go.Proofs.YtodhjjeagmjhdaaGreatDoor
open Go.ChangeShapes Go.WideShapes Go.ChangeAt Go.RowKit
namespace DE
open Go.Proofs.YtodhjjeagmjhdaaGreatDoor.ST
section
variable {H : Type} {enc : TypeId × Value -> H} {W : World}
set_option maxRecDepth 100000 in
set_option maxHeartbeats 2000000 in
theorem event_ofW (cs : List Value) (n : Nat) (d : DataW H) (p : List MemPlace) (h : DataW.trod enc Tryz.prog W 0 (fun _=>true) true n 30 cs = some (d,p)) (hz : ∀ n,n ∈ DataW.weights Tryz.prog 30 d -> n <= reachBytes) :
  ∃ e vo,cs = (evc e vo).toList /\ IL W vo e.ord /\ e.ord.length <= 140737488355328 /\ (Lit.int .i32 e.was).wf = true := by
 obtain ⟨xs,k,-,hx,hl,hlen,hf⟩ := DataW.trod_struct Tryz.underlying30 h
 have hl : cs.length = 12 := by rw [hl]; kernel_rfl
 have hlen : xs.length = 12 := hlen
 have hd : d = .agg (xs.map (·.1)) := congrArg Prod.fst hx
 match cs,hl with
 | [a0,a1,a2,a3,a4,a5,a6,a7,a8,a9,a10,a11],_ =>
  have f0 : DataW.trod enc Tryz.prog W 0 (fun _=>true) true k 25 (([a0,a1,a2,a3,a4,a5,a6,a7,a8,a9,a10,a11].drop 0).take (Tryz.prog.cellsOf 25)) = xs[0]? := hf 0 _ rfl
  rw [c25,List.getElem?_eq_getElem (by omega)] at f0
  obtain ⟨z0,e0,-,-⟩ := DataW.trod_int Tryz.underlying25 f0
  have f1 : DataW.trod enc Tryz.prog W 0 (fun _=>true) true k 25 (([a0,a1,a2,a3,a4,a5,a6,a7,a8,a9,a10,a11].drop 1).take (Tryz.prog.cellsOf 25)) = xs[1]? := hf 1 _ rfl
  rw [c25,List.getElem?_eq_getElem (by omega)] at f1
  obtain ⟨z1,e1,-,-⟩ := DataW.trod_int Tryz.underlying25 f1
  have f2 : DataW.trod enc Tryz.prog W 0 (fun _=>true) true k 3 (([a0,a1,a2,a3,a4,a5,a6,a7,a8,a9,a10,a11].drop 2).take (Tryz.prog.cellsOf 3)) = xs[2]? := hf 2 _ rfl
  rw [c3,List.getElem?_eq_getElem (by omega)] at f2
  obtain ⟨z2,e2,-,-⟩ := DataW.trod_int Tryz.underlying3 f2
  have f3 : DataW.trod enc Tryz.prog W 0 (fun _=>true) true k 3 (([a0,a1,a2,a3,a4,a5,a6,a7,a8,a9,a10,a11].drop 3).take (Tryz.prog.cellsOf 3)) = xs[3]? := hf 3 _ rfl
  rw [c3,List.getElem?_eq_getElem (by omega)] at f3
  obtain ⟨z3,e3,-,-⟩ := DataW.trod_int Tryz.underlying3 f3
  have f4 : DataW.trod enc Tryz.prog W 0 (fun _=>true) true k 3 (([a0,a1,a2,a3,a4,a5,a6,a7,a8,a9,a10,a11].drop 4).take (Tryz.prog.cellsOf 3)) = xs[4]? := hf 4 _ rfl
  rw [c3,List.getElem?_eq_getElem (by omega)] at f4
  obtain ⟨z4,e4,-,-⟩ := DataW.trod_int Tryz.underlying3 f4
  have f5 : DataW.trod enc Tryz.prog W 0 (fun _=>true) true k 3 (([a0,a1,a2,a3,a4,a5,a6,a7,a8,a9,a10,a11].drop 5).take (Tryz.prog.cellsOf 3)) = xs[5]? := hf 5 _ rfl
  rw [c3,List.getElem?_eq_getElem (by omega)] at f5
  obtain ⟨z5,e5,-,-⟩ := DataW.trod_int Tryz.underlying3 f5
  have f6 : DataW.trod enc Tryz.prog W 0 (fun _=>true) true k 3 (([a0,a1,a2,a3,a4,a5,a6,a7,a8,a9,a10,a11].drop 6).take (Tryz.prog.cellsOf 3)) = xs[6]? := hf 6 _ rfl
  rw [c3,List.getElem?_eq_getElem (by omega)] at f6
  obtain ⟨z6,e6,-,-⟩ := DataW.trod_int Tryz.underlying3 f6
  have f7 : DataW.trod enc Tryz.prog W 0 (fun _=>true) true k 3 (([a0,a1,a2,a3,a4,a5,a6,a7,a8,a9,a10,a11].drop 7).take (Tryz.prog.cellsOf 3)) = xs[7]? := hf 7 _ rfl
  rw [c3,List.getElem?_eq_getElem (by omega)] at f7
  obtain ⟨z7,e7,-,-⟩ := DataW.trod_int Tryz.underlying3 f7
  have f8 : DataW.trod enc Tryz.prog W 0 (fun _=>true) true k 3 (([a0,a1,a2,a3,a4,a5,a6,a7,a8,a9,a10,a11].drop 8).take (Tryz.prog.cellsOf 3)) = xs[8]? := hf 8 _ rfl
  rw [c3,List.getElem?_eq_getElem (by omega)] at f8
  obtain ⟨z8,e8,-,-⟩ := DataW.trod_int Tryz.underlying3 f8
  have f9 : DataW.trod enc Tryz.prog W 0 (fun _=>true) true k 21 (([a0,a1,a2,a3,a4,a5,a6,a7,a8,a9,a10,a11].drop 9).take (Tryz.prog.cellsOf 21)) = xs[9]? := hf 9 _ rfl
  rw [c21,List.getElem?_eq_getElem (by omega)] at f9
  obtain ⟨z9,e9,-,wf9⟩ := DataW.trod_int Tryz.underlying21 f9
  have f10 : DataW.trod enc Tryz.prog W 0 (fun _=>true) true k 21 (([a0,a1,a2,a3,a4,a5,a6,a7,a8,a9,a10,a11].drop 10).take (Tryz.prog.cellsOf 21)) = xs[10]? := hf 10 _ rfl
  rw [c21,List.getElem?_eq_getElem (by omega)] at f10
  obtain ⟨z10,e10,-,-⟩ := DataW.trod_int Tryz.underlying21 f10
  simp at e0 e1 e2 e3 e4 e5 e6 e7 e8 e9 e10
  have f11 : DataW.trod enc Tryz.prog W 0 (fun _=>true) true k 28 (([a0,a1,a2,a3,a4,a5,a6,a7,a8,a9,a10,a11].drop 11).take (Tryz.prog.cellsOf 28)) = xs[11]? := hf 11 _ rfl
  rw [c28,List.getElem?_eq_getElem (by omega)] at f11
  obtain ⟨l,r1,r2⟩ := Go.Proofs.YtodhjjeagmjhdaaGreatDoor.ST.open_row (v := a11) (d := (xs[11]'(by omega)).1) (p := (xs[11]'(by omega)).2) f11 (fun n hn=>hz n (by
   rw [hd]; simp only [DataW.weights,Tryz.underlying30]; exact DataW.weights_mem_each (j := 11) (t := 28) rfl (by simp [List.getElem?_eq_getElem (show 11 < xs.length by omega)]) n hn))
  exact ⟨⟨z0,z1,z2,z3,z4,z5,z6,z7,z8,z9,z10,l⟩,a11,by rw [e0,e1,e2,e3,e4,e5,e6,e7,e8,e9,e10]; rfl,r1,r2,wf9⟩
end
theorem bounds_i32 {n : Int} (h : (Lit.int .i32 n).wf = true) : -2147483648 <= n /\ n <= 2147483647 := by
 simp [Lit.wf,IntKind.min,IntKind.max,IntKind.signed,IntKind.bits] at h
 omega
end DE
end Go.Proofs.YtodhjjeagmjhdaaGreatDoor
namespace Go.Proofs.YtodhjjeagmjhdaaGreatDoor
open Go.ChangeShapes Go.WideShapes Go.ChangeAt Go.RowKit
namespace DE
open Go.Proofs.YtodhjjeagmjhdaaGreatDoor.ST
section
variable {H : Type} {enc : TypeId × Value -> H} {W : World}
set_option maxRecDepth 100000 in
theorem open_eventsW {base : Nat} {v : Value} {d : DataW H} {p : List MemPlace} (hv : Value.okWide Tryz.prog W .any base 32 v) (h : DataW.Trod enc Tryz.prog W 0 (fun _=>true) true 32 v d p) (hz : ∀ n,n ∈ DataW.weights Tryz.prog 32 d -> n <= reachBytes) :
  ∃ l : List Ev,EVS W v l /\ l.length <= 140737488355328 /\ ∀ i,i < l.length -> (l.getD i dE).ord.length <= 140737488355328 /\ (l.getD i dE).was <= 2147483647 := by
 obtain ⟨fuel,hf⟩ := h
 have hc : v.cells.toList = [v] := by
  rcases okWide_slice Tryz.underlying32 hv with ⟨a,n,k,rfl⟩
  rfl
 rw [hc] at hf
 obtain ⟨xs,h1,h2,h3⟩ := open_flatP 32 30 12 96 fuel Tryz.underlying32 (by kernel_rfl) (by decide) (by kernel_rfl) (by decide) evF (fun x=>IL W x.2 x.1.ord /\ x.1.ord.length <= 140737488355328 /\ x.1.was <= 2147483647) (dE,nl) (fun _=>rfl) (fun cs n d p h hz=>by
  obtain ⟨e,vo,k1,k2,k3,k4⟩ := event_ofW cs n d p h hz
  exact ⟨(e,vo),k1,k2,k3,(bounds_i32 k4).2⟩) hf hz
 rw [evF_evsC] at h1
 have hg : ∀ i,i < xs.length -> IL W ((xs.map (·.2)).getD i nl) ((xs.map (·.1)).getD i dE).ord /\ ((xs.map (·.1)).getD i dE).ord.length <= 140737488355328 /\ ((xs.map (·.1)).getD i dE).was <= 2147483647 := fun i hi=>by
  have e1 : (xs.map (·.1)).getD i dE = (xs[i]).1 := by simp [List.getD,hi]
  have e2 : (xs.map (·.2)).getD i nl = (xs[i]).2 := by simp [List.getD,hi]
  rw [e1,e2]
  exact h2 _ (List.getElem_mem hi)
 exact ⟨xs.map (·.1),⟨xs.map (·.2),by rw [List.length_map]; exact h1,fun i hi=>(hg i (by simpa using hi)).1⟩,by simpa using h3,fun i hi=>(hg i (by simpa using hi)).2⟩
end
end DE
end Go.Proofs.YtodhjjeagmjhdaaGreatDoor
namespace Go.Proofs.YtodhjjeagmjhdaaGreatDoor.deedReplays
open Go.ChangeShapes Go.WideShapes Go.ChangeAt Go.RowKit
open Go.ChangeMaps (open_string shut_string)
theorem own : ownKnob Tryz.prog.godebug = none := by kernel_rfl
theorem laidOut : laidOutB Tryz.prog = true := by kernel_rfl
theorem door_met (os : Os) (args : Array Value) : laidMetH Tryz.prog Rows.deedReplaysRow.laid ((World.doorLaid Tryz.prog 4000 os).forCall (fun _ _ => 0) ⟨#[], args, []⟩).memory :=
 laidMetH_of_parts3 (fuel := 8) (laidMet_of_run' 8 (by kernel_rfl) (by kernel_rfl)) (by kernel_rfl) (by kernel_rfl)
theorem walk {W : World} (v : Value) (s : Stt) (hv : ST.StL W v s) (hf : ST.Far s) (vl : Value) (l : List Ev) (hl : DE.EVS W vl l) (hn : l.length <= 140737488355328 /\ ∀ i, i < l.length -> (l.getD i DE.dE).ord.length <= 140737488355328 /\ (l.getD i DE.dE).was <= 2147483647) (w : World) (e0 : w = W) :
  Calls Tryz.prog 5 #[v, vl] w fun x w' => x = .returned (.bool true) /\ Below w.heap.size w w' := by
 subst e0
 exact DE.replaysW v vl s l w hv hf hl ⟨hn.1, fun i hi => (hn.2 i hi).1⟩ (fun i hi => (hn.2 i hi).2)
set_option maxRecDepth 100000 in
theorem lifted (os : Os) (started : os.Started) (H : Type) (enc : TypeId × Value -> H) :
  ReturnsInHanded {} Tryz.checked os 5 .any (fun w args => (Rows.deedReplaysSpec.pre enc Tryz.prog Tryz.f5 [] false w args /\ laidMetH Tryz.prog Rows.deedReplaysRow.laid w) /\ sizedMet enc Tryz.prog Tryz.f5 (OpenSpec.ofChange Rows.deedReplaysSpec) false w args)
   (Rows.deedReplaysSpec.post enc Tryz.prog Tryz.f5 false true false false) := by
 refine returnsInHanded_of_change_and (C := Tryz.checked) (X := fun w _ => laidMetH Tryz.prog Rows.deedReplaysRow.laid w) (fun _ _ _ hh h => h.of_heap hh) own started (by kernel_rfl) Tryz.func5
  (ChangeSpec.witness_shaped (enc := enc) (C := Tryz.checked) (os := os) (X := fun w _ => laidMetH Tryz.prog Rows.deedReplaysRow.laid w) false (World.doorLaid Tryz.prog 4000 os) #[.agg #[.slice none 0 0, .slice none 0 0, .slice none 0 0, .int .i32 0, .int .i64 0, .int .i8 0, .int .i64 0], .slice none 0 0] 8 rfl (World.shaped_of_RefB (by kernel_rfl) (by kernel_rfl)) (by kernel_rfl) (by kernel_rfl) (by kernel_rfl) (door_met os _)) ?_
 intro W base args ds gs before hval0 hW hq1 hsz hL hq4
 have hval : ∀ (j : Nat) t v, Tryz.f5.params[j]? = some t -> args[j]? = some v -> Value.okWide Tryz.prog W .any base t v := hval0
 have hW' := hW
 obtain ⟨p, q, hA0, hV, rfl, hfz, hnd⟩ := hW
 have hA : DataW.TrodAll enc Tryz.prog W 0 (fun _ => true) true Tryz.f5.params.toList args.toList ds p := hA0
 rw [Tryz.params5] at hA hval
 obtain ⟨v0, vs0, d0, ds0, p0, q0, hargs, rfl, rfl, h0, r0⟩ := trodAll_cons hA
 obtain ⟨v1, vs1, d1, ds1, p1, q1, rfl, rfl, rfl, h1, r1⟩ := trodAll_cons r0
 obtain ⟨rfl, rfl, rfl⟩ := trodAll_nil r1
 obtain rfl : args = #[v0, v1] := by cases args; simp_all
 obtain ⟨rfl, rfl⟩ := trodVars_none hV
 have k0 := h0
 have lt0 : ∀ x ∈ p0, x.block < W.heap.size := by obtain ⟨m, hm⟩ := k0; exact DataW.trod_lt m _ _ _ hm
 obtain ⟨z0, w0, y0⟩ := ST.open_state (hval 0 27 v0 rfl rfl) h0 (fun n hn => by
  have := List.all_eq_true.1 hsz n (DataW.weights_mem_each (j := 0) (t := 27) rfl rfl n hn)
  simpa using this)
 have k1 := h1
 have lt1 : ∀ x ∈ p1, x.block < W.heap.size := by obtain ⟨m, hm⟩ := k1; exact DataW.trod_lt m _ _ _ hm
 obtain ⟨z1, w1, y1⟩ := DE.open_eventsW (hval 1 32 v1 rfl rfl) h1 (fun n hn => by
  have := List.all_eq_true.1 hsz n (DataW.weights_mem_each (j := 1) (t := 32) rfl rfl n hn)
  simpa using this)
 clear hA0 hval0
 refine (walk v0 z0 w0 y0 v1 z1 w1 y1 W rfl).mono fun e W' ⟨he, bel⟩ => ?_
 subst he
 exact ⟨_, rfl, _, _, _, [], _, [], hW', trodAll_mk1 (shut_bool Tryz.underlying4 _), (trodAll_cons_mk (Below.trod laidOut (by kernel_rfl) (of_decide_eq_true (by kernel_rfl)) k0 bel lt0) (trodAll_cons_mk (Below.trod laidOut (by kernel_rfl) (of_decide_eq_true (by kernel_rfl)) k1 bel lt1) trodAll_mk0)), rfl, bel.frame _, fun h => by cases h⟩
theorem over : Rows.deedReplaysRow.holds Tryz.pinned (OpenSpec.ofChange Rows.deedReplaysSpec) :=
 OpenClaim.holds_of_wide 5 Tryz.f5 rfl rfl rfl rfl rfl rfl rfl ⟨rfl, rfl, rfl, rfl, rfl⟩ rfl rfl rfl rfl rfl (by kernel_rfl) Tryz.func5 (by kernel_rfl)
  (of_decide_eq_true (by kernel_rfl)) (by unfold Func.isWrapper; first | (rw [if_pos (by decide +kernel)]; kernel_rfl) | (rw [if_neg (by decide +kernel)]; exact ⟨rfl, rfl⟩))
  (fun os started H enc _ => lifted os started H enc)
theorem card : Rows.DeedReplaysCardSaid :=
 Claim7.holds_tied_plain_at .later [] [.data, .data, .data] true (true, "59f756f021c4c90a54f3b850f0f08ce44ab33c50a3308a56a7aff00362def548") false
  over (fun _ h => by cases h) (by kernel_rfl) (fun _ h => by cases h) deedReplays_row_tie rfl ⟨rfl, rfl⟩ (by kernel_rfl) rfl
  (fun f fn hf hfn => by
   obtain rfl : f = 5 := Option.some.inj ((show Tryz.prog.funcNamed "tableau/tableaulaw06.DeedReplays" = some 5 by kernel_rfl).symm.trans hf) |>.symm
   obtain rfl : fn = Tryz.f5 := (Option.some.inj (Tryz.func5.symm.trans hfn)).symm
   exact ⟨by kernel_rfl, fun j t ht => by
    rw [Tryz.params5] at ht
    have hj : ([27, 32].all fun t => !(Tryz.prog.wantsStandIn t)) = true := by kernel_rfl
    have hm := List.mem_of_getElem? (l := [27, 32]) (i := j) (by simpa using ht)
    have this := List.all_eq_true.1 hj t hm
    have this : Tryz.prog.wantsStandIn t = false := by simpa using this
    exact this⟩)
  (by kernel_rfl)
end Go.Proofs.YtodhjjeagmjhdaaGreatDoor.deedReplays
namespace Go.Proofs.YtodhjjeagmjhdaaGreatDoor
theorem deedReplays_holds : Rows.DeedReplaysCardSaid := deedReplays.card
#print axioms deedReplays_holds
end Go.Proofs.YtodhjjeagmjhdaaGreatDoor
