/- The law DeedMakes returns true for every state and every deed that is asked for: what it answers, and whether it is refused, is what the document answers; what was handed in stays, and is not kept; the answers are lists of their own; no conditions. -/
import Derived.Test.YtodhjjeagmjhdaaGreatDoorRows
import Derived.Test.YtodhjjeagmjhdaaGreatDoorCards
import Derived.Test.YtodhjjeagmjhdaaGreatDoorTie
import Derived.WalkKit
import Derived.ProofKit
import Derived.LaidMore
import Derived.OpenShut
import Derived.ShutString
import Derived.ChangeOld
import Derived.Below
import Derived.SevenTiedAt
import Derived.Stop.Joined
import Derived.Test.YtodhjjeagmjhdaaGreatDoorDmk6TvOpenDoM
namespace Go.Proofs.YtodhjjeagmjhdaaGreatDoor.deedMakes
open Go.ChangeShapes Go.WideShapes Go.ChangeAt Go.RowKit
open Go.ChangeMaps (open_string shut_string)
theorem own : ownKnob Tryz.prog.godebug = none := by kernel_rfl
theorem laidOut : laidOutB Tryz.prog = true := by kernel_rfl
theorem door_met (os : Os) (args : Array Value) : laidMetH Tryz.prog Rows.deedMakesRow.laid ((World.doorLaid Tryz.prog 4000 os).forCall (fun _ _ => 0) ⟨#[], args, []⟩).memory :=
 laidMetH_of_parts3 (fuel := 8) (laidMet_of_run' 8 (by kernel_rfl) (by kernel_rfl)) (by kernel_rfl) (by kernel_rfl)
theorem walk {W : World} (v : Value) (s : Stt) (hv : ST.StL W v s) (hf : ST.Far s) (vo : Value) (d : DoT) (ho : ST.IL W vo d.ord) (hn : d.ord.length <= 140737488355328) (hb : (Lit.int .i64 d.by_).wf = true) (w : World) (e0 : w = W) :
  Calls Tryz.prog 6 #[v, .agg (DE.doc d vo)] w fun x w' => x = .returned (.bool true) /\ Below w.heap.size w w' := by
 subst e0
 obtain ⟨h1, h2⟩ := bounds_i64 hb
 exact DE.makesW v vo s d w hv hf ho hn h1 h2
set_option maxRecDepth 100000 in
theorem lifted (os : Os) (started : os.Started) (H : Type) (enc : TypeId × Value -> H) :
  ReturnsInHanded {} Tryz.checked os 6 .any (fun w args => (Rows.deedMakesSpec.pre enc Tryz.prog Tryz.f6 [] false w args /\ laidMetH Tryz.prog Rows.deedMakesRow.laid w) /\ sizedMet enc Tryz.prog Tryz.f6 (OpenSpec.ofChange Rows.deedMakesSpec) false w args)
   (Rows.deedMakesSpec.post enc Tryz.prog Tryz.f6 false true false false) := by
 refine returnsInHanded_of_change_and (C := Tryz.checked) (X := fun w _ => laidMetH Tryz.prog Rows.deedMakesRow.laid w) (fun _ _ _ hh h => h.of_heap hh) own started (by kernel_rfl) Tryz.func6
  (ChangeSpec.witness_shaped (enc := enc) (C := Tryz.checked) (os := os) (X := fun w _ => laidMetH Tryz.prog Rows.deedMakesRow.laid w) false (World.doorLaid Tryz.prog 4000 os) #[.agg #[.slice none 0 0, .slice none 0 0, .slice none 0 0, .int .i32 0, .int .i64 0, .int .i8 0, .int .i64 0], .agg #[.int .i64 0, .int .i64 0, .int .i64 0, .bool false, .int .i8 0, .int .i64 0, .slice none 0 0]] 8 rfl (World.shaped_of_RefB (by kernel_rfl) (by kernel_rfl)) (by kernel_rfl) (by kernel_rfl) (by kernel_rfl) (door_met os _)) ?_
 intro W base args ds gs before hval0 hW hq1 hsz hL hq4
 have hval : ∀ (j : Nat) t v, Tryz.f6.params[j]? = some t -> args[j]? = some v -> Value.okWide Tryz.prog W .any base t v := hval0
 have hW' := hW
 obtain ⟨p, q, hA0, hV, rfl, hfz, hnd⟩ := hW
 have hA : DataW.TrodAll enc Tryz.prog W 0 (fun _ => true) true Tryz.f6.params.toList args.toList ds p := hA0
 rw [Tryz.params6] at hA hval
 obtain ⟨v0, vs0, d0, ds0, p0, q0, hargs, rfl, rfl, h0, r0⟩ := trodAll_cons hA
 obtain ⟨v1, vs1, d1, ds1, p1, q1, rfl, rfl, rfl, h1, r1⟩ := trodAll_cons r0
 obtain ⟨rfl, rfl, rfl⟩ := trodAll_nil r1
 obtain rfl : args = #[v0, v1] := by cases args; simp_all
 obtain ⟨rfl, rfl⟩ := trodVars_none hV
 have k0 := h0
 have lt0 : ∀ x ∈ p0, x.block < W.heap.size := by obtain ⟨m, hm⟩ := k0; exact DataW.trod_lt m _ _ _ hm
 obtain ⟨z0, w0, y0⟩ := ST.open_state (hval 0 27 v0 rfl rfl) h0 (fun n hn => by
  have := List.all_eq_true.1 hsz n (DataW.weights_mem_each (j := 0) (t := 27) rfl rfl n hn)
  simpa using this)
 have k1 := h1
 have lt1 : ∀ x ∈ p1, x.block < W.heap.size := by obtain ⟨m, hm⟩ := k1; exact DataW.trod_lt m _ _ _ hm
 obtain ⟨z1, vo1, rfl, w1, y1, x1⟩ := DE.open_do (hval 1 73 v1 rfl rfl) h1 (fun n hn => by
  have := List.all_eq_true.1 hsz n (DataW.weights_mem_each (j := 1) (t := 73) rfl rfl n hn)
  simpa using this)
 clear hA0 hval0
 refine (walk v0 z0 w0 y0 vo1 z1 w1 y1 x1 W rfl).mono fun e W' ⟨he, bel⟩ => ?_
 subst he
 exact ⟨_, rfl, _, _, _, [], _, [], hW', trodAll_mk1 (shut_bool Tryz.underlying4 _), (trodAll_cons_mk (Below.trod laidOut (by kernel_rfl) (of_decide_eq_true (by kernel_rfl)) k0 bel lt0) (trodAll_cons_mk (Below.trod laidOut (by kernel_rfl) (of_decide_eq_true (by kernel_rfl)) k1 bel lt1) trodAll_mk0)), rfl, bel.frame _, fun h => by cases h⟩
theorem over : Rows.deedMakesRow.holds Tryz.pinned (OpenSpec.ofChange Rows.deedMakesSpec) :=
 OpenClaim.holds_of_wide 6 Tryz.f6 rfl rfl rfl rfl rfl rfl rfl ⟨rfl, rfl, rfl, rfl, rfl⟩ rfl rfl rfl rfl rfl (by kernel_rfl) Tryz.func6 (by kernel_rfl)
  (of_decide_eq_true (by kernel_rfl)) (by unfold Func.isWrapper; first | (rw [if_pos (by decide +kernel)]; kernel_rfl) | (rw [if_neg (by decide +kernel)]; exact ⟨rfl, rfl⟩))
  (fun os started H enc _ => lifted os started H enc)
theorem card : Rows.DeedMakesCardSaid :=
 Claim7.holds_tied_plain_at .later [] [.data, .data, .data] true (true, "59f756f021c4c90a54f3b850f0f08ce44ab33c50a3308a56a7aff00362def548") false
  over (fun _ h => by cases h) (by kernel_rfl) (fun _ h => by cases h) deedMakes_row_tie rfl ⟨rfl, rfl⟩ (by kernel_rfl) rfl
  (fun f fn hf hfn => by
   obtain rfl : f = 6 := Option.some.inj ((show Tryz.prog.funcNamed "tableau/tableaulaw06.DeedMakes" = some 6 by kernel_rfl).symm.trans hf) |>.symm
   obtain rfl : fn = Tryz.f6 := (Option.some.inj (Tryz.func6.symm.trans hfn)).symm
   exact ⟨by kernel_rfl, fun j t ht => by
    rw [Tryz.params6] at ht
    have hj : ([27, 73].all fun t => !(Tryz.prog.wantsStandIn t)) = true := by kernel_rfl
    have hm := List.mem_of_getElem? (l := [27, 73]) (i := j) (by simpa using ht)
    have this := List.all_eq_true.1 hj t hm
    have this : Tryz.prog.wantsStandIn t = false := by simpa using this
    exact this⟩)
  (by kernel_rfl)
end Go.Proofs.YtodhjjeagmjhdaaGreatDoor.deedMakes
namespace Go.Proofs.YtodhjjeagmjhdaaGreatDoor
theorem deedMakes_holds : Rows.DeedMakesCardSaid := deedMakes.card
#print axioms deedMakes_holds
end Go.Proofs.YtodhjjeagmjhdaaGreatDoor
