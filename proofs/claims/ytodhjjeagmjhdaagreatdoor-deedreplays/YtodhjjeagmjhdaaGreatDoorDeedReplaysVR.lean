/- The law DeedReplays returns true for every state and every list of events: what Replay and Back answer, with the place, is what the document answers; what was handed in stays, and is not kept; the answers are lists of their own; no conditions. -/
import Derived.Test.YtodhjjeagmjhdaaGreatDoorRows
import Derived.Test.YtodhjjeagmjhdaaGreatDoorCards
import Derived.Test.YtodhjjeagmjhdaaGreatDoorTie
import Derived.LaidMore
import Derived.ShutString
import Derived.SevenTiedAt
import Derived.Stop.Joined
import Derived.Test.YtodhjjeagmjhdaaGreatDoorOpenETvOpv6R
namespace Go.Proofs.YtodhjjeagmjhdaaGreatDoor.deedReplays
open Go.ChangeShapes Go.WideShapes Go.ChangeAt Go.RowKit
open Go.ChangeMaps (open_string shut_string)
theorem own : ownKnob Tryz.prog.godebug = none := by kernel_rfl
theorem laidOut : laidOutB Tryz.prog = true := by kernel_rfl
theorem door_met (os : Os) (args : Array Value) : laidMetH Tryz.prog Rows.deedReplaysRow.laid ((World.doorLaid Tryz.prog 4000 os).forCall (fun _ _ => 0) ⟨#[], args, []⟩).memory :=
 laidMetH_of_parts3 (fuel := 8) (laidMet_of_run' 8 (by kernel_rfl) (by kernel_rfl)) (by kernel_rfl) (by kernel_rfl)
theorem walk {W : World} (v : Value) (s : Stt) (hv : ST.StL W v s) (hf : ST.Far s) (vl : Value) (l : List Ev) (hl : DE.EVS W vl l) (hn : l.length <= 140737488355328 /\ ∀ i, i < l.length -> (l.getD i DE.dE).ord.length <= 140737488355328 /\ (l.getD i DE.dE).was <= 2147483647) (w : World) (e0 : w = W) :
  Calls Tryz.prog 5 #[v, vl] w fun x w' => x = .returned (.bool true) /\ Below w.heap.size w w' := by
 subst e0
 exact DE.replaysW v vl s l w hv hf hl ⟨hn.1, fun i hi => (hn.2 i hi).1⟩ (fun i hi => (hn.2 i hi).2)
set_option maxRecDepth 100000 in
theorem lifted (os : Os) (started : os.Started) (H : Type) (enc : TypeId × Value -> H) :
  ReturnsInHanded {} Tryz.checked os 5 .any (fun w args => (Rows.deedReplaysSpec.pre enc Tryz.prog Tryz.f5 [] false w args /\ laidMetH Tryz.prog Rows.deedReplaysRow.laid w) /\ sizedMet enc Tryz.prog Tryz.f5 (OpenSpec.ofChange Rows.deedReplaysSpec) false w args)
   (Rows.deedReplaysSpec.post enc Tryz.prog Tryz.f5 false true false false) := by
 refine returnsInHanded_of_change_and (C := Tryz.checked) (X := fun w _ => laidMetH Tryz.prog Rows.deedReplaysRow.laid w) (fun _ _ _ hh h => h.of_heap hh) own started (by kernel_rfl) Tryz.func5
  (ChangeSpec.witness_shaped (enc := enc) (C := Tryz.checked) (os := os) (X := fun w _ => laidMetH Tryz.prog Rows.deedReplaysRow.laid w) false (World.doorLaid Tryz.prog 4000 os) #[.agg #[.slice none 0 0, .slice none 0 0, .slice none 0 0, .int .i32 0, .int .i64 0, .int .i8 0, .int .i64 0], .slice none 0 0] 8 rfl (World.shaped_of_RefB (by kernel_rfl) (by kernel_rfl)) (by kernel_rfl) (by kernel_rfl) (by kernel_rfl) (door_met os _)) ?_
 intro W base args ds gs before hval0 hW hq1 hsz hL hq4
 have hval : ∀ (j : Nat) t v, Tryz.f5.params[j]? = some t -> args[j]? = some v -> Value.okWide Tryz.prog W .any base t v := hval0
 have hW' := hW
 obtain ⟨p, q, hA0, hV, rfl, hfz, hnd⟩ := hW
 have hA : DataW.TrodAll enc Tryz.prog W 0 (fun _ => true) true Tryz.f5.params.toList args.toList ds p := hA0
 rw [Tryz.params5] at hA hval
 obtain ⟨v0, vs0, d0, ds0, p0, q0, hargs, rfl, rfl, h0, r0⟩ := trodAll_cons hA
 obtain ⟨v1, vs1, d1, ds1, p1, q1, rfl, rfl, rfl, h1, r1⟩ := trodAll_cons r0
 obtain ⟨rfl, rfl, rfl⟩ := trodAll_nil r1
 obtain rfl : args = #[v0, v1] := by cases args; simp_all
 obtain ⟨rfl, rfl⟩ := trodVars_none hV
 have k0 := h0
 have lt0 : ∀ x ∈ p0, x.block < W.heap.size := by obtain ⟨m, hm⟩ := k0; exact DataW.trod_lt m _ _ _ hm
 obtain ⟨z0, w0, y0⟩ := ST.open_state (hval 0 27 v0 rfl rfl) h0 (fun n hn => by
  have := List.all_eq_true.1 hsz n (DataW.weights_mem_each (j := 0) (t := 27) rfl rfl n hn)
  simpa using this)
 have k1 := h1
 have lt1 : ∀ x ∈ p1, x.block < W.heap.size := by obtain ⟨m, hm⟩ := k1; exact DataW.trod_lt m _ _ _ hm
 obtain ⟨z1, w1, y1⟩ := DE.open_eventsW (hval 1 32 v1 rfl rfl) h1 (fun n hn => by
  have := List.all_eq_true.1 hsz n (DataW.weights_mem_each (j := 1) (t := 32) rfl rfl n hn)
  simpa using this)
 clear hA0 hval0
 refine (walk v0 z0 w0 y0 v1 z1 w1 y1 W rfl).mono fun e W' ⟨he, bel⟩ => ?_
 subst he
 exact ⟨_, rfl, _, _, _, [], _, [], hW', trodAll_mk1 (shut_bool Tryz.underlying4 _), (trodAll_cons_mk (Below.trod laidOut (by kernel_rfl) (of_decide_eq_true (by kernel_rfl)) k0 bel lt0) (trodAll_cons_mk (Below.trod laidOut (by kernel_rfl) (of_decide_eq_true (by kernel_rfl)) k1 bel lt1) trodAll_mk0)), rfl, bel.frame _, fun h => by cases h⟩
theorem over : Rows.deedReplaysRow.holds Tryz.pinned (OpenSpec.ofChange Rows.deedReplaysSpec) :=
 OpenClaim.holds_of_wide 5 Tryz.f5 rfl rfl rfl rfl rfl rfl rfl ⟨rfl, rfl, rfl, rfl, rfl⟩ rfl rfl rfl rfl rfl (by kernel_rfl) Tryz.func5 (by kernel_rfl)
  (of_decide_eq_true (by kernel_rfl)) (by unfold Func.isWrapper; first | (rw [if_pos (by decide +kernel)]; kernel_rfl) | (rw [if_neg (by decide +kernel)]; exact ⟨rfl, rfl⟩))
  (fun os started H enc _ => lifted os started H enc)
theorem card : Rows.DeedReplaysCardSaid :=
 Claim7.holds_tied_plain_at .later [] [.data, .data, .data] true (true, "59f756f021c4c90a54f3b850f0f08ce44ab33c50a3308a56a7aff00362def548") false
  over (fun _ h => by cases h) (by kernel_rfl) (fun _ h => by cases h) deedReplays_row_tie rfl ⟨rfl, rfl⟩ (by kernel_rfl) rfl
  (fun f fn hf hfn => by
   obtain rfl : f = 5 := Option.some.inj ((show Tryz.prog.funcNamed "tableau/tableaulaw06.DeedReplays" = some 5 by kernel_rfl).symm.trans hf) |>.symm
   obtain rfl : fn = Tryz.f5 := (Option.some.inj (Tryz.func5.symm.trans hfn)).symm
   exact ⟨by kernel_rfl, fun j t ht => by
    rw [Tryz.params5] at ht
    have hj : ([27, 32].all fun t => !(Tryz.prog.wantsStandIn t)) = true := by kernel_rfl
    have hm := List.mem_of_getElem? (l := [27, 32]) (i := j) (by simpa using ht)
    have this := List.all_eq_true.1 hj t hm
    have this : Tryz.prog.wantsStandIn t = false := by simpa using this
    exact this⟩)
  (by kernel_rfl)
end Go.Proofs.YtodhjjeagmjhdaaGreatDoor.deedReplays
namespace Go.Proofs.YtodhjjeagmjhdaaGreatDoor
theorem deedReplays_holds : Rows.DeedReplaysCardSaid := deedReplays.card
#print axioms deedReplays_holds
end Go.Proofs.YtodhjjeagmjhdaaGreatDoor
