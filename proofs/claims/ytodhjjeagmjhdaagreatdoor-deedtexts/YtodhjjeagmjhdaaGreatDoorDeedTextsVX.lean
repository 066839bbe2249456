/- The law DeedTexts returns true for every event: the program's text of it is the document's; what was handed in stays, and is not kept; no conditions. -/
import Derived.Test.YtodhjjeagmjhdaaGreatDoorRows
import Derived.Test.YtodhjjeagmjhdaaGreatDoorCards
import Derived.Test.YtodhjjeagmjhdaaGreatDoorTie
import Derived.LaidMore
import Derived.ShutString
import Derived.SevenTiedAt
import Derived.Stop.Joined
import Derived.Stop.LaidErr
import Derived.Lib.LaidTab
import Derived.Test.YtodhjjeagmjhdaaGreatDoorOpenETvOpx6X
namespace Go.Proofs.YtodhjjeagmjhdaaGreatDoor.deedTexts
open Go.ChangeShapes Go.WideShapes Go.ChangeAt Go.RowKit
open Go.ChangeMaps (open_string shut_string)
theorem own : ownKnob Tryz.prog.godebug = none := by kernel_rfl
theorem laidOut : laidOutB Tryz.prog = true := by kernel_rfl
theorem door_met (os : Os) (args : Array Value) : laidMetH Tryz.prog Rows.deedTextsRow.laid ((World.doorLaid Tryz.prog 4000 os).forCall (fun _ _ => 0) ⟨#[], args, []⟩).memory :=
 laidMetH_of_parts3 (fuel := 8) (laidMet_of_run' 8 (by kernel_rfl) (by kernel_rfl)) (by kernel_rfl) (by kernel_rfl)

-- laid
theorem tab_of {W : World} (h : laidMetH Tryz.prog Rows.deedTextsRow.laid W) : DE.TabP W := by
 unfold DE.TabP
 exact Lib.tabIs_of_head (g := 0) (t := 229) (e := 133) (n := 20) DE.gPow (by kernel_rfl) (by kernel_rfl) (by kernel_rfl) (by kernel_rfl) (by kernel_rfl) (rest := []) (laidMet.tail (laidMet.tail (show laidMet Tryz.prog Rows.deedTextsRow.laid W from h)))
theorem walk {W : World} (hT : DE.TabP W) (vo : Value) (e : Ev) (ho : ST.IL W vo e.ord) (hn : e.ord.length <= 140737488355328) (hb : DE.EvW e) (w : World) (e0 : w = W) :
  Calls Tryz.prog 7 #[DE.evv e vo] w fun x w' => x = .returned (.bool true) /\ Below w.heap.size w w' := by
 subst e0
 exact DE.textsW vo e w hT hb ho hn
set_option maxRecDepth 100000 in
theorem lifted (os : Os) (started : os.Started) (H : Type) (enc : TypeId × Value -> H) :
  ReturnsInHanded {} Tryz.checked os 7 .any (fun w args => (Rows.deedTextsSpec.pre enc Tryz.prog Tryz.f7 [] false w args /\ laidMetH Tryz.prog Rows.deedTextsRow.laid w) /\ sizedMet enc Tryz.prog Tryz.f7 (OpenSpec.ofChange Rows.deedTextsSpec) false w args)
   (Rows.deedTextsSpec.post enc Tryz.prog Tryz.f7 false true false false) := by
 refine returnsInHanded_of_change_and (C := Tryz.checked) (X := fun w _ => laidMetH Tryz.prog Rows.deedTextsRow.laid w) (fun _ _ _ hh h => h.of_heap hh) own started (by kernel_rfl) Tryz.func7
  (ChangeSpec.witness_shaped (enc := enc) (C := Tryz.checked) (os := os) (X := fun w _ => laidMetH Tryz.prog Rows.deedTextsRow.laid w) false (World.doorLaid Tryz.prog 4000 os) #[.agg #[.int .i8 0, .int .i8 0, .int .i64 0, .int .i64 0, .int .i64 0, .int .i64 0, .int .i64 0, .int .i64 0, .int .i64 0, .int .i32 0, .int .i32 0, .slice none 0 0]] 8 rfl (World.shaped_of_RefB (by kernel_rfl) (by kernel_rfl)) (by kernel_rfl) (by kernel_rfl) (by kernel_rfl) (door_met os _)) ?_
 intro W base args ds gs before hval0 hW hq1 hsz hL hq4
 have hval : ∀ (j : Nat) t v, Tryz.f7.params[j]? = some t -> args[j]? = some v -> Value.okWide Tryz.prog W .any base t v := hval0
 have hW' := hW
 obtain ⟨p, q, hA0, hV, rfl, hfz, hnd⟩ := hW
 have hA : DataW.TrodAll enc Tryz.prog W 0 (fun _ => true) true Tryz.f7.params.toList args.toList ds p := hA0
 rw [Tryz.params7] at hA hval
 obtain ⟨v0, vs0, d0, ds0, p0, q0, hargs, rfl, rfl, h0, r0⟩ := trodAll_cons hA
 obtain ⟨rfl, rfl, rfl⟩ := trodAll_nil r0
 obtain rfl : args = #[v0] := by cases args; simp_all
 obtain ⟨rfl, rfl⟩ := trodVars_none hV
 have k0 := h0
 have lt0 : ∀ x ∈ p0, x.block < W.heap.size := by obtain ⟨m, hm⟩ := k0; exact DataW.trod_lt m _ _ _ hm
 obtain ⟨z0, vo0, rfl, w0, y0, x0⟩ := DE.open_eventX (hval 0 30 v0 rfl rfl) h0 (fun n hn => by
  have := List.all_eq_true.1 hsz n (DataW.weights_mem_each (j := 0) (t := 30) rfl rfl n hn)
  simpa using this)
 clear hA0 hval0
 refine (walk (tab_of hL) vo0 z0 w0 y0 x0 W rfl).mono fun e W' ⟨he, bel⟩ => ?_
 subst he
 exact ⟨_, rfl, _, _, _, [], _, [], hW', trodAll_mk1 (shut_bool Tryz.underlying4 _), (trodAll_cons_mk (Below.trod laidOut (by kernel_rfl) (of_decide_eq_true (by kernel_rfl)) k0 bel lt0) trodAll_mk0), rfl, bel.frame _, fun h => by cases h⟩
theorem over : Rows.deedTextsRow.holds Tryz.pinned (OpenSpec.ofChange Rows.deedTextsSpec) :=
 OpenClaim.holds_of_wide 7 Tryz.f7 rfl rfl rfl rfl rfl rfl rfl ⟨rfl, rfl, rfl, rfl, rfl⟩ rfl rfl rfl rfl rfl (by kernel_rfl) Tryz.func7 (by kernel_rfl)
  (of_decide_eq_true (by kernel_rfl)) (by unfold Func.isWrapper; first | (rw [if_pos (by decide +kernel)]; kernel_rfl) | (rw [if_neg (by decide +kernel)]; exact ⟨rfl, rfl⟩))
  (fun os started H enc _ => lifted os started H enc)
theorem card : Rows.DeedTextsCardSaid :=
 Claim7.holds_tied_plain_at .later [] [.data, .data, .data] true (true, "59f756f021c4c90a54f3b850f0f08ce44ab33c50a3308a56a7aff00362def548") false
  over (fun _ h => by cases h) (by kernel_rfl) (fun _ h => by cases h) deedTexts_row_tie rfl ⟨rfl, rfl⟩ (by kernel_rfl) rfl
  (fun f fn hf hfn => by
   obtain rfl : f = 7 := Option.some.inj ((show Tryz.prog.funcNamed "tableau/tableaulaw06.DeedTexts" = some 7 by kernel_rfl).symm.trans hf) |>.symm
   obtain rfl : fn = Tryz.f7 := (Option.some.inj (Tryz.func7.symm.trans hfn)).symm
   exact ⟨by kernel_rfl, fun j t ht => by
    rw [Tryz.params7] at ht
    have hj : ([30].all fun t => !(Tryz.prog.wantsStandIn t)) = true := by kernel_rfl
    have hm := List.mem_of_getElem? (l := [30]) (i := j) (by simpa using ht)
    have this := List.all_eq_true.1 hj t hm
    have this : Tryz.prog.wantsStandIn t = false := by simpa using this
    exact this⟩)
  (by kernel_rfl)
end Go.Proofs.YtodhjjeagmjhdaaGreatDoor.deedTexts
namespace Go.Proofs.YtodhjjeagmjhdaaGreatDoor
theorem deedTexts_holds : Rows.DeedTextsCardSaid := deedTexts.card
#print axioms deedTexts_holds
end Go.Proofs.YtodhjjeagmjhdaaGreatDoor
