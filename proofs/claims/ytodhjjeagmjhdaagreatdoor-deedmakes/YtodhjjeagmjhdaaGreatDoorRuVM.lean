/-
  The rule of an event's kind.
-/
import Derived.Test.YtodhjjeagmjhdaaGreatDoorFf6TvDbM
import Derived.Test.YtodhjjeagmjhdaaGreatDoorTb6VM
namespace Go.Proofs.YtodhjjeagmjhdaaGreatDoor
open Go.RowKit
attribute [local go_sem ↓] Go.wp_at_zero Go.wp_at_succ
namespace DE
open Go.Proofs.YtodhjjeagmjhdaaGreatDoor.ST
theorem four_ (w : World) (T E N R : Array Value) (tt te tn tr : TypeId) : ∀ W0, W0 = (((w.alloc (.cells T tt)).alloc (.cells E te)).alloc (.cells N tn)).alloc (.cells R tr) -> W0.heap[w.heap.size + 1]? = some (.cells E te (0, 0)) /\ W0.heap[w.heap.size + 1 + 1]? = some (.cells N tn (0, 0)) /\ W0.heap[w.heap.size + 1 + 1 + 1]? = some (.cells R tr (0, 0)) /\ Up w W0 := by
 intro W0 h
 have e1 : (w.alloc (.cells T tt)).heap.size = w.heap.size + 1 := by simp
 have e2 : ((w.alloc (.cells T tt)).alloc (.cells E te)).heap.size = w.heap.size + 1 + 1 := by simp
 have e3 : (((w.alloc (.cells T tt)).alloc (.cells E te)).alloc (.cells N tn)).heap.size = w.heap.size + 1 + 1 + 1 := by simp
 have n1 := heap_alloc_new (w.alloc (.cells T tt)) (.cells E te)
 have n2 := heap_alloc_new ((w.alloc (.cells T tt)).alloc (.cells E te)) (.cells N tn)
 have n3 := heap_alloc_new (((w.alloc (.cells T tt)).alloc (.cells E te)).alloc (.cells N tn)) (.cells R tr)
 rw [e1] at n1
 rw [e2] at n2
 rw [e3] at n3
 subst h
 refine ⟨?_, ?_, n3, ((((Up.refl _).alloc _).alloc _).alloc _).alloc _⟩
 ·rw [Below.heap_alloc _ _ _ (by rw [e3]; omega), Below.heap_alloc _ _ _ (by rw [e2]; omega)]
  exact n1
 ·rw [Below.heap_alloc _ _ _ (by rw [e3]; omega)]
  exact n2
def kindB (k : Int) : Bool := decide (1 <= k) && decide (k <= 7)
set_option maxRecDepth 100000 in
set_option maxHeartbeats 4000000 in
theorem ruleOf_none (e : Ev) (oa : Option Addr) (on oc : Nat) (w : World) (hk : kindB e.kind = false) : Calls Tryz.prog 82 #[.agg tabV, evv e (.slice oa on oc)] w fun x w' => x = .returned (.tuple #[.agg (row 0), .bool false]) /\ Up w w' := by
 have HK : Hid _ := isKind_ e.kind
 unfold kindB at hk
 rw [hk] at HK
 unfold evv evc
 generalize tabV = T at *
 go_enter Tryz.func82, Tryz.ntmps82
 go_wp2_with fail
 refine Calls.mono (HK.out _) ?_
 rintro r w1 ⟨rfl, rfl⟩
 go_wp2
 exact bodyPost_ret (v := .tuple #[.agg (row 0), .bool false]) (by simp [results, Tryz.results82, go_sem, row]) rfl ⟨rfl, (((Up.refl _).alloc _).alloc _).alloc _⟩
set_option maxRecDepth 100000 in
set_option maxHeartbeats 4000000 in
theorem ruleOf_move (e : Ev) (oa : Option Addr) (on oc : Nat) (w : World) (hk : e.kind = 1) : Calls Tryz.prog 82 #[.agg tabV, evv e (.slice oa on oc)] w fun x w' => x = .returned (.tuple #[.agg (row 1), .bool (nothingB (moveR e) && decide (on = 0))]) /\ Up w w' := by
 have HK : Hid (∀ w, Calls Tryz.prog 93 #[.int .i8 1] w fun e w' => e = .returned (.bool true) /\ w' = w) := isKind_ 1
 have HR : Hid _ := moveRest_ e oa on oc
 have HN : Hid _ := saysNothing_ (moveR e) oa on oc
 generalize (nothingB (moveR e) && decide (on = 0)) = R at *
 generalize evv (moveR e) (.slice oa on oc) = re at *
 have h0 : tabV[6]? = some (.func (.func 117) #[] #[]) := by kernel_rfl
 have h1 : tabV[7]? = some (.func (.func 118) #[] #[]) := by kernel_rfl
 have h2 : tabV[8]? = some (.func (.func 119) #[] #[]) := by kernel_rfl
 have h3 : tabV[9]? = some (.func (.func 120) #[] #[]) := by kernel_rfl
 have h4 : tabV[10]? = some (.func (.func 121) #[] #[]) := by kernel_rfl
 have h5 : tabV[11]? = some (.func (.func 122) #[] #[]) := by kernel_rfl
 generalize tabV = T at *
 unfold evv evc at *
 obtain ⟨kind, field, card, player, other, fr, frAt, to_, toAt, was, now, ord⟩ := e
 dsimp only at *
 subst hk
 obtain ⟨W0, hW0⟩ : ∃ W0, W0 = (((w.alloc (.cells T 107)).alloc (.cells #[.int .i8 1, .int .i8 field, .int .i64 card, .int .i64 player, .int .i64 other, .int .i64 fr, .int .i64 frAt, .int .i64 to_, .int .i64 toAt, .int .i32 was, .int .i32 now, .slice oa on oc] 30)).alloc (.cells #[.nilFunc, .nilFunc, .nilFunc, .nilFunc, .nilFunc, .nilFunc] 106)).alloc (.cells #[.func (.func 117) #[] #[], .func (.func 118) #[] #[], .func (.func 119) #[] #[], .func (.func 120) #[] #[], .func (.func 121) #[] #[], .func (.func 122) #[] #[]] 106) := ⟨_, rfl⟩
 obtain ⟨g1, g2, g3, gu⟩ := four_ w T #[.int .i8 1, .int .i8 field, .int .i64 card, .int .i64 player, .int .i64 other, .int .i64 fr, .int .i64 frAt, .int .i64 to_, .int .i64 toAt, .int .i32 was, .int .i32 now, .slice oa on oc] #[.nilFunc, .nilFunc, .nilFunc, .nilFunc, .nilFunc, .nilFunc] #[.func (.func 117) #[] #[], .func (.func 118) #[] #[], .func (.func 119) #[] #[], .func (.func 120) #[] #[], .func (.func 121) #[] #[], .func (.func 122) #[] #[]] 107 30 106 106 W0 hW0
 have HU0 : Hid (Up w W0) := gu
 have ne : Nonempty (UW W0) := ⟨⟨W0, Up.refl _⟩⟩
 have mk : ∀ {f : Nat} {args : Array Value} {Rv : Value} (U : UW W0), Calls Tryz.prog f args U.W (fun e w' => e = .returned Rv /\ Up U.W w') -> Calls Tryz.prog f args U.W (fun e w' => e = .returned Rv /\ ∃ V : UW W0, w' = V.W) := fun U h => h.mono fun e w' ⟨he, u⟩ => ⟨he, ⟨w', U.up.trans u⟩, rfl⟩
 have HQ1 : Hid (∀ U : UW W0, _) := fun U => mk U (HR.out U.W)
 have HQ2 : Hid (∀ U : UW W0, _) := fun U => mk U (HN.out U.W)
 have e0 : ∀ U : UW W0, U.W.cell? ⟨w.heap.size + 1, 0, none⟩ = some _ := fun U => by rw [World.cell?, U.up.heap g1]; rfl
 have e1 : ∀ U : UW W0, U.W.cell? ⟨w.heap.size + 1, 1, none⟩ = some _ := fun U => by rw [World.cell?, U.up.heap g1]; rfl
 have e2 : ∀ U : UW W0, U.W.cell? ⟨w.heap.size + 1, 2, none⟩ = some _ := fun U => by rw [World.cell?, U.up.heap g1]; rfl
 have e3 : ∀ U : UW W0, U.W.cell? ⟨w.heap.size + 1, 3, none⟩ = some _ := fun U => by rw [World.cell?, U.up.heap g1]; rfl
 have e4 : ∀ U : UW W0, U.W.cell? ⟨w.heap.size + 1, 4, none⟩ = some _ := fun U => by rw [World.cell?, U.up.heap g1]; rfl
 have e5 : ∀ U : UW W0, U.W.cell? ⟨w.heap.size + 1, 5, none⟩ = some _ := fun U => by rw [World.cell?, U.up.heap g1]; rfl
 have e6 : ∀ U : UW W0, U.W.cell? ⟨w.heap.size + 1, 6, none⟩ = some _ := fun U => by rw [World.cell?, U.up.heap g1]; rfl
 have e7 : ∀ U : UW W0, U.W.cell? ⟨w.heap.size + 1, 7, none⟩ = some _ := fun U => by rw [World.cell?, U.up.heap g1]; rfl
 have e8 : ∀ U : UW W0, U.W.cell? ⟨w.heap.size + 1, 8, none⟩ = some _ := fun U => by rw [World.cell?, U.up.heap g1]; rfl
 have e9 : ∀ U : UW W0, U.W.cell? ⟨w.heap.size + 1, 9, none⟩ = some _ := fun U => by rw [World.cell?, U.up.heap g1]; rfl
 have e10 : ∀ U : UW W0, U.W.cell? ⟨w.heap.size + 1, 10, none⟩ = some _ := fun U => by rw [World.cell?, U.up.heap g1]; rfl
 have e11 : ∀ U : UW W0, U.W.cell? ⟨w.heap.size + 1, 11, none⟩ = some _ := fun U => by rw [World.cell?, U.up.heap g1]; rfl
 have r0 : ∀ U : UW W0, U.W.cell? ⟨w.heap.size + 1 + 1 + 1, 0, none⟩ = some _ := fun U => by rw [World.cell?, U.up.heap g3]; rfl
 have r1 : ∀ U : UW W0, U.W.cell? ⟨w.heap.size + 1 + 1 + 1, 1, none⟩ = some _ := fun U => by rw [World.cell?, U.up.heap g3]; rfl
 have r2 : ∀ U : UW W0, U.W.cell? ⟨w.heap.size + 1 + 1 + 1, 2, none⟩ = some _ := fun U => by rw [World.cell?, U.up.heap g3]; rfl
 have r3 : ∀ U : UW W0, U.W.cell? ⟨w.heap.size + 1 + 1 + 1, 3, none⟩ = some _ := fun U => by rw [World.cell?, U.up.heap g3]; rfl
 have r4 : ∀ U : UW W0, U.W.cell? ⟨w.heap.size + 1 + 1 + 1, 4, none⟩ = some _ := fun U => by rw [World.cell?, U.up.heap g3]; rfl
 have r5 : ∀ U : UW W0, U.W.cell? ⟨w.heap.size + 1 + 1 + 1, 5, none⟩ = some _ := fun U => by rw [World.cell?, U.up.heap g3]; rfl
 have n0 : ∀ U : UW W0, U.W.cell? ⟨w.heap.size + 1 + 1, 0, none⟩ = some .nilFunc := fun U => by rw [World.cell?, U.up.heap g2]; rfl
 have n1 : ∀ U : UW W0, U.W.cell? ⟨w.heap.size + 1 + 1, 1, none⟩ = some .nilFunc := fun U => by rw [World.cell?, U.up.heap g2]; rfl
 have n2 : ∀ U : UW W0, U.W.cell? ⟨w.heap.size + 1 + 1, 2, none⟩ = some .nilFunc := fun U => by rw [World.cell?, U.up.heap g2]; rfl
 have n3 : ∀ U : UW W0, U.W.cell? ⟨w.heap.size + 1 + 1, 3, none⟩ = some .nilFunc := fun U => by rw [World.cell?, U.up.heap g2]; rfl
 have n4 : ∀ U : UW W0, U.W.cell? ⟨w.heap.size + 1 + 1, 4, none⟩ = some .nilFunc := fun U => by rw [World.cell?, U.up.heap g2]; rfl
 have n5 : ∀ U : UW W0, U.W.cell? ⟨w.heap.size + 1 + 1, 5, none⟩ = some .nilFunc := fun U => by rw [World.cell?, U.up.heap g2]; rfl
 have nf : ∀ (U : UW W0) j, U.W.frozen? ⟨w.heap.size + 1 + 1, j, none⟩ = false := fun U j => by simp [World.frozen?, U.up.heap g2]
 clear mk g1 g2 g3 gu
 go_enter Tryz.func82, Tryz.ntmps82
 go_wp2_with fail
 refine Calls.mono (HK.out _) ?_
 rintro r w1 ⟨rfl, rfl⟩
 go_wp2_with fail
 rw [<- hW0]
 clear hW0 h0 h1 h2 h3 h4 h5
 refine TailR.wp_region_seqC 6 (fun w' => ∃ U : UW W0, w' = U.W) ⟨⟨_, (Up.refl _).drewN 1⟩, rfl⟩ (by kernel_rfl) (by kernel_rfl) ?_
 simp only [List.take_succ_cons, List.take_zero, List.drop_succ_cons, List.drop_zero]
 repeat (go_big_quiet_step (first | with_reducible exact HQ1.out _ | with_reducible exact HQ2.out _))
 refine wpQuiet_nil ?_
 intro _ hw'
 obtain ⟨U, hw''⟩ := hw'
 subst hw''
 have m0 := n0 U
 have m1 := n1 U
 have m2 := n2 U
 have m3 := n3 U
 have m4 := n4 U
 have m5 := n5 U
 have mf := nf U
 have HUU : Hid (Up w U.W) := HU0.out.trans U.up
 clear e0 e1 e2 e3 e4 e5 e6 e7 e8 e9 e10 e11 r0 r1 r2 r3 r4 r5 n0 n1 n2 n3 n4 n5 nf HQ1 HQ2
 generalize U.W = V at *
 go_wp2
 refine bodyPost_ret (v := .tuple #[.agg (row 1), .bool R]) (by simp [results, Tryz.results82, go_sem, row, fv, m0, m1, m2, m3, m4, m5]) rfl ⟨rfl, ?_⟩
 exact Below.setCell (Below.setCell (Below.setCell (Below.setCell (Below.setCell (Below.setCell HUU.out (by show w.heap.size <= w.heap.size + 1 + 1; omega) _) (by show w.heap.size <= w.heap.size + 1 + 1; omega) _) (by show w.heap.size <= w.heap.size + 1 + 1; omega) _) (by show w.heap.size <= w.heap.size + 1 + 1; omega) _) (by show w.heap.size <= w.heap.size + 1 + 1; omega) _) (by show w.heap.size <= w.heap.size + 1 + 1; omega) _
set_option maxRecDepth 100000 in
set_option maxHeartbeats 4000000 in
theorem ruleOf_card (e : Ev) (oa : Option Addr) (on oc : Nat) (w : World) (hk : e.kind = 2) : Calls Tryz.prog 82 #[.agg tabV, evv e (.slice oa on oc)] w fun x w' => x = .returned (.tuple #[.agg (row 2), .bool (nothingB (cardR e) && decide (on = 0))]) /\ Up w w' := by
 have HK : Hid (∀ w, Calls Tryz.prog 93 #[.int .i8 2] w fun e w' => e = .returned (.bool true) /\ w' = w) := isKind_ 2
 have HR : Hid _ := cardRest_ e oa on oc
 have HN : Hid _ := saysNothing_ (cardR e) oa on oc
 generalize (nothingB (cardR e) && decide (on = 0)) = R at *
 generalize evv (cardR e) (.slice oa on oc) = re at *
 have h0 : tabV[12]? = some (.func (.func 123) #[] #[]) := by kernel_rfl
 have h1 : tabV[13]? = some (.func (.func 124) #[] #[]) := by kernel_rfl
 have h2 : tabV[14]? = some (.func (.func 125) #[] #[]) := by kernel_rfl
 have h3 : tabV[15]? = some (.func (.func 126) #[] #[]) := by kernel_rfl
 have h4 : tabV[16]? = some (.func (.func 127) #[] #[]) := by kernel_rfl
 have h5 : tabV[17]? = some (.func (.func 128) #[] #[]) := by kernel_rfl
 generalize tabV = T at *
 unfold evv evc at *
 obtain ⟨kind, field, card, player, other, fr, frAt, to_, toAt, was, now, ord⟩ := e
 dsimp only at *
 subst hk
 obtain ⟨W0, hW0⟩ : ∃ W0, W0 = (((w.alloc (.cells T 107)).alloc (.cells #[.int .i8 2, .int .i8 field, .int .i64 card, .int .i64 player, .int .i64 other, .int .i64 fr, .int .i64 frAt, .int .i64 to_, .int .i64 toAt, .int .i32 was, .int .i32 now, .slice oa on oc] 30)).alloc (.cells #[.nilFunc, .nilFunc, .nilFunc, .nilFunc, .nilFunc, .nilFunc] 106)).alloc (.cells #[.func (.func 123) #[] #[], .func (.func 124) #[] #[], .func (.func 125) #[] #[], .func (.func 126) #[] #[], .func (.func 127) #[] #[], .func (.func 128) #[] #[]] 106) := ⟨_, rfl⟩
 obtain ⟨g1, g2, g3, gu⟩ := four_ w T #[.int .i8 2, .int .i8 field, .int .i64 card, .int .i64 player, .int .i64 other, .int .i64 fr, .int .i64 frAt, .int .i64 to_, .int .i64 toAt, .int .i32 was, .int .i32 now, .slice oa on oc] #[.nilFunc, .nilFunc, .nilFunc, .nilFunc, .nilFunc, .nilFunc] #[.func (.func 123) #[] #[], .func (.func 124) #[] #[], .func (.func 125) #[] #[], .func (.func 126) #[] #[], .func (.func 127) #[] #[], .func (.func 128) #[] #[]] 107 30 106 106 W0 hW0
 have HU0 : Hid (Up w W0) := gu
 have ne : Nonempty (UW W0) := ⟨⟨W0, Up.refl _⟩⟩
 have mk : ∀ {f : Nat} {args : Array Value} {Rv : Value} (U : UW W0), Calls Tryz.prog f args U.W (fun e w' => e = .returned Rv /\ Up U.W w') -> Calls Tryz.prog f args U.W (fun e w' => e = .returned Rv /\ ∃ V : UW W0, w' = V.W) := fun U h => h.mono fun e w' ⟨he, u⟩ => ⟨he, ⟨w', U.up.trans u⟩, rfl⟩
 have HQ1 : Hid (∀ U : UW W0, _) := fun U => mk U (HR.out U.W)
 have HQ2 : Hid (∀ U : UW W0, _) := fun U => mk U (HN.out U.W)
 have e0 : ∀ U : UW W0, U.W.cell? ⟨w.heap.size + 1, 0, none⟩ = some _ := fun U => by rw [World.cell?, U.up.heap g1]; rfl
 have e1 : ∀ U : UW W0, U.W.cell? ⟨w.heap.size + 1, 1, none⟩ = some _ := fun U => by rw [World.cell?, U.up.heap g1]; rfl
 have e2 : ∀ U : UW W0, U.W.cell? ⟨w.heap.size + 1, 2, none⟩ = some _ := fun U => by rw [World.cell?, U.up.heap g1]; rfl
 have e3 : ∀ U : UW W0, U.W.cell? ⟨w.heap.size + 1, 3, none⟩ = some _ := fun U => by rw [World.cell?, U.up.heap g1]; rfl
 have e4 : ∀ U : UW W0, U.W.cell? ⟨w.heap.size + 1, 4, none⟩ = some _ := fun U => by rw [World.cell?, U.up.heap g1]; rfl
 have e5 : ∀ U : UW W0, U.W.cell? ⟨w.heap.size + 1, 5, none⟩ = some _ := fun U => by rw [World.cell?, U.up.heap g1]; rfl
 have e6 : ∀ U : UW W0, U.W.cell? ⟨w.heap.size + 1, 6, none⟩ = some _ := fun U => by rw [World.cell?, U.up.heap g1]; rfl
 have e7 : ∀ U : UW W0, U.W.cell? ⟨w.heap.size + 1, 7, none⟩ = some _ := fun U => by rw [World.cell?, U.up.heap g1]; rfl
 have e8 : ∀ U : UW W0, U.W.cell? ⟨w.heap.size + 1, 8, none⟩ = some _ := fun U => by rw [World.cell?, U.up.heap g1]; rfl
 have e9 : ∀ U : UW W0, U.W.cell? ⟨w.heap.size + 1, 9, none⟩ = some _ := fun U => by rw [World.cell?, U.up.heap g1]; rfl
 have e10 : ∀ U : UW W0, U.W.cell? ⟨w.heap.size + 1, 10, none⟩ = some _ := fun U => by rw [World.cell?, U.up.heap g1]; rfl
 have e11 : ∀ U : UW W0, U.W.cell? ⟨w.heap.size + 1, 11, none⟩ = some _ := fun U => by rw [World.cell?, U.up.heap g1]; rfl
 have r0 : ∀ U : UW W0, U.W.cell? ⟨w.heap.size + 1 + 1 + 1, 0, none⟩ = some _ := fun U => by rw [World.cell?, U.up.heap g3]; rfl
 have r1 : ∀ U : UW W0, U.W.cell? ⟨w.heap.size + 1 + 1 + 1, 1, none⟩ = some _ := fun U => by rw [World.cell?, U.up.heap g3]; rfl
 have r2 : ∀ U : UW W0, U.W.cell? ⟨w.heap.size + 1 + 1 + 1, 2, none⟩ = some _ := fun U => by rw [World.cell?, U.up.heap g3]; rfl
 have r3 : ∀ U : UW W0, U.W.cell? ⟨w.heap.size + 1 + 1 + 1, 3, none⟩ = some _ := fun U => by rw [World.cell?, U.up.heap g3]; rfl
 have r4 : ∀ U : UW W0, U.W.cell? ⟨w.heap.size + 1 + 1 + 1, 4, none⟩ = some _ := fun U => by rw [World.cell?, U.up.heap g3]; rfl
 have r5 : ∀ U : UW W0, U.W.cell? ⟨w.heap.size + 1 + 1 + 1, 5, none⟩ = some _ := fun U => by rw [World.cell?, U.up.heap g3]; rfl
 have n0 : ∀ U : UW W0, U.W.cell? ⟨w.heap.size + 1 + 1, 0, none⟩ = some .nilFunc := fun U => by rw [World.cell?, U.up.heap g2]; rfl
 have n1 : ∀ U : UW W0, U.W.cell? ⟨w.heap.size + 1 + 1, 1, none⟩ = some .nilFunc := fun U => by rw [World.cell?, U.up.heap g2]; rfl
 have n2 : ∀ U : UW W0, U.W.cell? ⟨w.heap.size + 1 + 1, 2, none⟩ = some .nilFunc := fun U => by rw [World.cell?, U.up.heap g2]; rfl
 have n3 : ∀ U : UW W0, U.W.cell? ⟨w.heap.size + 1 + 1, 3, none⟩ = some .nilFunc := fun U => by rw [World.cell?, U.up.heap g2]; rfl
 have n4 : ∀ U : UW W0, U.W.cell? ⟨w.heap.size + 1 + 1, 4, none⟩ = some .nilFunc := fun U => by rw [World.cell?, U.up.heap g2]; rfl
 have n5 : ∀ U : UW W0, U.W.cell? ⟨w.heap.size + 1 + 1, 5, none⟩ = some .nilFunc := fun U => by rw [World.cell?, U.up.heap g2]; rfl
 have nf : ∀ (U : UW W0) j, U.W.frozen? ⟨w.heap.size + 1 + 1, j, none⟩ = false := fun U j => by simp [World.frozen?, U.up.heap g2]
 clear mk g1 g2 g3 gu
 go_enter Tryz.func82, Tryz.ntmps82
 go_wp2_with fail
 refine Calls.mono (HK.out _) ?_
 rintro r w1 ⟨rfl, rfl⟩
 go_wp2_with fail
 rw [<- hW0]
 clear hW0 h0 h1 h2 h3 h4 h5
 refine TailR.wp_region_seqC 6 (fun w' => ∃ U : UW W0, w' = U.W) ⟨⟨_, (Up.refl _).drewN 1⟩, rfl⟩ (by kernel_rfl) (by kernel_rfl) ?_
 simp only [List.take_succ_cons, List.take_zero, List.drop_succ_cons, List.drop_zero]
 repeat (go_big_quiet_step (first | with_reducible exact HQ1.out _ | with_reducible exact HQ2.out _))
 refine wpQuiet_nil ?_
 intro _ hw'
 obtain ⟨U, hw''⟩ := hw'
 subst hw''
 have m0 := n0 U
 have m1 := n1 U
 have m2 := n2 U
 have m3 := n3 U
 have m4 := n4 U
 have m5 := n5 U
 have mf := nf U
 have HUU : Hid (Up w U.W) := HU0.out.trans U.up
 clear e0 e1 e2 e3 e4 e5 e6 e7 e8 e9 e10 e11 r0 r1 r2 r3 r4 r5 n0 n1 n2 n3 n4 n5 nf HQ1 HQ2
 generalize U.W = V at *
 go_wp2
 refine bodyPost_ret (v := .tuple #[.agg (row 2), .bool R]) (by simp [results, Tryz.results82, go_sem, row, fv, m0, m1, m2, m3, m4, m5]) rfl ⟨rfl, ?_⟩
 exact Below.setCell (Below.setCell (Below.setCell (Below.setCell (Below.setCell (Below.setCell HUU.out (by show w.heap.size <= w.heap.size + 1 + 1; omega) _) (by show w.heap.size <= w.heap.size + 1 + 1; omega) _) (by show w.heap.size <= w.heap.size + 1 + 1; omega) _) (by show w.heap.size <= w.heap.size + 1 + 1; omega) _) (by show w.heap.size <= w.heap.size + 1 + 1; omega) _) (by show w.heap.size <= w.heap.size + 1 + 1; omega) _
set_option maxRecDepth 100000 in
set_option maxHeartbeats 4000000 in
theorem ruleOf_player (e : Ev) (oa : Option Addr) (on oc : Nat) (w : World) (hk : e.kind = 3) : Calls Tryz.prog 82 #[.agg tabV, evv e (.slice oa on oc)] w fun x w' => x = .returned (.tuple #[.agg (row 3), .bool (nothingB (playerR e) && decide (on = 0))]) /\ Up w w' := by
 have HK : Hid (∀ w, Calls Tryz.prog 93 #[.int .i8 3] w fun e w' => e = .returned (.bool true) /\ w' = w) := isKind_ 3
 have HR : Hid _ := playerRest_ e oa on oc
 have HN : Hid _ := saysNothing_ (playerR e) oa on oc
 generalize (nothingB (playerR e) && decide (on = 0)) = R at *
 generalize evv (playerR e) (.slice oa on oc) = re at *
 have h0 : tabV[18]? = some (.func (.func 129) #[] #[]) := by kernel_rfl
 have h1 : tabV[19]? = some (.func (.func 130) #[] #[]) := by kernel_rfl
 have h2 : tabV[20]? = some (.func (.func 131) #[] #[]) := by kernel_rfl
 have h3 : tabV[21]? = some (.func (.func 132) #[] #[]) := by kernel_rfl
 have h4 : tabV[22]? = some (.func (.func 133) #[] #[]) := by kernel_rfl
 have h5 : tabV[23]? = some (.func (.func 134) #[] #[]) := by kernel_rfl
 generalize tabV = T at *
 unfold evv evc at *
 obtain ⟨kind, field, card, player, other, fr, frAt, to_, toAt, was, now, ord⟩ := e
 dsimp only at *
 subst hk
 obtain ⟨W0, hW0⟩ : ∃ W0, W0 = (((w.alloc (.cells T 107)).alloc (.cells #[.int .i8 3, .int .i8 field, .int .i64 card, .int .i64 player, .int .i64 other, .int .i64 fr, .int .i64 frAt, .int .i64 to_, .int .i64 toAt, .int .i32 was, .int .i32 now, .slice oa on oc] 30)).alloc (.cells #[.nilFunc, .nilFunc, .nilFunc, .nilFunc, .nilFunc, .nilFunc] 106)).alloc (.cells #[.func (.func 129) #[] #[], .func (.func 130) #[] #[], .func (.func 131) #[] #[], .func (.func 132) #[] #[], .func (.func 133) #[] #[], .func (.func 134) #[] #[]] 106) := ⟨_, rfl⟩
 obtain ⟨g1, g2, g3, gu⟩ := four_ w T #[.int .i8 3, .int .i8 field, .int .i64 card, .int .i64 player, .int .i64 other, .int .i64 fr, .int .i64 frAt, .int .i64 to_, .int .i64 toAt, .int .i32 was, .int .i32 now, .slice oa on oc] #[.nilFunc, .nilFunc, .nilFunc, .nilFunc, .nilFunc, .nilFunc] #[.func (.func 129) #[] #[], .func (.func 130) #[] #[], .func (.func 131) #[] #[], .func (.func 132) #[] #[], .func (.func 133) #[] #[], .func (.func 134) #[] #[]] 107 30 106 106 W0 hW0
 have HU0 : Hid (Up w W0) := gu
 have ne : Nonempty (UW W0) := ⟨⟨W0, Up.refl _⟩⟩
 have mk : ∀ {f : Nat} {args : Array Value} {Rv : Value} (U : UW W0), Calls Tryz.prog f args U.W (fun e w' => e = .returned Rv /\ Up U.W w') -> Calls Tryz.prog f args U.W (fun e w' => e = .returned Rv /\ ∃ V : UW W0, w' = V.W) := fun U h => h.mono fun e w' ⟨he, u⟩ => ⟨he, ⟨w', U.up.trans u⟩, rfl⟩
 have HQ1 : Hid (∀ U : UW W0, _) := fun U => mk U (HR.out U.W)
 have HQ2 : Hid (∀ U : UW W0, _) := fun U => mk U (HN.out U.W)
 have e0 : ∀ U : UW W0, U.W.cell? ⟨w.heap.size + 1, 0, none⟩ = some _ := fun U => by rw [World.cell?, U.up.heap g1]; rfl
 have e1 : ∀ U : UW W0, U.W.cell? ⟨w.heap.size + 1, 1, none⟩ = some _ := fun U => by rw [World.cell?, U.up.heap g1]; rfl
 have e2 : ∀ U : UW W0, U.W.cell? ⟨w.heap.size + 1, 2, none⟩ = some _ := fun U => by rw [World.cell?, U.up.heap g1]; rfl
 have e3 : ∀ U : UW W0, U.W.cell? ⟨w.heap.size + 1, 3, none⟩ = some _ := fun U => by rw [World.cell?, U.up.heap g1]; rfl
 have e4 : ∀ U : UW W0, U.W.cell? ⟨w.heap.size + 1, 4, none⟩ = some _ := fun U => by rw [World.cell?, U.up.heap g1]; rfl
 have e5 : ∀ U : UW W0, U.W.cell? ⟨w.heap.size + 1, 5, none⟩ = some _ := fun U => by rw [World.cell?, U.up.heap g1]; rfl
 have e6 : ∀ U : UW W0, U.W.cell? ⟨w.heap.size + 1, 6, none⟩ = some _ := fun U => by rw [World.cell?, U.up.heap g1]; rfl
 have e7 : ∀ U : UW W0, U.W.cell? ⟨w.heap.size + 1, 7, none⟩ = some _ := fun U => by rw [World.cell?, U.up.heap g1]; rfl
 have e8 : ∀ U : UW W0, U.W.cell? ⟨w.heap.size + 1, 8, none⟩ = some _ := fun U => by rw [World.cell?, U.up.heap g1]; rfl
 have e9 : ∀ U : UW W0, U.W.cell? ⟨w.heap.size + 1, 9, none⟩ = some _ := fun U => by rw [World.cell?, U.up.heap g1]; rfl
 have e10 : ∀ U : UW W0, U.W.cell? ⟨w.heap.size + 1, 10, none⟩ = some _ := fun U => by rw [World.cell?, U.up.heap g1]; rfl
 have e11 : ∀ U : UW W0, U.W.cell? ⟨w.heap.size + 1, 11, none⟩ = some _ := fun U => by rw [World.cell?, U.up.heap g1]; rfl
 have r0 : ∀ U : UW W0, U.W.cell? ⟨w.heap.size + 1 + 1 + 1, 0, none⟩ = some _ := fun U => by rw [World.cell?, U.up.heap g3]; rfl
 have r1 : ∀ U : UW W0, U.W.cell? ⟨w.heap.size + 1 + 1 + 1, 1, none⟩ = some _ := fun U => by rw [World.cell?, U.up.heap g3]; rfl
 have r2 : ∀ U : UW W0, U.W.cell? ⟨w.heap.size + 1 + 1 + 1, 2, none⟩ = some _ := fun U => by rw [World.cell?, U.up.heap g3]; rfl
 have r3 : ∀ U : UW W0, U.W.cell? ⟨w.heap.size + 1 + 1 + 1, 3, none⟩ = some _ := fun U => by rw [World.cell?, U.up.heap g3]; rfl
 have r4 : ∀ U : UW W0, U.W.cell? ⟨w.heap.size + 1 + 1 + 1, 4, none⟩ = some _ := fun U => by rw [World.cell?, U.up.heap g3]; rfl
 have r5 : ∀ U : UW W0, U.W.cell? ⟨w.heap.size + 1 + 1 + 1, 5, none⟩ = some _ := fun U => by rw [World.cell?, U.up.heap g3]; rfl
 have n0 : ∀ U : UW W0, U.W.cell? ⟨w.heap.size + 1 + 1, 0, none⟩ = some .nilFunc := fun U => by rw [World.cell?, U.up.heap g2]; rfl
 have n1 : ∀ U : UW W0, U.W.cell? ⟨w.heap.size + 1 + 1, 1, none⟩ = some .nilFunc := fun U => by rw [World.cell?, U.up.heap g2]; rfl
 have n2 : ∀ U : UW W0, U.W.cell? ⟨w.heap.size + 1 + 1, 2, none⟩ = some .nilFunc := fun U => by rw [World.cell?, U.up.heap g2]; rfl
 have n3 : ∀ U : UW W0, U.W.cell? ⟨w.heap.size + 1 + 1, 3, none⟩ = some .nilFunc := fun U => by rw [World.cell?, U.up.heap g2]; rfl
 have n4 : ∀ U : UW W0, U.W.cell? ⟨w.heap.size + 1 + 1, 4, none⟩ = some .nilFunc := fun U => by rw [World.cell?, U.up.heap g2]; rfl
 have n5 : ∀ U : UW W0, U.W.cell? ⟨w.heap.size + 1 + 1, 5, none⟩ = some .nilFunc := fun U => by rw [World.cell?, U.up.heap g2]; rfl
 have nf : ∀ (U : UW W0) j, U.W.frozen? ⟨w.heap.size + 1 + 1, j, none⟩ = false := fun U j => by simp [World.frozen?, U.up.heap g2]
 clear mk g1 g2 g3 gu
 go_enter Tryz.func82, Tryz.ntmps82
 go_wp2_with fail
 refine Calls.mono (HK.out _) ?_
 rintro r w1 ⟨rfl, rfl⟩
 go_wp2_with fail
 rw [<- hW0]
 clear hW0 h0 h1 h2 h3 h4 h5
 refine TailR.wp_region_seqC 6 (fun w' => ∃ U : UW W0, w' = U.W) ⟨⟨_, (Up.refl _).drewN 1⟩, rfl⟩ (by kernel_rfl) (by kernel_rfl) ?_
 simp only [List.take_succ_cons, List.take_zero, List.drop_succ_cons, List.drop_zero]
 repeat (go_big_quiet_step (first | with_reducible exact HQ1.out _ | with_reducible exact HQ2.out _))
 refine wpQuiet_nil ?_
 intro _ hw'
 obtain ⟨U, hw''⟩ := hw'
 subst hw''
 have m0 := n0 U
 have m1 := n1 U
 have m2 := n2 U
 have m3 := n3 U
 have m4 := n4 U
 have m5 := n5 U
 have mf := nf U
 have HUU : Hid (Up w U.W) := HU0.out.trans U.up
 clear e0 e1 e2 e3 e4 e5 e6 e7 e8 e9 e10 e11 r0 r1 r2 r3 r4 r5 n0 n1 n2 n3 n4 n5 nf HQ1 HQ2
 generalize U.W = V at *
 go_wp2
 refine bodyPost_ret (v := .tuple #[.agg (row 3), .bool R]) (by simp [results, Tryz.results82, go_sem, row, fv, m0, m1, m2, m3, m4, m5]) rfl ⟨rfl, ?_⟩
 exact Below.setCell (Below.setCell (Below.setCell (Below.setCell (Below.setCell (Below.setCell HUU.out (by show w.heap.size <= w.heap.size + 1 + 1; omega) _) (by show w.heap.size <= w.heap.size + 1 + 1; omega) _) (by show w.heap.size <= w.heap.size + 1 + 1; omega) _) (by show w.heap.size <= w.heap.size + 1 + 1; omega) _) (by show w.heap.size <= w.heap.size + 1 + 1; omega) _) (by show w.heap.size <= w.heap.size + 1 + 1; omega) _
set_option maxRecDepth 100000 in
set_option maxHeartbeats 4000000 in
theorem ruleOf_shuffle (e : Ev) (oa : Option Addr) (on oc : Nat) (w : World) (hk : e.kind = 4) : Calls Tryz.prog 82 #[.agg tabV, evv e (.slice oa on oc)] w fun x w' => x = .returned (.tuple #[.agg (row 4), .bool (nothingB (shuffleR e) && decide (0 = 0))]) /\ Up w w' := by
 have HK : Hid (∀ w, Calls Tryz.prog 93 #[.int .i8 4] w fun e w' => e = .returned (.bool true) /\ w' = w) := isKind_ 4
 have HR : Hid _ := shuffleRest_ e oa on oc
 have HN : Hid _ := saysNothing_ (shuffleR e) none 0 0
 generalize (nothingB (shuffleR e) && decide (0 = 0)) = R at *
 generalize evv (shuffleR e) (.slice none 0 0) = re at *
 have h0 : tabV[24]? = some (.func (.func 135) #[] #[]) := by kernel_rfl
 have h1 : tabV[25]? = some (.func (.func 136) #[] #[]) := by kernel_rfl
 have h2 : tabV[26]? = some (.func (.func 136) #[] #[]) := by kernel_rfl
 have h3 : tabV[27]? = some (.func (.func 137) #[] #[]) := by kernel_rfl
 have h4 : tabV[28]? = some (.func (.func 138) #[] #[]) := by kernel_rfl
 have h5 : tabV[29]? = some (.func (.func 139) #[] #[]) := by kernel_rfl
 generalize tabV = T at *
 unfold evv evc at *
 obtain ⟨kind, field, card, player, other, fr, frAt, to_, toAt, was, now, ord⟩ := e
 dsimp only at *
 subst hk
 obtain ⟨W0, hW0⟩ : ∃ W0, W0 = (((w.alloc (.cells T 107)).alloc (.cells #[.int .i8 4, .int .i8 field, .int .i64 card, .int .i64 player, .int .i64 other, .int .i64 fr, .int .i64 frAt, .int .i64 to_, .int .i64 toAt, .int .i32 was, .int .i32 now, .slice oa on oc] 30)).alloc (.cells #[.nilFunc, .nilFunc, .nilFunc, .nilFunc, .nilFunc, .nilFunc] 106)).alloc (.cells #[.func (.func 135) #[] #[], .func (.func 136) #[] #[], .func (.func 136) #[] #[], .func (.func 137) #[] #[], .func (.func 138) #[] #[], .func (.func 139) #[] #[]] 106) := ⟨_, rfl⟩
 obtain ⟨g1, g2, g3, gu⟩ := four_ w T #[.int .i8 4, .int .i8 field, .int .i64 card, .int .i64 player, .int .i64 other, .int .i64 fr, .int .i64 frAt, .int .i64 to_, .int .i64 toAt, .int .i32 was, .int .i32 now, .slice oa on oc] #[.nilFunc, .nilFunc, .nilFunc, .nilFunc, .nilFunc, .nilFunc] #[.func (.func 135) #[] #[], .func (.func 136) #[] #[], .func (.func 136) #[] #[], .func (.func 137) #[] #[], .func (.func 138) #[] #[], .func (.func 139) #[] #[]] 107 30 106 106 W0 hW0
 have HU0 : Hid (Up w W0) := gu
 have ne : Nonempty (UW W0) := ⟨⟨W0, Up.refl _⟩⟩
 have mk : ∀ {f : Nat} {args : Array Value} {Rv : Value} (U : UW W0), Calls Tryz.prog f args U.W (fun e w' => e = .returned Rv /\ Up U.W w') -> Calls Tryz.prog f args U.W (fun e w' => e = .returned Rv /\ ∃ V : UW W0, w' = V.W) := fun U h => h.mono fun e w' ⟨he, u⟩ => ⟨he, ⟨w', U.up.trans u⟩, rfl⟩
 have HQ1 : Hid (∀ U : UW W0, _) := fun U => mk U (HR.out U.W)
 have HQ2 : Hid (∀ U : UW W0, _) := fun U => mk U (HN.out U.W)
 have e0 : ∀ U : UW W0, U.W.cell? ⟨w.heap.size + 1, 0, none⟩ = some _ := fun U => by rw [World.cell?, U.up.heap g1]; rfl
 have e1 : ∀ U : UW W0, U.W.cell? ⟨w.heap.size + 1, 1, none⟩ = some _ := fun U => by rw [World.cell?, U.up.heap g1]; rfl
 have e2 : ∀ U : UW W0, U.W.cell? ⟨w.heap.size + 1, 2, none⟩ = some _ := fun U => by rw [World.cell?, U.up.heap g1]; rfl
 have e3 : ∀ U : UW W0, U.W.cell? ⟨w.heap.size + 1, 3, none⟩ = some _ := fun U => by rw [World.cell?, U.up.heap g1]; rfl
 have e4 : ∀ U : UW W0, U.W.cell? ⟨w.heap.size + 1, 4, none⟩ = some _ := fun U => by rw [World.cell?, U.up.heap g1]; rfl
 have e5 : ∀ U : UW W0, U.W.cell? ⟨w.heap.size + 1, 5, none⟩ = some _ := fun U => by rw [World.cell?, U.up.heap g1]; rfl
 have e6 : ∀ U : UW W0, U.W.cell? ⟨w.heap.size + 1, 6, none⟩ = some _ := fun U => by rw [World.cell?, U.up.heap g1]; rfl
 have e7 : ∀ U : UW W0, U.W.cell? ⟨w.heap.size + 1, 7, none⟩ = some _ := fun U => by rw [World.cell?, U.up.heap g1]; rfl
 have e8 : ∀ U : UW W0, U.W.cell? ⟨w.heap.size + 1, 8, none⟩ = some _ := fun U => by rw [World.cell?, U.up.heap g1]; rfl
 have e9 : ∀ U : UW W0, U.W.cell? ⟨w.heap.size + 1, 9, none⟩ = some _ := fun U => by rw [World.cell?, U.up.heap g1]; rfl
 have e10 : ∀ U : UW W0, U.W.cell? ⟨w.heap.size + 1, 10, none⟩ = some _ := fun U => by rw [World.cell?, U.up.heap g1]; rfl
 have e11 : ∀ U : UW W0, U.W.cell? ⟨w.heap.size + 1, 11, none⟩ = some _ := fun U => by rw [World.cell?, U.up.heap g1]; rfl
 have r0 : ∀ U : UW W0, U.W.cell? ⟨w.heap.size + 1 + 1 + 1, 0, none⟩ = some _ := fun U => by rw [World.cell?, U.up.heap g3]; rfl
 have r1 : ∀ U : UW W0, U.W.cell? ⟨w.heap.size + 1 + 1 + 1, 1, none⟩ = some _ := fun U => by rw [World.cell?, U.up.heap g3]; rfl
 have r2 : ∀ U : UW W0, U.W.cell? ⟨w.heap.size + 1 + 1 + 1, 2, none⟩ = some _ := fun U => by rw [World.cell?, U.up.heap g3]; rfl
 have r3 : ∀ U : UW W0, U.W.cell? ⟨w.heap.size + 1 + 1 + 1, 3, none⟩ = some _ := fun U => by rw [World.cell?, U.up.heap g3]; rfl
 have r4 : ∀ U : UW W0, U.W.cell? ⟨w.heap.size + 1 + 1 + 1, 4, none⟩ = some _ := fun U => by rw [World.cell?, U.up.heap g3]; rfl
 have r5 : ∀ U : UW W0, U.W.cell? ⟨w.heap.size + 1 + 1 + 1, 5, none⟩ = some _ := fun U => by rw [World.cell?, U.up.heap g3]; rfl
 have n0 : ∀ U : UW W0, U.W.cell? ⟨w.heap.size + 1 + 1, 0, none⟩ = some .nilFunc := fun U => by rw [World.cell?, U.up.heap g2]; rfl
 have n1 : ∀ U : UW W0, U.W.cell? ⟨w.heap.size + 1 + 1, 1, none⟩ = some .nilFunc := fun U => by rw [World.cell?, U.up.heap g2]; rfl
 have n2 : ∀ U : UW W0, U.W.cell? ⟨w.heap.size + 1 + 1, 2, none⟩ = some .nilFunc := fun U => by rw [World.cell?, U.up.heap g2]; rfl
 have n3 : ∀ U : UW W0, U.W.cell? ⟨w.heap.size + 1 + 1, 3, none⟩ = some .nilFunc := fun U => by rw [World.cell?, U.up.heap g2]; rfl
 have n4 : ∀ U : UW W0, U.W.cell? ⟨w.heap.size + 1 + 1, 4, none⟩ = some .nilFunc := fun U => by rw [World.cell?, U.up.heap g2]; rfl
 have n5 : ∀ U : UW W0, U.W.cell? ⟨w.heap.size + 1 + 1, 5, none⟩ = some .nilFunc := fun U => by rw [World.cell?, U.up.heap g2]; rfl
 have nf : ∀ (U : UW W0) j, U.W.frozen? ⟨w.heap.size + 1 + 1, j, none⟩ = false := fun U j => by simp [World.frozen?, U.up.heap g2]
 clear mk g1 g2 g3 gu
 go_enter Tryz.func82, Tryz.ntmps82
 go_wp2_with fail
 refine Calls.mono (HK.out _) ?_
 rintro r w1 ⟨rfl, rfl⟩
 go_wp2_with fail
 rw [<- hW0]
 clear hW0 h0 h1 h2 h3 h4 h5
 refine TailR.wp_region_seqC 6 (fun w' => ∃ U : UW W0, w' = U.W) ⟨⟨_, (Up.refl _).drewN 1⟩, rfl⟩ (by kernel_rfl) (by kernel_rfl) ?_
 simp only [List.take_succ_cons, List.take_zero, List.drop_succ_cons, List.drop_zero]
 repeat (go_big_quiet_step (first | with_reducible exact HQ1.out _ | with_reducible exact HQ2.out _))
 refine wpQuiet_nil ?_
 intro _ hw'
 obtain ⟨U, hw''⟩ := hw'
 subst hw''
 have m0 := n0 U
 have m1 := n1 U
 have m2 := n2 U
 have m3 := n3 U
 have m4 := n4 U
 have m5 := n5 U
 have mf := nf U
 have HUU : Hid (Up w U.W) := HU0.out.trans U.up
 clear e0 e1 e2 e3 e4 e5 e6 e7 e8 e9 e10 e11 r0 r1 r2 r3 r4 r5 n0 n1 n2 n3 n4 n5 nf HQ1 HQ2
 generalize U.W = V at *
 go_wp2
 refine bodyPost_ret (v := .tuple #[.agg (row 4), .bool R]) (by simp [results, Tryz.results82, go_sem, row, fv, m0, m1, m2, m3, m4, m5]) rfl ⟨rfl, ?_⟩
 exact Below.setCell (Below.setCell (Below.setCell (Below.setCell (Below.setCell (Below.setCell HUU.out (by show w.heap.size <= w.heap.size + 1 + 1; omega) _) (by show w.heap.size <= w.heap.size + 1 + 1; omega) _) (by show w.heap.size <= w.heap.size + 1 + 1; omega) _) (by show w.heap.size <= w.heap.size + 1 + 1; omega) _) (by show w.heap.size <= w.heap.size + 1 + 1; omega) _) (by show w.heap.size <= w.heap.size + 1 + 1; omega) _
set_option maxRecDepth 100000 in
set_option maxHeartbeats 4000000 in
theorem ruleOf_out (e : Ev) (oa : Option Addr) (on oc : Nat) (w : World) (hk : e.kind = 5) : Calls Tryz.prog 82 #[.agg tabV, evv e (.slice oa on oc)] w fun x w' => x = .returned (.tuple #[.agg (row 5), .bool (nothingB (outR e) && decide (on = 0))]) /\ Up w w' := by
 have HK : Hid (∀ w, Calls Tryz.prog 93 #[.int .i8 5] w fun e w' => e = .returned (.bool true) /\ w' = w) := isKind_ 5
 have HR : Hid _ := outRest_ e oa on oc
 have HN : Hid _ := saysNothing_ (outR e) oa on oc
 generalize (nothingB (outR e) && decide (on = 0)) = R at *
 generalize evv (outR e) (.slice oa on oc) = re at *
 have h0 : tabV[30]? = some (.func (.func 140) #[] #[]) := by kernel_rfl
 have h1 : tabV[31]? = some (.func (.func 141) #[] #[]) := by kernel_rfl
 have h2 : tabV[32]? = some (.func (.func 142) #[] #[]) := by kernel_rfl
 have h3 : tabV[33]? = some (.func (.func 143) #[] #[]) := by kernel_rfl
 have h4 : tabV[34]? = some (.func (.func 144) #[] #[]) := by kernel_rfl
 have h5 : tabV[35]? = some (.func (.func 145) #[] #[]) := by kernel_rfl
 generalize tabV = T at *
 unfold evv evc at *
 obtain ⟨kind, field, card, player, other, fr, frAt, to_, toAt, was, now, ord⟩ := e
 dsimp only at *
 subst hk
 obtain ⟨W0, hW0⟩ : ∃ W0, W0 = (((w.alloc (.cells T 107)).alloc (.cells #[.int .i8 5, .int .i8 field, .int .i64 card, .int .i64 player, .int .i64 other, .int .i64 fr, .int .i64 frAt, .int .i64 to_, .int .i64 toAt, .int .i32 was, .int .i32 now, .slice oa on oc] 30)).alloc (.cells #[.nilFunc, .nilFunc, .nilFunc, .nilFunc, .nilFunc, .nilFunc] 106)).alloc (.cells #[.func (.func 140) #[] #[], .func (.func 141) #[] #[], .func (.func 142) #[] #[], .func (.func 143) #[] #[], .func (.func 144) #[] #[], .func (.func 145) #[] #[]] 106) := ⟨_, rfl⟩
 obtain ⟨g1, g2, g3, gu⟩ := four_ w T #[.int .i8 5, .int .i8 field, .int .i64 card, .int .i64 player, .int .i64 other, .int .i64 fr, .int .i64 frAt, .int .i64 to_, .int .i64 toAt, .int .i32 was, .int .i32 now, .slice oa on oc] #[.nilFunc, .nilFunc, .nilFunc, .nilFunc, .nilFunc, .nilFunc] #[.func (.func 140) #[] #[], .func (.func 141) #[] #[], .func (.func 142) #[] #[], .func (.func 143) #[] #[], .func (.func 144) #[] #[], .func (.func 145) #[] #[]] 107 30 106 106 W0 hW0
 have HU0 : Hid (Up w W0) := gu
 have ne : Nonempty (UW W0) := ⟨⟨W0, Up.refl _⟩⟩
 have mk : ∀ {f : Nat} {args : Array Value} {Rv : Value} (U : UW W0), Calls Tryz.prog f args U.W (fun e w' => e = .returned Rv /\ Up U.W w') -> Calls Tryz.prog f args U.W (fun e w' => e = .returned Rv /\ ∃ V : UW W0, w' = V.W) := fun U h => h.mono fun e w' ⟨he, u⟩ => ⟨he, ⟨w', U.up.trans u⟩, rfl⟩
 have HQ1 : Hid (∀ U : UW W0, _) := fun U => mk U (HR.out U.W)
 have HQ2 : Hid (∀ U : UW W0, _) := fun U => mk U (HN.out U.W)
 have e0 : ∀ U : UW W0, U.W.cell? ⟨w.heap.size + 1, 0, none⟩ = some _ := fun U => by rw [World.cell?, U.up.heap g1]; rfl
 have e1 : ∀ U : UW W0, U.W.cell? ⟨w.heap.size + 1, 1, none⟩ = some _ := fun U => by rw [World.cell?, U.up.heap g1]; rfl
 have e2 : ∀ U : UW W0, U.W.cell? ⟨w.heap.size + 1, 2, none⟩ = some _ := fun U => by rw [World.cell?, U.up.heap g1]; rfl
 have e3 : ∀ U : UW W0, U.W.cell? ⟨w.heap.size + 1, 3, none⟩ = some _ := fun U => by rw [World.cell?, U.up.heap g1]; rfl
 have e4 : ∀ U : UW W0, U.W.cell? ⟨w.heap.size + 1, 4, none⟩ = some _ := fun U => by rw [World.cell?, U.up.heap g1]; rfl
 have e5 : ∀ U : UW W0, U.W.cell? ⟨w.heap.size + 1, 5, none⟩ = some _ := fun U => by rw [World.cell?, U.up.heap g1]; rfl
 have e6 : ∀ U : UW W0, U.W.cell? ⟨w.heap.size + 1, 6, none⟩ = some _ := fun U => by rw [World.cell?, U.up.heap g1]; rfl
 have e7 : ∀ U : UW W0, U.W.cell? ⟨w.heap.size + 1, 7, none⟩ = some _ := fun U => by rw [World.cell?, U.up.heap g1]; rfl
 have e8 : ∀ U : UW W0, U.W.cell? ⟨w.heap.size + 1, 8, none⟩ = some _ := fun U => by rw [World.cell?, U.up.heap g1]; rfl
 have e9 : ∀ U : UW W0, U.W.cell? ⟨w.heap.size + 1, 9, none⟩ = some _ := fun U => by rw [World.cell?, U.up.heap g1]; rfl
 have e10 : ∀ U : UW W0, U.W.cell? ⟨w.heap.size + 1, 10, none⟩ = some _ := fun U => by rw [World.cell?, U.up.heap g1]; rfl
 have e11 : ∀ U : UW W0, U.W.cell? ⟨w.heap.size + 1, 11, none⟩ = some _ := fun U => by rw [World.cell?, U.up.heap g1]; rfl
 have r0 : ∀ U : UW W0, U.W.cell? ⟨w.heap.size + 1 + 1 + 1, 0, none⟩ = some _ := fun U => by rw [World.cell?, U.up.heap g3]; rfl
 have r1 : ∀ U : UW W0, U.W.cell? ⟨w.heap.size + 1 + 1 + 1, 1, none⟩ = some _ := fun U => by rw [World.cell?, U.up.heap g3]; rfl
 have r2 : ∀ U : UW W0, U.W.cell? ⟨w.heap.size + 1 + 1 + 1, 2, none⟩ = some _ := fun U => by rw [World.cell?, U.up.heap g3]; rfl
 have r3 : ∀ U : UW W0, U.W.cell? ⟨w.heap.size + 1 + 1 + 1, 3, none⟩ = some _ := fun U => by rw [World.cell?, U.up.heap g3]; rfl
 have r4 : ∀ U : UW W0, U.W.cell? ⟨w.heap.size + 1 + 1 + 1, 4, none⟩ = some _ := fun U => by rw [World.cell?, U.up.heap g3]; rfl
 have r5 : ∀ U : UW W0, U.W.cell? ⟨w.heap.size + 1 + 1 + 1, 5, none⟩ = some _ := fun U => by rw [World.cell?, U.up.heap g3]; rfl
 have n0 : ∀ U : UW W0, U.W.cell? ⟨w.heap.size + 1 + 1, 0, none⟩ = some .nilFunc := fun U => by rw [World.cell?, U.up.heap g2]; rfl
 have n1 : ∀ U : UW W0, U.W.cell? ⟨w.heap.size + 1 + 1, 1, none⟩ = some .nilFunc := fun U => by rw [World.cell?, U.up.heap g2]; rfl
 have n2 : ∀ U : UW W0, U.W.cell? ⟨w.heap.size + 1 + 1, 2, none⟩ = some .nilFunc := fun U => by rw [World.cell?, U.up.heap g2]; rfl
 have n3 : ∀ U : UW W0, U.W.cell? ⟨w.heap.size + 1 + 1, 3, none⟩ = some .nilFunc := fun U => by rw [World.cell?, U.up.heap g2]; rfl
 have n4 : ∀ U : UW W0, U.W.cell? ⟨w.heap.size + 1 + 1, 4, none⟩ = some .nilFunc := fun U => by rw [World.cell?, U.up.heap g2]; rfl
 have n5 : ∀ U : UW W0, U.W.cell? ⟨w.heap.size + 1 + 1, 5, none⟩ = some .nilFunc := fun U => by rw [World.cell?, U.up.heap g2]; rfl
 have nf : ∀ (U : UW W0) j, U.W.frozen? ⟨w.heap.size + 1 + 1, j, none⟩ = false := fun U j => by simp [World.frozen?, U.up.heap g2]
 clear mk g1 g2 g3 gu
 go_enter Tryz.func82, Tryz.ntmps82
 go_wp2_with fail
 refine Calls.mono (HK.out _) ?_
 rintro r w1 ⟨rfl, rfl⟩
 go_wp2_with fail
 rw [<- hW0]
 clear hW0 h0 h1 h2 h3 h4 h5
 refine TailR.wp_region_seqC 6 (fun w' => ∃ U : UW W0, w' = U.W) ⟨⟨_, (Up.refl _).drewN 1⟩, rfl⟩ (by kernel_rfl) (by kernel_rfl) ?_
 simp only [List.take_succ_cons, List.take_zero, List.drop_succ_cons, List.drop_zero]
 repeat (go_big_quiet_step (first | with_reducible exact HQ1.out _ | with_reducible exact HQ2.out _))
 refine wpQuiet_nil ?_
 intro _ hw'
 obtain ⟨U, hw''⟩ := hw'
 subst hw''
 have m0 := n0 U
 have m1 := n1 U
 have m2 := n2 U
 have m3 := n3 U
 have m4 := n4 U
 have m5 := n5 U
 have mf := nf U
 have HUU : Hid (Up w U.W) := HU0.out.trans U.up
 clear e0 e1 e2 e3 e4 e5 e6 e7 e8 e9 e10 e11 r0 r1 r2 r3 r4 r5 n0 n1 n2 n3 n4 n5 nf HQ1 HQ2
 generalize U.W = V at *
 go_wp2
 refine bodyPost_ret (v := .tuple #[.agg (row 5), .bool R]) (by simp [results, Tryz.results82, go_sem, row, fv, m0, m1, m2, m3, m4, m5]) rfl ⟨rfl, ?_⟩
 exact Below.setCell (Below.setCell (Below.setCell (Below.setCell (Below.setCell (Below.setCell HUU.out (by show w.heap.size <= w.heap.size + 1 + 1; omega) _) (by show w.heap.size <= w.heap.size + 1 + 1; omega) _) (by show w.heap.size <= w.heap.size + 1 + 1; omega) _) (by show w.heap.size <= w.heap.size + 1 + 1; omega) _) (by show w.heap.size <= w.heap.size + 1 + 1; omega) _) (by show w.heap.size <= w.heap.size + 1 + 1; omega) _
set_option maxRecDepth 100000 in
set_option maxHeartbeats 4000000 in
theorem ruleOf_turn (e : Ev) (oa : Option Addr) (on oc : Nat) (w : World) (hk : e.kind = 6) : Calls Tryz.prog 82 #[.agg tabV, evv e (.slice oa on oc)] w fun x w' => x = .returned (.tuple #[.agg (row 6), .bool (nothingB (turnR e) && decide (on = 0))]) /\ Up w w' := by
 have HK : Hid (∀ w, Calls Tryz.prog 93 #[.int .i8 6] w fun e w' => e = .returned (.bool true) /\ w' = w) := isKind_ 6
 have HR : Hid _ := turnRest_ e oa on oc
 have HN : Hid _ := saysNothing_ (turnR e) oa on oc
 generalize (nothingB (turnR e) && decide (on = 0)) = R at *
 generalize evv (turnR e) (.slice oa on oc) = re at *
 have h0 : tabV[36]? = some (.func (.func 146) #[] #[]) := by kernel_rfl
 have h1 : tabV[37]? = some (.func (.func 147) #[] #[]) := by kernel_rfl
 have h2 : tabV[38]? = some (.func (.func 148) #[] #[]) := by kernel_rfl
 have h3 : tabV[39]? = some (.func (.func 149) #[] #[]) := by kernel_rfl
 have h4 : tabV[40]? = some (.func (.func 150) #[] #[]) := by kernel_rfl
 have h5 : tabV[41]? = some (.func (.func 151) #[] #[]) := by kernel_rfl
 generalize tabV = T at *
 unfold evv evc at *
 obtain ⟨kind, field, card, player, other, fr, frAt, to_, toAt, was, now, ord⟩ := e
 dsimp only at *
 subst hk
 obtain ⟨W0, hW0⟩ : ∃ W0, W0 = (((w.alloc (.cells T 107)).alloc (.cells #[.int .i8 6, .int .i8 field, .int .i64 card, .int .i64 player, .int .i64 other, .int .i64 fr, .int .i64 frAt, .int .i64 to_, .int .i64 toAt, .int .i32 was, .int .i32 now, .slice oa on oc] 30)).alloc (.cells #[.nilFunc, .nilFunc, .nilFunc, .nilFunc, .nilFunc, .nilFunc] 106)).alloc (.cells #[.func (.func 146) #[] #[], .func (.func 147) #[] #[], .func (.func 148) #[] #[], .func (.func 149) #[] #[], .func (.func 150) #[] #[], .func (.func 151) #[] #[]] 106) := ⟨_, rfl⟩
 obtain ⟨g1, g2, g3, gu⟩ := four_ w T #[.int .i8 6, .int .i8 field, .int .i64 card, .int .i64 player, .int .i64 other, .int .i64 fr, .int .i64 frAt, .int .i64 to_, .int .i64 toAt, .int .i32 was, .int .i32 now, .slice oa on oc] #[.nilFunc, .nilFunc, .nilFunc, .nilFunc, .nilFunc, .nilFunc] #[.func (.func 146) #[] #[], .func (.func 147) #[] #[], .func (.func 148) #[] #[], .func (.func 149) #[] #[], .func (.func 150) #[] #[], .func (.func 151) #[] #[]] 107 30 106 106 W0 hW0
 have HU0 : Hid (Up w W0) := gu
 have ne : Nonempty (UW W0) := ⟨⟨W0, Up.refl _⟩⟩
 have mk : ∀ {f : Nat} {args : Array Value} {Rv : Value} (U : UW W0), Calls Tryz.prog f args U.W (fun e w' => e = .returned Rv /\ Up U.W w') -> Calls Tryz.prog f args U.W (fun e w' => e = .returned Rv /\ ∃ V : UW W0, w' = V.W) := fun U h => h.mono fun e w' ⟨he, u⟩ => ⟨he, ⟨w', U.up.trans u⟩, rfl⟩
 have HQ1 : Hid (∀ U : UW W0, _) := fun U => mk U (HR.out U.W)
 have HQ2 : Hid (∀ U : UW W0, _) := fun U => mk U (HN.out U.W)
 have e0 : ∀ U : UW W0, U.W.cell? ⟨w.heap.size + 1, 0, none⟩ = some _ := fun U => by rw [World.cell?, U.up.heap g1]; rfl
 have e1 : ∀ U : UW W0, U.W.cell? ⟨w.heap.size + 1, 1, none⟩ = some _ := fun U => by rw [World.cell?, U.up.heap g1]; rfl
 have e2 : ∀ U : UW W0, U.W.cell? ⟨w.heap.size + 1, 2, none⟩ = some _ := fun U => by rw [World.cell?, U.up.heap g1]; rfl
 have e3 : ∀ U : UW W0, U.W.cell? ⟨w.heap.size + 1, 3, none⟩ = some _ := fun U => by rw [World.cell?, U.up.heap g1]; rfl
 have e4 : ∀ U : UW W0, U.W.cell? ⟨w.heap.size + 1, 4, none⟩ = some _ := fun U => by rw [World.cell?, U.up.heap g1]; rfl
 have e5 : ∀ U : UW W0, U.W.cell? ⟨w.heap.size + 1, 5, none⟩ = some _ := fun U => by rw [World.cell?, U.up.heap g1]; rfl
 have e6 : ∀ U : UW W0, U.W.cell? ⟨w.heap.size + 1, 6, none⟩ = some _ := fun U => by rw [World.cell?, U.up.heap g1]; rfl
 have e7 : ∀ U : UW W0, U.W.cell? ⟨w.heap.size + 1, 7, none⟩ = some _ := fun U => by rw [World.cell?, U.up.heap g1]; rfl
 have e8 : ∀ U : UW W0, U.W.cell? ⟨w.heap.size + 1, 8, none⟩ = some _ := fun U => by rw [World.cell?, U.up.heap g1]; rfl
 have e9 : ∀ U : UW W0, U.W.cell? ⟨w.heap.size + 1, 9, none⟩ = some _ := fun U => by rw [World.cell?, U.up.heap g1]; rfl
 have e10 : ∀ U : UW W0, U.W.cell? ⟨w.heap.size + 1, 10, none⟩ = some _ := fun U => by rw [World.cell?, U.up.heap g1]; rfl
 have e11 : ∀ U : UW W0, U.W.cell? ⟨w.heap.size + 1, 11, none⟩ = some _ := fun U => by rw [World.cell?, U.up.heap g1]; rfl
 have r0 : ∀ U : UW W0, U.W.cell? ⟨w.heap.size + 1 + 1 + 1, 0, none⟩ = some _ := fun U => by rw [World.cell?, U.up.heap g3]; rfl
 have r1 : ∀ U : UW W0, U.W.cell? ⟨w.heap.size + 1 + 1 + 1, 1, none⟩ = some _ := fun U => by rw [World.cell?, U.up.heap g3]; rfl
 have r2 : ∀ U : UW W0, U.W.cell? ⟨w.heap.size + 1 + 1 + 1, 2, none⟩ = some _ := fun U => by rw [World.cell?, U.up.heap g3]; rfl
 have r3 : ∀ U : UW W0, U.W.cell? ⟨w.heap.size + 1 + 1 + 1, 3, none⟩ = some _ := fun U => by rw [World.cell?, U.up.heap g3]; rfl
 have r4 : ∀ U : UW W0, U.W.cell? ⟨w.heap.size + 1 + 1 + 1, 4, none⟩ = some _ := fun U => by rw [World.cell?, U.up.heap g3]; rfl
 have r5 : ∀ U : UW W0, U.W.cell? ⟨w.heap.size + 1 + 1 + 1, 5, none⟩ = some _ := fun U => by rw [World.cell?, U.up.heap g3]; rfl
 have n0 : ∀ U : UW W0, U.W.cell? ⟨w.heap.size + 1 + 1, 0, none⟩ = some .nilFunc := fun U => by rw [World.cell?, U.up.heap g2]; rfl
 have n1 : ∀ U : UW W0, U.W.cell? ⟨w.heap.size + 1 + 1, 1, none⟩ = some .nilFunc := fun U => by rw [World.cell?, U.up.heap g2]; rfl
 have n2 : ∀ U : UW W0, U.W.cell? ⟨w.heap.size + 1 + 1, 2, none⟩ = some .nilFunc := fun U => by rw [World.cell?, U.up.heap g2]; rfl
 have n3 : ∀ U : UW W0, U.W.cell? ⟨w.heap.size + 1 + 1, 3, none⟩ = some .nilFunc := fun U => by rw [World.cell?, U.up.heap g2]; rfl
 have n4 : ∀ U : UW W0, U.W.cell? ⟨w.heap.size + 1 + 1, 4, none⟩ = some .nilFunc := fun U => by rw [World.cell?, U.up.heap g2]; rfl
 have n5 : ∀ U : UW W0, U.W.cell? ⟨w.heap.size + 1 + 1, 5, none⟩ = some .nilFunc := fun U => by rw [World.cell?, U.up.heap g2]; rfl
 have nf : ∀ (U : UW W0) j, U.W.frozen? ⟨w.heap.size + 1 + 1, j, none⟩ = false := fun U j => by simp [World.frozen?, U.up.heap g2]
 clear mk g1 g2 g3 gu
 go_enter Tryz.func82, Tryz.ntmps82
 go_wp2_with fail
 refine Calls.mono (HK.out _) ?_
 rintro r w1 ⟨rfl, rfl⟩
 go_wp2_with fail
 rw [<- hW0]
 clear hW0 h0 h1 h2 h3 h4 h5
 refine TailR.wp_region_seqC 6 (fun w' => ∃ U : UW W0, w' = U.W) ⟨⟨_, (Up.refl _).drewN 1⟩, rfl⟩ (by kernel_rfl) (by kernel_rfl) ?_
 simp only [List.take_succ_cons, List.take_zero, List.drop_succ_cons, List.drop_zero]
 repeat (go_big_quiet_step (first | with_reducible exact HQ1.out _ | with_reducible exact HQ2.out _))
 refine wpQuiet_nil ?_
 intro _ hw'
 obtain ⟨U, hw''⟩ := hw'
 subst hw''
 have m0 := n0 U
 have m1 := n1 U
 have m2 := n2 U
 have m3 := n3 U
 have m4 := n4 U
 have m5 := n5 U
 have mf := nf U
 have HUU : Hid (Up w U.W) := HU0.out.trans U.up
 clear e0 e1 e2 e3 e4 e5 e6 e7 e8 e9 e10 e11 r0 r1 r2 r3 r4 r5 n0 n1 n2 n3 n4 n5 nf HQ1 HQ2
 generalize U.W = V at *
 go_wp2
 refine bodyPost_ret (v := .tuple #[.agg (row 6), .bool R]) (by simp [results, Tryz.results82, go_sem, row, fv, m0, m1, m2, m3, m4, m5]) rfl ⟨rfl, ?_⟩
 exact Below.setCell (Below.setCell (Below.setCell (Below.setCell (Below.setCell (Below.setCell HUU.out (by show w.heap.size <= w.heap.size + 1 + 1; omega) _) (by show w.heap.size <= w.heap.size + 1 + 1; omega) _) (by show w.heap.size <= w.heap.size + 1 + 1; omega) _) (by show w.heap.size <= w.heap.size + 1 + 1; omega) _) (by show w.heap.size <= w.heap.size + 1 + 1; omega) _) (by show w.heap.size <= w.heap.size + 1 + 1; omega) _
set_option maxRecDepth 100000 in
set_option maxHeartbeats 4000000 in
theorem ruleOf_end (e : Ev) (oa : Option Addr) (on oc : Nat) (w : World) (hk : e.kind = 7) : Calls Tryz.prog 82 #[.agg tabV, evv e (.slice oa on oc)] w fun x w' => x = .returned (.tuple #[.agg (row 7), .bool (nothingB (endR e) && decide (on = 0))]) /\ Up w w' := by
 have HK : Hid (∀ w, Calls Tryz.prog 93 #[.int .i8 7] w fun e w' => e = .returned (.bool true) /\ w' = w) := isKind_ 7
 have HR : Hid _ := endRest_ e oa on oc
 have HN : Hid _ := saysNothing_ (endR e) oa on oc
 generalize (nothingB (endR e) && decide (on = 0)) = R at *
 generalize evv (endR e) (.slice oa on oc) = re at *
 have h0 : tabV[42]? = some (.func (.func 152) #[] #[]) := by kernel_rfl
 have h1 : tabV[43]? = some (.func (.func 153) #[] #[]) := by kernel_rfl
 have h2 : tabV[44]? = some (.func (.func 154) #[] #[]) := by kernel_rfl
 have h3 : tabV[45]? = some (.func (.func 155) #[] #[]) := by kernel_rfl
 have h4 : tabV[46]? = some (.func (.func 156) #[] #[]) := by kernel_rfl
 have h5 : tabV[47]? = some (.func (.func 157) #[] #[]) := by kernel_rfl
 generalize tabV = T at *
 unfold evv evc at *
 obtain ⟨kind, field, card, player, other, fr, frAt, to_, toAt, was, now, ord⟩ := e
 dsimp only at *
 subst hk
 obtain ⟨W0, hW0⟩ : ∃ W0, W0 = (((w.alloc (.cells T 107)).alloc (.cells #[.int .i8 7, .int .i8 field, .int .i64 card, .int .i64 player, .int .i64 other, .int .i64 fr, .int .i64 frAt, .int .i64 to_, .int .i64 toAt, .int .i32 was, .int .i32 now, .slice oa on oc] 30)).alloc (.cells #[.nilFunc, .nilFunc, .nilFunc, .nilFunc, .nilFunc, .nilFunc] 106)).alloc (.cells #[.func (.func 152) #[] #[], .func (.func 153) #[] #[], .func (.func 154) #[] #[], .func (.func 155) #[] #[], .func (.func 156) #[] #[], .func (.func 157) #[] #[]] 106) := ⟨_, rfl⟩
 obtain ⟨g1, g2, g3, gu⟩ := four_ w T #[.int .i8 7, .int .i8 field, .int .i64 card, .int .i64 player, .int .i64 other, .int .i64 fr, .int .i64 frAt, .int .i64 to_, .int .i64 toAt, .int .i32 was, .int .i32 now, .slice oa on oc] #[.nilFunc, .nilFunc, .nilFunc, .nilFunc, .nilFunc, .nilFunc] #[.func (.func 152) #[] #[], .func (.func 153) #[] #[], .func (.func 154) #[] #[], .func (.func 155) #[] #[], .func (.func 156) #[] #[], .func (.func 157) #[] #[]] 107 30 106 106 W0 hW0
 have HU0 : Hid (Up w W0) := gu
 have ne : Nonempty (UW W0) := ⟨⟨W0, Up.refl _⟩⟩
 have mk : ∀ {f : Nat} {args : Array Value} {Rv : Value} (U : UW W0), Calls Tryz.prog f args U.W (fun e w' => e = .returned Rv /\ Up U.W w') -> Calls Tryz.prog f args U.W (fun e w' => e = .returned Rv /\ ∃ V : UW W0, w' = V.W) := fun U h => h.mono fun e w' ⟨he, u⟩ => ⟨he, ⟨w', U.up.trans u⟩, rfl⟩
 have HQ1 : Hid (∀ U : UW W0, _) := fun U => mk U (HR.out U.W)
 have HQ2 : Hid (∀ U : UW W0, _) := fun U => mk U (HN.out U.W)
 have e0 : ∀ U : UW W0, U.W.cell? ⟨w.heap.size + 1, 0, none⟩ = some _ := fun U => by rw [World.cell?, U.up.heap g1]; rfl
 have e1 : ∀ U : UW W0, U.W.cell? ⟨w.heap.size + 1, 1, none⟩ = some _ := fun U => by rw [World.cell?, U.up.heap g1]; rfl
 have e2 : ∀ U : UW W0, U.W.cell? ⟨w.heap.size + 1, 2, none⟩ = some _ := fun U => by rw [World.cell?, U.up.heap g1]; rfl
 have e3 : ∀ U : UW W0, U.W.cell? ⟨w.heap.size + 1, 3, none⟩ = some _ := fun U => by rw [World.cell?, U.up.heap g1]; rfl
 have e4 : ∀ U : UW W0, U.W.cell? ⟨w.heap.size + 1, 4, none⟩ = some _ := fun U => by rw [World.cell?, U.up.heap g1]; rfl
 have e5 : ∀ U : UW W0, U.W.cell? ⟨w.heap.size + 1, 5, none⟩ = some _ := fun U => by rw [World.cell?, U.up.heap g1]; rfl
 have e6 : ∀ U : UW W0, U.W.cell? ⟨w.heap.size + 1, 6, none⟩ = some _ := fun U => by rw [World.cell?, U.up.heap g1]; rfl
 have e7 : ∀ U : UW W0, U.W.cell? ⟨w.heap.size + 1, 7, none⟩ = some _ := fun U => by rw [World.cell?, U.up.heap g1]; rfl
 have e8 : ∀ U : UW W0, U.W.cell? ⟨w.heap.size + 1, 8, none⟩ = some _ := fun U => by rw [World.cell?, U.up.heap g1]; rfl
 have e9 : ∀ U : UW W0, U.W.cell? ⟨w.heap.size + 1, 9, none⟩ = some _ := fun U => by rw [World.cell?, U.up.heap g1]; rfl
 have e10 : ∀ U : UW W0, U.W.cell? ⟨w.heap.size + 1, 10, none⟩ = some _ := fun U => by rw [World.cell?, U.up.heap g1]; rfl
 have e11 : ∀ U : UW W0, U.W.cell? ⟨w.heap.size + 1, 11, none⟩ = some _ := fun U => by rw [World.cell?, U.up.heap g1]; rfl
 have r0 : ∀ U : UW W0, U.W.cell? ⟨w.heap.size + 1 + 1 + 1, 0, none⟩ = some _ := fun U => by rw [World.cell?, U.up.heap g3]; rfl
 have r1 : ∀ U : UW W0, U.W.cell? ⟨w.heap.size + 1 + 1 + 1, 1, none⟩ = some _ := fun U => by rw [World.cell?, U.up.heap g3]; rfl
 have r2 : ∀ U : UW W0, U.W.cell? ⟨w.heap.size + 1 + 1 + 1, 2, none⟩ = some _ := fun U => by rw [World.cell?, U.up.heap g3]; rfl
 have r3 : ∀ U : UW W0, U.W.cell? ⟨w.heap.size + 1 + 1 + 1, 3, none⟩ = some _ := fun U => by rw [World.cell?, U.up.heap g3]; rfl
 have r4 : ∀ U : UW W0, U.W.cell? ⟨w.heap.size + 1 + 1 + 1, 4, none⟩ = some _ := fun U => by rw [World.cell?, U.up.heap g3]; rfl
 have r5 : ∀ U : UW W0, U.W.cell? ⟨w.heap.size + 1 + 1 + 1, 5, none⟩ = some _ := fun U => by rw [World.cell?, U.up.heap g3]; rfl
 have n0 : ∀ U : UW W0, U.W.cell? ⟨w.heap.size + 1 + 1, 0, none⟩ = some .nilFunc := fun U => by rw [World.cell?, U.up.heap g2]; rfl
 have n1 : ∀ U : UW W0, U.W.cell? ⟨w.heap.size + 1 + 1, 1, none⟩ = some .nilFunc := fun U => by rw [World.cell?, U.up.heap g2]; rfl
 have n2 : ∀ U : UW W0, U.W.cell? ⟨w.heap.size + 1 + 1, 2, none⟩ = some .nilFunc := fun U => by rw [World.cell?, U.up.heap g2]; rfl
 have n3 : ∀ U : UW W0, U.W.cell? ⟨w.heap.size + 1 + 1, 3, none⟩ = some .nilFunc := fun U => by rw [World.cell?, U.up.heap g2]; rfl
 have n4 : ∀ U : UW W0, U.W.cell? ⟨w.heap.size + 1 + 1, 4, none⟩ = some .nilFunc := fun U => by rw [World.cell?, U.up.heap g2]; rfl
 have n5 : ∀ U : UW W0, U.W.cell? ⟨w.heap.size + 1 + 1, 5, none⟩ = some .nilFunc := fun U => by rw [World.cell?, U.up.heap g2]; rfl
 have nf : ∀ (U : UW W0) j, U.W.frozen? ⟨w.heap.size + 1 + 1, j, none⟩ = false := fun U j => by simp [World.frozen?, U.up.heap g2]
 clear mk g1 g2 g3 gu
 go_enter Tryz.func82, Tryz.ntmps82
 go_wp2_with fail
 refine Calls.mono (HK.out _) ?_
 rintro r w1 ⟨rfl, rfl⟩
 go_wp2_with fail
 rw [<- hW0]
 clear hW0 h0 h1 h2 h3 h4 h5
 refine TailR.wp_region_seqC 6 (fun w' => ∃ U : UW W0, w' = U.W) ⟨⟨_, (Up.refl _).drewN 1⟩, rfl⟩ (by kernel_rfl) (by kernel_rfl) ?_
 simp only [List.take_succ_cons, List.take_zero, List.drop_succ_cons, List.drop_zero]
 repeat (go_big_quiet_step (first | with_reducible exact HQ1.out _ | with_reducible exact HQ2.out _))
 refine wpQuiet_nil ?_
 intro _ hw'
 obtain ⟨U, hw''⟩ := hw'
 subst hw''
 have m0 := n0 U
 have m1 := n1 U
 have m2 := n2 U
 have m3 := n3 U
 have m4 := n4 U
 have m5 := n5 U
 have mf := nf U
 have HUU : Hid (Up w U.W) := HU0.out.trans U.up
 clear e0 e1 e2 e3 e4 e5 e6 e7 e8 e9 e10 e11 r0 r1 r2 r3 r4 r5 n0 n1 n2 n3 n4 n5 nf HQ1 HQ2
 generalize U.W = V at *
 go_wp2
 refine bodyPost_ret (v := .tuple #[.agg (row 7), .bool R]) (by simp [results, Tryz.results82, go_sem, row, fv, m0, m1, m2, m3, m4, m5]) rfl ⟨rfl, ?_⟩
 exact Below.setCell (Below.setCell (Below.setCell (Below.setCell (Below.setCell (Below.setCell HUU.out (by show w.heap.size <= w.heap.size + 1 + 1; omega) _) (by show w.heap.size <= w.heap.size + 1 + 1; omega) _) (by show w.heap.size <= w.heap.size + 1 + 1; omega) _) (by show w.heap.size <= w.heap.size + 1 + 1; omega) _) (by show w.heap.size <= w.heap.size + 1 + 1; omega) _) (by show w.heap.size <= w.heap.size + 1 + 1; omega) _
end DE
end Go.Proofs.YtodhjjeagmjhdaaGreatDoor
