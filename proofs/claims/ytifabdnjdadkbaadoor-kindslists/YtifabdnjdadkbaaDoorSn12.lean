
/-
  Costs, lists of int8 held against each other, a sign held against the document's.
-/
import Derived.Test.YtifabdnjdadkbaaDoorLf12
import Derived.Test.YtifabdnjdadkbaaDoorRl12
namespace Go.Proofs.YtifabdnjdadkbaaDoor
open Go.RowKit
attribute [local go_sem ↓] Go.wp_at_zero Go.wp_at_succ
namespace KD
/- what the document's Cost goes by -/
def manyB (k i : Nat) : Bool := (decide (k = 0) && decide (i = 10)) || (decide (k = 1) && decide (i = 4)) || (decide (k = 2) && decide (i = 8))
theorem many_lst {k : Nat} (hk : k < 3) : ((List.range (lst k).length).all fun i => ((lst k).getD i ds).each == manyB k i) = true := by
  match k, hk with
  | 0, _ => decide +kernel
  | 1, _ => decide +kernel
  | 2, _ => decide +kernel
theorem many_each {k i : Nat} (hk : k < 3) (hi : i < (lst k).length) : ((lst k).getD i ds).each = manyB k i := by
  simpa using List.all_eq_true.1 (many_lst hk) i (List.mem_range.2 hi)
set_option maxRecDepth 100000 in
set_option maxHeartbeats 8000000 in
theorem cost_ (k i : Nat) (z : Int) (w : World) (hk : k < 3) (hi : i < (lst k).length) (hz : -9223372036854775808 ≤ z ∧ z ≤ 9223372036854775807) : Calls Tryd.prog 26 #[.int .i64 k, .int .i64 i, .int .i64 z] w fun e w' => e = .returned (.int .i64 (gcost ((lst k).getD i ds).each z)) ∧ w' = w := by
  rw [many_each hk hi]
  obtain ⟨Post, hPost⟩ : ∃ P : Ending → World → Prop, P = fun e w' => e = .returned (.int .i64 (gcost (manyB k i) z)) ∧ w' = w := ⟨_, rfl⟩
  rw [← hPost]
  have HP : Hid (∀ x, x = gcost (manyB k i) z → Post (.returned (.int .i64 x)) w) := fun x h => by rw [hPost, h]; exact ⟨rfl, rfl⟩
  clear hPost hi
  have hm : manyB k i = (decide (k = 0 ∧ i = 10) || decide (k = 1 ∧ i = 4) || decide (k = 2 ∧ i = 8)) := by simp [manyB]
  rw [hm] at HP
  match k, hk with
  | 0, _ =>
    by_cases h : i = 10
    · subst h
      go_enter Tryd.func26, Tryd.ntmps26
      go_wp2_with fail
      all_goals
        refine HP.out _ ?_
        simp [gcost]
        repeat' split
        all_goals first | rfl | omega
    · have h2 : ¬ (i : Int) = 10 := by omega
      go_enter Tryd.func26, Tryd.ntmps26
      go_wp2_with fail
      refine HP.out _ ?_
      simp [gcost, h]
  | 1, _ =>
    by_cases h : i = 4
    · subst h
      go_enter Tryd.func26, Tryd.ntmps26
      go_wp2_with fail
      all_goals
        refine HP.out _ ?_
        simp [gcost]
        repeat' split
        all_goals first | rfl | omega
    · have h2 : ¬ (i : Int) = 4 := by omega
      go_enter Tryd.func26, Tryd.ntmps26
      go_wp2_with fail
      refine HP.out _ ?_
      simp [gcost, h]
  | 2, _ =>
    by_cases h : i = 8
    · subst h
      go_enter Tryd.func26, Tryd.ntmps26
      go_wp2_with fail
      all_goals
        refine HP.out _ ?_
        simp [gcost]
        repeat' split
        all_goals first | rfl | omega
    · have h2 : ¬ (i : Int) = 8 := by omega
      go_enter Tryd.func26, Tryd.ntmps26
      go_wp2_with fail
      refine HP.out _ ?_
      simp [gcost, h]
theorem getD_mem {l : List Sg} {i : Nat} (h : i < l.length) : l.getD i ds ∈ l := by
  rw [List.getD_eq_getElem?_getD, List.getElem?_eq_getElem h]
  exact List.getElem_mem h
theorem lst_al {k : Nat} (hk : k < 3) : (lst k).all (fun s => decide (s.args.length ≤ 2)) = true := by
  match k, hk with
  | 0, _ => decide +kernel
  | 1, _ => decide +kernel
  | 2, _ => decide +kernel
theorem args_len {k i : Nat} (hk : k < 3) (hi : i < (lst k).length) : ((lst k).getD i ds).args.length ≤ 2 :=
  of_decide_eq_true (List.all_eq_true.1 (lst_al hk) _ (getD_mem hi))
theorem arg_cell {W : World} {g : Nat} {s : Sg} (h : W.heap[g]? = some (argO s)) {j : Nat} (hj : j < s.args.length) : W.cell? ⟨g, j, none⟩ = some (.int .i8 (s.args.getD j 0)) := by
  unfold argO at h
  simp [World.cell?, h, ivs, List.getD_eq_getElem?_getD, List.getElem?_eq_getElem hj]
set_option maxRecDepth 100000 in
set_option maxHeartbeats 8000000 in
theorem eqSm_ (g g' : Nat) (s : Sg) (w : World) (h : w.heap[g]? = some (argO s)) (h' : w.heap[g']? = some (argO s)) (hl : s.args.length ≤ 1000) : Calls Tryd.prog 25 #[.slice (some ⟨g, 0, none⟩) s.args.length s.args.length, .slice (some ⟨g', 0, none⟩) s.args.length s.args.length] w fun e w' => e = .returned (.bool true) ∧ Up w w' := by
  obtain ⟨Post, hPost⟩ : ∃ P : Ending → World → Prop, P = fun e w' => e = .returned (.bool true) ∧ Up w w' := ⟨_, rfl⟩
  rw [← hPost]
  have HP : Hid (∀ W, Up w W → Post (.returned (.bool true)) W) := fun W u => by rw [hPost]; exact ⟨rfl, u⟩
  have HC : Hid (∀ W, Up w W → ∀ j, j < s.args.length → W.cell? ⟨g, j, none⟩ = some (.int .i8 (s.args.getD j 0)) ∧ W.cell? ⟨g', j, none⟩ = some (.int .i8 (s.args.getD j 0))) := fun W u j hj => ⟨arg_cell (u.heap h) hj, arg_cell (u.heap h') hj⟩
  clear hPost h h'
  generalize s.args.length = n at *
  go_enter Tryd.func25, Tryd.ntmps25
  go_wp2_with fail
  go_loopw [5] (fun s5 W => ∃ j : Nat, j ≤ n ∧ s5 = .int .i64 j ∧ Up w W) (fun s5 _ => n - (intOf s5).toNat)
  case atStart => exact ⟨0, by omega, rfl, Up.refl w⟩
  case round =>
    obtain ⟨j, hj, rfl, hu⟩ := hrel
    have HU : Hid (Up w wr) := hu
    clear hu
    by_cases hlt : j < n
    · have hlt2 : (j : Int) < (n : Int) := by omega
      obtain ⟨x1, x2⟩ := HC.out wr HU.out j hlt
      have ej : IntKind.i64.wrap ((j : Int) + 1) = ((j + 1 : Nat) : Int) := by rw [IntKind.wrap_i64]; omega
      generalize s.args.getD j 0 = v at *
      go_wp2_with fail
      go_quiet (fail)
      go_wp2_with fail
      go_roundw
      case rel => exact ⟨j + 1, by omega, by go_num, HU.out.drewN nq⟩
      case measure => simp [intOf]; omega
    · have hlt2 : ¬ (j : Int) < (n : Int) := by omega
      go_wp2_with fail
      exact HP.out _ HU.out
theorem call_gi (b : Bool) (args : Array Value) (W : World) : (callFunc (gi b) args).run Tryd.prog W = .ok (.enter (gi b) args) W := by
  cases b <;> rfl
set_option maxRecDepth 100000 in
set_option maxHeartbeats 8000000 in
theorem sign_ (k i : Nat) (z : Int) (g g' : Nat) (w : World) (hk : k < 3) (hi : i < (lst k).length) (hz : -9223372036854775808 ≤ z ∧ z ≤ 9223372036854775807) (h : w.heap[g]? = some (argO ((lst k).getD i ds))) (h' : w.heap[g']? = some (argO ((lst k).getD i ds))) :
    Calls Tryd.prog 7 #[.agg #[.string ((lst k).getD i ds).name, .slice (some ⟨g, 0, none⟩) ((lst k).getD i ds).args.length ((lst k).getD i ds).args.length, .int .i8 ((lst k).getD i ds).tell, .func (.func (gi ((lst k).getD i ds).each)) #[] #[]], .agg #[.string ((lst k).getD i ds).name, .slice (some ⟨g', 0, none⟩) ((lst k).getD i ds).args.length ((lst k).getD i ds).args.length, .int .i8 ((lst k).getD i ds).tell], .int .i64 k, .int .i64 i, .int .i64 z] w fun e w' => e = .returned (.bool true) ∧ Up w w' := by
  obtain ⟨Post, hPost⟩ : ∃ P : Ending → World → Prop, P = fun e w' => e = .returned (.bool true) ∧ Up w w' := ⟨_, rfl⟩
  rw [← hPost]
  have HP : Hid (∀ W, Up w W → Post (.returned (.bool true)) W) := fun W u => by rw [hPost]; exact ⟨rfl, u⟩
  have HE : Hid (∀ W, Up w W → Calls Tryd.prog 25 #[.slice (some ⟨g, 0, none⟩) ((lst k).getD i ds).args.length ((lst k).getD i ds).args.length, .slice (some ⟨g', 0, none⟩) ((lst k).getD i ds).args.length ((lst k).getD i ds).args.length] W fun e w' => e = .returned (.bool true) ∧ Up W w') := fun W u => eqSm_ g g' _ W (u.heap h) (u.heap h') (Nat.le_trans (args_len hk hi) (by decide))
  have HC : Hid (∀ W z, -9223372036854775808 ≤ z ∧ z ≤ 9223372036854775807 → Calls Tryd.prog 26 #[.int .i64 k, .int .i64 i, .int .i64 z] W fun e w' => e = .returned (.int .i64 (gcost ((lst k).getD i ds).each z)) ∧ w' = W) := fun W z hz => cost_ k i z W hk hi hz
  have HG : Hid (∀ W z, Calls Tryd.prog (gi ((lst k).getD i ds).each) #[.int .i64 z] W fun e w' => e = .returned (.int .i64 (gcost ((lst k).getD i ds).each z)) ∧ w' = W) := fun W z => gas_ _ z W
  have hfe := feql
  have hcf : ∀ (z : Int) (W : World), (callFunc (gi ((lst k).getD i ds).each) #[.int .i64 z]).run Tryd.prog W = .ok (.enter (gi ((lst k).getD i ds).each) #[.int .i64 z]) W := fun z W => call_gi _ _ W
  clear hPost h h'
  generalize hsg : (lst k).getD i ds = sg at *
  clear hsg
  obtain ⟨nm, ar, tl, ec⟩ := sg
  dsimp only at *
  generalize gi ec = gf at *
  generalize ar.length = q at *
  go_enter Tryd.func7, Tryd.ntmps7
  go_wp2_with fail
  refine (HE.out _ (((Up.refl w).alloc _).alloc _)).mono ?_
  rintro r W2 ⟨rfl, u2⟩
  have HU : Hid (Up w W2) := (((Up.refl w).alloc _).alloc _).trans u2
  have x3 : W2.cell? ⟨w.heap.size, 3, none⟩ = some (.func (.func gf) #[] #[]) := by
    have h9 := u2.heap (((Up.refl _).alloc (.cells #[.string nm, .slice (some ⟨g', 0, none⟩) q q, .int .i8 tl] 57)).heap (heap_alloc_new w (.cells #[.string nm, .slice (some ⟨g, 0, none⟩) q q, .int .i8 tl, .func (.func gf) #[] #[]] 55)))
    simp [World.cell?, h9]
  clear u2 HE
  go_wp2_with fail
  refine (HG.out _ _).mono ?_
  rintro r W3 ⟨rfl, hw⟩
  obtain rfl := hw.symm
  clear hw
  go_wp2_with fail
  refine (HC.out _ _ hz).mono ?_
  rintro r W3 ⟨rfl, hw⟩
  obtain rfl := hw.symm
  clear hw
  go_wp2_with fail
  refine (HG.out _ _).mono ?_
  rintro r W3 ⟨rfl, hw⟩
  obtain rfl := hw.symm
  clear hw
  go_wp2_with fail
  refine (HC.out _ _ (by decide)).mono ?_
  rintro r W3 ⟨rfl, hw⟩
  obtain rfl := hw.symm
  clear hw
  go_wp2_with fail
  exact HP.out _ HU.out
end KD
end Go.Proofs.YtifabdnjdadkbaaDoor
