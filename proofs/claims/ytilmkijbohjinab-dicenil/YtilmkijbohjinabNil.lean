/-
  Dice that nobody made: every call of them.
-/
import Derived.RangeFuncNested
import Derived.RangeFuncBound
import Derived.RangeFuncCalls
import Derived.RangeFuncLeaves
import Derived.Shelf.Abstract
import Derived.WalkKit
import Derived.OwnWalkIn
import Derived.TacticsInMore
import Derived.LoopNIn
import Derived.LoopIn
import Derived.Test.YtilmkijbohjinabLiveB
namespace Go.Proofs.Ytilmkijbohjinab
open Go.RowKit
attribute [local go_sem] Oper.semAt_some

def Dead (w : World) (p : Option Addr) : Prop := p = none ∨ ∃ b, p = some ⟨b, 0, none⟩ ∧ w.heap[b]? = some (.cells #[.int .u64 0, .bool false] 32 (0, 0))
theorem Dead.up {w w' : World} {p : Option Addr} (h : Dead w p) (u : Up w w') : Dead w' p := by
  rcases h with rfl | ⟨b, rfl, h⟩
  · exact .inl rfl
  · exact .inr ⟨b, rfl, u.heap h⟩
theorem noneT (p : Option Addr) (w : World) (h : Dead w p) :
    Calls Try.prog 15 #[.pointer p] w fun e w' => e = .returned (.bool true) ∧ w' = w := by
  rcases h with rfl | ⟨b, rfl, h⟩
  · go_enter Try.func15, Try.ntmps15
    go_wp2
    go_ret
    exact ⟨rfl, rfl⟩
  · have c1 : w.cell? ⟨b, 1, none⟩ = some (.bool false) := by simp [World.cell?, h]
    go_enter Try.func15, Try.ntmps15
    go_wp2
    go_ret
    exact ⟨rfl, rfl⟩
theorem nextN (p : Option Addr) (w : World) (h : Dead w p) :
    Calls Try.prog 8 #[.pointer p] w fun e w' => e = .returned (.int .u64 0) ∧ w' = w := by
  have HN : Hid (Dead w p) := h
  clear h
  go_enter Try.func8, Try.ntmps8
  go_wp2_with fail
  refine (noneT p _ HN.out).mono ?_
  rintro e w1 ⟨rfl, rfl⟩
  go_wp2
  go_ret
  exact ⟨rfl, rfl⟩
theorem prodN (n : Nat) : hiP 0 n = 0 := by unfold hiP; rw [Nat.zero_mul]
theorem belowN (p : Option Addr) (n : Int) (w : World) (h : Dead w p) (h2 : n ≤ 9223372036854775807) :
    Calls Try.prog 10 #[.pointer p, .int .i64 n] w fun e w' => e = .returned (.int .i64 0) ∧ w' = w := by
  have HN : Hid (Dead w p) := h
  clear h
  by_cases h1 : n < 1
  · go_enter Try.func10, Try.ntmps10
    go_wp2
    go_ret
    exact ⟨rfl, rfl⟩
  · obtain ⟨k, rfl⟩ := Int.eq_ofNat_of_zero_le (show 0 ≤ n by omega)
    have e1 : IntKind.u64.wrap (k : Int) = (k : Int) := wrapN k (by omega)
    have hp := product 0 k (by decide) (by omega) w
    rw [prodN] at hp
    have HP : Hid (Calls Try.prog _ _ w _) := hp
    clear hp
    go_enter Try.func10, Try.ntmps10
    go_wp2_with fail
    refine (nextN p _ HN.out).mono ?_
    rintro e w1 ⟨rfl, rfl⟩
    go_wp2_with fail
    refine HP.out.mono ?_
    rintro e w2 ⟨rfl, rfl⟩
    go_wp2
    go_ret
    exact ⟨rfl, rfl⟩
theorem shareN (p : Option Addr) (w : World) (h : Dead w p) :
    Calls Try.prog 17 #[.pointer p] w fun e w' => e = .returned (.float .f64 0) ∧ w' = w := by
  have HN : Hid (Dead w p) := h
  clear h
  have hrun : ∀ (w : World) (t : TypeId), (binOp .quo t (.float .f64 (floatOfInt .f64 0)) (.float .f64 4845873199050653696)).run Try.prog w = .ok (.float .f64 0) w := fun w t => run_float_arith (P := Try.prog) w .quo t .f64 _ _ _ (div53 0 (by decide))
  go_enter Try.func17, Try.ntmps17
  go_wp2_with fail
  refine (nextN p _ HN.out).mono ?_
  rintro e w1 ⟨rfl, rfl⟩
  go_wp2
  go_ret
  exact ⟨rfl, rfl⟩
theorem orderN (p : Option Addr) (n : Int) (w : World) (h : Dead w p) :
    Calls Try.prog 12 #[.pointer p, .int .i64 n] w fun e w' => e = .returned (.slice none 0 0) ∧ Up w w' := by
  have HN : Hid (Dead (w.alloc (.cells #[.pointer p] 24)) p) := h.up ((Up.refl w).alloc _)
  have c0 : (w.alloc (.cells #[.pointer p] 24)).cell? ⟨w.heap.size, 0, none⟩ = some (.pointer p) := by simp
  clear h
  go_enter Try.func12, Try.ntmps12
  go_wp2_with fail
  refine (noneT p _ HN.out).mono ?_
  rintro e w1 ⟨rfl, rfl⟩
  go_wp2
  go_ret
  exact ⟨rfl, (Up.refl w).alloc _⟩
theorem allP (p : Option Addr) (w : World) :
    Calls Try.prog 7 #[.pointer p] w fun e w' => e = .returned (.func (.func 14) #[] #[.pointer (some ⟨w.heap.size, 0, none⟩)]) ∧ w' = w.alloc (.cells #[.pointer p] 24) := by
  go_enter Try.func7, Try.ntmps7
  go_wp2
  go_ret
  exact ⟨rfl, rfl⟩
/- the iterator of dice that nobody made gives nothing -/
theorem all_none (n : Nat) (c n₀ : Nat) (p : Option Addr) (w : World) (hc : w.heap[c]? = some (.cells #[.pointer p] 24 (0, 0))) (hd : Dead w p) :
    SeqStopsK Fence.wide n Try.prog 14 #[.pointer (some ⟨c, 0, none⟩)] (fun v : Int => #[Value.int .u64 v]) (Below n₀) (fun xs => xs = []) (fun _ => False) 0 w := fun l J Jx W hW _ _ _ h0 => by
  have hc2 : W.cell? ⟨c, 0, none⟩ = some (.pointer p) := Up.cell (w := w) hW (by simp [World.cell?, hc])
  have HN : Hid (Dead W p) := hd.up hW
  refine callsIn_of_wp Try.func14 rfl trivial ?_ rfl
  simp only [Try.ntmps14, List.size_toArray, List.length_cons, List.length_nil, Nat.reduceAdd, Nat.reduceSub, Array.replicate_succ, Array.replicate_zero, List.push_toArray, List.append_toArray, List.nil_append, List.cons_append]
  refine wpIn_wide.2 ?_
  go_wp2_with fail
  refine (noneT p _ HN.out).mono ?_
  rintro e w1 ⟨rfl, rfl⟩
  go_wp2
  refine bodyPost_ret (results_none rfl _ _ _) rfl ?_
  exact ⟨⟨_, rfl⟩, .inl ⟨[], rfl, h0⟩⟩
theorem flt00 : (FloatKind.f64.format.order 0 0 == some .eq) = true := by decide +kernel
theorem func_nil (fn : Fn) (f c : Array Value) (w : World) : (binOp .eql 27 (.func fn f c) Value.nilFunc).run Try.prog w = .ok (.bool false) w := by
  have hd : Op.maxDepth = (Op.maxDepth - 1) + 1 := by decide
  simp only [binOp, Op.equal]
  rw [hd]
  simp [Op.equalIn, run_underlying Try.underlying27, Result.andThen, go_sem]
def SilPost (w : World) (e : Ending) (w' : World) : Prop := e = .returned (.bool true) ∧ Up w w'
set_option maxHeartbeats 1000000 in
set_option maxRecDepth 100000 in
theorem silent (p : Option Addr) (n : Int) (w : World) (hd : Dead w p) (hn : n ≤ 9223372036854775807) :
    Calls Try.prog 9 #[.pointer p, .int .i64 n] w (SilPost w) := by
  have HD : Hid (∀ w', Up w w' → Dead w' p) := fun w' u => hd.up u
  clear hd
  have HP : Hid (∀ e w', SilPost w e w' = (e = .returned (.bool true) ∧ Up w w')) := fun _ _ => rfl
  obtain ⟨Post, hPost⟩ : ∃ P : Ending → World → Prop, P = SilPost w := ⟨_, rfl⟩
  rw [← hPost]
  have HPost : Hid (Post = SilPost w) := hPost
  clear hPost HP
  have hnf := func_nil
  refine (callsIn_wide (n := 3)).1 ?_
  refine callsIn_of_wp_marks Try.func9 rfl trivial ?_ rfl
  simp only [Try.ntmps9, List.size_toArray, List.length_cons, List.length_nil, Nat.reduceAdd, Nat.reduceSub, Array.replicate_succ, Array.replicate_zero, List.push_toArray, List.append_toArray, List.nil_append, List.cons_append]
  refine wpIn_wide.2 ?_
  go_wp2_with fail
  refine (allP p _).mono ?_
  rintro e w1 ⟨rfl, rfl⟩
  go_wp2_with fail
  obtain ⟨W1, hW1⟩ : ∃ W, W = (w.alloc (.cells #[.bool false] 4)).alloc (.cells #[.pointer p] 24) := ⟨_, rfl⟩
  have u1 : Up w W1 := by rw [hW1]; exact ((Up.refl w).alloc _).alloc _
  have hc1 : W1.heap[w.heap.size + 1]? = some (.cells #[.pointer p] 24 (0, 0)) := by
    rw [hW1]
    have := heap_alloc_last (w.alloc (.cells #[.bool false] 4)) (.cells #[.pointer p] 24)
    rwa [World.size_alloc] at this
  have hr1 : W1.heap[w.heap.size]? = some (.cells #[.bool false] 4 (0, 0)) := by
    rw [hW1, Below.heap_alloc _ _ _ (by simp)]
    exact heap_alloc_last _ _
  have hsz1 : W1.heap.size = w.heap.size + 1 + 1 := by rw [hW1]; simp
  rw [← hW1]
  clear hW1
  refine (wpIn_wide (n := 3)).1 ?_
  refine wpIn_rangeFunc_ownF (F := Fence.wide) rfl (by decide) (gf := 14) (lb := #[.pointer (some ⟨w.heap.size + 1, 0, none⟩)]) rfl trivial (enters_of Try.func14 (by kernel_rfl) rfl)
    (all_none _ (w.heap.size + 1) w.heap.size p W1 hc1 (HD.out _ u1)) belowK_t (belowK_b (by omega)) (Below.refl _ _) (fun _ => rfl)
    (fun _ W => W.heap[w.heap.size]? = some (.cells #[.bool false] 4 (0, 0)) ∧ Below w.heap.size w W)
    (fun _ _ _ => False)
    (OwnFrom.and (fun _ X Y row hs hg hr => by
      refine (hg.block _ (Array.getElem?_eq_some_iff.1 hs).1 (fun e => ?_)).trans hs
      obtain ⟨_, o, ho, hc⟩ := hr _ e.symm
      rw [hs] at ho; cases ho; cases hc) (ownFrom_below (Nat.le_refl _) (by omega)))
    (fun _ _ _ _ _ hs _ _ => hs)
    ⟨hr1, u1⟩
    ?a1 ?assign ?body ?done ?stop
  case assign =>
    intro l x W K hK
    gi_wp2
    exact hK
  case body => intro l pre x W _ h; exact absurd h (Nat.not_lt_zero _)
  case stop => intro D c pre W _ h; exact h.elim
  case done =>
    rintro D xs W hD rfl ⟨hres, hbw⟩ hK
    simp only
    go_wp2_with fail
    refine (nextN p _ (HD.out _ hbw)).mono ?_
    rintro e w2 ⟨rfl, rfl⟩
    go_wp2_with fail
    refine (belowN p n _ (HD.out _ hbw) hn).mono ?_
    rintro e w2 ⟨rfl, rfl⟩
    have hf0 := flt00
    go_wp2_with fail
    refine (shareN p _ (HD.out _ hbw)).mono ?_
    rintro e w2 ⟨rfl, rfl⟩
    go_wp2_with fail
    refine (orderN p 7 _ (HD.out _ hbw)).mono ?_
    rintro e w2 ⟨rfl, u2⟩
    have hbw2 : Up w w2 := Up.trans hbw u2
    have hres2 := u2.heap hres
    have hK2 := u2.heap hK
    clear hres hK hbw u2
    go_wp2_with fail
    refine (nextN p _ (HD.out _ hbw2)).mono ?_
    rintro e w3 ⟨rfl, rfl⟩
    have cr : w3.cell? ⟨w.heap.size, 0, none⟩ = some (.bool false) := cell_of_one hres2
    have fr : w3.frozen? ⟨w.heap.size, 0, none⟩ = false := free_of_one hres2
    go_wp2
    have hK3 : (w3.setCell ⟨w.heap.size, 0, none⟩ (.bool true)).heap[D]? = some (.deferred (some [])) := by
      rw [Below.heap_setCell _ _ _ _ (by show D ≠ w.heap.size; omega)]; exact hK2
    refine ⟨by simp, .inl ⟨_, _, rfl, run_takeDeferred hK3, ?_⟩⟩
    have hc5 := cell_kept (World.cell?_setCell_same' w3 ⟨w.heap.size, 0, none⟩ (.bool true) (by rw [cr]; rfl)) (grownBy_putObj' _ D (.deferred none)) (fun r e => by cases e; exact ⟨_, hK3, rfl⟩)
    refine ⟨.bool true, ?_, ?_⟩
    · simp [results, Try.f9, go_sem, hc5]
    · rw [HPost.out]
      exact ⟨rfl, (Below.setCell (p := ⟨w.heap.size, 0, none⟩) hbw2 (Nat.le_refl _) _).trans (belowK_b (w := w) (Nat.le_refl _) _ D _ _ (by omega) hK3 rfl rfl)⟩
set_option maxHeartbeats 1000000 in
theorem nilWalk (n : Int) (w : World) (hn : n ≤ 9223372036854775807) :
    Calls Try.prog 4 #[.int .i64 n] w fun e w' => e = .returned (.bool true) ∧ Up w w' := by
  have h1 : Dead (w.alloc (.cells #[.int .u64 0, .bool false] 32)) none := .inl rfl
  have h2 : Dead (w.alloc (.cells #[.int .u64 0, .bool false] 32)) (some ⟨w.heap.size, 0, none⟩) := .inr ⟨_, rfl, heap_alloc_last _ _⟩
  have u1 := (Up.refl w).alloc (.cells #[.int .u64 0, .bool false] 32)
  have HD : Hid (Dead (w.alloc (.cells #[.int .u64 0, .bool false] 32)) none ∧ Dead (w.alloc (.cells #[.int .u64 0, .bool false] 32)) (some ⟨w.heap.size, 0, none⟩)) := ⟨h1, h2⟩
  clear h1 h2
  go_enter Try.func4, Try.ntmps4
  go_wp2_with fail
  refine (silent none n _ HD.out.1 hn).mono ?_
  rintro e w2 ⟨rfl, u2⟩
  go_wp2_with fail
  refine (silent _ n _ (HD.out.2.up u2) hn).mono ?_
  rintro e w3 ⟨rfl, u3⟩
  go_wp2_with fail
  refine (lives _).mono ?_
  rintro e w4 ⟨rfl, u4⟩
  go_wp2
  go_ret
  exact ⟨rfl, ((u1.trans u2).trans u3).trans u4⟩
end Go.Proofs.Ytilmkijbohjinab
