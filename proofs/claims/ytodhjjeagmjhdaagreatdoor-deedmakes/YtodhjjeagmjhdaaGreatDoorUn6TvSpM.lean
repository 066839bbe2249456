/- Un6, Sm6, Sp -/
import Derived.Test.YtodhjjeagmjhdaaGreatDoorBc6VM
import Derived.Test.YtodhjjeagmjhdaaGreatDoorEl6TvDw6M
import Derived.Test.YtodhjjeagmjhdaaGreatDoorWsTvEvM
namespace Go.Proofs.YtodhjjeagmjhdaaGreatDoor
open Go.RowKit
attribute [local go_sem ↓] Go.wp_at_zero Go.wp_at_succ
namespace DE
open Go.Proofs.YtodhjjeagmjhdaaGreatDoor.ST
set_option maxRecDepth 100000 in
set_option maxHeartbeats 4000000 in
theorem undo1_ (v vo : Value) (s : Stt) (e : Ev) (w : World) (hs : StL w v s) (hsm : Small s) (ho : IL w vo e.ord) (hn : e.ord.length <= 4294967296) :
  Calls Tryz.prog 21 #[v, evv e vo] w (AppV w (bckO s [e])) := by
 obtain ⟨Post, hPost⟩ : ∃ P : Ending -> World -> Prop, P = AppV w (bckO s [e]) := ⟨_, rfl⟩
 rw [<- hPost]
 have HP : Hid (Post = AppV w (bckO s [e])) := hPost
 obtain ⟨oa, oc, rfl, -, -⟩ := il_at ho
 have HR : Hid (∀ W g, Up w W -> W.heap[g]? = some (.cells (evc e (.slice oa e.ord.length oc)) 30 (0, 0)) -> Calls Tryz.prog 26 #[v, .slice (some ⟨g, 0, none⟩) 1 1] W (RepV W (bckO s [e]))) := fun W g u hg =>
  back_ v _ s [e] W (hs.up u) hsm (evs_one hg (IL.up ho u)) (by simp) (fun i hi => by
   simp only [List.length_singleton] at hi
   obtain rfl : i = 0 := by omega
   show e.ord.length <= _
   omega)
 obtain ⟨vp, vc, vz, hv, h1, h2, h3⟩ := hs
 obtain ⟨a1, k1, rfl, -, -⟩ := lc_at h1
 obtain ⟨a2, k2, rfl, -, -⟩ := lc_at h2
 obtain ⟨a3, k3, rfl, -, -⟩ := zl_at h3
 unfold sv at hv
 clear h1 h2 h3 hsm hPost ho hn
 subst hv
 generalize bckO s [e] = o at *
 obtain ⟨W0, hW0⟩ : ∃ W0, (((w.alloc (.cells #[.slice a1 s.ps.length k1, .slice a2 s.cs.length k2, .slice a3 s.zs.length k3, .int .i32 s.turn, .int .i64 s.whose, .int .i8 s.fin, .int .i64 s.winner] 27)).alloc (.cells (evc e (.slice oa e.ord.length oc)) 30)).alloc (.cells zS 27)).alloc (.cells (evc e (.slice oa e.ord.length oc)) 30) = W0 := ⟨_, rfl⟩
 have h2 : W0.heap[w.heap.size + 2]? = some (.cells zS 27 (0, 0)) := by
  rw [<- hW0, Below.heap_alloc _ _ _ (by simp)]
  have := heap_alloc_new ((w.alloc (.cells #[.slice a1 s.ps.length k1, .slice a2 s.cs.length k2, .slice a3 s.zs.length k3, .int .i32 s.turn, .int .i64 s.whose, .int .i8 s.fin, .int .i64 s.winner] 27)).alloc (.cells (evc e (.slice oa e.ord.length oc)) 30)) (.cells zS 27)
  simpa using this
 have h3 : W0.heap[w.heap.size + 3]? = some (.cells (evc e (.slice oa e.ord.length oc)) 30 (0, 0)) := by
  rw [<- hW0]
  have := heap_alloc_new (((w.alloc (.cells #[.slice a1 s.ps.length k1, .slice a2 s.cs.length k2, .slice a3 s.zs.length k3, .int .i32 s.turn, .int .i64 s.whose, .int .i8 s.fin, .int .i64 s.winner] 27)).alloc (.cells (evc e (.slice oa e.ord.length oc)) 30)).alloc (.cells zS 27)) (.cells (evc e (.slice oa e.ord.length oc)) 30)
  simpa using this
 have hu : Up w W0 := by rw [<- hW0]; exact ((((Up.refl _).alloc _).alloc _).alloc _).alloc _
 have hsz : w.heap.size <= W0.heap.size := hu.size
 unfold evv evc
 go_enter Tryz.func21, Tryz.ntmps21
 go_wp2_with fail
 refine calls_world hW0 (Calls.mono (HR.out W0 (w.heap.size + 3) hu h3) ?_)
 rintro r W1 ⟨v', rfl, so, u1⟩
 obtain ⟨C, rfl, hC1, hC2⟩ := SOA.row so
 obtain ⟨W2, hW2⟩ : ∃ W2, (W1.alloc (.cells zS 27)).setRow W1.heap.size C = W2 := ⟨_, rfl⟩
 obtain ⟨f1, f2, -⟩ := filled W1 zS C 27
 rw [hW2] at f1 f2
 have g2 : W2.heap[w.heap.size + 2]? = some (.cells zS 27 (0, 0)) := (u1.trans f2).heap h2
 have HE : Hid (AppV w o (.returned (.tuple #[.agg C, .int .i64 (errOf o)])) (W2.setRow (w.heap.size + 2) C)) :=
  ⟨_, rfl, SOA.setRow ((so.less hsz).up f2) g2, up_setRow (hu.trans (u1.trans f2)) (by omega) _⟩
 clear hW0 h2 h3 hu u1 f2 HR so
 go_wp2_with (first | (refine wpList_store_row rfl 27 (.tmp 6) (.tmp 14) rfl W1.heap.size C rfl rfl 27 zS (heap_alloc_new W1 _) (by rw [hC1]; exact infoSt) (by rw [hC1]; rfl) hC2 ?_; refine wpList_world hW2 ?_) | (refine wpList_load_row rfl 27 (.tmp 6) rfl W1.heap.size rfl 27 C (0, 0) _ f1 Tryz.underlying27 rfl (by rw [hC1]; exact infoSt) ?_) | (refine wpList_store_row rfl 27 (.tmp 4) (.tmp 17) rfl (w.heap.size + 2) C rfl rfl 27 zS g2 (by rw [hC1]; exact infoSt) (by rw [hC1]; rfl) hC2 ?_))
 refine bodyPost_ret (v := .tuple #[.agg C, .int .i64 (errOf o)]) (results_c1 (p := 4) (q := 5) (ty := 27) rfl _ _ (w.heap.size + 2) 27 C (0, 0) _ _ rfl rfl (setRow_heap _ _ _ _ _ _ g2) Tryz.underlying27 rfl (by rw [hC1]; exact infoSt)) rfl ?_
 rw [HP.out]
 exact HE.out
end DE
end Go.Proofs.YtodhjjeagmjhdaaGreatDoor
namespace Go.Proofs.YtodhjjeagmjhdaaGreatDoor
open Go.RowKit
attribute [local go_sem ↓] Go.wp_at_zero Go.wp_at_succ
namespace DE
open Go.Proofs.YtodhjjeagmjhdaaGreatDoor.ST
def smS : Stt := ⟨[⟨20, 0, false⟩, ⟨20, 0, false⟩], [⟨0, 0, 1, 2, 0, 0⟩, ⟨0, 1, 1, 2, 0, 0⟩], [[0], [], [], [], [], [], [1], []], 1, 0, 0, 0⟩
theorem sm_ok : ff smS = none := by decide
theorem six_blocks (w : World) (o0 o1 o2 o3 o4 o5 : Obj) : ∀ W, W = (((((w.alloc o0).alloc o1).alloc o2).alloc o3).alloc o4).alloc o5 -> W.heap[w.heap.size]? = some o0 /\ W.heap[w.heap.size + 1]? = some o1 /\ W.heap[w.heap.size + 1 + 1]? = some o2 /\ W.heap[w.heap.size + 1 + 1 + 1]? = some o3 /\ W.heap[w.heap.size + 1 + 1 + 1 + 1]? = some o4 /\ W.heap[w.heap.size + 1 + 1 + 1 + 1 + 1]? = some o5 /\ Up w W := by
 intro W h
 subst h
 have g0 := heap_alloc_new w o0
 have u0 : Up (w.alloc o0) ((((((w.alloc o0).alloc o1).alloc o2).alloc o3).alloc o4).alloc o5) := ((((((Up.refl _).alloc _).alloc _).alloc _).alloc _).alloc _)
 have s1 : (w.alloc o0).heap.size = w.heap.size + 1 := by simp
 have g1 := heap_alloc_new (w.alloc o0) o1
 rw [s1] at g1
 have u1 : Up ((w.alloc o0).alloc o1) ((((((w.alloc o0).alloc o1).alloc o2).alloc o3).alloc o4).alloc o5) := (((((Up.refl _).alloc _).alloc _).alloc _).alloc _)
 have s2 : ((w.alloc o0).alloc o1).heap.size = w.heap.size + 1 + 1 := by simp
 have g2 := heap_alloc_new ((w.alloc o0).alloc o1) o2
 rw [s2] at g2
 have u2 : Up (((w.alloc o0).alloc o1).alloc o2) ((((((w.alloc o0).alloc o1).alloc o2).alloc o3).alloc o4).alloc o5) := ((((Up.refl _).alloc _).alloc _).alloc _)
 have s3 : (((w.alloc o0).alloc o1).alloc o2).heap.size = w.heap.size + 1 + 1 + 1 := by simp
 have g3 := heap_alloc_new (((w.alloc o0).alloc o1).alloc o2) o3
 rw [s3] at g3
 have u3 : Up ((((w.alloc o0).alloc o1).alloc o2).alloc o3) ((((((w.alloc o0).alloc o1).alloc o2).alloc o3).alloc o4).alloc o5) := (((Up.refl _).alloc _).alloc _)
 have s4 : ((((w.alloc o0).alloc o1).alloc o2).alloc o3).heap.size = w.heap.size + 1 + 1 + 1 + 1 := by simp
 have g4 := heap_alloc_new ((((w.alloc o0).alloc o1).alloc o2).alloc o3) o4
 rw [s4] at g4
 have u4 : Up (((((w.alloc o0).alloc o1).alloc o2).alloc o3).alloc o4) ((((((w.alloc o0).alloc o1).alloc o2).alloc o3).alloc o4).alloc o5) := ((Up.refl _).alloc _)
 have s5 : (((((w.alloc o0).alloc o1).alloc o2).alloc o3).alloc o4).heap.size = w.heap.size + 1 + 1 + 1 + 1 + 1 := by simp
 have g5 := heap_alloc_new (((((w.alloc o0).alloc o1).alloc o2).alloc o3).alloc o4) o5
 rw [s5] at g5
 have u5 : Up ((((((w.alloc o0).alloc o1).alloc o2).alloc o3).alloc o4).alloc o5) ((((((w.alloc o0).alloc o1).alloc o2).alloc o3).alloc o4).alloc o5) := (Up.refl _)
 exact ⟨u0.heap g0, u1.heap g1, u2.heap g2, u3.heap g3, u4.heap g4, u5.heap g5, ((((((Up.refl _).alloc _).alloc _).alloc _).alloc _).alloc _).alloc _⟩
set_option maxRecDepth 100000 in
set_option maxHeartbeats 4000000 in
theorem small_ (w : World) : Calls Tryz.prog 75 #[] w (CpPost w fun W v => SOA w.heap.size W v smS) := by
 obtain ⟨Post, hPost⟩ : ∃ P : Ending -> World -> Prop, P = CpPost w fun W v => SOA w.heap.size W v smS := ⟨_, rfl⟩
 rw [<- hPost]
 have HP : Hid _ := hPost
 clear hPost
 go_enter Tryz.func75, Tryz.ntmps75
 go_wp2
 obtain ⟨W6, hW6⟩ : ∃ W6, W6 = (((((w.alloc (.cells #[.slice (some ⟨w.heap.size + 1, 0, none⟩) 2 2, .slice (some ⟨w.heap.size + 1 + 1, 0, none⟩) 2 2, .slice (some ⟨w.heap.size + 1 + 1 + 1 + 1 + 1, 0, none⟩) 8 8, .int .i32 1, .int .i64 0, .int .i8 0, .int .i64 0] 27)).alloc (.cells #[.int .i32 20, .int .i32 0, .bool false, .int .i32 20, .int .i32 0, .bool false] 97)).alloc (.cells #[.int .i64 0, .int .i64 0, .int .i32 1, .int .i32 2, .int .i32 0, .int .i32 0, .int .i64 0, .int .i64 1, .int .i32 1, .int .i32 2, .int .i32 0, .int .i32 0] 95)).alloc (.cells #[.int .i64 0] 3)).alloc (.cells #[.int .i64 1] 3)).alloc (.cells #[.slice (some ⟨w.heap.size + 1 + 1 + 1, 0, none⟩) 1 1, .slice none 0 0, .slice none 0 0, .slice none 0 0, .slice none 0 0, .slice none 0 0, .slice (some ⟨w.heap.size + 1 + 1 + 1 + 1, 0, none⟩) 1 1, .slice none 0 0] 28) := ⟨_, rfl⟩
 obtain ⟨g0, g1, g2, g3, g4, g5, gu⟩ := six_blocks w _ _ _ _ _ _ W6 hW6
 rw [<- hW6]
 refine bodyPost_ret (v := .agg #[.slice (some ⟨w.heap.size + 1, 0, none⟩) 2 2, .slice (some ⟨w.heap.size + 1 + 1, 0, none⟩) 2 2, .slice (some ⟨w.heap.size + 1 + 1 + 1 + 1 + 1, 0, none⟩) 8 8, .int .i32 1, .int .i64 0, .int .i8 0, .int .i64 0]) (results_cell_row (p := 0) (ty := 27) rfl _ _ w.heap.size 27 _ (0, 0) _ rfl g0 Tryz.underlying27 rfl infoSt) rfl ?_
 rw [HP.out]
 refine ⟨_, rfl, ⟨_, _, _, rfl, own_made (xs := pvs smS.ps) g1 rfl (by omega) (by unfold maxLen; decide), own_made (xs := cvs smS.cs) g2 rfl (by omega) (by unfold maxLen; decide), _, own_made (xs := [.slice (some ⟨w.heap.size + 1 + 1 + 1, 0, none⟩) 1 1, .slice none 0 0, .slice none 0 0, .slice none 0 0, .slice none 0 0, .slice none 0 0, .slice (some ⟨w.heap.size + 1 + 1 + 1 + 1, 0, none⟩) 1 1, .slice none 0 0]) g5 rfl (by omega) (by unfold maxLen; decide), fun i hi => ?_, fun p q g hp hq hpq h1 h2 => ?_⟩, gu⟩
 ·have o0 : IRow w.heap.size W6 (.slice (some ⟨w.heap.size + 1 + 1 + 1, 0, none⟩) 1 1) [0] := own_made (xs := ivs [0]) g3 rfl (by omega) (by unfold maxLen; decide)
  have o1 : IRow w.heap.size W6 (.slice (some ⟨w.heap.size + 1 + 1 + 1 + 1, 0, none⟩) 1 1) [1] := own_made (xs := ivs [1]) g4 rfl (by omega) (by unfold maxLen; decide)
  have on : IRow w.heap.size W6 (.slice none 0 0) [] := World.ownsRow_nil _ _ _ _
  have hi : i < 8 := hi
  match i, hi with
  | 0, _ => exact o0
  | 1, _ => exact on
  | 2, _ => exact on
  | 3, _ => exact on
  | 4, _ => exact on
  | 5, _ => exact on
  | 6, _ => exact o1
  | 7, _ => exact on
 ·have hp : p < 8 := hp
  have hq : q < 8 := hq
  have key : ∀ k, k < 8 -> ∀ g, (([.slice (some ⟨w.heap.size + 1 + 1 + 1, 0, none⟩) 1 1, .slice none 0 0, .slice none 0 0, .slice none 0 0, .slice none 0 0, .slice none 0 0, .slice (some ⟨w.heap.size + 1 + 1 + 1 + 1, 0, none⟩) 1 1, .slice none 0 0] : List Value).getD k nl).ownBlock = some g -> (k = 0 /\ g = w.heap.size + 1 + 1 + 1) ∨ (k = 6 /\ g = w.heap.size + 1 + 1 + 1 + 1) := by
   intro k hk g hg
   match k, hk with
   | 0, _ => simp [Value.ownBlock] at hg; omega
   | 1, _ => simp [Value.ownBlock] at hg
   | 2, _ => simp [Value.ownBlock] at hg
   | 3, _ => simp [Value.ownBlock] at hg
   | 4, _ => simp [Value.ownBlock] at hg
   | 5, _ => simp [Value.ownBlock] at hg
   | 6, _ => simp [Value.ownBlock] at hg; omega
   | 7, _ => simp [Value.ownBlock] at hg
  rcases key p hp g h1 with h | h <;> rcases key q hq g h2 with h' | h' <;> omega
end DE
end Go.Proofs.YtodhjjeagmjhdaaGreatDoor
namespace Go.Proofs.YtodhjjeagmjhdaaGreatDoor
open Go.RowKit
attribute [local go_sem ↓] Go.wp_at_zero Go.wp_at_succ
namespace ST
set_option maxRecDepth 100000 in
set_option maxHeartbeats 4000000 in
theorem spareInts_ (base : Nat) (v : Value) (l : List Int) (w : World) (hv : WI base w v l) (hn : l.length <= 4294967296) :
  Calls Tryz.prog 34 #[v] w fun e w' => e = .returned (.bool true) /\ w' = w := by
 obtain ⟨g, -, rfl, h3⟩ := hv
 obtain ⟨n, hn0⟩ : ∃ n, n = l.length := ⟨_, rfl⟩
 have HC : Hid (∀ i, n <= i -> i < n + 64 -> w.cell? ⟨g, i, none⟩ = some (.int .i64 (numI i))) := fun i h1 h2 => by
  have : w.cell? ⟨g, i, none⟩ = (wIs l)[i]? := by simp [World.cell?, h3]
  rw [this, wIs_get l i (by omega), wI, if_neg (by omega)]
 rw [<- hn0] at hn ⊢
 clear h3 hn0
 have e1 : (n : Int) + 64 <= (n : Int) + 64 := by omega
 have e2 : (0 : Int) <= (n : Int) + 64 := by omega
 have e3 : ((n : Int) + 64).toNat = n + 64 := by omega
 go_enter Tryz.func34, Tryz.ntmps34
 go_wp2_with fail
 go_loopw [2, 4] (fun s2 s4 wr => ∃ i : Nat, n <= i /\ i <= n + 64 /\ s2 = .bool false /\ s4 = .int .i64 i /\ wr = w) (fun _ s4 _ => n + 64 - (intOf s4).toNat)
 case atStart => exact ⟨n, Nat.le_refl _, by omega, rfl, rfl, rfl⟩
 case round =>
  obtain ⟨i, hi1, hi2, rfl, rfl, rfl⟩ := hrel
  by_cases hlt : i < n + 64
  ·have hlt2 : (i : Int) < (n : Int) + 64 := by omega
   have x1 := HC.out i hi1 hlt
   have HNm : Hid _ := num_ i (by omega)
   generalize numI i = z at x1 HNm
   go_wp2_with fail
   refine Calls.mono (HNm.out _) ?_
   rintro e w2 ⟨rfl, rfl⟩
   go_wp2
   go_roundw
   case rel => exact ⟨i + 1, by omega, by omega, rfl, by go_num, by first | rfl | trivial⟩
   case measure => simp [intOf]; omega
  ·have hlt2 : ¬ (i : Int) < (n : Int) + 64 := by omega
   go_wp2
   go_ret
   exact ⟨rfl, rfl⟩
end ST
end Go.Proofs.YtodhjjeagmjhdaaGreatDoor
