/-
  Apply: Replay of one event alone.
-/
import Derived.Test.YtodhjjeagmjhdaaGreatDoorRp6VX
namespace Go.Proofs.YtodhjjeagmjhdaaGreatDoor
open Go.RowKit
attribute [local go_sem ↓] Go.wp_at_zero Go.wp_at_succ
namespace DE
open Go.Proofs.YtodhjjeagmjhdaaGreatDoor.ST
set_option maxRecDepth 100000 in
set_option maxHeartbeats 4000000 in
theorem apply_ (v vo : Value) (s : Stt) (e : Ev) (w : World) (hs : StL w v s) (hsm : Small s) (ho : IL w vo e.ord) (hn : e.ord.length <= 4294967296) :
  Calls Tryz.prog 11 #[v,evv e vo] w (AppV w (repO s [e])) := by
 obtain ⟨Post,hPost⟩ : ∃ P : Ending -> World -> Prop,P = AppV w (repO s [e]) := ⟨_,rfl⟩
 rw [<- hPost]
 have HP : Hid (Post = AppV w (repO s [e])) := hPost
 obtain ⟨oa,oc,rfl,-,-⟩ := il_at ho
 have HR : Hid (∀ W g,Up w W -> W.heap[g]? = some (.cells (evc e (.slice oa e.ord.length oc)) 30 (0,0)) -> Calls Tryz.prog 24 #[v,.slice (some ⟨g,0,none⟩) 1 1] W (RepV W (repO s [e]))) := fun W g u hg =>
  replay_ v _ s [e] W (hs.up u) hsm (evs_one hg (IL.up ho u)) (by simp) (fun i hi=>by
   simp only [List.length_singleton] at hi
   obtain rfl : i = 0 := by omega
   show e.ord.length <= _
   omega)
 obtain ⟨vp,vc,vz,hv,h1,h2,h3⟩ := hs
 obtain ⟨a1,k1,rfl,-,-⟩ := lc_at h1
 obtain ⟨a2,k2,rfl,-,-⟩ := lc_at h2
 obtain ⟨a3,k3,rfl,-,-⟩ := zl_at h3
 unfold sv at hv
 clear h1 h2 h3 hsm hPost ho hn
 subst hv
 generalize repO s [e] = o at *
 obtain ⟨W0,hW0⟩ : ∃ W0,(((w.alloc (.cells #[.slice a1 s.ps.length k1,.slice a2 s.cs.length k2,.slice a3 s.zs.length k3,.int .i32 s.turn,.int .i64 s.whose,.int .i8 s.fin,.int .i64 s.winner] 27)).alloc (.cells (evc e (.slice oa e.ord.length oc)) 30)).alloc (.cells zS 27)).alloc (.cells (evc e (.slice oa e.ord.length oc)) 30) = W0 := ⟨_,rfl⟩
 have h2 : W0.heap[w.heap.size + 2]? = some (.cells zS 27 (0,0)) := by
  rw [<- hW0,Below.heap_alloc _ _ _ (by simp)]
  have := heap_alloc_new ((w.alloc (.cells #[.slice a1 s.ps.length k1,.slice a2 s.cs.length k2,.slice a3 s.zs.length k3,.int .i32 s.turn,.int .i64 s.whose,.int .i8 s.fin,.int .i64 s.winner] 27)).alloc (.cells (evc e (.slice oa e.ord.length oc)) 30)) (.cells zS 27)
  simpa using this
 have h3 : W0.heap[w.heap.size + 3]? = some (.cells (evc e (.slice oa e.ord.length oc)) 30 (0,0)) := by
  rw [<- hW0]
  have := heap_alloc_new (((w.alloc (.cells #[.slice a1 s.ps.length k1,.slice a2 s.cs.length k2,.slice a3 s.zs.length k3,.int .i32 s.turn,.int .i64 s.whose,.int .i8 s.fin,.int .i64 s.winner] 27)).alloc (.cells (evc e (.slice oa e.ord.length oc)) 30)).alloc (.cells zS 27)) (.cells (evc e (.slice oa e.ord.length oc)) 30)
  simpa using this
 have hu : Up w W0 := by rw [<- hW0]; exact ((((Up.refl _).alloc _).alloc _).alloc _).alloc _
 have hsz : w.heap.size <= W0.heap.size := hu.size
 unfold evv evc
 go_enter Tryz.func11,Tryz.ntmps11
 go_wp2_with fail
 refine calls_world hW0 (Calls.mono (HR.out W0 (w.heap.size + 3) hu h3) ?_)
 rintro r W1 ⟨v',rfl,so,u1⟩
 obtain ⟨C,rfl,hC1,hC2⟩ := SOA.row so
 obtain ⟨W2,hW2⟩ : ∃ W2,(W1.alloc (.cells zS 27)).setRow W1.heap.size C = W2 := ⟨_,rfl⟩
 obtain ⟨f1,f2,-⟩ := filled W1 zS C 27
 rw [hW2] at f1 f2
 have g2 : W2.heap[w.heap.size + 2]? = some (.cells zS 27 (0,0)) := (u1.trans f2).heap h2
 have HE : Hid (AppV w o (.returned (.tuple #[.agg C,.int .i64 (errOf o)])) (W2.setRow (w.heap.size + 2) C)) :=
  ⟨_,rfl,SOA.setRow ((so.less hsz).up f2) g2,up_setRow (hu.trans (u1.trans f2)) (by omega) _⟩
 clear hW0 h2 h3 hu u1 f2 HR so
 go_wp2_with (first | (refine wpList_store_row rfl 27 (.tmp 6) (.tmp 14) rfl W1.heap.size C rfl rfl 27 zS (heap_alloc_new W1 _) (by rw [hC1]; exact infoSt) (by rw [hC1]; rfl) hC2 ?_; refine wpList_world hW2 ?_) | (refine wpList_load_row rfl 27 (.tmp 6) rfl W1.heap.size rfl 27 C (0,0) _ f1 Tryz.underlying27 rfl (by rw [hC1]; exact infoSt) ?_) | (refine wpList_store_row rfl 27 (.tmp 4) (.tmp 17) rfl (w.heap.size + 2) C rfl rfl 27 zS g2 (by rw [hC1]; exact infoSt) (by rw [hC1]; rfl) hC2 ?_))
 refine bodyPost_ret (v := .tuple #[.agg C,.int .i64 (errOf o)]) (results_c1 (p := 4) (q := 5) (ty := 27) rfl _ _ (w.heap.size + 2) 27 C (0,0) _ _ rfl rfl (setRow_heap _ _ _ _ _ _ g2) Tryz.underlying27 rfl (by rw [hC1]; exact infoSt)) rfl ?_
 rw [HP.out]
 exact HE.out
end DE
end Go.Proofs.YtodhjjeagmjhdaaGreatDoor
