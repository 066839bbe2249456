/-
  DeedApplies: the law's walk.
-/
import Derived.Test.YtodhjjeagmjhdaaGreatDoorLv6VR
import Derived.Test.YtodhjjeagmjhdaaGreatDoorBxVR
namespace Go.Proofs.YtodhjjeagmjhdaaGreatDoor
open Go.RowKit
attribute [local go_sem ↓] Go.wp_at_zero Go.wp_at_succ
namespace DE
open Go.Proofs.YtodhjjeagmjhdaaGreatDoor.ST
theorem WSA.row {base : Nat} {W : World} {v : Value} {s : Stt} (h : WSA base W v s) : ∃ C : Array Value,v = .agg C /\ C.size = 7 /\ C.all (·.oneCell') = true := by
 obtain ⟨vp,vc,vz,hv,⟨g1,-,rfl,-⟩,⟨g2,-,rfl,-⟩,g3,vs,-,rfl,-⟩ := h
 unfold sv at hv
 exact ⟨_,hv,rfl,by simp [Value.oneCell']⟩
theorem eqS_selfW (s : Stt) : eqS s s = true := by simp [eqS]
theorem small_noSW : Small noS := ⟨by decide,by decide,by decide,fun r hr=>absurd hr (Nat.not_lt_zero r)⟩
set_option maxRecDepth 100000 in
set_option maxHeartbeats 4000000 in
theorem stays_ (base : Nat) (v u : Value) (s : Stt) (w : World) (hv : WSA base w v s) (hu : StL w u s) (hsm : Small s) : Calls Tryz.prog 14 #[v,u] w fun x w'=>x = .returned (.bool true) /\ Up w w' := by
 have HE : Hid (∀ W,Up w W -> Calls Tryz.prog 13 #[v,u] W fun x w'=>x = .returned (.bool true) /\ Up W w') := fun W k=>eqState_ v u s s W (WS.sl (WSA.ws (hv.up k))) (hu.up k) hsm (eqS_selfW s)
 have HSp : Hid (∀ W,Up w W -> Calls Tryz.prog 49 #[v] W fun x w'=>x = .returned (.bool true) /\ Up W w') := fun W k=>spareState_ base v s W (WSA.ws (hv.up k)) hsm
 obtain ⟨A,rfl,hA1,hA2⟩ := WSA.row hv
 obtain ⟨vp,vc,vz,hvv,h1,h2,h3⟩ := hu
 obtain ⟨a1,k1,rfl,-,-⟩ := lc_at h1
 obtain ⟨a2,k2,rfl,-,-⟩ := lc_at h2
 obtain ⟨a3,k3,rfl,-,-⟩ := zl_at h3
 unfold sv at hvv
 obtain ⟨B,hB0⟩ : ∃ B : Array Value,B = #[.slice a1 s.ps.length k1,.slice a2 s.cs.length k2,.slice a3 s.zs.length k3,.int .i32 s.turn,.int .i64 s.whose,.int .i8 s.fin,.int .i64 s.winner] := ⟨_,rfl⟩
 have hB1 : B.size = 7 := by rw [hB0]; rfl
 rw [<- hB0] at hvv
 subst hvv
 clear h1 h2 h3 hv hsm hA2 hB0
 obtain ⟨W0,hW0⟩ : ∃ W0,(w.alloc (.cells A 27)).alloc (.cells B 27) = W0 := ⟨_,rfl⟩
 have g0 : W0.heap[w.heap.size]? = some (.cells A 27 (0,0)) := by rw [<- hW0]; exact heap_alloc2_old _ _ _
 have g1 : W0.heap[w.heap.size + 1]? = some (.cells B 27 (0,0)) := by rw [<- hW0]; exact heap_alloc2_new _ _ _
 have gu : Up w W0 := by rw [<- hW0]; exact ((Up.refl _).alloc _).alloc _
 go_enter Tryz.func14,Tryz.ntmps14
 go_wp2_with (first | (refine wpList_world hW0 ?_; clear hW0; refine wpList_load_row (by rfl) 27 (.tmp 2) (by rfl) w.heap.size (by rfl) 27 A (0,0) _ g0 Tryz.underlying27 (by rfl) (by rw [hA1]; exact infoSt) ?_) | (refine wpList_load_row (by rfl) 27 (.tmp 2) (by rfl) w.heap.size (by rfl) 27 A (0,0) _ g0 Tryz.underlying27 (by rfl) (by rw [hA1]; exact infoSt) ?_) | (refine wpList_load_row (by rfl) 27 (.tmp 3) (by rfl) (w.heap.size + 1) (by rfl) 27 B (0,0) _ g1 Tryz.underlying27 (by rfl) (by rw [hB1]; exact infoSt) ?_))
 refine Calls.mono (HE.out _ gu) ?_
 rintro r W1 ⟨rfl,u1⟩
 have g0 := u1.heap g0
 have gu := gu.trans u1
 clear u1 g1
 go_wp2_with (first | (refine wpList_load_rowG (by rfl) 27 (.tmp 2) (by rfl) w.heap.size (by rfl) 27 A (0,0) _ g0 Tryz.underlying27 (by rfl) (by rw [hA1]; exact infoSt) ?_))
 refine Calls.mono (HSp.out _ gu) ?_
 rintro r W2 ⟨rfl,u2⟩
 have HZ : Hid (Up w W2) := gu.trans u2
 clear u2 g0 gu
 go_wp2
 go_ret
 exact ⟨rfl,HZ.out⟩
theorem rowIn_kp {W W' : World} {lo hi e s n : Nat} {v : Value} (h : BG.RowIn W lo hi e s v n) (k : Kp lo W W') : BG.RowIn W' lo hi e s v n := by
 obtain ⟨⟨xs,h1⟩,h2,h3⟩ := h
 exact ⟨⟨xs,row_kp h1 k⟩,h2,h3⟩
theorem stIn_kp {W W' : World} {lo hi : Nat} {v : Value} (h : BG.StIn W lo hi v) (k : Kp lo W W') : BG.StIn W' lo hi v := by
 obtain ⟨vp,vc,vz,t0,t1,t2,t3,np,nc,nz,vs,ns,hv,h1,h2,⟨h3,h4,h5⟩,h6,h7⟩ := h
 exact ⟨vp,vc,vz,t0,t1,t2,t3,np,nc,nz,vs,ns,hv,rowIn_kp h1 k,rowIn_kp h2 k,⟨row_kp h3 k,h4,h5⟩,fun i hi=>rowIn_kp (h6 i hi) k,h7⟩
end DE
end Go.Proofs.YtodhjjeagmjhdaaGreatDoor
