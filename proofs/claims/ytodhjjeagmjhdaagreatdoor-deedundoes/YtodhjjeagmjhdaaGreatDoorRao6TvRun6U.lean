/- Rao6, Run6 -/
import Derived.Test.YtodhjjeagmjhdaaGreatDoorRah6VU
import Derived.Test.YtodhjjeagmjhdaaGreatDoorRbo6TvTmU
import Derived.Test.YtodhjjeagmjhdaaGreatDoorRwTvBzU
import Derived.Deep.Cut
namespace Go.Proofs.YtodhjjeagmjhdaaGreatDoor
open Go.RowKit
namespace DE
open Go.Proofs.YtodhjjeagmjhdaaGreatDoor.ST
theorem tl_ok {s : Stt} (h : ff s = none) (e : Ev) (hw : e.was <= 2147483647) : tlD s e = turnLeadsB s e := by
 have ht : 1 <= s.turn := ((ff_none s).1 h).1.2.2.2.1
 unfold tlD turnLeadsB behindB
 by_cases h1 : e.now = s.turn
 ·by_cases h3 : e.was < 2147483647
  ·rw [decide_eq_true h3, Bool.true_and, Bool.and_comm (decide (1 <= e.was))]
  ·have h5 : e.was = 2147483647 := by omega
   have h2 : ¬ e.now = wrap32 (e.was + 1) := by
    rw [h5]
    have : wrap32 (2147483647 + 1) = -2147483648 := by unfold wrap32; omega
    omega
   rw [decide_eq_false h2]
   simp
 ·rw [decide_eq_false h1, Bool.false_and, Bool.false_and]
theorem ahd_ok {s : Stt} (hok : ff s = none) (e : Ev) (hw : e.was <= 2147483647) : ahdD s e = if (okB e && leadB s e) = true then some (aheadS s e) else none := by
 unfold okB
 cases hk : kindB e.kind with
 | false =>
  have hk' : ¬ (1 <= e.kind /\ e.kind <= 7) := by
   unfold kindB at hk
   simp at hk
   omega
  unfold ahdD
  simp only [Bool.false_and, Bool.false_eq_true, if_false]
  split
  ·rw [if_neg (by omega), if_neg (by omega), if_neg (by omega), if_neg (by omega), if_neg (by omega), if_neg (by omega), if_neg (by omega)]
  ·rfl
 | true =>
  have hp := plain_ok hk
  unfold ahdD
  rw [hp, Bool.true_and]
  cases hr : restB e with
  | false => simp
  | true =>
   rw [if_pos rfl, Bool.true_and]
   unfold restB at hr
   unfold leadB aheadS
   rcases kinds hk with h | h | h | h | h | h | h
   ·simp only [h, if_true] at hr ⊢
    have := mv_okD s (turnedE e) (rest_moveD (by rw [Bool.and_eq_true] at hr; exact hr.1)).symm
    exact this
   ·simp [h] at hr ⊢
    have hn : noneB (turnedE e) = decide ((turnedE e).was = (turnedE e).now) := by
     have h9 := hr.1
     unfold nothingB cardR at h9
     simp at h9
     unfold noneB turnedE
     have h1 : e.to_ = e.fr := by omega
     have h2 : e.toAt = e.frAt := by omega
     simp [h1, h2]
    exact card_okD s (turnedE e) hn
   ·simp [h] at hr ⊢
    have hn : noneB (turnedE e) = decide ((turnedE e).was = (turnedE e).now) := by
     have h9 := hr.1
     unfold nothingB playerR at h9
     simp at h9
     unfold noneB turnedE
     have h1 : e.to_ = e.fr := by omega
     have h2 : e.toAt = e.frAt := by omega
     simp [h1, h2]
    exact player_okD s (turnedE e) hn
   ·simp [h]
    unfold shO shC shS shuffleFitsB
    simp
   ·simp [h]
   ·simp [h, tl_ok hok e hw]
   ·simp [h]
end DE
end Go.Proofs.YtodhjjeagmjhdaaGreatDoor
namespace Go.Proofs.YtodhjjeagmjhdaaGreatDoor
open Go.RowKit
attribute [local go_sem ↓] Go.wp_at_zero Go.wp_at_succ
namespace DE
open Go.Proofs.YtodhjjeagmjhdaaGreatDoor.ST
set_option maxRecDepth 100000 in
set_option maxHeartbeats 4000000 in
theorem rundo_ (v : Value) (s : Stt) (e : Ev) (oa : Option Addr) (oc : Nat) (w : World) (hs : StL w v s) (hsm : Small s) (hfl : (flat s).length <= 4294967296) (ho : IL w (.slice oa e.ord.length oc) e.ord) (hn : e.ord.length <= 4294967296) (hw : e.was <= 2147483647) : Calls Tryz.prog 22 #[v, evv e (.slice oa e.ord.length oc)] w (AppV w (bckO s [e])) := by
 obtain ⟨Post, hPost⟩ : ∃ P : Ending -> World -> Prop, P = AppV w (bckO s [e]) := ⟨_, rfl⟩
 rw [<- hPost]
 have HP : Hid (Post = AppV w (bckO s [e])) := hPost
 have HMa : Hid (∀ W, Up w W -> Calls Tryz.prog 44 #[v] W fun r w' => r = .returned (.bool (decide (ff s = none))) /\ Up W w') := fun W u => rmay6_ v s W (hs.up u) (thingsOk s hsm hfl)
 have HBh : Hid (ff s = none -> ∀ W, Up w W -> Calls Tryz.prog 77 #[v, evv e (.slice oa e.ord.length oc)] W (BhV W (ahdD s e))) := fun hok W u => rahead_ v s e oa oc W (hs.up u) hsm (ho.up u) hn (rows_ok hok)
 obtain ⟨vp, vc, vz, hvv, h1, h2, h3⟩ := hs
 obtain ⟨a1, k1, rfl, -, -⟩ := lc_at h1
 obtain ⟨a2, k2, rfl, -, -⟩ := lc_at h2
 obtain ⟨a3, k3, rfl, -, -⟩ := zl_at h3
 unfold sv at hvv
 clear h1 h2 h3 hPost hsm ho hn hfl
 obtain ⟨A, hA0⟩ : ∃ A : Array Value, A = #[.slice a1 s.ps.length k1, .slice a2 s.cs.length k2, .slice a3 s.zs.length k3, .int .i32 s.turn, .int .i64 s.whose, .int .i8 s.fin, .int .i64 s.winner] := ⟨_, rfl⟩
 have hA1 : A.size = 7 := by rw [hA0]; rfl
 rw [<- hA0] at hvv
 subst hvv
 clear hA0
 unfold evv at HBh ⊢
 obtain ⟨E, hE0⟩ : ∃ E : Array Value, E = evc e (.slice oa e.ord.length oc) := ⟨_, rfl⟩
 have hE1 : E.size = 12 := by rw [hE0]; rfl
 rw [<- hE0] at HBh ⊢
 clear hE0
 obtain ⟨W0, hW0⟩ : ∃ W0, ((w.alloc (.cells A 27)).alloc (.cells E 30)).alloc (.cells zS 27) = W0 := ⟨_, rfl⟩
 have g0 : W0.heap[w.heap.size]? = some (.cells A 27 (0, 0)) := by rw [<- hW0, Below.heap_alloc _ _ _ (by simp; omega)]; exact heap_alloc2_old _ _ _
 have gE : W0.heap[w.heap.size + 1]? = some (.cells E 30 (0, 0)) := by rw [<- hW0, Below.heap_alloc _ _ _ (by simp)]; exact heap_alloc2_new _ _ _
 have g2 : W0.heap[w.heap.size + 1 + 1]? = some (.cells zS 27 (0, 0)) := by
  rw [<- hW0]
  have := heap_alloc_new ((w.alloc (.cells A 27)).alloc (.cells E 30)) (.cells zS 27)
  simpa using this
 have gu : Up w W0 := by rw [<- hW0]; exact (((Up.refl _).alloc _).alloc _).alloc _
 by_cases hok : ff s = none
 ·have HB := HBh.out hok
  have hD := ahd_ok hok e hw
  have HO : Hid (bckO s [e] = some (if (okB e && leadB s e) = true then .inr (aheadS s e) else .inl 0)) := by
   unfold Hid bckO
   rw [if_pos hok]
   show some (bck [e] 1 s) = _; rfl
  rw [decide_eq_true hok] at HMa
  clear HBh
  by_cases hq : (okB e && leadB s e) = true
  ·rw [if_pos hq] at hD HO
   rw [hD] at HB
   have HN : Hid _ := HO.out
   have HBB : Hid _ := HB
   have HMo : Hid (∀ W v, StL W v (aheadS s e) -> Calls Tryz.prog 44 #[v] W fun r w' => r = .returned (.bool true) /\ Up W w') := fun W v h => by
    have hk := ok_ahead hok hq
    have h9 := rmay6_ v (aheadS s e) W h (thingsOk _ (small_ok hk) (by have := ((ff_none _).1 hk).2.2; have h8 := small_ok hk; rw [this]; exact h8.2.1))
    rw [decide_eq_true hk] at h9
    exact h9
   clear hD HO HB hq hok
   go_enter Tryz.func22, Tryz.ntmps22
   go_wp2_with (first | (refine wpList_world hW0 ?_; clear hW0; refine wpList_load_row (by rfl) 27 (.tmp 2) (by rfl) w.heap.size (by rfl) 27 A (0, 0) _ g0 Tryz.underlying27 (by rfl) (by rw [hA1]; exact infoSt) ?_))
   refine Calls.mono (HMa.out _ gu) ?_
   rintro r W1 ⟨rfl, u1⟩
   have g0 := u1.heap g0
   have gE := u1.heap gE
   have g2 := u1.heap g2
   have gu := gu.trans u1
   clear u1 HMa
   go_wp2_with (first | (refine wpList_load_row (by rfl) 27 (.tmp 2) (by rfl) w.heap.size (by rfl) 27 A (0, 0) _ g0 Tryz.underlying27 (by rfl) (by rw [hA1]; exact infoSt) ?_) | (refine wpList_load_row (by rfl) 30 (.tmp 3) (by rfl) (w.heap.size + 1) (by rfl) 30 E (0, 0) _ gE Tryz.underlying30 (by rfl) (by rw [hE1]; exact infoEv) ?_))
   refine Calls.mono (HBB.out _ gu) ?_
   rintro r W2 ⟨X, rfl, h1X, h2X, soX, u2⟩
   have g2 := u2.heap g2
   have soX := soX.less gu.size
   have gu := gu.trans u2
   obtain ⟨W3, hW3⟩ : ∃ W3, (W2.alloc (.cells zS 27)).setRow W2.heap.size X = W3 := ⟨_, rfl⟩
   obtain ⟨rX, u3, -⟩ := filled W2 zS X 27
   rw [hW3] at rX u3
   have g2 := u3.heap g2
   have soX := soX.up u3
   have gu := gu.trans u3
   clear u2 u3 HBB
   dsimp only [Option.getD, Option.isSome] at soX ⊢
   go_wp2_with (first | (refine wpList_store_row rfl 27 (.tmp 6) (.tmp 16) rfl W2.heap.size X rfl rfl 27 zS (heap_alloc_new W2 _) (by rw [h1X]; exact infoSt) (by rw [h1X]; rfl) h2X ?_; refine wpList_world hW3 ?_) | (refine wpList_load_rowG (by rfl) 27 (.tmp 6) (by rfl) W2.heap.size (by rfl) 27 X (0, 0) _ rX Tryz.underlying27 (by rfl) (by rw [h1X]; exact infoSt) ?_))
   refine Calls.mono (HMo.out _ _ (SO.sl (SOA.so soX))) ?_
   rintro r W4 ⟨rfl, u4⟩
   have g2 := u4.heap g2
   have rX := u4.heap rX
   have soX := soX.up u4
   have gu := gu.trans u4
   clear u4
   have HSO : Hid _ := soX
   clear soX
   go_upto_region 6 with fail
   go_wp2_with (first | (refine wpList_load_row (by rfl) 27 (.tmp 6) (by rfl) W2.heap.size (by rfl) 27 X (0, 0) _ rX Tryz.underlying27 (by rfl) (by rw [h1X]; exact infoSt) ?_) | (refine wpList_store_row rfl 27 (.tmp 4) (.tmp 26) rfl (w.heap.size + 1 + 1) X rfl rfl 27 zS g2 (by rw [h1X]; exact infoSt) (by rw [h1X]; rfl) h2X ?_))
   have HR : Hid _ := setRow_heap _ (w.heap.size + 1 + 1) _ _ _ X g2
   refine bodyPost_ret (v := .tuple #[.agg X, .int .i64 0]) (results_c1 rfl _ _ (w.heap.size + 1 + 1) 27 X (0, 0) _ (.int .i64 0) rfl rfl HR.out Tryz.underlying27 rfl (by rw [h1X]; exact infoSt)) rfl ?_
   rw [HP.out, HN.out]
   exact ⟨_, rfl, SOA.setRow HSO.out g2, up_setRow gu (by omega) _⟩
  ·rw [if_neg hq] at hD HO
   rw [hD] at HB
   have HN : Hid _ := HO.out
   have HBB : Hid _ := HB
   clear hD HO HB hq hok
   go_enter Tryz.func22, Tryz.ntmps22
   go_wp2_with (first | (refine wpList_world hW0 ?_; clear hW0; refine wpList_load_row (by rfl) 27 (.tmp 2) (by rfl) w.heap.size (by rfl) 27 A (0, 0) _ g0 Tryz.underlying27 (by rfl) (by rw [hA1]; exact infoSt) ?_))
   refine Calls.mono (HMa.out _ gu) ?_
   rintro r W1 ⟨rfl, u1⟩
   have g0 := u1.heap g0
   have gE := u1.heap gE
   have g2 := u1.heap g2
   have gu := gu.trans u1
   clear u1 HMa
   go_wp2_with (first | (refine wpList_load_row (by rfl) 27 (.tmp 2) (by rfl) w.heap.size (by rfl) 27 A (0, 0) _ g0 Tryz.underlying27 (by rfl) (by rw [hA1]; exact infoSt) ?_) | (refine wpList_load_row (by rfl) 30 (.tmp 3) (by rfl) (w.heap.size + 1) (by rfl) 30 E (0, 0) _ gE Tryz.underlying30 (by rfl) (by rw [hE1]; exact infoEv) ?_))
   refine Calls.mono (HBB.out _ gu) ?_
   rintro r W2 ⟨X, rfl, h1X, h2X, soX, u2⟩
   have g2 := u2.heap g2
   have gu := gu.trans u2
   obtain ⟨W3, hW3⟩ : ∃ W3, (W2.alloc (.cells zS 27)).setRow W2.heap.size X = W3 := ⟨_, rfl⟩
   obtain ⟨rX, u3, -⟩ := filled W2 zS X 27
   rw [hW3] at rX u3
   have g2 := u3.heap g2
   have gu := gu.trans u3
   clear u2 u3 HBB soX
   dsimp only [Option.getD, Option.isSome]
   go_upto_region 4 with (first | (refine wpList_store_row rfl 27 (.tmp 6) (.tmp 16) rfl W2.heap.size X rfl rfl 27 zS (heap_alloc_new W2 _) (by rw [h1X]; exact infoSt) (by rw [h1X]; rfl) h2X ?_; refine wpList_world hW3 ?_))
   go_upto_region 5 with fail
   go_wp2_with (refine wpList_store_row rfl 27 (.tmp 4) (.tmp 25) rfl (w.heap.size + 1 + 1) zS rfl rfl 27 zS g2 infoSt rfl zS_all ?_)
   have HR : Hid _ := setRow_heap _ (w.heap.size + 1 + 1) _ _ _ zS g2
   refine bodyPost_ret (v := .tuple #[.agg zS, .int .i64 11]) (results_c1 rfl _ _ (w.heap.size + 1 + 1) 27 zS (0, 0) _ (.int .i64 11) rfl rfl HR.out Tryz.underlying27 rfl infoSt) rfl ?_
   rw [HP.out, HN.out]
   exact ⟨_, rfl, noS_soa _ _, up_setRow gu (by omega) _⟩
 ·have HN : Hid (bckO s [e] = none) := by unfold Hid bckO; rw [if_neg hok]
  rw [decide_eq_false hok] at HMa
  clear HBh hok
  go_enter Tryz.func22, Tryz.ntmps22
  go_wp2_with (first | (refine wpList_world hW0 ?_; clear hW0; refine wpList_load_row (by rfl) 27 (.tmp 2) (by rfl) w.heap.size (by rfl) 27 A (0, 0) _ g0 Tryz.underlying27 (by rfl) (by rw [hA1]; exact infoSt) ?_))
  refine Calls.mono (HMa.out _ gu) ?_
  rintro r W1 ⟨rfl, u1⟩
  have g0 := u1.heap g0
  have gE := u1.heap gE
  have g2 := u1.heap g2
  have gu := gu.trans u1
  clear u1 HMa
  go_upto_region 2 with fail
  go_wp2_with (refine wpList_store_row rfl 27 (.tmp 4) (.tmp 11) rfl (w.heap.size + 1 + 1) zS rfl rfl 27 zS g2 infoSt rfl zS_all ?_)
  have HR : Hid _ := setRow_heap _ (w.heap.size + 1 + 1) _ _ _ zS g2
  refine bodyPost_ret (v := .tuple #[.agg zS, .int .i64 10]) (results_c1 rfl _ _ (w.heap.size + 1 + 1) 27 zS (0, 0) _ (.int .i64 10) rfl rfl HR.out Tryz.underlying27 rfl infoSt) rfl ?_
  rw [HP.out, HN.out]
  exact ⟨_, rfl, noS_soa _ _, up_setRow gu (by omega) _⟩
end DE
end Go.Proofs.YtodhjjeagmjhdaaGreatDoor
