/-
  DeedUndoes: the law's walk.
-/
import Derived.Test.YtodhjjeagmjhdaaGreatDoorDpa6VU
import Derived.Test.YtodhjjeagmjhdaaGreatDoorRao6TvRun6U
namespace Go.Proofs.YtodhjjeagmjhdaaGreatDoor
open Go.RowKit
attribute [local go_sem ↓] Go.wp_at_zero Go.wp_at_succ
namespace DE
open Go.Proofs.YtodhjjeagmjhdaaGreatDoor.ST
set_option maxRecDepth 100000 in
set_option maxHeartbeats 8000000 in
theorem undoesW (v vo : Value) (s : Stt) (e : Ev) (w : World) (hv : StL w v s) (hf : Far s) (ho : IL w vo e.ord) (hn0 : e.ord.length <= 140737488355328) (hw : e.was <= 2147483647) :
  Calls Tryz.prog 4 #[v, evv e vo] w fun x w' => x = .returned (.bool true) /\ Up w w' := by
 have HLV : Hid (∀ W, Calls Tryz.prog 20 #[] W fun x w' => x = .returned (.bool true) /\ Up W w') := lives_
 have HBY : Hid (∀ W g, Up w W -> W.heap[g]? = some (.cells (evc e vo) 30 (0, 0)) -> Calls Tryz.prog 8 #[v, .slice (some ⟨g, 0, none⟩) 1 1] W fun x w' => x = .returned (.bool (decide (2147483647 < lenS s + lenE [e]))) /\ Up W w') := fun W g u hg =>
  beyond_ v _ s [e] W (hv.up u) hf (evs_one hg (ho.up u)) ⟨by simp, fun r hr => by
   simp only [List.length_singleton] at hr
   obtain rfl : r = 0 := by omega
   exact hn0⟩
 have HST : Hid (StL w v s) := hv
 have HIL : Hid (IL w vo e.ord) := ho
 obtain ⟨oa, oc, hvo, -, -⟩ := il_at ho
 obtain ⟨vp, vc, vz, hvv, h1, h2, h3⟩ := hv
 obtain ⟨a1, k1, rfl, -, -⟩ := lc_at h1
 obtain ⟨a2, k2, rfl, -, -⟩ := lc_at h2
 obtain ⟨a3, k3, rfl, -, -⟩ := zl_at h3
 unfold sv at hvv
 clear h1 h2 h3 ho
 obtain ⟨A, hA0⟩ : ∃ A : Array Value, A = #[.slice a1 s.ps.length k1, .slice a2 s.cs.length k2, .slice a3 s.zs.length k3, .int .i32 s.turn, .int .i64 s.whose, .int .i8 s.fin, .int .i64 s.winner] := ⟨_, rfl⟩
 have hA1 : A.size = 7 := by rw [hA0]; rfl
 rw [<- hA0] at hvv
 obtain ⟨W1, hW1⟩ : ∃ W1, ((w.alloc (.cells A 27)).alloc (.cells (evc e vo) 30)).alloc (.cells (evc e vo) 30) = W1 := ⟨_, rfl⟩
 have hA : W1.heap[w.heap.size]? = some (.cells A 27 (0, 0)) := by rw [<- hW1, Below.heap_alloc _ _ _ (by simp; omega)]; exact heap_alloc2_old _ _ _
 have hE : W1.heap[w.heap.size + 1]? = some (.cells (evc e vo) 30 (0, 0)) := by rw [<- hW1, Below.heap_alloc _ _ _ (by simp)]; exact heap_alloc2_new _ _ _
 have hB : W1.heap[w.heap.size + 1 + 1]? = some (.cells (evc e vo) 30 (0, 0)) := by
  rw [<- hW1]
  have := heap_alloc_new ((w.alloc (.cells A 27)).alloc (.cells (evc e vo) 30)) (.cells (evc e vo) 30)
  simpa using this
 have HU : Up w W1 := by rw [<- hW1]; exact (((Up.refl _).alloc _).alloc _).alloc _
 have HBC : Hid _ := HBY.out W1 (w.heap.size + 1 + 1) HU hB
 have HAV : Hid (Value.agg A = v) := hvv.symm
 subst hvo
 clear HBY hB
 rw [hA0] at hW1
 unfold evc at hW1
 unfold evv evc
 by_cases hlong : 2147483647 < lenS s + lenE [e]
 ·rw [decide_eq_true hlong] at HBC
  rw [hvv, hA0] at HBC ⊢
  clear hA hE hA0 HU HAV HST HIL HLV hvv hA1
  go_enter Tryz.func4, Tryz.ntmps4
  go_wp2_with fail
  refine Calls.mono HBC.out ?_
  rintro r W2 ⟨rfl, u2⟩
  have HZ : Hid (Up w W2) := Up.trans (by rw [<- hW1]; exact (((Up.refl _).alloc _).alloc _).alloc _) u2
  clear u2 hW1
  go_wp2
  go_ret
  exact ⟨rfl, HZ.out⟩
 ·rw [decide_eq_false hlong] at HBC
  have hsml : lenS s <= 2147483647 := by omega
  have HSM : Hid (Small s) := small_of hsml
  have hn : e.ord.length <= 4294967296 := by
   have : e.ord.length <= lenE [e] := by simp [lenE, ords]
   omega
  have HCE : Hid (∀ W, Up w W -> Calls Tryz.prog 177 #[.agg (evc e (.slice oa e.ord.length oc))] W fun x w' => ∃ vn, x = .returned (evv e vn) /\ IRow W.heap.size w' vn e.ord /\ Up W w') := fun W u => copyEvent_ e _ W (HIL.out.up u) hn
  have hfl : (flat s).length <= 4294967296 := by unfold lenS at hsml; omega
  obtain ⟨o, ho9⟩ : ∃ o, o = bckO s [e] := ⟨_, rfl⟩
  have HSO : Hid (Small (stOf o)) := by
   rw [ho9]
   unfold Hid bckO
   split
   ·rename_i hok
    show Small (stOf (some (bck [e] 1 s)))
    cases hq : bck [e] 1 s with
    | inl k => exact small_noSW
    | inr t => exact small_ok (bck_ok [e] 1 s t hok hq)
   ·exact small_noSW
  have HAp : Hid (∀ (W : World) (v vn : Value), StL W v s -> IL W vn e.ord -> Calls Tryz.prog 21 #[v, .agg (evc e vn)] W (ApW o W)) := fun W v vn h1 h2 => by
   rw [ho9]
   exact (undo1_ v vn s e W h1 HSM.out h2 hn).mono fun e w' h => apw_of h
  have HRa : Hid (∀ W, Up w W -> Calls Tryz.prog 22 #[.agg A, .agg (evc e (.slice oa e.ord.length oc))] W (ApW o W)) := fun W u => by
   rw [ho9]
   exact (rundo_ (.agg A) s e oa oc W (by rw [HAV.out]; exact HST.out.up u) HSM.out hfl (HIL.out.up u) hn hw).mono fun e w' h => apw_of h
  have HWS : Hid (∀ W, Up w W -> Calls Tryz.prog 9 #[.agg A] W (CpPost W fun W' v => WSA W.heap.size W' v s)) := fun W u => wideStateA_ (.agg A) s W (by rw [HAV.out]; exact HST.out.up u) HSM.out
  have HWE : Hid (∀ W, Up w W -> Calls Tryz.prog 10 #[.agg (evc e (.slice oa e.ord.length oc))] W fun x w' => ∃ vn, x = .returned (evv e vn) /\ WI W.heap.size w' vn e.ord /\ Up W w') := fun W u => wideEvent_ e _ W (HIL.out.up u) hn
  have HEE : Hid (∀ (W : World) (vn : Value), Up w W -> IL W vn e.ord -> Calls Tryz.prog 15 #[.agg (evc e vn), .agg (evc e (.slice oa e.ord.length oc))] W fun x w' => x = .returned (.bool true) /\ Up W w') := fun W vn u h => by
   have h9 := eqEvent_ e e vn _ W h (HIL.out.up u) hn
   rw [eqE_selfW] at h9
   exact h9
  have HSE : Hid (∀ (W : World) (b : Nat) (vn : Value), WI b W vn e.ord -> Calls Tryz.prog 16 #[.agg (evc e vn)] W fun x w' => x = .returned (.bool true) /\ Up W w') := fun W b vn h => spareEvent_ b e vn W h hn
  unfold ApW at HAp HRa
  generalize errOf o = g at *
  generalize stOf o = st at *
  clear hlong hsml ho9 hfl hw
  rw [hvv, hA0] at HBC ⊢
  clear hA0
  go_enter Tryz.func4, Tryz.ntmps4
  go_wp2_with fail
  refine Calls.mono HBC.out ?_
  rintro r W2 ⟨rfl, u2⟩
  have hA := u2.heap hA
  have hE := u2.heap hE
  have HU := HU.trans u2
  clear u2 hW1 HBC hvv
  obtain ⟨vo, hvo⟩ : ∃ vo : Value, vo = .slice oa e.ord.length oc := ⟨_, rfl⟩
  rw [<- hvo] at hE HWE HRa HEE
  clear hvo HCE
  have hl2 : w.heap.size + 1 < W2.heap.size := (Array.getElem?_eq_some_iff.1 hE).1
  go_wp2_with (first | (refine wpList_load_row (by rfl) 27 (.tmp 2) (by rfl) w.heap.size (by rfl) 27 A (0, 0) _ hA Tryz.underlying27 (by rfl) (by rw [hA1]; exact infoSt) ?_))
  refine Calls.mono (HWS.out _ HU) ?_
  rintro r W3 ⟨vI, rfl, fI, u⟩
  have hA := u.heap hA
  have hE := u.heap hE
  have HU := HU.trans u
  have HS3 : Hid _ := u.size
  have HFI1 : Hid (W2.heap.size <= W3.heap.size) := u.size
  clear u
  obtain ⟨I, rfl, h1I, h2I⟩ := WSA.row fI
  have HFI : Hid (WSA W2.heap.size W3 (.agg I) s) := fI
  have U3 : Up W3 W3 := Up.refl _
  obtain ⟨W4, hwI⟩ : ∃ Wq, (W3.alloc (.cells zS 27)).setRow W3.heap.size I = Wq := ⟨_, rfl⟩
  obtain ⟨rI, u, -⟩ := filled W3 zS I 27
  rw [hwI] at rI u
  have hA := u.heap hA
  have hE := u.heap hE
  have HU := HU.trans u
  have fI := fI.up u
  have U3 := U3.trans u
  have HS4 : Hid _ := u.size
  clear u
  go_wp2_with (first | (refine wpList_store_row rfl 27 (.tmp 5) (.tmp 19) rfl W3.heap.size I rfl rfl 27 zS (heap_alloc_new W3 _) (by rw [h1I]; exact infoSt) (by rw [h1I]; rfl) h2I ?_; refine wpList_world hwI ?_) | (refine wpList_load_row (by rfl) 30 (.tmp 3) (by rfl) (w.heap.size + 1) (by rfl) 30 (evc e vo) (0, 0) _ hE Tryz.underlying30 (by rfl) (infoEv) ?_))
  refine Calls.mono (HWE.out _ HU) ?_
  rintro r W5 ⟨vn, rfl, fE, u⟩
  have hA := u.heap hA
  have hE := u.heap hE
  have HU := HU.trans u
  have fI := fI.up u
  have U3 := U3.trans u
  have rI := u.heap rI
  have HS5 : Hid _ := u.size
  clear u
  have h2E := evc_allW fE
  unfold evv
  obtain ⟨W6, hwE⟩ : ∃ Wq, (W5.alloc (.cells zEv 30)).setRow W5.heap.size (evc e vn) = Wq := ⟨_, rfl⟩
  obtain ⟨rE, u, -⟩ := filled W5 zEv (evc e vn) 30
  rw [hwE] at rE u
  have hA := u.heap hA
  have hE := u.heap hE
  have HU := HU.trans u
  have fI := fI.up u
  have U3 := U3.trans u
  have rI := u.heap rI
  have fE := fE.up u
  have HS6 : Hid _ := u.size
  clear u
  go_wp2_with (first | (refine wpList_store_row rfl 30 (.tmp 6) (.tmp 21) rfl W5.heap.size (evc e vn) rfl rfl 30 zEv (heap_alloc_new W5 _) infoEv rfl h2E ?_; refine wpList_world hwE ?_) | (refine wpList_load_row (by rfl) 27 (.tmp 5) (by rfl) W3.heap.size (by rfl) 27 I (0, 0) _ rI Tryz.underlying27 (by rfl) (by rw [h1I]; exact infoSt) ?_) | (refine wpList_load_row (by rfl) 30 (.tmp 6) (by rfl) W5.heap.size (by rfl) 30 (evc e vn) (0, 0) _ rE Tryz.underlying30 (by rfl) (infoEv) ?_))
  refine Calls.mono (HAp.out _ _ _ (WS.sl (WSA.ws fI)) (WI.il fE)) ?_
  rintro r W7 ⟨X, rfl, h1X, h2X, fX, u⟩
  have hA := u.heap hA
  have hE := u.heap hE
  have HU := HU.trans u
  have fI := fI.up u
  have U3 := U3.trans u
  have rI := u.heap rI
  have fE := fE.up u
  have rE := u.heap rE
  have HS7 : Hid _ := u.size
  clear u
  have HX7 : Hid (BG.StIn W7 W6.heap.size W7.heap.size (.agg X)) := SOA.stIn fX HSO.out
  obtain ⟨W8, hwX⟩ : ∃ Wq, (W7.alloc (.cells zS 27)).setRow W7.heap.size X = Wq := ⟨_, rfl⟩
  obtain ⟨rX, u, -⟩ := filled W7 zS X 27
  rw [hwX] at rX u
  have hA := u.heap hA
  have hE := u.heap hE
  have HU := HU.trans u
  have fI := fI.up u
  have U3 := U3.trans u
  have rI := u.heap rI
  have fE := fE.up u
  have rE := u.heap rE
  have fX := fX.up u
  have HS8 : Hid _ := u.size
  have HU78 : Hid (Up W7 W8) := u
  clear u
  go_wp2_with (first | (refine wpList_store_row rfl 27 (.tmp 7) (.tmp 26) rfl W7.heap.size X rfl rfl 27 zS (heap_alloc_new W7 _) (by rw [h1X]; exact infoSt) (by rw [h1X]; rfl) h2X ?_; refine wpList_world hwX ?_) | (refine wpList_load_row (by rfl) 27 (.tmp 5) (by rfl) W3.heap.size (by rfl) 27 I (0, 0) _ rI Tryz.underlying27 (by rfl) (by rw [h1I]; exact infoSt) ?_) | (refine wpList_load_row (by rfl) 30 (.tmp 6) (by rfl) W5.heap.size (by rfl) 30 (evc e vn) (0, 0) _ rE Tryz.underlying30 (by rfl) (infoEv) ?_))
  refine Calls.mono (HAp.out _ _ _ (WS.sl (WSA.ws fI)) (WI.il fE)) ?_
  rintro r W9 ⟨Y, rfl, h1Y, h2Y, fY, u⟩
  have hA := u.heap hA
  have hE := u.heap hE
  have HU := HU.trans u
  have fI := fI.up u
  have U3 := U3.trans u
  have rI := u.heap rI
  have fE := fE.up u
  have rE := u.heap rE
  have fX := fX.up u
  have rX := u.heap rX
  have HS9 : Hid _ := u.size
  have HU79 : Hid (Up W7 W9) := HU78.out.trans u
  clear u
  have HY9 : Hid (BG.StIn W9 W8.heap.size W9.heap.size (.agg Y)) := SOA.stIn fY HSO.out
  have U9 : Up W9 W9 := Up.refl _
  have U7 : Up W7 W9 := HU79.out
  obtain ⟨W10, hwY⟩ : ∃ Wq, (W9.alloc (.cells zS 27)).setRow W9.heap.size Y = Wq := ⟨_, rfl⟩
  obtain ⟨rY, u, -⟩ := filled W9 zS Y 27
  rw [hwY] at rY u
  have hA := u.heap hA
  have hE := u.heap hE
  have HU := HU.trans u
  have fI := fI.up u
  have U3 := U3.trans u
  have rI := u.heap rI
  have fE := fE.up u
  have rE := u.heap rE
  have fX := fX.up u
  have rX := u.heap rX
  have fY := fY.up u
  have U9 := U9.trans u
  have U7 := U7.trans u
  have HS10 : Hid _ := u.size
  clear u
  go_wp2_with (first | (refine wpList_store_row rfl 27 (.tmp 9) (.tmp 32) rfl W9.heap.size Y rfl rfl 27 zS (heap_alloc_new W9 _) (by rw [h1Y]; exact infoSt) (by rw [h1Y]; rfl) h2Y ?_; refine wpList_world hwY ?_) | (refine wpList_load_row (by rfl) 27 (.tmp 2) (by rfl) w.heap.size (by rfl) 27 A (0, 0) _ hA Tryz.underlying27 (by rfl) (by rw [hA1]; exact infoSt) ?_) | (refine wpList_load_row (by rfl) 30 (.tmp 3) (by rfl) (w.heap.size + 1) (by rfl) 30 (evc e vo) (0, 0) _ hE Tryz.underlying30 (by rfl) (infoEv) ?_))
  refine Calls.mono (HRa.out _ HU) ?_
  rintro r W11 ⟨Z, rfl, h1Z, h2Z, fZ, u⟩
  have hA := u.heap hA
  have hE := u.heap hE
  have HU := HU.trans u
  have fI := fI.up u
  have U3 := U3.trans u
  have rI := u.heap rI
  have fE := fE.up u
  have rE := u.heap rE
  have fX := fX.up u
  have rX := u.heap rX
  have fY := fY.up u
  have U9 := U9.trans u
  have U7 := U7.trans u
  have rY := u.heap rY
  have HS11 : Hid _ := u.size
  have HSZ : Hid (W3.heap.size <= W5.heap.size /\ W5.heap.size <= W6.heap.size /\ W6.heap.size <= W7.heap.size /\ W7.heap.size <= W8.heap.size /\ W8.heap.size <= W9.heap.size /\ W9.heap.size <= W10.heap.size /\ W10.heap.size <= W11.heap.size) := ⟨Nat.le_trans HS4.out HS5.out, HS6.out, HS7.out, HS8.out, HS9.out, HS10.out, HS11.out⟩
  have HW6 : Hid (w.heap.size <= W6.heap.size) := by have h1 := HS3.out; have h2 := HS4.out; have h3 := HS5.out; have h4 := HS6.out; unfold Hid; omega
  clear u
  obtain ⟨W12, hwZ⟩ : ∃ Wq, (W11.alloc (.cells zS 27)).setRow W11.heap.size Z = Wq := ⟨_, rfl⟩
  obtain ⟨rZ, u, -⟩ := filled W11 zS Z 27
  rw [hwZ] at rZ u
  have hA := u.heap hA
  have hE := u.heap hE
  have HU := HU.trans u
  have fI := fI.up u
  have U3 := U3.trans u
  have rI := u.heap rI
  have fE := fE.up u
  have rE := u.heap rE
  have fX := fX.up u
  have rX := u.heap rX
  have fY := fY.up u
  have U9 := U9.trans u
  have U7 := U7.trans u
  have rY := u.heap rY
  have fZ := fZ.up u
  clear u
  go_wp2_with (first | (refine wpList_store_row rfl 27 (.tmp 11) (.tmp 38) rfl W11.heap.size Z rfl rfl 27 zS (heap_alloc_new W11 _) (by rw [h1Z]; exact infoSt) (by rw [h1Z]; rfl) h2Z ?_; refine wpList_world hwZ ?_) | (refine wpList_load_rowG (by rfl) 27 (.tmp 7) (by rfl) W7.heap.size (by rfl) 27 X (0, 0) _ rX Tryz.underlying27 (by rfl) (by rw [h1X]; exact infoSt) ?_) | (refine wpList_load_rowG (by rfl) 27 (.tmp 11) (by rfl) W11.heap.size (by rfl) 27 Z (0, 0) _ rZ Tryz.underlying27 (by rfl) (by rw [h1Z]; exact infoSt) ?_))
  refine Calls.mono (eqState_ (.agg X) (.agg Z) st st _ (SO.sl (SOA.so fX)) (SO.sl (SOA.so fZ)) HSO.out (eqS_selfW st)) ?_
  rintro r W13 ⟨rfl, u⟩
  have hA := u.heap hA
  have hE := u.heap hE
  have HU := HU.trans u
  have fI := fI.up u
  have U3 := U3.trans u
  have rI := u.heap rI
  have fE := fE.up u
  have rE := u.heap rE
  have fX := fX.up u
  have rX := u.heap rX
  have fY := fY.up u
  have U9 := U9.trans u
  have U7 := U7.trans u
  have rY := u.heap rY
  have fZ := fZ.up u
  have rZ := u.heap rZ
  clear u
  go_wp2_with (first | (refine wpList_load_rowG (by rfl) 27 (.tmp 9) (by rfl) W9.heap.size (by rfl) 27 Y (0, 0) _ rY Tryz.underlying27 (by rfl) (by rw [h1Y]; exact infoSt) ?_) | (refine wpList_load_rowG (by rfl) 27 (.tmp 11) (by rfl) W11.heap.size (by rfl) 27 Z (0, 0) _ rZ Tryz.underlying27 (by rfl) (by rw [h1Z]; exact infoSt) ?_))
  refine Calls.mono (eqState_ (.agg Y) (.agg Z) st st _ (SO.sl (SOA.so fY)) (SO.sl (SOA.so fZ)) HSO.out (eqS_selfW st)) ?_
  rintro r W14 ⟨rfl, u⟩
  have hA := u.heap hA
  have hE := u.heap hE
  have HU := HU.trans u
  have fI := fI.up u
  have U3 := U3.trans u
  have rI := u.heap rI
  have fE := fE.up u
  have rE := u.heap rE
  have fX := fX.up u
  have rX := u.heap rX
  have fY := fY.up u
  have U9 := U9.trans u
  have U7 := U7.trans u
  have rY := u.heap rY
  have fZ := fZ.up u
  have rZ := u.heap rZ
  clear u
  go_wp2_with (first | (refine wpList_load_rowG (by rfl) 27 (.tmp 5) (by rfl) W3.heap.size (by rfl) 27 I (0, 0) _ rI Tryz.underlying27 (by rfl) (by rw [h1I]; exact infoSt) ?_) | (refine wpList_load_rowG (by rfl) 27 (.tmp 2) (by rfl) w.heap.size (by rfl) 27 A (0, 0) _ hA Tryz.underlying27 (by rfl) (by rw [hA1]; exact infoSt) ?_))
  refine Calls.mono (stays_ _ (.agg I) (.agg A) s _ fI (by rw [HAV.out]; exact HST.out.up HU) HSM.out) ?_
  rintro r W15 ⟨rfl, u⟩
  have hA := u.heap hA
  have hE := u.heap hE
  have HU := HU.trans u
  have fI := fI.up u
  have U3 := U3.trans u
  have rI := u.heap rI
  have fE := fE.up u
  have rE := u.heap rE
  have fX := fX.up u
  have rX := u.heap rX
  have fY := fY.up u
  have U9 := U9.trans u
  have U7 := U7.trans u
  have rY := u.heap rY
  have fZ := fZ.up u
  have rZ := u.heap rZ
  clear u
  go_wp2_with (first | (refine wpList_load_rowG (by rfl) 30 (.tmp 6) (by rfl) W5.heap.size (by rfl) 30 (evc e vn) (0, 0) _ rE Tryz.underlying30 (by rfl) (infoEv) ?_) | (refine wpList_load_rowG (by rfl) 30 (.tmp 3) (by rfl) (w.heap.size + 1) (by rfl) 30 (evc e vo) (0, 0) _ hE Tryz.underlying30 (by rfl) (infoEv) ?_))
  refine Calls.mono (HEE.out _ vn HU (WI.il fE)) ?_
  rintro r W16 ⟨rfl, u⟩
  have hA := u.heap hA
  have hE := u.heap hE
  have HU := HU.trans u
  have fI := fI.up u
  have U3 := U3.trans u
  have rI := u.heap rI
  have fE := fE.up u
  have rE := u.heap rE
  have fX := fX.up u
  have rX := u.heap rX
  have fY := fY.up u
  have U9 := U9.trans u
  have U7 := U7.trans u
  have rY := u.heap rY
  have fZ := fZ.up u
  have rZ := u.heap rZ
  clear u
  go_wp2_with (first | (refine wpList_load_rowG (by rfl) 30 (.tmp 6) (by rfl) W5.heap.size (by rfl) 30 (evc e vn) (0, 0) _ rE Tryz.underlying30 (by rfl) (infoEv) ?_))
  refine Calls.mono (HSE.out _ _ vn fE) ?_
  rintro r W17 ⟨rfl, u⟩
  have hA := u.heap hA
  have hE := u.heap hE
  have HU := HU.trans u
  have fI := fI.up u
  have U3 := U3.trans u
  have rI := u.heap rI
  have fE := fE.up u
  have rE := u.heap rE
  have fX := fX.up u
  have rX := u.heap rX
  have fY := fY.up u
  have U9 := U9.trans u
  have U7 := U7.trans u
  have rY := u.heap rY
  have fZ := fZ.up u
  have rZ := u.heap rZ
  clear u
  go_wp2_with (first | (refine wpList_load_row (by rfl) 27 (.tmp 5) (by rfl) W3.heap.size (by rfl) 27 I (0, 0) _ rI Tryz.underlying27 (by rfl) (by rw [h1I]; exact infoSt) ?_))
  refine Calls.mono (spoil_ W2.heap.size (.agg I) s W3 _ HFI.out HFI1.out U3 HSM.out) ?_
  rintro r W18 ⟨rfl, hbel, hkp⟩
  have hsz3 : W3.heap.size <= W5.heap.size /\ W5.heap.size <= W6.heap.size /\ W6.heap.size <= W7.heap.size /\ W7.heap.size <= W8.heap.size /\ W8.heap.size <= W9.heap.size /\ W9.heap.size <= W10.heap.size /\ W10.heap.size <= W11.heap.size := HSZ.out
  have rX := hkp _ _ (by omega) rX
  have rY := hkp _ _ (by omega) rY
  have rZ := hkp _ _ (by omega) rZ
  have fX := fX.kp (hkp.more (by omega))
  have fZ := fZ.kp (hkp.more (by omega))
  have HX7 : Hid (BG.StIn W18 W6.heap.size W7.heap.size (.agg X)) := stIn_kp (HX7.out.below (gb := W7.heap.size) (Below.mono U7 (Nat.le_refl _)) (Nat.le_refl _)) (hkp.more (by omega))
  have HY9 : Hid (BG.StIn W18 W8.heap.size W9.heap.size (.agg Y)) := stIn_kp (HY9.out.below (gb := W9.heap.size) (Below.mono U9 (Nat.le_refl _)) (Nat.le_refl _)) (hkp.more (by omega))
  have HU : Up w W18 := Below.trans HU (Below.mono hbel (by omega))
  have hlt := And.intro U9.size hbel.size
  have HLT : Hid _ := hlt
  clear hbel hkp hA hE rI rE fI fE U3 U9 U7 fY hlt
  go_wp2_with (first | (refine wpList_load_row (by rfl) 27 (.tmp 7) (by rfl) W7.heap.size (by rfl) 27 X (0, 0) _ rX Tryz.underlying27 (by rfl) (by rw [h1X]; exact infoSt) ?_) | (refine wpList_load_row (by rfl) 27 (.tmp 11) (by rfl) W11.heap.size (by rfl) 27 Z (0, 0) _ rZ Tryz.underlying27 (by rfl) (by rw [h1Z]; exact infoSt) ?_))
  refine Calls.mono (eqState_ (.agg X) (.agg Z) st st _ (SO.sl (SOA.so fX)) (SO.sl (SOA.so fZ)) HSO.out (eqS_selfW st)) ?_
  rintro r W19 ⟨rfl, u⟩
  have HX7 : Hid (BG.StIn W19 W6.heap.size W7.heap.size (.agg X)) := HX7.out.below (gb := W18.heap.size) u (by have := HLT.out; have := HSZ.out; omega)
  have HY9 : Hid (BG.StIn W19 W8.heap.size W9.heap.size (.agg Y)) := HY9.out.below (gb := W18.heap.size) u (by have := HLT.out; omega)
  have hs19 : W18.heap.size <= W19.heap.size := u.size
  have HU := HU.trans u
  have rX := u.heap rX
  have rY := u.heap rY
  clear u
  clear fX fZ rZ
  obtain ⟨gb, hgb⟩ : ∃ g, g = W19.heap.size := ⟨_, rfl⟩
  obtain ⟨W20, hW20⟩ : ∃ W, W = W19.alloc (.cells #[.slice none 0 0, .slice none 0 0, .slice none 0 0, .slice none 0 0, .slice none 0 0, .slice none 0 0, .slice none 0 0, .slice none 0 0, .slice none 0 0, .slice none 0 0, .slice none 0 0, .slice none 0 0, .slice none 0 0, .slice none 0 0, .slice none 0 0, .slice none 0 0, .slice none 0 0, .slice none 0 0, .slice none 0 0, .slice none 0 0, .slice none 0 0] 64) := ⟨_, rfl⟩
  have HB0 : Hid (BG.BagG W20 w.heap.size gb (gb + 1) (fun _ => .slice none 0 0) (fun _ => [])) := by
   unfold Hid
   rw [hgb, hW20]
   exact BG.bagG_start _ _
  have u : Up W19 W20 := by rw [hW20]; exact (Up.refl _).alloc _
  have HLT2 : Hid (w.heap.size <= W6.heap.size /\ W6.heap.size <= W7.heap.size /\ W7.heap.size <= W8.heap.size /\ W8.heap.size <= W9.heap.size /\ W9.heap.size <= gb /\ w.heap.size <= gb /\ W7.heap.size < gb /\ W9.heap.size < gb) := by
   have l1 := (Array.getElem?_eq_some_iff.1 rX).1
   have l2 := (Array.getElem?_eq_some_iff.1 rY).1
   have l3 := HLT.out
   have l4 := HSZ.out
   have l5 := HW6.out
   rw [hgb]
   exact ⟨by omega, by omega, by omega, by omega, by omega, by omega, by omega, by omega⟩
  have HX7 : Hid (BG.StIn W20 W6.heap.size W7.heap.size (.agg X)) := HX7.out.below (gb := W19.heap.size) u (by have := HLT2.out; omega)
  have HY9 : Hid (BG.StIn W20 W8.heap.size W9.heap.size (.agg Y)) := HY9.out.below (gb := W19.heap.size) u (by have := HLT2.out; omega)
  have HU := HU.trans u
  have rX := u.heap rX
  have rY := u.heap rY
  clear u
  have rX' := rX
  rw [hW20] at rX'
  go_wp2_with (first | (refine wpList_load_row (by rfl) 27 (.tmp 7) (by rfl) W7.heap.size (by rfl) 27 X (0, 0) _ rX' Tryz.underlying27 (by rfl) (by rw [h1X]; exact infoSt) ?_))
  rw [<- hW20, <- hgb]
  clear hW20 hgb rX' hs19
  refine Calls.mono (BG.addState_ gb (gb + 1) w.heap.size W6.heap.size W7.heap.size _ _ _ W20 HB0.out HX7.out (by have := HLT2.out; omega) (by have := HLT2.out; omega) (fun j g hg => by obtain ⟨p, hp, -⟩ := hg; exact absurd hp (Nat.not_lt_zero _))) ?_
  rintro r W21 ⟨rfl, f7, L7, d1, d2, d3, -, d5⟩
  have HB7 : Hid (BG.BagG W21 w.heap.size gb (gb + 1) f7 L7) := d1
  have HD7 : Hid (Below gb W20 W21) := d2
  have HK7 : Hid (∀ j g, BG.Blks (L7 j) g -> W6.heap.size <= g /\ g < W7.heap.size) := fun j g hg => by
   rcases d3 j g hg with h | h
   ·obtain ⟨p, hp, -⟩ := h; exact absurd hp (Nat.not_lt_zero _)
   ·exact h
  have HJ7 : Hid (∀ j, j ∉ [7, 8, 12, 1] -> L7 j = []) := d5
  have rY : W21.heap[W9.heap.size]? = some (.cells Y 27 (0, 0)) := (d2.block _ HLT2.out.2.2.2.2.2.2.2).trans rY
  clear d1 d2 d3 d5 HB0 rX HX7
  go_wp2_with (first | (refine wpList_load_row (by rfl) 27 (.tmp 9) (by rfl) W9.heap.size (by rfl) 27 Y (0, 0) _ rY Tryz.underlying27 (by rfl) (by rw [h1Y]; exact infoSt) ?_))
  refine Calls.mono (BG.addState_ gb (gb + 1) w.heap.size W8.heap.size W9.heap.size _ _ _ W21 HB7.out (HY9.out.below HD7.out (by have := HLT2.out; omega)) (by have := HLT2.out; omega) (by have := HLT2.out; omega) (fun j g hg => by have := HK7.out j g hg; have := HLT2.out; omega)) ?_
  rintro r W22 ⟨rfl, f8, L8, d1, d2, -, -, d5⟩
  have HB8 : Hid (BG.BagG W22 w.heap.size gb (gb + 1) f8 L8) := d1
  have HD8 : Hid (Below w.heap.size w W22) := Below.trans HU ((Below.trans HD7.out d2).mono (by have := HLT2.out; omega))
  have HJ8 : Hid (∀ k, k < 21 -> k ≠ 1 -> k ≠ 7 -> k ≠ 8 -> k ≠ 12 -> L8 k = []) := fun j _ h1 h7 h8 h12 => (d5 j (by simp; omega)).trans (HJ7.out j (by simp; omega))
  clear d1 d2 d5 HB7 HD7 HK7 HJ7 rY HY9
  go_wp2_with fail
  refine Calls.mono (BG.apartS_ W22 w.heap.size gb (gb + 1) f8 L8 HB8.out HLT2.out.2.2.2.2.2.1 HJ8.out) ?_
  rintro r W23 ⟨rfl, d1⟩
  have HD9 : Hid (Below w.heap.size w W23) := Below.trans HD8.out d1
  clear d1 HD8 HB8 HJ8
  go_wp2_with fail
  refine Calls.mono (HLV.out _) ?_
  rintro r W24 ⟨rfl, d1⟩
  have HF : Hid (Up w W24) := Below.trans HD9.out (d1.mono HD9.out.size)
  clear d1 HD9
  go_wp2
  go_ret
  exact ⟨rfl, HF.out⟩
end DE
end Go.Proofs.YtodhjjeagmjhdaaGreatDoor
