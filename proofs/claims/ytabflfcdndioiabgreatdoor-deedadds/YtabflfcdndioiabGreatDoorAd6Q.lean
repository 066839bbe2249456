/-
  DeedAdds: changes one behind the other are added.
-/
import Derived.Test.YtabflfcdndioiabGreatDoorSq6Q
import Derived.Test.YtabflfcdndioiabGreatDoorLv6Q
import Derived.Test.YtabflfcdndioiabGreatDoorSzToEg
namespace Go.Proofs.YtabflfcdndioiabGreatDoor
open Go.RowKit
attribute [local go_sem ↓] Go.wp_at_zero Go.wp_at_succ

namespace DE
open Go.Proofs.YtabflfcdndioiabGreatDoor.ST
theorem evs_nil (W : World) : EVS W (.slice none 0 0) [] := ⟨[], ⟨rfl, none, 0, rfl, Nat.le_refl _, fun h => absurd rfl h⟩, fun i hi => absurd hi (Nat.not_lt_zero i)⟩
theorem dl_evs {base : Nat} {W : World} {v : Value} {o : Option Ev} (h : DL base W v o) : EVS W v o.toList := by
  cases o with
  | none => rw [show v = .slice none 0 0 from h]; exact evs_nil W
  | some e =>
    obtain ⟨g, vo, rfl, -, h3, h4⟩ := h
    exact evs_one h3 (IRow.il h4)
theorem eqS_self (s : Stt) : eqS s s = true := by simp [eqS]
def ChS (l : List Ev) (w : World) (x : Ending) (w' : World) : Prop := ∃ v, x = .returned (.tuple #[v, .int .i64 0]) ∧ EVS w' v l ∧ Up w w'
def RpS (t : Stt) (w : World) (x : Ending) (w' : World) : Prop := ∃ C : Array Value, x = .returned (.tuple #[.agg C, .int .i64 0, .int .i64 0]) ∧ C.size = 7 ∧ C.all (·.oneCell') = true ∧ SOA w.heap.size w' (.agg C) t ∧ Up w w'
theorem one_ord {s : Stt} {f n x : Int} {r : Ev × Int} (h : chP s f n = some r) : NearE (one { r.1 with was := r.2, now := x }).toList := by
  rw [one_is h]
  split
  · exact ⟨by simp, fun i hi => absurd hi (Nat.not_lt_zero i)⟩
  · refine ⟨by simp, fun i hi => ?_⟩
    simp only [Option.toList_some, List.length_singleton] at hi
    obtain rfl : i = 0 := by omega
    show r.1.ord.length ≤ _
    rcases chP_cases h with ⟨i, rfl, hi, hg, he⟩ | ⟨hc, i, rfl, hi, hg, he⟩ <;> (rw [he]; simp [ev2, ev3])
theorem chg_ok {W : World} {v : Value} {t : Stt} {f n b : Int} {r : Ev × Int} (hs : StL W v t) (hok : ff t = none) (h : chP t f n = some r) (hb1 : -9223372036854775808 ≤ b) (hb2 : b ≤ 9223372036854775807) :
    Calls Tryz.prog 20 #[v, .int .i8 f, .int .i64 n, .int .i64 b] W (ChS (one { r.1 with was := r.2, now := chNow r.2 b }).toList W) := by
  have h9 := change_ v t f n b W hs (small_ok hok) hb1 hb2
  have hc : changeO t f n b = (0, one { r.1 with was := r.2, now := chNow r.2 b }) := by unfold changeO; rw [if_pos hok, h]
  rw [hc] at h9
  refine h9.mono fun x w' ⟨v', h1, h2, h3⟩ => ⟨v', h1, dl_evs h2, h3⟩
theorem rep_ok {W : World} {v vl : Value} {t t' : Stt} {l : List Ev} (hs : StL W v t) (hsm : Small t) (hl : EVS W vl l) (hn : NearE l) (hr : repO t l = some (.inr t')) : Calls Tryz.prog 15 #[v, vl] W (RpS t' W) := by
  have h9 := replay_ v vl t l W hs hsm hl hn.1 hn.2
  rw [hr] at h9
  refine h9.mono fun x w' ⟨v', h1, h2, h3⟩ => ?_
  obtain ⟨C, rfl, hC1, hC2⟩ := SOA.row h2
  exact ⟨C, h1, hC1, hC2, h2, h3⟩
theorem tb {w : World} {f : FuncId} {a : Array Value} {b c : Bool} (h : Calls Tryz.prog f a w fun r w' => r = .returned (.bool b) ∧ Up w w') (hs : b = c) : Calls Tryz.prog f a w fun r w' => r = .returned (.bool c) ∧ Up w w' := by
  rw [hs] at h
  exact h
set_option maxRecDepth 100000 in
set_option maxHeartbeats 8000000 in
theorem adds (v : Value) (s : Stt) (f n a b : Int) (w : World) (hv : StL w v s) (hf : Far s) (ha1 : -2147483648 ≤ a) (ha2 : a ≤ 2147483647) (hb1 : -2147483648 ≤ b) (hb2 : b ≤ 2147483647) :
    Calls Tryz.prog 5 #[v, .int .i8 f, .int .i64 n, .int .i32 a, .int .i32 b] w fun x w' => x = .returned (.bool true) ∧ Up w w' := by
  have HLV : Hid (∀ W, Calls Tryz.prog 11 #[] W fun x w' => x = .returned (.bool true) ∧ Up W w') := lives_
  have HST : Hid (StL w v s) := hv
  have HBY : Hid (∀ W, Up w W → Calls Tryz.prog 6 #[v, .slice none 0 0] W fun x w' => x = .returned (.bool (decide (2147483647 < lenS s))) ∧ Up W w') := fun W u => by
    have h9 := beyond_ v _ s [] W (hv.up u) hf (evs_nil W) ⟨by simp, fun r hr => absurd hr (Nat.not_lt_zero r)⟩
    exact h9
  obtain ⟨vp, vc, vz, hvv, h1, h2, h3⟩ := hv
  obtain ⟨a1, k1, rfl, -, -⟩ := lc_at h1
  obtain ⟨a2, k2, rfl, -, -⟩ := lc_at h2
  obtain ⟨a3, k3, rfl, -, -⟩ := zl_at h3
  unfold sv at hvv
  clear h1 h2 h3
  obtain ⟨A, hA0⟩ : ∃ A : Array Value, A = #[.slice a1 s.ps.length k1, .slice a2 s.cs.length k2, .slice a3 s.zs.length k3, .int .i32 s.turn, .int .i64 s.whose, .int .i8 s.fin, .int .i64 s.winner] := ⟨_, rfl⟩
  have hA1 : A.size = 7 := by rw [hA0]; rfl
  rw [← hA0] at hvv
  have HAV : Hid (Value.agg A = v) := hvv.symm
  have hA : (w.alloc (.cells A 27)).heap[w.heap.size]? = some (.cells A 27 (0, 0)) := heap_alloc_new _ _
  have HU : Up w (w.alloc (.cells A 27)) := (Up.refl _).alloc _
  rw [hvv] at HBY ⊢
  clear hvv hA0
  by_cases hlong : 2147483647 < lenS s
  · rw [decide_eq_true hlong] at HBY
    clear hlong
    go_enter Tryz.func5, Tryz.ntmps5
    go_wp2_with ((refine wpList_load_row (by rfl) 27 (.tmp 5) (by rfl) w.heap.size (by rfl) 27 A (0, 0) _ hA Tryz.underlying27 (by rfl) (by rw [hA1]; exact infoSt) ?_))
    refine Calls.mono (HBY.out _ HU) ?_
    rintro r W2 ⟨rfl, u2⟩
    have HZ : Hid (Up w W2) := HU.trans u2
    clear u2 HU hA
    go_wp2
    go_ret
    exact ⟨rfl, HZ.out⟩
  · rw [decide_eq_false hlong] at HBY
    have HSM : Hid (Small s) := small_of (by omega)
    have HMA : Hid (∀ W, Up w W → Calls Tryz.prog 10 #[.agg A] W fun r w' => r = .returned (.bool (decide (ff s = none))) ∧ Up W w') := fun W u => may_ (.agg A) s W (by rw [HAV.out]; exact HST.out.up u) HSM.out
    clear hlong
    by_cases hok : ff s = none
    · simp only [hok, decide_true] at HMA
      have HCS : Hid (∀ W, Up w W → Calls Tryz.prog 9 #[.agg A] W (CpPost W fun W' v => SO W.heap.size W' v s)) := fun W u => copyState_ (.agg A) s W (by rw [HAV.out]; exact HST.out.up u) HSM.out
      go_enter Tryz.func5, Tryz.ntmps5
      go_wp2_with (first | (refine wpList_load_row (by rfl) 27 (.tmp 5) (by rfl) w.heap.size (by rfl) 27 A (0, 0) _ hA Tryz.underlying27 (by rfl) (by rw [hA1]; exact infoSt) ?_))
      refine Calls.mono (HBY.out _ HU) ?_
      rintro r W2 ⟨rfl, u1⟩
      have hA := u1.heap hA
      have HU := HU.trans u1
      clear u1
      go_wp2_with (first | (refine wpList_load_rowG (by rfl) 27 (.tmp 5) (by rfl) w.heap.size (by rfl) 27 A (0, 0) _ hA Tryz.underlying27 (by rfl) (by rw [hA1]; exact infoSt) ?_))
      refine Calls.mono (HMA.out _ HU) ?_
      rintro r W3 ⟨rfl, u2⟩
      have hA := u2.heap hA
      have HU := HU.trans u2
      clear u2
      clear HBY HMA
      go_wp2_with (first | (refine wpList_load_row (by rfl) 27 (.tmp 5) (by rfl) w.heap.size (by rfl) 27 A (0, 0) _ hA Tryz.underlying27 (by rfl) (by rw [hA1]; exact infoSt) ?_))
      refine Calls.mono (HCS.out _ HU) ?_
      rintro r W4 ⟨v1, rfl, f1, u3⟩
      have hA := u3.heap hA
      have HU := HU.trans u3
      clear u3
      cases hq : chP s f n with
      | none =>
        have h9 := change_ v1 s f n a W4 (SO.sl f1) HSM.out (by omega) (by omega)
        have hc : changeO s f n a = (1, none) := by unfold changeO; rw [if_pos hok, hq]
        rw [hc] at h9
        have HC9 : Hid _ := h9
        clear h9 hc f1
        go_wp2_with fail
        refine Calls.mono HC9.out ?_
        rintro r W5 ⟨v2, rfl, dl, u5⟩
        have dl : v2 = .slice none 0 0 := dl
        subst dl
        have HU := HU.trans u5
        clear u5 HC9 hA
        go_wp2_with fail
        refine Calls.mono (HLV.out _) ?_
        rintro r WZ ⟨rfl, uZ⟩
        have HZ : Hid (Up w WZ) := HU.trans uZ
        clear uZ HU
        go_wp2
        go_ret
        exact ⟨rfl, HZ.out⟩
      | some r =>
        obtain ⟨hr1, ho1⟩ := rep_one hok hq (now_stat r.2 a)
        obtain ⟨hg1, hg2⟩ := set_again (x := chNow r.2 a) hq
        obtain ⟨hr2, ho2⟩ := rep_one ho1 hg1 (now_stat (chNow r.2 a) b)
        obtain ⟨hr3, ho3⟩ := rep_one hok hq (now_stat r.2 (a + b))
        have hk2 := (set_again (x := chNow (chNow r.2 a) b) hg1).1
        have hk3 := (set_again (x := chNow r.2 (a + b)) hq).1
        rw [hg2] at hr2 ho2 hk2
        have HC1 : Hid (∀ W v, StL W v s → Calls Tryz.prog 20 #[v, .int .i8 f, .int .i64 n, .int .i64 a] W (ChS (one { r.1 with was := r.2, now := chNow r.2 a }).toList W)) := fun W v h => chg_ok h hok hq (by omega) (by omega)
        have HC2 : Hid (∀ W v, StL W v (setF s r (chNow r.2 a)) → Calls Tryz.prog 20 #[v, .int .i8 f, .int .i64 n, .int .i64 b] W (ChS (one { r.1 with was := chNow r.2 a, now := chNow (chNow r.2 a) b }).toList W)) := fun W v h => chg_ok h ho1 hg1 (by omega) (by omega)
        have HC3 : Hid (∀ W v, StL W v s → Calls Tryz.prog 20 #[v, .int .i8 f, .int .i64 n, .int .i64 (a + b)] W (ChS (one { r.1 with was := r.2, now := chNow r.2 (a + b) }).toList W)) := fun W v h => chg_ok h hok hq (by omega) (by omega)
        have HR1 : Hid (∀ W v vl, StL W v s → EVS W vl (one { r.1 with was := r.2, now := chNow r.2 a }).toList → Calls Tryz.prog 15 #[v, vl] W (RpS (setF s r (chNow r.2 a)) W)) := fun W v vl h1 h2 => rep_ok h1 HSM.out h2 (one_ord hq) hr1
        have HR2 : Hid (∀ W v vl, StL W v (setF s r (chNow r.2 a)) → EVS W vl (one { r.1 with was := chNow r.2 a, now := chNow (chNow r.2 a) b }).toList → Calls Tryz.prog 15 #[v, vl] W (RpS (setF s r (chNow (chNow r.2 a) b)) W)) := fun W v vl h1 h2 => rep_ok h1 (small_ok ho1) h2 (one_ord (r := (r.1, chNow r.2 a)) hg1) hr2
        have HR3 : Hid (∀ W v vl, StL W v s → EVS W vl (one { r.1 with was := r.2, now := chNow r.2 (a + b) }).toList → Calls Tryz.prog 15 #[v, vl] W (RpS (setF s r (chNow r.2 (a + b))) W)) := fun W v vl h1 h2 => rep_ok h1 HSM.out h2 (one_ord hq) hr3
        have HS1 : Hid (∀ W v, StL W v (setF s r (chNow r.2 a)) → Calls Tryz.prog 21 #[v, .int .i8 f, .int .i64 n] W fun x w' => x = .returned (.bool (endB (chNow r.2 a))) ∧ Up W w') := fun W v h => stopped_ v _ f n _ W h (small_ok ho1) hg1
        have HS2 : Hid (∀ W v, StL W v (setF s r (chNow (chNow r.2 a) b)) → Calls Tryz.prog 21 #[v, .int .i8 f, .int .i64 n] W fun x w' => x = .returned (.bool (endB (chNow (chNow r.2 a) b))) ∧ Up W w') := fun W v h => stopped_ v _ f n _ W h (small_ok ho2) hk2
        have HS3 : Hid (∀ W v, StL W v (setF s r (chNow r.2 (a + b))) → Calls Tryz.prog 21 #[v, .int .i8 f, .int .i64 n] W fun x w' => x = .returned (.bool (endB (chNow r.2 (a + b)))) ∧ Up W w') := fun W v h => stopped_ v _ f n _ W h (small_ok ho3) hk3
        have HEQ : Hid (endB (chNow r.2 a) = false → endB (chNow (chNow r.2 a) b) = false → endB (chNow r.2 (a + b)) = false → chNow (chNow r.2 a) b = chNow r.2 (a + b)) := fun e1 e2 e3 => by
          unfold endB at e1 e2 e3
          simp only [Bool.or_eq_false_iff, decide_eq_false_iff_not] at e1 e2 e3
          have h1 := now_in e1.1 e1.2
          have h2 := now_in e2.1 e2.2
          have h3 := now_in e3.1 e3.2
          omega
        have HM1 : Hid (Small (setF s r (chNow r.2 a))) := small_ok ho1
        have HM2 : Hid (Small (setF s r (chNow (chNow r.2 a) b))) := small_ok ho2
        clear hr1 ho1 hg1 hg2 hr2 ho2 hr3 ho3 hk2 hk3 hq
        generalize hx1 : chNow r.2 a = x1 at *
        generalize hx2 : chNow x1 b = x2 at *
        generalize hx3 : chNow r.2 (a + b) = x3 at *
        clear hx1 hx2 hx3
        generalize hl1 : (one { r.1 with was := r.2, now := x1 }).toList = l1 at *
        generalize hl2 : (one { r.1 with was := x1, now := x2 }).toList = l2 at *
        generalize hl3 : (one { r.1 with was := r.2, now := x3 }).toList = l3 at *
        clear hl1 hl2 hl3
        generalize hs1 : setF s r x1 = s1 at *
        clear hs1
        go_wp2_with (fail)
        refine Calls.mono (HC1.out _ _ (SO.sl f1)) ?_
        rintro r W5 ⟨v2, rfl, e1, u4⟩
        have hA := u4.heap hA
        have HU := HU.trans u4
        clear u4
        clear HC1 f1
        go_wp2_with (first | (refine wpList_load_row (by rfl) 27 (.tmp 5) (by rfl) w.heap.size (by rfl) 27 A (0, 0) _ hA Tryz.underlying27 (by rfl) (by rw [hA1]; exact infoSt) ?_))
        refine Calls.mono (HCS.out _ HU) ?_
        rintro r W6 ⟨v3, rfl, f3, u5⟩
        have hA := u5.heap hA
        have e1 := e1.up u5
        have HU := HU.trans u5
        clear u5
        go_wp2_with (fail)
        refine Calls.mono (HR1.out _ _ _ (SO.sl f3) e1) ?_
        rintro r W7 ⟨C, rfl, h1C, h2C, fC, u6⟩
        have hA := u6.heap hA
        have e1 := e1.up u6
        have HU := HU.trans u6
        clear u6
        clear HR1 f3 e1
        obtain ⟨W8, hwC⟩ : ∃ W9, (W7.alloc (.cells zS 27)).setRow W7.heap.size C = W9 := ⟨_, rfl⟩
        obtain ⟨rC, uu, -⟩ := filled W7 zS C 27
        rw [hwC] at rC uu
        have hA := uu.heap hA
        have fC := fC.up uu
        have HU := HU.trans uu
        obtain ⟨pC, hpC⟩ : ∃ p, p = W7.heap.size := ⟨_, rfl⟩
        clear uu
        have HCC : Hid (∀ W, Up W8 W → Calls Tryz.prog 9 #[.agg C] W (CpPost W fun W' v => SO W.heap.size W' v s1)) := fun W u => copyState_ (.agg C) s1 W (SO.sl (SOA.so (fC.up u))) HM1.out
        have HV : Up W8 W8 := Up.refl _
        go_wp2_with (first | (refine wpList_store_row rfl 27 (.tmp 13) (.tmp 60) rfl W7.heap.size C rfl rfl 27 zS (heap_alloc_new W7 _) (by rw [h1C]; exact infoSt) (by rw [h1C]; rfl) h2C ?_; refine wpList_world hwC ?_) | (refine wpList_load_row (by rfl) 27 (.tmp 13) (by rfl) W7.heap.size (by rfl) 27 C (0, 0) _ rC Tryz.underlying27 (by rfl) (by rw [h1C]; exact infoSt) ?_))
        refine Calls.mono (HCC.out _ HV) ?_
        rintro r W9 ⟨v4, rfl, f4, u7⟩
        have hA := u7.heap hA
        have fC := fC.up u7
        have rC := u7.heap rC
        have HV := HV.trans u7
        have HU := HU.trans u7
        clear u7
        go_wp2_with (fail)
        refine Calls.mono (HC2.out _ _ (SO.sl f4)) ?_
        rintro r W10 ⟨v5, rfl, e2, u8⟩
        have hA := u8.heap hA
        have fC := fC.up u8
        have rC := u8.heap rC
        have HV := HV.trans u8
        have HU := HU.trans u8
        clear u8
        clear HC2 f4
        go_wp2_with (first | (refine wpList_load_row (by rfl) 27 (.tmp 13) (by rfl) W7.heap.size (by rfl) 27 C (0, 0) _ rC Tryz.underlying27 (by rfl) (by rw [h1C]; exact infoSt) ?_))
        refine Calls.mono (HCC.out _ HV) ?_
        rintro r W11 ⟨v6, rfl, f6, u9⟩
        have hA := u9.heap hA
        have fC := fC.up u9
        have rC := u9.heap rC
        have HV := HV.trans u9
        have e2 := e2.up u9
        have HU := HU.trans u9
        clear u9
        go_wp2_with (fail)
        refine Calls.mono (HR2.out _ _ _ (SO.sl f6) e2) ?_
        rintro r W12 ⟨D, rfl, h1D, h2D, fD, u10⟩
        have hA := u10.heap hA
        have fC := fC.up u10
        have rC := u10.heap rC
        have HV := HV.trans u10
        have e2 := e2.up u10
        have HU := HU.trans u10
        clear u10
        clear HR2 f6 e2 HCC HV
        obtain ⟨W13, hwD⟩ : ∃ W9, (W12.alloc (.cells zS 27)).setRow W12.heap.size D = W9 := ⟨_, rfl⟩
        obtain ⟨rD, uu, -⟩ := filled W12 zS D 27
        rw [hwD] at rD uu
        have hA := uu.heap hA
        have fC := fC.up uu
        have rC := uu.heap rC
        have fD := fD.up uu
        have HU := HU.trans uu
        obtain ⟨pD, hpD⟩ : ∃ p, p = W12.heap.size := ⟨_, rfl⟩
        clear uu
        go_wp2_with (first | (refine wpList_store_row rfl 27 (.tmp 18) (.tmp 78) rfl W12.heap.size D rfl rfl 27 zS (heap_alloc_new W12 _) (by rw [h1D]; exact infoSt) (by rw [h1D]; rfl) h2D ?_; refine wpList_world hwD ?_) | (refine wpList_load_row (by rfl) 27 (.tmp 5) (by rfl) w.heap.size (by rfl) 27 A (0, 0) _ hA Tryz.underlying27 (by rfl) (by rw [hA1]; exact infoSt) ?_))
        refine Calls.mono (HCS.out _ HU) ?_
        rintro r W14 ⟨v7, rfl, f7, u11⟩
        have hA := u11.heap hA
        have fC := fC.up u11
        have rC := u11.heap rC
        have fD := fD.up u11
        have rD := u11.heap rD
        have HU := HU.trans u11
        clear u11
        go_wp2_with (fail)
        refine Calls.mono (HC3.out _ _ (SO.sl f7)) ?_
        rintro r W15 ⟨v8, rfl, e3, u12⟩
        have hA := u12.heap hA
        have fC := fC.up u12
        have rC := u12.heap rC
        have fD := fD.up u12
        have rD := u12.heap rD
        have HU := HU.trans u12
        clear u12
        clear HC3 f7
        go_wp2_with (first | (refine wpList_load_row (by rfl) 27 (.tmp 5) (by rfl) w.heap.size (by rfl) 27 A (0, 0) _ hA Tryz.underlying27 (by rfl) (by rw [hA1]; exact infoSt) ?_))
        refine Calls.mono (HCS.out _ HU) ?_
        rintro r W16 ⟨v9, rfl, f9, u13⟩
        have hA := u13.heap hA
        have fC := fC.up u13
        have rC := u13.heap rC
        have fD := fD.up u13
        have rD := u13.heap rD
        have e3 := e3.up u13
        have HU := HU.trans u13
        clear u13
        go_wp2_with (fail)
        refine Calls.mono (HR3.out _ _ _ (SO.sl f9) e3) ?_
        rintro r W17 ⟨E, rfl, h1E, h2E, fE, u14⟩
        have hA := u14.heap hA
        have fC := fC.up u14
        have rC := u14.heap rC
        have fD := fD.up u14
        have rD := u14.heap rD
        have e3 := e3.up u14
        have HU := HU.trans u14
        clear u14
        clear HR3 f9 e3
        obtain ⟨W18, hwE⟩ : ∃ W9, (W17.alloc (.cells zS 27)).setRow W17.heap.size E = W9 := ⟨_, rfl⟩
        obtain ⟨rE, uu, -⟩ := filled W17 zS E 27
        rw [hwE] at rE uu
        have hA := uu.heap hA
        have fC := fC.up uu
        have rC := uu.heap rC
        have fD := fD.up uu
        have rD := uu.heap rD
        have fE := fE.up uu
        have HU := HU.trans uu
        obtain ⟨pE, hpE⟩ : ∃ p, p = W17.heap.size := ⟨_, rfl⟩
        clear uu
        cases t1 : endB x1 with
        | true =>
          go_wp2_with (first | (refine wpList_store_row rfl 27 (.tmp 23) (.tmp 99) rfl W17.heap.size E rfl rfl 27 zS (heap_alloc_new W17 _) (by rw [h1E]; exact infoSt) (by rw [h1E]; rfl) h2E ?_; refine wpList_world hwE ?_) | (refine wpList_load_row (by rfl) 27 (.tmp 13) (by rfl) W7.heap.size (by rfl) 27 C (0, 0) _ rC Tryz.underlying27 (by rfl) (by rw [h1C]; exact infoSt) ?_))
          refine Calls.mono (tb (HS1.out _ _ (SO.sl (SOA.so fC))) t1) ?_
          rintro r W19 ⟨rfl, u15⟩
          have hA := u15.heap hA
          have fC := fC.up u15
          have rC := u15.heap rC
          have fD := fD.up u15
          have rD := u15.heap rD
          have fE := fE.up u15
          have rE := u15.heap rE
          have HU := HU.trans u15
          clear u15
          have HZ : Hid (Up w W19) := HU
          clear HU
          go_wp2
          go_ret
          exact ⟨rfl, HZ.out⟩
        | false =>
          cases t2 : endB x2 with
          | true =>
            go_wp2_with (first | (refine wpList_store_row rfl 27 (.tmp 23) (.tmp 99) rfl W17.heap.size E rfl rfl 27 zS (heap_alloc_new W17 _) (by rw [h1E]; exact infoSt) (by rw [h1E]; rfl) h2E ?_; refine wpList_world hwE ?_) | (refine wpList_load_row (by rfl) 27 (.tmp 13) (by rfl) W7.heap.size (by rfl) 27 C (0, 0) _ rC Tryz.underlying27 (by rfl) (by rw [h1C]; exact infoSt) ?_))
            refine Calls.mono (tb (HS1.out _ _ (SO.sl (SOA.so fC))) t1) ?_
            rintro r W19 ⟨rfl, u16⟩
            have hA := u16.heap hA
            have fC := fC.up u16
            have rC := u16.heap rC
            have fD := fD.up u16
            have rD := u16.heap rD
            have fE := fE.up u16
            have rE := u16.heap rE
            have HU := HU.trans u16
            clear u16
            go_wp2_with (first | (refine wpList_load_rowG (by rfl) 27 (.tmp 18) (by rfl) W12.heap.size (by rfl) 27 D (0, 0) _ rD Tryz.underlying27 (by rfl) (by rw [h1D]; exact infoSt) ?_))
            refine Calls.mono (tb (HS2.out _ _ (SO.sl (SOA.so fD))) t2) ?_
            rintro r W20 ⟨rfl, u17⟩
            have hA := u17.heap hA
            have fC := fC.up u17
            have rC := u17.heap rC
            have fD := fD.up u17
            have rD := u17.heap rD
            have fE := fE.up u17
            have rE := u17.heap rE
            have HU := HU.trans u17
            clear u17
            have HZ : Hid (Up w W20) := HU
            clear HU
            go_wp2
            go_ret
            exact ⟨rfl, HZ.out⟩
          | false =>
            cases t3 : endB x3 with
            | true =>
              go_wp2_with (first | (refine wpList_store_row rfl 27 (.tmp 23) (.tmp 99) rfl W17.heap.size E rfl rfl 27 zS (heap_alloc_new W17 _) (by rw [h1E]; exact infoSt) (by rw [h1E]; rfl) h2E ?_; refine wpList_world hwE ?_) | (refine wpList_load_row (by rfl) 27 (.tmp 13) (by rfl) W7.heap.size (by rfl) 27 C (0, 0) _ rC Tryz.underlying27 (by rfl) (by rw [h1C]; exact infoSt) ?_))
              refine Calls.mono (tb (HS1.out _ _ (SO.sl (SOA.so fC))) t1) ?_
              rintro r W19 ⟨rfl, u18⟩
              have hA := u18.heap hA
              have fC := fC.up u18
              have rC := u18.heap rC
              have fD := fD.up u18
              have rD := u18.heap rD
              have fE := fE.up u18
              have rE := u18.heap rE
              have HU := HU.trans u18
              clear u18
              go_wp2_with (first | (refine wpList_load_rowG (by rfl) 27 (.tmp 18) (by rfl) W12.heap.size (by rfl) 27 D (0, 0) _ rD Tryz.underlying27 (by rfl) (by rw [h1D]; exact infoSt) ?_))
              refine Calls.mono (tb (HS2.out _ _ (SO.sl (SOA.so fD))) t2) ?_
              rintro r W20 ⟨rfl, u19⟩
              have hA := u19.heap hA
              have fC := fC.up u19
              have rC := u19.heap rC
              have fD := fD.up u19
              have rD := u19.heap rD
              have fE := fE.up u19
              have rE := u19.heap rE
              have HU := HU.trans u19
              clear u19
              go_wp2_with (first | (refine wpList_load_rowG (by rfl) 27 (.tmp 23) (by rfl) W17.heap.size (by rfl) 27 E (0, 0) _ rE Tryz.underlying27 (by rfl) (by rw [h1E]; exact infoSt) ?_))
              refine Calls.mono (tb (HS3.out _ _ (SO.sl (SOA.so fE))) t3) ?_
              rintro r W21 ⟨rfl, u20⟩
              have hA := u20.heap hA
              have fC := fC.up u20
              have rC := u20.heap rC
              have fD := fD.up u20
              have rD := u20.heap rD
              have fE := fE.up u20
              have rE := u20.heap rE
              have HU := HU.trans u20
              clear u20
              have HZ : Hid (Up w W21) := HU
              clear HU
              go_wp2
              go_ret
              exact ⟨rfl, HZ.out⟩
            | false =>
              go_wp2_with (first | (refine wpList_store_row rfl 27 (.tmp 23) (.tmp 99) rfl W17.heap.size E rfl rfl 27 zS (heap_alloc_new W17 _) (by rw [h1E]; exact infoSt) (by rw [h1E]; rfl) h2E ?_; refine wpList_world hwE ?_) | (refine wpList_load_row (by rfl) 27 (.tmp 13) (by rfl) W7.heap.size (by rfl) 27 C (0, 0) _ rC Tryz.underlying27 (by rfl) (by rw [h1C]; exact infoSt) ?_))
              refine Calls.mono (tb (HS1.out _ _ (SO.sl (SOA.so fC))) t1) ?_
              rintro r W19 ⟨rfl, u21⟩
              have hA := u21.heap hA
              have fC := fC.up u21
              have rC := u21.heap rC
              have fD := fD.up u21
              have rD := u21.heap rD
              have fE := fE.up u21
              have rE := u21.heap rE
              have HU := HU.trans u21
              clear u21
              go_wp2_with (first | (refine wpList_load_rowG (by rfl) 27 (.tmp 18) (by rfl) W12.heap.size (by rfl) 27 D (0, 0) _ rD Tryz.underlying27 (by rfl) (by rw [h1D]; exact infoSt) ?_))
              refine Calls.mono (tb (HS2.out _ _ (SO.sl (SOA.so fD))) t2) ?_
              rintro r W20 ⟨rfl, u22⟩
              have hA := u22.heap hA
              have fC := fC.up u22
              have rC := u22.heap rC
              have fD := fD.up u22
              have rD := u22.heap rD
              have fE := fE.up u22
              have rE := u22.heap rE
              have HU := HU.trans u22
              clear u22
              go_wp2_with (first | (refine wpList_load_rowG (by rfl) 27 (.tmp 23) (by rfl) W17.heap.size (by rfl) 27 E (0, 0) _ rE Tryz.underlying27 (by rfl) (by rw [h1E]; exact infoSt) ?_))
              refine Calls.mono (tb (HS3.out _ _ (SO.sl (SOA.so fE))) t3) ?_
              rintro r W21 ⟨rfl, u23⟩
              have hA := u23.heap hA
              have fC := fC.up u23
              have rC := u23.heap rC
              have fD := fD.up u23
              have rD := u23.heap rD
              have fE := fE.up u23
              have rE := u23.heap rE
              have HU := HU.trans u23
              clear u23
              have hx23 := HEQ.out t1 t2 t3
              rw [← hx23] at fE
              clear hx23
              go_wp2_with (first | (refine wpList_load_rowG (by rfl) 27 (.tmp 18) (by rfl) W12.heap.size (by rfl) 27 D (0, 0) _ rD Tryz.underlying27 (by rfl) (by rw [h1D]; exact infoSt) ?_) | (refine wpList_load_rowG (by rfl) 27 (.tmp 23) (by rfl) W17.heap.size (by rfl) 27 E (0, 0) _ rE Tryz.underlying27 (by rfl) (by rw [h1E]; exact infoSt) ?_))
              refine Calls.mono (eqState_ (.agg D) (.agg E) _ _ _ (SO.sl (SOA.so fD)) (SO.sl (SOA.so fE)) HM2.out (eqS_self _)) ?_
              rintro r W22 ⟨rfl, u24⟩
              have hA := u24.heap hA
              have fC := fC.up u24
              have rC := u24.heap rC
              have fD := fD.up u24
              have rD := u24.heap rD
              have fE := fE.up u24
              have rE := u24.heap rE
              have HU := HU.trans u24
              clear u24
              go_wp2_with fail
              refine Calls.mono (HLV.out _) ?_
              rintro r WZ ⟨rfl, uZ⟩
              have HZ : Hid (Up w WZ) := HU.trans uZ
              clear uZ
              clear HU
              go_wp2
              go_ret
              exact ⟨rfl, HZ.out⟩
    · simp only [hok, decide_false] at HMA
      go_enter Tryz.func5, Tryz.ntmps5
      go_wp2_with ((refine wpList_load_row (by rfl) 27 (.tmp 5) (by rfl) w.heap.size (by rfl) 27 A (0, 0) _ hA Tryz.underlying27 (by rfl) (by rw [hA1]; exact infoSt) ?_))
      refine Calls.mono (HBY.out _ HU) ?_
      rintro r W2 ⟨rfl, u2⟩
      have hA := u2.heap hA
      have HU := HU.trans u2
      clear u2 HBY
      go_wp2_with ((refine wpList_load_rowG (by rfl) 27 (.tmp 5) (by rfl) w.heap.size (by rfl) 27 A (0, 0) _ hA Tryz.underlying27 (by rfl) (by rw [hA1]; exact infoSt) ?_))
      refine Calls.mono (HMA.out _ HU) ?_
      rintro r W3 ⟨rfl, u3⟩
      have HZ : Hid (Up w W3) := HU.trans u3
      clear u3 HU hA
      go_wp2
      go_ret
      exact ⟨rfl, HZ.out⟩
end DE
end Go.Proofs.YtabflfcdndioiabGreatDoor
