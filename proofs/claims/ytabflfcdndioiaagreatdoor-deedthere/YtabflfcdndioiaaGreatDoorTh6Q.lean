/-
  DeedThere: there and back.
-/
import Derived.Test.YtabflfcdndioiaaGreatDoorLv6Q
import Derived.Test.YtabflfcdndioiaaGreatDoorSk6Q
import Derived.Test.YtabflfcdndioiaaGreatDoorZe6ToEg
namespace Go.Proofs.YtabflfcdndioiaaGreatDoor
open Go.RowKit
attribute [local go_sem ↓] Go.wp_at_zero Go.wp_at_succ

namespace DE
open Go.Proofs.YtabflfcdndioiaaGreatDoor.ST
theorem eqF {w : World} {f : FuncId} {a : Array Value} {b : Bool} (h : Calls Tryz.prog f a w fun r w' => r = .returned (.bool b) ∧ Up w w') (hs : b = false) : Calls Tryz.prog f a w fun r w' => r = .returned (.bool false) ∧ Up w w' := by
  rw [hs] at h
  exact h
theorem eqS_self (s : Stt) : eqS s s = true := by simp [eqS]
theorem small_noS : Small noS := ⟨by decide, by decide, by decide, fun r hr => absurd hr (Nat.not_lt_zero r)⟩
theorem mayT {w : World} {f : FuncId} {a : Array Value} {s : Stt} (h : Calls Tryz.prog f a w fun r w' => r = .returned (.bool (decide (ff s = none))) ∧ Up w w') (hs : ff s = none) : Calls Tryz.prog f a w fun r w' => r = .returned (.bool true) ∧ Up w w' := by
  rw [decide_eq_true hs] at h
  exact h
def ApG (o : Option (Sum Nat Stt)) (w : World) (x : Ending) (w' : World) : Prop := ∃ C : Array Value, x = .returned (.tuple #[.agg C, .int .i64 (errOf o)]) ∧ C.size = 7 ∧ C.all (·.oneCell') = true ∧ SOA w.heap.size w' (.agg C) (stOf o) ∧ Up w w'
theorem apg_of {w : World} {o : Option (Sum Nat Stt)} {x : Ending} {w' : World} (h : AppV w o x w') : ApG o w x w' := by
  obtain ⟨v, h1, h2, h3⟩ := h
  obtain ⟨C, rfl, hC1, hC2⟩ := SOA.row h2
  exact ⟨C, h1, hC1, hC2, h2, h3⟩
set_option maxRecDepth 100000 in
set_option maxHeartbeats 8000000 in
theorem there (v vo : Value) (s : Stt) (e : Ev) (w : World) (hv : StL w v s) (hf : Far s) (ho : IL w vo e.ord) (hn0 : e.ord.length ≤ 140737488355328) :
    Calls Tryz.prog 8 #[v, evv e vo] w fun x w' => x = .returned (.bool true) ∧ Up w w' := by
  have HLV : Hid (∀ W, Calls Tryz.prog 21 #[] W fun x w' => x = .returned (.bool true) ∧ Up W w') := lives_
  have HBY : Hid (∀ W g, Up w W → W.heap[g]? = some (.cells (evc e vo) 30 (0, 0)) → Calls Tryz.prog 9 #[v, .slice (some ⟨g, 0, none⟩) 1 1] W fun x w' => x = .returned (.bool (decide (2147483647 < lenS s + lenE [e]))) ∧ Up W w') := fun W g u hg =>
    beyond_ v _ s [e] W (hv.up u) hf (evs_one hg (ho.up u)) ⟨by simp, fun r hr => by
      simp only [List.length_singleton] at hr
      obtain rfl : r = 0 := by omega
      exact hn0⟩
  have HST : Hid (StL w v s) := hv
  have HIL : Hid (IL w vo e.ord) := ho
  obtain ⟨oa, oc, hvo, -, -⟩ := il_at ho
  obtain ⟨vp, vc, vz, hvv, h1, h2, h3⟩ := hv
  obtain ⟨a1, k1, rfl, -, -⟩ := lc_at h1
  obtain ⟨a2, k2, rfl, -, -⟩ := lc_at h2
  obtain ⟨a3, k3, rfl, -, -⟩ := zl_at h3
  unfold sv at hvv
  clear h1 h2 h3 ho
  obtain ⟨A, hA0⟩ : ∃ A : Array Value, A = #[.slice a1 s.ps.length k1, .slice a2 s.cs.length k2, .slice a3 s.zs.length k3, .int .i32 s.turn, .int .i64 s.whose, .int .i8 s.fin, .int .i64 s.winner] := ⟨_, rfl⟩
  have hA1 : A.size = 7 := by rw [hA0]; rfl
  rw [← hA0] at hvv
  obtain ⟨W1, hW1⟩ : ∃ W1, ((w.alloc (.cells A 27)).alloc (.cells (evc e vo) 30)).alloc (.cells (evc e vo) 30) = W1 := ⟨_, rfl⟩
  have hA : W1.heap[w.heap.size]? = some (.cells A 27 (0, 0)) := by rw [← hW1, Below.heap_alloc _ _ _ (by simp; omega)]; exact heap_alloc2_old _ _ _
  have hE : W1.heap[w.heap.size + 1]? = some (.cells (evc e vo) 30 (0, 0)) := by rw [← hW1, Below.heap_alloc _ _ _ (by simp)]; exact heap_alloc2_new _ _ _
  have hB : W1.heap[w.heap.size + 1 + 1]? = some (.cells (evc e vo) 30 (0, 0)) := by
    rw [← hW1]
    have := heap_alloc_new ((w.alloc (.cells A 27)).alloc (.cells (evc e vo) 30)) (.cells (evc e vo) 30)
    simpa using this
  have HU : Up w W1 := by rw [← hW1]; exact (((Up.refl _).alloc _).alloc _).alloc _
  have HBC : Hid _ := HBY.out W1 (w.heap.size + 1 + 1) HU hB
  have HAV : Hid (Value.agg A = v) := hvv.symm
  subst hvo
  clear HBY hB
  rw [hA0] at hW1
  unfold evc at hW1
  unfold evv evc
  by_cases hlong : 2147483647 < lenS s + lenE [e]
  · rw [decide_eq_true hlong] at HBC
    rw [hvv, hA0] at HBC ⊢
    clear hA hE hA0 HU HAV HST HIL HLV hvv hA1
    go_enter Tryz.func8, Tryz.ntmps8
    go_wp2_with fail
    refine Calls.mono HBC.out ?_
    rintro r W2 ⟨rfl, u2⟩
    have HZ : Hid (Up w W2) := Up.trans (by rw [← hW1]; exact (((Up.refl _).alloc _).alloc _).alloc _) u2
    clear u2 hW1
    go_wp2
    go_ret
    exact ⟨rfl, HZ.out⟩
  · rw [decide_eq_false hlong] at HBC
    have hsml : lenS s ≤ 2147483647 := by omega
    have HSM : Hid (Small s) := small_of hsml
    have hn : e.ord.length ≤ 4294967296 := by
      have : e.ord.length ≤ lenE [e] := by simp [lenE, ords]
      omega
    have HCE : Hid (∀ W, Up w W → Calls Tryz.prog 41 #[.agg (evc e (.slice oa e.ord.length oc))] W fun x w' => ∃ vn, x = .returned (evv e vn) ∧ IRow W.heap.size w' vn e.ord ∧ Up W w') := fun W u => copyEvent_ e _ W (HIL.out.up u) hn
    obtain ⟨o1, ho1⟩ : ∃ o, o = repO s [e] := ⟨_, rfl⟩
    obtain ⟨o2, ho2⟩ : ∃ o, o = bckO s [e] := ⟨_, rfl⟩
    have HAp : Hid (∀ (W : World) (v vn : Value), Up w W → StL W v s → IL W vn e.ord → Calls Tryz.prog 12 #[v, evv e vn] W (ApG o1 W)) := fun W v vn u h1 h2 => by
      rw [ho1]
      exact (apply_ v vn s e W h1 HSM.out h2 hn).mono fun e w' h => apg_of h
    have HUn : Hid (∀ (W : World) (v vn : Value), Up w W → StL W v s → IL W vn e.ord → Calls Tryz.prog 22 #[v, evv e vn] W (ApG o2 W)) := fun W v vn u h1 h2 => by
      rw [ho2]
      exact (undo1_ v vn s e W h1 HSM.out h2 hn).mono fun e w' h => apg_of h
    have HO : Hid (o1 = repO s [e] ∧ o2 = bckO s [e]) := ⟨ho1, ho2⟩
    unfold ApG at HAp HUn
    obtain ⟨g1, hg1⟩ : ∃ g, g = errOf o1 := ⟨_, rfl⟩
    obtain ⟨g2, hg2⟩ : ∃ g, g = errOf o2 := ⟨_, rfl⟩
    rw [← hg1] at HAp
    rw [← hg2] at HUn
    have HG1 : Hid _ := hg1
    have HG2 : Hid _ := hg2
    clear ho1 ho2 hlong hsml hg1 hg2
    rw [hvv, hA0] at HBC ⊢
    clear hA0
    go_enter Tryz.func8, Tryz.ntmps8
    go_wp2_with fail
    refine Calls.mono HBC.out ?_
    rintro r W2 ⟨rfl, u2⟩
    have hA := u2.heap hA
    have hE := u2.heap hE
    have HU := HU.trans u2
    clear u2 hW1 HBC hvv
    have HC1 : Hid (∀ W, Up W2 W → Calls Tryz.prog 40 #[.agg A] W (CpPost W fun W' v => SO W.heap.size W' v s)) := fun W u => copyState_ (.agg A) s W (by rw [HAV.out]; exact HST.out.up (HU.trans u)) HSM.out
    obtain ⟨vo, hvo⟩ : ∃ vo : Value, vo = .slice oa e.ord.length oc := ⟨_, rfl⟩
    rw [← hvo] at hE HCE
    clear hvo
    go_wp2_with fail
    refine (fun key3 : ∀ (W : World) (p : Nat) (C : Array Value) (v1 vn : Value), Up W2 W → W.heap[p]? = some (.cells C 27 (0, 0)) → SOA w.heap.size W (.agg C) (stOf o1) → C.size = 7 → C.all (·.oneCell') = true → (?G3 : World → Nat → Array Value → Value → Value → Prop) W p C v1 vn => ?main3) ?kp3
    case main3 =>
      refine wp_region_held_drew (S := fun W9 => Up W2 W9) (by kernel_rfl) (Up.drew (Up.refl _)) (fun hHeld => ?_)
      have Ua0 : Up W2 W2.drew := Up.drew (Up.refl _)
      refine wpAnyH_take (i := 0) (v := ?_) rfl (by kernel_rfl) (by kernel_rfl) (by kernel_rfl) (fun _ _ _ h => h) (Or.inl ⟨by rfl, ?_⟩) (by assumption) ?_
      rotate_left
      · intro w9 hSw
        refine (exec_load_row 27 (.tmp 2) (by rfl) w.heap.size (by rfl) 27 A (0, 0) _ Tryz.underlying27 (by rfl) (by rw [hA1]; exact infoSt) w9 (hSw.heap hA)).trans ?_
        with_reducible rfl
      simp only [Act.put, List.setIfInBounds_toArray, List.set_cons_zero, List.set_cons_succ, List.getElem_toArray, List.getElem_cons_zero]
      refine wpAnyH_take (i := 2) (v := ?_) rfl (by kernel_rfl) (by kernel_rfl) (by kernel_rfl) (fun _ _ _ h => h) (Or.inl ⟨by rfl, ?_⟩) (by assumption) ?_
      rotate_left
      · intro w9 hSw
        refine (exec_load_row 30 (.tmp 3) (by rfl) (w.heap.size + 1) (by rfl) 30 (evc e vo) (0, 0) _ Tryz.underlying30 (by rfl) infoEv w9 (hSw.heap hE)).trans ?_
        with_reducible rfl
      simp only [Act.put, List.setIfInBounds_toArray, List.set_cons_zero, List.set_cons_succ, List.getElem_toArray, List.getElem_cons_zero, List.getElem_cons_succ]
      refine wpAnyH_ready (rs := [1, 8]) (by kernel_rfl) (by simp) ?_
      refine AllReadyH.cons rfl (fun K hK => ?_) (AllReadyH.cons rfl (fun K hK => ?_) AllReadyH.nil)
      · simp only [List.getElem_toArray, List.getElem_cons_zero, List.getElem_cons_succ]
        go_simp
        refine Calls.mono (HC1.out _ Ua0) ?_
        rintro r9 Wa1 ⟨v1, rfl, f1, ua1⟩
        go_simp
        have Ua1 := Ua0.trans ua1
        refine hK.out _ _ ?_ (fun hHeld => ?_)
        · exact Ua1
        clear hK K
        try simp only [Act.put, List.setIfInBounds_toArray, List.set_cons_zero, List.set_cons_succ]
        have hSS := Ua1
        refine wpAnyH_ready (rs := [3, 8]) (by kernel_rfl) (by simp) ?_
        refine AllReadyH.cons rfl (fun K hK => ?_) (AllReadyH.cons rfl (fun K hK => ?_) AllReadyH.nil)
        · simp only [List.getElem_toArray, List.getElem_cons_zero, List.getElem_cons_succ]
          go_simp
          refine Calls.mono (HCE.out _ (HU.trans Ua1)) ?_
          rintro r9 Wa2 ⟨vn, rfl, f2, ua2⟩
          go_simp
          have Ua2 := Ua1.trans ua2
          have f1 := f1.up ua2
          refine hK.out _ _ ?_ (fun hHeld => ?_)
          · exact Ua2
          clear hK K
          try simp only [Act.put, List.setIfInBounds_toArray, List.set_cons_zero, List.set_cons_succ]
          have hSS := Ua2
          refine wpAnyH_ready (rs := [4, 8]) (by kernel_rfl) (by simp) ?_
          refine AllReadyH.cons rfl (fun K hK => ?_) (AllReadyH.cons rfl (fun K hK => ?_) AllReadyH.nil)
          · simp only [List.getElem_toArray, List.getElem_cons_zero, List.getElem_cons_succ]
            go_simp
            refine Calls.mono (HAp.out _ _ _ (HU.trans Ua2) (SO.sl f1) (IRow.il f2)) ?_
            rintro r9 Wa3 ⟨C, rfl, h1C, h2C, f3, ua3⟩
            have f3 := f3.less (HU.trans Ua2).size
            go_simp
            have Ua3 := Ua2.trans ua3
            have f1 := f1.up ua3
            have f2 := row_up f2 ua3
            refine hK.out _ _ ?_ (fun hHeld => ?_)
            · exact Ua3
            clear hK K
            try simp only [Act.put, List.setIfInBounds_toArray, List.set_cons_zero, List.set_cons_succ]
            have hSS := Ua3
            refine wpAnyH_take (i := 5) (v := ?_) rfl (by kernel_rfl) (by kernel_rfl) (by kernel_rfl) (fun _ _ _ h => h) (Or.inl ⟨by rfl, ?_⟩) (by assumption) ?_
            rotate_left
            · intro w9 hSw
              go_simp
              try with_reducible rfl
            simp only [Act.put, List.setIfInBounds_toArray, List.set_cons_zero, List.set_cons_succ, List.getElem_toArray, List.getElem_cons_zero, List.getElem_cons_succ]
            refine wpAnyH_take (i := 6) (v := ?_) rfl (by kernel_rfl) (by kernel_rfl) (by kernel_rfl) (fun _ _ _ h => h) (Or.inl ⟨by rfl, ?_⟩) (by assumption) ?_
            rotate_left
            · intro w9 hSw
              go_simp
              try with_reducible rfl
            simp only [Act.put, List.setIfInBounds_toArray, List.set_cons_zero, List.set_cons_succ, List.getElem_toArray, List.getElem_cons_zero, List.getElem_cons_succ]
            refine wpAnyH_take (i := 7) (v := ?_) rfl (by kernel_rfl) (by kernel_rfl) (by kernel_rfl) (fun _ _ _ h => h) (Or.inl ⟨by rfl, ?_⟩) (by assumption) ?_
            rotate_left
            · intro w9 hSw
              go_simp
              try with_reducible rfl
            simp only [Act.put, List.setIfInBounds_toArray, List.set_cons_zero, List.set_cons_succ, List.getElem_toArray, List.getElem_cons_zero, List.getElem_cons_succ]
            refine wpAnyH_ready (rs := [8]) (by kernel_rfl) (by simp) ?_
            refine AllReadyH.cons rfl (fun K hK => ?_) AllReadyH.nil
            simp only [List.getElem_toArray, List.getElem_cons_zero, List.getElem_cons_succ]
            go_simp
            refine hK.out _ _ ?_ (fun hHeld => ?_)
            · exact Ua3.alloc _
            clear hK K
            try simp only [Act.put, List.setIfInBounds_toArray, List.set_cons_zero, List.set_cons_succ]
            obtain ⟨p5, hp5⟩ : ∃ p, p = (Wa3).heap.size := ⟨_, rfl⟩
            obtain ⟨Wa4, hW1⟩ : ∃ W1, (Wa3).alloc (.cells zS 27) = W1 := ⟨_, rfl⟩
            refine wpAnyH_world hW1 ?_
            have h9 : Wa3.heap.size = p5 := hp5.symm
            simp only [h9]
            clear h9
            have ua4 : Up (Wa3) Wa4 := by rw [← hW1]; exact (Up.refl _).alloc _
            have ep5 : Wa4.heap[p5]? = some (.cells zS 27 (0, 0)) := by rw [hp5, ← hW1]; exact heap_alloc_new _ _
            have lp5 : W2.heap.size ≤ p5 := by rw [hp5]; exact Ua3.size
            have Ua4 := Ua3.trans ua4
            have f1 := f1.up ua4
            have f2 := row_up f2 ua4
            have f3 := f3.up ua4
            clear hHeld hW1 hp5
            have hSS := Ua4
            refine wpAnyH_ready (rs := [9]) (by kernel_rfl) (by simp) ?_
            refine AllReadyH.cons rfl (fun K hK => ?_) AllReadyH.nil
            simp only [List.getElem_toArray, List.getElem_cons_zero, List.getElem_cons_succ]
            refine stepH_store (by rfl) 27 (.tmp 5) (.tmp 23) (by rfl) p5 C (by rfl) (by rfl) 27 zS ep5 (by rw [h1C]; exact infoSt) (by rw [h1C]; rfl) (h2C) ?_
            refine hK.out _ _ ?_ (fun hHeld => ?_)
            · exact up_setRow Ua4 lp5 _
            clear hK K
            simp only [Act.put]
            obtain ⟨Wa5, hW1⟩ : ∃ W1, (Wa4).setRow p5 C = W1 := ⟨_, rfl⟩
            refine wpAnyH_world hW1 ?_
            have Ua5 : Up W2 Wa5 := by rw [← hW1]; exact up_setRow Ua4 lp5 _
            have f3 := SOA.setRow (C := C) f3 ep5
            rw [hW1] at f3
            have ep5 : Wa5.heap[p5]? = some (.cells C 27 (0, 0)) := by rw [← hW1]; exact setRow_heap _ _ _ _ _ _ ep5
            clear hHeld hW1
            have hSS := Ua5
            refine wpAnyH_take (i := 10) (v := ?_) rfl (by kernel_rfl) (by kernel_rfl) (by kernel_rfl) (fun _ _ _ h => h) (Or.inl ⟨by rfl, ?_⟩) (by assumption) ?_
            rotate_left
            · intro w9 hSw
              go_simp
              try with_reducible rfl
            simp only [Act.put, List.setIfInBounds_toArray, List.set_cons_zero, List.set_cons_succ, List.getElem_toArray, List.getElem_cons_zero, List.getElem_cons_succ]
            refine wpAnyH_done (by kernel_rfl) ?_ _
            exact key3 Wa5 p5 C v1 vn Ua5 ep5 f3 h1C h2C
          · simp only [List.getElem_toArray, List.getElem_cons_zero, List.getElem_cons_succ]
            go_simp
            refine hK.out _ _ ?_ (fun hHeld => ?_)
            · exact Ua2.alloc _
            clear hK K
            try simp only [Act.put, List.setIfInBounds_toArray, List.set_cons_zero, List.set_cons_succ]
            obtain ⟨p5, hp5⟩ : ∃ p, p = (Wa2).heap.size := ⟨_, rfl⟩
            obtain ⟨Wa3, hW1⟩ : ∃ W1, (Wa2).alloc (.cells zS 27) = W1 := ⟨_, rfl⟩
            refine wpAnyH_world hW1 ?_
            have h9 : Wa2.heap.size = p5 := hp5.symm
            simp only [h9]
            clear h9
            have ua3 : Up (Wa2) Wa3 := by rw [← hW1]; exact (Up.refl _).alloc _
            have ep5 : Wa3.heap[p5]? = some (.cells zS 27 (0, 0)) := by rw [hp5, ← hW1]; exact heap_alloc_new _ _
            have lp5 : W2.heap.size ≤ p5 := by rw [hp5]; exact Ua2.size
            have Ua3 := Ua2.trans ua3
            have f1 := f1.up ua3
            have f2 := row_up f2 ua3
            clear hHeld hW1 hp5
            have hSS := Ua3
            refine wpAnyH_ready (rs := [4]) (by kernel_rfl) (by simp) ?_
            refine AllReadyH.cons rfl (fun K hK => ?_) AllReadyH.nil
            simp only [List.getElem_toArray, List.getElem_cons_zero, List.getElem_cons_succ]
            go_simp
            refine Calls.mono (HAp.out _ _ _ (HU.trans Ua3) (SO.sl f1) (IRow.il f2)) ?_
            rintro r9 Wa4 ⟨C, rfl, h1C, h2C, f3, ua4⟩
            have f3 := f3.less (HU.trans Ua3).size
            go_simp
            have Ua4 := Ua3.trans ua4
            have f1 := f1.up ua4
            have f2 := row_up f2 ua4
            have ep5 := ua4.heap ep5
            refine hK.out _ _ ?_ (fun hHeld => ?_)
            · exact Ua4
            clear hK K
            try simp only [Act.put, List.setIfInBounds_toArray, List.set_cons_zero, List.set_cons_succ]
            have hSS := Ua4
            refine wpAnyH_take (i := 5) (v := ?_) rfl (by kernel_rfl) (by kernel_rfl) (by kernel_rfl) (fun _ _ _ h => h) (Or.inl ⟨by rfl, ?_⟩) (by assumption) ?_
            rotate_left
            · intro w9 hSw
              go_simp
              try with_reducible rfl
            simp only [Act.put, List.setIfInBounds_toArray, List.set_cons_zero, List.set_cons_succ, List.getElem_toArray, List.getElem_cons_zero, List.getElem_cons_succ]
            refine wpAnyH_take (i := 6) (v := ?_) rfl (by kernel_rfl) (by kernel_rfl) (by kernel_rfl) (fun _ _ _ h => h) (Or.inl ⟨by rfl, ?_⟩) (by assumption) ?_
            rotate_left
            · intro w9 hSw
              go_simp
              try with_reducible rfl
            simp only [Act.put, List.setIfInBounds_toArray, List.set_cons_zero, List.set_cons_succ, List.getElem_toArray, List.getElem_cons_zero, List.getElem_cons_succ]
            refine wpAnyH_take (i := 7) (v := ?_) rfl (by kernel_rfl) (by kernel_rfl) (by kernel_rfl) (fun _ _ _ h => h) (Or.inl ⟨by rfl, ?_⟩) (by assumption) ?_
            rotate_left
            · intro w9 hSw
              go_simp
              try with_reducible rfl
            simp only [Act.put, List.setIfInBounds_toArray, List.set_cons_zero, List.set_cons_succ, List.getElem_toArray, List.getElem_cons_zero, List.getElem_cons_succ]
            refine wpAnyH_ready (rs := [9]) (by kernel_rfl) (by simp) ?_
            refine AllReadyH.cons rfl (fun K hK => ?_) AllReadyH.nil
            simp only [List.getElem_toArray, List.getElem_cons_zero, List.getElem_cons_succ]
            refine stepH_store (by rfl) 27 (.tmp 5) (.tmp 23) (by rfl) p5 C (by rfl) (by rfl) 27 zS ep5 (by rw [h1C]; exact infoSt) (by rw [h1C]; rfl) (h2C) ?_
            refine hK.out _ _ ?_ (fun hHeld => ?_)
            · exact up_setRow Ua4 lp5 _
            clear hK K
            simp only [Act.put]
            obtain ⟨Wa5, hW1⟩ : ∃ W1, (Wa4).setRow p5 C = W1 := ⟨_, rfl⟩
            refine wpAnyH_world hW1 ?_
            have Ua5 : Up W2 Wa5 := by rw [← hW1]; exact up_setRow Ua4 lp5 _
            have f3 := SOA.setRow (C := C) f3 ep5
            rw [hW1] at f3
            have ep5 : Wa5.heap[p5]? = some (.cells C 27 (0, 0)) := by rw [← hW1]; exact setRow_heap _ _ _ _ _ _ ep5
            clear hHeld hW1
            have hSS := Ua5
            refine wpAnyH_take (i := 10) (v := ?_) rfl (by kernel_rfl) (by kernel_rfl) (by kernel_rfl) (fun _ _ _ h => h) (Or.inl ⟨by rfl, ?_⟩) (by assumption) ?_
            rotate_left
            · intro w9 hSw
              go_simp
              try with_reducible rfl
            simp only [Act.put, List.setIfInBounds_toArray, List.set_cons_zero, List.set_cons_succ, List.getElem_toArray, List.getElem_cons_zero, List.getElem_cons_succ]
            refine wpAnyH_done (by kernel_rfl) ?_ _
            exact key3 Wa5 p5 C v1 vn Ua5 ep5 f3 h1C h2C
        · simp only [List.getElem_toArray, List.getElem_cons_zero, List.getElem_cons_succ]
          go_simp
          refine hK.out _ _ ?_ (fun hHeld => ?_)
          · exact Ua1.alloc _
          clear hK K
          try simp only [Act.put, List.setIfInBounds_toArray, List.set_cons_zero, List.set_cons_succ]
          obtain ⟨p5, hp5⟩ : ∃ p, p = (Wa1).heap.size := ⟨_, rfl⟩
          obtain ⟨Wa2, hW1⟩ : ∃ W1, (Wa1).alloc (.cells zS 27) = W1 := ⟨_, rfl⟩
          refine wpAnyH_world hW1 ?_
          have h9 : Wa1.heap.size = p5 := hp5.symm
          simp only [h9]
          clear h9
          have ua2 : Up (Wa1) Wa2 := by rw [← hW1]; exact (Up.refl _).alloc _
          have ep5 : Wa2.heap[p5]? = some (.cells zS 27 (0, 0)) := by rw [hp5, ← hW1]; exact heap_alloc_new _ _
          have lp5 : W2.heap.size ≤ p5 := by rw [hp5]; exact Ua1.size
          have Ua2 := Ua1.trans ua2
          have f1 := f1.up ua2
          clear hHeld hW1 hp5
          have hSS := Ua2
          refine wpAnyH_ready (rs := [3]) (by kernel_rfl) (by simp) ?_
          refine AllReadyH.cons rfl (fun K hK => ?_) AllReadyH.nil
          simp only [List.getElem_toArray, List.getElem_cons_zero, List.getElem_cons_succ]
          go_simp
          refine Calls.mono (HCE.out _ (HU.trans Ua2)) ?_
          rintro r9 Wa3 ⟨vn, rfl, f2, ua3⟩
          go_simp
          have Ua3 := Ua2.trans ua3
          have f1 := f1.up ua3
          have ep5 := ua3.heap ep5
          refine hK.out _ _ ?_ (fun hHeld => ?_)
          · exact Ua3
          clear hK K
          try simp only [Act.put, List.setIfInBounds_toArray, List.set_cons_zero, List.set_cons_succ]
          have hSS := Ua3
          refine wpAnyH_ready (rs := [4]) (by kernel_rfl) (by simp) ?_
          refine AllReadyH.cons rfl (fun K hK => ?_) AllReadyH.nil
          simp only [List.getElem_toArray, List.getElem_cons_zero, List.getElem_cons_succ]
          go_simp
          refine Calls.mono (HAp.out _ _ _ (HU.trans Ua3) (SO.sl f1) (IRow.il f2)) ?_
          rintro r9 Wa4 ⟨C, rfl, h1C, h2C, f3, ua4⟩
          have f3 := f3.less (HU.trans Ua3).size
          go_simp
          have Ua4 := Ua3.trans ua4
          have f1 := f1.up ua4
          have ep5 := ua4.heap ep5
          have f2 := row_up f2 ua4
          refine hK.out _ _ ?_ (fun hHeld => ?_)
          · exact Ua4
          clear hK K
          try simp only [Act.put, List.setIfInBounds_toArray, List.set_cons_zero, List.set_cons_succ]
          have hSS := Ua4
          refine wpAnyH_take (i := 5) (v := ?_) rfl (by kernel_rfl) (by kernel_rfl) (by kernel_rfl) (fun _ _ _ h => h) (Or.inl ⟨by rfl, ?_⟩) (by assumption) ?_
          rotate_left
          · intro w9 hSw
            go_simp
            try with_reducible rfl
          simp only [Act.put, List.setIfInBounds_toArray, List.set_cons_zero, List.set_cons_succ, List.getElem_toArray, List.getElem_cons_zero, List.getElem_cons_succ]
          refine wpAnyH_take (i := 6) (v := ?_) rfl (by kernel_rfl) (by kernel_rfl) (by kernel_rfl) (fun _ _ _ h => h) (Or.inl ⟨by rfl, ?_⟩) (by assumption) ?_
          rotate_left
          · intro w9 hSw
            go_simp
            try with_reducible rfl
          simp only [Act.put, List.setIfInBounds_toArray, List.set_cons_zero, List.set_cons_succ, List.getElem_toArray, List.getElem_cons_zero, List.getElem_cons_succ]
          refine wpAnyH_take (i := 7) (v := ?_) rfl (by kernel_rfl) (by kernel_rfl) (by kernel_rfl) (fun _ _ _ h => h) (Or.inl ⟨by rfl, ?_⟩) (by assumption) ?_
          rotate_left
          · intro w9 hSw
            go_simp
            try with_reducible rfl
          simp only [Act.put, List.setIfInBounds_toArray, List.set_cons_zero, List.set_cons_succ, List.getElem_toArray, List.getElem_cons_zero, List.getElem_cons_succ]
          refine wpAnyH_ready (rs := [9]) (by kernel_rfl) (by simp) ?_
          refine AllReadyH.cons rfl (fun K hK => ?_) AllReadyH.nil
          simp only [List.getElem_toArray, List.getElem_cons_zero, List.getElem_cons_succ]
          refine stepH_store (by rfl) 27 (.tmp 5) (.tmp 23) (by rfl) p5 C (by rfl) (by rfl) 27 zS ep5 (by rw [h1C]; exact infoSt) (by rw [h1C]; rfl) (h2C) ?_
          refine hK.out _ _ ?_ (fun hHeld => ?_)
          · exact up_setRow Ua4 lp5 _
          clear hK K
          simp only [Act.put]
          obtain ⟨Wa5, hW1⟩ : ∃ W1, (Wa4).setRow p5 C = W1 := ⟨_, rfl⟩
          refine wpAnyH_world hW1 ?_
          have Ua5 : Up W2 Wa5 := by rw [← hW1]; exact up_setRow Ua4 lp5 _
          have f3 := SOA.setRow (C := C) f3 ep5
          rw [hW1] at f3
          have ep5 : Wa5.heap[p5]? = some (.cells C 27 (0, 0)) := by rw [← hW1]; exact setRow_heap _ _ _ _ _ _ ep5
          clear hHeld hW1
          have hSS := Ua5
          refine wpAnyH_take (i := 10) (v := ?_) rfl (by kernel_rfl) (by kernel_rfl) (by kernel_rfl) (fun _ _ _ h => h) (Or.inl ⟨by rfl, ?_⟩) (by assumption) ?_
          rotate_left
          · intro w9 hSw
            go_simp
            try with_reducible rfl
          simp only [Act.put, List.setIfInBounds_toArray, List.set_cons_zero, List.set_cons_succ, List.getElem_toArray, List.getElem_cons_zero, List.getElem_cons_succ]
          refine wpAnyH_done (by kernel_rfl) ?_ _
          exact key3 Wa5 p5 C v1 vn Ua5 ep5 f3 h1C h2C
      · simp only [List.getElem_toArray, List.getElem_cons_zero, List.getElem_cons_succ]
        go_simp
        refine hK.out _ _ ?_ (fun hHeld => ?_)
        · exact Ua0.alloc _
        clear hK K
        try simp only [Act.put, List.setIfInBounds_toArray, List.set_cons_zero, List.set_cons_succ]
        obtain ⟨p5, hp5⟩ : ∃ p, p = (W2.drew).heap.size := ⟨_, rfl⟩
        obtain ⟨Wa1, hW1⟩ : ∃ W1, (W2.drew).alloc (.cells zS 27) = W1 := ⟨_, rfl⟩
        refine wpAnyH_world hW1 ?_
        have h9 : W2.heap.size = p5 := hp5.symm
        simp only [h9]
        clear h9
        have ua1 : Up (W2.drew) Wa1 := by rw [← hW1]; exact (Up.refl _).alloc _
        have ep5 : Wa1.heap[p5]? = some (.cells zS 27 (0, 0)) := by rw [hp5, ← hW1]; exact heap_alloc_new _ _
        have lp5 : W2.heap.size ≤ p5 := by rw [hp5]; exact Ua0.size
        have Ua1 := Ua0.trans ua1
        clear hHeld hW1 hp5
        have hSS := Ua1
        refine wpAnyH_ready (rs := [1]) (by kernel_rfl) (by simp) ?_
        refine AllReadyH.cons rfl (fun K hK => ?_) AllReadyH.nil
        simp only [List.getElem_toArray, List.getElem_cons_zero, List.getElem_cons_succ]
        go_simp
        refine Calls.mono (HC1.out _ Ua1) ?_
        rintro r9 Wa2 ⟨v1, rfl, f1, ua2⟩
        go_simp
        have Ua2 := Ua1.trans ua2
        have ep5 := ua2.heap ep5
        refine hK.out _ _ ?_ (fun hHeld => ?_)
        · exact Ua2
        clear hK K
        try simp only [Act.put, List.setIfInBounds_toArray, List.set_cons_zero, List.set_cons_succ]
        have hSS := Ua2
        refine wpAnyH_ready (rs := [3]) (by kernel_rfl) (by simp) ?_
        refine AllReadyH.cons rfl (fun K hK => ?_) AllReadyH.nil
        simp only [List.getElem_toArray, List.getElem_cons_zero, List.getElem_cons_succ]
        go_simp
        refine Calls.mono (HCE.out _ (HU.trans Ua2)) ?_
        rintro r9 Wa3 ⟨vn, rfl, f2, ua3⟩
        go_simp
        have Ua3 := Ua2.trans ua3
        have ep5 := ua3.heap ep5
        have f1 := f1.up ua3
        refine hK.out _ _ ?_ (fun hHeld => ?_)
        · exact Ua3
        clear hK K
        try simp only [Act.put, List.setIfInBounds_toArray, List.set_cons_zero, List.set_cons_succ]
        have hSS := Ua3
        refine wpAnyH_ready (rs := [4]) (by kernel_rfl) (by simp) ?_
        refine AllReadyH.cons rfl (fun K hK => ?_) AllReadyH.nil
        simp only [List.getElem_toArray, List.getElem_cons_zero, List.getElem_cons_succ]
        go_simp
        refine Calls.mono (HAp.out _ _ _ (HU.trans Ua3) (SO.sl f1) (IRow.il f2)) ?_
        rintro r9 Wa4 ⟨C, rfl, h1C, h2C, f3, ua4⟩
        have f3 := f3.less (HU.trans Ua3).size
        go_simp
        have Ua4 := Ua3.trans ua4
        have ep5 := ua4.heap ep5
        have f1 := f1.up ua4
        have f2 := row_up f2 ua4
        refine hK.out _ _ ?_ (fun hHeld => ?_)
        · exact Ua4
        clear hK K
        try simp only [Act.put, List.setIfInBounds_toArray, List.set_cons_zero, List.set_cons_succ]
        have hSS := Ua4
        refine wpAnyH_take (i := 5) (v := ?_) rfl (by kernel_rfl) (by kernel_rfl) (by kernel_rfl) (fun _ _ _ h => h) (Or.inl ⟨by rfl, ?_⟩) (by assumption) ?_
        rotate_left
        · intro w9 hSw
          go_simp
          try with_reducible rfl
        simp only [Act.put, List.setIfInBounds_toArray, List.set_cons_zero, List.set_cons_succ, List.getElem_toArray, List.getElem_cons_zero, List.getElem_cons_succ]
        refine wpAnyH_take (i := 6) (v := ?_) rfl (by kernel_rfl) (by kernel_rfl) (by kernel_rfl) (fun _ _ _ h => h) (Or.inl ⟨by rfl, ?_⟩) (by assumption) ?_
        rotate_left
        · intro w9 hSw
          go_simp
          try with_reducible rfl
        simp only [Act.put, List.setIfInBounds_toArray, List.set_cons_zero, List.set_cons_succ, List.getElem_toArray, List.getElem_cons_zero, List.getElem_cons_succ]
        refine wpAnyH_take (i := 7) (v := ?_) rfl (by kernel_rfl) (by kernel_rfl) (by kernel_rfl) (fun _ _ _ h => h) (Or.inl ⟨by rfl, ?_⟩) (by assumption) ?_
        rotate_left
        · intro w9 hSw
          go_simp
          try with_reducible rfl
        simp only [Act.put, List.setIfInBounds_toArray, List.set_cons_zero, List.set_cons_succ, List.getElem_toArray, List.getElem_cons_zero, List.getElem_cons_succ]
        refine wpAnyH_ready (rs := [9]) (by kernel_rfl) (by simp) ?_
        refine AllReadyH.cons rfl (fun K hK => ?_) AllReadyH.nil
        simp only [List.getElem_toArray, List.getElem_cons_zero, List.getElem_cons_succ]
        refine stepH_store (by rfl) 27 (.tmp 5) (.tmp 23) (by rfl) p5 C (by rfl) (by rfl) 27 zS ep5 (by rw [h1C]; exact infoSt) (by rw [h1C]; rfl) (h2C) ?_
        refine hK.out _ _ ?_ (fun hHeld => ?_)
        · exact up_setRow Ua4 lp5 _
        clear hK K
        simp only [Act.put]
        obtain ⟨Wa5, hW1⟩ : ∃ W1, (Wa4).setRow p5 C = W1 := ⟨_, rfl⟩
        refine wpAnyH_world hW1 ?_
        have Ua5 : Up W2 Wa5 := by rw [← hW1]; exact up_setRow Ua4 lp5 _
        have f3 := SOA.setRow (C := C) f3 ep5
        rw [hW1] at f3
        have ep5 : Wa5.heap[p5]? = some (.cells C 27 (0, 0)) := by rw [← hW1]; exact setRow_heap _ _ _ _ _ _ ep5
        clear hHeld hW1
        have hSS := Ua5
        refine wpAnyH_take (i := 10) (v := ?_) rfl (by kernel_rfl) (by kernel_rfl) (by kernel_rfl) (fun _ _ _ h => h) (Or.inl ⟨by rfl, ?_⟩) (by assumption) ?_
        rotate_left
        · intro w9 hSw
          go_simp
          try with_reducible rfl
        simp only [Act.put, List.setIfInBounds_toArray, List.set_cons_zero, List.set_cons_succ, List.getElem_toArray, List.getElem_cons_zero, List.getElem_cons_succ]
        refine wpAnyH_done (by kernel_rfl) ?_ _
        exact key3 Wa5 p5 C v1 vn Ua5 ep5 f3 h1C h2C
    case kp3 =>
      intro W3 p5 C v3 vn3 U3 hC fC h1C h2C
      have hA := U3.heap hA
      have hE := U3.heap hE
      have HC2 : Hid (∀ W, Up W3 W → Calls Tryz.prog 40 #[.agg A] W (CpPost W fun W' v => SO W.heap.size W' v s)) := fun W u => HC1.out W (U3.trans u)
      have HU := HU.trans U3
      clear U3 HC1 HAp
      go_wp2_with fail
      refine (fun key4 : ∀ (W : World) (p : Nat) (C : Array Value) (v1 vn : Value), Up W3 W → W.heap[p]? = some (.cells C 27 (0, 0)) → SOA w.heap.size W (.agg C) (stOf o2) → C.size = 7 → C.all (·.oneCell') = true → (?G4 : World → Nat → Array Value → Value → Value → Prop) W p C v1 vn => ?main4) ?kp4
      case main4 =>
        refine wp_region_held_drew (S := fun W9 => Up W3 W9) (by kernel_rfl) (Up.drew (Up.refl _)) (fun hHeld => ?_)
        have Ub0 : Up W3 W3.drew := Up.drew (Up.refl _)
        refine wpAnyH_take (i := 0) (v := ?_) rfl (by kernel_rfl) (by kernel_rfl) (by kernel_rfl) (fun _ _ _ h => h) (Or.inl ⟨by rfl, ?_⟩) (by assumption) ?_
        rotate_left
        · intro w9 hSw
          refine (exec_load_row 27 (.tmp 2) (by rfl) w.heap.size (by rfl) 27 A (0, 0) _ Tryz.underlying27 (by rfl) (by rw [hA1]; exact infoSt) w9 (hSw.heap hA)).trans ?_
          with_reducible rfl
        simp only [Act.put, List.setIfInBounds_toArray, List.set_cons_zero, List.set_cons_succ, List.getElem_toArray, List.getElem_cons_zero]
        refine wpAnyH_take (i := 2) (v := ?_) rfl (by kernel_rfl) (by kernel_rfl) (by kernel_rfl) (fun _ _ _ h => h) (Or.inl ⟨by rfl, ?_⟩) (by assumption) ?_
        rotate_left
        · intro w9 hSw
          refine (exec_load_row 30 (.tmp 3) (by rfl) (w.heap.size + 1) (by rfl) 30 (evc e vo) (0, 0) _ Tryz.underlying30 (by rfl) infoEv w9 (hSw.heap hE)).trans ?_
          with_reducible rfl
        simp only [Act.put, List.setIfInBounds_toArray, List.set_cons_zero, List.set_cons_succ, List.getElem_toArray, List.getElem_cons_zero, List.getElem_cons_succ]
        refine wpAnyH_ready (rs := [1, 8]) (by kernel_rfl) (by simp) ?_
        refine AllReadyH.cons rfl (fun K hK => ?_) (AllReadyH.cons rfl (fun K hK => ?_) AllReadyH.nil)
        · simp only [List.getElem_toArray, List.getElem_cons_zero, List.getElem_cons_succ]
          go_simp
          refine Calls.mono (HC2.out _ Ub0) ?_
          rintro r9 Wb1 ⟨v1, rfl, f1, ub1⟩
          go_simp
          have Ub1 := Ub0.trans ub1
          refine hK.out _ _ ?_ (fun hHeld => ?_)
          · exact Ub1
          clear hK K
          try simp only [Act.put, List.setIfInBounds_toArray, List.set_cons_zero, List.set_cons_succ]
          have hSS := Ub1
          refine wpAnyH_ready (rs := [3, 8]) (by kernel_rfl) (by simp) ?_
          refine AllReadyH.cons rfl (fun K hK => ?_) (AllReadyH.cons rfl (fun K hK => ?_) AllReadyH.nil)
          · simp only [List.getElem_toArray, List.getElem_cons_zero, List.getElem_cons_succ]
            go_simp
            refine Calls.mono (HCE.out _ (HU.trans Ub1)) ?_
            rintro r9 Wb2 ⟨vn, rfl, f2, ub2⟩
            go_simp
            have Ub2 := Ub1.trans ub2
            have f1 := f1.up ub2
            refine hK.out _ _ ?_ (fun hHeld => ?_)
            · exact Ub2
            clear hK K
            try simp only [Act.put, List.setIfInBounds_toArray, List.set_cons_zero, List.set_cons_succ]
            have hSS := Ub2
            refine wpAnyH_ready (rs := [4, 8]) (by kernel_rfl) (by simp) ?_
            refine AllReadyH.cons rfl (fun K hK => ?_) (AllReadyH.cons rfl (fun K hK => ?_) AllReadyH.nil)
            · simp only [List.getElem_toArray, List.getElem_cons_zero, List.getElem_cons_succ]
              go_simp
              refine Calls.mono (HUn.out _ _ _ (HU.trans Ub2) (SO.sl f1) (IRow.il f2)) ?_
              rintro r9 Wb3 ⟨D, rfl, h1D, h2D, f3, ub3⟩
              have f3 := f3.less (HU.trans Ub2).size
              go_simp
              have Ub3 := Ub2.trans ub3
              have f1 := f1.up ub3
              have f2 := row_up f2 ub3
              refine hK.out _ _ ?_ (fun hHeld => ?_)
              · exact Ub3
              clear hK K
              try simp only [Act.put, List.setIfInBounds_toArray, List.set_cons_zero, List.set_cons_succ]
              have hSS := Ub3
              refine wpAnyH_take (i := 5) (v := ?_) rfl (by kernel_rfl) (by kernel_rfl) (by kernel_rfl) (fun _ _ _ h => h) (Or.inl ⟨by rfl, ?_⟩) (by assumption) ?_
              rotate_left
              · intro w9 hSw
                go_simp
                try with_reducible rfl
              simp only [Act.put, List.setIfInBounds_toArray, List.set_cons_zero, List.set_cons_succ, List.getElem_toArray, List.getElem_cons_zero, List.getElem_cons_succ]
              refine wpAnyH_take (i := 6) (v := ?_) rfl (by kernel_rfl) (by kernel_rfl) (by kernel_rfl) (fun _ _ _ h => h) (Or.inl ⟨by rfl, ?_⟩) (by assumption) ?_
              rotate_left
              · intro w9 hSw
                go_simp
                try with_reducible rfl
              simp only [Act.put, List.setIfInBounds_toArray, List.set_cons_zero, List.set_cons_succ, List.getElem_toArray, List.getElem_cons_zero, List.getElem_cons_succ]
              refine wpAnyH_take (i := 7) (v := ?_) rfl (by kernel_rfl) (by kernel_rfl) (by kernel_rfl) (fun _ _ _ h => h) (Or.inl ⟨by rfl, ?_⟩) (by assumption) ?_
              rotate_left
              · intro w9 hSw
                go_simp
                try with_reducible rfl
              simp only [Act.put, List.setIfInBounds_toArray, List.set_cons_zero, List.set_cons_succ, List.getElem_toArray, List.getElem_cons_zero, List.getElem_cons_succ]
              refine wpAnyH_ready (rs := [8]) (by kernel_rfl) (by simp) ?_
              refine AllReadyH.cons rfl (fun K hK => ?_) AllReadyH.nil
              simp only [List.getElem_toArray, List.getElem_cons_zero, List.getElem_cons_succ]
              go_simp
              refine hK.out _ _ ?_ (fun hHeld => ?_)
              · exact Ub3.alloc _
              clear hK K
              try simp only [Act.put, List.setIfInBounds_toArray, List.set_cons_zero, List.set_cons_succ]
              obtain ⟨p7, hp7⟩ : ∃ p, p = (Wb3).heap.size := ⟨_, rfl⟩
              obtain ⟨Wb4, hW1⟩ : ∃ W1, (Wb3).alloc (.cells zS 27) = W1 := ⟨_, rfl⟩
              refine wpAnyH_world hW1 ?_
              have h9 : Wb3.heap.size = p7 := hp7.symm
              simp only [h9]
              clear h9
              have ub4 : Up (Wb3) Wb4 := by rw [← hW1]; exact (Up.refl _).alloc _
              have ep7 : Wb4.heap[p7]? = some (.cells zS 27 (0, 0)) := by rw [hp7, ← hW1]; exact heap_alloc_new _ _
              have lp7 : W3.heap.size ≤ p7 := by rw [hp7]; exact Ub3.size
              have Ub4 := Ub3.trans ub4
              have f1 := f1.up ub4
              have f2 := row_up f2 ub4
              have f3 := f3.up ub4
              clear hHeld hW1 hp7
              have hSS := Ub4
              refine wpAnyH_ready (rs := [9]) (by kernel_rfl) (by simp) ?_
              refine AllReadyH.cons rfl (fun K hK => ?_) AllReadyH.nil
              simp only [List.getElem_toArray, List.getElem_cons_zero, List.getElem_cons_succ]
              refine stepH_store (by rfl) 27 (.tmp 7) (.tmp 31) (by rfl) p7 D (by rfl) (by rfl) 27 zS ep7 (by rw [h1D]; exact infoSt) (by rw [h1D]; rfl) (h2D) ?_
              refine hK.out _ _ ?_ (fun hHeld => ?_)
              · exact up_setRow Ub4 lp7 _
              clear hK K
              simp only [Act.put]
              obtain ⟨Wb5, hW1⟩ : ∃ W1, (Wb4).setRow p7 D = W1 := ⟨_, rfl⟩
              refine wpAnyH_world hW1 ?_
              have Ub5 : Up W3 Wb5 := by rw [← hW1]; exact up_setRow Ub4 lp7 _
              have f3 := SOA.setRow (C := D) f3 ep7
              rw [hW1] at f3
              have ep7 : Wb5.heap[p7]? = some (.cells D 27 (0, 0)) := by rw [← hW1]; exact setRow_heap _ _ _ _ _ _ ep7
              clear hHeld hW1
              have hSS := Ub5
              refine wpAnyH_take (i := 10) (v := ?_) rfl (by kernel_rfl) (by kernel_rfl) (by kernel_rfl) (fun _ _ _ h => h) (Or.inl ⟨by rfl, ?_⟩) (by assumption) ?_
              rotate_left
              · intro w9 hSw
                go_simp
                try with_reducible rfl
              simp only [Act.put, List.setIfInBounds_toArray, List.set_cons_zero, List.set_cons_succ, List.getElem_toArray, List.getElem_cons_zero, List.getElem_cons_succ]
              refine wpAnyH_done (by kernel_rfl) ?_ _
              exact key4 Wb5 p7 D v1 vn Ub5 ep7 f3 h1D h2D
            · simp only [List.getElem_toArray, List.getElem_cons_zero, List.getElem_cons_succ]
              go_simp
              refine hK.out _ _ ?_ (fun hHeld => ?_)
              · exact Ub2.alloc _
              clear hK K
              try simp only [Act.put, List.setIfInBounds_toArray, List.set_cons_zero, List.set_cons_succ]
              obtain ⟨p7, hp7⟩ : ∃ p, p = (Wb2).heap.size := ⟨_, rfl⟩
              obtain ⟨Wb3, hW1⟩ : ∃ W1, (Wb2).alloc (.cells zS 27) = W1 := ⟨_, rfl⟩
              refine wpAnyH_world hW1 ?_
              have h9 : Wb2.heap.size = p7 := hp7.symm
              simp only [h9]
              clear h9
              have ub3 : Up (Wb2) Wb3 := by rw [← hW1]; exact (Up.refl _).alloc _
              have ep7 : Wb3.heap[p7]? = some (.cells zS 27 (0, 0)) := by rw [hp7, ← hW1]; exact heap_alloc_new _ _
              have lp7 : W3.heap.size ≤ p7 := by rw [hp7]; exact Ub2.size
              have Ub3 := Ub2.trans ub3
              have f1 := f1.up ub3
              have f2 := row_up f2 ub3
              clear hHeld hW1 hp7
              have hSS := Ub3
              refine wpAnyH_ready (rs := [4]) (by kernel_rfl) (by simp) ?_
              refine AllReadyH.cons rfl (fun K hK => ?_) AllReadyH.nil
              simp only [List.getElem_toArray, List.getElem_cons_zero, List.getElem_cons_succ]
              go_simp
              refine Calls.mono (HUn.out _ _ _ (HU.trans Ub3) (SO.sl f1) (IRow.il f2)) ?_
              rintro r9 Wb4 ⟨D, rfl, h1D, h2D, f3, ub4⟩
              have f3 := f3.less (HU.trans Ub3).size
              go_simp
              have Ub4 := Ub3.trans ub4
              have f1 := f1.up ub4
              have f2 := row_up f2 ub4
              have ep7 := ub4.heap ep7
              refine hK.out _ _ ?_ (fun hHeld => ?_)
              · exact Ub4
              clear hK K
              try simp only [Act.put, List.setIfInBounds_toArray, List.set_cons_zero, List.set_cons_succ]
              have hSS := Ub4
              refine wpAnyH_take (i := 5) (v := ?_) rfl (by kernel_rfl) (by kernel_rfl) (by kernel_rfl) (fun _ _ _ h => h) (Or.inl ⟨by rfl, ?_⟩) (by assumption) ?_
              rotate_left
              · intro w9 hSw
                go_simp
                try with_reducible rfl
              simp only [Act.put, List.setIfInBounds_toArray, List.set_cons_zero, List.set_cons_succ, List.getElem_toArray, List.getElem_cons_zero, List.getElem_cons_succ]
              refine wpAnyH_take (i := 6) (v := ?_) rfl (by kernel_rfl) (by kernel_rfl) (by kernel_rfl) (fun _ _ _ h => h) (Or.inl ⟨by rfl, ?_⟩) (by assumption) ?_
              rotate_left
              · intro w9 hSw
                go_simp
                try with_reducible rfl
              simp only [Act.put, List.setIfInBounds_toArray, List.set_cons_zero, List.set_cons_succ, List.getElem_toArray, List.getElem_cons_zero, List.getElem_cons_succ]
              refine wpAnyH_take (i := 7) (v := ?_) rfl (by kernel_rfl) (by kernel_rfl) (by kernel_rfl) (fun _ _ _ h => h) (Or.inl ⟨by rfl, ?_⟩) (by assumption) ?_
              rotate_left
              · intro w9 hSw
                go_simp
                try with_reducible rfl
              simp only [Act.put, List.setIfInBounds_toArray, List.set_cons_zero, List.set_cons_succ, List.getElem_toArray, List.getElem_cons_zero, List.getElem_cons_succ]
              refine wpAnyH_ready (rs := [9]) (by kernel_rfl) (by simp) ?_
              refine AllReadyH.cons rfl (fun K hK => ?_) AllReadyH.nil
              simp only [List.getElem_toArray, List.getElem_cons_zero, List.getElem_cons_succ]
              refine stepH_store (by rfl) 27 (.tmp 7) (.tmp 31) (by rfl) p7 D (by rfl) (by rfl) 27 zS ep7 (by rw [h1D]; exact infoSt) (by rw [h1D]; rfl) (h2D) ?_
              refine hK.out _ _ ?_ (fun hHeld => ?_)
              · exact up_setRow Ub4 lp7 _
              clear hK K
              simp only [Act.put]
              obtain ⟨Wb5, hW1⟩ : ∃ W1, (Wb4).setRow p7 D = W1 := ⟨_, rfl⟩
              refine wpAnyH_world hW1 ?_
              have Ub5 : Up W3 Wb5 := by rw [← hW1]; exact up_setRow Ub4 lp7 _
              have f3 := SOA.setRow (C := D) f3 ep7
              rw [hW1] at f3
              have ep7 : Wb5.heap[p7]? = some (.cells D 27 (0, 0)) := by rw [← hW1]; exact setRow_heap _ _ _ _ _ _ ep7
              clear hHeld hW1
              have hSS := Ub5
              refine wpAnyH_take (i := 10) (v := ?_) rfl (by kernel_rfl) (by kernel_rfl) (by kernel_rfl) (fun _ _ _ h => h) (Or.inl ⟨by rfl, ?_⟩) (by assumption) ?_
              rotate_left
              · intro w9 hSw
                go_simp
                try with_reducible rfl
              simp only [Act.put, List.setIfInBounds_toArray, List.set_cons_zero, List.set_cons_succ, List.getElem_toArray, List.getElem_cons_zero, List.getElem_cons_succ]
              refine wpAnyH_done (by kernel_rfl) ?_ _
              exact key4 Wb5 p7 D v1 vn Ub5 ep7 f3 h1D h2D
          · simp only [List.getElem_toArray, List.getElem_cons_zero, List.getElem_cons_succ]
            go_simp
            refine hK.out _ _ ?_ (fun hHeld => ?_)
            · exact Ub1.alloc _
            clear hK K
            try simp only [Act.put, List.setIfInBounds_toArray, List.set_cons_zero, List.set_cons_succ]
            obtain ⟨p7, hp7⟩ : ∃ p, p = (Wb1).heap.size := ⟨_, rfl⟩
            obtain ⟨Wb2, hW1⟩ : ∃ W1, (Wb1).alloc (.cells zS 27) = W1 := ⟨_, rfl⟩
            refine wpAnyH_world hW1 ?_
            have h9 : Wb1.heap.size = p7 := hp7.symm
            simp only [h9]
            clear h9
            have ub2 : Up (Wb1) Wb2 := by rw [← hW1]; exact (Up.refl _).alloc _
            have ep7 : Wb2.heap[p7]? = some (.cells zS 27 (0, 0)) := by rw [hp7, ← hW1]; exact heap_alloc_new _ _
            have lp7 : W3.heap.size ≤ p7 := by rw [hp7]; exact Ub1.size
            have Ub2 := Ub1.trans ub2
            have f1 := f1.up ub2
            clear hHeld hW1 hp7
            have hSS := Ub2
            refine wpAnyH_ready (rs := [3]) (by kernel_rfl) (by simp) ?_
            refine AllReadyH.cons rfl (fun K hK => ?_) AllReadyH.nil
            simp only [List.getElem_toArray, List.getElem_cons_zero, List.getElem_cons_succ]
            go_simp
            refine Calls.mono (HCE.out _ (HU.trans Ub2)) ?_
            rintro r9 Wb3 ⟨vn, rfl, f2, ub3⟩
            go_simp
            have Ub3 := Ub2.trans ub3
            have f1 := f1.up ub3
            have ep7 := ub3.heap ep7
            refine hK.out _ _ ?_ (fun hHeld => ?_)
            · exact Ub3
            clear hK K
            try simp only [Act.put, List.setIfInBounds_toArray, List.set_cons_zero, List.set_cons_succ]
            have hSS := Ub3
            refine wpAnyH_ready (rs := [4]) (by kernel_rfl) (by simp) ?_
            refine AllReadyH.cons rfl (fun K hK => ?_) AllReadyH.nil
            simp only [List.getElem_toArray, List.getElem_cons_zero, List.getElem_cons_succ]
            go_simp
            refine Calls.mono (HUn.out _ _ _ (HU.trans Ub3) (SO.sl f1) (IRow.il f2)) ?_
            rintro r9 Wb4 ⟨D, rfl, h1D, h2D, f3, ub4⟩
            have f3 := f3.less (HU.trans Ub3).size
            go_simp
            have Ub4 := Ub3.trans ub4
            have f1 := f1.up ub4
            have ep7 := ub4.heap ep7
            have f2 := row_up f2 ub4
            refine hK.out _ _ ?_ (fun hHeld => ?_)
            · exact Ub4
            clear hK K
            try simp only [Act.put, List.setIfInBounds_toArray, List.set_cons_zero, List.set_cons_succ]
            have hSS := Ub4
            refine wpAnyH_take (i := 5) (v := ?_) rfl (by kernel_rfl) (by kernel_rfl) (by kernel_rfl) (fun _ _ _ h => h) (Or.inl ⟨by rfl, ?_⟩) (by assumption) ?_
            rotate_left
            · intro w9 hSw
              go_simp
              try with_reducible rfl
            simp only [Act.put, List.setIfInBounds_toArray, List.set_cons_zero, List.set_cons_succ, List.getElem_toArray, List.getElem_cons_zero, List.getElem_cons_succ]
            refine wpAnyH_take (i := 6) (v := ?_) rfl (by kernel_rfl) (by kernel_rfl) (by kernel_rfl) (fun _ _ _ h => h) (Or.inl ⟨by rfl, ?_⟩) (by assumption) ?_
            rotate_left
            · intro w9 hSw
              go_simp
              try with_reducible rfl
            simp only [Act.put, List.setIfInBounds_toArray, List.set_cons_zero, List.set_cons_succ, List.getElem_toArray, List.getElem_cons_zero, List.getElem_cons_succ]
            refine wpAnyH_take (i := 7) (v := ?_) rfl (by kernel_rfl) (by kernel_rfl) (by kernel_rfl) (fun _ _ _ h => h) (Or.inl ⟨by rfl, ?_⟩) (by assumption) ?_
            rotate_left
            · intro w9 hSw
              go_simp
              try with_reducible rfl
            simp only [Act.put, List.setIfInBounds_toArray, List.set_cons_zero, List.set_cons_succ, List.getElem_toArray, List.getElem_cons_zero, List.getElem_cons_succ]
            refine wpAnyH_ready (rs := [9]) (by kernel_rfl) (by simp) ?_
            refine AllReadyH.cons rfl (fun K hK => ?_) AllReadyH.nil
            simp only [List.getElem_toArray, List.getElem_cons_zero, List.getElem_cons_succ]
            refine stepH_store (by rfl) 27 (.tmp 7) (.tmp 31) (by rfl) p7 D (by rfl) (by rfl) 27 zS ep7 (by rw [h1D]; exact infoSt) (by rw [h1D]; rfl) (h2D) ?_
            refine hK.out _ _ ?_ (fun hHeld => ?_)
            · exact up_setRow Ub4 lp7 _
            clear hK K
            simp only [Act.put]
            obtain ⟨Wb5, hW1⟩ : ∃ W1, (Wb4).setRow p7 D = W1 := ⟨_, rfl⟩
            refine wpAnyH_world hW1 ?_
            have Ub5 : Up W3 Wb5 := by rw [← hW1]; exact up_setRow Ub4 lp7 _
            have f3 := SOA.setRow (C := D) f3 ep7
            rw [hW1] at f3
            have ep7 : Wb5.heap[p7]? = some (.cells D 27 (0, 0)) := by rw [← hW1]; exact setRow_heap _ _ _ _ _ _ ep7
            clear hHeld hW1
            have hSS := Ub5
            refine wpAnyH_take (i := 10) (v := ?_) rfl (by kernel_rfl) (by kernel_rfl) (by kernel_rfl) (fun _ _ _ h => h) (Or.inl ⟨by rfl, ?_⟩) (by assumption) ?_
            rotate_left
            · intro w9 hSw
              go_simp
              try with_reducible rfl
            simp only [Act.put, List.setIfInBounds_toArray, List.set_cons_zero, List.set_cons_succ, List.getElem_toArray, List.getElem_cons_zero, List.getElem_cons_succ]
            refine wpAnyH_done (by kernel_rfl) ?_ _
            exact key4 Wb5 p7 D v1 vn Ub5 ep7 f3 h1D h2D
        · simp only [List.getElem_toArray, List.getElem_cons_zero, List.getElem_cons_succ]
          go_simp
          refine hK.out _ _ ?_ (fun hHeld => ?_)
          · exact Ub0.alloc _
          clear hK K
          try simp only [Act.put, List.setIfInBounds_toArray, List.set_cons_zero, List.set_cons_succ]
          obtain ⟨p7, hp7⟩ : ∃ p, p = (W3.drew).heap.size := ⟨_, rfl⟩
          obtain ⟨Wb1, hW1⟩ : ∃ W1, (W3.drew).alloc (.cells zS 27) = W1 := ⟨_, rfl⟩
          refine wpAnyH_world hW1 ?_
          have h9 : W3.heap.size = p7 := hp7.symm
          simp only [h9]
          clear h9
          have ub1 : Up (W3.drew) Wb1 := by rw [← hW1]; exact (Up.refl _).alloc _
          have ep7 : Wb1.heap[p7]? = some (.cells zS 27 (0, 0)) := by rw [hp7, ← hW1]; exact heap_alloc_new _ _
          have lp7 : W3.heap.size ≤ p7 := by rw [hp7]; exact Ub0.size
          have Ub1 := Ub0.trans ub1
          clear hHeld hW1 hp7
          have hSS := Ub1
          refine wpAnyH_ready (rs := [1]) (by kernel_rfl) (by simp) ?_
          refine AllReadyH.cons rfl (fun K hK => ?_) AllReadyH.nil
          simp only [List.getElem_toArray, List.getElem_cons_zero, List.getElem_cons_succ]
          go_simp
          refine Calls.mono (HC2.out _ Ub1) ?_
          rintro r9 Wb2 ⟨v1, rfl, f1, ub2⟩
          go_simp
          have Ub2 := Ub1.trans ub2
          have ep7 := ub2.heap ep7
          refine hK.out _ _ ?_ (fun hHeld => ?_)
          · exact Ub2
          clear hK K
          try simp only [Act.put, List.setIfInBounds_toArray, List.set_cons_zero, List.set_cons_succ]
          have hSS := Ub2
          refine wpAnyH_ready (rs := [3]) (by kernel_rfl) (by simp) ?_
          refine AllReadyH.cons rfl (fun K hK => ?_) AllReadyH.nil
          simp only [List.getElem_toArray, List.getElem_cons_zero, List.getElem_cons_succ]
          go_simp
          refine Calls.mono (HCE.out _ (HU.trans Ub2)) ?_
          rintro r9 Wb3 ⟨vn, rfl, f2, ub3⟩
          go_simp
          have Ub3 := Ub2.trans ub3
          have ep7 := ub3.heap ep7
          have f1 := f1.up ub3
          refine hK.out _ _ ?_ (fun hHeld => ?_)
          · exact Ub3
          clear hK K
          try simp only [Act.put, List.setIfInBounds_toArray, List.set_cons_zero, List.set_cons_succ]
          have hSS := Ub3
          refine wpAnyH_ready (rs := [4]) (by kernel_rfl) (by simp) ?_
          refine AllReadyH.cons rfl (fun K hK => ?_) AllReadyH.nil
          simp only [List.getElem_toArray, List.getElem_cons_zero, List.getElem_cons_succ]
          go_simp
          refine Calls.mono (HUn.out _ _ _ (HU.trans Ub3) (SO.sl f1) (IRow.il f2)) ?_
          rintro r9 Wb4 ⟨D, rfl, h1D, h2D, f3, ub4⟩
          have f3 := f3.less (HU.trans Ub3).size
          go_simp
          have Ub4 := Ub3.trans ub4
          have ep7 := ub4.heap ep7
          have f1 := f1.up ub4
          have f2 := row_up f2 ub4
          refine hK.out _ _ ?_ (fun hHeld => ?_)
          · exact Ub4
          clear hK K
          try simp only [Act.put, List.setIfInBounds_toArray, List.set_cons_zero, List.set_cons_succ]
          have hSS := Ub4
          refine wpAnyH_take (i := 5) (v := ?_) rfl (by kernel_rfl) (by kernel_rfl) (by kernel_rfl) (fun _ _ _ h => h) (Or.inl ⟨by rfl, ?_⟩) (by assumption) ?_
          rotate_left
          · intro w9 hSw
            go_simp
            try with_reducible rfl
          simp only [Act.put, List.setIfInBounds_toArray, List.set_cons_zero, List.set_cons_succ, List.getElem_toArray, List.getElem_cons_zero, List.getElem_cons_succ]
          refine wpAnyH_take (i := 6) (v := ?_) rfl (by kernel_rfl) (by kernel_rfl) (by kernel_rfl) (fun _ _ _ h => h) (Or.inl ⟨by rfl, ?_⟩) (by assumption) ?_
          rotate_left
          · intro w9 hSw
            go_simp
            try with_reducible rfl
          simp only [Act.put, List.setIfInBounds_toArray, List.set_cons_zero, List.set_cons_succ, List.getElem_toArray, List.getElem_cons_zero, List.getElem_cons_succ]
          refine wpAnyH_take (i := 7) (v := ?_) rfl (by kernel_rfl) (by kernel_rfl) (by kernel_rfl) (fun _ _ _ h => h) (Or.inl ⟨by rfl, ?_⟩) (by assumption) ?_
          rotate_left
          · intro w9 hSw
            go_simp
            try with_reducible rfl
          simp only [Act.put, List.setIfInBounds_toArray, List.set_cons_zero, List.set_cons_succ, List.getElem_toArray, List.getElem_cons_zero, List.getElem_cons_succ]
          refine wpAnyH_ready (rs := [9]) (by kernel_rfl) (by simp) ?_
          refine AllReadyH.cons rfl (fun K hK => ?_) AllReadyH.nil
          simp only [List.getElem_toArray, List.getElem_cons_zero, List.getElem_cons_succ]
          refine stepH_store (by rfl) 27 (.tmp 7) (.tmp 31) (by rfl) p7 D (by rfl) (by rfl) 27 zS ep7 (by rw [h1D]; exact infoSt) (by rw [h1D]; rfl) (h2D) ?_
          refine hK.out _ _ ?_ (fun hHeld => ?_)
          · exact up_setRow Ub4 lp7 _
          clear hK K
          simp only [Act.put]
          obtain ⟨Wb5, hW1⟩ : ∃ W1, (Wb4).setRow p7 D = W1 := ⟨_, rfl⟩
          refine wpAnyH_world hW1 ?_
          have Ub5 : Up W3 Wb5 := by rw [← hW1]; exact up_setRow Ub4 lp7 _
          have f3 := SOA.setRow (C := D) f3 ep7
          rw [hW1] at f3
          have ep7 : Wb5.heap[p7]? = some (.cells D 27 (0, 0)) := by rw [← hW1]; exact setRow_heap _ _ _ _ _ _ ep7
          clear hHeld hW1
          have hSS := Ub5
          refine wpAnyH_take (i := 10) (v := ?_) rfl (by kernel_rfl) (by kernel_rfl) (by kernel_rfl) (fun _ _ _ h => h) (Or.inl ⟨by rfl, ?_⟩) (by assumption) ?_
          rotate_left
          · intro w9 hSw
            go_simp
            try with_reducible rfl
          simp only [Act.put, List.setIfInBounds_toArray, List.set_cons_zero, List.set_cons_succ, List.getElem_toArray, List.getElem_cons_zero, List.getElem_cons_succ]
          refine wpAnyH_done (by kernel_rfl) ?_ _
          exact key4 Wb5 p7 D v1 vn Ub5 ep7 f3 h1D h2D
      case kp4 =>
        intro W4 p7 D v4 vn4 U4 hD fD h1D h2D
        have hA := U4.heap hA
        have hE := U4.heap hE
        have hC := U4.heap hC
        have fC := fC.up U4
        have HU := HU.trans U4
        clear U4 HC2 HUn
        have hg1 := HG1.out
        have hg2 := HG2.out
        have HMA : Hid (∀ W, Up w W → Calls Tryz.prog 42 #[.agg A] W fun r w' => r = .returned (.bool (decide (ff s = none))) ∧ Up W w') := fun W u => may_ (.agg A) s W (by rw [HAV.out]; exact HST.out.up u) HSM.out
        have HG1x : Hid _ := hg1
        have HG2x : Hid _ := hg2
        clear hg1 hg2
        by_cases hok : ff s = none
        · simp only [hok, decide_true] at HMA
          go_wp2_with (first | (refine wpList_load_row (by rfl) 27 (.tmp 2) (by rfl) w.heap.size (by rfl) 27 A (0, 0) _ hA Tryz.underlying27 (by rfl) (by rw [hA1]; exact infoSt) ?_))
          refine Calls.mono (HMA.out _ HU) ?_
          rintro r W5 ⟨rfl, u1⟩
          have hA := u1.heap hA
          have hE := u1.heap hE
          have hC := u1.heap hC
          have hD := u1.heap hD
          have fC := fC.up u1
          have fD := fD.up u1
          have HU := HU.trans u1
          clear u1
          clear HMA
          have hg1 := HG1x.out
          by_cases hft : (okB e && fitB s e) = true
          · have hs1 : o1 = some (.inr (behindS s e)) := by rw [HO.out.1]; unfold repO; rw [if_pos hok]; show some (if okB e && fitB s e then repl (behindS s e) [] 1 else .inl 0) = _; rw [if_pos hft]; rfl
            have hbeh := ok_behind hok hft
            have hnew := behind_new hok hft
            have htb := there_back hok (by have h9 := hft; unfold okB at h9; simp only [Bool.and_eq_true] at h9; exact h9.1.1) (by simp only [Bool.and_eq_true] at hft; exact hft.2)
            have hr2 : bckO (behindS s e) [e] = some (.inr s) := by
              unfold bckO
              rw [if_pos hbeh]
              show some (if okB e && leadB (behindS s e) e then Sum.inr (aheadS (behindS s e) e) else Sum.inl 0) = _
              rw [htb.1, htb.2, if_pos (by rw [Bool.and_true]; simp only [Bool.and_eq_true] at hft; exact hft.1)]
            have HR2 : Hid (∀ (W : World) (v vn : Value), Up w W → StL W v (behindS s e) → IL W vn e.ord → Calls Tryz.prog 22 #[v, evv e vn] W (ApS s W)) := fun W v vn u h1 h2 => by
              have h9 := undo1_ v vn (behindS s e) e W h1 (small_ok hbeh) h2 hn
              rw [hr2] at h9
              exact h9.mono fun e w' h => aps_of h
            have HSB : Hid (Small (behindS s e)) := small_ok hbeh
            have HKB : Hid (Keeps s (behindS s e)) := keeps_behind s e
            have HOB : Hid (ff (behindS s e) = none) := hbeh
            have HNW : Hid (eqS (behindS s e) s = false) := hnew
            have fC : SOA w.heap.size W5 (.agg C) (behindS s e) := by rw [hs1] at fC; exact fC
            rw [hs1] at hg1
            clear hs1 htb hr2 hbeh hnew
            generalize behindS s e = sa at *
            have hg1' : g1 = 0 := hg1
            clear hg1
            subst hg1'
            have HC3 : Hid (∀ W, Up W5 W → Calls Tryz.prog 40 #[.agg C] W (CpPost W fun W' v => SO W.heap.size W' v sa)) := fun W u => copyState_ (.agg C) sa W (SO.sl (SOA.so (fC.up u))) HSB.out
            go_wp2_with fail
            refine (fun key8 : ∀ (W : World) (p : Nat) (C : Array Value) (v1 vn : Value), Up W5 W → W.heap[p]? = some (.cells C 27 (0, 0)) → SOA w.heap.size W (.agg C) s → C.size = 7 → C.all (·.oneCell') = true → (?G8 : World → Nat → Array Value → Value → Value → Prop) W p C v1 vn => ?main8) ?kp8
            case main8 =>
              refine wp_region_held_drew (S := fun W9 => Up W5 W9) (by kernel_rfl) (Up.drew (Up.refl _)) (fun hHeld => ?_)
              have Uc0 : Up W5 W5.drew := Up.drew (Up.refl _)
              refine wpAnyH_take (i := 0) (v := ?_) rfl (by kernel_rfl) (by kernel_rfl) (by kernel_rfl) (fun _ _ _ h => h) (Or.inl ⟨by rfl, ?_⟩) (by assumption) ?_
              rotate_left
              · intro w9 hSw
                refine (exec_load_row 27 (.tmp 5) (by rfl) p5 (by rfl) 27 C (0, 0) _ Tryz.underlying27 (by rfl) (by rw [h1C]; exact infoSt) w9 (hSw.heap hC)).trans ?_
                with_reducible rfl
              simp only [Act.put, List.setIfInBounds_toArray, List.set_cons_zero, List.set_cons_succ, List.getElem_toArray, List.getElem_cons_zero]
              refine wpAnyH_take (i := 2) (v := ?_) rfl (by kernel_rfl) (by kernel_rfl) (by kernel_rfl) (fun _ _ _ h => h) (Or.inl ⟨by rfl, ?_⟩) (by assumption) ?_
              rotate_left
              · intro w9 hSw
                refine (exec_load_row 30 (.tmp 3) (by rfl) (w.heap.size + 1) (by rfl) 30 (evc e vo) (0, 0) _ Tryz.underlying30 (by rfl) infoEv w9 (hSw.heap hE)).trans ?_
                with_reducible rfl
              simp only [Act.put, List.setIfInBounds_toArray, List.set_cons_zero, List.set_cons_succ, List.getElem_toArray, List.getElem_cons_zero, List.getElem_cons_succ]
              refine wpAnyH_ready (rs := [1, 8]) (by kernel_rfl) (by simp) ?_
              refine AllReadyH.cons rfl (fun K hK => ?_) (AllReadyH.cons rfl (fun K hK => ?_) AllReadyH.nil)
              · simp only [List.getElem_toArray, List.getElem_cons_zero, List.getElem_cons_succ]
                go_simp
                refine Calls.mono (HC3.out _ Uc0) ?_
                rintro r9 Wc1 ⟨v1, rfl, f1, uc1⟩
                go_simp
                have Uc1 := Uc0.trans uc1
                refine hK.out _ _ ?_ (fun hHeld => ?_)
                · exact Uc1
                clear hK K
                try simp only [Act.put, List.setIfInBounds_toArray, List.set_cons_zero, List.set_cons_succ]
                have hSS := Uc1
                refine wpAnyH_ready (rs := [3, 8]) (by kernel_rfl) (by simp) ?_
                refine AllReadyH.cons rfl (fun K hK => ?_) (AllReadyH.cons rfl (fun K hK => ?_) AllReadyH.nil)
                · simp only [List.getElem_toArray, List.getElem_cons_zero, List.getElem_cons_succ]
                  go_simp
                  refine Calls.mono (HCE.out _ (HU.trans Uc1)) ?_
                  rintro r9 Wc2 ⟨vn, rfl, f2, uc2⟩
                  go_simp
                  have Uc2 := Uc1.trans uc2
                  have f1 := f1.up uc2
                  refine hK.out _ _ ?_ (fun hHeld => ?_)
                  · exact Uc2
                  clear hK K
                  try simp only [Act.put, List.setIfInBounds_toArray, List.set_cons_zero, List.set_cons_succ]
                  have hSS := Uc2
                  refine wpAnyH_ready (rs := [4, 8]) (by kernel_rfl) (by simp) ?_
                  refine AllReadyH.cons rfl (fun K hK => ?_) (AllReadyH.cons rfl (fun K hK => ?_) AllReadyH.nil)
                  · simp only [List.getElem_toArray, List.getElem_cons_zero, List.getElem_cons_succ]
                    go_simp
                    refine Calls.mono (HR2.out _ _ _ (HU.trans Uc2) (SO.sl f1) (IRow.il f2)) ?_
                    rintro r9 Wc3 ⟨X, rfl, h1X, h2X, f3, uc3⟩
                    have f3 := f3.less (HU.trans Uc2).size
                    go_simp
                    have Uc3 := Uc2.trans uc3
                    have f1 := f1.up uc3
                    have f2 := row_up f2 uc3
                    refine hK.out _ _ ?_ (fun hHeld => ?_)
                    · exact Uc3
                    clear hK K
                    try simp only [Act.put, List.setIfInBounds_toArray, List.set_cons_zero, List.set_cons_succ]
                    have hSS := Uc3
                    refine wpAnyH_take (i := 5) (v := ?_) rfl (by kernel_rfl) (by kernel_rfl) (by kernel_rfl) (fun _ _ _ h => h) (Or.inl ⟨by rfl, ?_⟩) (by assumption) ?_
                    rotate_left
                    · intro w9 hSw
                      go_simp
                      try with_reducible rfl
                    simp only [Act.put, List.setIfInBounds_toArray, List.set_cons_zero, List.set_cons_succ, List.getElem_toArray, List.getElem_cons_zero, List.getElem_cons_succ]
                    refine wpAnyH_take (i := 6) (v := ?_) rfl (by kernel_rfl) (by kernel_rfl) (by kernel_rfl) (fun _ _ _ h => h) (Or.inl ⟨by rfl, ?_⟩) (by assumption) ?_
                    rotate_left
                    · intro w9 hSw
                      go_simp
                      try with_reducible rfl
                    simp only [Act.put, List.setIfInBounds_toArray, List.set_cons_zero, List.set_cons_succ, List.getElem_toArray, List.getElem_cons_zero, List.getElem_cons_succ]
                    refine wpAnyH_take (i := 7) (v := ?_) rfl (by kernel_rfl) (by kernel_rfl) (by kernel_rfl) (fun _ _ _ h => h) (Or.inl ⟨by rfl, ?_⟩) (by assumption) ?_
                    rotate_left
                    · intro w9 hSw
                      go_simp
                      try with_reducible rfl
                    simp only [Act.put, List.setIfInBounds_toArray, List.set_cons_zero, List.set_cons_succ, List.getElem_toArray, List.getElem_cons_zero, List.getElem_cons_succ]
                    refine wpAnyH_ready (rs := [8]) (by kernel_rfl) (by simp) ?_
                    refine AllReadyH.cons rfl (fun K hK => ?_) AllReadyH.nil
                    simp only [List.getElem_toArray, List.getElem_cons_zero, List.getElem_cons_succ]
                    go_simp
                    refine hK.out _ _ ?_ (fun hHeld => ?_)
                    · exact Uc3.alloc _
                    clear hK K
                    try simp only [Act.put, List.setIfInBounds_toArray, List.set_cons_zero, List.set_cons_succ]
                    obtain ⟨p9, hp9⟩ : ∃ p, p = (Wc3).heap.size := ⟨_, rfl⟩
                    obtain ⟨Wc4, hW1⟩ : ∃ W1, (Wc3).alloc (.cells zS 27) = W1 := ⟨_, rfl⟩
                    refine wpAnyH_world hW1 ?_
                    have h9 : Wc3.heap.size = p9 := hp9.symm
                    simp only [h9]
                    clear h9
                    have uc4 : Up (Wc3) Wc4 := by rw [← hW1]; exact (Up.refl _).alloc _
                    have ep9 : Wc4.heap[p9]? = some (.cells zS 27 (0, 0)) := by rw [hp9, ← hW1]; exact heap_alloc_new _ _
                    have lp9 : W5.heap.size ≤ p9 := by rw [hp9]; exact Uc3.size
                    have Uc4 := Uc3.trans uc4
                    have f1 := f1.up uc4
                    have f2 := row_up f2 uc4
                    have f3 := f3.up uc4
                    clear hHeld hW1 hp9
                    have hSS := Uc4
                    refine wpAnyH_ready (rs := [9]) (by kernel_rfl) (by simp) ?_
                    refine AllReadyH.cons rfl (fun K hK => ?_) AllReadyH.nil
                    simp only [List.getElem_toArray, List.getElem_cons_zero, List.getElem_cons_succ]
                    refine stepH_store (by rfl) 27 (.tmp 9) (.tmp 53) (by rfl) p9 X (by rfl) (by rfl) 27 zS ep9 (by rw [h1X]; exact infoSt) (by rw [h1X]; rfl) (h2X) ?_
                    refine hK.out _ _ ?_ (fun hHeld => ?_)
                    · exact up_setRow Uc4 lp9 _
                    clear hK K
                    simp only [Act.put]
                    obtain ⟨Wc5, hW1⟩ : ∃ W1, (Wc4).setRow p9 X = W1 := ⟨_, rfl⟩
                    refine wpAnyH_world hW1 ?_
                    have Uc5 : Up W5 Wc5 := by rw [← hW1]; exact up_setRow Uc4 lp9 _
                    have f3 := SOA.setRow (C := X) f3 ep9
                    rw [hW1] at f3
                    have ep9 : Wc5.heap[p9]? = some (.cells X 27 (0, 0)) := by rw [← hW1]; exact setRow_heap _ _ _ _ _ _ ep9
                    clear hHeld hW1
                    have hSS := Uc5
                    refine wpAnyH_take (i := 10) (v := ?_) rfl (by kernel_rfl) (by kernel_rfl) (by kernel_rfl) (fun _ _ _ h => h) (Or.inl ⟨by rfl, ?_⟩) (by assumption) ?_
                    rotate_left
                    · intro w9 hSw
                      go_simp
                      try with_reducible rfl
                    simp only [Act.put, List.setIfInBounds_toArray, List.set_cons_zero, List.set_cons_succ, List.getElem_toArray, List.getElem_cons_zero, List.getElem_cons_succ]
                    refine wpAnyH_done (by kernel_rfl) ?_ _
                    exact key8 Wc5 p9 X v1 vn Uc5 ep9 f3 h1X h2X
                  · simp only [List.getElem_toArray, List.getElem_cons_zero, List.getElem_cons_succ]
                    go_simp
                    refine hK.out _ _ ?_ (fun hHeld => ?_)
                    · exact Uc2.alloc _
                    clear hK K
                    try simp only [Act.put, List.setIfInBounds_toArray, List.set_cons_zero, List.set_cons_succ]
                    obtain ⟨p9, hp9⟩ : ∃ p, p = (Wc2).heap.size := ⟨_, rfl⟩
                    obtain ⟨Wc3, hW1⟩ : ∃ W1, (Wc2).alloc (.cells zS 27) = W1 := ⟨_, rfl⟩
                    refine wpAnyH_world hW1 ?_
                    have h9 : Wc2.heap.size = p9 := hp9.symm
                    simp only [h9]
                    clear h9
                    have uc3 : Up (Wc2) Wc3 := by rw [← hW1]; exact (Up.refl _).alloc _
                    have ep9 : Wc3.heap[p9]? = some (.cells zS 27 (0, 0)) := by rw [hp9, ← hW1]; exact heap_alloc_new _ _
                    have lp9 : W5.heap.size ≤ p9 := by rw [hp9]; exact Uc2.size
                    have Uc3 := Uc2.trans uc3
                    have f1 := f1.up uc3
                    have f2 := row_up f2 uc3
                    clear hHeld hW1 hp9
                    have hSS := Uc3
                    refine wpAnyH_ready (rs := [4]) (by kernel_rfl) (by simp) ?_
                    refine AllReadyH.cons rfl (fun K hK => ?_) AllReadyH.nil
                    simp only [List.getElem_toArray, List.getElem_cons_zero, List.getElem_cons_succ]
                    go_simp
                    refine Calls.mono (HR2.out _ _ _ (HU.trans Uc3) (SO.sl f1) (IRow.il f2)) ?_
                    rintro r9 Wc4 ⟨X, rfl, h1X, h2X, f3, uc4⟩
                    have f3 := f3.less (HU.trans Uc3).size
                    go_simp
                    have Uc4 := Uc3.trans uc4
                    have f1 := f1.up uc4
                    have f2 := row_up f2 uc4
                    have ep9 := uc4.heap ep9
                    refine hK.out _ _ ?_ (fun hHeld => ?_)
                    · exact Uc4
                    clear hK K
                    try simp only [Act.put, List.setIfInBounds_toArray, List.set_cons_zero, List.set_cons_succ]
                    have hSS := Uc4
                    refine wpAnyH_take (i := 5) (v := ?_) rfl (by kernel_rfl) (by kernel_rfl) (by kernel_rfl) (fun _ _ _ h => h) (Or.inl ⟨by rfl, ?_⟩) (by assumption) ?_
                    rotate_left
                    · intro w9 hSw
                      go_simp
                      try with_reducible rfl
                    simp only [Act.put, List.setIfInBounds_toArray, List.set_cons_zero, List.set_cons_succ, List.getElem_toArray, List.getElem_cons_zero, List.getElem_cons_succ]
                    refine wpAnyH_take (i := 6) (v := ?_) rfl (by kernel_rfl) (by kernel_rfl) (by kernel_rfl) (fun _ _ _ h => h) (Or.inl ⟨by rfl, ?_⟩) (by assumption) ?_
                    rotate_left
                    · intro w9 hSw
                      go_simp
                      try with_reducible rfl
                    simp only [Act.put, List.setIfInBounds_toArray, List.set_cons_zero, List.set_cons_succ, List.getElem_toArray, List.getElem_cons_zero, List.getElem_cons_succ]
                    refine wpAnyH_take (i := 7) (v := ?_) rfl (by kernel_rfl) (by kernel_rfl) (by kernel_rfl) (fun _ _ _ h => h) (Or.inl ⟨by rfl, ?_⟩) (by assumption) ?_
                    rotate_left
                    · intro w9 hSw
                      go_simp
                      try with_reducible rfl
                    simp only [Act.put, List.setIfInBounds_toArray, List.set_cons_zero, List.set_cons_succ, List.getElem_toArray, List.getElem_cons_zero, List.getElem_cons_succ]
                    refine wpAnyH_ready (rs := [9]) (by kernel_rfl) (by simp) ?_
                    refine AllReadyH.cons rfl (fun K hK => ?_) AllReadyH.nil
                    simp only [List.getElem_toArray, List.getElem_cons_zero, List.getElem_cons_succ]
                    refine stepH_store (by rfl) 27 (.tmp 9) (.tmp 53) (by rfl) p9 X (by rfl) (by rfl) 27 zS ep9 (by rw [h1X]; exact infoSt) (by rw [h1X]; rfl) (h2X) ?_
                    refine hK.out _ _ ?_ (fun hHeld => ?_)
                    · exact up_setRow Uc4 lp9 _
                    clear hK K
                    simp only [Act.put]
                    obtain ⟨Wc5, hW1⟩ : ∃ W1, (Wc4).setRow p9 X = W1 := ⟨_, rfl⟩
                    refine wpAnyH_world hW1 ?_
                    have Uc5 : Up W5 Wc5 := by rw [← hW1]; exact up_setRow Uc4 lp9 _
                    have f3 := SOA.setRow (C := X) f3 ep9
                    rw [hW1] at f3
                    have ep9 : Wc5.heap[p9]? = some (.cells X 27 (0, 0)) := by rw [← hW1]; exact setRow_heap _ _ _ _ _ _ ep9
                    clear hHeld hW1
                    have hSS := Uc5
                    refine wpAnyH_take (i := 10) (v := ?_) rfl (by kernel_rfl) (by kernel_rfl) (by kernel_rfl) (fun _ _ _ h => h) (Or.inl ⟨by rfl, ?_⟩) (by assumption) ?_
                    rotate_left
                    · intro w9 hSw
                      go_simp
                      try with_reducible rfl
                    simp only [Act.put, List.setIfInBounds_toArray, List.set_cons_zero, List.set_cons_succ, List.getElem_toArray, List.getElem_cons_zero, List.getElem_cons_succ]
                    refine wpAnyH_done (by kernel_rfl) ?_ _
                    exact key8 Wc5 p9 X v1 vn Uc5 ep9 f3 h1X h2X
                · simp only [List.getElem_toArray, List.getElem_cons_zero, List.getElem_cons_succ]
                  go_simp
                  refine hK.out _ _ ?_ (fun hHeld => ?_)
                  · exact Uc1.alloc _
                  clear hK K
                  try simp only [Act.put, List.setIfInBounds_toArray, List.set_cons_zero, List.set_cons_succ]
                  obtain ⟨p9, hp9⟩ : ∃ p, p = (Wc1).heap.size := ⟨_, rfl⟩
                  obtain ⟨Wc2, hW1⟩ : ∃ W1, (Wc1).alloc (.cells zS 27) = W1 := ⟨_, rfl⟩
                  refine wpAnyH_world hW1 ?_
                  have h9 : Wc1.heap.size = p9 := hp9.symm
                  simp only [h9]
                  clear h9
                  have uc2 : Up (Wc1) Wc2 := by rw [← hW1]; exact (Up.refl _).alloc _
                  have ep9 : Wc2.heap[p9]? = some (.cells zS 27 (0, 0)) := by rw [hp9, ← hW1]; exact heap_alloc_new _ _
                  have lp9 : W5.heap.size ≤ p9 := by rw [hp9]; exact Uc1.size
                  have Uc2 := Uc1.trans uc2
                  have f1 := f1.up uc2
                  clear hHeld hW1 hp9
                  have hSS := Uc2
                  refine wpAnyH_ready (rs := [3]) (by kernel_rfl) (by simp) ?_
                  refine AllReadyH.cons rfl (fun K hK => ?_) AllReadyH.nil
                  simp only [List.getElem_toArray, List.getElem_cons_zero, List.getElem_cons_succ]
                  go_simp
                  refine Calls.mono (HCE.out _ (HU.trans Uc2)) ?_
                  rintro r9 Wc3 ⟨vn, rfl, f2, uc3⟩
                  go_simp
                  have Uc3 := Uc2.trans uc3
                  have f1 := f1.up uc3
                  have ep9 := uc3.heap ep9
                  refine hK.out _ _ ?_ (fun hHeld => ?_)
                  · exact Uc3
                  clear hK K
                  try simp only [Act.put, List.setIfInBounds_toArray, List.set_cons_zero, List.set_cons_succ]
                  have hSS := Uc3
                  refine wpAnyH_ready (rs := [4]) (by kernel_rfl) (by simp) ?_
                  refine AllReadyH.cons rfl (fun K hK => ?_) AllReadyH.nil
                  simp only [List.getElem_toArray, List.getElem_cons_zero, List.getElem_cons_succ]
                  go_simp
                  refine Calls.mono (HR2.out _ _ _ (HU.trans Uc3) (SO.sl f1) (IRow.il f2)) ?_
                  rintro r9 Wc4 ⟨X, rfl, h1X, h2X, f3, uc4⟩
                  have f3 := f3.less (HU.trans Uc3).size
                  go_simp
                  have Uc4 := Uc3.trans uc4
                  have f1 := f1.up uc4
                  have ep9 := uc4.heap ep9
                  have f2 := row_up f2 uc4
                  refine hK.out _ _ ?_ (fun hHeld => ?_)
                  · exact Uc4
                  clear hK K
                  try simp only [Act.put, List.setIfInBounds_toArray, List.set_cons_zero, List.set_cons_succ]
                  have hSS := Uc4
                  refine wpAnyH_take (i := 5) (v := ?_) rfl (by kernel_rfl) (by kernel_rfl) (by kernel_rfl) (fun _ _ _ h => h) (Or.inl ⟨by rfl, ?_⟩) (by assumption) ?_
                  rotate_left
                  · intro w9 hSw
                    go_simp
                    try with_reducible rfl
                  simp only [Act.put, List.setIfInBounds_toArray, List.set_cons_zero, List.set_cons_succ, List.getElem_toArray, List.getElem_cons_zero, List.getElem_cons_succ]
                  refine wpAnyH_take (i := 6) (v := ?_) rfl (by kernel_rfl) (by kernel_rfl) (by kernel_rfl) (fun _ _ _ h => h) (Or.inl ⟨by rfl, ?_⟩) (by assumption) ?_
                  rotate_left
                  · intro w9 hSw
                    go_simp
                    try with_reducible rfl
                  simp only [Act.put, List.setIfInBounds_toArray, List.set_cons_zero, List.set_cons_succ, List.getElem_toArray, List.getElem_cons_zero, List.getElem_cons_succ]
                  refine wpAnyH_take (i := 7) (v := ?_) rfl (by kernel_rfl) (by kernel_rfl) (by kernel_rfl) (fun _ _ _ h => h) (Or.inl ⟨by rfl, ?_⟩) (by assumption) ?_
                  rotate_left
                  · intro w9 hSw
                    go_simp
                    try with_reducible rfl
                  simp only [Act.put, List.setIfInBounds_toArray, List.set_cons_zero, List.set_cons_succ, List.getElem_toArray, List.getElem_cons_zero, List.getElem_cons_succ]
                  refine wpAnyH_ready (rs := [9]) (by kernel_rfl) (by simp) ?_
                  refine AllReadyH.cons rfl (fun K hK => ?_) AllReadyH.nil
                  simp only [List.getElem_toArray, List.getElem_cons_zero, List.getElem_cons_succ]
                  refine stepH_store (by rfl) 27 (.tmp 9) (.tmp 53) (by rfl) p9 X (by rfl) (by rfl) 27 zS ep9 (by rw [h1X]; exact infoSt) (by rw [h1X]; rfl) (h2X) ?_
                  refine hK.out _ _ ?_ (fun hHeld => ?_)
                  · exact up_setRow Uc4 lp9 _
                  clear hK K
                  simp only [Act.put]
                  obtain ⟨Wc5, hW1⟩ : ∃ W1, (Wc4).setRow p9 X = W1 := ⟨_, rfl⟩
                  refine wpAnyH_world hW1 ?_
                  have Uc5 : Up W5 Wc5 := by rw [← hW1]; exact up_setRow Uc4 lp9 _
                  have f3 := SOA.setRow (C := X) f3 ep9
                  rw [hW1] at f3
                  have ep9 : Wc5.heap[p9]? = some (.cells X 27 (0, 0)) := by rw [← hW1]; exact setRow_heap _ _ _ _ _ _ ep9
                  clear hHeld hW1
                  have hSS := Uc5
                  refine wpAnyH_take (i := 10) (v := ?_) rfl (by kernel_rfl) (by kernel_rfl) (by kernel_rfl) (fun _ _ _ h => h) (Or.inl ⟨by rfl, ?_⟩) (by assumption) ?_
                  rotate_left
                  · intro w9 hSw
                    go_simp
                    try with_reducible rfl
                  simp only [Act.put, List.setIfInBounds_toArray, List.set_cons_zero, List.set_cons_succ, List.getElem_toArray, List.getElem_cons_zero, List.getElem_cons_succ]
                  refine wpAnyH_done (by kernel_rfl) ?_ _
                  exact key8 Wc5 p9 X v1 vn Uc5 ep9 f3 h1X h2X
              · simp only [List.getElem_toArray, List.getElem_cons_zero, List.getElem_cons_succ]
                go_simp
                refine hK.out _ _ ?_ (fun hHeld => ?_)
                · exact Uc0.alloc _
                clear hK K
                try simp only [Act.put, List.setIfInBounds_toArray, List.set_cons_zero, List.set_cons_succ]
                obtain ⟨p9, hp9⟩ : ∃ p, p = (W5.drew).heap.size := ⟨_, rfl⟩
                obtain ⟨Wc1, hW1⟩ : ∃ W1, (W5.drew).alloc (.cells zS 27) = W1 := ⟨_, rfl⟩
                refine wpAnyH_world hW1 ?_
                have h9 : W5.heap.size = p9 := hp9.symm
                simp only [h9]
                clear h9
                have uc1 : Up (W5.drew) Wc1 := by rw [← hW1]; exact (Up.refl _).alloc _
                have ep9 : Wc1.heap[p9]? = some (.cells zS 27 (0, 0)) := by rw [hp9, ← hW1]; exact heap_alloc_new _ _
                have lp9 : W5.heap.size ≤ p9 := by rw [hp9]; exact Uc0.size
                have Uc1 := Uc0.trans uc1
                clear hHeld hW1 hp9
                have hSS := Uc1
                refine wpAnyH_ready (rs := [1]) (by kernel_rfl) (by simp) ?_
                refine AllReadyH.cons rfl (fun K hK => ?_) AllReadyH.nil
                simp only [List.getElem_toArray, List.getElem_cons_zero, List.getElem_cons_succ]
                go_simp
                refine Calls.mono (HC3.out _ Uc1) ?_
                rintro r9 Wc2 ⟨v1, rfl, f1, uc2⟩
                go_simp
                have Uc2 := Uc1.trans uc2
                have ep9 := uc2.heap ep9
                refine hK.out _ _ ?_ (fun hHeld => ?_)
                · exact Uc2
                clear hK K
                try simp only [Act.put, List.setIfInBounds_toArray, List.set_cons_zero, List.set_cons_succ]
                have hSS := Uc2
                refine wpAnyH_ready (rs := [3]) (by kernel_rfl) (by simp) ?_
                refine AllReadyH.cons rfl (fun K hK => ?_) AllReadyH.nil
                simp only [List.getElem_toArray, List.getElem_cons_zero, List.getElem_cons_succ]
                go_simp
                refine Calls.mono (HCE.out _ (HU.trans Uc2)) ?_
                rintro r9 Wc3 ⟨vn, rfl, f2, uc3⟩
                go_simp
                have Uc3 := Uc2.trans uc3
                have ep9 := uc3.heap ep9
                have f1 := f1.up uc3
                refine hK.out _ _ ?_ (fun hHeld => ?_)
                · exact Uc3
                clear hK K
                try simp only [Act.put, List.setIfInBounds_toArray, List.set_cons_zero, List.set_cons_succ]
                have hSS := Uc3
                refine wpAnyH_ready (rs := [4]) (by kernel_rfl) (by simp) ?_
                refine AllReadyH.cons rfl (fun K hK => ?_) AllReadyH.nil
                simp only [List.getElem_toArray, List.getElem_cons_zero, List.getElem_cons_succ]
                go_simp
                refine Calls.mono (HR2.out _ _ _ (HU.trans Uc3) (SO.sl f1) (IRow.il f2)) ?_
                rintro r9 Wc4 ⟨X, rfl, h1X, h2X, f3, uc4⟩
                have f3 := f3.less (HU.trans Uc3).size
                go_simp
                have Uc4 := Uc3.trans uc4
                have ep9 := uc4.heap ep9
                have f1 := f1.up uc4
                have f2 := row_up f2 uc4
                refine hK.out _ _ ?_ (fun hHeld => ?_)
                · exact Uc4
                clear hK K
                try simp only [Act.put, List.setIfInBounds_toArray, List.set_cons_zero, List.set_cons_succ]
                have hSS := Uc4
                refine wpAnyH_take (i := 5) (v := ?_) rfl (by kernel_rfl) (by kernel_rfl) (by kernel_rfl) (fun _ _ _ h => h) (Or.inl ⟨by rfl, ?_⟩) (by assumption) ?_
                rotate_left
                · intro w9 hSw
                  go_simp
                  try with_reducible rfl
                simp only [Act.put, List.setIfInBounds_toArray, List.set_cons_zero, List.set_cons_succ, List.getElem_toArray, List.getElem_cons_zero, List.getElem_cons_succ]
                refine wpAnyH_take (i := 6) (v := ?_) rfl (by kernel_rfl) (by kernel_rfl) (by kernel_rfl) (fun _ _ _ h => h) (Or.inl ⟨by rfl, ?_⟩) (by assumption) ?_
                rotate_left
                · intro w9 hSw
                  go_simp
                  try with_reducible rfl
                simp only [Act.put, List.setIfInBounds_toArray, List.set_cons_zero, List.set_cons_succ, List.getElem_toArray, List.getElem_cons_zero, List.getElem_cons_succ]
                refine wpAnyH_take (i := 7) (v := ?_) rfl (by kernel_rfl) (by kernel_rfl) (by kernel_rfl) (fun _ _ _ h => h) (Or.inl ⟨by rfl, ?_⟩) (by assumption) ?_
                rotate_left
                · intro w9 hSw
                  go_simp
                  try with_reducible rfl
                simp only [Act.put, List.setIfInBounds_toArray, List.set_cons_zero, List.set_cons_succ, List.getElem_toArray, List.getElem_cons_zero, List.getElem_cons_succ]
                refine wpAnyH_ready (rs := [9]) (by kernel_rfl) (by simp) ?_
                refine AllReadyH.cons rfl (fun K hK => ?_) AllReadyH.nil
                simp only [List.getElem_toArray, List.getElem_cons_zero, List.getElem_cons_succ]
                refine stepH_store (by rfl) 27 (.tmp 9) (.tmp 53) (by rfl) p9 X (by rfl) (by rfl) 27 zS ep9 (by rw [h1X]; exact infoSt) (by rw [h1X]; rfl) (h2X) ?_
                refine hK.out _ _ ?_ (fun hHeld => ?_)
                · exact up_setRow Uc4 lp9 _
                clear hK K
                simp only [Act.put]
                obtain ⟨Wc5, hW1⟩ : ∃ W1, (Wc4).setRow p9 X = W1 := ⟨_, rfl⟩
                refine wpAnyH_world hW1 ?_
                have Uc5 : Up W5 Wc5 := by rw [← hW1]; exact up_setRow Uc4 lp9 _
                have f3 := SOA.setRow (C := X) f3 ep9
                rw [hW1] at f3
                have ep9 : Wc5.heap[p9]? = some (.cells X 27 (0, 0)) := by rw [← hW1]; exact setRow_heap _ _ _ _ _ _ ep9
                clear hHeld hW1
                have hSS := Uc5
                refine wpAnyH_take (i := 10) (v := ?_) rfl (by kernel_rfl) (by kernel_rfl) (by kernel_rfl) (fun _ _ _ h => h) (Or.inl ⟨by rfl, ?_⟩) (by assumption) ?_
                rotate_left
                · intro w9 hSw
                  go_simp
                  try with_reducible rfl
                simp only [Act.put, List.setIfInBounds_toArray, List.set_cons_zero, List.set_cons_succ, List.getElem_toArray, List.getElem_cons_zero, List.getElem_cons_succ]
                refine wpAnyH_done (by kernel_rfl) ?_ _
                exact key8 Wc5 p9 X v1 vn Uc5 ep9 f3 h1X h2X
            case kp8 =>
              intro W5a p9 X v8 vn8 U8 hX fX h1X h2X
              have hA := U8.heap hA
              have hE := U8.heap hE
              have hC := U8.heap hC
              have hD := U8.heap hD
              have fC := fC.up U8
              have fD := fD.up U8
              have HU := HU.trans U8
              clear U8 HC3 HR2
              go_wp2_with (first | (refine wpList_load_rowG (by rfl) 27 (.tmp 9) (by rfl) p9 (by rfl) 27 X (0, 0) _ hX Tryz.underlying27 (by rfl) (by rw [h1X]; exact infoSt) ?_) | (refine wpList_load_rowG (by rfl) 27 (.tmp 2) (by rfl) w.heap.size (by rfl) 27 A (0, 0) _ hA Tryz.underlying27 (by rfl) (by rw [hA1]; exact infoSt) ?_))
              refine Calls.mono (eqState_ (.agg X) (.agg A) s s _ (SO.sl (SOA.so fX)) (by rw [HAV.out]; exact HST.out.up HU) HSM.out (eqS_self s)) ?_
              rintro r W5b ⟨rfl, u2⟩
              have hA := u2.heap hA
              have hE := u2.heap hE
              have hC := u2.heap hC
              have hD := u2.heap hD
              have hX := u2.heap hX
              have fC := fC.up u2
              have fD := fD.up u2
              have fX := fX.up u2
              have HU := HU.trans u2
              clear u2
              go_wp2_with (first | (refine wpList_load_rowG (by rfl) 27 (.tmp 5) (by rfl) p5 (by rfl) 27 C (0, 0) _ hC Tryz.underlying27 (by rfl) (by rw [h1C]; exact infoSt) ?_))
              refine Calls.mono (mayT (may_ (.agg C) sa _ (SO.sl (SOA.so fC)) HSB.out) HOB.out) ?_
              rintro r W5c ⟨rfl, u3⟩
              have hA := u3.heap hA
              have hE := u3.heap hE
              have hC := u3.heap hC
              have hD := u3.heap hD
              have hX := u3.heap hX
              have fC := fC.up u3
              have fD := fD.up u3
              have fX := fX.up u3
              have HU := HU.trans u3
              clear u3
              go_wp2_with (first | (refine wpList_load_rowG (by rfl) 27 (.tmp 2) (by rfl) w.heap.size (by rfl) 27 A (0, 0) _ hA Tryz.underlying27 (by rfl) (by rw [hA1]; exact infoSt) ?_) | (refine wpList_load_rowG (by rfl) 27 (.tmp 5) (by rfl) p5 (by rfl) 27 C (0, 0) _ hC Tryz.underlying27 (by rfl) (by rw [h1C]; exact infoSt) ?_))
              refine Calls.mono (sameCards_ (.agg A) (.agg C) s sa _ (by rw [HAV.out]; exact HST.out.up HU) (SO.sl (SOA.so fC)) HOB.out HKB.out) ?_
              rintro r W5d ⟨rfl, u4⟩
              have hA := u4.heap hA
              have hE := u4.heap hE
              have hC := u4.heap hC
              have hD := u4.heap hD
              have hX := u4.heap hX
              have fC := fC.up u4
              have fD := fD.up u4
              have fX := fX.up u4
              have HU := HU.trans u4
              clear u4
              go_wp2_with (first | (refine wpList_load_rowG (by rfl) 27 (.tmp 5) (by rfl) p5 (by rfl) 27 C (0, 0) _ hC Tryz.underlying27 (by rfl) (by rw [h1C]; exact infoSt) ?_) | (refine wpList_load_rowG (by rfl) 27 (.tmp 2) (by rfl) w.heap.size (by rfl) 27 A (0, 0) _ hA Tryz.underlying27 (by rfl) (by rw [hA1]; exact infoSt) ?_))
              refine Calls.mono (eqF (eqStateG_ (.agg C) (.agg A) sa s _ (SO.sl (SOA.so fC)) (by rw [HAV.out]; exact HST.out.up HU) HSB.out) HNW.out) ?_
              rintro r W6 ⟨rfl, u5⟩
              have hA := u5.heap hA
              have hE := u5.heap hE
              have hC := u5.heap hC
              have hD := u5.heap hD
              have hX := u5.heap hX
              have fC := fC.up u5
              have fD := fD.up u5
              have fX := fX.up u5
              have HU := HU.trans u5
              clear u5
              clear hC fC hX fX h1C h2C h1X h2X HSB HKB HOB HNW
              have hg2 := HG2x.out
              by_cases hld : (okB e && leadB s e) = true
              · have hs2 : o2 = some (.inr (aheadS s e)) := by rw [HO.out.2]; unfold bckO; rw [if_pos hok]; show some (bck [e] 1 s) = _; rw [show bck [e] 1 s = (if okB e && leadB s e then .inr (aheadS s e) else .inl 0) from rfl, if_pos hld]
                have hahead := ok_ahead hok hld
                have hbt := back_there hok (by have h9 := hld; unfold okB at h9; simp only [Bool.and_eq_true] at h9; exact h9.1.1) (by simp only [Bool.and_eq_true] at hld; exact hld.2)
                have hr3 : repO (aheadS s e) [e] = some (.inr s) := by
                  unfold repO
                  rw [if_pos hahead]
                  show some (if okB e && fitB (aheadS s e) e then repl (behindS (aheadS s e) e) [] 1 else .inl 0) = _
                  rw [hbt.1, hbt.2, if_pos (by rw [Bool.and_true]; simp only [Bool.and_eq_true] at hld; exact hld.1)]
                  rfl
                have HR3 : Hid (∀ (W : World) (v vn : Value), Up w W → StL W v (aheadS s e) → IL W vn e.ord → Calls Tryz.prog 12 #[v, evv e vn] W (ApS s W)) := fun W v vn u h1 h2 => by
                  have h9 := apply_ v vn (aheadS s e) e W h1 (small_ok hahead) h2 hn
                  rw [hr3] at h9
                  exact h9.mono fun e w' h => aps_of h
                have HSA : Hid (Small (aheadS s e)) := small_ok hahead
                have HKA : Hid (Keeps s (aheadS s e)) := keeps_ahead s e
                have HOA : Hid (ff (aheadS s e) = none) := hahead
                have fD : SOA w.heap.size W6 (.agg D) (aheadS s e) := by rw [hs2] at fD; exact fD
                rw [hs2] at hg2
                clear hs2 hbt hr3 hahead
                generalize aheadS s e = sb at *
                have hg2' : g2 = 0 := hg2
                clear hg2
                subst hg2'
                have HC3 : Hid (∀ W, Up W6 W → Calls Tryz.prog 40 #[.agg D] W (CpPost W fun W' v => SO W.heap.size W' v sb)) := fun W u => copyState_ (.agg D) sb W (SO.sl (SOA.so (fD.up u))) HSA.out
                go_wp2_with fail
                refine (fun key14 : ∀ (W : World) (p : Nat) (C : Array Value) (v1 vn : Value), Up W6 W → W.heap[p]? = some (.cells C 27 (0, 0)) → SOA w.heap.size W (.agg C) s → C.size = 7 → C.all (·.oneCell') = true → (?G14y : World → Nat → Array Value → Value → Value → Prop) W p C v1 vn => ?main14y) ?kp14y
                case main14y =>
                  refine wp_region_held_drew (S := fun W9 => Up W6 W9) (by kernel_rfl) (Up.drew (Up.refl _)) (fun hHeld => ?_)
                  have Ugy0 : Up W6 W6.drew := Up.drew (Up.refl _)
                  refine wpAnyH_take (i := 0) (v := ?_) rfl (by kernel_rfl) (by kernel_rfl) (by kernel_rfl) (fun _ _ _ h => h) (Or.inl ⟨by rfl, ?_⟩) (by assumption) ?_
                  rotate_left
                  · intro w9 hSw
                    refine (exec_load_row 27 (.tmp 7) (by rfl) p7 (by rfl) 27 D (0, 0) _ Tryz.underlying27 (by rfl) (by rw [h1D]; exact infoSt) w9 (hSw.heap hD)).trans ?_
                    with_reducible rfl
                  simp only [Act.put, List.setIfInBounds_toArray, List.set_cons_zero, List.set_cons_succ, List.getElem_toArray, List.getElem_cons_zero]
                  refine wpAnyH_take (i := 2) (v := ?_) rfl (by kernel_rfl) (by kernel_rfl) (by kernel_rfl) (fun _ _ _ h => h) (Or.inl ⟨by rfl, ?_⟩) (by assumption) ?_
                  rotate_left
                  · intro w9 hSw
                    refine (exec_load_row 30 (.tmp 3) (by rfl) (w.heap.size + 1) (by rfl) 30 (evc e vo) (0, 0) _ Tryz.underlying30 (by rfl) infoEv w9 (hSw.heap hE)).trans ?_
                    with_reducible rfl
                  simp only [Act.put, List.setIfInBounds_toArray, List.set_cons_zero, List.set_cons_succ, List.getElem_toArray, List.getElem_cons_zero, List.getElem_cons_succ]
                  refine wpAnyH_ready (rs := [1, 8]) (by kernel_rfl) (by simp) ?_
                  refine AllReadyH.cons rfl (fun K hK => ?_) (AllReadyH.cons rfl (fun K hK => ?_) AllReadyH.nil)
                  · simp only [List.getElem_toArray, List.getElem_cons_zero, List.getElem_cons_succ]
                    go_simp
                    refine Calls.mono (HC3.out _ Ugy0) ?_
                    rintro r9 Wgy1 ⟨v1, rfl, f1, ugy1⟩
                    go_simp
                    have Ugy1 := Ugy0.trans ugy1
                    refine hK.out _ _ ?_ (fun hHeld => ?_)
                    · exact Ugy1
                    clear hK K
                    try simp only [Act.put, List.setIfInBounds_toArray, List.set_cons_zero, List.set_cons_succ]
                    have hSS := Ugy1
                    refine wpAnyH_ready (rs := [3, 8]) (by kernel_rfl) (by simp) ?_
                    refine AllReadyH.cons rfl (fun K hK => ?_) (AllReadyH.cons rfl (fun K hK => ?_) AllReadyH.nil)
                    · simp only [List.getElem_toArray, List.getElem_cons_zero, List.getElem_cons_succ]
                      go_simp
                      refine Calls.mono (HCE.out _ (HU.trans Ugy1)) ?_
                      rintro r9 Wgy2 ⟨vn, rfl, f2, ugy2⟩
                      go_simp
                      have Ugy2 := Ugy1.trans ugy2
                      have f1 := f1.up ugy2
                      refine hK.out _ _ ?_ (fun hHeld => ?_)
                      · exact Ugy2
                      clear hK K
                      try simp only [Act.put, List.setIfInBounds_toArray, List.set_cons_zero, List.set_cons_succ]
                      have hSS := Ugy2
                      refine wpAnyH_ready (rs := [4, 8]) (by kernel_rfl) (by simp) ?_
                      refine AllReadyH.cons rfl (fun K hK => ?_) (AllReadyH.cons rfl (fun K hK => ?_) AllReadyH.nil)
                      · simp only [List.getElem_toArray, List.getElem_cons_zero, List.getElem_cons_succ]
                        go_simp
                        refine Calls.mono (HR3.out _ _ _ (HU.trans Ugy2) (SO.sl f1) (IRow.il f2)) ?_
                        rintro r9 Wgy3 ⟨X, rfl, h1X, h2X, f3, ugy3⟩
                        have f3 := f3.less (HU.trans Ugy2).size
                        go_simp
                        have Ugy3 := Ugy2.trans ugy3
                        have f1 := f1.up ugy3
                        have f2 := row_up f2 ugy3
                        refine hK.out _ _ ?_ (fun hHeld => ?_)
                        · exact Ugy3
                        clear hK K
                        try simp only [Act.put, List.setIfInBounds_toArray, List.set_cons_zero, List.set_cons_succ]
                        have hSS := Ugy3
                        refine wpAnyH_take (i := 5) (v := ?_) rfl (by kernel_rfl) (by kernel_rfl) (by kernel_rfl) (fun _ _ _ h => h) (Or.inl ⟨by rfl, ?_⟩) (by assumption) ?_
                        rotate_left
                        · intro w9 hSw
                          go_simp
                          try with_reducible rfl
                        simp only [Act.put, List.setIfInBounds_toArray, List.set_cons_zero, List.set_cons_succ, List.getElem_toArray, List.getElem_cons_zero, List.getElem_cons_succ]
                        refine wpAnyH_take (i := 6) (v := ?_) rfl (by kernel_rfl) (by kernel_rfl) (by kernel_rfl) (fun _ _ _ h => h) (Or.inl ⟨by rfl, ?_⟩) (by assumption) ?_
                        rotate_left
                        · intro w9 hSw
                          go_simp
                          try with_reducible rfl
                        simp only [Act.put, List.setIfInBounds_toArray, List.set_cons_zero, List.set_cons_succ, List.getElem_toArray, List.getElem_cons_zero, List.getElem_cons_succ]
                        refine wpAnyH_take (i := 7) (v := ?_) rfl (by kernel_rfl) (by kernel_rfl) (by kernel_rfl) (fun _ _ _ h => h) (Or.inl ⟨by rfl, ?_⟩) (by assumption) ?_
                        rotate_left
                        · intro w9 hSw
                          go_simp
                          try with_reducible rfl
                        simp only [Act.put, List.setIfInBounds_toArray, List.set_cons_zero, List.set_cons_succ, List.getElem_toArray, List.getElem_cons_zero, List.getElem_cons_succ]
                        refine wpAnyH_ready (rs := [8]) (by kernel_rfl) (by simp) ?_
                        refine AllReadyH.cons rfl (fun K hK => ?_) AllReadyH.nil
                        simp only [List.getElem_toArray, List.getElem_cons_zero, List.getElem_cons_succ]
                        go_simp
                        refine hK.out _ _ ?_ (fun hHeld => ?_)
                        · exact Ugy3.alloc _
                        clear hK K
                        try simp only [Act.put, List.setIfInBounds_toArray, List.set_cons_zero, List.set_cons_succ]
                        obtain ⟨p11, hp11⟩ : ∃ p, p = (Wgy3).heap.size := ⟨_, rfl⟩
                        obtain ⟨Wgy4, hW1⟩ : ∃ W1, (Wgy3).alloc (.cells zS 27) = W1 := ⟨_, rfl⟩
                        refine wpAnyH_world hW1 ?_
                        have h9 : Wgy3.heap.size = p11 := hp11.symm
                        simp only [h9]
                        clear h9
                        have ugy4 : Up (Wgy3) Wgy4 := by rw [← hW1]; exact (Up.refl _).alloc _
                        have ep11 : Wgy4.heap[p11]? = some (.cells zS 27 (0, 0)) := by rw [hp11, ← hW1]; exact heap_alloc_new _ _
                        have lp11 : W6.heap.size ≤ p11 := by rw [hp11]; exact Ugy3.size
                        have Ugy4 := Ugy3.trans ugy4
                        have f1 := f1.up ugy4
                        have f2 := row_up f2 ugy4
                        have f3 := f3.up ugy4
                        clear hHeld hW1 hp11
                        have hSS := Ugy4
                        refine wpAnyH_ready (rs := [9]) (by kernel_rfl) (by simp) ?_
                        refine AllReadyH.cons rfl (fun K hK => ?_) AllReadyH.nil
                        simp only [List.getElem_toArray, List.getElem_cons_zero, List.getElem_cons_succ]
                        refine stepH_store (by rfl) 27 (.tmp 11) (.tmp 95) (by rfl) p11 X (by rfl) (by rfl) 27 zS ep11 (by rw [h1X]; exact infoSt) (by rw [h1X]; rfl) (h2X) ?_
                        refine hK.out _ _ ?_ (fun hHeld => ?_)
                        · exact up_setRow Ugy4 lp11 _
                        clear hK K
                        simp only [Act.put]
                        obtain ⟨Wgy5, hW1⟩ : ∃ W1, (Wgy4).setRow p11 X = W1 := ⟨_, rfl⟩
                        refine wpAnyH_world hW1 ?_
                        have Ugy5 : Up W6 Wgy5 := by rw [← hW1]; exact up_setRow Ugy4 lp11 _
                        have f3 := SOA.setRow (C := X) f3 ep11
                        rw [hW1] at f3
                        have ep11 : Wgy5.heap[p11]? = some (.cells X 27 (0, 0)) := by rw [← hW1]; exact setRow_heap _ _ _ _ _ _ ep11
                        clear hHeld hW1
                        have hSS := Ugy5
                        refine wpAnyH_take (i := 10) (v := ?_) rfl (by kernel_rfl) (by kernel_rfl) (by kernel_rfl) (fun _ _ _ h => h) (Or.inl ⟨by rfl, ?_⟩) (by assumption) ?_
                        rotate_left
                        · intro w9 hSw
                          go_simp
                          try with_reducible rfl
                        simp only [Act.put, List.setIfInBounds_toArray, List.set_cons_zero, List.set_cons_succ, List.getElem_toArray, List.getElem_cons_zero, List.getElem_cons_succ]
                        refine wpAnyH_done (by kernel_rfl) ?_ _
                        exact key14 Wgy5 p11 X v1 vn Ugy5 ep11 f3 h1X h2X
                      · simp only [List.getElem_toArray, List.getElem_cons_zero, List.getElem_cons_succ]
                        go_simp
                        refine hK.out _ _ ?_ (fun hHeld => ?_)
                        · exact Ugy2.alloc _
                        clear hK K
                        try simp only [Act.put, List.setIfInBounds_toArray, List.set_cons_zero, List.set_cons_succ]
                        obtain ⟨p11, hp11⟩ : ∃ p, p = (Wgy2).heap.size := ⟨_, rfl⟩
                        obtain ⟨Wgy3, hW1⟩ : ∃ W1, (Wgy2).alloc (.cells zS 27) = W1 := ⟨_, rfl⟩
                        refine wpAnyH_world hW1 ?_
                        have h9 : Wgy2.heap.size = p11 := hp11.symm
                        simp only [h9]
                        clear h9
                        have ugy3 : Up (Wgy2) Wgy3 := by rw [← hW1]; exact (Up.refl _).alloc _
                        have ep11 : Wgy3.heap[p11]? = some (.cells zS 27 (0, 0)) := by rw [hp11, ← hW1]; exact heap_alloc_new _ _
                        have lp11 : W6.heap.size ≤ p11 := by rw [hp11]; exact Ugy2.size
                        have Ugy3 := Ugy2.trans ugy3
                        have f1 := f1.up ugy3
                        have f2 := row_up f2 ugy3
                        clear hHeld hW1 hp11
                        have hSS := Ugy3
                        refine wpAnyH_ready (rs := [4]) (by kernel_rfl) (by simp) ?_
                        refine AllReadyH.cons rfl (fun K hK => ?_) AllReadyH.nil
                        simp only [List.getElem_toArray, List.getElem_cons_zero, List.getElem_cons_succ]
                        go_simp
                        refine Calls.mono (HR3.out _ _ _ (HU.trans Ugy3) (SO.sl f1) (IRow.il f2)) ?_
                        rintro r9 Wgy4 ⟨X, rfl, h1X, h2X, f3, ugy4⟩
                        have f3 := f3.less (HU.trans Ugy3).size
                        go_simp
                        have Ugy4 := Ugy3.trans ugy4
                        have f1 := f1.up ugy4
                        have f2 := row_up f2 ugy4
                        have ep11 := ugy4.heap ep11
                        refine hK.out _ _ ?_ (fun hHeld => ?_)
                        · exact Ugy4
                        clear hK K
                        try simp only [Act.put, List.setIfInBounds_toArray, List.set_cons_zero, List.set_cons_succ]
                        have hSS := Ugy4
                        refine wpAnyH_take (i := 5) (v := ?_) rfl (by kernel_rfl) (by kernel_rfl) (by kernel_rfl) (fun _ _ _ h => h) (Or.inl ⟨by rfl, ?_⟩) (by assumption) ?_
                        rotate_left
                        · intro w9 hSw
                          go_simp
                          try with_reducible rfl
                        simp only [Act.put, List.setIfInBounds_toArray, List.set_cons_zero, List.set_cons_succ, List.getElem_toArray, List.getElem_cons_zero, List.getElem_cons_succ]
                        refine wpAnyH_take (i := 6) (v := ?_) rfl (by kernel_rfl) (by kernel_rfl) (by kernel_rfl) (fun _ _ _ h => h) (Or.inl ⟨by rfl, ?_⟩) (by assumption) ?_
                        rotate_left
                        · intro w9 hSw
                          go_simp
                          try with_reducible rfl
                        simp only [Act.put, List.setIfInBounds_toArray, List.set_cons_zero, List.set_cons_succ, List.getElem_toArray, List.getElem_cons_zero, List.getElem_cons_succ]
                        refine wpAnyH_take (i := 7) (v := ?_) rfl (by kernel_rfl) (by kernel_rfl) (by kernel_rfl) (fun _ _ _ h => h) (Or.inl ⟨by rfl, ?_⟩) (by assumption) ?_
                        rotate_left
                        · intro w9 hSw
                          go_simp
                          try with_reducible rfl
                        simp only [Act.put, List.setIfInBounds_toArray, List.set_cons_zero, List.set_cons_succ, List.getElem_toArray, List.getElem_cons_zero, List.getElem_cons_succ]
                        refine wpAnyH_ready (rs := [9]) (by kernel_rfl) (by simp) ?_
                        refine AllReadyH.cons rfl (fun K hK => ?_) AllReadyH.nil
                        simp only [List.getElem_toArray, List.getElem_cons_zero, List.getElem_cons_succ]
                        refine stepH_store (by rfl) 27 (.tmp 11) (.tmp 95) (by rfl) p11 X (by rfl) (by rfl) 27 zS ep11 (by rw [h1X]; exact infoSt) (by rw [h1X]; rfl) (h2X) ?_
                        refine hK.out _ _ ?_ (fun hHeld => ?_)
                        · exact up_setRow Ugy4 lp11 _
                        clear hK K
                        simp only [Act.put]
                        obtain ⟨Wgy5, hW1⟩ : ∃ W1, (Wgy4).setRow p11 X = W1 := ⟨_, rfl⟩
                        refine wpAnyH_world hW1 ?_
                        have Ugy5 : Up W6 Wgy5 := by rw [← hW1]; exact up_setRow Ugy4 lp11 _
                        have f3 := SOA.setRow (C := X) f3 ep11
                        rw [hW1] at f3
                        have ep11 : Wgy5.heap[p11]? = some (.cells X 27 (0, 0)) := by rw [← hW1]; exact setRow_heap _ _ _ _ _ _ ep11
                        clear hHeld hW1
                        have hSS := Ugy5
                        refine wpAnyH_take (i := 10) (v := ?_) rfl (by kernel_rfl) (by kernel_rfl) (by kernel_rfl) (fun _ _ _ h => h) (Or.inl ⟨by rfl, ?_⟩) (by assumption) ?_
                        rotate_left
                        · intro w9 hSw
                          go_simp
                          try with_reducible rfl
                        simp only [Act.put, List.setIfInBounds_toArray, List.set_cons_zero, List.set_cons_succ, List.getElem_toArray, List.getElem_cons_zero, List.getElem_cons_succ]
                        refine wpAnyH_done (by kernel_rfl) ?_ _
                        exact key14 Wgy5 p11 X v1 vn Ugy5 ep11 f3 h1X h2X
                    · simp only [List.getElem_toArray, List.getElem_cons_zero, List.getElem_cons_succ]
                      go_simp
                      refine hK.out _ _ ?_ (fun hHeld => ?_)
                      · exact Ugy1.alloc _
                      clear hK K
                      try simp only [Act.put, List.setIfInBounds_toArray, List.set_cons_zero, List.set_cons_succ]
                      obtain ⟨p11, hp11⟩ : ∃ p, p = (Wgy1).heap.size := ⟨_, rfl⟩
                      obtain ⟨Wgy2, hW1⟩ : ∃ W1, (Wgy1).alloc (.cells zS 27) = W1 := ⟨_, rfl⟩
                      refine wpAnyH_world hW1 ?_
                      have h9 : Wgy1.heap.size = p11 := hp11.symm
                      simp only [h9]
                      clear h9
                      have ugy2 : Up (Wgy1) Wgy2 := by rw [← hW1]; exact (Up.refl _).alloc _
                      have ep11 : Wgy2.heap[p11]? = some (.cells zS 27 (0, 0)) := by rw [hp11, ← hW1]; exact heap_alloc_new _ _
                      have lp11 : W6.heap.size ≤ p11 := by rw [hp11]; exact Ugy1.size
                      have Ugy2 := Ugy1.trans ugy2
                      have f1 := f1.up ugy2
                      clear hHeld hW1 hp11
                      have hSS := Ugy2
                      refine wpAnyH_ready (rs := [3]) (by kernel_rfl) (by simp) ?_
                      refine AllReadyH.cons rfl (fun K hK => ?_) AllReadyH.nil
                      simp only [List.getElem_toArray, List.getElem_cons_zero, List.getElem_cons_succ]
                      go_simp
                      refine Calls.mono (HCE.out _ (HU.trans Ugy2)) ?_
                      rintro r9 Wgy3 ⟨vn, rfl, f2, ugy3⟩
                      go_simp
                      have Ugy3 := Ugy2.trans ugy3
                      have f1 := f1.up ugy3
                      have ep11 := ugy3.heap ep11
                      refine hK.out _ _ ?_ (fun hHeld => ?_)
                      · exact Ugy3
                      clear hK K
                      try simp only [Act.put, List.setIfInBounds_toArray, List.set_cons_zero, List.set_cons_succ]
                      have hSS := Ugy3
                      refine wpAnyH_ready (rs := [4]) (by kernel_rfl) (by simp) ?_
                      refine AllReadyH.cons rfl (fun K hK => ?_) AllReadyH.nil
                      simp only [List.getElem_toArray, List.getElem_cons_zero, List.getElem_cons_succ]
                      go_simp
                      refine Calls.mono (HR3.out _ _ _ (HU.trans Ugy3) (SO.sl f1) (IRow.il f2)) ?_
                      rintro r9 Wgy4 ⟨X, rfl, h1X, h2X, f3, ugy4⟩
                      have f3 := f3.less (HU.trans Ugy3).size
                      go_simp
                      have Ugy4 := Ugy3.trans ugy4
                      have f1 := f1.up ugy4
                      have ep11 := ugy4.heap ep11
                      have f2 := row_up f2 ugy4
                      refine hK.out _ _ ?_ (fun hHeld => ?_)
                      · exact Ugy4
                      clear hK K
                      try simp only [Act.put, List.setIfInBounds_toArray, List.set_cons_zero, List.set_cons_succ]
                      have hSS := Ugy4
                      refine wpAnyH_take (i := 5) (v := ?_) rfl (by kernel_rfl) (by kernel_rfl) (by kernel_rfl) (fun _ _ _ h => h) (Or.inl ⟨by rfl, ?_⟩) (by assumption) ?_
                      rotate_left
                      · intro w9 hSw
                        go_simp
                        try with_reducible rfl
                      simp only [Act.put, List.setIfInBounds_toArray, List.set_cons_zero, List.set_cons_succ, List.getElem_toArray, List.getElem_cons_zero, List.getElem_cons_succ]
                      refine wpAnyH_take (i := 6) (v := ?_) rfl (by kernel_rfl) (by kernel_rfl) (by kernel_rfl) (fun _ _ _ h => h) (Or.inl ⟨by rfl, ?_⟩) (by assumption) ?_
                      rotate_left
                      · intro w9 hSw
                        go_simp
                        try with_reducible rfl
                      simp only [Act.put, List.setIfInBounds_toArray, List.set_cons_zero, List.set_cons_succ, List.getElem_toArray, List.getElem_cons_zero, List.getElem_cons_succ]
                      refine wpAnyH_take (i := 7) (v := ?_) rfl (by kernel_rfl) (by kernel_rfl) (by kernel_rfl) (fun _ _ _ h => h) (Or.inl ⟨by rfl, ?_⟩) (by assumption) ?_
                      rotate_left
                      · intro w9 hSw
                        go_simp
                        try with_reducible rfl
                      simp only [Act.put, List.setIfInBounds_toArray, List.set_cons_zero, List.set_cons_succ, List.getElem_toArray, List.getElem_cons_zero, List.getElem_cons_succ]
                      refine wpAnyH_ready (rs := [9]) (by kernel_rfl) (by simp) ?_
                      refine AllReadyH.cons rfl (fun K hK => ?_) AllReadyH.nil
                      simp only [List.getElem_toArray, List.getElem_cons_zero, List.getElem_cons_succ]
                      refine stepH_store (by rfl) 27 (.tmp 11) (.tmp 95) (by rfl) p11 X (by rfl) (by rfl) 27 zS ep11 (by rw [h1X]; exact infoSt) (by rw [h1X]; rfl) (h2X) ?_
                      refine hK.out _ _ ?_ (fun hHeld => ?_)
                      · exact up_setRow Ugy4 lp11 _
                      clear hK K
                      simp only [Act.put]
                      obtain ⟨Wgy5, hW1⟩ : ∃ W1, (Wgy4).setRow p11 X = W1 := ⟨_, rfl⟩
                      refine wpAnyH_world hW1 ?_
                      have Ugy5 : Up W6 Wgy5 := by rw [← hW1]; exact up_setRow Ugy4 lp11 _
                      have f3 := SOA.setRow (C := X) f3 ep11
                      rw [hW1] at f3
                      have ep11 : Wgy5.heap[p11]? = some (.cells X 27 (0, 0)) := by rw [← hW1]; exact setRow_heap _ _ _ _ _ _ ep11
                      clear hHeld hW1
                      have hSS := Ugy5
                      refine wpAnyH_take (i := 10) (v := ?_) rfl (by kernel_rfl) (by kernel_rfl) (by kernel_rfl) (fun _ _ _ h => h) (Or.inl ⟨by rfl, ?_⟩) (by assumption) ?_
                      rotate_left
                      · intro w9 hSw
                        go_simp
                        try with_reducible rfl
                      simp only [Act.put, List.setIfInBounds_toArray, List.set_cons_zero, List.set_cons_succ, List.getElem_toArray, List.getElem_cons_zero, List.getElem_cons_succ]
                      refine wpAnyH_done (by kernel_rfl) ?_ _
                      exact key14 Wgy5 p11 X v1 vn Ugy5 ep11 f3 h1X h2X
                  · simp only [List.getElem_toArray, List.getElem_cons_zero, List.getElem_cons_succ]
                    go_simp
                    refine hK.out _ _ ?_ (fun hHeld => ?_)
                    · exact Ugy0.alloc _
                    clear hK K
                    try simp only [Act.put, List.setIfInBounds_toArray, List.set_cons_zero, List.set_cons_succ]
                    obtain ⟨p11, hp11⟩ : ∃ p, p = (W6.drew).heap.size := ⟨_, rfl⟩
                    obtain ⟨Wgy1, hW1⟩ : ∃ W1, (W6.drew).alloc (.cells zS 27) = W1 := ⟨_, rfl⟩
                    refine wpAnyH_world hW1 ?_
                    have h9 : W6.heap.size = p11 := hp11.symm
                    simp only [h9]
                    clear h9
                    have ugy1 : Up (W6.drew) Wgy1 := by rw [← hW1]; exact (Up.refl _).alloc _
                    have ep11 : Wgy1.heap[p11]? = some (.cells zS 27 (0, 0)) := by rw [hp11, ← hW1]; exact heap_alloc_new _ _
                    have lp11 : W6.heap.size ≤ p11 := by rw [hp11]; exact Ugy0.size
                    have Ugy1 := Ugy0.trans ugy1
                    clear hHeld hW1 hp11
                    have hSS := Ugy1
                    refine wpAnyH_ready (rs := [1]) (by kernel_rfl) (by simp) ?_
                    refine AllReadyH.cons rfl (fun K hK => ?_) AllReadyH.nil
                    simp only [List.getElem_toArray, List.getElem_cons_zero, List.getElem_cons_succ]
                    go_simp
                    refine Calls.mono (HC3.out _ Ugy1) ?_
                    rintro r9 Wgy2 ⟨v1, rfl, f1, ugy2⟩
                    go_simp
                    have Ugy2 := Ugy1.trans ugy2
                    have ep11 := ugy2.heap ep11
                    refine hK.out _ _ ?_ (fun hHeld => ?_)
                    · exact Ugy2
                    clear hK K
                    try simp only [Act.put, List.setIfInBounds_toArray, List.set_cons_zero, List.set_cons_succ]
                    have hSS := Ugy2
                    refine wpAnyH_ready (rs := [3]) (by kernel_rfl) (by simp) ?_
                    refine AllReadyH.cons rfl (fun K hK => ?_) AllReadyH.nil
                    simp only [List.getElem_toArray, List.getElem_cons_zero, List.getElem_cons_succ]
                    go_simp
                    refine Calls.mono (HCE.out _ (HU.trans Ugy2)) ?_
                    rintro r9 Wgy3 ⟨vn, rfl, f2, ugy3⟩
                    go_simp
                    have Ugy3 := Ugy2.trans ugy3
                    have ep11 := ugy3.heap ep11
                    have f1 := f1.up ugy3
                    refine hK.out _ _ ?_ (fun hHeld => ?_)
                    · exact Ugy3
                    clear hK K
                    try simp only [Act.put, List.setIfInBounds_toArray, List.set_cons_zero, List.set_cons_succ]
                    have hSS := Ugy3
                    refine wpAnyH_ready (rs := [4]) (by kernel_rfl) (by simp) ?_
                    refine AllReadyH.cons rfl (fun K hK => ?_) AllReadyH.nil
                    simp only [List.getElem_toArray, List.getElem_cons_zero, List.getElem_cons_succ]
                    go_simp
                    refine Calls.mono (HR3.out _ _ _ (HU.trans Ugy3) (SO.sl f1) (IRow.il f2)) ?_
                    rintro r9 Wgy4 ⟨X, rfl, h1X, h2X, f3, ugy4⟩
                    have f3 := f3.less (HU.trans Ugy3).size
                    go_simp
                    have Ugy4 := Ugy3.trans ugy4
                    have ep11 := ugy4.heap ep11
                    have f1 := f1.up ugy4
                    have f2 := row_up f2 ugy4
                    refine hK.out _ _ ?_ (fun hHeld => ?_)
                    · exact Ugy4
                    clear hK K
                    try simp only [Act.put, List.setIfInBounds_toArray, List.set_cons_zero, List.set_cons_succ]
                    have hSS := Ugy4
                    refine wpAnyH_take (i := 5) (v := ?_) rfl (by kernel_rfl) (by kernel_rfl) (by kernel_rfl) (fun _ _ _ h => h) (Or.inl ⟨by rfl, ?_⟩) (by assumption) ?_
                    rotate_left
                    · intro w9 hSw
                      go_simp
                      try with_reducible rfl
                    simp only [Act.put, List.setIfInBounds_toArray, List.set_cons_zero, List.set_cons_succ, List.getElem_toArray, List.getElem_cons_zero, List.getElem_cons_succ]
                    refine wpAnyH_take (i := 6) (v := ?_) rfl (by kernel_rfl) (by kernel_rfl) (by kernel_rfl) (fun _ _ _ h => h) (Or.inl ⟨by rfl, ?_⟩) (by assumption) ?_
                    rotate_left
                    · intro w9 hSw
                      go_simp
                      try with_reducible rfl
                    simp only [Act.put, List.setIfInBounds_toArray, List.set_cons_zero, List.set_cons_succ, List.getElem_toArray, List.getElem_cons_zero, List.getElem_cons_succ]
                    refine wpAnyH_take (i := 7) (v := ?_) rfl (by kernel_rfl) (by kernel_rfl) (by kernel_rfl) (fun _ _ _ h => h) (Or.inl ⟨by rfl, ?_⟩) (by assumption) ?_
                    rotate_left
                    · intro w9 hSw
                      go_simp
                      try with_reducible rfl
                    simp only [Act.put, List.setIfInBounds_toArray, List.set_cons_zero, List.set_cons_succ, List.getElem_toArray, List.getElem_cons_zero, List.getElem_cons_succ]
                    refine wpAnyH_ready (rs := [9]) (by kernel_rfl) (by simp) ?_
                    refine AllReadyH.cons rfl (fun K hK => ?_) AllReadyH.nil
                    simp only [List.getElem_toArray, List.getElem_cons_zero, List.getElem_cons_succ]
                    refine stepH_store (by rfl) 27 (.tmp 11) (.tmp 95) (by rfl) p11 X (by rfl) (by rfl) 27 zS ep11 (by rw [h1X]; exact infoSt) (by rw [h1X]; rfl) (h2X) ?_
                    refine hK.out _ _ ?_ (fun hHeld => ?_)
                    · exact up_setRow Ugy4 lp11 _
                    clear hK K
                    simp only [Act.put]
                    obtain ⟨Wgy5, hW1⟩ : ∃ W1, (Wgy4).setRow p11 X = W1 := ⟨_, rfl⟩
                    refine wpAnyH_world hW1 ?_
                    have Ugy5 : Up W6 Wgy5 := by rw [← hW1]; exact up_setRow Ugy4 lp11 _
                    have f3 := SOA.setRow (C := X) f3 ep11
                    rw [hW1] at f3
                    have ep11 : Wgy5.heap[p11]? = some (.cells X 27 (0, 0)) := by rw [← hW1]; exact setRow_heap _ _ _ _ _ _ ep11
                    clear hHeld hW1
                    have hSS := Ugy5
                    refine wpAnyH_take (i := 10) (v := ?_) rfl (by kernel_rfl) (by kernel_rfl) (by kernel_rfl) (fun _ _ _ h => h) (Or.inl ⟨by rfl, ?_⟩) (by assumption) ?_
                    rotate_left
                    · intro w9 hSw
                      go_simp
                      try with_reducible rfl
                    simp only [Act.put, List.setIfInBounds_toArray, List.set_cons_zero, List.set_cons_succ, List.getElem_toArray, List.getElem_cons_zero, List.getElem_cons_succ]
                    refine wpAnyH_done (by kernel_rfl) ?_ _
                    exact key14 Wgy5 p11 X v1 vn Ugy5 ep11 f3 h1X h2X
                case kp14y =>
                  intro W7 p11 X v9 vn9 U7 hX fX h1X h2X
                  have hA := U7.heap hA
                  have hD := U7.heap hD
                  have fD := fD.up U7
                  have HU := HU.trans U7
                  clear U7 HC3 HR3
                  go_wp2_with (first | (refine wpList_load_rowG (by rfl) 27 (.tmp 11) (by rfl) p11 (by rfl) 27 X (0, 0) _ hX Tryz.underlying27 (by rfl) (by rw [h1X]; exact infoSt) ?_) | (refine wpList_load_rowG (by rfl) 27 (.tmp 2) (by rfl) w.heap.size (by rfl) 27 A (0, 0) _ hA Tryz.underlying27 (by rfl) (by rw [hA1]; exact infoSt) ?_))
                  refine Calls.mono (eqState_ (.agg X) (.agg A) s s _ (SO.sl (SOA.so fX)) (by rw [HAV.out]; exact HST.out.up HU) HSM.out (eqS_self s)) ?_
                  rintro r W8 ⟨rfl, u6⟩
                  have hA := u6.heap hA
                  have hD := u6.heap hD
                  have hX := u6.heap hX
                  have fD := fD.up u6
                  have fX := fX.up u6
                  have HU := HU.trans u6
                  clear u6
                  go_wp2_with (first | (refine wpList_load_rowG (by rfl) 27 (.tmp 7) (by rfl) p7 (by rfl) 27 D (0, 0) _ hD Tryz.underlying27 (by rfl) (by rw [h1D]; exact infoSt) ?_))
                  refine Calls.mono (mayT (may_ (.agg D) sb _ (SO.sl (SOA.so fD)) HSA.out) HOA.out) ?_
                  rintro r W9 ⟨rfl, u7⟩
                  have hA := u7.heap hA
                  have hD := u7.heap hD
                  have hX := u7.heap hX
                  have fD := fD.up u7
                  have fX := fX.up u7
                  have HU := HU.trans u7
                  clear u7
                  go_wp2_with (first | (refine wpList_load_rowG (by rfl) 27 (.tmp 2) (by rfl) w.heap.size (by rfl) 27 A (0, 0) _ hA Tryz.underlying27 (by rfl) (by rw [hA1]; exact infoSt) ?_) | (refine wpList_load_rowG (by rfl) 27 (.tmp 7) (by rfl) p7 (by rfl) 27 D (0, 0) _ hD Tryz.underlying27 (by rfl) (by rw [h1D]; exact infoSt) ?_))
                  refine Calls.mono (sameCards_ (.agg A) (.agg D) s sb _ (by rw [HAV.out]; exact HST.out.up HU) (SO.sl (SOA.so fD)) HOA.out HKA.out) ?_
                  rintro r W10 ⟨rfl, u8⟩
                  have hA := u8.heap hA
                  have hD := u8.heap hD
                  have hX := u8.heap hX
                  have fD := fD.up u8
                  have fX := fX.up u8
                  have HU := HU.trans u8
                  clear u8
                  go_wp2_with fail
                  refine Calls.mono (HLV.out _) ?_
                  rintro r WZ ⟨rfl, uZ⟩
                  have HZ : Hid (Up w WZ) := HU.trans uZ
                  clear uZ HU
                  go_wp2
                  go_ret
                  exact ⟨rfl, HZ.out⟩
              · have hs2 : o2 = some (.inl 0) := by rw [HO.out.2]; unfold bckO; rw [if_pos hok]; show some (bck [e] 1 s) = _; rw [show bck [e] 1 s = (if okB e && leadB s e then .inr (aheadS s e) else .inl 0) from rfl, if_neg hld]
                have fD : SOA w.heap.size W6 (.agg D) noS := by rw [hs2] at fD; exact fD
                rw [hs2] at hg2
                have hg2' : g2 = 11 := hg2
                clear hg2
                subst hg2'
                clear hs2
                go_wp2_with (first | (refine wpList_load_rowG (by rfl) 27 (.tmp 7) (by rfl) p7 (by rfl) 27 D (0, 0) _ hD Tryz.underlying27 (by rfl) (by rw [h1D]; exact infoSt) ?_))
                refine Calls.mono (eqState_ (.agg D) _ noS noS _ (SO.sl (SOA.so fD)) (SO.sl (SOA.so (noS_soa 0 _))) small_noS (eqS_self noS)) ?_
                rintro r W7 ⟨rfl, u9⟩
                have HU := HU.trans u9
                clear u9
                go_wp2_with fail
                refine Calls.mono (HLV.out _) ?_
                rintro r WZ ⟨rfl, uZ⟩
                have HZ : Hid (Up w WZ) := HU.trans uZ
                clear uZ HU
                go_wp2
                go_ret
                exact ⟨rfl, HZ.out⟩
          · have hs1 : o1 = some (.inl 0) := by rw [HO.out.1]; unfold repO; rw [if_pos hok]; show some (if okB e && fitB s e then repl (behindS s e) [] 1 else .inl 0) = _; rw [if_neg hft]
            have fC : SOA w.heap.size W5 (.agg C) noS := by rw [hs1] at fC; exact fC
            rw [hs1] at hg1
            have hg1' : g1 = 11 := hg1
            clear hg1
            subst hg1'
            clear hs1
            go_wp2_with (first | (refine wpList_load_rowG (by rfl) 27 (.tmp 5) (by rfl) p5 (by rfl) 27 C (0, 0) _ hC Tryz.underlying27 (by rfl) (by rw [h1C]; exact infoSt) ?_))
            refine Calls.mono (eqState_ (.agg C) _ noS noS _ (SO.sl (SOA.so fC)) (SO.sl (SOA.so (noS_soa 0 _))) small_noS (eqS_self noS)) ?_
            rintro r W6 ⟨rfl, u10⟩
            have hA := u10.heap hA
            have hE := u10.heap hE
            have hC := u10.heap hC
            have hD := u10.heap hD
            have fD := fD.up u10
            have HU := HU.trans u10
            clear u10
            clear hC fC h1C h2C
            have hg2 := HG2x.out
            by_cases hld : (okB e && leadB s e) = true
            · have hs2 : o2 = some (.inr (aheadS s e)) := by rw [HO.out.2]; unfold bckO; rw [if_pos hok]; show some (bck [e] 1 s) = _; rw [show bck [e] 1 s = (if okB e && leadB s e then .inr (aheadS s e) else .inl 0) from rfl, if_pos hld]
              have hahead := ok_ahead hok hld
              have hbt := back_there hok (by have h9 := hld; unfold okB at h9; simp only [Bool.and_eq_true] at h9; exact h9.1.1) (by simp only [Bool.and_eq_true] at hld; exact hld.2)
              have hr3 : repO (aheadS s e) [e] = some (.inr s) := by
                unfold repO
                rw [if_pos hahead]
                show some (if okB e && fitB (aheadS s e) e then repl (behindS (aheadS s e) e) [] 1 else .inl 0) = _
                rw [hbt.1, hbt.2, if_pos (by rw [Bool.and_true]; simp only [Bool.and_eq_true] at hld; exact hld.1)]
                rfl
              have HR3 : Hid (∀ (W : World) (v vn : Value), Up w W → StL W v (aheadS s e) → IL W vn e.ord → Calls Tryz.prog 12 #[v, evv e vn] W (ApS s W)) := fun W v vn u h1 h2 => by
                have h9 := apply_ v vn (aheadS s e) e W h1 (small_ok hahead) h2 hn
                rw [hr3] at h9
                exact h9.mono fun e w' h => aps_of h
              have HSA : Hid (Small (aheadS s e)) := small_ok hahead
              have HKA : Hid (Keeps s (aheadS s e)) := keeps_ahead s e
              have HOA : Hid (ff (aheadS s e) = none) := hahead
              have fD : SOA w.heap.size W6 (.agg D) (aheadS s e) := by rw [hs2] at fD; exact fD
              rw [hs2] at hg2
              clear hs2 hbt hr3 hahead
              generalize aheadS s e = sb at *
              have hg2' : g2 = 0 := hg2
              clear hg2
              subst hg2'
              have HC3 : Hid (∀ W, Up W6 W → Calls Tryz.prog 40 #[.agg D] W (CpPost W fun W' v => SO W.heap.size W' v sb)) := fun W u => copyState_ (.agg D) sb W (SO.sl (SOA.so (fD.up u))) HSA.out
              go_wp2_with fail
              refine (fun key14 : ∀ (W : World) (p : Nat) (C : Array Value) (v1 vn : Value), Up W6 W → W.heap[p]? = some (.cells C 27 (0, 0)) → SOA w.heap.size W (.agg C) s → C.size = 7 → C.all (·.oneCell') = true → (?G14n : World → Nat → Array Value → Value → Value → Prop) W p C v1 vn => ?main14n) ?kp14n
              case main14n =>
                refine wp_region_held_drew (S := fun W9 => Up W6 W9) (by kernel_rfl) (Up.drew (Up.refl _)) (fun hHeld => ?_)
                have Ugn0 : Up W6 W6.drew := Up.drew (Up.refl _)
                refine wpAnyH_take (i := 0) (v := ?_) rfl (by kernel_rfl) (by kernel_rfl) (by kernel_rfl) (fun _ _ _ h => h) (Or.inl ⟨by rfl, ?_⟩) (by assumption) ?_
                rotate_left
                · intro w9 hSw
                  refine (exec_load_row 27 (.tmp 7) (by rfl) p7 (by rfl) 27 D (0, 0) _ Tryz.underlying27 (by rfl) (by rw [h1D]; exact infoSt) w9 (hSw.heap hD)).trans ?_
                  with_reducible rfl
                simp only [Act.put, List.setIfInBounds_toArray, List.set_cons_zero, List.set_cons_succ, List.getElem_toArray, List.getElem_cons_zero]
                refine wpAnyH_take (i := 2) (v := ?_) rfl (by kernel_rfl) (by kernel_rfl) (by kernel_rfl) (fun _ _ _ h => h) (Or.inl ⟨by rfl, ?_⟩) (by assumption) ?_
                rotate_left
                · intro w9 hSw
                  refine (exec_load_row 30 (.tmp 3) (by rfl) (w.heap.size + 1) (by rfl) 30 (evc e vo) (0, 0) _ Tryz.underlying30 (by rfl) infoEv w9 (hSw.heap hE)).trans ?_
                  with_reducible rfl
                simp only [Act.put, List.setIfInBounds_toArray, List.set_cons_zero, List.set_cons_succ, List.getElem_toArray, List.getElem_cons_zero, List.getElem_cons_succ]
                refine wpAnyH_ready (rs := [1, 8]) (by kernel_rfl) (by simp) ?_
                refine AllReadyH.cons rfl (fun K hK => ?_) (AllReadyH.cons rfl (fun K hK => ?_) AllReadyH.nil)
                · simp only [List.getElem_toArray, List.getElem_cons_zero, List.getElem_cons_succ]
                  go_simp
                  refine Calls.mono (HC3.out _ Ugn0) ?_
                  rintro r9 Wgn1 ⟨v1, rfl, f1, ugn1⟩
                  go_simp
                  have Ugn1 := Ugn0.trans ugn1
                  refine hK.out _ _ ?_ (fun hHeld => ?_)
                  · exact Ugn1
                  clear hK K
                  try simp only [Act.put, List.setIfInBounds_toArray, List.set_cons_zero, List.set_cons_succ]
                  have hSS := Ugn1
                  refine wpAnyH_ready (rs := [3, 8]) (by kernel_rfl) (by simp) ?_
                  refine AllReadyH.cons rfl (fun K hK => ?_) (AllReadyH.cons rfl (fun K hK => ?_) AllReadyH.nil)
                  · simp only [List.getElem_toArray, List.getElem_cons_zero, List.getElem_cons_succ]
                    go_simp
                    refine Calls.mono (HCE.out _ (HU.trans Ugn1)) ?_
                    rintro r9 Wgn2 ⟨vn, rfl, f2, ugn2⟩
                    go_simp
                    have Ugn2 := Ugn1.trans ugn2
                    have f1 := f1.up ugn2
                    refine hK.out _ _ ?_ (fun hHeld => ?_)
                    · exact Ugn2
                    clear hK K
                    try simp only [Act.put, List.setIfInBounds_toArray, List.set_cons_zero, List.set_cons_succ]
                    have hSS := Ugn2
                    refine wpAnyH_ready (rs := [4, 8]) (by kernel_rfl) (by simp) ?_
                    refine AllReadyH.cons rfl (fun K hK => ?_) (AllReadyH.cons rfl (fun K hK => ?_) AllReadyH.nil)
                    · simp only [List.getElem_toArray, List.getElem_cons_zero, List.getElem_cons_succ]
                      go_simp
                      refine Calls.mono (HR3.out _ _ _ (HU.trans Ugn2) (SO.sl f1) (IRow.il f2)) ?_
                      rintro r9 Wgn3 ⟨X, rfl, h1X, h2X, f3, ugn3⟩
                      have f3 := f3.less (HU.trans Ugn2).size
                      go_simp
                      have Ugn3 := Ugn2.trans ugn3
                      have f1 := f1.up ugn3
                      have f2 := row_up f2 ugn3
                      refine hK.out _ _ ?_ (fun hHeld => ?_)
                      · exact Ugn3
                      clear hK K
                      try simp only [Act.put, List.setIfInBounds_toArray, List.set_cons_zero, List.set_cons_succ]
                      have hSS := Ugn3
                      refine wpAnyH_take (i := 5) (v := ?_) rfl (by kernel_rfl) (by kernel_rfl) (by kernel_rfl) (fun _ _ _ h => h) (Or.inl ⟨by rfl, ?_⟩) (by assumption) ?_
                      rotate_left
                      · intro w9 hSw
                        go_simp
                        try with_reducible rfl
                      simp only [Act.put, List.setIfInBounds_toArray, List.set_cons_zero, List.set_cons_succ, List.getElem_toArray, List.getElem_cons_zero, List.getElem_cons_succ]
                      refine wpAnyH_take (i := 6) (v := ?_) rfl (by kernel_rfl) (by kernel_rfl) (by kernel_rfl) (fun _ _ _ h => h) (Or.inl ⟨by rfl, ?_⟩) (by assumption) ?_
                      rotate_left
                      · intro w9 hSw
                        go_simp
                        try with_reducible rfl
                      simp only [Act.put, List.setIfInBounds_toArray, List.set_cons_zero, List.set_cons_succ, List.getElem_toArray, List.getElem_cons_zero, List.getElem_cons_succ]
                      refine wpAnyH_take (i := 7) (v := ?_) rfl (by kernel_rfl) (by kernel_rfl) (by kernel_rfl) (fun _ _ _ h => h) (Or.inl ⟨by rfl, ?_⟩) (by assumption) ?_
                      rotate_left
                      · intro w9 hSw
                        go_simp
                        try with_reducible rfl
                      simp only [Act.put, List.setIfInBounds_toArray, List.set_cons_zero, List.set_cons_succ, List.getElem_toArray, List.getElem_cons_zero, List.getElem_cons_succ]
                      refine wpAnyH_ready (rs := [8]) (by kernel_rfl) (by simp) ?_
                      refine AllReadyH.cons rfl (fun K hK => ?_) AllReadyH.nil
                      simp only [List.getElem_toArray, List.getElem_cons_zero, List.getElem_cons_succ]
                      go_simp
                      refine hK.out _ _ ?_ (fun hHeld => ?_)
                      · exact Ugn3.alloc _
                      clear hK K
                      try simp only [Act.put, List.setIfInBounds_toArray, List.set_cons_zero, List.set_cons_succ]
                      obtain ⟨p11, hp11⟩ : ∃ p, p = (Wgn3).heap.size := ⟨_, rfl⟩
                      obtain ⟨Wgn4, hW1⟩ : ∃ W1, (Wgn3).alloc (.cells zS 27) = W1 := ⟨_, rfl⟩
                      refine wpAnyH_world hW1 ?_
                      have h9 : Wgn3.heap.size = p11 := hp11.symm
                      simp only [h9]
                      clear h9
                      have ugn4 : Up (Wgn3) Wgn4 := by rw [← hW1]; exact (Up.refl _).alloc _
                      have ep11 : Wgn4.heap[p11]? = some (.cells zS 27 (0, 0)) := by rw [hp11, ← hW1]; exact heap_alloc_new _ _
                      have lp11 : W6.heap.size ≤ p11 := by rw [hp11]; exact Ugn3.size
                      have Ugn4 := Ugn3.trans ugn4
                      have f1 := f1.up ugn4
                      have f2 := row_up f2 ugn4
                      have f3 := f3.up ugn4
                      clear hHeld hW1 hp11
                      have hSS := Ugn4
                      refine wpAnyH_ready (rs := [9]) (by kernel_rfl) (by simp) ?_
                      refine AllReadyH.cons rfl (fun K hK => ?_) AllReadyH.nil
                      simp only [List.getElem_toArray, List.getElem_cons_zero, List.getElem_cons_succ]
                      refine stepH_store (by rfl) 27 (.tmp 11) (.tmp 95) (by rfl) p11 X (by rfl) (by rfl) 27 zS ep11 (by rw [h1X]; exact infoSt) (by rw [h1X]; rfl) (h2X) ?_
                      refine hK.out _ _ ?_ (fun hHeld => ?_)
                      · exact up_setRow Ugn4 lp11 _
                      clear hK K
                      simp only [Act.put]
                      obtain ⟨Wgn5, hW1⟩ : ∃ W1, (Wgn4).setRow p11 X = W1 := ⟨_, rfl⟩
                      refine wpAnyH_world hW1 ?_
                      have Ugn5 : Up W6 Wgn5 := by rw [← hW1]; exact up_setRow Ugn4 lp11 _
                      have f3 := SOA.setRow (C := X) f3 ep11
                      rw [hW1] at f3
                      have ep11 : Wgn5.heap[p11]? = some (.cells X 27 (0, 0)) := by rw [← hW1]; exact setRow_heap _ _ _ _ _ _ ep11
                      clear hHeld hW1
                      have hSS := Ugn5
                      refine wpAnyH_take (i := 10) (v := ?_) rfl (by kernel_rfl) (by kernel_rfl) (by kernel_rfl) (fun _ _ _ h => h) (Or.inl ⟨by rfl, ?_⟩) (by assumption) ?_
                      rotate_left
                      · intro w9 hSw
                        go_simp
                        try with_reducible rfl
                      simp only [Act.put, List.setIfInBounds_toArray, List.set_cons_zero, List.set_cons_succ, List.getElem_toArray, List.getElem_cons_zero, List.getElem_cons_succ]
                      refine wpAnyH_done (by kernel_rfl) ?_ _
                      exact key14 Wgn5 p11 X v1 vn Ugn5 ep11 f3 h1X h2X
                    · simp only [List.getElem_toArray, List.getElem_cons_zero, List.getElem_cons_succ]
                      go_simp
                      refine hK.out _ _ ?_ (fun hHeld => ?_)
                      · exact Ugn2.alloc _
                      clear hK K
                      try simp only [Act.put, List.setIfInBounds_toArray, List.set_cons_zero, List.set_cons_succ]
                      obtain ⟨p11, hp11⟩ : ∃ p, p = (Wgn2).heap.size := ⟨_, rfl⟩
                      obtain ⟨Wgn3, hW1⟩ : ∃ W1, (Wgn2).alloc (.cells zS 27) = W1 := ⟨_, rfl⟩
                      refine wpAnyH_world hW1 ?_
                      have h9 : Wgn2.heap.size = p11 := hp11.symm
                      simp only [h9]
                      clear h9
                      have ugn3 : Up (Wgn2) Wgn3 := by rw [← hW1]; exact (Up.refl _).alloc _
                      have ep11 : Wgn3.heap[p11]? = some (.cells zS 27 (0, 0)) := by rw [hp11, ← hW1]; exact heap_alloc_new _ _
                      have lp11 : W6.heap.size ≤ p11 := by rw [hp11]; exact Ugn2.size
                      have Ugn3 := Ugn2.trans ugn3
                      have f1 := f1.up ugn3
                      have f2 := row_up f2 ugn3
                      clear hHeld hW1 hp11
                      have hSS := Ugn3
                      refine wpAnyH_ready (rs := [4]) (by kernel_rfl) (by simp) ?_
                      refine AllReadyH.cons rfl (fun K hK => ?_) AllReadyH.nil
                      simp only [List.getElem_toArray, List.getElem_cons_zero, List.getElem_cons_succ]
                      go_simp
                      refine Calls.mono (HR3.out _ _ _ (HU.trans Ugn3) (SO.sl f1) (IRow.il f2)) ?_
                      rintro r9 Wgn4 ⟨X, rfl, h1X, h2X, f3, ugn4⟩
                      have f3 := f3.less (HU.trans Ugn3).size
                      go_simp
                      have Ugn4 := Ugn3.trans ugn4
                      have f1 := f1.up ugn4
                      have f2 := row_up f2 ugn4
                      have ep11 := ugn4.heap ep11
                      refine hK.out _ _ ?_ (fun hHeld => ?_)
                      · exact Ugn4
                      clear hK K
                      try simp only [Act.put, List.setIfInBounds_toArray, List.set_cons_zero, List.set_cons_succ]
                      have hSS := Ugn4
                      refine wpAnyH_take (i := 5) (v := ?_) rfl (by kernel_rfl) (by kernel_rfl) (by kernel_rfl) (fun _ _ _ h => h) (Or.inl ⟨by rfl, ?_⟩) (by assumption) ?_
                      rotate_left
                      · intro w9 hSw
                        go_simp
                        try with_reducible rfl
                      simp only [Act.put, List.setIfInBounds_toArray, List.set_cons_zero, List.set_cons_succ, List.getElem_toArray, List.getElem_cons_zero, List.getElem_cons_succ]
                      refine wpAnyH_take (i := 6) (v := ?_) rfl (by kernel_rfl) (by kernel_rfl) (by kernel_rfl) (fun _ _ _ h => h) (Or.inl ⟨by rfl, ?_⟩) (by assumption) ?_
                      rotate_left
                      · intro w9 hSw
                        go_simp
                        try with_reducible rfl
                      simp only [Act.put, List.setIfInBounds_toArray, List.set_cons_zero, List.set_cons_succ, List.getElem_toArray, List.getElem_cons_zero, List.getElem_cons_succ]
                      refine wpAnyH_take (i := 7) (v := ?_) rfl (by kernel_rfl) (by kernel_rfl) (by kernel_rfl) (fun _ _ _ h => h) (Or.inl ⟨by rfl, ?_⟩) (by assumption) ?_
                      rotate_left
                      · intro w9 hSw
                        go_simp
                        try with_reducible rfl
                      simp only [Act.put, List.setIfInBounds_toArray, List.set_cons_zero, List.set_cons_succ, List.getElem_toArray, List.getElem_cons_zero, List.getElem_cons_succ]
                      refine wpAnyH_ready (rs := [9]) (by kernel_rfl) (by simp) ?_
                      refine AllReadyH.cons rfl (fun K hK => ?_) AllReadyH.nil
                      simp only [List.getElem_toArray, List.getElem_cons_zero, List.getElem_cons_succ]
                      refine stepH_store (by rfl) 27 (.tmp 11) (.tmp 95) (by rfl) p11 X (by rfl) (by rfl) 27 zS ep11 (by rw [h1X]; exact infoSt) (by rw [h1X]; rfl) (h2X) ?_
                      refine hK.out _ _ ?_ (fun hHeld => ?_)
                      · exact up_setRow Ugn4 lp11 _
                      clear hK K
                      simp only [Act.put]
                      obtain ⟨Wgn5, hW1⟩ : ∃ W1, (Wgn4).setRow p11 X = W1 := ⟨_, rfl⟩
                      refine wpAnyH_world hW1 ?_
                      have Ugn5 : Up W6 Wgn5 := by rw [← hW1]; exact up_setRow Ugn4 lp11 _
                      have f3 := SOA.setRow (C := X) f3 ep11
                      rw [hW1] at f3
                      have ep11 : Wgn5.heap[p11]? = some (.cells X 27 (0, 0)) := by rw [← hW1]; exact setRow_heap _ _ _ _ _ _ ep11
                      clear hHeld hW1
                      have hSS := Ugn5
                      refine wpAnyH_take (i := 10) (v := ?_) rfl (by kernel_rfl) (by kernel_rfl) (by kernel_rfl) (fun _ _ _ h => h) (Or.inl ⟨by rfl, ?_⟩) (by assumption) ?_
                      rotate_left
                      · intro w9 hSw
                        go_simp
                        try with_reducible rfl
                      simp only [Act.put, List.setIfInBounds_toArray, List.set_cons_zero, List.set_cons_succ, List.getElem_toArray, List.getElem_cons_zero, List.getElem_cons_succ]
                      refine wpAnyH_done (by kernel_rfl) ?_ _
                      exact key14 Wgn5 p11 X v1 vn Ugn5 ep11 f3 h1X h2X
                  · simp only [List.getElem_toArray, List.getElem_cons_zero, List.getElem_cons_succ]
                    go_simp
                    refine hK.out _ _ ?_ (fun hHeld => ?_)
                    · exact Ugn1.alloc _
                    clear hK K
                    try simp only [Act.put, List.setIfInBounds_toArray, List.set_cons_zero, List.set_cons_succ]
                    obtain ⟨p11, hp11⟩ : ∃ p, p = (Wgn1).heap.size := ⟨_, rfl⟩
                    obtain ⟨Wgn2, hW1⟩ : ∃ W1, (Wgn1).alloc (.cells zS 27) = W1 := ⟨_, rfl⟩
                    refine wpAnyH_world hW1 ?_
                    have h9 : Wgn1.heap.size = p11 := hp11.symm
                    simp only [h9]
                    clear h9
                    have ugn2 : Up (Wgn1) Wgn2 := by rw [← hW1]; exact (Up.refl _).alloc _
                    have ep11 : Wgn2.heap[p11]? = some (.cells zS 27 (0, 0)) := by rw [hp11, ← hW1]; exact heap_alloc_new _ _
                    have lp11 : W6.heap.size ≤ p11 := by rw [hp11]; exact Ugn1.size
                    have Ugn2 := Ugn1.trans ugn2
                    have f1 := f1.up ugn2
                    clear hHeld hW1 hp11
                    have hSS := Ugn2
                    refine wpAnyH_ready (rs := [3]) (by kernel_rfl) (by simp) ?_
                    refine AllReadyH.cons rfl (fun K hK => ?_) AllReadyH.nil
                    simp only [List.getElem_toArray, List.getElem_cons_zero, List.getElem_cons_succ]
                    go_simp
                    refine Calls.mono (HCE.out _ (HU.trans Ugn2)) ?_
                    rintro r9 Wgn3 ⟨vn, rfl, f2, ugn3⟩
                    go_simp
                    have Ugn3 := Ugn2.trans ugn3
                    have f1 := f1.up ugn3
                    have ep11 := ugn3.heap ep11
                    refine hK.out _ _ ?_ (fun hHeld => ?_)
                    · exact Ugn3
                    clear hK K
                    try simp only [Act.put, List.setIfInBounds_toArray, List.set_cons_zero, List.set_cons_succ]
                    have hSS := Ugn3
                    refine wpAnyH_ready (rs := [4]) (by kernel_rfl) (by simp) ?_
                    refine AllReadyH.cons rfl (fun K hK => ?_) AllReadyH.nil
                    simp only [List.getElem_toArray, List.getElem_cons_zero, List.getElem_cons_succ]
                    go_simp
                    refine Calls.mono (HR3.out _ _ _ (HU.trans Ugn3) (SO.sl f1) (IRow.il f2)) ?_
                    rintro r9 Wgn4 ⟨X, rfl, h1X, h2X, f3, ugn4⟩
                    have f3 := f3.less (HU.trans Ugn3).size
                    go_simp
                    have Ugn4 := Ugn3.trans ugn4
                    have f1 := f1.up ugn4
                    have ep11 := ugn4.heap ep11
                    have f2 := row_up f2 ugn4
                    refine hK.out _ _ ?_ (fun hHeld => ?_)
                    · exact Ugn4
                    clear hK K
                    try simp only [Act.put, List.setIfInBounds_toArray, List.set_cons_zero, List.set_cons_succ]
                    have hSS := Ugn4
                    refine wpAnyH_take (i := 5) (v := ?_) rfl (by kernel_rfl) (by kernel_rfl) (by kernel_rfl) (fun _ _ _ h => h) (Or.inl ⟨by rfl, ?_⟩) (by assumption) ?_
                    rotate_left
                    · intro w9 hSw
                      go_simp
                      try with_reducible rfl
                    simp only [Act.put, List.setIfInBounds_toArray, List.set_cons_zero, List.set_cons_succ, List.getElem_toArray, List.getElem_cons_zero, List.getElem_cons_succ]
                    refine wpAnyH_take (i := 6) (v := ?_) rfl (by kernel_rfl) (by kernel_rfl) (by kernel_rfl) (fun _ _ _ h => h) (Or.inl ⟨by rfl, ?_⟩) (by assumption) ?_
                    rotate_left
                    · intro w9 hSw
                      go_simp
                      try with_reducible rfl
                    simp only [Act.put, List.setIfInBounds_toArray, List.set_cons_zero, List.set_cons_succ, List.getElem_toArray, List.getElem_cons_zero, List.getElem_cons_succ]
                    refine wpAnyH_take (i := 7) (v := ?_) rfl (by kernel_rfl) (by kernel_rfl) (by kernel_rfl) (fun _ _ _ h => h) (Or.inl ⟨by rfl, ?_⟩) (by assumption) ?_
                    rotate_left
                    · intro w9 hSw
                      go_simp
                      try with_reducible rfl
                    simp only [Act.put, List.setIfInBounds_toArray, List.set_cons_zero, List.set_cons_succ, List.getElem_toArray, List.getElem_cons_zero, List.getElem_cons_succ]
                    refine wpAnyH_ready (rs := [9]) (by kernel_rfl) (by simp) ?_
                    refine AllReadyH.cons rfl (fun K hK => ?_) AllReadyH.nil
                    simp only [List.getElem_toArray, List.getElem_cons_zero, List.getElem_cons_succ]
                    refine stepH_store (by rfl) 27 (.tmp 11) (.tmp 95) (by rfl) p11 X (by rfl) (by rfl) 27 zS ep11 (by rw [h1X]; exact infoSt) (by rw [h1X]; rfl) (h2X) ?_
                    refine hK.out _ _ ?_ (fun hHeld => ?_)
                    · exact up_setRow Ugn4 lp11 _
                    clear hK K
                    simp only [Act.put]
                    obtain ⟨Wgn5, hW1⟩ : ∃ W1, (Wgn4).setRow p11 X = W1 := ⟨_, rfl⟩
                    refine wpAnyH_world hW1 ?_
                    have Ugn5 : Up W6 Wgn5 := by rw [← hW1]; exact up_setRow Ugn4 lp11 _
                    have f3 := SOA.setRow (C := X) f3 ep11
                    rw [hW1] at f3
                    have ep11 : Wgn5.heap[p11]? = some (.cells X 27 (0, 0)) := by rw [← hW1]; exact setRow_heap _ _ _ _ _ _ ep11
                    clear hHeld hW1
                    have hSS := Ugn5
                    refine wpAnyH_take (i := 10) (v := ?_) rfl (by kernel_rfl) (by kernel_rfl) (by kernel_rfl) (fun _ _ _ h => h) (Or.inl ⟨by rfl, ?_⟩) (by assumption) ?_
                    rotate_left
                    · intro w9 hSw
                      go_simp
                      try with_reducible rfl
                    simp only [Act.put, List.setIfInBounds_toArray, List.set_cons_zero, List.set_cons_succ, List.getElem_toArray, List.getElem_cons_zero, List.getElem_cons_succ]
                    refine wpAnyH_done (by kernel_rfl) ?_ _
                    exact key14 Wgn5 p11 X v1 vn Ugn5 ep11 f3 h1X h2X
                · simp only [List.getElem_toArray, List.getElem_cons_zero, List.getElem_cons_succ]
                  go_simp
                  refine hK.out _ _ ?_ (fun hHeld => ?_)
                  · exact Ugn0.alloc _
                  clear hK K
                  try simp only [Act.put, List.setIfInBounds_toArray, List.set_cons_zero, List.set_cons_succ]
                  obtain ⟨p11, hp11⟩ : ∃ p, p = (W6.drew).heap.size := ⟨_, rfl⟩
                  obtain ⟨Wgn1, hW1⟩ : ∃ W1, (W6.drew).alloc (.cells zS 27) = W1 := ⟨_, rfl⟩
                  refine wpAnyH_world hW1 ?_
                  have h9 : W6.heap.size = p11 := hp11.symm
                  simp only [h9]
                  clear h9
                  have ugn1 : Up (W6.drew) Wgn1 := by rw [← hW1]; exact (Up.refl _).alloc _
                  have ep11 : Wgn1.heap[p11]? = some (.cells zS 27 (0, 0)) := by rw [hp11, ← hW1]; exact heap_alloc_new _ _
                  have lp11 : W6.heap.size ≤ p11 := by rw [hp11]; exact Ugn0.size
                  have Ugn1 := Ugn0.trans ugn1
                  clear hHeld hW1 hp11
                  have hSS := Ugn1
                  refine wpAnyH_ready (rs := [1]) (by kernel_rfl) (by simp) ?_
                  refine AllReadyH.cons rfl (fun K hK => ?_) AllReadyH.nil
                  simp only [List.getElem_toArray, List.getElem_cons_zero, List.getElem_cons_succ]
                  go_simp
                  refine Calls.mono (HC3.out _ Ugn1) ?_
                  rintro r9 Wgn2 ⟨v1, rfl, f1, ugn2⟩
                  go_simp
                  have Ugn2 := Ugn1.trans ugn2
                  have ep11 := ugn2.heap ep11
                  refine hK.out _ _ ?_ (fun hHeld => ?_)
                  · exact Ugn2
                  clear hK K
                  try simp only [Act.put, List.setIfInBounds_toArray, List.set_cons_zero, List.set_cons_succ]
                  have hSS := Ugn2
                  refine wpAnyH_ready (rs := [3]) (by kernel_rfl) (by simp) ?_
                  refine AllReadyH.cons rfl (fun K hK => ?_) AllReadyH.nil
                  simp only [List.getElem_toArray, List.getElem_cons_zero, List.getElem_cons_succ]
                  go_simp
                  refine Calls.mono (HCE.out _ (HU.trans Ugn2)) ?_
                  rintro r9 Wgn3 ⟨vn, rfl, f2, ugn3⟩
                  go_simp
                  have Ugn3 := Ugn2.trans ugn3
                  have ep11 := ugn3.heap ep11
                  have f1 := f1.up ugn3
                  refine hK.out _ _ ?_ (fun hHeld => ?_)
                  · exact Ugn3
                  clear hK K
                  try simp only [Act.put, List.setIfInBounds_toArray, List.set_cons_zero, List.set_cons_succ]
                  have hSS := Ugn3
                  refine wpAnyH_ready (rs := [4]) (by kernel_rfl) (by simp) ?_
                  refine AllReadyH.cons rfl (fun K hK => ?_) AllReadyH.nil
                  simp only [List.getElem_toArray, List.getElem_cons_zero, List.getElem_cons_succ]
                  go_simp
                  refine Calls.mono (HR3.out _ _ _ (HU.trans Ugn3) (SO.sl f1) (IRow.il f2)) ?_
                  rintro r9 Wgn4 ⟨X, rfl, h1X, h2X, f3, ugn4⟩
                  have f3 := f3.less (HU.trans Ugn3).size
                  go_simp
                  have Ugn4 := Ugn3.trans ugn4
                  have ep11 := ugn4.heap ep11
                  have f1 := f1.up ugn4
                  have f2 := row_up f2 ugn4
                  refine hK.out _ _ ?_ (fun hHeld => ?_)
                  · exact Ugn4
                  clear hK K
                  try simp only [Act.put, List.setIfInBounds_toArray, List.set_cons_zero, List.set_cons_succ]
                  have hSS := Ugn4
                  refine wpAnyH_take (i := 5) (v := ?_) rfl (by kernel_rfl) (by kernel_rfl) (by kernel_rfl) (fun _ _ _ h => h) (Or.inl ⟨by rfl, ?_⟩) (by assumption) ?_
                  rotate_left
                  · intro w9 hSw
                    go_simp
                    try with_reducible rfl
                  simp only [Act.put, List.setIfInBounds_toArray, List.set_cons_zero, List.set_cons_succ, List.getElem_toArray, List.getElem_cons_zero, List.getElem_cons_succ]
                  refine wpAnyH_take (i := 6) (v := ?_) rfl (by kernel_rfl) (by kernel_rfl) (by kernel_rfl) (fun _ _ _ h => h) (Or.inl ⟨by rfl, ?_⟩) (by assumption) ?_
                  rotate_left
                  · intro w9 hSw
                    go_simp
                    try with_reducible rfl
                  simp only [Act.put, List.setIfInBounds_toArray, List.set_cons_zero, List.set_cons_succ, List.getElem_toArray, List.getElem_cons_zero, List.getElem_cons_succ]
                  refine wpAnyH_take (i := 7) (v := ?_) rfl (by kernel_rfl) (by kernel_rfl) (by kernel_rfl) (fun _ _ _ h => h) (Or.inl ⟨by rfl, ?_⟩) (by assumption) ?_
                  rotate_left
                  · intro w9 hSw
                    go_simp
                    try with_reducible rfl
                  simp only [Act.put, List.setIfInBounds_toArray, List.set_cons_zero, List.set_cons_succ, List.getElem_toArray, List.getElem_cons_zero, List.getElem_cons_succ]
                  refine wpAnyH_ready (rs := [9]) (by kernel_rfl) (by simp) ?_
                  refine AllReadyH.cons rfl (fun K hK => ?_) AllReadyH.nil
                  simp only [List.getElem_toArray, List.getElem_cons_zero, List.getElem_cons_succ]
                  refine stepH_store (by rfl) 27 (.tmp 11) (.tmp 95) (by rfl) p11 X (by rfl) (by rfl) 27 zS ep11 (by rw [h1X]; exact infoSt) (by rw [h1X]; rfl) (h2X) ?_
                  refine hK.out _ _ ?_ (fun hHeld => ?_)
                  · exact up_setRow Ugn4 lp11 _
                  clear hK K
                  simp only [Act.put]
                  obtain ⟨Wgn5, hW1⟩ : ∃ W1, (Wgn4).setRow p11 X = W1 := ⟨_, rfl⟩
                  refine wpAnyH_world hW1 ?_
                  have Ugn5 : Up W6 Wgn5 := by rw [← hW1]; exact up_setRow Ugn4 lp11 _
                  have f3 := SOA.setRow (C := X) f3 ep11
                  rw [hW1] at f3
                  have ep11 : Wgn5.heap[p11]? = some (.cells X 27 (0, 0)) := by rw [← hW1]; exact setRow_heap _ _ _ _ _ _ ep11
                  clear hHeld hW1
                  have hSS := Ugn5
                  refine wpAnyH_take (i := 10) (v := ?_) rfl (by kernel_rfl) (by kernel_rfl) (by kernel_rfl) (fun _ _ _ h => h) (Or.inl ⟨by rfl, ?_⟩) (by assumption) ?_
                  rotate_left
                  · intro w9 hSw
                    go_simp
                    try with_reducible rfl
                  simp only [Act.put, List.setIfInBounds_toArray, List.set_cons_zero, List.set_cons_succ, List.getElem_toArray, List.getElem_cons_zero, List.getElem_cons_succ]
                  refine wpAnyH_done (by kernel_rfl) ?_ _
                  exact key14 Wgn5 p11 X v1 vn Ugn5 ep11 f3 h1X h2X
              case kp14n =>
                intro W7 p11 X v9 vn9 U7 hX fX h1X h2X
                have hA := U7.heap hA
                have hD := U7.heap hD
                have fD := fD.up U7
                have HU := HU.trans U7
                clear U7 HC3 HR3
                go_wp2_with (first | (refine wpList_load_rowG (by rfl) 27 (.tmp 11) (by rfl) p11 (by rfl) 27 X (0, 0) _ hX Tryz.underlying27 (by rfl) (by rw [h1X]; exact infoSt) ?_) | (refine wpList_load_rowG (by rfl) 27 (.tmp 2) (by rfl) w.heap.size (by rfl) 27 A (0, 0) _ hA Tryz.underlying27 (by rfl) (by rw [hA1]; exact infoSt) ?_))
                refine Calls.mono (eqState_ (.agg X) (.agg A) s s _ (SO.sl (SOA.so fX)) (by rw [HAV.out]; exact HST.out.up HU) HSM.out (eqS_self s)) ?_
                rintro r W8 ⟨rfl, u11⟩
                have hA := u11.heap hA
                have hD := u11.heap hD
                have hX := u11.heap hX
                have fD := fD.up u11
                have fX := fX.up u11
                have HU := HU.trans u11
                clear u11
                go_wp2_with (first | (refine wpList_load_rowG (by rfl) 27 (.tmp 7) (by rfl) p7 (by rfl) 27 D (0, 0) _ hD Tryz.underlying27 (by rfl) (by rw [h1D]; exact infoSt) ?_))
                refine Calls.mono (mayT (may_ (.agg D) sb _ (SO.sl (SOA.so fD)) HSA.out) HOA.out) ?_
                rintro r W9 ⟨rfl, u12⟩
                have hA := u12.heap hA
                have hD := u12.heap hD
                have hX := u12.heap hX
                have fD := fD.up u12
                have fX := fX.up u12
                have HU := HU.trans u12
                clear u12
                go_wp2_with (first | (refine wpList_load_rowG (by rfl) 27 (.tmp 2) (by rfl) w.heap.size (by rfl) 27 A (0, 0) _ hA Tryz.underlying27 (by rfl) (by rw [hA1]; exact infoSt) ?_) | (refine wpList_load_rowG (by rfl) 27 (.tmp 7) (by rfl) p7 (by rfl) 27 D (0, 0) _ hD Tryz.underlying27 (by rfl) (by rw [h1D]; exact infoSt) ?_))
                refine Calls.mono (sameCards_ (.agg A) (.agg D) s sb _ (by rw [HAV.out]; exact HST.out.up HU) (SO.sl (SOA.so fD)) HOA.out HKA.out) ?_
                rintro r W10 ⟨rfl, u13⟩
                have hA := u13.heap hA
                have hD := u13.heap hD
                have hX := u13.heap hX
                have fD := fD.up u13
                have fX := fX.up u13
                have HU := HU.trans u13
                clear u13
                go_wp2_with fail
                refine Calls.mono (HLV.out _) ?_
                rintro r WZ ⟨rfl, uZ⟩
                have HZ : Hid (Up w WZ) := HU.trans uZ
                clear uZ HU
                go_wp2
                go_ret
                exact ⟨rfl, HZ.out⟩
            · have hs2 : o2 = some (.inl 0) := by rw [HO.out.2]; unfold bckO; rw [if_pos hok]; show some (bck [e] 1 s) = _; rw [show bck [e] 1 s = (if okB e && leadB s e then .inr (aheadS s e) else .inl 0) from rfl, if_neg hld]
              have fD : SOA w.heap.size W6 (.agg D) noS := by rw [hs2] at fD; exact fD
              rw [hs2] at hg2
              have hg2' : g2 = 11 := hg2
              clear hg2
              subst hg2'
              clear hs2
              go_wp2_with (first | (refine wpList_load_rowG (by rfl) 27 (.tmp 7) (by rfl) p7 (by rfl) 27 D (0, 0) _ hD Tryz.underlying27 (by rfl) (by rw [h1D]; exact infoSt) ?_))
              refine Calls.mono (eqState_ (.agg D) _ noS noS _ (SO.sl (SOA.so fD)) (SO.sl (SOA.so (noS_soa 0 _))) small_noS (eqS_self noS)) ?_
              rintro r W7 ⟨rfl, u14⟩
              have HU := HU.trans u14
              clear u14
              go_wp2_with fail
              refine Calls.mono (HLV.out _) ?_
              rintro r WZ ⟨rfl, uZ⟩
              have HZ : Hid (Up w WZ) := HU.trans uZ
              clear uZ HU
              go_wp2
              go_ret
              exact ⟨rfl, HZ.out⟩
        · simp only [hok, decide_false] at HMA
          go_wp2_with (first | (refine wpList_load_row (by rfl) 27 (.tmp 2) (by rfl) w.heap.size (by rfl) 27 A (0, 0) _ hA Tryz.underlying27 (by rfl) (by rw [hA1]; exact infoSt) ?_))
          refine Calls.mono (HMA.out _ HU) ?_
          rintro r W5 ⟨rfl, u15⟩
          have HU := HU.trans u15
          clear u15
          have hg1 : g1 = 10 := by have h9 := HG1x.out; rw [HO.out.1] at h9; unfold repO at h9; rw [if_neg hok] at h9; exact h9
          have hg2 : g2 = 10 := by have h9 := HG2x.out; rw [HO.out.2] at h9; unfold bckO at h9; rw [if_neg hok] at h9; exact h9
          subst hg1
          subst hg2
          go_wp2_with fail
          refine Calls.mono (HLV.out _) ?_
          rintro r WZ ⟨rfl, uZ⟩
          have HZ : Hid (Up w WZ) := HU.trans uZ
          clear uZ HU
          go_wp2
          go_ret
          exact ⟨rfl, HZ.out⟩
end DE
end Go.Proofs.YtabflfcdndioiaaGreatDoor
