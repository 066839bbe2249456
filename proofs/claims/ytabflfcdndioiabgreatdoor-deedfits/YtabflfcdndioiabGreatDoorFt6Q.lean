/-
  DeedFits: what a deed answers fits.
-/
import Derived.Test.YtabflfcdndioiabGreatDoorMo6ToAt6
import Derived.Test.YtabflfcdndioiabGreatDoorLv6Q
import Derived.Test.YtabflfcdndioiabGreatDoorSzToEg
import Derived.Test.YtabflfcdndioiabGreatDoorEe6Q
namespace Go.Proofs.YtabflfcdndioiabGreatDoor
open Go.RowKit
attribute [local go_sem ↓] Go.wp_at_zero Go.wp_at_succ

namespace DE
open Go.Proofs.YtabflfcdndioiabGreatDoor.ST
theorem infoDo : (Tryz.prog.info? 30).map (·.size) = some 7 := by kernel_rfl
def oEv (l : List Int) : Ev := ⟨0, 0, 0, 0, 0, 0, 0, 0, 0, 0, 0, l⟩
theorem doc_set {W : World} {a : Nat} {d : DoT} {vo vn : Value} {t : TypeId} (h : W.heap[a]? = some (.cells (doc d vo) t (0, 0))) : (W.setCell ⟨a, 6, none⟩ vn).heap[a]? = some (.cells (doc d vn) t (0, 0)) := by
  rw [set_cells h]
  rfl
theorem doc_cells {W : World} {a : Nat} {d : DoT} {vo : Value} {t : TypeId} (h : W.heap[a]? = some (.cells (doc d vo) t (0, 0))) : ∀ j, W.cell? ⟨a, j, none⟩ = (doc d vo)[j]? := fun j => by simp [World.cell?, h]
set_option maxRecDepth 100000 in
set_option maxHeartbeats 3000000 in
theorem fitsW (v vo : Value) (s : Stt) (d : DoT) (w : World) (hv : StL w v s) (hf : Far s) (ho : IL w vo d.ord) (hn0 : d.ord.length ≤ 140737488355328) (hb1 : -9223372036854775808 ≤ d.by_) (hb2 : d.by_ ≤ 9223372036854775807) :
    Calls Tryz.prog 3 #[v, .agg (doc d vo)] w fun x w' => x = .returned (.bool true) ∧ Up w w' := by
  have HLV : Hid (∀ W, Calls Tryz.prog 11 #[] W fun x w' => x = .returned (.bool true) ∧ Up W w') := lives_
  have HBY : Hid (∀ W g, Up w W → W.heap[g]? = some (.cells (evc (oEv d.ord) vo) 33 (0, 0)) → Calls Tryz.prog 6 #[v, .slice (some ⟨g, 0, none⟩) 1 1] W fun x w' => x = .returned (.bool (decide (2147483647 < lenS s + lenE [oEv d.ord]))) ∧ Up W w') := fun W g u hg =>
    beyond_ v _ s [oEv d.ord] W (hv.up u) hf (evs_one hg (ho.up u)) ⟨by simp, fun r hr => by
      simp only [List.length_singleton] at hr
      obtain rfl : r = 0 := by omega
      exact hn0⟩
  have HST : Hid (StL w v s) := hv
  have HIL : Hid (IL w vo d.ord) := ho
  obtain ⟨oa, oc, hvo, -, -⟩ := il_at ho
  obtain ⟨vp, vc, vz, hvv, h1, h2, h3⟩ := hv
  obtain ⟨a1, k1, rfl, -, -⟩ := lc_at h1
  obtain ⟨a2, k2, rfl, -, -⟩ := lc_at h2
  obtain ⟨a3, k3, rfl, -, -⟩ := zl_at h3
  unfold sv at hvv
  clear h1 h2 h3 ho
  obtain ⟨A, hA0⟩ : ∃ A : Array Value, A = #[.slice a1 s.ps.length k1, .slice a2 s.cs.length k2, .slice a3 s.zs.length k3, .int .i32 s.turn, .int .i64 s.whose, .int .i8 s.fin, .int .i64 s.winner] := ⟨_, rfl⟩
  have hA1 : A.size = 7 := by rw [hA0]; rfl
  rw [← hA0] at hvv
  obtain ⟨W1, hW1⟩ : ∃ W1, ((w.alloc (.cells A 27)).alloc (.cells (doc d vo) 30)).alloc (.cells (evc (oEv d.ord) vo) 33) = W1 := ⟨_, rfl⟩
  have hA : W1.heap[w.heap.size]? = some (.cells A 27 (0, 0)) := by rw [← hW1, Below.heap_alloc _ _ _ (by simp; omega)]; exact heap_alloc2_old _ _ _
  have hD : W1.heap[w.heap.size + 1]? = some (.cells (doc d vo) 30 (0, 0)) := by rw [← hW1, Below.heap_alloc _ _ _ (by simp)]; exact heap_alloc2_new _ _ _
  have hB : W1.heap[w.heap.size + 1 + 1]? = some (.cells (evc (oEv d.ord) vo) 33 (0, 0)) := by
    rw [← hW1]
    have := heap_alloc_new ((w.alloc (.cells A 27)).alloc (.cells (doc d vo) 30)) (.cells (evc (oEv d.ord) vo) 33)
    simpa using this
  have HU : Up w W1 := by rw [← hW1]; exact (((Up.refl _).alloc _).alloc _).alloc _
  have HBC : Hid _ := HBY.out W1 (w.heap.size + 1 + 1) HU hB
  have HAV : Hid (Value.agg A = v) := hvv.symm
  subst hvo
  clear HBY hB
  rw [hA0] at hW1
  unfold evc oEv doc at hW1
  by_cases hlong : 2147483647 < lenS s + lenE [oEv d.ord]
  · rw [decide_eq_true hlong] at HBC
    rw [hvv, hA0] at HBC ⊢
    unfold doc
    clear hA hD hA0 HAV HST HIL HLV hvv hA1
    go_enter Tryz.func3, Tryz.ntmps3
    go_wp2_with fail
    first | (refine Calls.mono HBC.out ?_) | (refine calls_world hW1 (Calls.mono HBC.out ?_))
    rintro r W2 ⟨rfl, u2⟩
    have HZ : Hid (Up w W2) := HU.trans u2
    clear u2 hW1 HU
    go_wp2
    go_ret
    exact ⟨rfl, HZ.out⟩
  · rw [decide_eq_false hlong] at HBC
    have HSM : Hid (Small s) := small_of (by omega)
    have hn : d.ord.length ≤ 4294967296 := by
      have : d.ord.length ≤ lenE [oEv d.ord] := by simp [lenE, ords, oEv]
      omega
    have HCI : Hid (∀ W, Up w W → Calls Tryz.prog 7 #[.slice oa d.ord.length oc] W (CpPost W fun W' v => IRow W.heap.size W' v d.ord)) := fun W u => copyInts_ _ d.ord W (HIL.out.up u) hn
    have HCS : Hid (∀ W, Up w W → Calls Tryz.prog 9 #[.agg A] W (CpPost W fun W' v => SO W.heap.size W' v s)) := fun W u => copyState_ (.agg A) s W (by rw [HAV.out]; exact HST.out.up u) HSM.out
    have HMA : Hid (∀ W, Up w W → Calls Tryz.prog 10 #[.agg A] W fun r w' => r = .returned (.bool (decide (ff s = none))) ∧ Up W w') := fun W u => may_ (.agg A) s W (by rw [HAV.out]; exact HST.out.up u) HSM.out
    have HAK0 : Hid (∀ (W : World) (v vn : Value), StL W v s → IL W vn d.ord → Calls Tryz.prog 8 #[.agg (doc d vn), v] W (DeV W (askO s d))) := fun W v vn h1 h2 => asked_ v vn s d W h1 HSM.out h2 hn hb1 hb2
    rw [hvv, hA0] at HBC ⊢
    clear hA0 hlong hb1 hb2
    have HDC : Hid (∀ (vo : Value), Value.agg (doc d vo) = Value.agg #[.int .i64 d.kind, .int .i64 d.number, .int .i64 d.zone, .bool d.first, .int .i8 d.field, .int .i64 d.by_, vo]) := fun _ => rfl
    rw [HDC.out]
    go_enter Tryz.func3, Tryz.ntmps3
    go_wp2_with fail
    first | (refine Calls.mono HBC.out ?_) | (refine calls_world hW1 (Calls.mono HBC.out ?_))
    rintro r W2 ⟨rfl, u2⟩
    have hA := u2.heap hA
    have hD := u2.heap hD
    have HU := HU.trans u2
    clear u2 hW1 HBC hvv
    have c6 : W2.cell? ⟨w.heap.size + 1, 6, none⟩ = some (.slice oa d.ord.length oc) := doc_cells hD 6
    go_wp2_with fail
    refine Calls.mono (HCI.out _ HU) ?_
    rintro r W3 ⟨vn, rfl, hvn, u3⟩
    obtain ⟨na, nk, rfl⟩ := row_val hvn
    have hA := u3.heap hA
    have hD := u3.heap hD
    have hb3 : w.heap.size + 1 < W2.heap.size := by
      have := (Array.getElem?_eq_some_iff.1 hD).1
      exact (World.block_lt_of_cell? W2 _ c6)
    have c6 : W3.cell? ⟨w.heap.size + 1, 6, none⟩ = some (.slice oa d.ord.length oc) := doc_cells hD 6
    have cf := seven_f hD 6
    have HU := HU.trans u3
    obtain ⟨W4, hW4⟩ : ∃ W4, W3.setCell ⟨w.heap.size + 1, 6, none⟩ (.slice na d.ord.length nk) = W4 := ⟨_, rfl⟩
    have hD : W4.heap[w.heap.size + 1]? = some (.cells (doc d (.slice na d.ord.length nk)) 30 (0, 0)) := by rw [← hW4]; exact doc_set hD
    have hA : W4.heap[w.heap.size]? = some (.cells A 27 (0, 0)) := by rw [← hW4]; exact set_other hA (by omega)
    have hvn : IRow W2.heap.size W4 (.slice na d.ord.length nk) d.ord := by rw [← hW4]; exact row_set hvn hb3
    have HU : Up w W4 := by rw [← hW4]; exact Up.set HU _ _ (by show w.heap.size ≤ w.heap.size + 1; omega)
    have HAK : Hid (∀ (W : World) (v : Value), Up W4 W → StL W v s → Calls Tryz.prog 8 #[.agg (doc d (.slice na d.ord.length nk)), v] W (DeV W (askO s d))) := fun W v u h => HAK0.out W v _ h ((IRow.il hvn).up u)
    obtain ⟨vn, hvn2⟩ : ∃ vn : Value, vn = .slice na d.ord.length nk := ⟨_, rfl⟩
    rw [← hvn2] at hD HAK
    have HV2 : Hid _ := hvn2
    clear HAK0 HCI u3 hvn hvn2 hb3
    have hgood := ask_good s d
    by_cases hok : ff s = none
    · simp only [hok, decide_true] at HMA
      rcases hgood.2 hok with hr | hr | ⟨e, hr, hfit, heo⟩
      · clear hgood
        have HAS : Hid (∀ (W : World) (v : Value), Up W4 W → StL W v s → Calls Tryz.prog 8 #[.agg (doc d vn), v] W fun x w' => ∃ v', x = .returned (.tuple #[v', .int .i64 1]) ∧ DL W.heap.size w' v' none ∧ Up W w') := fun W v u h => by
          have h9 := HAK.out W v u h
          rw [hr] at h9
          exact h9
        clear hr HAK
        go_wp2_with fail
        refine (fun key4 : ∀ (W : World) (v1 vl : Value), Up W4 W → (∃ b, DL b W vl none) → (?Ga : World → Value → Value → Prop) W v1 vl => ?maina) ?kpa
        case maina =>
          refine wp_region_held_drew (S := fun W9 => Up W4 W9) (by kernel_rfl) (Up.drew (Up.refl _)) (fun hHeld => ?_)
          have Ua0 : Up W4 W4.drew := Up.drew (Up.refl _)
          refine wpAnyH_take (i := 0) (v := ?_) rfl (by kernel_rfl) (by kernel_rfl) (by kernel_rfl) (fun _ _ _ h => h) (Or.inl ⟨by rfl, ?_⟩) (by assumption) ?_
          rotate_left
          · intro w9 hSw
            refine (exec_load_row 30 (.tmp 3) (by rfl) (w.heap.size + 1) (by rfl) 30 (doc d vn) (0, 0) _ Tryz.underlying30 (by rfl) (infoDo) w9 (hSw.heap hD)).trans ?_
            with_reducible rfl
          simp only [Act.put, List.setIfInBounds_toArray, List.set_cons_zero, List.set_cons_succ, List.getElem_toArray, List.getElem_cons_zero]
          refine wpAnyH_take (i := 1) (v := ?_) rfl (by kernel_rfl) (by kernel_rfl) (by kernel_rfl) (fun _ _ _ h => h) (Or.inl ⟨by rfl, ?_⟩) (by assumption) ?_
          rotate_left
          · intro w9 hSw
            refine (exec_load_row 27 (.tmp 2) (by rfl) w.heap.size (by rfl) 27 A (0, 0) _ Tryz.underlying27 (by rfl) (by rw [hA1]; exact infoSt) w9 (hSw.heap hA)).trans ?_
            with_reducible rfl
          simp only [Act.put, List.setIfInBounds_toArray, List.set_cons_zero, List.set_cons_succ, List.getElem_toArray, List.getElem_cons_zero, List.getElem_cons_succ]
          refine wpAnyH_ready (rs := [2]) (by kernel_rfl) (by simp) ?_
          refine AllReadyH.cons rfl (fun K hK => ?_) AllReadyH.nil
          simp only [List.getElem_toArray, List.getElem_cons_zero, List.getElem_cons_succ]
          go_simp
          refine Calls.mono (HCS.out _ (HU.trans Ua0)) ?_
          rintro r9 Wa1 ⟨v1, rfl, f1, ua1⟩
          go_simp
          have Ua1 := Ua0.trans ua1
          refine hK.out _ _ ?_ (fun hHeld => ?_)
          · exact Ua1
          clear hK K
          try simp only [Act.put, List.setIfInBounds_toArray, List.set_cons_zero, List.set_cons_succ]
          have hSS := Ua1
          refine wpAnyH_ready (rs := [3]) (by kernel_rfl) (by simp) ?_
          refine AllReadyH.cons rfl (fun K hK => ?_) AllReadyH.nil
          simp only [List.getElem_toArray, List.getElem_cons_zero, List.getElem_cons_succ]
          go_simp
          refine Calls.mono (HAS.out _ _ Ua1 (SO.sl f1)) ?_
          rintro r9 Wa2 ⟨vl, rfl, f2, ua2⟩
          go_simp
          have Ua2 := Ua1.trans ua2
          have f1 := f1.up ua2
          refine hK.out _ _ ?_ (fun hHeld => ?_)
          · exact Ua2
          clear hK K
          try simp only [Act.put, List.setIfInBounds_toArray, List.set_cons_zero, List.set_cons_succ]
          have hSS := Ua2
          refine wpAnyH_take (i := 4) (v := ?_) rfl (by kernel_rfl) (by kernel_rfl) (by kernel_rfl) (fun _ _ _ h => h) (Or.inl ⟨by rfl, ?_⟩) (by assumption) ?_
          rotate_left
          · intro w9 hSw
            go_simp
            try with_reducible rfl
          simp only [Act.put, List.setIfInBounds_toArray, List.set_cons_zero, List.set_cons_succ, List.getElem_toArray, List.getElem_cons_zero, List.getElem_cons_succ]
          refine wpAnyH_take (i := 5) (v := ?_) rfl (by kernel_rfl) (by kernel_rfl) (by kernel_rfl) (fun _ _ _ h => h) (Or.inl ⟨by rfl, ?_⟩) (by assumption) ?_
          rotate_left
          · intro w9 hSw
            go_simp
            try with_reducible rfl
          simp only [Act.put, List.setIfInBounds_toArray, List.set_cons_zero, List.set_cons_succ, List.getElem_toArray, List.getElem_cons_zero, List.getElem_cons_succ]
          refine wpAnyH_take (i := 6) (v := ?_) rfl (by kernel_rfl) (by kernel_rfl) (by kernel_rfl) (fun _ _ _ h => h) (Or.inl ⟨by rfl, ?_⟩) (by assumption) ?_
          rotate_left
          · intro w9 hSw
            go_simp
            try with_reducible rfl
          simp only [Act.put, List.setIfInBounds_toArray, List.set_cons_zero, List.set_cons_succ, List.getElem_toArray, List.getElem_cons_zero, List.getElem_cons_succ]
          refine wpAnyH_take (i := 7) (v := ?_) rfl (by kernel_rfl) (by kernel_rfl) (by kernel_rfl) (fun _ _ _ h => h) (Or.inl ⟨by rfl, ?_⟩) (by assumption) ?_
          rotate_left
          · intro w9 hSw
            go_simp
            try with_reducible rfl
          simp only [Act.put, List.setIfInBounds_toArray, List.set_cons_zero, List.set_cons_succ, List.getElem_toArray, List.getElem_cons_zero, List.getElem_cons_succ]
          refine wpAnyH_take (i := 8) (v := ?_) rfl (by kernel_rfl) (by kernel_rfl) (by kernel_rfl) (fun _ _ _ h => h) (Or.inl ⟨by rfl, ?_⟩) (by assumption) ?_
          rotate_left
          · intro w9 hSw
            go_simp
            try with_reducible rfl
          simp only [Act.put, List.setIfInBounds_toArray, List.set_cons_zero, List.set_cons_succ, List.getElem_toArray, List.getElem_cons_zero, List.getElem_cons_succ]
          refine wpAnyH_done (by kernel_rfl) ?_ _
          exact key4 Wa2 v1 vl Ua2 ⟨_, f2⟩
        case kpa =>
          intro W5 v1 vl U5 hdl
          obtain ⟨b9, hdl⟩ := hdl
          have hA := U5.heap hA
          have HU := HU.trans U5
          clear HAS
          have hdl : vl = .slice none 0 0 := hdl
          subst hdl
          clear U5
          go_wp2_with ((refine wpList_load_rowG (by rfl) 27 (.tmp 2) (by rfl) w.heap.size (by rfl) 27 A (0, 0) _ hA Tryz.underlying27 (by rfl) (by rw [hA1]; exact infoSt) ?_))
          refine Calls.mono (HMA.out _ HU) ?_
          rintro r W6 ⟨rfl, u6⟩
          have HU := HU.trans u6
          clear u6 hA
          go_wp2_with fail
          refine Calls.mono (HLV.out _) ?_
          rintro r WZ ⟨rfl, uZ⟩
          have HZ : Hid (Up w WZ) := HU.trans uZ
          clear uZ HU
          go_wp2
          go_ret
          exact ⟨rfl, HZ.out⟩
      · clear hgood
        have HAS : Hid (∀ (W : World) (v : Value), Up W4 W → StL W v s → Calls Tryz.prog 8 #[.agg (doc d vn), v] W fun x w' => ∃ v', x = .returned (.tuple #[v', .int .i64 0]) ∧ DL W.heap.size w' v' none ∧ Up W w') := fun W v u h => by
          have h9 := HAK.out W v u h
          rw [hr] at h9
          exact h9
        clear hr HAK
        go_wp2_with fail
        refine (fun key4 : ∀ (W : World) (v1 vl : Value), Up W4 W → (∃ b, DL b W vl none) → (?Gb : World → Value → Value → Prop) W v1 vl => ?mainb) ?kpb
        case mainb =>
          refine wp_region_held_drew (S := fun W9 => Up W4 W9) (by kernel_rfl) (Up.drew (Up.refl _)) (fun hHeld => ?_)
          have Ua0 : Up W4 W4.drew := Up.drew (Up.refl _)
          refine wpAnyH_take (i := 0) (v := ?_) rfl (by kernel_rfl) (by kernel_rfl) (by kernel_rfl) (fun _ _ _ h => h) (Or.inl ⟨by rfl, ?_⟩) (by assumption) ?_
          rotate_left
          · intro w9 hSw
            refine (exec_load_row 30 (.tmp 3) (by rfl) (w.heap.size + 1) (by rfl) 30 (doc d vn) (0, 0) _ Tryz.underlying30 (by rfl) (infoDo) w9 (hSw.heap hD)).trans ?_
            with_reducible rfl
          simp only [Act.put, List.setIfInBounds_toArray, List.set_cons_zero, List.set_cons_succ, List.getElem_toArray, List.getElem_cons_zero]
          refine wpAnyH_take (i := 1) (v := ?_) rfl (by kernel_rfl) (by kernel_rfl) (by kernel_rfl) (fun _ _ _ h => h) (Or.inl ⟨by rfl, ?_⟩) (by assumption) ?_
          rotate_left
          · intro w9 hSw
            refine (exec_load_row 27 (.tmp 2) (by rfl) w.heap.size (by rfl) 27 A (0, 0) _ Tryz.underlying27 (by rfl) (by rw [hA1]; exact infoSt) w9 (hSw.heap hA)).trans ?_
            with_reducible rfl
          simp only [Act.put, List.setIfInBounds_toArray, List.set_cons_zero, List.set_cons_succ, List.getElem_toArray, List.getElem_cons_zero, List.getElem_cons_succ]
          refine wpAnyH_ready (rs := [2]) (by kernel_rfl) (by simp) ?_
          refine AllReadyH.cons rfl (fun K hK => ?_) AllReadyH.nil
          simp only [List.getElem_toArray, List.getElem_cons_zero, List.getElem_cons_succ]
          go_simp
          refine Calls.mono (HCS.out _ (HU.trans Ua0)) ?_
          rintro r9 Wa1 ⟨v1, rfl, f1, ua1⟩
          go_simp
          have Ua1 := Ua0.trans ua1
          refine hK.out _ _ ?_ (fun hHeld => ?_)
          · exact Ua1
          clear hK K
          try simp only [Act.put, List.setIfInBounds_toArray, List.set_cons_zero, List.set_cons_succ]
          have hSS := Ua1
          refine wpAnyH_ready (rs := [3]) (by kernel_rfl) (by simp) ?_
          refine AllReadyH.cons rfl (fun K hK => ?_) AllReadyH.nil
          simp only [List.getElem_toArray, List.getElem_cons_zero, List.getElem_cons_succ]
          go_simp
          refine Calls.mono (HAS.out _ _ Ua1 (SO.sl f1)) ?_
          rintro r9 Wa2 ⟨vl, rfl, f2, ua2⟩
          go_simp
          have Ua2 := Ua1.trans ua2
          have f1 := f1.up ua2
          refine hK.out _ _ ?_ (fun hHeld => ?_)
          · exact Ua2
          clear hK K
          try simp only [Act.put, List.setIfInBounds_toArray, List.set_cons_zero, List.set_cons_succ]
          have hSS := Ua2
          refine wpAnyH_take (i := 4) (v := ?_) rfl (by kernel_rfl) (by kernel_rfl) (by kernel_rfl) (fun _ _ _ h => h) (Or.inl ⟨by rfl, ?_⟩) (by assumption) ?_
          rotate_left
          · intro w9 hSw
            go_simp
            try with_reducible rfl
          simp only [Act.put, List.setIfInBounds_toArray, List.set_cons_zero, List.set_cons_succ, List.getElem_toArray, List.getElem_cons_zero, List.getElem_cons_succ]
          refine wpAnyH_take (i := 5) (v := ?_) rfl (by kernel_rfl) (by kernel_rfl) (by kernel_rfl) (fun _ _ _ h => h) (Or.inl ⟨by rfl, ?_⟩) (by assumption) ?_
          rotate_left
          · intro w9 hSw
            go_simp
            try with_reducible rfl
          simp only [Act.put, List.setIfInBounds_toArray, List.set_cons_zero, List.set_cons_succ, List.getElem_toArray, List.getElem_cons_zero, List.getElem_cons_succ]
          refine wpAnyH_take (i := 6) (v := ?_) rfl (by kernel_rfl) (by kernel_rfl) (by kernel_rfl) (fun _ _ _ h => h) (Or.inl ⟨by rfl, ?_⟩) (by assumption) ?_
          rotate_left
          · intro w9 hSw
            go_simp
            try with_reducible rfl
          simp only [Act.put, List.setIfInBounds_toArray, List.set_cons_zero, List.set_cons_succ, List.getElem_toArray, List.getElem_cons_zero, List.getElem_cons_succ]
          refine wpAnyH_take (i := 7) (v := ?_) rfl (by kernel_rfl) (by kernel_rfl) (by kernel_rfl) (fun _ _ _ h => h) (Or.inl ⟨by rfl, ?_⟩) (by assumption) ?_
          rotate_left
          · intro w9 hSw
            go_simp
            try with_reducible rfl
          simp only [Act.put, List.setIfInBounds_toArray, List.set_cons_zero, List.set_cons_succ, List.getElem_toArray, List.getElem_cons_zero, List.getElem_cons_succ]
          refine wpAnyH_take (i := 8) (v := ?_) rfl (by kernel_rfl) (by kernel_rfl) (by kernel_rfl) (fun _ _ _ h => h) (Or.inl ⟨by rfl, ?_⟩) (by assumption) ?_
          rotate_left
          · intro w9 hSw
            go_simp
            try with_reducible rfl
          simp only [Act.put, List.setIfInBounds_toArray, List.set_cons_zero, List.set_cons_succ, List.getElem_toArray, List.getElem_cons_zero, List.getElem_cons_succ]
          refine wpAnyH_done (by kernel_rfl) ?_ _
          exact key4 Wa2 v1 vl Ua2 ⟨_, f2⟩
        case kpb =>
          intro W5 v1 vl U5 hdl
          obtain ⟨b9, hdl⟩ := hdl
          have hA := U5.heap hA
          have HU := HU.trans U5
          clear HAS
          have hdl : vl = .slice none 0 0 := hdl
          subst hdl
          clear U5
          go_wp2_with ((refine wpList_load_row (by rfl) 27 (.tmp 2) (by rfl) w.heap.size (by rfl) 27 A (0, 0) _ hA Tryz.underlying27 (by rfl) (by rw [hA1]; exact infoSt) ?_))
          refine Calls.mono (HMA.out _ HU) ?_
          rintro r W6 ⟨rfl, u6⟩
          have HU := HU.trans u6
          clear u6 hA
          go_wp2_with fail
          refine Calls.mono (HLV.out _) ?_
          rintro r WZ ⟨rfl, uZ⟩
          have HZ : Hid (Up w WZ) := HU.trans uZ
          clear uZ HU
          go_wp2
          go_ret
          exact ⟨rfl, HZ.out⟩
      · clear hgood
        have HAS : Hid (∀ (W : World) (v : Value), Up W4 W → StL W v s → Calls Tryz.prog 8 #[.agg (doc d vn), v] W fun x w' => ∃ v', x = .returned (.tuple #[v', .int .i64 0]) ∧ DL W.heap.size w' v' (some e) ∧ Up W w') := fun W v u h => by
          have h9 := HAK.out W v u h
          rw [hr] at h9
          exact h9
        clear hr HAK
        go_wp2_with fail
        refine (fun key4 : ∀ (W : World) (v1 vl : Value), Up W4 W → (∃ b, DL b W vl (some e)) → (?Gc : World → Value → Value → Prop) W v1 vl => ?mainc) ?kpc
        case mainc =>
          refine wp_region_held_drew (S := fun W9 => Up W4 W9) (by kernel_rfl) (Up.drew (Up.refl _)) (fun hHeld => ?_)
          have Ua0 : Up W4 W4.drew := Up.drew (Up.refl _)
          refine wpAnyH_take (i := 0) (v := ?_) rfl (by kernel_rfl) (by kernel_rfl) (by kernel_rfl) (fun _ _ _ h => h) (Or.inl ⟨by rfl, ?_⟩) (by assumption) ?_
          rotate_left
          · intro w9 hSw
            refine (exec_load_row 30 (.tmp 3) (by rfl) (w.heap.size + 1) (by rfl) 30 (doc d vn) (0, 0) _ Tryz.underlying30 (by rfl) (infoDo) w9 (hSw.heap hD)).trans ?_
            with_reducible rfl
          simp only [Act.put, List.setIfInBounds_toArray, List.set_cons_zero, List.set_cons_succ, List.getElem_toArray, List.getElem_cons_zero]
          refine wpAnyH_take (i := 1) (v := ?_) rfl (by kernel_rfl) (by kernel_rfl) (by kernel_rfl) (fun _ _ _ h => h) (Or.inl ⟨by rfl, ?_⟩) (by assumption) ?_
          rotate_left
          · intro w9 hSw
            refine (exec_load_row 27 (.tmp 2) (by rfl) w.heap.size (by rfl) 27 A (0, 0) _ Tryz.underlying27 (by rfl) (by rw [hA1]; exact infoSt) w9 (hSw.heap hA)).trans ?_
            with_reducible rfl
          simp only [Act.put, List.setIfInBounds_toArray, List.set_cons_zero, List.set_cons_succ, List.getElem_toArray, List.getElem_cons_zero, List.getElem_cons_succ]
          refine wpAnyH_ready (rs := [2]) (by kernel_rfl) (by simp) ?_
          refine AllReadyH.cons rfl (fun K hK => ?_) AllReadyH.nil
          simp only [List.getElem_toArray, List.getElem_cons_zero, List.getElem_cons_succ]
          go_simp
          refine Calls.mono (HCS.out _ (HU.trans Ua0)) ?_
          rintro r9 Wa1 ⟨v1, rfl, f1, ua1⟩
          go_simp
          have Ua1 := Ua0.trans ua1
          refine hK.out _ _ ?_ (fun hHeld => ?_)
          · exact Ua1
          clear hK K
          try simp only [Act.put, List.setIfInBounds_toArray, List.set_cons_zero, List.set_cons_succ]
          have hSS := Ua1
          refine wpAnyH_ready (rs := [3]) (by kernel_rfl) (by simp) ?_
          refine AllReadyH.cons rfl (fun K hK => ?_) AllReadyH.nil
          simp only [List.getElem_toArray, List.getElem_cons_zero, List.getElem_cons_succ]
          go_simp
          refine Calls.mono (HAS.out _ _ Ua1 (SO.sl f1)) ?_
          rintro r9 Wa2 ⟨vl, rfl, f2, ua2⟩
          go_simp
          have Ua2 := Ua1.trans ua2
          have f1 := f1.up ua2
          refine hK.out _ _ ?_ (fun hHeld => ?_)
          · exact Ua2
          clear hK K
          try simp only [Act.put, List.setIfInBounds_toArray, List.set_cons_zero, List.set_cons_succ]
          have hSS := Ua2
          refine wpAnyH_take (i := 4) (v := ?_) rfl (by kernel_rfl) (by kernel_rfl) (by kernel_rfl) (fun _ _ _ h => h) (Or.inl ⟨by rfl, ?_⟩) (by assumption) ?_
          rotate_left
          · intro w9 hSw
            go_simp
            try with_reducible rfl
          simp only [Act.put, List.setIfInBounds_toArray, List.set_cons_zero, List.set_cons_succ, List.getElem_toArray, List.getElem_cons_zero, List.getElem_cons_succ]
          refine wpAnyH_take (i := 5) (v := ?_) rfl (by kernel_rfl) (by kernel_rfl) (by kernel_rfl) (fun _ _ _ h => h) (Or.inl ⟨by rfl, ?_⟩) (by assumption) ?_
          rotate_left
          · intro w9 hSw
            go_simp
            try with_reducible rfl
          simp only [Act.put, List.setIfInBounds_toArray, List.set_cons_zero, List.set_cons_succ, List.getElem_toArray, List.getElem_cons_zero, List.getElem_cons_succ]
          refine wpAnyH_take (i := 6) (v := ?_) rfl (by kernel_rfl) (by kernel_rfl) (by kernel_rfl) (fun _ _ _ h => h) (Or.inl ⟨by rfl, ?_⟩) (by assumption) ?_
          rotate_left
          · intro w9 hSw
            go_simp
            try with_reducible rfl
          simp only [Act.put, List.setIfInBounds_toArray, List.set_cons_zero, List.set_cons_succ, List.getElem_toArray, List.getElem_cons_zero, List.getElem_cons_succ]
          refine wpAnyH_take (i := 7) (v := ?_) rfl (by kernel_rfl) (by kernel_rfl) (by kernel_rfl) (fun _ _ _ h => h) (Or.inl ⟨by rfl, ?_⟩) (by assumption) ?_
          rotate_left
          · intro w9 hSw
            go_simp
            try with_reducible rfl
          simp only [Act.put, List.setIfInBounds_toArray, List.set_cons_zero, List.set_cons_succ, List.getElem_toArray, List.getElem_cons_zero, List.getElem_cons_succ]
          refine wpAnyH_take (i := 8) (v := ?_) rfl (by kernel_rfl) (by kernel_rfl) (by kernel_rfl) (fun _ _ _ h => h) (Or.inl ⟨by rfl, ?_⟩) (by assumption) ?_
          rotate_left
          · intro w9 hSw
            go_simp
            try with_reducible rfl
          simp only [Act.put, List.setIfInBounds_toArray, List.set_cons_zero, List.set_cons_succ, List.getElem_toArray, List.getElem_cons_zero, List.getElem_cons_succ]
          refine wpAnyH_done (by kernel_rfl) ?_ _
          exact key4 Wa2 v1 vl Ua2 ⟨_, f2⟩
        case kpc =>
          intro W5 v1 vl U5 hdl
          obtain ⟨b9, hdl⟩ := hdl
          have hA := U5.heap hA
          have HU := HU.trans U5
          clear HAS
          obtain ⟨g, vo2, rfl, -, hg, hio⟩ := hdl
          have hbeh := ok_behind hok hfit
          have hre : repO s [e] = some (.inr (behindS s e)) := by
            unfold repO
            rw [if_pos hok]
            show some (if okB e && fitB s e then repl (behindS s e) [] 1 else Sum.inl 0) = _
            rw [if_pos hfit]
            rfl
          have hen : e.ord.length ≤ 4294967296 := by
            rcases heo with h9 | h9
            · rw [h9]; simp
            · rw [h9]; exact hn
          have HCE : Hid (∀ W, Up W5 W → Calls Tryz.prog 13 #[.agg (evc e vo2)] W fun x w' => ∃ vn, x = .returned (evv e vn) ∧ IRow W.heap.size w' vn e.ord ∧ Up W w') := fun W u => copyEvent_ e vo2 W ((IRow.il hio).up u) hen
          have HAP : Hid (∀ (W : World) (v vn : Value), StL W v s → IL W vn e.ord → Calls Tryz.prog 12 #[v, evv e vn] W (ApS (behindS s e) W)) := fun W v vn h1 h2 => by
            have h9 := apply_ v vn s e W h1 HSM.out h2 hen
            rw [hre] at h9
            exact h9.mono fun e w' h => aps_of h
          clear hre hbeh hen hio U5
          go_wp2_with fail
          refine (fun key9 : ∀ (W : World) (p : Nat) (C : Array Value) (v3 vn3 : Value), Up W5 W → (?G9 : World → Nat → Array Value → Value → Value → Prop) W p C v3 vn3 => ?main9) ?kp9
          case main9 =>
            refine wp_region_held_drew (S := fun W9 => Up W5 W9) (by kernel_rfl) (Up.drew (Up.refl _)) (fun hHeld => ?_)
            have Ub0 : Up W5 W5.drew := Up.drew (Up.refl _)
            refine wpAnyH_take (i := 0) (v := ?_) rfl (by kernel_rfl) (by kernel_rfl) (by kernel_rfl) (fun _ _ _ h => h) (Or.inl ⟨by rfl, ?_⟩) (by assumption) ?_
            rotate_left
            · intro w9 hSw
              refine (exec_load_row 27 (.tmp 2) (by rfl) w.heap.size (by rfl) 27 A (0, 0) _ Tryz.underlying27 (by rfl) (by rw [hA1]; exact infoSt) w9 (hSw.heap hA)).trans ?_
              with_reducible rfl
            simp only [Act.put, List.setIfInBounds_toArray, List.set_cons_zero, List.set_cons_succ, List.getElem_toArray, List.getElem_cons_zero]
            refine wpAnyH_take (i := 2) (v := ?_) rfl (by kernel_rfl) (by kernel_rfl) (by kernel_rfl) (fun _ _ _ h => h) (Or.inl ⟨by rfl, ?_⟩) (by assumption) ?_
            rotate_left
            · intro w9 hSw
              go_simp
              try with_reducible rfl
            simp only [Act.put, List.setIfInBounds_toArray, List.set_cons_zero, List.set_cons_succ, List.getElem_toArray, List.getElem_cons_zero, List.getElem_cons_succ]
            refine wpAnyH_take (i := 3) (v := ?_) rfl (by kernel_rfl) (by kernel_rfl) (by kernel_rfl) (fun _ _ _ h => h) (Or.inl ⟨by rfl, ?_⟩) (by assumption) ?_
            rotate_left
            · intro w9 hSw
              go_simp
              try with_reducible rfl
            simp only [Act.put, List.setIfInBounds_toArray, List.set_cons_zero, List.set_cons_succ, List.getElem_toArray, List.getElem_cons_zero, List.getElem_cons_succ]
            refine wpAnyH_take (i := 4) (v := ?_) rfl (by kernel_rfl) (by kernel_rfl) (by kernel_rfl) (fun _ _ _ h => h) (Or.inl ⟨by rfl, ?_⟩) (by assumption) ?_
            rotate_left
            · intro w9 hSw
              refine (exec_load_row 33 (.tmp 62) (by rfl) g (by rfl) 33 (evc e vo2) (0, 0) _ Tryz.underlying33 (by rfl) (infoEv) w9 (hSw.heap hg)).trans ?_
              with_reducible rfl
            simp only [Act.put, List.setIfInBounds_toArray, List.set_cons_zero, List.set_cons_succ, List.getElem_toArray, List.getElem_cons_zero, List.getElem_cons_succ]
            refine wpAnyH_ready (rs := [1, 10]) (by kernel_rfl) (by simp) ?_
            refine AllReadyH.cons rfl (fun K hK => ?_) (AllReadyH.cons rfl (fun K hK => ?_) AllReadyH.nil)
            · simp only [List.getElem_toArray, List.getElem_cons_zero, List.getElem_cons_succ]
              go_simp
              refine Calls.mono (HCS.out _ (HU.trans Ub0)) ?_
              rintro r9 Wb1 ⟨v3, rfl, f3, ub1⟩
              go_simp
              have Ub1 := Ub0.trans ub1
              refine hK.out _ _ ?_ (fun hHeld => ?_)
              · exact Ub1
              clear hK K
              try simp only [Act.put, List.setIfInBounds_toArray, List.set_cons_zero, List.set_cons_succ]
              have hSS := Ub1
              refine wpAnyH_ready (rs := [5, 10]) (by kernel_rfl) (by simp) ?_
              refine AllReadyH.cons rfl (fun K hK => ?_) (AllReadyH.cons rfl (fun K hK => ?_) AllReadyH.nil)
              · simp only [List.getElem_toArray, List.getElem_cons_zero, List.getElem_cons_succ]
                go_simp
                refine Calls.mono (HCE.out _ Ub1) ?_
                rintro r9 Wb2 ⟨vn3, rfl, f4, ub2⟩
                go_simp
                have Ub2 := Ub1.trans ub2
                have f3 := f3.up ub2
                refine hK.out _ _ ?_ (fun hHeld => ?_)
                · exact Ub2
                clear hK K
                try simp only [Act.put, List.setIfInBounds_toArray, List.set_cons_zero, List.set_cons_succ]
                have hSS := Ub2
                refine wpAnyH_ready (rs := [6, 10]) (by kernel_rfl) (by simp) ?_
                refine AllReadyH.cons rfl (fun K hK => ?_) (AllReadyH.cons rfl (fun K hK => ?_) AllReadyH.nil)
                · simp only [List.getElem_toArray, List.getElem_cons_zero, List.getElem_cons_succ]
                  go_simp
                  refine Calls.mono (HAP.out _ _ _ (SO.sl f3) (IRow.il f4)) ?_
                  rintro r9 Wb3 ⟨C, rfl, h1C, h2C, f5, ub3⟩
                  go_simp
                  have Ub3 := Ub2.trans ub3
                  have f3 := f3.up ub3
                  have f4 := row_up f4 ub3
                  refine hK.out _ _ ?_ (fun hHeld => ?_)
                  · exact Ub3
                  clear hK K
                  try simp only [Act.put, List.setIfInBounds_toArray, List.set_cons_zero, List.set_cons_succ]
                  have hSS := Ub3
                  refine wpAnyH_take (i := 7) (v := ?_) rfl (by kernel_rfl) (by kernel_rfl) (by kernel_rfl) (fun _ _ _ h => h) (Or.inl ⟨by rfl, ?_⟩) (by assumption) ?_
                  rotate_left
                  · intro w9 hSw
                    go_simp
                    try with_reducible rfl
                  simp only [Act.put, List.setIfInBounds_toArray, List.set_cons_zero, List.set_cons_succ, List.getElem_toArray, List.getElem_cons_zero, List.getElem_cons_succ]
                  refine wpAnyH_take (i := 8) (v := ?_) rfl (by kernel_rfl) (by kernel_rfl) (by kernel_rfl) (fun _ _ _ h => h) (Or.inl ⟨by rfl, ?_⟩) (by assumption) ?_
                  rotate_left
                  · intro w9 hSw
                    go_simp
                    try with_reducible rfl
                  simp only [Act.put, List.setIfInBounds_toArray, List.set_cons_zero, List.set_cons_succ, List.getElem_toArray, List.getElem_cons_zero, List.getElem_cons_succ]
                  refine wpAnyH_take (i := 9) (v := ?_) rfl (by kernel_rfl) (by kernel_rfl) (by kernel_rfl) (fun _ _ _ h => h) (Or.inl ⟨by rfl, ?_⟩) (by assumption) ?_
                  rotate_left
                  · intro w9 hSw
                    go_simp
                    try with_reducible rfl
                  simp only [Act.put, List.setIfInBounds_toArray, List.set_cons_zero, List.set_cons_succ, List.getElem_toArray, List.getElem_cons_zero, List.getElem_cons_succ]
                  refine wpAnyH_ready (rs := [10]) (by kernel_rfl) (by simp) ?_
                  refine AllReadyH.cons rfl (fun K hK => ?_) AllReadyH.nil
                  simp only [List.getElem_toArray, List.getElem_cons_zero, List.getElem_cons_succ]
                  go_simp
                  refine hK.out _ _ ?_ (fun hHeld => ?_)
                  · exact Ub3.alloc _
                  clear hK K
                  try simp only [Act.put, List.setIfInBounds_toArray, List.set_cons_zero, List.set_cons_succ]
                  obtain ⟨p, hp⟩ : ∃ p, p = (Wb3).heap.size := ⟨_, rfl⟩
                  obtain ⟨Wb4, hW1⟩ : ∃ W1, (Wb3).alloc (.cells zS 27) = W1 := ⟨_, rfl⟩
                  refine wpAnyH_world hW1 ?_
                  have h9 : Wb3.heap.size = p := hp.symm
                  simp only [h9]
                  clear h9
                  have ub4 : Up (Wb3) Wb4 := by rw [← hW1]; exact (Up.refl _).alloc _
                  have ep : Wb4.heap[p]? = some (.cells zS 27 (0, 0)) := by rw [hp, ← hW1]; exact heap_alloc_new _ _
                  have lp : W5.heap.size ≤ p := by rw [hp]; exact Ub3.size
                  have Ub4 := Ub3.trans ub4
                  have f3 := f3.up ub4
                  have f4 := row_up f4 ub4
                  have f5 := f5.up ub4
                  clear hHeld hW1 hp
                  have hSS := Ub4
                  refine wpAnyH_ready (rs := [11]) (by kernel_rfl) (by simp) ?_
                  refine AllReadyH.cons rfl (fun K hK => ?_) AllReadyH.nil
                  simp only [List.getElem_toArray, List.getElem_cons_zero, List.getElem_cons_succ]
                  refine stepH_store (by rfl) 27 (.tmp 7) (.tmp 66) (by rfl) p C (by rfl) (by rfl) 27 zS ep (by rw [h1C]; exact infoSt) (by rw [h1C]; rfl) (h2C) ?_
                  refine hK.out _ _ ?_ (fun hHeld => ?_)
                  · exact up_setRow Ub4 lp _
                  clear hK K
                  simp only [Act.put]
                  obtain ⟨Wb5, hW1⟩ : ∃ W1, (Wb4).setRow p C = W1 := ⟨_, rfl⟩
                  refine wpAnyH_world hW1 ?_
                  have Ub5 : Up W5 Wb5 := by rw [← hW1]; exact up_setRow Ub4 lp _
                  have ep : Wb5.heap[p]? = some (.cells C 27 (0, 0)) := by rw [← hW1]; exact setRow_heap _ _ _ _ _ _ ep
                  clear hHeld hW1
                  have hSS := Ub5
                  refine wpAnyH_take (i := 12) (v := ?_) rfl (by kernel_rfl) (by kernel_rfl) (by kernel_rfl) (fun _ _ _ h => h) (Or.inl ⟨by rfl, ?_⟩) (by assumption) ?_
                  rotate_left
                  · intro w9 hSw
                    go_simp
                    try with_reducible rfl
                  simp only [Act.put, List.setIfInBounds_toArray, List.set_cons_zero, List.set_cons_succ, List.getElem_toArray, List.getElem_cons_zero, List.getElem_cons_succ]
                  refine wpAnyH_done (by kernel_rfl) ?_ _
                  exact key9 Wb5 p C v3 vn3 Ub5
                · simp only [List.getElem_toArray, List.getElem_cons_zero, List.getElem_cons_succ]
                  go_simp
                  refine hK.out _ _ ?_ (fun hHeld => ?_)
                  · exact Ub2.alloc _
                  clear hK K
                  try simp only [Act.put, List.setIfInBounds_toArray, List.set_cons_zero, List.set_cons_succ]
                  obtain ⟨p, hp⟩ : ∃ p, p = (Wb2).heap.size := ⟨_, rfl⟩
                  obtain ⟨Wb3, hW1⟩ : ∃ W1, (Wb2).alloc (.cells zS 27) = W1 := ⟨_, rfl⟩
                  refine wpAnyH_world hW1 ?_
                  have h9 : Wb2.heap.size = p := hp.symm
                  simp only [h9]
                  clear h9
                  have ub3 : Up (Wb2) Wb3 := by rw [← hW1]; exact (Up.refl _).alloc _
                  have ep : Wb3.heap[p]? = some (.cells zS 27 (0, 0)) := by rw [hp, ← hW1]; exact heap_alloc_new _ _
                  have lp : W5.heap.size ≤ p := by rw [hp]; exact Ub2.size
                  have Ub3 := Ub2.trans ub3
                  have f3 := f3.up ub3
                  have f4 := row_up f4 ub3
                  clear hHeld hW1 hp
                  have hSS := Ub3
                  refine wpAnyH_ready (rs := [6]) (by kernel_rfl) (by simp) ?_
                  refine AllReadyH.cons rfl (fun K hK => ?_) AllReadyH.nil
                  simp only [List.getElem_toArray, List.getElem_cons_zero, List.getElem_cons_succ]
                  go_simp
                  refine Calls.mono (HAP.out _ _ _ (SO.sl f3) (IRow.il f4)) ?_
                  rintro r9 Wb4 ⟨C, rfl, h1C, h2C, f5, ub4⟩
                  go_simp
                  have Ub4 := Ub3.trans ub4
                  have f3 := f3.up ub4
                  have f4 := row_up f4 ub4
                  have ep := ub4.heap ep
                  refine hK.out _ _ ?_ (fun hHeld => ?_)
                  · exact Ub4
                  clear hK K
                  try simp only [Act.put, List.setIfInBounds_toArray, List.set_cons_zero, List.set_cons_succ]
                  have hSS := Ub4
                  refine wpAnyH_take (i := 7) (v := ?_) rfl (by kernel_rfl) (by kernel_rfl) (by kernel_rfl) (fun _ _ _ h => h) (Or.inl ⟨by rfl, ?_⟩) (by assumption) ?_
                  rotate_left
                  · intro w9 hSw
                    go_simp
                    try with_reducible rfl
                  simp only [Act.put, List.setIfInBounds_toArray, List.set_cons_zero, List.set_cons_succ, List.getElem_toArray, List.getElem_cons_zero, List.getElem_cons_succ]
                  refine wpAnyH_take (i := 8) (v := ?_) rfl (by kernel_rfl) (by kernel_rfl) (by kernel_rfl) (fun _ _ _ h => h) (Or.inl ⟨by rfl, ?_⟩) (by assumption) ?_
                  rotate_left
                  · intro w9 hSw
                    go_simp
                    try with_reducible rfl
                  simp only [Act.put, List.setIfInBounds_toArray, List.set_cons_zero, List.set_cons_succ, List.getElem_toArray, List.getElem_cons_zero, List.getElem_cons_succ]
                  refine wpAnyH_take (i := 9) (v := ?_) rfl (by kernel_rfl) (by kernel_rfl) (by kernel_rfl) (fun _ _ _ h => h) (Or.inl ⟨by rfl, ?_⟩) (by assumption) ?_
                  rotate_left
                  · intro w9 hSw
                    go_simp
                    try with_reducible rfl
                  simp only [Act.put, List.setIfInBounds_toArray, List.set_cons_zero, List.set_cons_succ, List.getElem_toArray, List.getElem_cons_zero, List.getElem_cons_succ]
                  refine wpAnyH_ready (rs := [11]) (by kernel_rfl) (by simp) ?_
                  refine AllReadyH.cons rfl (fun K hK => ?_) AllReadyH.nil
                  simp only [List.getElem_toArray, List.getElem_cons_zero, List.getElem_cons_succ]
                  refine stepH_store (by rfl) 27 (.tmp 7) (.tmp 66) (by rfl) p C (by rfl) (by rfl) 27 zS ep (by rw [h1C]; exact infoSt) (by rw [h1C]; rfl) (h2C) ?_
                  refine hK.out _ _ ?_ (fun hHeld => ?_)
                  · exact up_setRow Ub4 lp _
                  clear hK K
                  simp only [Act.put]
                  obtain ⟨Wb5, hW1⟩ : ∃ W1, (Wb4).setRow p C = W1 := ⟨_, rfl⟩
                  refine wpAnyH_world hW1 ?_
                  have Ub5 : Up W5 Wb5 := by rw [← hW1]; exact up_setRow Ub4 lp _
                  have ep : Wb5.heap[p]? = some (.cells C 27 (0, 0)) := by rw [← hW1]; exact setRow_heap _ _ _ _ _ _ ep
                  clear hHeld hW1
                  have hSS := Ub5
                  refine wpAnyH_take (i := 12) (v := ?_) rfl (by kernel_rfl) (by kernel_rfl) (by kernel_rfl) (fun _ _ _ h => h) (Or.inl ⟨by rfl, ?_⟩) (by assumption) ?_
                  rotate_left
                  · intro w9 hSw
                    go_simp
                    try with_reducible rfl
                  simp only [Act.put, List.setIfInBounds_toArray, List.set_cons_zero, List.set_cons_succ, List.getElem_toArray, List.getElem_cons_zero, List.getElem_cons_succ]
                  refine wpAnyH_done (by kernel_rfl) ?_ _
                  exact key9 Wb5 p C v3 vn3 Ub5
              · simp only [List.getElem_toArray, List.getElem_cons_zero, List.getElem_cons_succ]
                go_simp
                refine hK.out _ _ ?_ (fun hHeld => ?_)
                · exact Ub1.alloc _
                clear hK K
                try simp only [Act.put, List.setIfInBounds_toArray, List.set_cons_zero, List.set_cons_succ]
                obtain ⟨p, hp⟩ : ∃ p, p = (Wb1).heap.size := ⟨_, rfl⟩
                obtain ⟨Wb2, hW1⟩ : ∃ W1, (Wb1).alloc (.cells zS 27) = W1 := ⟨_, rfl⟩
                refine wpAnyH_world hW1 ?_
                have h9 : Wb1.heap.size = p := hp.symm
                simp only [h9]
                clear h9
                have ub2 : Up (Wb1) Wb2 := by rw [← hW1]; exact (Up.refl _).alloc _
                have ep : Wb2.heap[p]? = some (.cells zS 27 (0, 0)) := by rw [hp, ← hW1]; exact heap_alloc_new _ _
                have lp : W5.heap.size ≤ p := by rw [hp]; exact Ub1.size
                have Ub2 := Ub1.trans ub2
                have f3 := f3.up ub2
                clear hHeld hW1 hp
                have hSS := Ub2
                refine wpAnyH_ready (rs := [5]) (by kernel_rfl) (by simp) ?_
                refine AllReadyH.cons rfl (fun K hK => ?_) AllReadyH.nil
                simp only [List.getElem_toArray, List.getElem_cons_zero, List.getElem_cons_succ]
                go_simp
                refine Calls.mono (HCE.out _ Ub2) ?_
                rintro r9 Wb3 ⟨vn3, rfl, f4, ub3⟩
                go_simp
                have Ub3 := Ub2.trans ub3
                have f3 := f3.up ub3
                have ep := ub3.heap ep
                refine hK.out _ _ ?_ (fun hHeld => ?_)
                · exact Ub3
                clear hK K
                try simp only [Act.put, List.setIfInBounds_toArray, List.set_cons_zero, List.set_cons_succ]
                have hSS := Ub3
                refine wpAnyH_ready (rs := [6]) (by kernel_rfl) (by simp) ?_
                refine AllReadyH.cons rfl (fun K hK => ?_) AllReadyH.nil
                simp only [List.getElem_toArray, List.getElem_cons_zero, List.getElem_cons_succ]
                go_simp
                refine Calls.mono (HAP.out _ _ _ (SO.sl f3) (IRow.il f4)) ?_
                rintro r9 Wb4 ⟨C, rfl, h1C, h2C, f5, ub4⟩
                go_simp
                have Ub4 := Ub3.trans ub4
                have f3 := f3.up ub4
                have ep := ub4.heap ep
                have f4 := row_up f4 ub4
                refine hK.out _ _ ?_ (fun hHeld => ?_)
                · exact Ub4
                clear hK K
                try simp only [Act.put, List.setIfInBounds_toArray, List.set_cons_zero, List.set_cons_succ]
                have hSS := Ub4
                refine wpAnyH_take (i := 7) (v := ?_) rfl (by kernel_rfl) (by kernel_rfl) (by kernel_rfl) (fun _ _ _ h => h) (Or.inl ⟨by rfl, ?_⟩) (by assumption) ?_
                rotate_left
                · intro w9 hSw
                  go_simp
                  try with_reducible rfl
                simp only [Act.put, List.setIfInBounds_toArray, List.set_cons_zero, List.set_cons_succ, List.getElem_toArray, List.getElem_cons_zero, List.getElem_cons_succ]
                refine wpAnyH_take (i := 8) (v := ?_) rfl (by kernel_rfl) (by kernel_rfl) (by kernel_rfl) (fun _ _ _ h => h) (Or.inl ⟨by rfl, ?_⟩) (by assumption) ?_
                rotate_left
                · intro w9 hSw
                  go_simp
                  try with_reducible rfl
                simp only [Act.put, List.setIfInBounds_toArray, List.set_cons_zero, List.set_cons_succ, List.getElem_toArray, List.getElem_cons_zero, List.getElem_cons_succ]
                refine wpAnyH_take (i := 9) (v := ?_) rfl (by kernel_rfl) (by kernel_rfl) (by kernel_rfl) (fun _ _ _ h => h) (Or.inl ⟨by rfl, ?_⟩) (by assumption) ?_
                rotate_left
                · intro w9 hSw
                  go_simp
                  try with_reducible rfl
                simp only [Act.put, List.setIfInBounds_toArray, List.set_cons_zero, List.set_cons_succ, List.getElem_toArray, List.getElem_cons_zero, List.getElem_cons_succ]
                refine wpAnyH_ready (rs := [11]) (by kernel_rfl) (by simp) ?_
                refine AllReadyH.cons rfl (fun K hK => ?_) AllReadyH.nil
                simp only [List.getElem_toArray, List.getElem_cons_zero, List.getElem_cons_succ]
                refine stepH_store (by rfl) 27 (.tmp 7) (.tmp 66) (by rfl) p C (by rfl) (by rfl) 27 zS ep (by rw [h1C]; exact infoSt) (by rw [h1C]; rfl) (h2C) ?_
                refine hK.out _ _ ?_ (fun hHeld => ?_)
                · exact up_setRow Ub4 lp _
                clear hK K
                simp only [Act.put]
                obtain ⟨Wb5, hW1⟩ : ∃ W1, (Wb4).setRow p C = W1 := ⟨_, rfl⟩
                refine wpAnyH_world hW1 ?_
                have Ub5 : Up W5 Wb5 := by rw [← hW1]; exact up_setRow Ub4 lp _
                have ep : Wb5.heap[p]? = some (.cells C 27 (0, 0)) := by rw [← hW1]; exact setRow_heap _ _ _ _ _ _ ep
                clear hHeld hW1
                have hSS := Ub5
                refine wpAnyH_take (i := 12) (v := ?_) rfl (by kernel_rfl) (by kernel_rfl) (by kernel_rfl) (fun _ _ _ h => h) (Or.inl ⟨by rfl, ?_⟩) (by assumption) ?_
                rotate_left
                · intro w9 hSw
                  go_simp
                  try with_reducible rfl
                simp only [Act.put, List.setIfInBounds_toArray, List.set_cons_zero, List.set_cons_succ, List.getElem_toArray, List.getElem_cons_zero, List.getElem_cons_succ]
                refine wpAnyH_done (by kernel_rfl) ?_ _
                exact key9 Wb5 p C v3 vn3 Ub5
            · simp only [List.getElem_toArray, List.getElem_cons_zero, List.getElem_cons_succ]
              go_simp
              refine hK.out _ _ ?_ (fun hHeld => ?_)
              · exact Ub0.alloc _
              clear hK K
              try simp only [Act.put, List.setIfInBounds_toArray, List.set_cons_zero, List.set_cons_succ]
              obtain ⟨p, hp⟩ : ∃ p, p = (W5.drew).heap.size := ⟨_, rfl⟩
              obtain ⟨Wb1, hW1⟩ : ∃ W1, (W5.drew).alloc (.cells zS 27) = W1 := ⟨_, rfl⟩
              refine wpAnyH_world hW1 ?_
              have h9 : W5.heap.size = p := hp.symm
              simp only [h9]
              clear h9
              have ub1 : Up (W5.drew) Wb1 := by rw [← hW1]; exact (Up.refl _).alloc _
              have ep : Wb1.heap[p]? = some (.cells zS 27 (0, 0)) := by rw [hp, ← hW1]; exact heap_alloc_new _ _
              have lp : W5.heap.size ≤ p := by rw [hp]; exact Ub0.size
              have Ub1 := Ub0.trans ub1
              clear hHeld hW1 hp
              have hSS := Ub1
              refine wpAnyH_ready (rs := [1]) (by kernel_rfl) (by simp) ?_
              refine AllReadyH.cons rfl (fun K hK => ?_) AllReadyH.nil
              simp only [List.getElem_toArray, List.getElem_cons_zero, List.getElem_cons_succ]
              go_simp
              refine Calls.mono (HCS.out _ (HU.trans Ub1)) ?_
              rintro r9 Wb2 ⟨v3, rfl, f3, ub2⟩
              go_simp
              have Ub2 := Ub1.trans ub2
              have ep := ub2.heap ep
              refine hK.out _ _ ?_ (fun hHeld => ?_)
              · exact Ub2
              clear hK K
              try simp only [Act.put, List.setIfInBounds_toArray, List.set_cons_zero, List.set_cons_succ]
              have hSS := Ub2
              refine wpAnyH_ready (rs := [5]) (by kernel_rfl) (by simp) ?_
              refine AllReadyH.cons rfl (fun K hK => ?_) AllReadyH.nil
              simp only [List.getElem_toArray, List.getElem_cons_zero, List.getElem_cons_succ]
              go_simp
              refine Calls.mono (HCE.out _ Ub2) ?_
              rintro r9 Wb3 ⟨vn3, rfl, f4, ub3⟩
              go_simp
              have Ub3 := Ub2.trans ub3
              have ep := ub3.heap ep
              have f3 := f3.up ub3
              refine hK.out _ _ ?_ (fun hHeld => ?_)
              · exact Ub3
              clear hK K
              try simp only [Act.put, List.setIfInBounds_toArray, List.set_cons_zero, List.set_cons_succ]
              have hSS := Ub3
              refine wpAnyH_ready (rs := [6]) (by kernel_rfl) (by simp) ?_
              refine AllReadyH.cons rfl (fun K hK => ?_) AllReadyH.nil
              simp only [List.getElem_toArray, List.getElem_cons_zero, List.getElem_cons_succ]
              go_simp
              refine Calls.mono (HAP.out _ _ _ (SO.sl f3) (IRow.il f4)) ?_
              rintro r9 Wb4 ⟨C, rfl, h1C, h2C, f5, ub4⟩
              go_simp
              have Ub4 := Ub3.trans ub4
              have ep := ub4.heap ep
              have f3 := f3.up ub4
              have f4 := row_up f4 ub4
              refine hK.out _ _ ?_ (fun hHeld => ?_)
              · exact Ub4
              clear hK K
              try simp only [Act.put, List.setIfInBounds_toArray, List.set_cons_zero, List.set_cons_succ]
              have hSS := Ub4
              refine wpAnyH_take (i := 7) (v := ?_) rfl (by kernel_rfl) (by kernel_rfl) (by kernel_rfl) (fun _ _ _ h => h) (Or.inl ⟨by rfl, ?_⟩) (by assumption) ?_
              rotate_left
              · intro w9 hSw
                go_simp
                try with_reducible rfl
              simp only [Act.put, List.setIfInBounds_toArray, List.set_cons_zero, List.set_cons_succ, List.getElem_toArray, List.getElem_cons_zero, List.getElem_cons_succ]
              refine wpAnyH_take (i := 8) (v := ?_) rfl (by kernel_rfl) (by kernel_rfl) (by kernel_rfl) (fun _ _ _ h => h) (Or.inl ⟨by rfl, ?_⟩) (by assumption) ?_
              rotate_left
              · intro w9 hSw
                go_simp
                try with_reducible rfl
              simp only [Act.put, List.setIfInBounds_toArray, List.set_cons_zero, List.set_cons_succ, List.getElem_toArray, List.getElem_cons_zero, List.getElem_cons_succ]
              refine wpAnyH_take (i := 9) (v := ?_) rfl (by kernel_rfl) (by kernel_rfl) (by kernel_rfl) (fun _ _ _ h => h) (Or.inl ⟨by rfl, ?_⟩) (by assumption) ?_
              rotate_left
              · intro w9 hSw
                go_simp
                try with_reducible rfl
              simp only [Act.put, List.setIfInBounds_toArray, List.set_cons_zero, List.set_cons_succ, List.getElem_toArray, List.getElem_cons_zero, List.getElem_cons_succ]
              refine wpAnyH_ready (rs := [11]) (by kernel_rfl) (by simp) ?_
              refine AllReadyH.cons rfl (fun K hK => ?_) AllReadyH.nil
              simp only [List.getElem_toArray, List.getElem_cons_zero, List.getElem_cons_succ]
              refine stepH_store (by rfl) 27 (.tmp 7) (.tmp 66) (by rfl) p C (by rfl) (by rfl) 27 zS ep (by rw [h1C]; exact infoSt) (by rw [h1C]; rfl) (h2C) ?_
              refine hK.out _ _ ?_ (fun hHeld => ?_)
              · exact up_setRow Ub4 lp _
              clear hK K
              simp only [Act.put]
              obtain ⟨Wb5, hW1⟩ : ∃ W1, (Wb4).setRow p C = W1 := ⟨_, rfl⟩
              refine wpAnyH_world hW1 ?_
              have Ub5 : Up W5 Wb5 := by rw [← hW1]; exact up_setRow Ub4 lp _
              have ep : Wb5.heap[p]? = some (.cells C 27 (0, 0)) := by rw [← hW1]; exact setRow_heap _ _ _ _ _ _ ep
              clear hHeld hW1
              have hSS := Ub5
              refine wpAnyH_take (i := 12) (v := ?_) rfl (by kernel_rfl) (by kernel_rfl) (by kernel_rfl) (fun _ _ _ h => h) (Or.inl ⟨by rfl, ?_⟩) (by assumption) ?_
              rotate_left
              · intro w9 hSw
                go_simp
                try with_reducible rfl
              simp only [Act.put, List.setIfInBounds_toArray, List.set_cons_zero, List.set_cons_succ, List.getElem_toArray, List.getElem_cons_zero, List.getElem_cons_succ]
              refine wpAnyH_done (by kernel_rfl) ?_ _
              exact key9 Wb5 p C v3 vn3 Ub5
          case kp9 =>
            intro W7 p C v3 vn3 U7
            have HU := HU.trans U7
            clear U7 HCE HAP hA hg
            go_wp2_with fail
            refine Calls.mono (HLV.out _) ?_
            rintro r WZ ⟨rfl, uZ⟩
            have HZ : Hid (Up w WZ) := HU.trans uZ
            clear uZ HU
            go_wp2
            go_ret
            exact ⟨rfl, HZ.out⟩
    · simp only [hok, decide_false] at HMA
      have hr := hgood.1 hok
      clear hgood
      have HAS : Hid (∀ (W : World) (v : Value), Up W4 W → StL W v s → Calls Tryz.prog 8 #[.agg (doc d vn), v] W fun x w' => ∃ v', x = .returned (.tuple #[v', .int .i64 10]) ∧ DL W.heap.size w' v' none ∧ Up W w') := fun W v u h => by
        have h9 := HAK.out W v u h
        rw [hr] at h9
        exact h9
      clear hr HAK
      go_wp2_with fail
      refine (fun key4 : ∀ (W : World) (v1 vl : Value), Up W4 W → (∃ b, DL b W vl none) → (?Gd : World → Value → Value → Prop) W v1 vl => ?maind) ?kpd
      case maind =>
        refine wp_region_held_drew (S := fun W9 => Up W4 W9) (by kernel_rfl) (Up.drew (Up.refl _)) (fun hHeld => ?_)
        have Ua0 : Up W4 W4.drew := Up.drew (Up.refl _)
        refine wpAnyH_take (i := 0) (v := ?_) rfl (by kernel_rfl) (by kernel_rfl) (by kernel_rfl) (fun _ _ _ h => h) (Or.inl ⟨by rfl, ?_⟩) (by assumption) ?_
        rotate_left
        · intro w9 hSw
          refine (exec_load_row 30 (.tmp 3) (by rfl) (w.heap.size + 1) (by rfl) 30 (doc d vn) (0, 0) _ Tryz.underlying30 (by rfl) (infoDo) w9 (hSw.heap hD)).trans ?_
          with_reducible rfl
        simp only [Act.put, List.setIfInBounds_toArray, List.set_cons_zero, List.set_cons_succ, List.getElem_toArray, List.getElem_cons_zero]
        refine wpAnyH_take (i := 1) (v := ?_) rfl (by kernel_rfl) (by kernel_rfl) (by kernel_rfl) (fun _ _ _ h => h) (Or.inl ⟨by rfl, ?_⟩) (by assumption) ?_
        rotate_left
        · intro w9 hSw
          refine (exec_load_row 27 (.tmp 2) (by rfl) w.heap.size (by rfl) 27 A (0, 0) _ Tryz.underlying27 (by rfl) (by rw [hA1]; exact infoSt) w9 (hSw.heap hA)).trans ?_
          with_reducible rfl
        simp only [Act.put, List.setIfInBounds_toArray, List.set_cons_zero, List.set_cons_succ, List.getElem_toArray, List.getElem_cons_zero, List.getElem_cons_succ]
        refine wpAnyH_ready (rs := [2]) (by kernel_rfl) (by simp) ?_
        refine AllReadyH.cons rfl (fun K hK => ?_) AllReadyH.nil
        simp only [List.getElem_toArray, List.getElem_cons_zero, List.getElem_cons_succ]
        go_simp
        refine Calls.mono (HCS.out _ (HU.trans Ua0)) ?_
        rintro r9 Wa1 ⟨v1, rfl, f1, ua1⟩
        go_simp
        have Ua1 := Ua0.trans ua1
        refine hK.out _ _ ?_ (fun hHeld => ?_)
        · exact Ua1
        clear hK K
        try simp only [Act.put, List.setIfInBounds_toArray, List.set_cons_zero, List.set_cons_succ]
        have hSS := Ua1
        refine wpAnyH_ready (rs := [3]) (by kernel_rfl) (by simp) ?_
        refine AllReadyH.cons rfl (fun K hK => ?_) AllReadyH.nil
        simp only [List.getElem_toArray, List.getElem_cons_zero, List.getElem_cons_succ]
        go_simp
        refine Calls.mono (HAS.out _ _ Ua1 (SO.sl f1)) ?_
        rintro r9 Wa2 ⟨vl, rfl, f2, ua2⟩
        go_simp
        have Ua2 := Ua1.trans ua2
        have f1 := f1.up ua2
        refine hK.out _ _ ?_ (fun hHeld => ?_)
        · exact Ua2
        clear hK K
        try simp only [Act.put, List.setIfInBounds_toArray, List.set_cons_zero, List.set_cons_succ]
        have hSS := Ua2
        refine wpAnyH_take (i := 4) (v := ?_) rfl (by kernel_rfl) (by kernel_rfl) (by kernel_rfl) (fun _ _ _ h => h) (Or.inl ⟨by rfl, ?_⟩) (by assumption) ?_
        rotate_left
        · intro w9 hSw
          go_simp
          try with_reducible rfl
        simp only [Act.put, List.setIfInBounds_toArray, List.set_cons_zero, List.set_cons_succ, List.getElem_toArray, List.getElem_cons_zero, List.getElem_cons_succ]
        refine wpAnyH_take (i := 5) (v := ?_) rfl (by kernel_rfl) (by kernel_rfl) (by kernel_rfl) (fun _ _ _ h => h) (Or.inl ⟨by rfl, ?_⟩) (by assumption) ?_
        rotate_left
        · intro w9 hSw
          go_simp
          try with_reducible rfl
        simp only [Act.put, List.setIfInBounds_toArray, List.set_cons_zero, List.set_cons_succ, List.getElem_toArray, List.getElem_cons_zero, List.getElem_cons_succ]
        refine wpAnyH_take (i := 6) (v := ?_) rfl (by kernel_rfl) (by kernel_rfl) (by kernel_rfl) (fun _ _ _ h => h) (Or.inl ⟨by rfl, ?_⟩) (by assumption) ?_
        rotate_left
        · intro w9 hSw
          go_simp
          try with_reducible rfl
        simp only [Act.put, List.setIfInBounds_toArray, List.set_cons_zero, List.set_cons_succ, List.getElem_toArray, List.getElem_cons_zero, List.getElem_cons_succ]
        refine wpAnyH_take (i := 7) (v := ?_) rfl (by kernel_rfl) (by kernel_rfl) (by kernel_rfl) (fun _ _ _ h => h) (Or.inl ⟨by rfl, ?_⟩) (by assumption) ?_
        rotate_left
        · intro w9 hSw
          go_simp
          try with_reducible rfl
        simp only [Act.put, List.setIfInBounds_toArray, List.set_cons_zero, List.set_cons_succ, List.getElem_toArray, List.getElem_cons_zero, List.getElem_cons_succ]
        refine wpAnyH_take (i := 8) (v := ?_) rfl (by kernel_rfl) (by kernel_rfl) (by kernel_rfl) (fun _ _ _ h => h) (Or.inl ⟨by rfl, ?_⟩) (by assumption) ?_
        rotate_left
        · intro w9 hSw
          go_simp
          try with_reducible rfl
        simp only [Act.put, List.setIfInBounds_toArray, List.set_cons_zero, List.set_cons_succ, List.getElem_toArray, List.getElem_cons_zero, List.getElem_cons_succ]
        refine wpAnyH_done (by kernel_rfl) ?_ _
        exact key4 Wa2 v1 vl Ua2 ⟨_, f2⟩
      case kpd =>
        intro W5 v1 vl U5 hdl
        obtain ⟨b9, hdl⟩ := hdl
        have hA := U5.heap hA
        have HU := HU.trans U5
        clear HAS
        have hdl : vl = .slice none 0 0 := hdl
        subst hdl
        clear U5
        go_wp2_with ((refine wpList_load_rowG (by rfl) 27 (.tmp 2) (by rfl) w.heap.size (by rfl) 27 A (0, 0) _ hA Tryz.underlying27 (by rfl) (by rw [hA1]; exact infoSt) ?_))
        refine Calls.mono (HMA.out _ HU) ?_
        rintro r W6 ⟨rfl, u6⟩
        have HU := HU.trans u6
        clear u6 hA
        go_wp2_with fail
        refine Calls.mono (HLV.out _) ?_
        rintro r WZ ⟨rfl, uZ⟩
        have HZ : Hid (Up w WZ) := HU.trans uZ
        clear uZ HU
        go_wp2
        go_ret
        exact ⟨rfl, HZ.out⟩
end DE
end Go.Proofs.YtabflfcdndioiabGreatDoor
