/-
  Maps from names, entry by entry.
-/
import Derived.Test.YtkldllnnocdhbaaGreatDoorBt10
import Derived.Deep.RegionHeld
import Derived.Test.YtkldllnnocdhbaaGreatDoorLc
import Derived.Maps.Own
namespace Go.Proofs.YtkldllnnocdhbaaGreatDoor
open Go.RowKit
attribute [local go_sem ↓] Go.wp_at_zero Go.wp_at_succ
namespace TP
open TR (Nd Byt nums_inj)
open TK (Tok)
theorem wpAnyH_world {P : Program} {md : Region.Mode} {ops : Array Oper} {Q : Exit → Act → World → Prop} {S : World → Prop} {fuel : Nat} {listed : Array Bool} {a : Act} {w W : World} (h : w = W) (k : wpAnyH P md ops Q S fuel listed a W) : wpAnyH P md ops Q S fuel listed a w := by subst h; exact k
theorem stepH_store {P : Program} {o : Oper} {a : Act} {w : World} {K : Act → World → Prop} {Q : Exit → Act → World → Prop} {c X : Prop} [Decidable c] (hw : c) (ty : TypeId) (x y : Operand) (ho : o.op = .store ty x y)
    (g : Nat) (cells : Array Value) (hx : a.eval x = .pointer (some ⟨g, 0, none⟩)) (hy : a.eval y = .agg cells)
    (t : TypeId) (old : Array Value) (hg : w.heap[g]? = some (.cells old t (0, 0))) (hi : (P.info? ty).map (·.size) = some cells.size)
    (hold : old.size = cells.size) (h1 : cells.all (·.oneCell') = true) (h : K (a.put o.dst undef) (w.setRow g cells)) :
    if c then Oper.wp P o a w K Q else X := by
  rw [if_pos hw]
  exact wp_store_row ty x y ho g cells hx hy t old hg hi hold h1 h
set_option maxRecDepth 100000 in
set_option maxHeartbeats 16000000 in
theorem pfree_ (w0 W : World) (b bt off n c ml ms i d : Nat) (l : List Tok) (hE : Ev w0 b bt off n c l) (ho : Only b w0 W) (hi : i < n) (hP : QS W b bt off n c ml ms i d) (hX : Ex l n) : Calls Tryz.prog 183 #[.pointer (some ⟨b, 0, none⟩)] W (fun r w' => Up W w' ∧ ((frt (tk l i) = true ∧ mk (tk l (i + 1)) [61] = true ∧ r = .returned (.func (.func 102) #[.pointer (some ⟨b, 0, none⟩)] #[])) ∨ (frt (tk l i) = true ∧ mk (tk l (i + 1)) [61] = false ∧ r = .returned (.func (.func 103) #[.pointer (some ⟨b, 0, none⟩)] #[])) ∨ (frt (tk l i) = false ∧ r = pnc 22 (tk l i).pos))) := by
  obtain ⟨Post, hPost⟩ : ∃ P : Ending → World → Prop, P = fun r w' => Up W w' ∧ ((frt (tk l i) = true ∧ mk (tk l (i + 1)) [61] = true ∧ r = .returned (.func (.func 102) #[.pointer (some ⟨b, 0, none⟩)] #[])) ∨ (frt (tk l i) = true ∧ mk (tk l (i + 1)) [61] = false ∧ r = .returned (.func (.func 103) #[.pointer (some ⟨b, 0, none⟩)] #[])) ∨ (frt (tk l i) = false ∧ r = pnc 22 (tk l i).pos)) := ⟨_, rfl⟩
  rw [← hPost]
  have HPo : Hid (Post = fun r w' => Up W w' ∧ ((frt (tk l i) = true ∧ mk (tk l (i + 1)) [61] = true ∧ r = .returned (.func (.func 102) #[.pointer (some ⟨b, 0, none⟩)] #[])) ∨ (frt (tk l i) = true ∧ mk (tk l (i + 1)) [61] = false ∧ r = .returned (.func (.func 103) #[.pointer (some ⟨b, 0, none⟩)] #[])) ∨ (frt (tk l i) = false ∧ r = pnc 22 (tk l i).pos))) := hPost
  clear hPost
  have HNM : Hid (Calls Tryz.prog 137 #[.pointer (some ⟨b, 0, none⟩)] W fun r w' => r = .returned (.string (strOfNums (nm (tk l i)))) ∧ Up W w') := name_ w0 W b bt off n c ml ms i d l hE ho hi hP
  have HRF : Hid (∀ W2, Up W W2 → Calls Tryz.prog 148 #[.pointer (some ⟨b, 0, none⟩), .int .i64 22] W2 fun r w' => r = pnc 22 (tk l i).pos ∧ Up W2 w') := fun W2 hu => refuse_ w0 W2 b bt off n c ml ms i d l hE (ho.trans (Only.up hu)) hi (hP.up hu) 22
  have hbn : Byt (nm (tk l i)) := by
    unfold nm
    split
    · exact hE.byt i hi
    · intro c hc
      cases hc
  have HFR : Hid (∀ W2, Calls Tryz.prog 170 #[.string (strOfNums (nm (tk l i)))] W2 fun r w' => r = .returned (.bool (frt (tk l i))) ∧ w' = W2) := fun W2 => by
    have h9 := isFree_ (nm (tk l i)) W2 hbn
    have e9 : (decide (nm (tk l i) ≠ []) && !TR.words.contains (nm (tk l i))) = frt (tk l i) := by
      unfold nm frt fre
      by_cases hk : (tk l i).kind = 1
      · have hn := hX.nam i hi hk
        have hne : (tk l i).text ≠ [] := fun e => by
          rw [e] at hn
          exact absurd hn (by decide)
        rw [if_pos hk, hn, hk]
        simp [hne]
      · rw [if_neg hk]
        have : ((tk l i).kind == 1) = false := by simpa using hk
        rw [this]
        simp
    rw [e9] at h9
    exact h9
  have hcp := hE.cap
  have hns := hE.small
  have hnx : frt (tk l i) = true → i + 1 < n := fun h => hE.next hi (frt_kind h)
  generalize strOfNums (nm (tk l i)) = sn at *
  cases hfr : frt (tk l i) with
  | false =>
    rw [hfr] at HFR HPo
    clear hE ho hP hX hbn hnx hfr hcp hns
    go_enter Tryz.func183, Tryz.ntmps183
    go_wp2_with fail
    refine Calls.mono HNM.out ?_
    rintro r9 w1 ⟨rfl, u1⟩
    have HU1 : Hid (Up W w1) := u1
    have HC := HFR.out w1
    clear u1 HNM HFR
    go_wp2_with fail
    refine Calls.mono HC ?_
    rintro r9 w2 ⟨rfl, e2⟩
    have HU2 : Hid (Up W w2) := by unfold Hid; rw [e2]; exact HU1.out
    clear e2 HU1 HC
    have HC := HRF.out w2 HU2.out
    clear HRF
    go_wp2_with fail
    refine Calls.mono HC ?_
    rintro r9 w3 ⟨rfl, u3⟩
    have HU3 : Hid (Up W w3) := HU2.out.trans u3
    clear u3 HC HU2
    unfold pnc at *
    go_wp2_with fail
    rw [HPo.out]
    exact ⟨rfl, HU3.out, .inr (.inr ⟨by first | rfl | trivial, rfl⟩)⟩
  | true =>
    rw [hfr] at HFR HPo
    have hi1 := hnx hfr
    have hby := hE.byt (i + 1) hi1
    have HT9 : Hid (∀ w2, Up W w2 → w2.cell? ⟨bt, off + (i + 1) * 4, none⟩ = some (.int .i8 (tk l (i + 1)).kind) ∧ w2.cell? ⟨bt, off + (i + 1) * 4 + 1, none⟩ = some (.string (strOfNums (tk l (i + 1)).text)) ∧ w2.cell? ⟨bt, off + (i + 1) * 4 + 2, none⟩ = some (.int .i64 (tk l (i + 1)).num) ∧ w2.cell? ⟨bt, off + (i + 1) * 4 + 3, none⟩ = some (.int .i64 (tk l (i + 1)).pos)) := fun w2 hu => hE.tok (ho.trans (Only.up hu)) hi1
    have hin2 : ((i + 1 : Nat) : Int) < (n : Int) := by omega
    obtain ⟨i', hi'⟩ : ∃ i', i' = i + 1 := ⟨_, rfl⟩
    rw [← hi'] at HT9 hin2 hi1 hby HPo
    have ei : IntKind.i64.wrap ((i : Int) + 1) = (i' : Int) := by rw [IntKind.wrap_i64]; omega
    have hone := tkA_one (tk l i')
    clear hE ho hX hbn hnx hfr HRF hi'
    generalize tk l i' = t at *
    obtain ⟨kd, tx, tn, tp⟩ := t
    simp only [tkA] at hby HT9 hone
    have hiff : (strOfNums tx).toList = [61] ↔ tx = [61] := by
      have h9 : (strOfNums tx).toList = (strOfNums [61]).toList ↔ tx = [61] := ⟨fun h => nums_inj hby (by unfold TR.Byt; decide) h, fun h => by rw [h]⟩
      rw [TR.nums_list [61]] at h9
      exact h9
    have hmk : mk ⟨kd, tx, tn, tp⟩ [61] = (decide (kd = 4) && decide (tx = [61])) := by
      unfold mk
      rw [Bool.eq_iff_iff]
      simp
    rw [hmk] at HPo
    clear hmk hby
    by_cases hk : kd = 4
    · by_cases ht : tx = [61]
      · have h2 : (strOfNums tx).toList = [61] := hiff.2 ht
        have h3 : ((strOfNums tx).toList == [61]) = true := by rw [h2]; rfl
        have HT : Hid ((decide (kd = 4) && decide (tx = [61])) = true) := by unfold Hid; simp [hk, ht]
        rw [HT.out] at HPo
        subst hk
        clear hiff ht
        generalize strOfNums tx = st at *
        go_enter Tryz.func183, Tryz.ntmps183
        go_wp2_with fail
        refine Calls.mono HNM.out ?_
        rintro r9 w1 ⟨rfl, u1⟩
        have HU1 : Hid (Up W w1) := u1
        have HC := HFR.out w1
        clear u1 HNM HFR
        go_wp2_with fail
        refine Calls.mono HC ?_
        rintro r9 w2 ⟨rfl, e2⟩
        have HU2 : Hid (Up W w2) := by unfold Hid; rw [e2]; exact HU1.out
        clear e2 HU1 HC
        have HP2 := hP.up HU2.out
        obtain ⟨a0, a1, a2, a3, a4, fz, hbl2⟩ := HP2.cells
        obtain ⟨t0, t1, t2, t3⟩ := HT9.out w2 HU2.out
        clear HP2 hP HT9
        go_upto_region 3 with fail
        refine (fun key3 : ∀ (W9 : World) (pk : Nat), Up w2 W9 → W9.heap[pk]? = some (.cells #[.int .i8 4, .string st, .int .i64 tn, .int .i64 tp] 45 (0, 0)) → w2.heap.size ≤ pk → (?G4 : World → Nat → Prop) W9 pk => ?main4) ?kp4
        case main4 =>
          refine wp_region_held_drew (S := fun W9 => Up w2 W9) (by kernel_rfl) (Up.drew (Up.refl _)) (fun hHeld => ?_)
          have Ua0 : Up w2 w2.drew := Up.drew (Up.refl _)
          refine wpAnyH_take (i := 0) (v := ?_) rfl (by kernel_rfl) (by kernel_rfl) (by kernel_rfl) (fun _ _ _ h => h) (Or.inl ⟨by rfl, ?_⟩) (by assumption) ?_
          rotate_left
          · intro w9 hSw
            go_simp
            try with_reducible rfl
          simp only [Act.put, List.setIfInBounds_toArray, List.set_cons_zero, List.set_cons_succ, List.getElem_toArray, List.getElem_cons_zero]
          refine wpAnyH_take (i := 1) (v := ?_) rfl (by kernel_rfl) (by kernel_rfl) (by kernel_rfl) (fun _ _ _ h => h) (Or.inl ⟨by rfl, ?_⟩) (by assumption) ?_
          rotate_left
          · intro w9 hSw
            go_simp
            try with_reducible rfl
          simp only [Act.put, List.setIfInBounds_toArray, List.set_cons_zero, List.set_cons_succ, List.getElem_toArray, List.getElem_cons_zero, List.getElem_cons_succ]
          refine wpAnyH_take (i := 2) (v := ?_) rfl (by kernel_rfl) (by kernel_rfl) (by kernel_rfl) (fun _ _ _ h => h) (Or.inl ⟨by rfl, ?_⟩) (by assumption) ?_
          rotate_left
          · intro w9 hSw
            go_simp
            try with_reducible rfl
          simp only [Act.put, List.setIfInBounds_toArray, List.set_cons_zero, List.set_cons_succ, List.getElem_toArray, List.getElem_cons_zero, List.getElem_cons_succ]
          refine wpAnyH_take (i := 3) (v := ?_) rfl (by kernel_rfl) (by kernel_rfl) (by kernel_rfl) (fun _ _ _ h => h) (Or.inl ⟨by rfl, ?_⟩) (by assumption) ?_
          rotate_left
          · intro w9 hSw
            have c2 := hSw.cell a0
            go_simp
            try with_reducible rfl
          simp only [Act.put, List.setIfInBounds_toArray, List.set_cons_zero, List.set_cons_succ, List.getElem_toArray, List.getElem_cons_zero, List.getElem_cons_succ]
          refine wpAnyH_take (i := 4) (v := ?_) rfl (by kernel_rfl) (by kernel_rfl) (by kernel_rfl) (fun _ _ _ h => h) (Or.inl ⟨by rfl, ?_⟩) (by assumption) ?_
          rotate_left
          · intro w9 hSw
            go_simp
            try with_reducible rfl
          simp only [Act.put, List.setIfInBounds_toArray, List.set_cons_zero, List.set_cons_succ, List.getElem_toArray, List.getElem_cons_zero, List.getElem_cons_succ]
          refine wpAnyH_take (i := 5) (v := ?_) rfl (by kernel_rfl) (by kernel_rfl) (by kernel_rfl) (fun _ _ _ h => h) (Or.inl ⟨by rfl, ?_⟩) (by assumption) ?_
          rotate_left
          · intro w9 hSw
            go_simp
            try with_reducible rfl
          simp only [Act.put, List.setIfInBounds_toArray, List.set_cons_zero, List.set_cons_succ, List.getElem_toArray, List.getElem_cons_zero, List.getElem_cons_succ]
          refine wpAnyH_take (i := 6) (v := ?_) rfl (by kernel_rfl) (by kernel_rfl) (by kernel_rfl) (fun _ _ _ h => h) (Or.inl ⟨by rfl, ?_⟩) (by assumption) ?_
          rotate_left
          · intro w9 hSw
            go_simp
            try with_reducible rfl
          simp only [Act.put, List.setIfInBounds_toArray, List.set_cons_zero, List.set_cons_succ, List.getElem_toArray, List.getElem_cons_zero, List.getElem_cons_succ]
          refine wpAnyH_take (i := 7) (v := ?_) rfl (by kernel_rfl) (by kernel_rfl) (by kernel_rfl) (fun _ _ _ h => h) (Or.inl ⟨by rfl, ?_⟩) (by assumption) ?_
          rotate_left
          · intro w9 hSw
            have c2 := hSw.cell a1
            go_simp
            try with_reducible rfl
          simp only [Act.put, List.setIfInBounds_toArray, List.set_cons_zero, List.set_cons_succ, List.getElem_toArray, List.getElem_cons_zero, List.getElem_cons_succ]
          refine wpAnyH_take (i := 8) (v := ?_) rfl (by kernel_rfl) (by kernel_rfl) (by kernel_rfl) (fun _ _ _ h => h) (Or.inl ⟨by rfl, ?_⟩) (by assumption) ?_
          rotate_left
          · intro w9 hSw
            go_simp
            try with_reducible rfl
          simp only [Act.put, List.setIfInBounds_toArray, List.set_cons_zero, List.set_cons_succ, List.getElem_toArray, List.getElem_cons_zero, List.getElem_cons_succ]
          refine wpAnyH_take (i := 9) (v := ?_) rfl (by kernel_rfl) (by kernel_rfl) (by kernel_rfl) (fun _ _ _ h => h) (Or.inl ⟨by rfl, ?_⟩) (by assumption) ?_
          rotate_left
          · intro w9 hSw
            go_simp
            try with_reducible rfl
          simp only [Act.put, List.setIfInBounds_toArray, List.set_cons_zero, List.set_cons_succ, List.getElem_toArray, List.getElem_cons_zero, List.getElem_cons_succ]
          refine wpAnyH_take (i := 10) (v := ?_) rfl (by kernel_rfl) (by kernel_rfl) (by kernel_rfl) (fun _ _ _ h => h) (Or.inl ⟨by rfl, ?_⟩) (by assumption) ?_
          rotate_left
          · intro w9 hSw
            have c2 := hSw.cell t0
            have c3 := hSw.cell t1
            have c4 := hSw.cell t2
            have c5 := hSw.cell t3
            go_simp
            try with_reducible rfl
          simp only [Act.put, List.setIfInBounds_toArray, List.set_cons_zero, List.set_cons_succ, List.getElem_toArray, List.getElem_cons_zero, List.getElem_cons_succ]
          refine wpAnyH_ready (rs := [11]) (by kernel_rfl) (by simp) ?_
          refine AllReadyH.cons rfl (fun K hK => ?_) AllReadyH.nil
          simp only [List.getElem_toArray, List.getElem_cons_zero, List.getElem_cons_succ]
          go_simp
          refine hK.out _ _ ?_ (fun hHeld => ?_)
          · exact Ua0.alloc _
          clear hK K
          try simp only [Act.put, List.setIfInBounds_toArray, List.set_cons_zero, List.set_cons_succ]
          obtain ⟨pk, hpk⟩ : ∃ p, p = (w2.drew).heap.size := ⟨_, rfl⟩
          obtain ⟨Wa1, hW1⟩ : ∃ W1, (w2.drew).alloc (.cells tz 45) = W1 := ⟨_, rfl⟩
          refine wpAnyH_world hW1 ?_
          have h9 : w2.heap.size = pk := hpk.symm
          simp only [h9]
          clear h9
          have ua1 : Up (w2.drew) Wa1 := by rw [← hW1]; exact (Up.refl _).alloc _
          have epk : Wa1.heap[pk]? = some (.cells tz 45 (0, 0)) := by rw [hpk, ← hW1]; exact heap_alloc_new _ _
          have lpk : w2.heap.size ≤ pk := by rw [hpk]; exact Ua0.size
          have Ua1 := Ua0.trans ua1
          clear hHeld hW1 hpk
          have hSS := Ua1
          refine wpAnyH_ready (rs := [12]) (by kernel_rfl) (by simp) ?_
          refine AllReadyH.cons rfl (fun K hK => ?_) AllReadyH.nil
          simp only [List.getElem_toArray, List.getElem_cons_zero, List.getElem_cons_succ]
          refine stepH_store (by rfl) 45 (.tmp 3) (.tmp 20) (by rfl) pk #[.int .i8 4, .string st, .int .i64 tn, .int .i64 tp] (by rfl) (by rfl) 45 tz epk (infoTk) (rfl) (hone) ?_
          refine hK.out _ _ ?_ (fun hHeld => ?_)
          · exact up_setRow Ua1 lpk _
          clear hK K
          simp only [Act.put]
          obtain ⟨Wa2, hW1⟩ : ∃ W1, (Wa1).setRow pk #[.int .i8 4, .string st, .int .i64 tn, .int .i64 tp] = W1 := ⟨_, rfl⟩
          refine wpAnyH_world hW1 ?_
          have Ua2 : Up w2 Wa2 := by rw [← hW1]; exact up_setRow Ua1 lpk _
          have epk : Wa2.heap[pk]? = some (.cells #[.int .i8 4, .string st, .int .i64 tn, .int .i64 tp] 45 (0, 0)) := by rw [← hW1]; exact setRow_heap _ _ _ _ _ _ epk
          clear hHeld hW1
          have hSS := Ua2
          refine wpAnyH_done (by kernel_rfl) ?_ _
          exact key3 Wa2 pk Ua2 epk lpk
        case kp4 =>
          intro W9 pk u9 e9 l9
          have x0 : W9.cell? ⟨pk, 0, none⟩ = some (.int .i8 4) := by simp [World.cell?, e9]
          have x1 : W9.cell? ⟨pk, 1, none⟩ = some (.string st) := by simp [World.cell?, e9]
          have HU9 : Hid (Up W W9) := HU2.out.trans u9
          have hmf9 := hmf
          clear u9 e9 l9 a0 a1 a2 a3 a4 fz t0 t1 t2 t3
          go_wp2_with fail
          rw [HPo.out]
          exact ⟨HU9.out, .inl ⟨by first | rfl | trivial, by first | rfl | trivial, rfl⟩⟩
      · have h2 : ¬ (strOfNums tx).toList = [61] := fun h => ht (hiff.1 h)
        have h3 : ((strOfNums tx).toList == [61]) = false := by simpa using h2
        have HT : Hid ((decide (kd = 4) && decide (tx = [61])) = false) := by unfold Hid; simp [ht]
        rw [HT.out] at HPo
        subst hk
        clear hiff ht
        generalize strOfNums tx = st at *
        go_enter Tryz.func183, Tryz.ntmps183
        go_wp2_with fail
        refine Calls.mono HNM.out ?_
        rintro r9 w1 ⟨rfl, u1⟩
        have HU1 : Hid (Up W w1) := u1
        have HC := HFR.out w1
        clear u1 HNM HFR
        go_wp2_with fail
        refine Calls.mono HC ?_
        rintro r9 w2 ⟨rfl, e2⟩
        have HU2 : Hid (Up W w2) := by unfold Hid; rw [e2]; exact HU1.out
        clear e2 HU1 HC
        have HP2 := hP.up HU2.out
        obtain ⟨a0, a1, a2, a3, a4, fz, hbl2⟩ := HP2.cells
        obtain ⟨t0, t1, t2, t3⟩ := HT9.out w2 HU2.out
        clear HP2 hP HT9
        go_upto_region 3 with fail
        refine (fun key3 : ∀ (W9 : World) (pk : Nat), Up w2 W9 → W9.heap[pk]? = some (.cells #[.int .i8 4, .string st, .int .i64 tn, .int .i64 tp] 45 (0, 0)) → w2.heap.size ≤ pk → (?G5 : World → Nat → Prop) W9 pk => ?main5) ?kp5
        case main5 =>
          refine wp_region_held_drew (S := fun W9 => Up w2 W9) (by kernel_rfl) (Up.drew (Up.refl _)) (fun hHeld => ?_)
          have Ua0 : Up w2 w2.drew := Up.drew (Up.refl _)
          refine wpAnyH_take (i := 0) (v := ?_) rfl (by kernel_rfl) (by kernel_rfl) (by kernel_rfl) (fun _ _ _ h => h) (Or.inl ⟨by rfl, ?_⟩) (by assumption) ?_
          rotate_left
          · intro w9 hSw
            go_simp
            try with_reducible rfl
          simp only [Act.put, List.setIfInBounds_toArray, List.set_cons_zero, List.set_cons_succ, List.getElem_toArray, List.getElem_cons_zero]
          refine wpAnyH_take (i := 1) (v := ?_) rfl (by kernel_rfl) (by kernel_rfl) (by kernel_rfl) (fun _ _ _ h => h) (Or.inl ⟨by rfl, ?_⟩) (by assumption) ?_
          rotate_left
          · intro w9 hSw
            go_simp
            try with_reducible rfl
          simp only [Act.put, List.setIfInBounds_toArray, List.set_cons_zero, List.set_cons_succ, List.getElem_toArray, List.getElem_cons_zero, List.getElem_cons_succ]
          refine wpAnyH_take (i := 2) (v := ?_) rfl (by kernel_rfl) (by kernel_rfl) (by kernel_rfl) (fun _ _ _ h => h) (Or.inl ⟨by rfl, ?_⟩) (by assumption) ?_
          rotate_left
          · intro w9 hSw
            go_simp
            try with_reducible rfl
          simp only [Act.put, List.setIfInBounds_toArray, List.set_cons_zero, List.set_cons_succ, List.getElem_toArray, List.getElem_cons_zero, List.getElem_cons_succ]
          refine wpAnyH_take (i := 3) (v := ?_) rfl (by kernel_rfl) (by kernel_rfl) (by kernel_rfl) (fun _ _ _ h => h) (Or.inl ⟨by rfl, ?_⟩) (by assumption) ?_
          rotate_left
          · intro w9 hSw
            have c2 := hSw.cell a0
            go_simp
            try with_reducible rfl
          simp only [Act.put, List.setIfInBounds_toArray, List.set_cons_zero, List.set_cons_succ, List.getElem_toArray, List.getElem_cons_zero, List.getElem_cons_succ]
          refine wpAnyH_take (i := 4) (v := ?_) rfl (by kernel_rfl) (by kernel_rfl) (by kernel_rfl) (fun _ _ _ h => h) (Or.inl ⟨by rfl, ?_⟩) (by assumption) ?_
          rotate_left
          · intro w9 hSw
            go_simp
            try with_reducible rfl
          simp only [Act.put, List.setIfInBounds_toArray, List.set_cons_zero, List.set_cons_succ, List.getElem_toArray, List.getElem_cons_zero, List.getElem_cons_succ]
          refine wpAnyH_take (i := 5) (v := ?_) rfl (by kernel_rfl) (by kernel_rfl) (by kernel_rfl) (fun _ _ _ h => h) (Or.inl ⟨by rfl, ?_⟩) (by assumption) ?_
          rotate_left
          · intro w9 hSw
            go_simp
            try with_reducible rfl
          simp only [Act.put, List.setIfInBounds_toArray, List.set_cons_zero, List.set_cons_succ, List.getElem_toArray, List.getElem_cons_zero, List.getElem_cons_succ]
          refine wpAnyH_take (i := 6) (v := ?_) rfl (by kernel_rfl) (by kernel_rfl) (by kernel_rfl) (fun _ _ _ h => h) (Or.inl ⟨by rfl, ?_⟩) (by assumption) ?_
          rotate_left
          · intro w9 hSw
            go_simp
            try with_reducible rfl
          simp only [Act.put, List.setIfInBounds_toArray, List.set_cons_zero, List.set_cons_succ, List.getElem_toArray, List.getElem_cons_zero, List.getElem_cons_succ]
          refine wpAnyH_take (i := 7) (v := ?_) rfl (by kernel_rfl) (by kernel_rfl) (by kernel_rfl) (fun _ _ _ h => h) (Or.inl ⟨by rfl, ?_⟩) (by assumption) ?_
          rotate_left
          · intro w9 hSw
            have c2 := hSw.cell a1
            go_simp
            try with_reducible rfl
          simp only [Act.put, List.setIfInBounds_toArray, List.set_cons_zero, List.set_cons_succ, List.getElem_toArray, List.getElem_cons_zero, List.getElem_cons_succ]
          refine wpAnyH_take (i := 8) (v := ?_) rfl (by kernel_rfl) (by kernel_rfl) (by kernel_rfl) (fun _ _ _ h => h) (Or.inl ⟨by rfl, ?_⟩) (by assumption) ?_
          rotate_left
          · intro w9 hSw
            go_simp
            try with_reducible rfl
          simp only [Act.put, List.setIfInBounds_toArray, List.set_cons_zero, List.set_cons_succ, List.getElem_toArray, List.getElem_cons_zero, List.getElem_cons_succ]
          refine wpAnyH_take (i := 9) (v := ?_) rfl (by kernel_rfl) (by kernel_rfl) (by kernel_rfl) (fun _ _ _ h => h) (Or.inl ⟨by rfl, ?_⟩) (by assumption) ?_
          rotate_left
          · intro w9 hSw
            go_simp
            try with_reducible rfl
          simp only [Act.put, List.setIfInBounds_toArray, List.set_cons_zero, List.set_cons_succ, List.getElem_toArray, List.getElem_cons_zero, List.getElem_cons_succ]
          refine wpAnyH_take (i := 10) (v := ?_) rfl (by kernel_rfl) (by kernel_rfl) (by kernel_rfl) (fun _ _ _ h => h) (Or.inl ⟨by rfl, ?_⟩) (by assumption) ?_
          rotate_left
          · intro w9 hSw
            have c2 := hSw.cell t0
            have c3 := hSw.cell t1
            have c4 := hSw.cell t2
            have c5 := hSw.cell t3
            go_simp
            try with_reducible rfl
          simp only [Act.put, List.setIfInBounds_toArray, List.set_cons_zero, List.set_cons_succ, List.getElem_toArray, List.getElem_cons_zero, List.getElem_cons_succ]
          refine wpAnyH_ready (rs := [11]) (by kernel_rfl) (by simp) ?_
          refine AllReadyH.cons rfl (fun K hK => ?_) AllReadyH.nil
          simp only [List.getElem_toArray, List.getElem_cons_zero, List.getElem_cons_succ]
          go_simp
          refine hK.out _ _ ?_ (fun hHeld => ?_)
          · exact Ua0.alloc _
          clear hK K
          try simp only [Act.put, List.setIfInBounds_toArray, List.set_cons_zero, List.set_cons_succ]
          obtain ⟨pk, hpk⟩ : ∃ p, p = (w2.drew).heap.size := ⟨_, rfl⟩
          obtain ⟨Wa1, hW1⟩ : ∃ W1, (w2.drew).alloc (.cells tz 45) = W1 := ⟨_, rfl⟩
          refine wpAnyH_world hW1 ?_
          have h9 : w2.heap.size = pk := hpk.symm
          simp only [h9]
          clear h9
          have ua1 : Up (w2.drew) Wa1 := by rw [← hW1]; exact (Up.refl _).alloc _
          have epk : Wa1.heap[pk]? = some (.cells tz 45 (0, 0)) := by rw [hpk, ← hW1]; exact heap_alloc_new _ _
          have lpk : w2.heap.size ≤ pk := by rw [hpk]; exact Ua0.size
          have Ua1 := Ua0.trans ua1
          clear hHeld hW1 hpk
          have hSS := Ua1
          refine wpAnyH_ready (rs := [12]) (by kernel_rfl) (by simp) ?_
          refine AllReadyH.cons rfl (fun K hK => ?_) AllReadyH.nil
          simp only [List.getElem_toArray, List.getElem_cons_zero, List.getElem_cons_succ]
          refine stepH_store (by rfl) 45 (.tmp 3) (.tmp 20) (by rfl) pk #[.int .i8 4, .string st, .int .i64 tn, .int .i64 tp] (by rfl) (by rfl) 45 tz epk (infoTk) (rfl) (hone) ?_
          refine hK.out _ _ ?_ (fun hHeld => ?_)
          · exact up_setRow Ua1 lpk _
          clear hK K
          simp only [Act.put]
          obtain ⟨Wa2, hW1⟩ : ∃ W1, (Wa1).setRow pk #[.int .i8 4, .string st, .int .i64 tn, .int .i64 tp] = W1 := ⟨_, rfl⟩
          refine wpAnyH_world hW1 ?_
          have Ua2 : Up w2 Wa2 := by rw [← hW1]; exact up_setRow Ua1 lpk _
          have epk : Wa2.heap[pk]? = some (.cells #[.int .i8 4, .string st, .int .i64 tn, .int .i64 tp] 45 (0, 0)) := by rw [← hW1]; exact setRow_heap _ _ _ _ _ _ epk
          clear hHeld hW1
          have hSS := Ua2
          refine wpAnyH_done (by kernel_rfl) ?_ _
          exact key3 Wa2 pk Ua2 epk lpk
        case kp5 =>
          intro W9 pk u9 e9 l9
          have x0 : W9.cell? ⟨pk, 0, none⟩ = some (.int .i8 4) := by simp [World.cell?, e9]
          have x1 : W9.cell? ⟨pk, 1, none⟩ = some (.string st) := by simp [World.cell?, e9]
          have HU9 : Hid (Up W W9) := HU2.out.trans u9
          have hmf9 := hmf
          clear u9 e9 l9 a0 a1 a2 a3 a4 fz t0 t1 t2 t3
          go_wp2_with fail
          rw [HPo.out]
          exact ⟨HU9.out, .inr (.inl ⟨by first | rfl | trivial, by first | rfl | trivial, rfl⟩)⟩
    · have hk2 : (kd == 4) = false := by simpa using hk
      have HT : Hid ((decide (kd = 4) && decide (tx = [61])) = false) := by unfold Hid; simp [hk]
      rw [HT.out] at HPo
      clear hiff hk
      generalize strOfNums tx = st at *
      go_enter Tryz.func183, Tryz.ntmps183
      go_wp2_with fail
      refine Calls.mono HNM.out ?_
      rintro r9 w1 ⟨rfl, u1⟩
      have HU1 : Hid (Up W w1) := u1
      have HC := HFR.out w1
      clear u1 HNM HFR
      go_wp2_with fail
      refine Calls.mono HC ?_
      rintro r9 w2 ⟨rfl, e2⟩
      have HU2 : Hid (Up W w2) := by unfold Hid; rw [e2]; exact HU1.out
      clear e2 HU1 HC
      have HP2 := hP.up HU2.out
      obtain ⟨a0, a1, a2, a3, a4, fz, hbl2⟩ := HP2.cells
      obtain ⟨t0, t1, t2, t3⟩ := HT9.out w2 HU2.out
      clear HP2 hP HT9
      go_upto_region 3 with fail
      refine (fun key3 : ∀ (W9 : World) (pk : Nat), Up w2 W9 → W9.heap[pk]? = some (.cells #[.int .i8 kd, .string st, .int .i64 tn, .int .i64 tp] 45 (0, 0)) → w2.heap.size ≤ pk → (?G6 : World → Nat → Prop) W9 pk => ?main6) ?kp6
      case main6 =>
        refine wp_region_held_drew (S := fun W9 => Up w2 W9) (by kernel_rfl) (Up.drew (Up.refl _)) (fun hHeld => ?_)
        have Ua0 : Up w2 w2.drew := Up.drew (Up.refl _)
        refine wpAnyH_take (i := 0) (v := ?_) rfl (by kernel_rfl) (by kernel_rfl) (by kernel_rfl) (fun _ _ _ h => h) (Or.inl ⟨by rfl, ?_⟩) (by assumption) ?_
        rotate_left
        · intro w9 hSw
          go_simp
          try with_reducible rfl
        simp only [Act.put, List.setIfInBounds_toArray, List.set_cons_zero, List.set_cons_succ, List.getElem_toArray, List.getElem_cons_zero]
        refine wpAnyH_take (i := 1) (v := ?_) rfl (by kernel_rfl) (by kernel_rfl) (by kernel_rfl) (fun _ _ _ h => h) (Or.inl ⟨by rfl, ?_⟩) (by assumption) ?_
        rotate_left
        · intro w9 hSw
          go_simp
          try with_reducible rfl
        simp only [Act.put, List.setIfInBounds_toArray, List.set_cons_zero, List.set_cons_succ, List.getElem_toArray, List.getElem_cons_zero, List.getElem_cons_succ]
        refine wpAnyH_take (i := 2) (v := ?_) rfl (by kernel_rfl) (by kernel_rfl) (by kernel_rfl) (fun _ _ _ h => h) (Or.inl ⟨by rfl, ?_⟩) (by assumption) ?_
        rotate_left
        · intro w9 hSw
          go_simp
          try with_reducible rfl
        simp only [Act.put, List.setIfInBounds_toArray, List.set_cons_zero, List.set_cons_succ, List.getElem_toArray, List.getElem_cons_zero, List.getElem_cons_succ]
        refine wpAnyH_take (i := 3) (v := ?_) rfl (by kernel_rfl) (by kernel_rfl) (by kernel_rfl) (fun _ _ _ h => h) (Or.inl ⟨by rfl, ?_⟩) (by assumption) ?_
        rotate_left
        · intro w9 hSw
          have c2 := hSw.cell a0
          go_simp
          try with_reducible rfl
        simp only [Act.put, List.setIfInBounds_toArray, List.set_cons_zero, List.set_cons_succ, List.getElem_toArray, List.getElem_cons_zero, List.getElem_cons_succ]
        refine wpAnyH_take (i := 4) (v := ?_) rfl (by kernel_rfl) (by kernel_rfl) (by kernel_rfl) (fun _ _ _ h => h) (Or.inl ⟨by rfl, ?_⟩) (by assumption) ?_
        rotate_left
        · intro w9 hSw
          go_simp
          try with_reducible rfl
        simp only [Act.put, List.setIfInBounds_toArray, List.set_cons_zero, List.set_cons_succ, List.getElem_toArray, List.getElem_cons_zero, List.getElem_cons_succ]
        refine wpAnyH_take (i := 5) (v := ?_) rfl (by kernel_rfl) (by kernel_rfl) (by kernel_rfl) (fun _ _ _ h => h) (Or.inl ⟨by rfl, ?_⟩) (by assumption) ?_
        rotate_left
        · intro w9 hSw
          go_simp
          try with_reducible rfl
        simp only [Act.put, List.setIfInBounds_toArray, List.set_cons_zero, List.set_cons_succ, List.getElem_toArray, List.getElem_cons_zero, List.getElem_cons_succ]
        refine wpAnyH_take (i := 6) (v := ?_) rfl (by kernel_rfl) (by kernel_rfl) (by kernel_rfl) (fun _ _ _ h => h) (Or.inl ⟨by rfl, ?_⟩) (by assumption) ?_
        rotate_left
        · intro w9 hSw
          go_simp
          try with_reducible rfl
        simp only [Act.put, List.setIfInBounds_toArray, List.set_cons_zero, List.set_cons_succ, List.getElem_toArray, List.getElem_cons_zero, List.getElem_cons_succ]
        refine wpAnyH_take (i := 7) (v := ?_) rfl (by kernel_rfl) (by kernel_rfl) (by kernel_rfl) (fun _ _ _ h => h) (Or.inl ⟨by rfl, ?_⟩) (by assumption) ?_
        rotate_left
        · intro w9 hSw
          have c2 := hSw.cell a1
          go_simp
          try with_reducible rfl
        simp only [Act.put, List.setIfInBounds_toArray, List.set_cons_zero, List.set_cons_succ, List.getElem_toArray, List.getElem_cons_zero, List.getElem_cons_succ]
        refine wpAnyH_take (i := 8) (v := ?_) rfl (by kernel_rfl) (by kernel_rfl) (by kernel_rfl) (fun _ _ _ h => h) (Or.inl ⟨by rfl, ?_⟩) (by assumption) ?_
        rotate_left
        · intro w9 hSw
          go_simp
          try with_reducible rfl
        simp only [Act.put, List.setIfInBounds_toArray, List.set_cons_zero, List.set_cons_succ, List.getElem_toArray, List.getElem_cons_zero, List.getElem_cons_succ]
        refine wpAnyH_take (i := 9) (v := ?_) rfl (by kernel_rfl) (by kernel_rfl) (by kernel_rfl) (fun _ _ _ h => h) (Or.inl ⟨by rfl, ?_⟩) (by assumption) ?_
        rotate_left
        · intro w9 hSw
          go_simp
          try with_reducible rfl
        simp only [Act.put, List.setIfInBounds_toArray, List.set_cons_zero, List.set_cons_succ, List.getElem_toArray, List.getElem_cons_zero, List.getElem_cons_succ]
        refine wpAnyH_take (i := 10) (v := ?_) rfl (by kernel_rfl) (by kernel_rfl) (by kernel_rfl) (fun _ _ _ h => h) (Or.inl ⟨by rfl, ?_⟩) (by assumption) ?_
        rotate_left
        · intro w9 hSw
          have c2 := hSw.cell t0
          have c3 := hSw.cell t1
          have c4 := hSw.cell t2
          have c5 := hSw.cell t3
          go_simp
          try with_reducible rfl
        simp only [Act.put, List.setIfInBounds_toArray, List.set_cons_zero, List.set_cons_succ, List.getElem_toArray, List.getElem_cons_zero, List.getElem_cons_succ]
        refine wpAnyH_ready (rs := [11]) (by kernel_rfl) (by simp) ?_
        refine AllReadyH.cons rfl (fun K hK => ?_) AllReadyH.nil
        simp only [List.getElem_toArray, List.getElem_cons_zero, List.getElem_cons_succ]
        go_simp
        refine hK.out _ _ ?_ (fun hHeld => ?_)
        · exact Ua0.alloc _
        clear hK K
        try simp only [Act.put, List.setIfInBounds_toArray, List.set_cons_zero, List.set_cons_succ]
        obtain ⟨pk, hpk⟩ : ∃ p, p = (w2.drew).heap.size := ⟨_, rfl⟩
        obtain ⟨Wa1, hW1⟩ : ∃ W1, (w2.drew).alloc (.cells tz 45) = W1 := ⟨_, rfl⟩
        refine wpAnyH_world hW1 ?_
        have h9 : w2.heap.size = pk := hpk.symm
        simp only [h9]
        clear h9
        have ua1 : Up (w2.drew) Wa1 := by rw [← hW1]; exact (Up.refl _).alloc _
        have epk : Wa1.heap[pk]? = some (.cells tz 45 (0, 0)) := by rw [hpk, ← hW1]; exact heap_alloc_new _ _
        have lpk : w2.heap.size ≤ pk := by rw [hpk]; exact Ua0.size
        have Ua1 := Ua0.trans ua1
        clear hHeld hW1 hpk
        have hSS := Ua1
        refine wpAnyH_ready (rs := [12]) (by kernel_rfl) (by simp) ?_
        refine AllReadyH.cons rfl (fun K hK => ?_) AllReadyH.nil
        simp only [List.getElem_toArray, List.getElem_cons_zero, List.getElem_cons_succ]
        refine stepH_store (by rfl) 45 (.tmp 3) (.tmp 20) (by rfl) pk #[.int .i8 kd, .string st, .int .i64 tn, .int .i64 tp] (by rfl) (by rfl) 45 tz epk (infoTk) (rfl) (hone) ?_
        refine hK.out _ _ ?_ (fun hHeld => ?_)
        · exact up_setRow Ua1 lpk _
        clear hK K
        simp only [Act.put]
        obtain ⟨Wa2, hW1⟩ : ∃ W1, (Wa1).setRow pk #[.int .i8 kd, .string st, .int .i64 tn, .int .i64 tp] = W1 := ⟨_, rfl⟩
        refine wpAnyH_world hW1 ?_
        have Ua2 : Up w2 Wa2 := by rw [← hW1]; exact up_setRow Ua1 lpk _
        have epk : Wa2.heap[pk]? = some (.cells #[.int .i8 kd, .string st, .int .i64 tn, .int .i64 tp] 45 (0, 0)) := by rw [← hW1]; exact setRow_heap _ _ _ _ _ _ epk
        clear hHeld hW1
        have hSS := Ua2
        refine wpAnyH_done (by kernel_rfl) ?_ _
        exact key3 Wa2 pk Ua2 epk lpk
      case kp6 =>
        intro W9 pk u9 e9 l9
        have x0 : W9.cell? ⟨pk, 0, none⟩ = some (.int .i8 kd) := by simp [World.cell?, e9]
        have x1 : W9.cell? ⟨pk, 1, none⟩ = some (.string st) := by simp [World.cell?, e9]
        have HU9 : Hid (Up W W9) := HU2.out.trans u9
        have hmf9 := hmf
        clear u9 e9 l9 a0 a1 a2 a3 a4 fz t0 t1 t2 t3
        go_wp2_with fail
        rw [HPo.out]
        exact ⟨HU9.out, .inr (.inl ⟨by first | rfl | trivial, by first | rfl | trivial, rfl⟩)⟩
end TP
end Go.Proofs.YtkldllnnocdhbaaGreatDoor
namespace Go.Proofs.YtkldllnnocdhbaaGreatDoor
open Go.RowKit
namespace KD
/- block m of W is a map from names: what it holds, in the order in which it came -/
def MP (W : World) (m : Nat) (l : List (ByteArray × Value)) : Prop := ∃ es clock, W.heap[m]? = some (.map es clock) ∧ es.toList.map (fun e => (e.key, e.val)) = l.map fun p => (Value.string p.1, p.2)
def lk (l : List (ByteArray × Value)) (s : ByteArray) : Option Value := (l.find? (fun p => decide (p.1 = s))).map (·.2)
theorem MP.lt {W : World} {m : Nat} {l : List (ByteArray × Value)} (h : MP W m l) : m < W.heap.size := by
  obtain ⟨es, c, h1, _⟩ := h
  exact (Array.getElem?_eq_some_iff.1 h1).1
theorem MP.up {W W' : World} {m : Nat} {l : List (ByteArray × Value)} (h : MP W m l) (u : Up W W') : MP W' m l := by
  obtain ⟨es, c, h1, h2⟩ := h
  exact ⟨es, c, u.heap h1, h2⟩
theorem mp_made (W : World) : MP (W.alloc (.map #[] 0)) W.heap.size [] := ⟨#[], 0, heap_alloc_new W _, rfl⟩
theorem findNow_mp (s : ByteArray) : ∀ (es : List MapEntry) (l : List (ByteArray × Value)) (i : Nat), es.map (fun e => (e.key, e.val)) = l.map (fun p => (Value.string p.1, p.2)) →
    (lk l s = none ∧ Instr.findNow .string (.string s) es i = some none) ∨ ∃ j v, lk l s = some v ∧ Instr.findNow .string (.string s) es i = some (some (j, v))
  | [], [], i, _ => .inl ⟨rfl, rfl⟩
  | [], _ :: _, i, h => by simp at h
  | _ :: _, [], i, h => by simp at h
  | e :: es, p :: l, i, h => by
    simp only [List.map_cons, List.cons.injEq, Prod.mk.injEq] at h
    obtain ⟨⟨h1, h2⟩, h3⟩ := h
    obtain ⟨r, hr, hiff⟩ := MapKept.sameNow_of_keys (d := .string) (a := .string s) (b := .string p.1) (by trivial) (by trivial)
    by_cases hs : p.1 = s
    · have hr2 : r = true := hiff.2 (by rw [hs])
      subst hr2
      refine .inr ⟨i, p.2, by simp [lk, hs], ?_⟩
      simp only [Instr.findNow, h1, hr, h2]
    · have hr2 : r = false := by
        cases r with
        | false => rfl
        | true => have h9 := hiff.1 rfl; simp only [Value.string.injEq] at h9; exact absurd h9.symm hs
      subst hr2
      have e1 : lk (p :: l) s = lk l s := by simp [lk, hs]
      have e2 : Instr.findNow .string (.string s) (e :: es) i = Instr.findNow .string (.string s) es (i + 1) := by simp only [Instr.findNow, h1, hr]
      rw [e1, e2]
      exact findNow_mp s es l (i + 1) h3
theorem only_setObj {W : World} {m : Nat} (o : Obj) : Only m W { W with heap := W.heap.setIfInBounds m o } :=
  ⟨⟨rfl, rfl, rfl⟩, by simp, fun g _ hb => by simp [Ne.symm hb]⟩
theorem run_upd {P : Program} {t k e : TypeId} (ht : P.underlying t = some (.map k e)) (hk : P.underlying k = some .string) {W : World} {m : Nat} {l : List (ByteArray × Value)} (h : MP W m l) (s : ByteArray) (v : Value) (hs : lk l s = none) :
    ∃ W', (Instr.mapUpdate t (.map (some m)) (.string s) v).run P W = .ok () W' ∧ MP W' m (l ++ [(s, v)]) ∧ Only m W W' := by
  have hl := h.lt
  obtain ⟨es, c, h1, h2⟩ := h
  refine ⟨{ W with heap := W.heap.setIfInBounds m (.map (es.push ⟨.string s, v, c⟩) (c + 1)) }, ?_, ⟨es.push ⟨.string s, v, c⟩, c + 1, by simp [hl], by simp [h2]⟩, only_setObj _⟩
  rcases findNow_mp s es.toList l 0 h2 with ⟨_, h3⟩ | ⟨j, v', h3, _⟩
  · have e1 := MapKept.run_findKey (P := P) (w := W) hk h3
    have e2 := MapKept.run_checkKey (P := P) (w := W) (k := .string s) hk (by trivial) false 9999
    simp [Instr.mapUpdate, run_underlying ht, MapKept.run_getObj_map h1, e2, e1, MapKept.run_setObj_map _ h1, Result.andThen]
  · rw [hs] at h3; cases h3
theorem run_look {P : Program} {t k e : TypeId} (ht : P.underlying t = some (.map k e)) (hk : P.underlying k = some .string) {W : World} {m : Nat} {l : List (ByteArray × Value)} (h : MP W m l) (s : ByteArray) {z : Value} (hz : (zeroValue e).run P W = .ok z W) :
    (Instr.lookup t (.map (some m)) (.string s) true).run P W = .ok (.tuple #[(lk l s).getD z, .bool (lk l s).isSome]) W := by
  obtain ⟨es, c, h1, h2⟩ := h
  have e2 := fun b => MapKept.run_checkKey (P := P) (w := W) (k := .string s) hk (by trivial) b 9999
  rcases findNow_mp s es.toList l 0 h2 with ⟨h4, h3⟩ | ⟨j, v, h4, h3⟩
  · have e1 := MapKept.run_findKey (P := P) (w := W) hk h3
    simp [Instr.lookup, run_underlying ht, MapKept.run_getObj_map h1, e2, e1, hz, h4, Result.andThen]
  · have e1 := MapKept.run_findKey (P := P) (w := W) hk h3
    simp [Instr.lookup, run_underlying ht, MapKept.run_getObj_map h1, e2, e1, h4, Result.andThen]
theorem wpList_upd {P : Program} {w : World} {ops : Array Oper} {rest : List Oper} {o : Oper} {a : Act} {Q : Exit → Act → World → Prop}
    (hg : o.guard = none) (m x v : Operand) (t : TypeId) (hop : o.op = Op.mapUpdate t m x v ∨ o.op = Op.insert t m x v) (k e : TypeId) (ht : P.underlying t = some (.map k e)) (hk : P.underlying k = some .string)
    (b : Nat) (l : List (ByteArray × Value)) (s : ByteArray) (y : Value) (hm : a.eval m = .map (some b)) (hx : a.eval x = .string s) (hv : a.eval v = y) (h : MP w b l) (hs : lk l s = none)
    (hK : ∀ w', MP w' b (l ++ [(s, y)]) → Only b w w' → wpList P ops Q rest (a.put o.dst undef) w') : wpList P ops Q (o :: rest) a w := by
  refine wpList_plain hg fun K' hK' => ?_
  obtain ⟨w', hrun, r1, r2⟩ := run_upd ht hk h s y hs
  unfold Oper.wp
  rcases hop with hop | hop
  · simp [execOp, hop, hm, hx, hv, hrun, Result.andThen]
    exact hK' _ _ (hK w' r1 r2)
  · simp [execOp, hop, hm, hx, hv, hrun, Result.andThen]
    exact hK' _ _ (hK w' r1 r2)
theorem wpList_look {P : Program} {w : World} {ops : Array Oper} {rest : List Oper} {o : Oper} {a : Act} {Q : Exit → Act → World → Prop}
    (hg : o.guard = none) (m x : Operand) (t : TypeId) (hop : o.op = Op.lookup t m x true) (k e : TypeId) (ht : P.underlying t = some (.map k e)) (hk : P.underlying k = some .string)
    (b : Nat) (l : List (ByteArray × Value)) (s : ByteArray) (z : Value) (hm : a.eval m = .map (some b)) (hx : a.eval x = .string s) (h : MP w b l) (hz : (zeroValue e).run P w = .ok z w)
    (hK : wpList P ops Q rest (a.put o.dst (.tuple #[(lk l s).getD z, .bool (lk l s).isSome])) w) : wpList P ops Q (o :: rest) a w := by
  refine wpList_plain hg fun K' hK' => ?_
  have hrun := run_look ht hk h s hz
  unfold Oper.wp
  simp [execOp, hop, hm, hx, hrun, Result.andThen]
  exact hK' _ _ hK
end KD
end Go.Proofs.YtkldllnnocdhbaaGreatDoor
