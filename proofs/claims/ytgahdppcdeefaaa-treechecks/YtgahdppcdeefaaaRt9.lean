/-
  The document's texts and numbers of a node; what is wanted.
-/
import Derived.Test.YtgahdppcdeefaaaRw9
namespace Go.Proofs.Ytgahdppcdeefaaa
open Go.RowKit
attribute [local go_sem ↓] Go.wp_at_zero Go.wp_at_succ
namespace TR
def rTx (op : Int) (l : List Int) : Bool :=
  if op = 2 ∨ op = 6 ∨ op = 52 then isT l
  else if op = 11 ∨ op = 14 ∨ op = 15 ∨ op = 16 ∨ op = 50 then isN l && !words.contains l
  else if op = 12 ∨ op = 33 then (isN l && !words.contains l) || (decide (l = wself) || decide (l = wme))
  else if op = 19 then (isN l && !words.contains l) || (decide (l = whit) || decide (l = wdraw))
  else if op = 49 then isN l
  else decide (l = [])
def rNum (op n : Int) : Bool :=
  if op = 3 ∨ op = 4 ∨ op = 5 ∨ op = 14 ∨ op = 30 then decide (0 ≤ n)
  else if op = 7 then decide (0 ≤ n) && decide (n ≤ 4)
  else if op = 51 then decide (0 ≤ n) && decide (n ≤ 3)
  else decide (n = 0)
set_option maxRecDepth 100000 in
set_option maxHeartbeats 16000000 in
theorem rtexts_ (x : Nd) (w : World) (hl : Byt x.text) : Calls Try.prog 38 #[.agg (ndA x)] w fun e w' => e = .returned (.bool (rTx x.op x.text)) ∧ Up w w' := by
  obtain ⟨Post, hPost⟩ : ∃ P : Ending → World → Prop, P = fun e w' => e = .returned (.bool (rTx x.op x.text)) ∧ Up w w' := ⟨_, rfl⟩
  rw [← hPost]
  have HPo : Hid (Post = fun e w' => e = .returned (.bool (rTx x.op x.text)) ∧ Up w w') := hPost
  clear hPost
  obtain ⟨op, kd, n, m, l, ps, ks⟩ := x
  have hl : Byt l := hl
  have HPo : Hid (Post = fun e w' => e = .returned (.bool (rTx op l)) ∧ Up w w') := HPo
  show Calls Try.prog 38 #[.agg #[.int .i8 op, .int .i8 kd, .int .i64 n, .int .i64 m, .string (strOfNums l), .int .i64 ps, .int .i64 ks]] w Post
  have HT : Hid (∀ W, Calls Try.prog 55 #[.string (strOfNums l)] W fun e w' => e = .returned (.bool (isT l)) ∧ Up W w') := fun W => (rtext_ l W hl).mono fun e w' ⟨h1, h2⟩ => ⟨h1, by rw [h2]; exact Up.refl _⟩
  have HN : Hid (∀ W, Calls Try.prog 57 #[.string (strOfNums l)] W fun e w' => e = .returned (.bool (isN l)) ∧ Up W w') := fun W => (rname_ l W hl).mono fun e w' ⟨h1, h2⟩ => ⟨h1, by rw [h2]; exact Up.refl _⟩
  have HF : Hid (∀ W, Calls Try.prog 56 #[.string (strOfNums l)] W fun e w' => e = .returned (.bool (isN l && !words.contains l)) ∧ Up W w') := fun W => dfree_ l W hl
  have HS : Hid (∀ y : List Int, Byt y → ((strOfNums l).toList = y.map (fun n => UInt8.ofNat n.toNat) ↔ l = y)) := fun y hy => by
    rw [← nums_list]
    exact ⟨fun h => nums_inj hl hy h, fun h => by rw [h]⟩
  have HNI : Hid ((strOfNums l).toList = [] ↔ l = []) := nums_nil
  generalize strOfNums l = s at *
  obtain ⟨fr, hfr⟩ : ∃ fr, fr = (isN l && !words.contains l) := ⟨_, rfl⟩
  have HFR : Hid (fr = (isN l && !words.contains l)) := hfr
  rw [← hfr] at HF
  clear hfr
  by_cases hop : op = 2 ∨ op = 6 ∨ op = 52 ∨ op = 11 ∨ op = 14 ∨ op = 15 ∨ op = 16 ∨ op = 50 ∨ op = 12 ∨ op = 33 ∨ op = 19 ∨ op = 49
  · clear HNI hl
    rcases hop with rfl | rfl | rfl | rfl | rfl | rfl | rfl | rfl | rfl | rfl | rfl | rfl
    · -- 2
      have HE : Hid (rTx 2 l = isT l) := rfl
      go_enter Try.func38, Try.ntmps38
      go_wp2_with fail
      refine Calls.mono (HT.out _) ?_
      rintro e w1 ⟨rfl, u⟩
      have HU : Hid (Up w w1) := ((Up.refl w).alloc _).trans u
      have x4 : w1.cell? ⟨w.heap.size, 4, none⟩ = some (.string s) := by
        have h9 := u.heap (heap_alloc_new w _)
        simp [World.cell?, h9]
      clear u
      go_wp2_with fail
      rw [HPo.out, HE.out]
      exact ⟨rfl, HU.out⟩
    · -- 6
      have HE : Hid (rTx 6 l = isT l) := rfl
      go_enter Try.func38, Try.ntmps38
      go_wp2_with fail
      refine Calls.mono (HT.out _) ?_
      rintro e w1 ⟨rfl, u⟩
      have HU : Hid (Up w w1) := ((Up.refl w).alloc _).trans u
      have x4 : w1.cell? ⟨w.heap.size, 4, none⟩ = some (.string s) := by
        have h9 := u.heap (heap_alloc_new w _)
        simp [World.cell?, h9]
      clear u
      go_wp2_with fail
      rw [HPo.out, HE.out]
      exact ⟨rfl, HU.out⟩
    · -- 52
      have HE : Hid (rTx 52 l = isT l) := rfl
      go_enter Try.func38, Try.ntmps38
      go_wp2_with fail
      refine Calls.mono (HT.out _) ?_
      rintro e w1 ⟨rfl, u⟩
      have HU : Hid (Up w w1) := ((Up.refl w).alloc _).trans u
      have x4 : w1.cell? ⟨w.heap.size, 4, none⟩ = some (.string s) := by
        have h9 := u.heap (heap_alloc_new w _)
        simp [World.cell?, h9]
      clear u
      go_wp2_with fail
      rw [HPo.out, HE.out]
      exact ⟨rfl, HU.out⟩
    · -- 11
      have HE : Hid (rTx 11 l = fr) := by rw [HFR.out]; rfl
      go_enter Try.func38, Try.ntmps38
      go_wp2_with fail
      refine Calls.mono (HF.out _) ?_
      rintro e w1 ⟨rfl, u⟩
      have HU : Hid (Up w w1) := ((Up.refl w).alloc _).trans u
      have x4 : w1.cell? ⟨w.heap.size, 4, none⟩ = some (.string s) := by
        have h9 := u.heap (heap_alloc_new w _)
        simp [World.cell?, h9]
      clear u
      go_wp2_with fail
      rw [HPo.out, HE.out]
      exact ⟨rfl, HU.out⟩
    · -- 14
      have HE : Hid (rTx 14 l = fr) := by rw [HFR.out]; rfl
      go_enter Try.func38, Try.ntmps38
      go_wp2_with fail
      refine Calls.mono (HF.out _) ?_
      rintro e w1 ⟨rfl, u⟩
      have HU : Hid (Up w w1) := ((Up.refl w).alloc _).trans u
      have x4 : w1.cell? ⟨w.heap.size, 4, none⟩ = some (.string s) := by
        have h9 := u.heap (heap_alloc_new w _)
        simp [World.cell?, h9]
      clear u
      go_wp2_with fail
      rw [HPo.out, HE.out]
      exact ⟨rfl, HU.out⟩
    · -- 15
      have HE : Hid (rTx 15 l = fr) := by rw [HFR.out]; rfl
      go_enter Try.func38, Try.ntmps38
      go_wp2_with fail
      refine Calls.mono (HF.out _) ?_
      rintro e w1 ⟨rfl, u⟩
      have HU : Hid (Up w w1) := ((Up.refl w).alloc _).trans u
      have x4 : w1.cell? ⟨w.heap.size, 4, none⟩ = some (.string s) := by
        have h9 := u.heap (heap_alloc_new w _)
        simp [World.cell?, h9]
      clear u
      go_wp2_with fail
      rw [HPo.out, HE.out]
      exact ⟨rfl, HU.out⟩
    · -- 16
      have HE : Hid (rTx 16 l = fr) := by rw [HFR.out]; rfl
      go_enter Try.func38, Try.ntmps38
      go_wp2_with fail
      refine Calls.mono (HF.out _) ?_
      rintro e w1 ⟨rfl, u⟩
      have HU : Hid (Up w w1) := ((Up.refl w).alloc _).trans u
      have x4 : w1.cell? ⟨w.heap.size, 4, none⟩ = some (.string s) := by
        have h9 := u.heap (heap_alloc_new w _)
        simp [World.cell?, h9]
      clear u
      go_wp2_with fail
      rw [HPo.out, HE.out]
      exact ⟨rfl, HU.out⟩
    · -- 50
      have HE : Hid (rTx 50 l = fr) := by rw [HFR.out]; rfl
      go_enter Try.func38, Try.ntmps38
      go_wp2_with fail
      refine Calls.mono (HF.out _) ?_
      rintro e w1 ⟨rfl, u⟩
      have HU : Hid (Up w w1) := ((Up.refl w).alloc _).trans u
      have x4 : w1.cell? ⟨w.heap.size, 4, none⟩ = some (.string s) := by
        have h9 := u.heap (heap_alloc_new w _)
        simp [World.cell?, h9]
      clear u
      go_wp2_with fail
      rw [HPo.out, HE.out]
      exact ⟨rfl, HU.out⟩
    · -- 12
      have HE : Hid (rTx 12 l = (fr || (decide (l = wself) || decide (l = wme)))) := by rw [HFR.out]; rfl
      have q1 : s.toList = [115, 101, 108, 102] ↔ l = wself := HS.out wself (by unfold Byt; decide)
      have q2 : s.toList = [109, 101] ↔ l = wme := HS.out wme (by unfold Byt; decide)
      clear HFR
      cases fr with
      | true =>
        go_enter Try.func38, Try.ntmps38
        go_wp2_with fail
        refine Calls.mono (HF.out _) ?_
        rintro e w1 ⟨rfl, u⟩
        have HU : Hid (Up w w1) := ((Up.refl w).alloc _).trans u
        have x4 : w1.cell? ⟨w.heap.size, 4, none⟩ = some (.string s) := by
          have h9 := u.heap (heap_alloc_new w _)
          simp [World.cell?, h9]
        clear u
        go_wp2_with fail
        rw [HPo.out, HE.out]
        exact ⟨rfl, HU.out⟩
      | false =>
        by_cases c1 : l = wself
        · have p1 := q1.2 c1
          have HE2 : Hid (rTx 12 l = true) := by unfold Hid; rw [HE.out, decide_eq_true c1]; rfl
          clear q1 q2 c1
          go_enter Try.func38, Try.ntmps38
          go_wp2_with fail
          refine Calls.mono (HF.out _) ?_
          rintro e w1 ⟨rfl, u⟩
          have HU : Hid (Up w w1) := ((Up.refl w).alloc _).trans u
          have x4 : w1.cell? ⟨w.heap.size, 4, none⟩ = some (.string s) := by
            have h9 := u.heap (heap_alloc_new w _)
            simp [World.cell?, h9]
          clear u
          go_wp2_with fail
          rw [HPo.out, HE2.out]
          exact ⟨rfl, HU.out⟩
        · have p1 : ¬ s.toList = [115, 101, 108, 102] := fun h => c1 (q1.1 h)
          have p1b : (s.toList == [115, 101, 108, 102]) = false := by simpa using p1
          by_cases c2 : l = wme
          · have p2 := q2.2 c2
            have HE2 : Hid (rTx 12 l = true) := by unfold Hid; rw [HE.out, decide_eq_true c2]; simp
            clear q1 q2 c1 c2
            go_enter Try.func38, Try.ntmps38
            go_wp2_with fail
            refine Calls.mono (HF.out _) ?_
            rintro e w1 ⟨rfl, u⟩
            have HU : Hid (Up w w1) := ((Up.refl w).alloc _).trans u
            have x4 : w1.cell? ⟨w.heap.size, 4, none⟩ = some (.string s) := by
              have h9 := u.heap (heap_alloc_new w _)
              simp [World.cell?, h9]
            clear u
            go_wp2_with fail
            rw [HPo.out, HE2.out]
            exact ⟨rfl, HU.out⟩
          · have p2 : ¬ s.toList = [109, 101] := fun h => c2 (q2.1 h)
            have p2b : (s.toList == [109, 101]) = false := by simpa using p2
            have HE2 : Hid (rTx 12 l = false) := by unfold Hid; rw [HE.out, decide_eq_false c1, decide_eq_false c2]; rfl
            clear q1 q2 c1 c2
            go_enter Try.func38, Try.ntmps38
            go_wp2_with fail
            refine Calls.mono (HF.out _) ?_
            rintro e w1 ⟨rfl, u⟩
            have HU : Hid (Up w w1) := ((Up.refl w).alloc _).trans u
            have x4 : w1.cell? ⟨w.heap.size, 4, none⟩ = some (.string s) := by
              have h9 := u.heap (heap_alloc_new w _)
              simp [World.cell?, h9]
            clear u
            go_wp2_with fail
            rw [HPo.out, HE2.out]
            exact ⟨rfl, HU.out⟩
    · -- 33
      have HE : Hid (rTx 33 l = (fr || (decide (l = wself) || decide (l = wme)))) := by rw [HFR.out]; rfl
      have q1 : s.toList = [115, 101, 108, 102] ↔ l = wself := HS.out wself (by unfold Byt; decide)
      have q2 : s.toList = [109, 101] ↔ l = wme := HS.out wme (by unfold Byt; decide)
      clear HFR
      cases fr with
      | true =>
        go_enter Try.func38, Try.ntmps38
        go_wp2_with fail
        refine Calls.mono (HF.out _) ?_
        rintro e w1 ⟨rfl, u⟩
        have HU : Hid (Up w w1) := ((Up.refl w).alloc _).trans u
        have x4 : w1.cell? ⟨w.heap.size, 4, none⟩ = some (.string s) := by
          have h9 := u.heap (heap_alloc_new w _)
          simp [World.cell?, h9]
        clear u
        go_wp2_with fail
        rw [HPo.out, HE.out]
        exact ⟨rfl, HU.out⟩
      | false =>
        by_cases c1 : l = wself
        · have p1 := q1.2 c1
          have HE2 : Hid (rTx 33 l = true) := by unfold Hid; rw [HE.out, decide_eq_true c1]; rfl
          clear q1 q2 c1
          go_enter Try.func38, Try.ntmps38
          go_wp2_with fail
          refine Calls.mono (HF.out _) ?_
          rintro e w1 ⟨rfl, u⟩
          have HU : Hid (Up w w1) := ((Up.refl w).alloc _).trans u
          have x4 : w1.cell? ⟨w.heap.size, 4, none⟩ = some (.string s) := by
            have h9 := u.heap (heap_alloc_new w _)
            simp [World.cell?, h9]
          clear u
          go_wp2_with fail
          rw [HPo.out, HE2.out]
          exact ⟨rfl, HU.out⟩
        · have p1 : ¬ s.toList = [115, 101, 108, 102] := fun h => c1 (q1.1 h)
          have p1b : (s.toList == [115, 101, 108, 102]) = false := by simpa using p1
          by_cases c2 : l = wme
          · have p2 := q2.2 c2
            have HE2 : Hid (rTx 33 l = true) := by unfold Hid; rw [HE.out, decide_eq_true c2]; simp
            clear q1 q2 c1 c2
            go_enter Try.func38, Try.ntmps38
            go_wp2_with fail
            refine Calls.mono (HF.out _) ?_
            rintro e w1 ⟨rfl, u⟩
            have HU : Hid (Up w w1) := ((Up.refl w).alloc _).trans u
            have x4 : w1.cell? ⟨w.heap.size, 4, none⟩ = some (.string s) := by
              have h9 := u.heap (heap_alloc_new w _)
              simp [World.cell?, h9]
            clear u
            go_wp2_with fail
            rw [HPo.out, HE2.out]
            exact ⟨rfl, HU.out⟩
          · have p2 : ¬ s.toList = [109, 101] := fun h => c2 (q2.1 h)
            have p2b : (s.toList == [109, 101]) = false := by simpa using p2
            have HE2 : Hid (rTx 33 l = false) := by unfold Hid; rw [HE.out, decide_eq_false c1, decide_eq_false c2]; rfl
            clear q1 q2 c1 c2
            go_enter Try.func38, Try.ntmps38
            go_wp2_with fail
            refine Calls.mono (HF.out _) ?_
            rintro e w1 ⟨rfl, u⟩
            have HU : Hid (Up w w1) := ((Up.refl w).alloc _).trans u
            have x4 : w1.cell? ⟨w.heap.size, 4, none⟩ = some (.string s) := by
              have h9 := u.heap (heap_alloc_new w _)
              simp [World.cell?, h9]
            clear u
            go_wp2_with fail
            rw [HPo.out, HE2.out]
            exact ⟨rfl, HU.out⟩
    · -- 19
      have HE : Hid (rTx 19 l = (fr || (decide (l = whit) || decide (l = wdraw)))) := by rw [HFR.out]; rfl
      have q1 : s.toList = [104, 105, 116] ↔ l = whit := HS.out whit (by unfold Byt; decide)
      have q2 : s.toList = [100, 114, 97, 119] ↔ l = wdraw := HS.out wdraw (by unfold Byt; decide)
      clear HFR
      cases fr with
      | true =>
        go_enter Try.func38, Try.ntmps38
        go_wp2_with fail
        refine Calls.mono (HF.out _) ?_
        rintro e w1 ⟨rfl, u⟩
        have HU : Hid (Up w w1) := ((Up.refl w).alloc _).trans u
        have x4 : w1.cell? ⟨w.heap.size, 4, none⟩ = some (.string s) := by
          have h9 := u.heap (heap_alloc_new w _)
          simp [World.cell?, h9]
        clear u
        go_wp2_with fail
        rw [HPo.out, HE.out]
        exact ⟨rfl, HU.out⟩
      | false =>
        by_cases c1 : l = whit
        · have p1 := q1.2 c1
          have HE2 : Hid (rTx 19 l = true) := by unfold Hid; rw [HE.out, decide_eq_true c1]; rfl
          clear q1 q2 c1
          go_enter Try.func38, Try.ntmps38
          go_wp2_with fail
          refine Calls.mono (HF.out _) ?_
          rintro e w1 ⟨rfl, u⟩
          have HU : Hid (Up w w1) := ((Up.refl w).alloc _).trans u
          have x4 : w1.cell? ⟨w.heap.size, 4, none⟩ = some (.string s) := by
            have h9 := u.heap (heap_alloc_new w _)
            simp [World.cell?, h9]
          clear u
          go_wp2_with fail
          rw [HPo.out, HE2.out]
          exact ⟨rfl, HU.out⟩
        · have p1 : ¬ s.toList = [104, 105, 116] := fun h => c1 (q1.1 h)
          have p1b : (s.toList == [104, 105, 116]) = false := by simpa using p1
          by_cases c2 : l = wdraw
          · have p2 := q2.2 c2
            have HE2 : Hid (rTx 19 l = true) := by unfold Hid; rw [HE.out, decide_eq_true c2]; simp
            clear q1 q2 c1 c2
            go_enter Try.func38, Try.ntmps38
            go_wp2_with fail
            refine Calls.mono (HF.out _) ?_
            rintro e w1 ⟨rfl, u⟩
            have HU : Hid (Up w w1) := ((Up.refl w).alloc _).trans u
            have x4 : w1.cell? ⟨w.heap.size, 4, none⟩ = some (.string s) := by
              have h9 := u.heap (heap_alloc_new w _)
              simp [World.cell?, h9]
            clear u
            go_wp2_with fail
            rw [HPo.out, HE2.out]
            exact ⟨rfl, HU.out⟩
          · have p2 : ¬ s.toList = [100, 114, 97, 119] := fun h => c2 (q2.1 h)
            have p2b : (s.toList == [100, 114, 97, 119]) = false := by simpa using p2
            have HE2 : Hid (rTx 19 l = false) := by unfold Hid; rw [HE.out, decide_eq_false c1, decide_eq_false c2]; rfl
            clear q1 q2 c1 c2
            go_enter Try.func38, Try.ntmps38
            go_wp2_with fail
            refine Calls.mono (HF.out _) ?_
            rintro e w1 ⟨rfl, u⟩
            have HU : Hid (Up w w1) := ((Up.refl w).alloc _).trans u
            have x4 : w1.cell? ⟨w.heap.size, 4, none⟩ = some (.string s) := by
              have h9 := u.heap (heap_alloc_new w _)
              simp [World.cell?, h9]
            clear u
            go_wp2_with fail
            rw [HPo.out, HE2.out]
            exact ⟨rfl, HU.out⟩
    · -- 49
      have HE : Hid (rTx 49 l = isN l) := rfl
      go_enter Try.func38, Try.ntmps38
      go_wp2_with fail
      refine Calls.mono (HN.out _) ?_
      rintro e w1 ⟨rfl, u⟩
      have HU : Hid (Up w w1) := ((Up.refl w).alloc _).trans u
      have x4 : w1.cell? ⟨w.heap.size, 4, none⟩ = some (.string s) := by
        have h9 := u.heap (heap_alloc_new w _)
        simp [World.cell?, h9]
      clear u
      go_wp2_with fail
      rw [HPo.out, HE.out]
      exact ⟨rfl, HU.out⟩
  · have hall : (op == 2) = false ∧ (op == 6) = false ∧ (op == 52) = false ∧ (op == 11) = false ∧ (op == 14) = false ∧ (op == 15) = false ∧ (op == 16) = false ∧ (op == 50) = false ∧ (op == 12) = false ∧ (op == 33) = false ∧ (op == 19) = false ∧ (op == 49) = false := by
      simp only [beq_eq_false_iff_ne]
      exact ⟨fun h => hop (.inl h), fun h => hop (.inr (.inl h)), fun h => hop (.inr (.inr (.inl h))), fun h => hop (.inr (.inr (.inr (.inl h)))), fun h => hop (.inr (.inr (.inr (.inr (.inl h))))), fun h => hop (.inr (.inr (.inr (.inr (.inr (.inl h)))))), fun h => hop (.inr (.inr (.inr (.inr (.inr (.inr (.inl h))))))), fun h => hop (.inr (.inr (.inr (.inr (.inr (.inr (.inr (.inl h)))))))), fun h => hop (.inr (.inr (.inr (.inr (.inr (.inr (.inr (.inr (.inl h))))))))), fun h => hop (.inr (.inr (.inr (.inr (.inr (.inr (.inr (.inr (.inr (.inl h)))))))))), fun h => hop (.inr (.inr (.inr (.inr (.inr (.inr (.inr (.inr (.inr (.inr (.inl h))))))))))), fun h => hop (.inr (.inr (.inr (.inr (.inr (.inr (.inr (.inr (.inr (.inr (.inr (h))))))))))))⟩
    obtain ⟨k2, k6, k52, k11, k14, k15, k16, k50, k12, k33, k19, k49⟩ := hall
    have HE : Hid (rTx op l = decide (l = [])) := by
      unfold Hid rTx
      rw [if_neg (fun h => hop (by omega)), if_neg (fun h => hop (by omega)), if_neg (fun h => hop (by omega)), if_neg (fun h => hop (by omega)), if_neg (fun h => hop (by omega))]
    clear hop hl
    by_cases c : l = []
    · have q8 : s.toList = [] := HNI.out.2 c
      have q9 : s.toList.isEmpty = true := by rw [q8]; rfl
      have HE2 : Hid (rTx op l = true) := by unfold Hid; rw [HE.out, decide_eq_true c]
      clear c
      go_enter Try.func38, Try.ntmps38
      go_wp2_with fail
      rw [HPo.out, HE2.out]
      exact ⟨rfl, (Up.refl _).alloc _⟩
    · have q8 : ¬ s.toList = [] := fun h9 => c (HNI.out.1 h9)
      have q9 : s.toList.isEmpty = false := by cases hh : s.toList with | nil => exact absurd hh q8 | cons a l => rfl
      have HE2 : Hid (rTx op l = false) := by unfold Hid; rw [HE.out, decide_eq_false c]
      clear c
      go_enter Try.func38, Try.ntmps38
      go_wp2_with fail
      rw [HPo.out, HE2.out]
      exact ⟨rfl, (Up.refl _).alloc _⟩
set_option maxRecDepth 100000 in
set_option maxHeartbeats 16000000 in
theorem rnumbers_ (x : Nd) (w : World) : Calls Try.prog 39 #[.agg (ndA x)] w fun e w' => e = .returned (.bool (rNum x.op x.n)) ∧ Up w w' := by
  obtain ⟨Post, hPost⟩ : ∃ P : Ending → World → Prop, P = fun e w' => e = .returned (.bool (rNum x.op x.n)) ∧ Up w w' := ⟨_, rfl⟩
  rw [← hPost]
  have HPo : Hid (Post = fun e w' => e = .returned (.bool (rNum x.op x.n)) ∧ Up w w') := hPost
  clear hPost
  obtain ⟨op, kd, n, m, l, ps, ks⟩ := x
  have HPo : Hid (Post = fun e w' => e = .returned (.bool (rNum op n)) ∧ Up w w') := HPo
  show Calls Try.prog 39 #[.agg #[.int .i8 op, .int .i8 kd, .int .i64 n, .int .i64 m, .string (strOfNums l), .int .i64 ps, .int .i64 ks]] w Post
  generalize strOfNums l = s
  by_cases hop : op = 3 ∨ op = 4 ∨ op = 5 ∨ op = 14 ∨ op = 30 ∨ op = 7 ∨ op = 51
  · rcases hop with rfl | rfl | rfl | rfl | rfl | rfl | rfl
    · have HE : Hid (rNum 3 n = decide (0 ≤ n)) := rfl
      go_enter Try.func39, Try.ntmps39
      go_wp2_with fail
      rw [HPo.out, HE.out]
      exact ⟨rfl, (Up.refl _).alloc _⟩
    · have HE : Hid (rNum 4 n = decide (0 ≤ n)) := rfl
      go_enter Try.func39, Try.ntmps39
      go_wp2_with fail
      rw [HPo.out, HE.out]
      exact ⟨rfl, (Up.refl _).alloc _⟩
    · have HE : Hid (rNum 5 n = decide (0 ≤ n)) := rfl
      go_enter Try.func39, Try.ntmps39
      go_wp2_with fail
      rw [HPo.out, HE.out]
      exact ⟨rfl, (Up.refl _).alloc _⟩
    · have HE : Hid (rNum 14 n = decide (0 ≤ n)) := rfl
      go_enter Try.func39, Try.ntmps39
      go_wp2_with fail
      rw [HPo.out, HE.out]
      exact ⟨rfl, (Up.refl _).alloc _⟩
    · have HE : Hid (rNum 30 n = decide (0 ≤ n)) := rfl
      go_enter Try.func39, Try.ntmps39
      go_wp2_with fail
      rw [HPo.out, HE.out]
      exact ⟨rfl, (Up.refl _).alloc _⟩
    · have HE : Hid (rNum 7 n = (decide (0 ≤ n) && decide (n ≤ 4))) := rfl
      by_cases c1 : 0 ≤ n
      · by_cases c2 : n ≤ 4
        · have HE2 : Hid (rNum 7 n = true) := by unfold Hid; rw [HE.out, decide_eq_true c1, decide_eq_true c2]; rfl
          go_enter Try.func39, Try.ntmps39
          go_wp2_with fail
          rw [HPo.out, HE2.out]
          exact ⟨rfl, (Up.refl _).alloc _⟩
        · have HE2 : Hid (rNum 7 n = false) := by unfold Hid; rw [HE.out, decide_eq_false c2]; simp
          go_enter Try.func39, Try.ntmps39
          go_wp2_with fail
          rw [HPo.out, HE2.out]
          exact ⟨rfl, (Up.refl _).alloc _⟩
      · have HE2 : Hid (rNum 7 n = false) := by unfold Hid; rw [HE.out, decide_eq_false c1]; rfl
        go_enter Try.func39, Try.ntmps39
        go_wp2_with fail
        rw [HPo.out, HE2.out]
        exact ⟨rfl, (Up.refl _).alloc _⟩
    · have HE : Hid (rNum 51 n = (decide (0 ≤ n) && decide (n ≤ 3))) := rfl
      by_cases c1 : 0 ≤ n
      · by_cases c2 : n ≤ 3
        · have HE2 : Hid (rNum 51 n = true) := by unfold Hid; rw [HE.out, decide_eq_true c1, decide_eq_true c2]; rfl
          go_enter Try.func39, Try.ntmps39
          go_wp2_with fail
          rw [HPo.out, HE2.out]
          exact ⟨rfl, (Up.refl _).alloc _⟩
        · have HE2 : Hid (rNum 51 n = false) := by unfold Hid; rw [HE.out, decide_eq_false c2]; simp
          go_enter Try.func39, Try.ntmps39
          go_wp2_with fail
          rw [HPo.out, HE2.out]
          exact ⟨rfl, (Up.refl _).alloc _⟩
      · have HE2 : Hid (rNum 51 n = false) := by unfold Hid; rw [HE.out, decide_eq_false c1]; rfl
        go_enter Try.func39, Try.ntmps39
        go_wp2_with fail
        rw [HPo.out, HE2.out]
        exact ⟨rfl, (Up.refl _).alloc _⟩
  · have hall : (op == 3) = false ∧ (op == 4) = false ∧ (op == 5) = false ∧ (op == 14) = false ∧ (op == 30) = false ∧ (op == 7) = false ∧ (op == 51) = false := by
      simp only [beq_eq_false_iff_ne]
      exact ⟨fun h => hop (.inl h), fun h => hop (.inr (.inl h)), fun h => hop (.inr (.inr (.inl h))), fun h => hop (.inr (.inr (.inr (.inl h)))), fun h => hop (.inr (.inr (.inr (.inr (.inl h))))), fun h => hop (.inr (.inr (.inr (.inr (.inr (.inl h)))))), fun h => hop (.inr (.inr (.inr (.inr (.inr (.inr (h)))))))⟩
    obtain ⟨k3, k4, k5, k14, k30, k7, k51⟩ := hall
    have HE : Hid (rNum op n = decide (n = 0)) := by
      unfold Hid rNum
      rw [if_neg (fun h => hop (by omega)), if_neg (fun h => hop (by omega)), if_neg (fun h => hop (by omega))]
    clear hop
    by_cases c : n = 0
    · have c2 : (n == 0) = true := by simp [c]
      have HE2 : Hid (rNum op n = true) := by unfold Hid; rw [HE.out, decide_eq_true c]
      clear c
      go_enter Try.func39, Try.ntmps39
      go_wp2_with fail
      rw [HPo.out, HE2.out]
      exact ⟨rfl, (Up.refl _).alloc _⟩
    · have c2 : (n == 0) = false := by simp [c]
      have HE2 : Hid (rNum op n = false) := by unfold Hid; rw [HE.out, decide_eq_false c]
      go_enter Try.func39, Try.ntmps39
      go_wp2_with fail
      rw [HPo.out, HE2.out]
      exact ⟨rfl, (Up.refl _).alloc _⟩
end TR
end Go.Proofs.Ytgahdppcdeefaaa
