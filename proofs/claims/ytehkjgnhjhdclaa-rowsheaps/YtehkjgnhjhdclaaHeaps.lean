/-
  What is put into a heap and taken, by turns: the law walked.
-/
import Derived.Test.YtehkjgnhjhdclaaHLaw
import Derived.Test.YtehkjgnhjhdclaaLc
namespace Go.Proofs.Ytehkjgnhjhdclaa
open Go.RowKit
attribute [local go_sem ↓] Go.wp_at_zero Go.wp_at_succ

theorem thS : Try.prog.underlying 66 = some (.struct (Try.prog.fieldsOf 66)) := by kernel_rfl
theorem thH : Try.prog.stoodInHeld 66 = false := by kernel_rfl
theorem thG : Try.prog.eqGuardType Try.prog.depth 66 = false := by kernel_rfl
theorem thEqIn (a b c d : Int) (W : World) : (Op.equalIn 10000 66 (.agg #[.int .i64 a, .int .i64 b]) (.agg #[.int .i64 c, .int .i64 d])).run Try.prog W = .ok (a == c && b == d) W := by
  have u3 := Try.underlying3
  have a3 := Try.isAgg3
  have z3 := Try.sizeOf3
  rw [show (10000 : Nat) = 9999 + 1 from rfl, run_equalIn_agg W 9999 66 _ _ thS thH]
  simp only [Program.fieldsOf, Try.underlying66]
  go_simp
  by_cases h1 : a = c <;> by_cases h2 : b = d <;> simp [h1, h2]
theorem thNeq (a b : Int) (W : World) : (binOp .neq 66 (.agg #[.int .i64 a, .int .i64 b]) (.agg #[.int .i64 a, .int .i64 b])).run Try.prog W = .ok (.bool false) W := by
  rw [run_neq_struct, thEqIn a b a b W]
  simp [Result.andThen]
theorem thEql (a b : Int) (W : World) : (binOp .eql 66 (.agg #[.int .i64 a, .int .i64 b]) (.agg #[.int .i64 a, .int .i64 b])).run Try.prog W = .ok (.bool true) W := by
  rw [run_eql_struct, thEqIn a b a b W]
  simp [Result.andThen]
def Lrow (cs : List Value) (xs : List HT.X) (j n : Nat) : Prop := cs.length = (n + 2) * 2 ∧ (∀ q, q < j → cs[q * 2]? = some (.int .i64 (xs.getD q HT.dx).1) ∧ cs[q * 2 + 1]? = some (.int .i64 (xs.getD q HT.dx).2)) ∧ ∀ q, n ≤ q → q < n + 2 → cs[q * 2]? = some (.int .i64 0) ∧ cs[q * 2 + 1]? = some (.int .i64 0)
theorem Lrow.put {cs : List Value} {xs : List HT.X} {j n : Nat} (h : Lrow cs xs j n) (hj : j < n) (x : HT.X) (hx : x = xs.getD j HT.dx) : Lrow ((cs.set (j * 2) (.int .i64 x.1)).set (j * 2 + 1) (.int .i64 x.2)) xs (j + 1) n := by
  obtain ⟨h1, h2, h3⟩ := h
  subst hx
  refine ⟨by simpa using h1, fun q hq => ?_, fun q hq1 hq2 => ?_⟩
  · by_cases e : q = j
    · subst e
      have l1 : q * 2 < cs.length := by omega
      have l2 : q * 2 + 1 < cs.length := by omega
      refine ⟨?_, ?_⟩
      · rw [List.getElem?_set_ne (by omega), List.getElem?_set_self l1]
      · rw [List.getElem?_set_self (by simpa using l2)]
    · have := h2 q (by omega)
      exact ⟨by rw [List.getElem?_set_ne (by omega), List.getElem?_set_ne (by omega)]; exact this.1, by rw [List.getElem?_set_ne (by omega), List.getElem?_set_ne (by omega)]; exact this.2⟩
  · have := h3 q hq1 hq2
    exact ⟨by rw [List.getElem?_set_ne (by omega), List.getElem?_set_ne (by omega)]; exact this.1, by rw [List.getElem?_set_ne (by omega), List.getElem?_set_ne (by omega)]; exact this.2⟩
theorem Lrow.start (n : Nat) (xs : List HT.X) : Lrow (madeCells (Value.agg #[.int .i64 0, .int .i64 0]).cells ((n + 2) * 2)).toList xs 0 n := by
  have hg : ∀ i, i < (n + 2) * 2 → (madeCells (Value.agg #[.int .i64 0, .int .i64 0]).cells ((n + 2) * 2)).toList[i]? = some (.int .i64 0) := by
    intro i hi
    have hm : i % 2 = 0 ∨ i % 2 = 1 := by omega
    rcases hm with h | h <;> simp [madeCells, Value.cells, hi, h]
  refine ⟨by simp [madeCells], fun q hq => by omega, fun q h1 h2 => ⟨hg _ (by omega), hg _ (by omega)⟩⟩
/- two cells of a row written -/
theorem row_put2 {W : World} {gl : Nat} {cs : List Value} (h : W.heap[gl]? = some (.cells cs.toArray tTh (0, 0))) (i : Nat) (a b : Value) : ((W.setCell ⟨gl, i, none⟩ a).setCell ⟨gl, i + 1, none⟩ b).heap[gl]? = some (.cells ((cs.set i a).set (i + 1) b).toArray tTh (0, 0)) := by
  simp only [World.setCell, Array.getElem?_modify]
  rw [h]
  simp
theorem row_at {W : World} {gl : Nat} {cs : List Value} (h : W.heap[gl]? = some (.cells cs.toArray tTh (0, 0))) (i : Nat) : W.cell? ⟨gl, i, none⟩ = cs[i]? ∧ W.frozen? ⟨gl, i, none⟩ = false := ⟨by simp [World.cell?, h], by simp [World.frozen?, h]⟩
theorem rat_far {W : World} {rb rbase p : Nat} {v : Value} {L : List HT.X} (h : RH.RAt W rb rbase v L) (h1 : rb ≠ p) (h2 : v.ownBlock ≠ some p) (j : Nat) (u : Value) : RH.RAt (W.setCell ⟨p, j, none⟩ u) rb rbase v L := by
  refine ⟨?_, ownsRow_setCell_other h.2.1 h2 u, h.2.2⟩
  unfold RH.Hd; rw [Below.heap_setCell _ _ _ _ h1]; exact h.1
/- the two heaps and the list that is handed in -/
def In3 (w3 W : World) (hb rb gl : Nat) (v2 : Value) (cs : List Value) (L L2 : List HT.X) (t : Nat) : Prop :=
  HT.HeapOf W hb 35 (hb + 1) L t ∧ RH.RAt W rb (rb + 1) v2 L2 ∧ W.heap[gl]? = some (.cells cs.toArray tTh (0, 0)) ∧ v2.ownBlock ≠ some gl ∧ rb < gl ∧ Below hb w3 W
theorem In3.put {w3 W : World} {hb rb gl : Nat} {v2 : Value} {cs : List Value} {L L2 : List HT.X} {t : Nat} (h : In3 w3 W hb rb gl v2 cs L L2 t) (hr : hb ≤ gl) (i : Nat) (a b : Value) : In3 w3 ((W.setCell ⟨gl, i, none⟩ a).setCell ⟨gl, i + 1, none⟩ b) hb rb gl v2 ((cs.set i a).set (i + 1) b) L L2 t := by
  obtain ⟨h1, h2, h3, h4, h5, h6⟩ := h
  have hrg : rb ≠ gl := by omega
  refine ⟨heapOf_keep h1 (KeepHE.only (KeepHE.refl _) (((Only.refl _ _).set i a).set (i + 1) b) h3 (by decide) (by decide)), rat_far (rat_far h2 hrg h4 _ _) hrg h4 _ _, row_put2 h3 i a b, h4, h5, Below.setCell (Below.setCell h6 hr _) hr _⟩
theorem In3.up {w3 W W' : World} {hb rb gl : Nat} {v2 : Value} {cs : List Value} {L L2 : List HT.X} {t : Nat} (h : In3 w3 W hb rb gl v2 cs L L2 t) (u : Up W W') (hz : hb ≤ W.heap.size) : In3 w3 W' hb rb gl v2 cs L L2 t :=
  ⟨heapOf_keep h.1 (KeepHE.up u), h.2.1.up u, u.heap h.2.2.1, h.2.2.2.1, h.2.2.2.2.1, h.2.2.2.2.2.trans (Below.mono u hz)⟩
theorem In3.app {w3 W W1 : World} {hb rb gl g cap : Nat} {v2 : Value} {cs : List Value} {L L2 : List HT.X} {t : Nat} {x : HT.X} {o : Obj} (h : In3 w3 W hb rb gl v2 cs L L2 t) (hz : rb + 1 ≤ W.heap.size) (hrb : hb ≤ rb)
    (hown : W1.ownsRow (rb + 1) tTh 2 (.slice (some ⟨g, 0, none⟩) (L2.length + 1) cap) (L2.length + 1) (RH.flX L2 ++ [.int .i64 x.1, .int .i64 x.2])) (hg : ((W.alloc o).drew).grownBy W1 v2.ownBlock) (hat : v2.ownBlock = some g ∨ g = W.heap.size + 1) :
    RH.Hd W1 rb v2 ∧ In3 w3 (W1.setCell ⟨rb, 0, none⟩ (.slice (some ⟨g, 0, none⟩) (L2.length + 1) cap)) hb rb gl (.slice (some ⟨g, 0, none⟩) (L2.length + 1) cap) cs L (L2 ++ [x]) t := by
  obtain ⟨h1, h2, h3, h4, h5, h6⟩ := h
  obtain ⟨a1, a2, a3, a4⟩ := rat_app h2 hz hown hg
  have hgl : gl < W.heap.size := (Array.getElem?_eq_some_iff.1 h3).1
  refine ⟨a1, heapOf_keep h1 a3, a2, ?_, ?_, h5, h6.trans (a4.mono hrb)⟩
  · rw [Below.heap_setCell _ _ _ _ (by show gl ≠ rb; omega), hg.block gl (by show gl < (W.alloc o).heap.size; simp; omega) (fun e => h4 e.symm)]
    show (W.alloc o).heap[gl]? = _
    rw [Below.heap_alloc _ _ _ hgl]; exact h3
  · intro e
    have e' : g = gl := by simpa [Value.ownBlock] using e
    rcases hat with h | h
    · exact h4 (by rw [h, e'])
    · omega
def HPost (w : World) (e : Ending) (w' : World) : Prop := e = .returned (.bool true) ∧ Up w w'
set_option maxRecDepth 100000 in
set_option maxHeartbeats 8000000 in
theorem heapsMain (v : Value) (ts : List Tn) (w : World) (hv : TL w v ts) (hN : ts.length ≤ 140737488355328) (hx : ∀ i, i < ts.length → (ts.getD i dTn).2.1.length ≤ 140737488355328) (ho : ∀ i, i < ts.length → -9223372036854775808 ≤ (ts.getD i dTn).2.2 ∧ (ts.getD i dTn).2.2 ≤ 9223372036854775807) :
    Calls Try.prog 6 #[v] w (HPost w) := by
  obtain ⟨Post, hPost⟩ : ∃ P : Ending → World → Prop, P = HPost w := ⟨_, rfl⟩
  rw [← hPost]
  have HPo : Hid (Post = HPost w) := hPost
  have HV : Hid (TL w v ts) := hv
  obtain ⟨va, vcap, rfl, -⟩ := hv
  have HX : Hid (∀ i, i < ts.length → (ts.getD i dTn).2.1.length ≤ 140737488355328) := hx
  have HO : Hid (∀ i, i < ts.length → -9223372036854775808 ≤ (ts.getD i dTn).2.2 ∧ (ts.getD i dTn).2.2 ≤ 9223372036854775807) := ho
  clear hx ho hPost
  obtain ⟨N, hN0⟩ : ∃ N, N = ts.length := ⟨_, rfl⟩
  have HN : Hid (N = ts.length) := hN0
  rw [← hN0] at hN HV ⊢
  clear hN0
  -- what every world behind shows of the turns
  have HT1 : Hid (∀ i, i < N → ∃ b off a cap, va = some ⟨b, off, none⟩ ∧ b < w.heap.size ∧ (∀ W, Up w W → W.cell? ⟨b, off + i * 2, none⟩ = some (.slice a (ts.getD i dTn).2.1.length cap) ∧ W.cell? ⟨b, off + i * 2 + 1, none⟩ = some (.int .i64 (ts.getD i dTn).2.2)) ∧ ((ts.getD i dTn).2.1.length ≠ 0 → ∃ xb xo, a = some ⟨xb, xo, none⟩ ∧ xb < w.heap.size ∧ ∀ W, Up w W → ∀ j, j < (ts.getD i dTn).2.1.length → W.cell? ⟨xb, xo + j * 2, none⟩ = some (.int .i64 ((ts.getD i dTn).2.1.getD j HT.dx).1) ∧ W.cell? ⟨xb, xo + j * 2 + 1, none⟩ = some (.int .i64 ((ts.getD i dTn).2.1.getD j HT.dx).2))) := by
    intro i hi
    obtain ⟨a, cap, he, hc⟩ := HV.out
    simp only [Value.slice.injEq] at he
    obtain ⟨rfl, -, rfl⟩ := he
    obtain ⟨b, off, rfl, hcell⟩ := hc (by rw [← HN.out]; omega)
    obtain ⟨h1, h2, a2, cap2, h3, h4⟩ := hcell i (by rw [← HN.out]; exact hi)
    refine ⟨b, off, a2, cap2, rfl, World.block_lt_of_cell? w _ h1, fun W hu => ⟨by rw [← h3]; exact hu.cell h1, hu.cell h2⟩, fun hn => ?_⟩
    obtain ⟨xb, xo, h5, h6⟩ := h4 hn
    exact ⟨xb, xo, h5, World.block_lt_of_cell? w _ (h6 0 (by omega)).1, fun W hu j hj => ⟨hu.cell (h6 j hj).1, hu.cell (h6 j hj).2⟩⟩
  clear HV
  go_enter Try.func6, Try.ntmps6
  go_wp2_with fail
  refine (works _).mono ?_
  rintro e w1 ⟨rfl, u1⟩
  have HU1 : Hid (Up w w1) := u1
  clear u1
  go_wp2_with fail
  go_loopw [4, 5] (fun s4 s5 wr => ∃ i : Nat, i ≤ N ∧ s5 = .int .i64 i ∧ s4 = .int .i64 (cost (ts.take i)) ∧ cost (ts.take i) ≤ 281474976710656 ∧ wr = w1) (fun _ s5 _ => N - (intOf s5).toNat)
  case atStart => exact ⟨0, Nat.zero_le _, rfl, rfl, Nat.zero_le _, rfl⟩
  case round =>
    obtain ⟨i, hi, rfl, rfl, hc, rfl⟩ := hrel
    obtain ⟨c, hc0⟩ : ∃ c, c = cost (ts.take i) := ⟨_, rfl⟩
    have HC : Hid (c = cost (ts.take i)) := hc0
    rw [← hc0] at hc ⊢
    clear hc0
    by_cases hgo : i < N ∧ c ≤ 4096
    · obtain ⟨hi1, hc1⟩ := hgo
      have hi2 : (i : Int) < (N : Int) := by omega
      have hc2 : (c : Int) ≤ 4096 := by omega
      obtain ⟨b, off, a, cap, rfl, -, hcw, -⟩ := HT1.out i hi1
      have cx := (hcw wr HU1.out).1
      clear hcw
      have hxl := HX.out i (by rw [← HN.out]; exact hi1)
      have HS := cost_step ts i (by rw [← HN.out]; exact hi1)
      rw [← HC.out] at HS
      have HS2 : Hid _ := HS
      clear HS
      generalize (ts.getD i dTn).2.1.length = xl at *
      go_wp2
      go_roundw
      case rel => exact ⟨i + 1, by omega, by go_num, by rw [HS2.out]; go_num, by rw [HS2.out]; omega, by first | rfl | trivial⟩
      case measure => simp [intOf]; omega
    · have hx2 : ((i : Int) < (N : Int) ∧ ¬ (c : Int) ≤ 4096) ∨ ¬ (i : Int) < (N : Int) := by omega
      by_cases hc3 : 4096 < c
      · have hc4 : (4096 : Int) < (c : Int) := by omega
        rcases hx2 with ⟨h1, h2⟩ | h1
        · go_wp2
          rw [HPo.out]
          exact ⟨rfl, HU1.out⟩
        · go_wp2
          rw [HPo.out]
          exact ⟨rfl, HU1.out⟩
      · have hc4 : ¬ (4096 : Int) < (c : Int) := by omega
        have hiN : i = N := by omega
        have hx3 : ¬ (i : Int) < (N : Int) := by omega
        have hct : c = cost ts := by rw [HC.out, hiN, List.take_of_length_le (by rw [HN.out]; exact Nat.le_refl _)]
        have HCT : Hid (c = cost ts) := hct
        clear hx2 hgo hct HC hiN
        go_wp2_with fail
        refine (HT.newHeap 35 wr).mono ?_
        rintro e w2 ⟨rfl, hh2, u2, hz2⟩
        obtain ⟨hb, hhb⟩ : ∃ hb, hb = wr.heap.size := ⟨_, rfl⟩
        have hsb : w.heap.size ≤ hb := by rw [hhb]; exact HU1.out.size
        rw [← hhb] at hh2 hz2 ⊢
        have u2' : Up w w2 := HU1.out.trans u2
        obtain ⟨w3, hw3⟩ : ∃ w3, w3 = w2.alloc (.cells #[.slice none 0 0] 70) := ⟨_, rfl⟩
        have HH3 : Hid (HT.HeapOf w3 hb 35 (hb + 1) [] 0) := by unfold Hid; rw [hw3]; exact hh2.fr ((Up.refl _).alloc _)
        have HR3 : Hid (RH.RAt w3 (hb + 1) (hb + 1 + 1) (.slice none 0 0) []) := by
          unfold Hid; rw [hw3, ← hz2]
          exact ⟨heap_alloc_new w2 _, World.ownsRow_nil _ _ _ _, Nat.lt_succ_self _⟩
        have HU3 : Hid (Up w w3) := by unfold Hid; rw [hw3]; exact u2'.alloc _
        have HZ3 : Hid (w3.heap.size = hb + 1 + 1) := by unfold Hid; rw [hw3, ← hz2]; simp
        have HZ2 : Hid (w2.heap.size = hb + 1) := hz2
        clear hh2 u2 u2' hhb hz2
        go_wp2_with fail
        rw [← hw3, HZ2.out]
        clear hw3 HZ2
        obtain ⟨rb, hrb⟩ : ∃ rb, rb = hb + 1 := ⟨_, rfl⟩
        rw [← hrb] at HH3 HR3 HZ3 ⊢
        have HRB : Hid (rb = hb + 1) := hrb
        clear hrb
        go_loopw [8] (fun s8 wr => ∃ (i : Nat) (L : List HT.X) (v2 : Value) (t : Nat), i ≤ N ∧ s8 = .int .i64 i ∧ HT.HeapOf wr hb 35 (hb + 1) L t ∧ RH.RAt wr rb (rb + 1) v2 L ∧ Below hb w3 wr ∧ L.length ≤ t ∧ t ≤ cost (ts.take i)) (fun s8 _ => N - (intOf s8).toNat)
        case atStart => exact ⟨0, [], .slice none 0 0, 0, Nat.zero_le _, rfl, by rw [← HRB.out]; exact HH3.out, HR3.out, Below.refl _ _, Nat.le_refl _, Nat.zero_le _⟩
        case round =>
          obtain ⟨i2, L, v2, t, hi2, rfl, hof, hra, hbe, hLt, htc⟩ := hrel
          clear HH3 HR3
          by_cases hlt : i2 < N
          · have hlt2 : (i2 : Int) < (N : Int) := by omega
            have HUP : Hid (∀ W, Below hb w3 W → Up w W) := fun W hW => Below.trans HU3.out (Below.mono hW hsb)
            have hcl := (cost_le ts).2 i2 (by rw [← HN.out]; exact hlt)
            have HCS := cost_step ts i2 (by rw [← HN.out]; exact hlt)
            rw [← HCT.out] at hcl
            obtain ⟨b, off, a, cap, rfl, hbw, hcw, hin⟩ := HT1.out i2 hlt
            have ho2 := HO.out i2 (by rw [← HN.out]; exact hlt)
            obtain ⟨xs, hxs⟩ : ∃ xs, xs = (ts.getD i2 dTn).2.1 := ⟨_, rfl⟩
            obtain ⟨out, hout⟩ : ∃ out, out = (ts.getD i2 dTn).2.2 := ⟨_, rfl⟩
            rw [← hxs] at hcl HCS hin hcw
            rw [← hout] at ho2 hcw
            obtain ⟨xl, hxl⟩ : ∃ xl, xl = xs.length := ⟨_, rfl⟩
            rw [← hxl] at hcl HCS hin hcw
            have HXL : Hid (xl = xs.length) := hxl
            have HTC : Hid (∀ W, Below hb w3 W → W.cell? ⟨b, off + i2 * 2, none⟩ = some (.slice a xl cap) ∧ W.cell? ⟨b, off + i2 * 2 + 1, none⟩ = some (.int .i64 out)) := fun W hW => hcw W (HUP.out W hW)
            have HIN : Hid (xl ≠ 0 → ∃ xb xo, a = some ⟨xb, xo, none⟩ ∧ xb < w.heap.size ∧ ∀ W, Below hb w3 W → ∀ j, j < xl → W.cell? ⟨xb, xo + j * 2, none⟩ = some (.int .i64 (xs.getD j HT.dx).1) ∧ W.cell? ⟨xb, xo + j * 2 + 1, none⟩ = some (.int .i64 (xs.getD j HT.dx).2)) := by
              intro hn
              obtain ⟨xb, xo, h1, h2, h3⟩ := hin hn
              exact ⟨xb, xo, h1, h2, fun W hW => h3 W (HUP.out W hW)⟩
            have HCS2 : Hid (cost (ts.take (i2 + 1)) = cost (ts.take i2) + (1 + xl)) := HCS
            have hxl2 : xl ≤ 4096 := by omega
            obtain ⟨cx, -⟩ := HTC.out wr hbe
            have hbz : hb + 1 ≤ wr.heap.size := by have h8 := hbe.size; have h9 := HZ3.out; have := HRB.out; omega
            have HOF : Hid (HT.HeapOf wr hb 35 (hb + 1) L t) := hof
            have HRA : Hid (RH.RAt wr rb (rb + 1) v2 L) := hra
            have HBE : Hid (Below hb w3 wr) := hbe
            have HTC2 : Hid (t ≤ cost (ts.take i2) ∧ cost (ts.take i2) + (1 + xl) ≤ c) := ⟨htc, hcl⟩
            clear hxs hout hxl hcw hin HCS hof hra hbe htc hcl
            obtain ⟨iT, hiT, z0, z1, z2⟩ := info_parts RH.infoT
            have hrz : rb < wr.heap.size := (Array.getElem?_eq_some_iff.1 HRA.out.1).1
            have hvo : v2.ownBlock ≠ some wr.heap.size := fun e => by have := (HRA.out.2.1.lt _ e).2; omega
            go_wp2_with (at_make; refine wpList_make_full _ rfl _ _ 60 rfl wr.heap.size 66 iT (.agg #[.int .i64 0, .int .i64 0]) 2 Try.underlying60 hiT z0 z1 .i64 .i64 _ _ (xl + 2) rfl rfl rfl rfl (by rw [z2]; omega) (by unfold maxLen; omega) (Nat.le_refl _) ?_; intro w4 hin hg1)
            obtain ⟨gl, hgl⟩ : ∃ gl, gl = wr.heap.size := ⟨_, rfl⟩
            have hu4 : Up wr w4 := made_up hg1
            have HI4 : Hid (∃ cs, Lrow cs xs 0 xl ∧ In3 w3 w4 hb rb gl v2 cs L (L ++ xs.take 0) t) := by
              refine ⟨_, Lrow.start xl xs, heapOf_keep HOF.out (KeepHE.up hu4), ?_, ?_, by rw [hgl]; exact hvo, by omega, HBE.out.trans (Below.mono hu4 (by omega))⟩
              · rw [List.take_zero, List.append_nil]; exact HRA.out.up hu4
              · rw [hgl]; exact row_made hin
            rw [← hgl] at hbz hrz ⊢
            clear hin hg1 hu4 hvo HOF HRA HBE cx hgl
            go_loopw [10] (fun s10 W => ∃ (j : Nat) (v2 : Value) (cs : List Value), j ≤ xl ∧ s10 = .int .i64 j ∧ Lrow cs xs j xl ∧ In3 w3 W hb rb gl v2 cs L (L ++ xs.take j) t) (fun s10 _ => xl - (intOf s10).toNat)
            case atStart => obtain ⟨cs, h1, h2⟩ := HI4.out; exact ⟨0, v2, cs, Nat.zero_le _, rfl, h1, h2⟩
            case round =>
              obtain ⟨j, v2', cs, hj, rfl, hlr, hin3⟩ := hrel
              clear HI4
              have HLR : Hid (Lrow cs xs j xl) := hlr
              have HI3 : Hid (In3 w3 wr hb rb gl v2' cs L (L ++ xs.take j) t) := hin3
              obtain ⟨cx, co⟩ := HTC.out wr hin3.2.2.2.2.2
              by_cases hjl : j < xl
              · have hjl2 : (j : Int) < (xl : Int) := by omega
                obtain ⟨xb, xo, rfl, hxb, hxc⟩ := HIN.out (by omega)
                obtain ⟨x, hx⟩ : ∃ x, x = xs.getD j HT.dx := ⟨_, rfl⟩
                have HXX : Hid (x = xs.getD j HT.dx) := hx
                have HXC : Hid (∀ W, Below hb w3 W → W.cell? ⟨xb, xo + j * 2, none⟩ = some (.int .i64 x.1) ∧ W.cell? ⟨xb, xo + j * 2 + 1, none⟩ = some (.int .i64 x.2)) := by
                  intro W hW; rw [hx]; exact hxc W hW j hjl
                obtain ⟨x1, x2⟩ := HXC.out wr hin3.2.2.2.2.2
                have hcl2 : cs.length = (xl + 2) * 2 := hlr.1
                obtain ⟨p1, pf1⟩ := row_at hin3.2.2.1 (j * 2)
                obtain ⟨p2, pf2⟩ := row_at hin3.2.2.1 (j * 2 + 1)
                rw [List.getElem?_eq_getElem (by omega)] at p1 p2
                generalize cs[j * 2]'(by omega) = q1 at p1
                generalize cs[j * 2 + 1]'(by omega) = q2 at p2
                have pf3 : ∀ a, (wr.setCell ⟨gl, j * 2, none⟩ a).frozen? ⟨gl, j * 2 + 1, none⟩ = false := fun a => by rw [World.frozen?_setCell]; exact pf2
                have hjx : (j : Int) < (xl : Int) + 2 := by omega
                have HI5 : Hid (In3 w3 ((wr.setCell ⟨gl, j * 2, none⟩ (.int .i64 x.1)).setCell ⟨gl, j * 2 + 1, none⟩ (.int .i64 x.2)) hb rb gl v2' ((cs.set (j * 2) (.int .i64 x.1)).set (j * 2 + 1) (.int .i64 x.2)) L (L ++ xs.take j) t) := hin3.put (by omega) _ _ _
                clear hx hxc hlr hin3 hcl2 co
                go_wp2_with fail
                generalize (wr.setCell ⟨gl, j * 2, none⟩ (.int .i64 x.1)).setCell ⟨gl, j * 2 + 1, none⟩ (.int .i64 x.2) = W5 at *
                clear p1 p2 pf1 pf2 pf3 x1 x2 cx HI3
                have hbe5 := HI5.out.2.2.2.2.2
                obtain ⟨cx, -⟩ := HTC.out W5 hbe5
                obtain ⟨x1, x2⟩ := HXC.out W5 hbe5
                obtain ⟨va2, vc2, hv2⟩ := row_val HI5.out.2.1.2.1
                obtain ⟨c0, ff⟩ := HI5.out.2.1.1.cells
                obtain ⟨n2, hn2⟩ : ∃ n2, n2 = (L ++ xs.take j).length := ⟨_, rfl⟩
                rw [← hn2] at hv2
                subst hv2
                have HN2 : Hid (n2 = (L ++ xs.take j).length) := hn2
                have hz5 : rb + 1 ≤ W5.heap.size := by have := hbe5.size; have := HZ3.out; omega
                have hrb5 : rb < W5.heap.size := by omega
                have hn2b : n2 ≤ 100000 := by
                  have h8 := HTC2.out
                  have h9 := HXL.out
                  rw [hn2, List.length_append, List.length_take]; omega
                have HOWN : Hid (((W5.alloc (.cells #[.int .i64 x.1, .int .i64 x.2] 66)).drew).ownsRow (rb + 1) 66 2 (.slice va2 n2 vc2) n2 (RH.flX (L ++ xs.take j))) := by
                  have := HI5.out.2.1.2.1
                  rw [← hn2] at this
                  exact (this.alloc _).drew
                have HGO : Hid (∀ g cap W6, W6.ownsRow (rb + 1) 66 2 (.slice (some ⟨g, 0, none⟩) (n2 + 1) cap) (n2 + 1) (RH.flX (L ++ xs.take j) ++ [.int .i64 x.1, .int .i64 x.2]) → ((W5.alloc (.cells #[.int .i64 x.1, .int .i64 x.2] 66)).drew).grownBy W6 (Value.slice va2 n2 vc2).ownBlock → ((Value.slice va2 n2 vc2).ownBlock = some g ∨ g = W5.heap.size + 1) → RH.Hd W6 rb (.slice va2 n2 vc2) ∧ In3 w3 (W6.setCell ⟨rb, 0, none⟩ (.slice (some ⟨g, 0, none⟩) (n2 + 1) cap)) hb rb gl (.slice (some ⟨g, 0, none⟩) (n2 + 1) cap) ((cs.set (j * 2) (.int .i64 x.1)).set (j * 2 + 1) (.int .i64 x.2)) L (L ++ xs.take (j + 1)) t) := by
                  intro g cap W6 h1 h2 h3
                  have h4 := HI5.out.app (x := x) (g := g) (cap := cap) hz5 (by have := HRB.out; omega) (by rw [← hn2]; exact h1) h2 h3
                  rw [← hn2] at h4
                  rw [show xs.take (j + 1) = xs.take j ++ [x] by
                    rw [List.take_add_one, HXX.out, List.getD_eq_getElem?_getD, List.getElem?_eq_getElem (by have := HXL.out; omega)]; rfl, ← List.append_assoc]
                  exact h4
                have HLR2 : Hid (Lrow ((cs.set (j * 2) (.int .i64 x.1)).set (j * 2 + 1) (.int .i64 x.2)) xs (j + 1) xl) := HLR.out.put hjl x HXX.out
                clear hbe5 hn2 HI5 HLR
                refine (fun key : ∀ g cap W6, W6.ownsRow (rb + 1) 66 2 (.slice (some ⟨g, 0, none⟩) (n2 + 1) cap) (n2 + 1) (RH.flX (L ++ xs.take j) ++ [.int .i64 x.1, .int .i64 x.2]) → ((W5.alloc (.cells #[.int .i64 x.1, .int .i64 x.2] 66)).drew).grownBy W6 (Value.slice va2 n2 vc2).ownBlock → ((Value.slice va2 n2 vc2).ownBlock = some g ∨ g = W5.heap.size + 1) → (?G : Nat → Nat → World → Prop) g cap W6 => ?main) ?kp
                case main =>
                  go_region_law ((refine step_append_lies _ (by rfl) _ _ _ (by rfl) (rb + 1) 66 iT _ 2 16 Try.underlying60 hiT z0 z1 z2 rfl (by omega) (.slice va2 n2 vc2) n2 (RH.flX (L ++ xs.take j)) (by rfl) HOWN.out ⟨W5.heap.size, 0, none⟩ 1 1 [.int .i64 x.1, .int .i64 x.2] (by rfl) (by rfl) (World.news_of_block (cs := #[.int .i64 x.1, .int .i64 x.2]) (t := 66) (fr := (0, 0)) (show ((W5.alloc (.cells #[.int .i64 x.1, .int .i64 x.2] 66)).drew).heap[W5.heap.size]? = some (.cells #[.int .i64 x.1, .int .i64 x.2] 66 (0, 0)) from heap_alloc_new W5 _)) (by simp [Value.oneCell']) (by omega) (by unfold maxLen; omega) (by omega) (by simp; omega) (W5.heap.size + 1) (by simp) ?_; intro gg gcap W6 hown1 hgrow hat hlt9; obtain ⟨q0, qf⟩ := (HGO.out gg gcap W6 hown1 hgrow hat).1.cells))
                  all_goals exact key _ _ _ hown1 hgrow hat
                case kp =>
                  intro g2 cap2 W6 hown hgrow hat
                  have HI6 : Hid _ := (HGO.out g2 cap2 W6 hown hgrow hat).2
                  clear hown hgrow hat HGO HOWN c0 ff cx x1 x2
                  generalize W6.setCell ⟨rb, 0, none⟩ (.slice (some ⟨g2, 0, none⟩) (n2 + 1) cap2) = W7 at *
                  go_wp2
                  go_roundw
                  case rel => exact ⟨j + 1, _, _, by omega, by go_num, HLR2.out, HI6.out⟩
                  case measure => simp [intOf]; omega
              · obtain rfl : j = xl := by omega
                have htk : xs.take j = xs := List.take_of_length_le (by have := HXL.out; omega)
                rw [htk] at HI3 hin3
                have HLST : Hid (HT.Lst hb (hb + 1) wr (.slice (some ⟨gl, 0, none⟩) j (j + 2)) xs) := by
                  refine ⟨_, j + 2, by rw [← HXL.out], fun _ => ⟨gl, 0, rfl, ⟨by omega, .inr (fun o ho cs' fz' e => ?_)⟩, fun q hq => ?_⟩⟩
                  · rw [hin3.2.2.1] at ho; rw [e] at ho; cases ho
                  · obtain ⟨r1, r2⟩ := hlr.2.1 q (by have := HXL.out; omega)
                    rw [Nat.zero_add]
                    exact ⟨by rw [(row_at hin3.2.2.1 _).1]; exact r1, by rw [(row_at hin3.2.2.1 _).1]; exact r2⟩
                have hwz : hb + 1 ≤ wr.heap.size := by have := hin3.2.2.2.2.2.size; have := HZ3.out; have := HRB.out; omega
                clear hlr hin3 co
                have hj1 : ¬ (j : Int) < (j : Int) := by omega
                have hj2 : (j : Int) ≤ (j : Int) + 2 := by omega
                go_wp2_with fail
                refine (HT.put_ hb 35 (hb + 1) _ L xs t wr HI3.out.1 HLST.out HT.less1 hwz (by have := HTC2.out; have := HXL.out; omega) (by have := HTC2.out; have := HXL.out; omega)).mono ?_
                rintro e w8 ⟨rfl, hof8, hfr8⟩
                have hI8 : In3 w3 w8 hb rb gl v2' cs (L ++ xs) (L ++ xs) (t + j) := by
                  rw [← HXL.out] at hof8
                  exact ⟨hof8, rat_fr HI3.out.2.1 HI3.out.1 hfr8, row_fr HI3.out.2.2.1 HI3.out.1 hfr8, HI3.out.2.2.2.1, HI3.out.2.2.2.2.1, HI3.out.2.2.2.2.2.trans (hfr8.below (by omega) (by omega))⟩
                have HI8 : Hid (In3 w3 w8 hb rb gl v2' cs (L ++ xs) (L ++ xs) (t + j)) := hI8
                obtain ⟨k1, k2⟩ := HLR.out.2.2 j (Nat.le_refl _) (by omega)
                obtain ⟨k3, k4⟩ := HLR.out.2.2 (j + 1) (by omega) (by omega)
                rw [← (row_at hI8.2.2.1 _).1] at k1 k2 k3 k4
                have hji1 : (j : Int) + 2 - 1 = (j : Int) + 1 := by omega
                have hji2 : (j : Int) + 2 - 2 = (j : Int) := by omega
                have hji3 : ((j : Int) + 1).toNat = j + 1 := by omega
                have hji4 : (j : Int) + 1 < (j : Int) + 2 := by omega
                have hji5 : (j : Int) < (j : Int) + 2 := by omega
                have hji6 : (0 : Int) ≤ (j : Int) + 1 := by omega
                have nq := thNeq 0 0
                have HCS8 : Hid (cs.length = (j + 2) * 2 ∧ ∀ p, 0 ≤ p → p < j → cs[p * 2]? = some (.int .i64 (xs.getD p HT.dx).1) ∧ cs[p * 2 + 1]? = some (.int .i64 (xs.getD p HT.dx).2)) := ⟨HLR.out.1, fun p _ hp => HLR.out.2.1 p hp⟩
                clear hof8 hfr8 HLST HI3 HLR hI8 hwz htk
                go_wp2_with fail
                clear k1 k2 k3 k4 hji1 hji2 hji3 hji4 hji6 nq
                go_loopw [12] (fun s12 W => ∃ (q : Nat) (cs : List Value), q ≤ j ∧ s12 = .int .i64 q ∧ (cs.length = (j + 2) * 2 ∧ ∀ p, q ≤ p → p < j → cs[p * 2]? = some (.int .i64 (xs.getD p HT.dx).1) ∧ cs[p * 2 + 1]? = some (.int .i64 (xs.getD p HT.dx).2)) ∧ In3 w3 W hb rb gl v2' cs (L ++ xs) (L ++ xs) (t + j)) (fun s12 _ => j - (intOf s12).toNat)
                case atStart => exact ⟨0, cs, Nat.zero_le _, rfl, HCS8.out, HI8.out⟩
                case round =>
                  obtain ⟨q, cs, hq, rfl, hcs, hin⟩ := hrel
                  clear HI8 HCS8
                  have HI9 : Hid (In3 w3 wr hb rb gl v2' cs (L ++ xs) (L ++ xs) (t + j)) := hin
                  have HCS9 : Hid _ := hcs
                  obtain ⟨cx, -⟩ := HTC.out wr hin.2.2.2.2.2
                  by_cases hqj : q < j
                  · have hqj2 : (q : Int) < (j : Int) := by omega
                    have hqj3 : (q : Int) < (j : Int) + 2 := by omega
                    obtain ⟨xb, xo, rfl, hxb, hxc⟩ := HIN.out (by omega)
                    obtain ⟨x, hx⟩ : ∃ x, x = xs.getD q HT.dx := ⟨_, rfl⟩
                    obtain ⟨x1, x2⟩ := hxc wr hin.2.2.2.2.2 q hqj
                    obtain ⟨p1, p2⟩ := hcs.2 q (Nat.le_refl _) hqj
                    rw [← (row_at hin.2.2.1 _).1] at p1 p2
                    rw [← hx] at x1 x2 p1 p2
                    have hnq := thNeq x.1 x.2
                    have hwz : hb ≤ wr.heap.size := by have := hin.2.2.2.2.2.size; have := HZ3.out; have := HRB.out; omega
                    have HCS10 : Hid (((cs.set (q * 2) (.int .i64 (-5))).set (q * 2 + 1) (.int .i64 (-5))).length = (j + 2) * 2 ∧ ∀ p, q + 1 ≤ p → p < j → ((cs.set (q * 2) (.int .i64 (-5))).set (q * 2 + 1) (.int .i64 (-5)))[p * 2]? = some (.int .i64 (xs.getD p HT.dx).1) ∧ ((cs.set (q * 2) (.int .i64 (-5))).set (q * 2 + 1) (.int .i64 (-5)))[p * 2 + 1]? = some (.int .i64 (xs.getD p HT.dx).2)) := by
                      refine ⟨by simpa using hcs.1, fun p hp1 hp2 => ?_⟩
                      obtain ⟨r1, r2⟩ := hcs.2 p (by omega) hp2
                      exact ⟨by rw [List.getElem?_set_ne (by omega), List.getElem?_set_ne (by omega)]; exact r1, by rw [List.getElem?_set_ne (by omega), List.getElem?_set_ne (by omega)]; exact r2⟩
                    have hP : cs[q * 2]? = some (.int .i64 x.1) ∧ cs[q * 2 + 1]? = some (.int .i64 x.2) := by rw [hx]; exact hcs.2 q (Nat.le_refl _) hqj
                    have HP2 : Hid _ := hP
                    clear hin hcs hxc hx HCS9 hP
                    go_wp2_with fail
                    go_quiet (fail)
                    have hin := HI9.out.up ((Up.refl _).drewN nq) hwz
                    clear p1 p2 x1 x2 HI9 cx hnq
                    generalize wr.drewN nq = W9 at *
                    obtain ⟨p1, p2⟩ := HP2.out
                    rw [← (row_at hin.2.2.1 _).1] at p1 p2
                    have pf1 := (row_at hin.2.2.1 (q * 2)).2
                    have pf2 : ∀ a, (W9.setCell ⟨gl, q * 2, none⟩ a).frozen? ⟨gl, q * 2 + 1, none⟩ = false := fun a => by rw [World.frozen?_setCell]; exact (row_at hin.2.2.1 (q * 2 + 1)).2
                    have HI10 : Hid (In3 w3 ((W9.setCell ⟨gl, q * 2, none⟩ (.int .i64 (-5))).setCell ⟨gl, q * 2 + 1, none⟩ (.int .i64 (-5))) hb rb gl v2' ((cs.set (q * 2) (.int .i64 (-5))).set (q * 2 + 1) (.int .i64 (-5))) (L ++ xs) (L ++ xs) (t + j)) := hin.put (by omega) _ _ _
                    clear hin HP2
                    go_wp2
                    go_roundw
                    case rel => exact ⟨q + 1, _, by omega, by go_num, HCS10.out, HI10.out⟩
                    case measure => simp [intOf]; omega
                  · obtain rfl : q = j := by omega
                    obtain ⟨-, co⟩ := HTC.out wr hin.2.2.2.2.2
                    have hqq : ¬ (q : Int) < (q : Int) := by omega
                    have HOF9 : Hid (HT.HeapOf wr hb 35 (hb + 1) (L ++ xs) (t + q)) := hin.1
                    have HRA9 : Hid (RH.RAt wr rb (rb + 1) v2' (L ++ xs)) := hin.2.1
                    have HBE9 : Hid (Below hb w3 wr) := hin.2.2.2.2.2
                    have hLx : (L ++ xs).length ≤ t + q := by rw [List.length_append]; have := HXL.out; omega
                    have htq : t + q ≤ 4096 := by have := HTC2.out; omega
                    clear hin hcs HI9 HCS9 co
                    go_wp2_with fail
                    clear cx
                    go_loopw [13] (fun s13 W => ∃ (q5 : Nat) (L5 : List HT.X) (v5 : Value), q5 ≤ c + 1 ∧ s13 = .int .i64 q5 ∧ HT.HeapOf W hb 35 (hb + 1) L5 (t + q) ∧ RH.RAt W rb (rb + 1) v5 L5 ∧ Below hb w3 W ∧ L5.length ≤ t + q) (fun s13 _ => c + 2 - (intOf s13).toNat)
                    case atStart => exact ⟨0, L ++ xs, v2', Nat.zero_le _, rfl, HOF9.out, HRA9.out, HBE9.out, hLx⟩
                    case round =>
                      obtain ⟨q5, L5, v5, hq5, rfl, hof, hra, hbe, hL5⟩ := hrel
                      clear HOF9 HRA9 HBE9 hLx
                      have HOF5 : Hid (HT.HeapOf wr hb 35 (hb + 1) L5 (t + q)) := hof
                      have HRA5 : Hid (RH.RAt wr rb (rb + 1) v5 L5) := hra
                      have HBE5 : Hid (Below hb w3 wr) := hbe
                      obtain ⟨cx, co⟩ := HTC.out wr hbe
                      have hrz5 : rb + 1 ≤ wr.heap.size := by have := hbe.size; have := HZ3.out; omega
                      have hrz6 : hb + 1 ≤ wr.heap.size := by have := HRB.out; omega
                      clear hof hra hbe
                      by_cases hgo : (q5 : Int) < out ∧ (q5 : Int) ≤ (c : Int)
                      · obtain ⟨hg1, hg2⟩ := hgo
                        by_cases hne : L5 = []
                        · subst hne
                          go_wp2_with fail
                          clear cx co
                          refine (HT.take_none hb 35 (hb + 1) (t + q) wr HOF5.out).mono ?_
                          rintro e w9 ⟨rfl, u9⟩
                          obtain ⟨x, hx⟩ : ∃ x : HT.X, x = (0, 0) := ⟨_, rfl⟩
                          obtain ⟨x1, hx1⟩ : ∃ x1 : Int, x1 = 0 := ⟨_, rfl⟩
                          have hb10 : Below hb wr w9 := Below.mono u9 (by omega)
                          have hra9 : RH.RAt w9 rb (rb + 1) v5 [] := HRA5.out.up u9
                          have HOF9 : Hid (HT.HeapOf w9 hb 35 (hb + 1) [] (t + q)) := heapOf_keep HOF5.out (KeepHE.up u9)
                          clear u9 hx x hx1 x1
                          obtain ⟨W10, hW10⟩ : ∃ W, W = w9.alloc (.cells #[.int .i64 0, .int .i64 0] 66) := ⟨_, rfl⟩
                          have u10 : Up w9 W10 := by rw [hW10]; exact (Up.refl _).alloc _
                          have hz9 : wr.heap.size ≤ w9.heap.size := hb10.size
                          have HRA10 : Hid (RH.RAt W10 rb (rb + 1) v5 []) := hra9.up u10
                          have HOF10 : Hid (HT.HeapOf W10 hb 35 (hb + 1) [] (t + q)) := heapOf_keep HOF9.out (KeepHE.up u10)
                          have HX10 : Hid (W10.heap[w9.heap.size]? = some (.cells #[.int .i64 0, .int .i64 0] 66 (0, 0))) := by unfold Hid; rw [hW10]; exact heap_alloc_new w9 _
                          have HBE10 : Hid (Below hb w3 W10) := (HBE5.out.trans hb10).trans (Below.mono u10 (by omega))
                          have hz10 : W10.heap.size = w9.heap.size + 1 := by rw [hW10]; simp
                          have HZ10 : Hid _ := hz10
                          clear hb10 u10 hra9 HOF9 hz10
                          go_wp2_with fail
                          rw [← hW10]
                          clear hW10
                          have hz11 : rb + 1 ≤ W10.heap.size := by have := HZ10.out; omega
                          refine (RH.take_none rb (rb + 1) v5 W10 HRA10.out).mono ?_
                          rintro e w11 ⟨rfl, u11⟩
                          have cc := HX10.out
                          replace cc := u11.heap cc
                          have HRA11 : Hid (RH.RAt w11 rb (rb + 1) v5 []) := HRA10.out.up u11
                          have HOF11 : Hid (HT.HeapOf w11 hb 35 (hb + 1) [] (t + q)) := heapOf_keep HOF10.out (KeepHE.up u11)
                          have HBE11 : Hid (Below hb w3 w11) := HBE10.out.trans (Below.mono u11 (by have := HZ10.out; omega))
                          clear u11
                          have cx1 : w11.cell? ⟨w9.heap.size, 0, none⟩ = some (.int .i64 0) := by simp [World.cell?, cc]
                          have cx2 : w11.cell? ⟨w9.heap.size, 1, none⟩ = some (.int .i64 0) := by simp [World.cell?, cc]
                          have hz12 : w9.heap.size < w11.heap.size := (Array.getElem?_eq_some_iff.1 cc).1
                          have nq := thNeq 0 0
                          clear cc
                          go_wp2
                          go_roundw
                          case rel => exact ⟨q5 + 1, _, _, by omega, by go_num, heapOf_keep HOF11.out (KeepHE.up ((Up.refl _).alloc _)), HRA11.out.up ((Up.refl _).alloc _), Below.trans HBE11.out (Below.mono ((Up.refl _).alloc _) (by omega)), Nat.zero_le _⟩
                          case measure => simp [intOf]; omega
                        · go_wp2_with fail
                          clear cx co
                          refine (HT.take_ hb 35 (hb + 1) L5 (t + q) wr HOF5.out hne HT.less1 hrz6 (by omega)).mono ?_
                          rintro e w9 ⟨rfl, hof9, hfr9⟩
                          obtain ⟨x, hx⟩ : ∃ x, x = L5.getD (least HT.rk HT.dx L5) HT.dx := ⟨_, rfl⟩
                          have HXE : Hid (x = L5.getD (least HT.rk HT.dx L5) HT.dx) := hx
                          have hb10 : Below hb wr w9 := hfr9.below (by omega) (by omega)
                          have hra9 : RH.RAt w9 rb (rb + 1) v5 L5 := rat_fr HRA5.out HOF5.out hfr9
                          have HOF9 : Hid (HT.HeapOf w9 hb 35 (hb + 1) (L5.eraseIdx (least HT.rk HT.dx L5)) (t + q)) := hof9
                          rw [← hx]
                          clear hof9 hfr9 hx
                          obtain ⟨W10, hW10⟩ : ∃ W, W = w9.alloc (.cells #[.int .i64 x.1, .int .i64 x.2] 66) := ⟨_, rfl⟩
                          have u10 : Up w9 W10 := by rw [hW10]; exact (Up.refl _).alloc _
                          have hz9 : wr.heap.size ≤ w9.heap.size := hb10.size
                          have HRA10 : Hid (RH.RAt W10 rb (rb + 1) v5 L5) := hra9.up u10
                          have HOF10 : Hid (HT.HeapOf W10 hb 35 (hb + 1) (L5.eraseIdx (least HT.rk HT.dx L5)) (t + q)) := heapOf_keep HOF9.out (KeepHE.up u10)
                          have HX10 : Hid (W10.heap[w9.heap.size]? = some (.cells #[.int .i64 x.1, .int .i64 x.2] 66 (0, 0))) := by unfold Hid; rw [hW10]; exact heap_alloc_new w9 _
                          have HBE10 : Hid (Below hb w3 W10) := (HBE5.out.trans hb10).trans (Below.mono u10 (by omega))
                          have hz10 : W10.heap.size = w9.heap.size + 1 := by rw [hW10]; simp
                          have HZ10 : Hid _ := hz10
                          clear hb10 u10 hra9 HOF9 hz10
                          go_wp2_with fail
                          rw [← hW10]
                          clear hW10
                          have hz11 : rb + 1 ≤ W10.heap.size := by have := HZ10.out; omega
                          refine (RH.take_ rb (rb + 1) v5 L5 W10 HRA10.out hne hz11 (by omega)).mono ?_
                          rintro e w11 ⟨rfl, v11, hra11, ho11⟩
                          rw [← HXE.out]
                          have cc := HX10.out
                          rw [← ho11.2.2 w9.heap.size (by have := HZ10.out; omega) (by omega)] at cc
                          have HRA11 : Hid (RH.RAt w11 rb (rb + 1) v11 (L5.eraseIdx (least HT.rk HT.dx L5))) := hra11
                          have HOF11 : Hid (HT.HeapOf w11 hb 35 (hb + 1) (L5.eraseIdx (least HT.rk HT.dx L5)) (t + q)) := heapOf_keep HOF10.out (KeepHE.only (KeepHE.refl _) ho11 HRA10.out.1 (by decide) (by decide))
                          have HBE11 : Hid (Below hb w3 w11) := HBE10.out.trans (ho11.below (by have := HRB.out; omega) (by have := HZ10.out; omega))
                          clear hra11 ho11
                          have cx1 : w11.cell? ⟨w9.heap.size, 0, none⟩ = some (.int .i64 x.1) := by simp [World.cell?, cc]
                          have cx2 : w11.cell? ⟨w9.heap.size, 1, none⟩ = some (.int .i64 x.2) := by simp [World.cell?, cc]
                          have hz12 : w9.heap.size < w11.heap.size := (Array.getElem?_eq_some_iff.1 cc).1
                          have nq := thNeq x.1 x.2
                          clear cc
                          go_wp2
                          go_roundw
                          case rel => exact ⟨q5 + 1, _, _, by omega, by go_num, heapOf_keep HOF11.out (KeepHE.up ((Up.refl _).alloc _)), HRA11.out.up ((Up.refl _).alloc _), Below.trans HBE11.out (Below.mono ((Up.refl _).alloc _) (by omega)), by have := List.length_eraseIdx_le L5 (least HT.rk HT.dx L5); omega⟩
                          case measure => simp [intOf]; omega
                      · have hx2 : ((q5 : Int) < out ∧ ¬ (q5 : Int) ≤ (c : Int)) ∨ ¬ (q5 : Int) < out := by omega
                        obtain ⟨va5, vc5, hv5⟩ := row_val HRA5.out.2.1
                        obtain ⟨c0, ff⟩ := HRA5.out.1.cells
                        obtain ⟨n5, hn5⟩ : ∃ n5, n5 = L5.length := ⟨_, rfl⟩
                        rw [← hn5] at hv5
                        subst hv5
                        have HN5 : Hid (L5.length = n5) := hn5.symm
                        have HLEN : Hid (∀ m, Calls Try.prog 39 #[.pointer (some ⟨hb, 0, none⟩)] (wr.drewN m) fun e w' => e = .returned (.int .i64 (n5 : Nat)) ∧ w' = wr.drewN m) := by
                          intro m
                          have := HT.len_ hb 35 (hb + 1) L5 (t + q) (wr.drewN m) (heapOf_keep HOF5.out (KeepHE.up ((Up.refl _).drewN m)))
                          rw [HN5.out] at this
                          exact this
                        clear hgo hn5 ff
                        rcases hx2 with ⟨hg1, hg2⟩ | hg1
                        · go_wp2_with fail
                          go_quiet ((go_at_call 39; exact Calls.quiet_of_same (HLEN.out _)))
                          go_wp2
                          go_roundw
                          case rel => exact ⟨i2 + 1, L5, _, t + q, by omega, by go_num, heapOf_keep HOF5.out (KeepHE.up ((Up.refl _).drewN _)), HRA5.out.up ((Up.refl _).drewN _), Below.trans HBE5.out (Below.mono ((Up.refl _).drewN _) (by omega)), hL5, by rw [HCS2.out]; have := HTC2.out; omega⟩
                          case measure => simp [intOf]; omega
                        · go_wp2_with fail
                          go_quiet ((go_at_call 39; exact Calls.quiet_of_same (HLEN.out _)))
                          go_wp2
                          go_roundw
                          case rel => exact ⟨i2 + 1, L5, _, t + q, by omega, by go_num, heapOf_keep HOF5.out (KeepHE.up ((Up.refl _).drewN _)), HRA5.out.up ((Up.refl _).drewN _), Below.trans HBE5.out (Below.mono ((Up.refl _).drewN _) (by omega)), hL5, by rw [HCS2.out]; have := HTC2.out; omega⟩
                          case measure => simp [intOf]; omega
          · have hlt2 : ¬ (i2 : Int) < (N : Int) := by omega
            have hUw : Up w wr := Below.trans HU3.out (Below.mono hbe hsb)
            have HUW : Hid (Up w wr) := hUw
            obtain ⟨W1, hW1⟩ : ∃ W, W = wr.alloc (.cells #[.nilFunc, .slice none 0 0, .int .i64 0, .bool false] 77) := ⟨_, rfl⟩
            have HID : Hid (HT.Idle W1 (some ⟨wr.heap.size, 0, none⟩)) := by unfold Hid; rw [hW1]; exact .inr ⟨_, rfl, heap_alloc_new wr _⟩
            have HU4 : Hid (Up w W1) := by unfold Hid; rw [hW1]; exact hUw.alloc _
            clear hof hra hbe hUw
            go_wp2_with fail
            rw [← hW1]
            clear hW1
            refine (HT.takeI none W1 (.inl rfl)).mono ?_
            rintro e w5 ⟨rfl, u5⟩
            obtain ⟨W6, hW6⟩ : ∃ W, W = w5.alloc (.cells #[.int .i64 0, .int .i64 0] 66) := ⟨_, rfl⟩
            have HU6 : Hid (Up W1 W6) := by unfold Hid; rw [hW6]; exact u5.alloc _
            have HC6 : Hid (W6.heap[w5.heap.size]? = some (.cells #[.int .i64 0, .int .i64 0] 66 (0, 0))) := by unfold Hid; rw [hW6]; exact heap_alloc_new w5 _
            clear u5
            go_wp2_with fail
            rw [← hW6]
            clear hW6
            refine (HT.takeI (some ⟨wr.heap.size, 0, none⟩) W6 (HID.out.up HU6.out)).mono ?_
            rintro e w7 ⟨rfl, u7⟩
            have HU7 : Hid (Up W1 w7) := HU6.out.trans u7
            have c7 := u7.heap HC6.out
            have cx1 : w7.cell? ⟨w5.heap.size, 0, none⟩ = some (.int .i64 0) := by simp [World.cell?, c7]
            have cx2 : w7.cell? ⟨w5.heap.size, 1, none⟩ = some (.int .i64 0) := by simp [World.cell?, c7]
            have hz7 : w5.heap.size < w7.heap.size := (Array.getElem?_eq_some_iff.1 c7).1
            have nq := thEql 0 0
            clear u7 c7
            go_wp2_with fail
            refine (HT.lenI none _ (.inl rfl)).mono ?_
            rintro e w9 ⟨rfl, rfl⟩
            go_wp2_with fail
            refine (HT.lenI (some ⟨wr.heap.size, 0, none⟩) _ (HID.out.up ((HU7.out.alloc _).alloc _))).mono ?_
            rintro e w9 ⟨rfl, rfl⟩
            go_wp2_with fail
            refine (HT.putI none _ _ (.inl rfl)).mono ?_
            rintro e w9 ⟨rfl, rfl⟩
            go_wp2_with fail
            refine (HT.putI (some ⟨wr.heap.size, 0, none⟩) _ _ (HID.out.up ((((HU7.out.alloc _).alloc _).alloc _).alloc _))).mono ?_
            rintro e w9 ⟨rfl, rfl⟩
            go_wp2
            rw [HPo.out]
            exact ⟨rfl, ((((HU4.out.trans HU7.out).alloc _).alloc _).alloc _).alloc _⟩
end Go.Proofs.Ytehkjgnhjhdclaa
