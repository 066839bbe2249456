/-
  Encode: the image of a state.
-/
import Derived.Test.YtmpamcdobhiipaaGreatDoorWr7Q
import Derived.Lib.SlBytesConst
namespace Go.Proofs.YtmpamcdobhiipaaGreatDoor
open Go.RowKit
attribute [local go_sem ↓] Go.wp_at_zero Go.wp_at_succ

namespace IM
open Go.Proofs.YtmpamcdobhiipaaGreatDoor.ST
theorem oneIf_ (b : Bool) (w : World) : Calls Tryz.prog 60 #[.bool b] w fun x w' => x = .returned (.int .i64 (oneI b)) ∧ w' = w := by
  cases b
  · go_enter Tryz.func60, Tryz.ntmps60
    go_wp2
    go_ret
    exact ⟨rfl, rfl⟩
  · go_enter Tryz.func60, Tryz.ntmps60
    go_wp2
    go_ret
    exact ⟨rfl, rfl⟩
theorem flat_le {A : Type} (f : A → List Int) (c : Nat) : ∀ (l : List A) (i : Nat), (∀ x ∈ l, (f x).length ≤ c) → ((l.take i).flatMap f).length ≤ l.length * c
  | [], i, _ => by simp
  | x :: l, 0, _ => by simp
  | x :: l, i + 1, h => by
    have h1 := flat_le f c l i (fun y hy => h y (List.mem_cons_of_mem _ hy))
    have h2 := h x List.mem_cons_self
    simp only [List.take_succ_cons, List.flatMap_cons, List.length_append, List.length_cons, Nat.add_mul]
    omega
theorem flat_more {A : Type} (f : A → List Int) (l : List A) (i : Nat) (d : A) (h : i < l.length) : (l.take (i + 1)).flatMap f = (l.take i).flatMap f ++ f (l.getD i d) := by
  rw [List.take_succ_eq_append_getElem h, List.flatMap_append]
  simp [List.getD, List.getElem?_eq_getElem h]
theorem mem_getD {A : Type} {l : List A} {i : Nat} (d : A) (h : i < l.length) : l.getD i d ∈ l := by
  rw [List.getD, List.getElem?_eq_getElem h]; exact List.getElem_mem h
theorem w64 {n : Int} (h : R4 n) : IntKind.i64.wrap n = n := by
  obtain ⟨h1, h2⟩ := h
  rw [IntKind.wrap_i64]; omega
theorem calls_world {P : Program} {f : FuncId} {args : Array Value} {a b : World} {R : Ending → World → Prop} (h : a = b) (c : Calls P f args b R) : Calls P f args a R := by rw [h]; exact c
theorem IsW.up {base p : Nat} {B : List Int} {w W : World} (h : IsW base p B w) (u : Up w W) : IsW base p B W := by
  obtain ⟨h1, v, h2, h3, h4⟩ := h
  exact ⟨h1, v, u.heap h2, row_up h3 u, h4⟩
theorem index_cell (cs : Array Value) (i : Nat) (v : Value) (hi : i < 4) (hv : cs[i]? = some v) (w : World) : (Instr.index 141 (.agg cs) (.int .i64 (i : Int))).run Tryz.prog w = .ok v w := by
  have h0 : (0 : Int) ≤ (i : Int) ∧ (i : Int) < ((4 : Nat) : Int) := ⟨by omega, by omega⟩
  simp only [Instr.index, asIntOf, run_underlying Tryz.underlying141, Sem.run_bind, Sem.run_pure, Result.andThen_ok]
  rw [if_pos h0]
  simp [part, hv]
set_option maxRecDepth 100000 in
set_option maxHeartbeats 8000000 in
theorem written_ (v : Value) (s : Stt) (w : World) (hv : StL w v s) (hr : RS s) :
    Calls Tryz.prog 47 #[v] w fun x w' => ∃ vb, x = .returned vb ∧ w'.ownsRow w.heap.size 5 1 vb (img s).length (bvs (img s)) ∧ Up w w' := by
  obtain ⟨Post, hPost⟩ : ∃ P : Ending → World → Prop, P = fun x w' => ∃ vb, x = .returned vb ∧ w'.ownsRow w.heap.size 5 1 vb (img s).length (bvs (img s)) ∧ Up w w' := ⟨_, rfl⟩
  rw [← hPost]
  have HP : Hid (Post = _) := hPost
  obtain ⟨vp, vc, vz, hvv, h1, h2, h3⟩ := hv
  obtain ⟨a1, k1, rfl, -, c1⟩ := pl_at h1
  obtain ⟨a2, k2, rfl, -, c2⟩ := cl_at h2
  obtain ⟨a3, k3, rfl, -, c3⟩ := zl_at h3
  unfold sv at hvv
  have HC1 : Hid _ := c1
  have HC2 : Hid _ := c2
  have HC3 : Hid _ := c3
  have HR : Hid (RS s) := hr
  obtain ⟨n1, hn1⟩ : ∃ n, n = s.ps.length := ⟨_, rfl⟩
  obtain ⟨n2, hn2⟩ : ∃ n, n = s.cs.length := ⟨_, rfl⟩
  obtain ⟨n3, hn3⟩ : ∃ n, n = s.zs.length := ⟨_, rfl⟩
  have HN : Hid (n1 = s.ps.length ∧ n2 = s.cs.length ∧ n3 = s.zs.length) := ⟨hn1, hn2, hn3⟩
  have b1 : n1 < 256 := by rw [hn1]; exact hr.nps
  have b2 : n2 < 65536 := by rw [hn2]; exact hr.ncs
  have b3 : n3 < 1024 := by have := hr.nzs; omega
  rw [← hn1] at HC1 hvv
  rw [← hn2] at HC2 hvv
  rw [← hn3] at HC3 hvv
  have e4 := w64 hr.turn
  have e8 : IntKind.i64.wrap s.fin = s.fin := w64 ⟨by have := hr.fin.1; omega, by have := hr.fin.2; omega⟩
  clear c1 c2 c3 h1 h2 h3 hr hn1 hn2 hn3 hPost
  subst hvv
  obtain ⟨turn, hturn⟩ : ∃ n, n = s.turn := ⟨_, rfl⟩
  obtain ⟨whose, hwhose⟩ : ∃ n, n = s.whose := ⟨_, rfl⟩
  obtain ⟨fin, hfin⟩ : ∃ n, n = s.fin := ⟨_, rfl⟩
  obtain ⟨winner, hwinner⟩ : ∃ n, n = s.winner := ⟨_, rfl⟩
  have HI : Hid (img s = mk ++ (by1 (n1 : Int) ++ (s.ps.flatMap plyI ++ (by2 (n2 : Int) ++ (s.cs.flatMap crdI ++ (s.zs.flatMap zonI ++ (by4 turn ++ (by1 whose ++ (by1 fin ++ by1 winner))))))))) := by
    unfold Hid img
    rw [hturn, hwhose, hfin, hwinner, HN.out.1, HN.out.2.1]
  rw [← hturn] at e4
  rw [← hfin] at e8
  rw [← hturn, ← hwhose, ← hfin, ← hwinner]
  clear hturn hwhose hfin hwinner
  obtain ⟨A, hA⟩ : ∃ A : Array Value, A = #[.slice a1 n1 k1, .slice a2 n2 k2, .slice a3 n3 k3, .int .i32 turn, .int .i64 whose, .int .i8 fin, .int .i64 winner] := ⟨_, rfl⟩
  obtain ⟨W0, hW0⟩ : ∃ W0, ((w.alloc (.cells A 30)).alloc (.cells #[.int .u8 84, .int .u8 66, .int .u8 76, .int .u8 83, .int .u8 1] 5 (5, 6))).alloc (.cells #[.slice (some ⟨w.heap.size + 1, 0, none⟩) 5 5] 22) = W0 := ⟨_, rfl⟩
  have s0 : W0.heap.size = w.heap.size + 3 := by rw [← hW0]; simp
  have g0 : W0.heap[w.heap.size]? = some (.cells A 30 (0, 0)) := by
    rw [← hW0, Below.heap_alloc _ _ _ (by simp; omega), Below.heap_alloc _ _ _ (by simp)]
    exact heap_alloc_new _ _
  have hcv : (convert 22 22 (.slice (some ⟨w.heap.size + 1, 0, none⟩) 5 5)).run Tryz.prog ((w.alloc (.cells A 30)).alloc (.cells #[.int .u8 84, .int .u8 66, .int .u8 76, .int .u8 83, .int .u8 1] 5)) = .ok (.slice (some ⟨w.heap.size + 1, 0, none⟩) 5 5) ((w.alloc (.cells A 30)).alloc (.cells #[.int .u8 84, .int .u8 66, .int .u8 76, .int .u8 83, .int .u8 1] 5 (5, 6))) := by
    have := Lib.run_convert_bytes_const (P := Tryz.prog) (w.alloc (.cells A 30)) 22 5 #[.int .u8 84, .int .u8 66, .int .u8 76, .int .u8 83, .int .u8 1] 5 5 Tryz.underlying22 Tryz.underlying5
    simpa using this
  have HM0 : Hid (IsM w.heap.size (w.heap.size + 1 + 1) W0 ∧ Up w W0) := by
    refine ⟨⟨by omega, w.heap.size + 1, ?_, ?_, by omega⟩, ?_⟩
    · rw [← hW0]
      have := heap_alloc_new ((w.alloc (.cells A 30)).alloc (.cells #[.int .u8 84, .int .u8 66, .int .u8 76, .int .u8 83, .int .u8 1] 5 (5, 6))) (.cells #[.slice (some ⟨w.heap.size + 1, 0, none⟩) 5 5] 22)
      simpa using this
    · rw [← hW0, Below.heap_alloc _ _ _ (by simp)]
      have := heap_alloc_new (w.alloc (.cells A 30)) (.cells #[.int .u8 84, .int .u8 66, .int .u8 76, .int .u8 83, .int .u8 1] 5 (5, 6))
      rw [show w.heap.size + 1 = (w.alloc (.cells A 30)).heap.size by simp]
      exact this
    · rw [← hW0]; exact (((Up.refl _).alloc _).alloc _).alloc _
  rw [hA] at hW0 hcv
  have HG : Hid (∀ W, TK (w.heap.size + 1 + 1) W0 W → ∀ j, W.cell? ⟨w.heap.size, j, none⟩ = A[j]?) := fun W tk j => by
    have := tk _ _ _ _ g0 (by omega) (by decide)
    simp only [World.cell?, this]
    rfl
  have HA : Hid (A[0]? = some (.slice a1 n1 k1) ∧ A[1]? = some (.slice a2 n2 k2) ∧ A[2]? = some (.slice a3 n3 k3) ∧ A[3]? = some (.int .i32 turn) ∧ A[4]? = some (.int .i64 whose) ∧ A[5]? = some (.int .i8 fin) ∧ A[6]? = some (.int .i64 winner)) := by rw [hA]; exact ⟨rfl, rfl, rfl, rfl, rfl, rfl, rfl⟩
  have x0 : W0.cell? ⟨w.heap.size, 0, none⟩ = some (.slice a1 n1 k1) := by rw [HG.out W0 (TK.refl _ _), HA.out.1]
  have HW1 : Hid (∀ (B : List Int) (n : Int) (W : World), IsW w.heap.size (w.heap.size + 1 + 1) B W → B.length ≤ 140000000000000 → w.heap.size ≤ W.heap.size → Calls Tryz.prog 59 #[.int .i64 1, .int .i64 n, .pointer (some ⟨w.heap.size + 1 + 1, 0, none⟩)] W fun x w' => x = .returned (.tuple #[]) ∧ IsW w.heap.size (w.heap.size + 1 + 1) (B ++ by1 n) w' ∧ Below w.heap.size W w' ∧ TK (w.heap.size + 1 + 1) W w') := fun B n W => write1_ _ _ B n W
  have HW2 : Hid (∀ (B : List Int) (n : Int) (W : World), IsW w.heap.size (w.heap.size + 1 + 1) B W → B.length ≤ 140000000000000 → w.heap.size ≤ W.heap.size → Calls Tryz.prog 59 #[.int .i64 2, .int .i64 n, .pointer (some ⟨w.heap.size + 1 + 1, 0, none⟩)] W fun x w' => x = .returned (.tuple #[]) ∧ IsW w.heap.size (w.heap.size + 1 + 1) (B ++ by2 n) w' ∧ Below w.heap.size W w' ∧ TK (w.heap.size + 1 + 1) W w') := fun B n W => write2_ _ _ B n W
  have HW4 : Hid (∀ (B : List Int) (n : Int) (W : World), IsW w.heap.size (w.heap.size + 1 + 1) B W → B.length ≤ 140000000000000 → w.heap.size ≤ W.heap.size → Calls Tryz.prog 59 #[.int .i64 4, .int .i64 n, .pointer (some ⟨w.heap.size + 1 + 1, 0, none⟩)] W fun x w' => x = .returned (.tuple #[]) ∧ IsW w.heap.size (w.heap.size + 1 + 1) (B ++ by4 n) w' ∧ Below w.heap.size W w' ∧ TK (w.heap.size + 1 + 1) W w') := fun B n W => write4_ _ _ B n W
  have HG0 : Hid _ := g0
  clear hA g0
  go_enter Tryz.func47, Tryz.ntmps47
  go_wp2_with fail
  first | (refine Calls.mono (write0_ _ _ (n1 : Int) W0 HM0.out.1 (by omega)) ?_) | (refine calls_world hW0 (Calls.mono (write0_ _ _ (n1 : Int) W0 HM0.out.1 (by omega)) ?_))
  rintro r W1 ⟨rfl, i1, u1, t1⟩
  have HJ : Hid (IsW w.heap.size (w.heap.size + 1 + 1) (mk ++ by1 (n1 : Int)) W1 ∧ Below w.heap.size w W1 ∧ TK (w.heap.size + 1 + 1) W0 W1) := ⟨i1, Below.trans HM0.out.2 u1, t1⟩
  clear i1 u1 t1 x0 hcv hW0
  have x0 : W1.cell? ⟨w.heap.size, 0, none⟩ = some (.slice a1 n1 k1) := by rw [HG.out W1 HJ.out.2.2, HA.out.1]
  try go_end0
  go_wp2_with fail
  have HB1 : Hid (∀ i, (mk ++ by1 (n1 : Int) ++ (s.ps.take i).flatMap plyI).length ≤ 100000) := fun i => by
    have := flat_le plyI 9 s.ps i (fun x _ => by simp [plyI, by4, by1])
    rw [← HN.out.1] at this
    simp only [List.length_append, mk, by1, List.length_cons, List.length_nil]
    omega
  go_loopw [26] (fun s26 W => ∃ i : Nat, i ≤ n1 ∧ s26 = .int .i64 i ∧ IsW w.heap.size (w.heap.size + 1 + 1) (mk ++ by1 (n1 : Int) ++ (s.ps.take i).flatMap plyI) W ∧ Below w.heap.size w W ∧ TK (w.heap.size + 1 + 1) W0 W) (fun s26 _ => n1 - (intOf s26).toNat)
  case atStart => exact ⟨0, Nat.zero_le _, rfl, by simpa using HJ.out.1, HJ.out.2⟩
  case round =>
    obtain ⟨i, hi, rfl, h1, h2, h3⟩ := hrel
    clear HJ x0
    have HJ : Hid (IsW w.heap.size (w.heap.size + 1 + 1) (mk ++ by1 (n1 : Int) ++ (s.ps.take i).flatMap plyI) wr ∧ Below w.heap.size w wr ∧ TK (w.heap.size + 1 + 1) W0 wr) := ⟨h1, h2, h3⟩
    have hwp : w.heap.size + 1 + 1 < wr.heap.size := by
      obtain ⟨-, v, hq, -⟩ := h1
      exact (Array.getElem?_eq_some_iff.1 hq).1
    clear h1 h2 h3
    by_cases hlt : i < n1
    · have hlt2 : (i : Int) < (n1 : Int) := by omega
      obtain ⟨b, off, rfl, hc⟩ := HC1.out (by omega)
      obtain ⟨y0, y1, y2⟩ := hc wr HJ.out.2.1 i hlt
      have HFM : Hid (mk ++ by1 (n1 : Int) ++ (s.ps.take (i + 1)).flatMap plyI = mk ++ by1 (n1 : Int) ++ (s.ps.take i).flatMap plyI ++ plyI (s.ps.getD i dp)) := by
        unfold Hid
        rw [flat_more plyI s.ps i dp (by rw [← HN.out.1]; exact hlt)]
        simp only [List.append_assoc]
      have hq := HR.out.ps _ (mem_getD dp (show i < s.ps.length by rw [← HN.out.1]; exact hlt))
      have hBl := HB1.out i
      generalize mk ++ by1 (n1 : Int) ++ (s.ps.take i).flatMap plyI = B at *
      generalize s.ps.getD i dp = q at *
      have e1 := w64 hq.1
      have e2 := w64 hq.2
      clear hc hq
      obtain ⟨W2, hW2⟩ : ∃ W2, wr.alloc (.cells #[.int .i32 q.life, .int .i32 q.energy, .bool q.out] 95) = W2 := ⟨_, rfl⟩
      have hq2 : W2.heap[wr.heap.size]? = some (.cells #[.int .i32 q.life, .int .i32 q.energy, .bool q.out] 95 (0, 0)) := by rw [← hW2]; exact heap_alloc_new _ _
      have hu2 : Up wr W2 := by rw [← hW2]; exact (Up.refl _).alloc _
      have HJ2 : Hid (IsW w.heap.size (w.heap.size + 1 + 1) B W2 ∧ Below w.heap.size w W2 ∧ TK (w.heap.size + 1 + 1) W0 W2) := ⟨HJ.out.1.up hu2, Below.trans HJ.out.2.1 (Below.mono hu2 (by omega)), HJ.out.2.2.trans (TK.of_up hu2)⟩
      have HQ : Hid (∀ W, TK (w.heap.size + 1 + 1) W2 W → W.cell? ⟨wr.heap.size, 0, none⟩ = some (.int .i32 q.life) ∧ W.cell? ⟨wr.heap.size, 1, none⟩ = some (.int .i32 q.energy) ∧ W.cell? ⟨wr.heap.size, 2, none⟩ = some (.bool q.out)) := fun W tk => by
        have := tk _ _ _ _ hq2 (by omega) (by decide)
        simp only [World.cell?, this]
        exact ⟨rfl, rfl, rfl⟩
      have z0 := (HQ.out W2 (TK.refl _ _)).1
      have hs2 : w.heap.size ≤ W2.heap.size := by have := hu2.size; omega
      clear hq2 hu2
      go_wp2_with fail
      first | (refine Calls.mono (HW4.out (B) _ W2 HJ2.out.1 (by omega) HJ2.out.2.1.size) ?_) | (refine calls_world hW2 (Calls.mono (HW4.out (B) _ W2 HJ2.out.1 (by omega) HJ2.out.2.1.size) ?_))
      rintro r W3 ⟨rfl, iz, uz, tz⟩
      have HJ3 : Hid (IsW w.heap.size (w.heap.size + 1 + 1) (B ++ by4 q.life) W3 ∧ Below w.heap.size w W3 ∧ TK (w.heap.size + 1 + 1) W0 W3) := ⟨iz, Below.trans HJ2.out.2.1 uz, HJ2.out.2.2.trans tz⟩
      have HT3 : Hid (TK (w.heap.size + 1 + 1) W2 W3) := (TK.refl _ W2).trans tz
      clear iz uz tz
      have z1 := (HQ.out W3 HT3.out).2.1
      try go_end0
      go_wp2_with fail
      refine Calls.mono (HW4.out (B ++ by4 q.life) _ W3 HJ3.out.1 (by simp only [List.length_append, by4, List.length_cons, List.length_nil]; omega) HJ3.out.2.1.size) ?_
      rintro r W4 ⟨rfl, iz, uz, tz⟩
      have HJ4 : Hid (IsW w.heap.size (w.heap.size + 1 + 1) (B ++ by4 q.life ++ by4 q.energy) W4 ∧ Below w.heap.size w W4 ∧ TK (w.heap.size + 1 + 1) W0 W4) := ⟨iz, Below.trans HJ3.out.2.1 uz, HJ3.out.2.2.trans tz⟩
      have HT4 : Hid (TK (w.heap.size + 1 + 1) W2 W4) := HT3.out.trans tz
      clear iz uz tz
      have z2 := (HQ.out W4 HT4.out).2.2
      try go_end0
      go_wp2_with fail
      refine Calls.mono (oneIf_ q.out W4) ?_
      rintro r Wz ⟨rfl, hz⟩
      have hz := hz.symm
      subst hz
      go_wp2_with fail
      refine Calls.mono (HW1.out (B ++ by4 q.life ++ by4 q.energy) _ W4 HJ4.out.1 (by simp only [List.length_append, by4, List.length_cons, List.length_nil]; omega) HJ4.out.2.1.size) ?_
      rintro r W5 ⟨rfl, iz, uz, tz⟩
      have HJ5 : Hid (IsW w.heap.size (w.heap.size + 1 + 1) (B ++ by4 q.life ++ by4 q.energy ++ by1 (oneI q.out)) W5 ∧ Below w.heap.size w W5 ∧ TK (w.heap.size + 1 + 1) W0 W5) := ⟨iz, Below.trans HJ4.out.2.1 uz, HJ4.out.2.2.trans tz⟩
      clear iz uz tz
      try go_end0
      go_wp2
      go_roundw
      case rel =>
        refine ⟨i + 1, by omega, by go_num, ?_, HJ5.out.2⟩
        rw [HFM.out]
        have := HJ5.out.1
        simpa only [plyI, List.append_assoc] using this
      case measure => simp [intOf]; omega
    · have hlt2 : ¬ (i : Int) < (n1 : Int) := by omega
      obtain rfl : i = n1 := by omega
      have HJa : Hid (IsW w.heap.size (w.heap.size + 1 + 1) (mk ++ by1 (i : Int) ++ s.ps.flatMap plyI) wr ∧ Below w.heap.size w wr ∧ TK (w.heap.size + 1 + 1) W0 wr) := by
        refine ⟨?_, HJ.out.2⟩
        have h9 := HJ.out.1
        rw [HN.out.1, List.take_length, ← HN.out.1] at h9
        exact h9
      have hBl : (mk ++ by1 (i : Int) ++ s.ps.flatMap plyI).length ≤ 100000 := by
        have h9 := HB1.out i
        rw [HN.out.1, List.take_length, ← HN.out.1] at h9
        exact h9
      have HI2 : Hid (img s = (mk ++ by1 (i : Int) ++ s.ps.flatMap plyI) ++ (by2 (n2 : Int) ++ (s.cs.flatMap crdI ++ (s.zs.flatMap zonI ++ (by4 turn ++ (by1 whose ++ (by1 fin ++ by1 winner))))))) := by
        unfold Hid
        rw [HI.out]
        simp only [List.append_assoc]
      generalize mk ++ by1 (i : Int) ++ s.ps.flatMap plyI = B at *
      have x1 : wr.cell? ⟨w.heap.size, 1, none⟩ = some (.slice a2 n2 k2) := by rw [HG.out wr HJa.out.2.2, HA.out.2.1]
      clear HJ HB1 hwp HI hlt
      go_wp2_with fail
      refine Calls.mono (HW2.out (B) _ wr HJa.out.1 (by omega) HJa.out.2.1.size) ?_
      rintro r W6 ⟨rfl, iz, uz, tz⟩
      have HJ6 : Hid (IsW w.heap.size (w.heap.size + 1 + 1) (B ++ by2 (n2 : Int)) W6 ∧ Below w.heap.size w W6 ∧ TK (w.heap.size + 1 + 1) W0 W6) := ⟨iz, Below.trans HJa.out.2.1 uz, HJa.out.2.2.trans tz⟩
      clear iz uz tz
      have x1 : W6.cell? ⟨w.heap.size, 1, none⟩ = some (.slice a2 n2 k2) := by rw [HG.out W6 HJ6.out.2.2, HA.out.2.1]
      try go_end0
      go_wp2_with fail
      have HB2 : Hid (∀ j, (B ++ by2 (n2 : Int) ++ (s.cs.take j).flatMap crdI).length ≤ 2000000) := fun j => by
        have := flat_le crdI 19 s.cs j (fun x _ => by simp [crdI, by4, by2, by1])
        rw [← HN.out.2.1] at this
        simp only [List.length_append, by2, List.length_cons, List.length_nil]
        omega
      go_loopw [54] (fun s54 W => ∃ j : Nat, j ≤ n2 ∧ s54 = .int .i64 j ∧ IsW w.heap.size (w.heap.size + 1 + 1) (B ++ by2 (n2 : Int) ++ (s.cs.take j).flatMap crdI) W ∧ Below w.heap.size w W ∧ TK (w.heap.size + 1 + 1) W0 W) (fun s54 _ => n2 - (intOf s54).toNat)
      case atStart => exact ⟨0, Nat.zero_le _, rfl, by simpa using HJ6.out.1, HJ6.out.2⟩
      case round =>
        obtain ⟨j, hj, rfl, h1, h2, h3⟩ := hrel
        clear HJ6 x1 HJa
        have HJ : Hid (IsW w.heap.size (w.heap.size + 1 + 1) (B ++ by2 (n2 : Int) ++ (s.cs.take j).flatMap crdI) wr ∧ Below w.heap.size w wr ∧ TK (w.heap.size + 1 + 1) W0 wr) := ⟨h1, h2, h3⟩
        have hwp : w.heap.size + 1 + 1 < wr.heap.size := by
          obtain ⟨-, v, hq, -⟩ := h1
          exact (Array.getElem?_eq_some_iff.1 hq).1
        clear h1 h2 h3
        by_cases hlt : j < n2
        · have hlt2 : (j : Int) < (n2 : Int) := by omega
          obtain ⟨b, off, rfl, hc⟩ := HC2.out (by omega)
          obtain ⟨y0, y1, y2, y3, y4, y5⟩ := hc wr HJ.out.2.1 j hlt
          have HFM : Hid (B ++ by2 (n2 : Int) ++ (s.cs.take (j + 1)).flatMap crdI = B ++ by2 (n2 : Int) ++ (s.cs.take j).flatMap crdI ++ crdI (s.cs.getD j dc)) := by
            unfold Hid
            rw [flat_more crdI s.cs j dc (by rw [← HN.out.2.1]; exact hlt)]
            simp only [List.append_assoc]
          have hq := HR.out.cs _ (mem_getD dc (show j < s.cs.length by rw [← HN.out.2.1]; exact hlt))
          have hBl2 := HB2.out j
          generalize B ++ by2 (n2 : Int) ++ (s.cs.take j).flatMap crdI = C at *
          generalize s.cs.getD j dc = q at *
          have e1 := w64 hq.2.2.1
          have e2 := w64 hq.2.2.2.1
          have e3 := w64 hq.2.2.2.2.1
          have e5 := w64 hq.2.2.2.2.2
          clear hc hq
          obtain ⟨V, hV⟩ : ∃ V, wr.alloc (.cells #[.int .i64 q.kind, .int .i64 q.owner, .int .i32 q.power, .int .i32 q.health, .int .i32 q.damage, .int .i32 q.marks] 83) = V := ⟨_, rfl⟩
          have hq2 : V.heap[wr.heap.size]? = some (.cells #[.int .i64 q.kind, .int .i64 q.owner, .int .i32 q.power, .int .i32 q.health, .int .i32 q.damage, .int .i32 q.marks] 83 (0, 0)) := by rw [← hV]; exact heap_alloc_new _ _
          have hu2 : Up wr V := by rw [← hV]; exact (Up.refl _).alloc _
          have HJv : Hid (IsW w.heap.size (w.heap.size + 1 + 1) (C) V ∧ Below w.heap.size w V ∧ TK (w.heap.size + 1 + 1) W0 V) := ⟨HJ.out.1.up hu2, Below.trans HJ.out.2.1 (Below.mono hu2 (by omega)), HJ.out.2.2.trans (TK.of_up hu2)⟩
          have HQ : Hid (∀ W, TK (w.heap.size + 1 + 1) V W → W.cell? ⟨wr.heap.size, 0, none⟩ = some (.int .i64 q.kind) ∧ W.cell? ⟨wr.heap.size, 1, none⟩ = some (.int .i64 q.owner) ∧ W.cell? ⟨wr.heap.size, 2, none⟩ = some (.int .i32 q.power) ∧ W.cell? ⟨wr.heap.size, 3, none⟩ = some (.int .i32 q.health) ∧ W.cell? ⟨wr.heap.size, 4, none⟩ = some (.int .i32 q.damage) ∧ W.cell? ⟨wr.heap.size, 5, none⟩ = some (.int .i32 q.marks)) := fun W tk => by
            have := tk _ _ _ _ hq2 (by omega) (by decide)
            simp only [World.cell?, this]
            exact ⟨rfl, rfl, rfl, rfl, rfl, rfl⟩
          have z0 := (HQ.out V (TK.refl _ _)).1
          clear hq2 hu2
          go_wp2_with fail
          first | (refine Calls.mono (HW2.out (C) _ V HJv.out.1 (by omega) HJv.out.2.1.size) ?_) | (refine calls_world hV (Calls.mono (HW2.out (C) _ V HJv.out.1 (by omega) HJv.out.2.1.size) ?_))
          rintro r W7 ⟨rfl, iz, uz, tz⟩
          have HJ7 : Hid (IsW w.heap.size (w.heap.size + 1 + 1) (C ++ by2 q.kind) W7 ∧ Below w.heap.size w W7 ∧ TK (w.heap.size + 1 + 1) W0 W7) := ⟨iz, Below.trans HJv.out.2.1 uz, HJv.out.2.2.trans tz⟩
          have HT7 : Hid (TK (w.heap.size + 1 + 1) V W7) := (TK.refl _ V).trans tz
          clear iz uz tz
          have z1 := (HQ.out W7 HT7.out).2.1
          try go_end0
          go_wp2_with fail
          refine Calls.mono (HW1.out (C ++ by2 q.kind) _ W7 HJ7.out.1 (by simp only [List.length_append, by2, List.length_cons, List.length_nil]; omega) HJ7.out.2.1.size) ?_
          rintro r W8 ⟨rfl, iz, uz, tz⟩
          have HJ8 : Hid (IsW w.heap.size (w.heap.size + 1 + 1) (C ++ by2 q.kind ++ by1 q.owner) W8 ∧ Below w.heap.size w W8 ∧ TK (w.heap.size + 1 + 1) W0 W8) := ⟨iz, Below.trans HJ7.out.2.1 uz, HJ7.out.2.2.trans tz⟩
          have HT8 : Hid (TK (w.heap.size + 1 + 1) V W8) := HT7.out.trans tz
          clear iz uz tz
          obtain ⟨-, -, z2, z3, z4, z5⟩ := HQ.out W8 HT8.out
          try go_end0
          go_wp2_with fail
          have v0 : ∀ W : World, (Instr.index 141 (.agg #[.int .i32 q.power, .int .i32 q.health, .int .i32 q.damage, .int .i32 q.marks]) (.int .i64 0)).run Tryz.prog W = .ok (.int .i32 q.power) W := fun W => index_cell _ 0 _ (by decide) rfl W
          have v1 : ∀ W : World, (Instr.index 141 (.agg #[.int .i32 q.power, .int .i32 q.health, .int .i32 q.damage, .int .i32 q.marks]) (.int .i64 1)).run Tryz.prog W = .ok (.int .i32 q.health) W := fun W => index_cell _ 1 _ (by decide) rfl W
          have v2 : ∀ W : World, (Instr.index 141 (.agg #[.int .i32 q.power, .int .i32 q.health, .int .i32 q.damage, .int .i32 q.marks]) (.int .i64 2)).run Tryz.prog W = .ok (.int .i32 q.damage) W := fun W => index_cell _ 2 _ (by decide) rfl W
          have v3 : ∀ W : World, (Instr.index 141 (.agg #[.int .i32 q.power, .int .i32 q.health, .int .i32 q.damage, .int .i32 q.marks]) (.int .i64 3)).run Tryz.prog W = .ok (.int .i32 q.marks) W := fun W => index_cell _ 3 _ (by decide) rfl W
          refine wp_loop_rounds 5 ?_
          rw [rounds_succ]
          go_wp2_with fail
          refine Calls.mono (HW4.out (C ++ by2 q.kind ++ by1 q.owner) _ W8 HJ8.out.1 (by simp only [List.length_append, by2, by1, List.length_cons, List.length_nil]; omega) HJ8.out.2.1.size) ?_
          rintro r W9 ⟨rfl, iz, uz, tz⟩
          have HJ9 : Hid (IsW w.heap.size (w.heap.size + 1 + 1) (C ++ by2 q.kind ++ by1 q.owner ++ by4 q.power) W9 ∧ Below w.heap.size w W9 ∧ TK (w.heap.size + 1 + 1) W0 W9) := ⟨iz, Below.trans HJ8.out.2.1 uz, HJ8.out.2.2.trans tz⟩
          clear iz uz tz
          try go_end0
          go_wp2_with fail
          rw [rounds_succ]
          go_wp2_with fail
          refine Calls.mono (HW4.out (C ++ by2 q.kind ++ by1 q.owner ++ by4 q.power) _ W9 HJ9.out.1 (by simp only [List.length_append, by4, by2, by1, List.length_cons, List.length_nil]; omega) HJ9.out.2.1.size) ?_
          rintro r W10 ⟨rfl, iz, uz, tz⟩
          have HJ10 : Hid (IsW w.heap.size (w.heap.size + 1 + 1) (C ++ by2 q.kind ++ by1 q.owner ++ by4 q.power ++ by4 q.health) W10 ∧ Below w.heap.size w W10 ∧ TK (w.heap.size + 1 + 1) W0 W10) := ⟨iz, Below.trans HJ9.out.2.1 uz, HJ9.out.2.2.trans tz⟩
          clear iz uz tz
          try go_end0
          go_wp2_with fail
          rw [rounds_succ]
          go_wp2_with fail
          refine Calls.mono (HW4.out (C ++ by2 q.kind ++ by1 q.owner ++ by4 q.power ++ by4 q.health) _ W10 HJ10.out.1 (by simp only [List.length_append, by4, by2, by1, List.length_cons, List.length_nil]; omega) HJ10.out.2.1.size) ?_
          rintro r W11 ⟨rfl, iz, uz, tz⟩
          have HJ11 : Hid (IsW w.heap.size (w.heap.size + 1 + 1) (C ++ by2 q.kind ++ by1 q.owner ++ by4 q.power ++ by4 q.health ++ by4 q.damage) W11 ∧ Below w.heap.size w W11 ∧ TK (w.heap.size + 1 + 1) W0 W11) := ⟨iz, Below.trans HJ10.out.2.1 uz, HJ10.out.2.2.trans tz⟩
          clear iz uz tz
          try go_end0
          go_wp2_with fail
          rw [rounds_succ]
          go_wp2_with fail
          refine Calls.mono (HW4.out (C ++ by2 q.kind ++ by1 q.owner ++ by4 q.power ++ by4 q.health ++ by4 q.damage) _ W11 HJ11.out.1 (by simp only [List.length_append, by4, by2, by1, List.length_cons, List.length_nil]; omega) HJ11.out.2.1.size) ?_
          rintro r W12 ⟨rfl, iz, uz, tz⟩
          have HJ12 : Hid (IsW w.heap.size (w.heap.size + 1 + 1) (C ++ by2 q.kind ++ by1 q.owner ++ by4 q.power ++ by4 q.health ++ by4 q.damage ++ by4 q.marks) W12 ∧ Below w.heap.size w W12 ∧ TK (w.heap.size + 1 + 1) W0 W12) := ⟨iz, Below.trans HJ11.out.2.1 uz, HJ11.out.2.2.trans tz⟩
          clear iz uz tz
          try go_end0
          go_wp2_with fail
          rw [rounds_succ]
          go_wp2
          go_roundw
          case rel =>
            refine ⟨j + 1, by omega, by go_num, ?_, HJ12.out.2⟩
            rw [HFM.out]
            have := HJ12.out.1
            simpa only [crdI, List.append_assoc] using this
          case measure => simp [intOf]; omega
        · have hlt2 : ¬ (j : Int) < (n2 : Int) := by omega
          obtain rfl : j = n2 := by omega
          have HJb : Hid (IsW w.heap.size (w.heap.size + 1 + 1) (B ++ by2 (j : Int) ++ s.cs.flatMap crdI) wr ∧ Below w.heap.size w wr ∧ TK (w.heap.size + 1 + 1) W0 wr) := by
            refine ⟨?_, HJ.out.2⟩
            have h9 := HJ.out.1
            rw [HN.out.2.1, List.take_length, ← HN.out.2.1] at h9
            exact h9
          have hBl2 : (B ++ by2 (j : Int) ++ s.cs.flatMap crdI).length ≤ 2000000 := by
            have h9 := HB2.out j
            rw [HN.out.2.1, List.take_length, ← HN.out.2.1] at h9
            exact h9
          have HI3 : Hid (img s = (B ++ by2 (j : Int) ++ s.cs.flatMap crdI) ++ (s.zs.flatMap zonI ++ (by4 turn ++ (by1 whose ++ (by1 fin ++ by1 winner))))) := by
            unfold Hid
            rw [HI2.out]
            simp only [List.append_assoc]
          generalize B ++ by2 (j : Int) ++ s.cs.flatMap crdI = D at *
          have x2 : wr.cell? ⟨w.heap.size, 2, none⟩ = some (.slice a3 n3 k3) := by rw [HG.out wr HJb.out.2.2, HA.out.2.2.1]
          clear HJ HB2 hwp HI2 hlt hBl
          go_wp2_with fail
          have HB3 : Hid (∀ r, (D ++ (s.zs.take r).flatMap zonI).length ≤ 200000000) := fun r => by
            have := flat_le zonI 131074 s.zs r (fun x hx => by
              have h1 := (HR.out.zs x hx).1
              have h2 := flat_le by2 2 x x.length (fun _ _ => by simp [by2])
              rw [List.take_length] at h2
              simp only [zonI, List.length_append, by2, List.length_cons, List.length_nil] at h2 ⊢
              omega)
            rw [← HN.out.2.2] at this
            simp only [List.length_append]
            omega
          go_loopw [87] (fun s87 W => ∃ r : Nat, r ≤ n3 ∧ s87 = .int .i64 r ∧ IsW w.heap.size (w.heap.size + 1 + 1) (D ++ (s.zs.take r).flatMap zonI) W ∧ Below w.heap.size w W ∧ TK (w.heap.size + 1 + 1) W0 W) (fun s87 _ => n3 - (intOf s87).toNat)
          case atStart => exact ⟨0, Nat.zero_le _, rfl, by simpa using HJb.out.1, HJb.out.2⟩
          case round =>
            obtain ⟨k, hk, rfl, h1, h2, h3⟩ := hrel
            clear HJb x2
            have HJ : Hid (IsW w.heap.size (w.heap.size + 1 + 1) (D ++ (s.zs.take k).flatMap zonI) wr ∧ Below w.heap.size w wr ∧ TK (w.heap.size + 1 + 1) W0 wr) := ⟨h1, h2, h3⟩
            clear h1 h2 h3
            by_cases hlt : k < n3
            · have hlt2 : (k : Int) < (n3 : Int) := by omega
              obtain ⟨b, off, rfl, hc⟩ := HC3.out (by omega)
              obtain ⟨ra, rc, hrc, hil⟩ := hc k hlt
              have y0 := hrc wr HJ.out.2.1
              have HFM : Hid (D ++ (s.zs.take (k + 1)).flatMap zonI = D ++ (s.zs.take k).flatMap zonI ++ zonI (s.zs.getD k [])) := by
                unfold Hid
                rw [flat_more zonI s.zs k [] (by rw [← HN.out.2.2]; exact hlt)]
                simp only [List.append_assoc]
              have hq := (HR.out.zs _ (mem_getD [] (show k < s.zs.length by rw [← HN.out.2.2]; exact hlt))).1
              have hBl3 := HB3.out k
              generalize D ++ (s.zs.take k).flatMap zonI = E at *
              generalize s.zs.getD k [] = z at *
              obtain ⟨ra', rc', hsl, -, hcell⟩ := il_at hil
              obtain ⟨rfl, -, rfl⟩ : ra = ra' ∧ z.length = z.length ∧ rc = rc' := by simpa using hsl
              have HCE : Hid _ := hcell
              obtain ⟨m, hm⟩ : ∃ m, m = z.length := ⟨_, rfl⟩
              have HM : Hid (m = z.length) := hm
              rw [← hm] at y0 hq HCE
              clear hc hrc hil hsl hcell hm
              go_wp2_with fail
              refine Calls.mono (HW2.out (E) _ wr HJ.out.1 (by omega) HJ.out.2.1.size) ?_
              rintro r W13 ⟨rfl, iz, uz, tz⟩
              have HJ13 : Hid (IsW w.heap.size (w.heap.size + 1 + 1) (E ++ by2 (m : Int)) W13 ∧ Below w.heap.size w W13 ∧ TK (w.heap.size + 1 + 1) W0 W13) := ⟨iz, Below.trans HJ.out.2.1 uz, HJ.out.2.2.trans tz⟩
              clear iz uz tz
              try go_end0
              go_wp2_with fail
              have HB4 : Hid (∀ x, (E ++ by2 (m : Int) ++ (z.take x).flatMap by2).length ≤ 300000000) := fun x => by
                have := flat_le by2 2 z x (fun _ _ => by simp [by2])
                rw [← HM.out] at this
                simp only [List.length_append, by2, List.length_cons, List.length_nil] at this ⊢
                omega
              go_loopw [97] (fun s97 W => ∃ x : Nat, x ≤ m ∧ s97 = .int .i64 x ∧ IsW w.heap.size (w.heap.size + 1 + 1) (E ++ by2 (m : Int) ++ (z.take x).flatMap by2) W ∧ Below w.heap.size w W ∧ TK (w.heap.size + 1 + 1) W0 W) (fun s97 _ => m - (intOf s97).toNat)
              case atStart => exact ⟨0, Nat.zero_le _, rfl, by simpa using HJ13.out.1, HJ13.out.2⟩
              case round =>
                obtain ⟨x, hx, rfl, h1, h2, h3⟩ := hrel
                clear HJ13 HJ y0
                have HJ : Hid (IsW w.heap.size (w.heap.size + 1 + 1) (E ++ by2 (m : Int) ++ (z.take x).flatMap by2) wr ∧ Below w.heap.size w wr ∧ TK (w.heap.size + 1 + 1) W0 wr) := ⟨h1, h2, h3⟩
                clear h1 h2 h3
                by_cases hlt3 : x < m
                · have hlt4 : (x : Int) < (m : Int) := by omega
                  obtain ⟨b4, o4, rfl, hc4⟩ := HCE.out (by omega)
                  have y0 := hc4 wr HJ.out.2.1 x hlt3
                  have HF4 : Hid (E ++ by2 (m : Int) ++ (z.take (x + 1)).flatMap by2 = E ++ by2 (m : Int) ++ (z.take x).flatMap by2 ++ by2 (z.getD x 0)) := by
                    unfold Hid
                    rw [flat_more by2 z x 0 (by rw [← HM.out]; exact hlt3)]
                    simp only [List.append_assoc]
                  have hBl4 := HB4.out x
                  generalize E ++ by2 (m : Int) ++ (z.take x).flatMap by2 = F at *
                  generalize z.getD x 0 = y at *
                  clear hc4
                  go_wp2_with fail
                  refine Calls.mono (HW2.out (F) _ wr HJ.out.1 (by omega) HJ.out.2.1.size) ?_
                  rintro r W14 ⟨rfl, iz, uz, tz⟩
                  have HJ14 : Hid (IsW w.heap.size (w.heap.size + 1 + 1) (F ++ by2 y) W14 ∧ Below w.heap.size w W14 ∧ TK (w.heap.size + 1 + 1) W0 W14) := ⟨iz, Below.trans HJ.out.2.1 uz, HJ.out.2.2.trans tz⟩
                  clear iz uz tz
                  try go_end0
                  go_wp2
                  go_roundw
                  case rel => exact ⟨x + 1, by omega, by go_num, by rw [HF4.out]; exact HJ14.out.1, HJ14.out.2⟩
                  case measure => simp [intOf]; omega
                · have hlt4 : ¬ (x : Int) < (m : Int) := by omega
                  obtain rfl : x = m := by omega
                  have HJc : Hid (IsW w.heap.size (w.heap.size + 1 + 1) (E ++ zonI z) wr ∧ Below w.heap.size w wr ∧ TK (w.heap.size + 1 + 1) W0 wr) := by
                    refine ⟨?_, HJ.out.2⟩
                    have h9 := HJ.out.1
                    rw [HM.out, List.take_length, List.append_assoc] at h9
                    exact h9
                  clear HJ HB4
                  go_wp2
                  go_roundw
                  case rel => exact ⟨k + 1, by omega, by go_num, by rw [HFM.out]; exact HJc.out.1, HJc.out.2⟩
                  case measure => simp [intOf]; omega
            · have hlt2 : ¬ (k : Int) < (n3 : Int) := by omega
              obtain rfl : k = n3 := by omega
              have HJb : Hid (IsW w.heap.size (w.heap.size + 1 + 1) (D ++ s.zs.flatMap zonI) wr ∧ Below w.heap.size w wr ∧ TK (w.heap.size + 1 + 1) W0 wr) := by
                refine ⟨?_, HJ.out.2⟩
                have h9 := HJ.out.1
                rw [HN.out.2.2, List.take_length] at h9
                exact h9
              have hBl3 : (D ++ s.zs.flatMap zonI).length ≤ 200000000 := by
                have h9 := HB3.out k
                rw [HN.out.2.2, List.take_length] at h9
                exact h9
              have HI4 : Hid (img s = (D ++ s.zs.flatMap zonI) ++ by4 turn ++ by1 whose ++ by1 fin ++ by1 winner) := by
                unfold Hid
                rw [HI3.out]
                simp only [List.append_assoc]
              generalize D ++ s.zs.flatMap zonI = E at *
              have x3 : wr.cell? ⟨w.heap.size, 3, none⟩ = some (.int .i32 turn) := by rw [HG.out wr HJb.out.2.2, HA.out.2.2.2.1]
              clear HJ HB3 HI3 hlt hBl2
              go_wp2_with fail
              refine Calls.mono (HW4.out (E) _ wr HJb.out.1 (by omega) HJb.out.2.1.size) ?_
              rintro r W15 ⟨rfl, iz, uz, tz⟩
              have HJ15 : Hid (IsW w.heap.size (w.heap.size + 1 + 1) (E ++ by4 turn) W15 ∧ Below w.heap.size w W15 ∧ TK (w.heap.size + 1 + 1) W0 W15) := ⟨iz, Below.trans HJb.out.2.1 uz, HJb.out.2.2.trans tz⟩
              clear iz uz tz
              have x4 : W15.cell? ⟨w.heap.size, 4, none⟩ = some (.int .i64 whose) := by rw [HG.out W15 HJ15.out.2.2, HA.out.2.2.2.2.1]
              try go_end0
              go_wp2_with fail
              refine Calls.mono (HW1.out (E ++ by4 turn) _ W15 HJ15.out.1 (by simp only [List.length_append, by4, List.length_cons, List.length_nil]; omega) HJ15.out.2.1.size) ?_
              rintro r W16 ⟨rfl, iz, uz, tz⟩
              have HJ16 : Hid (IsW w.heap.size (w.heap.size + 1 + 1) (E ++ by4 turn ++ by1 whose) W16 ∧ Below w.heap.size w W16 ∧ TK (w.heap.size + 1 + 1) W0 W16) := ⟨iz, Below.trans HJ15.out.2.1 uz, HJ15.out.2.2.trans tz⟩
              clear iz uz tz
              have x5 : W16.cell? ⟨w.heap.size, 5, none⟩ = some (.int .i8 fin) := by rw [HG.out W16 HJ16.out.2.2, HA.out.2.2.2.2.2.1]
              try go_end0
              go_wp2_with fail
              refine Calls.mono (HW1.out (E ++ by4 turn ++ by1 whose) _ W16 HJ16.out.1 (by simp only [List.length_append, by4, by1, List.length_cons, List.length_nil]; omega) HJ16.out.2.1.size) ?_
              rintro r W17 ⟨rfl, iz, uz, tz⟩
              have HJ17 : Hid (IsW w.heap.size (w.heap.size + 1 + 1) (E ++ by4 turn ++ by1 whose ++ by1 fin) W17 ∧ Below w.heap.size w W17 ∧ TK (w.heap.size + 1 + 1) W0 W17) := ⟨iz, Below.trans HJ16.out.2.1 uz, HJ16.out.2.2.trans tz⟩
              clear iz uz tz
              have x6 : W17.cell? ⟨w.heap.size, 6, none⟩ = some (.int .i64 winner) := by rw [HG.out W17 HJ17.out.2.2, HA.out.2.2.2.2.2.2]
              try go_end0
              go_wp2_with fail
              refine Calls.mono (HW1.out (E ++ by4 turn ++ by1 whose ++ by1 fin) _ W17 HJ17.out.1 (by simp only [List.length_append, by4, by1, List.length_cons, List.length_nil]; omega) HJ17.out.2.1.size) ?_
              rintro r W18 ⟨rfl, iz, uz, tz⟩
              have HJ18 : Hid (IsW w.heap.size (w.heap.size + 1 + 1) (E ++ by4 turn ++ by1 whose ++ by1 fin ++ by1 winner) W18 ∧ Below w.heap.size w W18 ∧ TK (w.heap.size + 1 + 1) W0 W18) := ⟨iz, Below.trans HJ17.out.2.1 uz, HJ17.out.2.2.trans tz⟩
              clear iz uz tz
              try go_end0
              obtain ⟨-, vf, hvf, hown, -⟩ := HJ18.out.1
              have cf : W18.cell? ⟨w.heap.size + 1 + 1, 0, none⟩ = some vf := by simp [World.cell?, hvf]
              obtain ⟨fa, fn, fc, hvs⟩ : ∃ a n c, vf = Value.slice a n c := by
                rcases hown.2 with ⟨hv, _⟩ | ⟨g, cap, cur, hv, _⟩ <;> exact ⟨_, _, _, hv⟩
              subst hvs
              rw [← HI4.out] at hown
              have HO : Hid _ := hown
              clear hown hvf
              go_wp2
              rw [HP.out]
              exact ⟨_, rfl, HO.out, HJ18.out.2.1⟩
end IM
end Go.Proofs.YtmpamcdobhiipaaGreatDoor
