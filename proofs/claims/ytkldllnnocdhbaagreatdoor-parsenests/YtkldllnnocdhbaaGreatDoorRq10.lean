/-
  The document's parser: what is wanted.
-/
import Derived.Test.YtkldllnnocdhbaaGreatDoorRm10
namespace Go.Proofs.YtkldllnnocdhbaaGreatDoor
open Go.RowKit
attribute [local go_sem ↓] Go.wp_at_zero Go.wp_at_succ
namespace TP
open TR (Nd Byt nums_inj)
open TK (Tok)
theorem Ev.next {w0 : World} {b bt off n c : Nat} {l : List Tok} (h : Ev w0 b bt off n c l) {i : Nat} (hi : i < n) (hk : (tk l i).kind ≠ 0) : i + 1 < n := by
  rcases Nat.lt_or_ge (i + 1) n with h1 | h1
  · exact h1
  · obtain rfl : i = n - 1 := by omega
    exact absurd h.last hk
theorem mk_kind {t : Tok} {m : List Int} (h : mk t m = true) : t.kind ≠ 0 := by
  unfold mk at h
  simp only [Bool.and_eq_true, beq_iff_eq] at h
  omega
theorem wd_kind {t : Tok} {m : List Int} (h : wd t m = true) : t.kind ≠ 0 := by
  unfold wd at h
  simp only [Bool.and_eq_true, beq_iff_eq] at h
  omega
set_option maxRecDepth 100000 in
set_option maxHeartbeats 16000000 in
theorem want_ (w0 W : World) (b bt off n c i d : Nat) (l : List Tok) (hE : Ev w0 b bt off n c l) (ho : Only b w0 W) (hi : i < n) (p : Int) (hP : PS W b bt off n c i d 0 p) (s : ByteArray) (m : List Int) (hm : Byt m) (hs : s.toList = (strOfNums m).toList) : Calls Tryz.prog 81 #[.pointer (some ⟨b, 0, none⟩), .string s] W (fun r w' => r = .returned (.tuple #[]) ∧ Only b W w' ∧ PS w' b bt off n c (if mk (tk l i) m = true then i + 1 else i) d (if mk (tk l i) m = true then 0 else 22) (if mk (tk l i) m = true then p else (tk l i).pos)) := by
  obtain ⟨Post, hPost⟩ : ∃ P : Ending → World → Prop, P = fun r w' => r = .returned (.tuple #[]) ∧ Only b W w' ∧ PS w' b bt off n c (if mk (tk l i) m = true then i + 1 else i) d (if mk (tk l i) m = true then 0 else 22) (if mk (tk l i) m = true then p else (tk l i).pos) := ⟨_, rfl⟩
  rw [← hPost]
  have HPo : Hid (Post = fun r w' => r = .returned (.tuple #[]) ∧ Only b W w' ∧ PS w' b bt off n c (if mk (tk l i) m = true then i + 1 else i) d (if mk (tk l i) m = true then 0 else 22) (if mk (tk l i) m = true then p else (tk l i).pos)) := hPost
  clear hPost
  obtain ⟨a0, a1, a2, a3, a4, fz, hbl⟩ := hP.cells
  have HMK : Hid (Calls Tryz.prog 82 #[.pointer (some ⟨b, 0, none⟩), .string s] W fun r w' => r = .returned (.bool (mk (tk l i) m)) ∧ Up W w') := by
    have h9 := mark_ w0 W b bt off n c i d l hE ho hi 0 p hP s m hm hs
    exact h9
  have HTK : Hid (∀ W2, Up W W2 → Calls Tryz.prog 121 #[.pointer (some ⟨b, 0, none⟩)] W2 fun r w' => r = .returned (.agg #[.int .i8 (tk l i).kind, .string (strOfNums (tk l i).text), .int .i64 (tk l i).num, .int .i64 (tk l i).pos]) ∧ Only b W2 w' ∧ PS w' b bt off n c (if (0 : Int) = 0 ∧ i + 1 < n then i + 1 else i) d 0 p) := fun W2 hu => take_ w0 W2 b bt off n c i d l hE (ho.trans (Only.up hu)) hi 0 p (hP.up hu)
  have HFL : Hid (∀ W2, Up W W2 → Calls Tryz.prog 35 #[.pointer (some ⟨b, 0, none⟩), .int .i64 22] W2 fun r w' => r = .returned (.tuple #[]) ∧ Only b W2 w' ∧ PS w' b bt off n c i d 22 (tk l i).pos) := fun W2 hu => fail_ w0 W2 b bt off n c i d l hE (ho.trans (Only.up hu)) hi 0 p (hP.up hu) 22
  have hnx : mk (tk l i) m = true → i + 1 < n := fun h => hE.next hi (mk_kind h)
  clear hE ho hP hs
  cases hb : mk (tk l i) m with
  | true =>
    rw [hb] at HMK HPo
    simp only [if_true] at HPo
    rw [if_pos ⟨rfl, hnx hb⟩] at HTK
    clear hnx hb HFL
    generalize tk l i = t at *
    go_enter Tryz.func81, Tryz.ntmps81
    go_wp2_with fail
    refine Calls.mono HMK.out ?_
    rintro r w1 ⟨rfl, u1⟩
    have HU1 : Hid (Up W w1) := u1
    clear u1
    go_wp2_with fail
    refine Calls.mono (HTK.out w1 HU1.out) ?_
    rintro r w2 ⟨rfl, o2, p2⟩
    go_wp2_with fail
    refine bodyPost_end (v := .tuple #[]) (by simp [results, Tryz.results81, go_sem]) rfl ?_
    rw [HPo.out]
    exact ⟨rfl, (Only.up HU1.out).trans o2, p2⟩
  | false =>
    rw [hb] at HMK HPo
    simp only [Bool.false_eq_true, if_false] at HPo
    clear hnx hb HTK
    generalize tk l i = t at *
    go_enter Tryz.func81, Tryz.ntmps81
    go_wp2_with fail
    refine Calls.mono HMK.out ?_
    rintro r w1 ⟨rfl, u1⟩
    have HU1 : Hid (Up W w1) := u1
    clear u1
    go_wp2_with fail
    refine Calls.mono (HFL.out w1 HU1.out) ?_
    rintro r w2 ⟨rfl, o2, p2⟩
    go_wp2_with fail
    refine bodyPost_end (v := .tuple #[]) (by simp [results, Tryz.results81, go_sem]) rfl ?_
    rw [HPo.out]
    exact ⟨rfl, (Only.up HU1.out).trans o2, p2⟩
set_option maxRecDepth 100000 in
set_option maxHeartbeats 16000000 in
theorem want_no (W : World) (b bt off n c i d : Nat) (e p : Int) (hP : PS W b bt off n c i d e p) (h0 : e ≠ 0) (s : ByteArray) : Calls Tryz.prog 81 #[.pointer (some ⟨b, 0, none⟩), .string s] W (fun r w' => r = .returned (.tuple #[]) ∧ w' = W) := by
  obtain ⟨Post, hPost⟩ : ∃ P : Ending → World → Prop, P = fun r w' => r = .returned (.tuple #[]) ∧ w' = W := ⟨_, rfl⟩
  rw [← hPost]
  have HPo : Hid (Post = fun r w' => r = .returned (.tuple #[]) ∧ w' = W) := hPost
  clear hPost
  obtain ⟨a0, a1, a2, a3, a4, fz, hbl⟩ := hP.cells
  have h1 : (e != 0) = true := by simpa using h0
  go_enter Tryz.func81, Tryz.ntmps81
  go_wp2_with fail
  refine bodyPost_ret (v := .tuple #[]) (by simp [results, Tryz.results81, go_sem]) rfl ?_
  rw [HPo.out]
  exact ⟨rfl, rfl⟩
set_option maxRecDepth 100000 in
set_option maxHeartbeats 16000000 in
theorem wantw_ (w0 W : World) (b bt off n c i d : Nat) (l : List Tok) (hE : Ev w0 b bt off n c l) (ho : Only b w0 W) (hi : i < n) (p : Int) (hP : PS W b bt off n c i d 0 p) (s : ByteArray) (m : List Int) (hm : Byt m) (hs : s.toList = (strOfNums m).toList) : Calls Tryz.prog 79 #[.pointer (some ⟨b, 0, none⟩), .string s] W (fun r w' => r = .returned (.tuple #[]) ∧ Only b W w' ∧ PS w' b bt off n c (if wd (tk l i) m = true then i + 1 else i) d (if wd (tk l i) m = true then 0 else 22) (if wd (tk l i) m = true then p else (tk l i).pos)) := by
  obtain ⟨Post, hPost⟩ : ∃ P : Ending → World → Prop, P = fun r w' => r = .returned (.tuple #[]) ∧ Only b W w' ∧ PS w' b bt off n c (if wd (tk l i) m = true then i + 1 else i) d (if wd (tk l i) m = true then 0 else 22) (if wd (tk l i) m = true then p else (tk l i).pos) := ⟨_, rfl⟩
  rw [← hPost]
  have HPo : Hid (Post = fun r w' => r = .returned (.tuple #[]) ∧ Only b W w' ∧ PS w' b bt off n c (if wd (tk l i) m = true then i + 1 else i) d (if wd (tk l i) m = true then 0 else 22) (if wd (tk l i) m = true then p else (tk l i).pos)) := hPost
  clear hPost
  obtain ⟨a0, a1, a2, a3, a4, fz, hbl⟩ := hP.cells
  have HMK : Hid (Calls Tryz.prog 120 #[.pointer (some ⟨b, 0, none⟩), .string s] W fun r w' => r = .returned (.bool (wd (tk l i) m)) ∧ Up W w') := by
    have h9 := word_ w0 W b bt off n c i d l hE ho hi 0 p hP s m hm hs
    exact h9
  have HTK : Hid (∀ W2, Up W W2 → Calls Tryz.prog 121 #[.pointer (some ⟨b, 0, none⟩)] W2 fun r w' => r = .returned (.agg #[.int .i8 (tk l i).kind, .string (strOfNums (tk l i).text), .int .i64 (tk l i).num, .int .i64 (tk l i).pos]) ∧ Only b W2 w' ∧ PS w' b bt off n c (if (0 : Int) = 0 ∧ i + 1 < n then i + 1 else i) d 0 p) := fun W2 hu => take_ w0 W2 b bt off n c i d l hE (ho.trans (Only.up hu)) hi 0 p (hP.up hu)
  have HFL : Hid (∀ W2, Up W W2 → Calls Tryz.prog 35 #[.pointer (some ⟨b, 0, none⟩), .int .i64 22] W2 fun r w' => r = .returned (.tuple #[]) ∧ Only b W2 w' ∧ PS w' b bt off n c i d 22 (tk l i).pos) := fun W2 hu => fail_ w0 W2 b bt off n c i d l hE (ho.trans (Only.up hu)) hi 0 p (hP.up hu) 22
  have hnx : wd (tk l i) m = true → i + 1 < n := fun h => hE.next hi (wd_kind h)
  clear hE ho hP hs
  cases hb : wd (tk l i) m with
  | true =>
    rw [hb] at HMK HPo
    simp only [if_true] at HPo
    rw [if_pos ⟨rfl, hnx hb⟩] at HTK
    clear hnx hb HFL
    generalize tk l i = t at *
    go_enter Tryz.func79, Tryz.ntmps79
    go_wp2_with fail
    refine Calls.mono HMK.out ?_
    rintro r w1 ⟨rfl, u1⟩
    have HU1 : Hid (Up W w1) := u1
    clear u1
    go_wp2_with fail
    refine Calls.mono (HTK.out w1 HU1.out) ?_
    rintro r w2 ⟨rfl, o2, p2⟩
    go_wp2_with fail
    refine bodyPost_end (v := .tuple #[]) (by simp [results, Tryz.results79, go_sem]) rfl ?_
    rw [HPo.out]
    exact ⟨rfl, (Only.up HU1.out).trans o2, p2⟩
  | false =>
    rw [hb] at HMK HPo
    simp only [Bool.false_eq_true, if_false] at HPo
    clear hnx hb HTK
    generalize tk l i = t at *
    go_enter Tryz.func79, Tryz.ntmps79
    go_wp2_with fail
    refine Calls.mono HMK.out ?_
    rintro r w1 ⟨rfl, u1⟩
    have HU1 : Hid (Up W w1) := u1
    clear u1
    go_wp2_with fail
    refine Calls.mono (HFL.out w1 HU1.out) ?_
    rintro r w2 ⟨rfl, o2, p2⟩
    go_wp2_with fail
    refine bodyPost_end (v := .tuple #[]) (by simp [results, Tryz.results79, go_sem]) rfl ?_
    rw [HPo.out]
    exact ⟨rfl, (Only.up HU1.out).trans o2, p2⟩
set_option maxRecDepth 100000 in
set_option maxHeartbeats 16000000 in
theorem wantw_no (W : World) (b bt off n c i d : Nat) (e p : Int) (hP : PS W b bt off n c i d e p) (h0 : e ≠ 0) (s : ByteArray) : Calls Tryz.prog 79 #[.pointer (some ⟨b, 0, none⟩), .string s] W (fun r w' => r = .returned (.tuple #[]) ∧ w' = W) := by
  obtain ⟨Post, hPost⟩ : ∃ P : Ending → World → Prop, P = fun r w' => r = .returned (.tuple #[]) ∧ w' = W := ⟨_, rfl⟩
  rw [← hPost]
  have HPo : Hid (Post = fun r w' => r = .returned (.tuple #[]) ∧ w' = W) := hPost
  clear hPost
  obtain ⟨a0, a1, a2, a3, a4, fz, hbl⟩ := hP.cells
  have h1 : (e != 0) = true := by simpa using h0
  go_enter Tryz.func79, Tryz.ntmps79
  go_wp2_with fail
  refine bodyPost_ret (v := .tuple #[]) (by simp [results, Tryz.results79, go_sem]) rfl ?_
  rw [HPo.out]
  exact ⟨rfl, rfl⟩
set_option maxRecDepth 100000 in
set_option maxHeartbeats 16000000 in
theorem kind_no (W : World) (b bt off n c i d : Nat) (e p : Int) (hP : PS W b bt off n c i d e p) (h0 : e ≠ 0) (k : Int) : Calls Tryz.prog 80 #[.pointer (some ⟨b, 0, none⟩), .int .i8 k] W (fun r w' => r = .returned (.agg tz) ∧ Only b W w' ∧ PS w' b bt off n c i d e p) := by
  obtain ⟨Post, hPost⟩ : ∃ P : Ending → World → Prop, P = fun r w' => r = .returned (.agg tz) ∧ Only b W w' ∧ PS w' b bt off n c i d e p := ⟨_, rfl⟩
  rw [← hPost]
  have HPo : Hid (Post = fun r w' => r = .returned (.agg tz) ∧ Only b W w' ∧ PS w' b bt off n c i d e p) := hPost
  clear hPost
  obtain ⟨a0, a1, a2, a3, a4, fz, hbl⟩ := hP.cells
  have h1 : (e != 0) = true := by simpa using h0
  obtain ⟨W0, hW0⟩ : ∃ W0, W.alloc (.cells #[.int .i8 0, .string ⟨#[]⟩, .int .i64 0, .int .i64 0] 45) = W0 := ⟨_, rfl⟩
  have HU0 : Hid (Up W W0) := by unfold Hid; rw [← hW0]; exact (Up.refl _).alloc _
  have g0 : W0.heap[W.heap.size]? = some (.cells tz 45 (0, 0)) := by rw [← hW0]; exact heap_alloc_new _ _
  have HP0 : Hid (PS W0 b bt off n c i d e p) := hP.up HU0.out
  have hone := tz_one
  obtain ⟨W5, hW5⟩ : ∃ W5, W0.setRow W.heap.size tz = W5 := ⟨_, rfl⟩
  have k5 : W5.heap[W.heap.size]? = some (.cells tz 45 (0, 0)) := by rw [← hW5]; exact setRow_heap _ _ _ _ _ _ g0
  have hW5b : Hid (W0.setRow W.heap.size tz = W5) := hW5
  have hW0b : Hid (W.alloc (.cells #[.int .i8 0, .string ⟨#[]⟩, .int .i64 0, .int .i64 0] 45) = W0) := hW0
  obtain ⟨a0, a1, a2, a3, a4, fz, hbl2⟩ := HP0.out.cells
  clear hW5 hP
  go_enter Tryz.func80, Tryz.ntmps80
  go_wp2_with (first | (refine wpList_store_row (by rfl) 45 (.tmp 4) (.tmp 10) (by rfl) W.heap.size tz (by rfl) (by rfl) 45 tz g0 infoTk (by rfl) hone ?_; refine wpList_world hW5b.out ?_) | (refine wpList_world hW0b.out ?_; refine wpList_store_row (by rfl) 45 (.tmp 4) (.tmp 10) (by rfl) W.heap.size tz (by rfl) (by rfl) 45 tz g0 infoTk (by rfl) hone ?_; refine wpList_world hW5b.out ?_))
  refine bodyPost_ret (v := .agg (tz)) (res_c0 (p := 4) (ty := 45) rfl _ _ W.heap.size 45 (tz) (0, 0) _ rfl k5 Tryz.underlying45 rfl infoTk) rfl ?_
  rw [HPo.out]
  refine ⟨rfl, ?_, ?_⟩
  · rw [← hW5b.out]
    exact only_setRow (Only.up HU0.out) (Nat.le_refl _) _
  · unfold PS
    rw [← hW5b.out, setRow_other _ _ _ _ (by omega)]
    exact HP0.out
set_option maxRecDepth 100000 in
set_option maxHeartbeats 16000000 in
theorem kind_ (w0 W : World) (b bt off n c i d : Nat) (l : List Tok) (hE : Ev w0 b bt off n c l) (ho : Only b w0 W) (hi : i < n) (p : Int) (hP : PS W b bt off n c i d 0 p) (k : Int) (hk : k ≠ 0) : Calls Tryz.prog 80 #[.pointer (some ⟨b, 0, none⟩), .int .i8 k] W (fun r w' => r = .returned (.agg (if (tk l i).kind = k then tkA (tk l i) else tz)) ∧ Only b W w' ∧ PS w' b bt off n c (if (tk l i).kind = k then i + 1 else i) d (if (tk l i).kind = k then 0 else 22) (if (tk l i).kind = k then p else (tk l i).pos)) := by
  obtain ⟨Post, hPost⟩ : ∃ P : Ending → World → Prop, P = fun r w' => r = .returned (.agg (if (tk l i).kind = k then tkA (tk l i) else tz)) ∧ Only b W w' ∧ PS w' b bt off n c (if (tk l i).kind = k then i + 1 else i) d (if (tk l i).kind = k then 0 else 22) (if (tk l i).kind = k then p else (tk l i).pos) := ⟨_, rfl⟩
  rw [← hPost]
  have HPo : Hid (Post = fun r w' => r = .returned (.agg (if (tk l i).kind = k then tkA (tk l i) else tz)) ∧ Only b W w' ∧ PS w' b bt off n c (if (tk l i).kind = k then i + 1 else i) d (if (tk l i).kind = k then 0 else 22) (if (tk l i).kind = k then p else (tk l i).pos)) := hPost
  clear hPost
  obtain ⟨a0, a1, a2, a3, a4, fz, hbl⟩ := hP.cells
  have HNW : Hid (∀ W2, Up W W2 → Calls Tryz.prog 31 #[.pointer (some ⟨b, 0, none⟩)] W2 fun r w' => r = .returned (.agg #[.int .i8 (tk l i).kind, .string (strOfNums (tk l i).text), .int .i64 (tk l i).num, .int .i64 (tk l i).pos]) ∧ Up W2 w') := fun W2 hu => now_ w0 W2 b bt off n c i d l hE (ho.trans (Only.up hu)) hi 0 p (hP.up hu)
  have HTK : Hid (∀ W2, Up W W2 → Calls Tryz.prog 121 #[.pointer (some ⟨b, 0, none⟩)] W2 fun r w' => r = .returned (.agg #[.int .i8 (tk l i).kind, .string (strOfNums (tk l i).text), .int .i64 (tk l i).num, .int .i64 (tk l i).pos]) ∧ Only b W2 w' ∧ PS w' b bt off n c (if (0 : Int) = 0 ∧ i + 1 < n then i + 1 else i) d 0 p) := fun W2 hu => take_ w0 W2 b bt off n c i d l hE (ho.trans (Only.up hu)) hi 0 p (hP.up hu)
  have HFL : Hid (∀ W2, Up W W2 → Calls Tryz.prog 35 #[.pointer (some ⟨b, 0, none⟩), .int .i64 22] W2 fun r w' => r = .returned (.tuple #[]) ∧ Only b W2 w' ∧ PS w' b bt off n c i d 22 (tk l i).pos) := fun W2 hu => fail_ w0 W2 b bt off n c i d l hE (ho.trans (Only.up hu)) hi 0 p (hP.up hu) 22
  have hnx : (tk l i).kind = k → i + 1 < n := fun h => hE.next hi (by omega)
  obtain ⟨W0, hW0⟩ : ∃ W0, W.alloc (.cells #[.int .i8 0, .string ⟨#[]⟩, .int .i64 0, .int .i64 0] 45) = W0 := ⟨_, rfl⟩
  have HU0 : Hid (Up W W0) := by unfold Hid; rw [← hW0]; exact (Up.refl _).alloc _
  have g0 : W0.heap[W.heap.size]? = some (.cells tz 45 (0, 0)) := by rw [← hW0]; exact heap_alloc_new _ _
  have HP0 : Hid (PS W0 b bt off n c i d 0 p) := hP.up HU0.out
  have f0 := fld0
  obtain ⟨g, hg⟩ : ∃ g, g = W.heap.size := ⟨_, rfl⟩
  have hgb : b < g := by rw [hg]; exact hbl
  have HG : Hid (W.heap.size ≤ g) := by rw [hg]; exact Nat.le_refl _
  clear hE ho hP a0 a1 a2 a3 a4 fz
  obtain ⟨a0, a1, a2, a3, a4, fz, hbl2⟩ := HP0.out.cells
  by_cases hk2 : (tk l i).kind = k
  · rw [if_pos hk2, if_pos hk2, if_pos hk2, if_pos hk2] at HPo
    rw [if_pos ⟨rfl, hnx hk2⟩] at HTK
    have hone := tkA_one (tk l i)
    clear hnx HFL
    generalize tk l i = t at *
    obtain ⟨tkd, tx, tn, tp⟩ := t
    simp only at hk2
    subst hk2
    go_enter Tryz.func80, Tryz.ntmps80
    go_wp2_with fail
    try rw [hW0]
    refine Calls.mono (HNW.out W0 HU0.out) ?_
    rintro r w1 ⟨rfl, u1⟩
    have HU1 : Hid (Up W w1) := HU0.out.trans u1
    have g1 : w1.heap[W.heap.size]? = some (.cells tz 45 (0, 0)) := u1.heap g0
    rw [← hg] at g0 g1 ⊢
    clear u1 hW0 hg
    go_wp2_with fail
    refine Calls.mono (HTK.out w1 HU1.out) ?_
    rintro r w2 ⟨rfl, o2, p2⟩
    have g2 : w2.heap[g]? = some (.cells tz 45 (0, 0)) := o2.heap g1 (by omega)
    have HO2 : Hid (Only b W w2) := (Only.up HU1.out).trans o2
    have HP2 : Hid (PS w2 b bt off n c (i + 1) d 0 p) := p2
    obtain ⟨W5, hW5⟩ : ∃ W5, w2.setRow g (tkA ⟨tkd, tx, tn, tp⟩) = W5 := ⟨_, rfl⟩
    have k5 : W5.heap[g]? = some (.cells (tkA ⟨tkd, tx, tn, tp⟩) 45 (0, 0)) := by rw [← hW5]; exact setRow_heap _ _ _ _ _ _ g2
    have hW5b : Hid (w2.setRow g (tkA ⟨tkd, tx, tn, tp⟩) = W5) := hW5
    clear hW5 o2 p2 g0 g1 a0 a1 a2 a3 a4 fz hbl2
    go_wp2_with (first | (refine wpList_store_row (by rfl) 45 (.tmp 4) (.tmp 20) (by rfl) g (tkA ⟨tkd, tx, tn, tp⟩) (by rfl) (by rfl) 45 tz g2 infoTk (by rfl) hone ?_; refine wpList_world hW5b.out ?_))
    refine bodyPost_ret (v := .agg (tkA ⟨tkd, tx, tn, tp⟩)) (res_c0 (p := 4) (ty := 45) rfl _ _ g 45 (tkA ⟨tkd, tx, tn, tp⟩) (0, 0) _ rfl k5 Tryz.underlying45 rfl infoTk) rfl ?_
    rw [HPo.out]
    refine ⟨rfl, ?_, ?_⟩
    · rw [← hW5b.out]
      exact only_setRow HO2.out HG.out _
    · unfold PS
      rw [← hW5b.out, setRow_other _ _ _ _ (by omega)]
      exact HP2.out
  · rw [if_neg hk2, if_neg hk2, if_neg hk2, if_neg hk2] at HPo
    have hone := tz_one
    clear hnx HTK
    generalize tk l i = t at *
    obtain ⟨tkd, tx, tn, tp⟩ := t
    simp only at hk2
    have hk3 : (tkd != k) = true := by simpa using hk2
    clear hk2
    go_enter Tryz.func80, Tryz.ntmps80
    go_wp2_with fail
    try rw [hW0]
    refine Calls.mono (HNW.out W0 HU0.out) ?_
    rintro r w1 ⟨rfl, u1⟩
    have HU1 : Hid (Up W w1) := HU0.out.trans u1
    have g1 : w1.heap[W.heap.size]? = some (.cells tz 45 (0, 0)) := u1.heap g0
    rw [← hg] at g0 g1 ⊢
    clear u1 hW0 hg
    go_wp2_with fail
    refine Calls.mono (HFL.out w1 HU1.out) ?_
    rintro r w2 ⟨rfl, o2, p2⟩
    have g2 : w2.heap[g]? = some (.cells tz 45 (0, 0)) := o2.heap g1 (by omega)
    have HO2 : Hid (Only b W w2) := (Only.up HU1.out).trans o2
    have HP2 : Hid (PS w2 b bt off n c i d 22 tp) := p2
    obtain ⟨W5, hW5⟩ : ∃ W5, w2.setRow g tz = W5 := ⟨_, rfl⟩
    have k5 : W5.heap[g]? = some (.cells tz 45 (0, 0)) := by rw [← hW5]; exact setRow_heap _ _ _ _ _ _ g2
    have hW5b : Hid (w2.setRow g tz = W5) := hW5
    clear hW5 o2 p2 g0 g1 a0 a1 a2 a3 a4 fz hbl2
    go_wp2_with (first | (refine wpList_store_row (by rfl) 45 (.tmp 4) (.tmp 18) (by rfl) g (tz) (by rfl) (by rfl) 45 tz g2 infoTk (by rfl) hone ?_; refine wpList_world hW5b.out ?_))
    refine bodyPost_ret (v := .agg (tz)) (res_c0 (p := 4) (ty := 45) rfl _ _ g 45 (tz) (0, 0) _ rfl k5 Tryz.underlying45 rfl infoTk) rfl ?_
    rw [HPo.out]
    refine ⟨rfl, ?_, ?_⟩
    · rw [← hW5b.out]
      exact only_setRow HO2.out HG.out _
    · unfold PS
      rw [← hW5b.out, setRow_other _ _ _ _ (by omega)]
      exact HP2.out
set_option maxRecDepth 100000 in
set_option maxHeartbeats 16000000 in
theorem free_no (W : World) (b bt off n c i d : Nat) (e p : Int) (hP : PS W b bt off n c i d e p) (h0 : e ≠ 0) : Calls Tryz.prog 173 #[.pointer (some ⟨b, 0, none⟩)] W (fun r w' => r = .returned (.string ⟨#[]⟩) ∧ Only b W w' ∧ PS w' b bt off n c i d e p) := by
  obtain ⟨Post, hPost⟩ : ∃ P : Ending → World → Prop, P = fun r w' => r = .returned (.string ⟨#[]⟩) ∧ Only b W w' ∧ PS w' b bt off n c i d e p := ⟨_, rfl⟩
  rw [← hPost]
  have HPo : Hid (Post = fun r w' => r = .returned (.string ⟨#[]⟩) ∧ Only b W w' ∧ PS w' b bt off n c i d e p) := hPost
  clear hPost
  obtain ⟨a0, a1, a2, a3, a4, fz, hbl⟩ := hP.cells
  have h1 : (e == 0) = false := by simpa using h0
  have HKN : Hid (Calls Tryz.prog 80 #[.pointer (some ⟨b, 0, none⟩), .int .i8 1] W fun r w' => r = .returned (.agg #[.int .i8 0, .string ⟨#[]⟩, .int .i64 0, .int .i64 0]) ∧ Only b W w' ∧ PS w' b bt off n c i d e p) := kind_no W b bt off n c i d e p hP h0 1
  have f1 := fld1
  clear hP
  go_enter Tryz.func173, Tryz.ntmps173
  go_wp2_with fail
  refine Calls.mono HKN.out ?_
  rintro r w1 ⟨rfl, o1, p1⟩
  go_wp2_with fail
  rw [HPo.out]
  exact ⟨rfl, o1, p1⟩
set_option maxRecDepth 100000 in
set_option maxHeartbeats 16000000 in
theorem free_ (w0 W : World) (b bt off n c i d : Nat) (l : List Tok) (hE : Ev w0 b bt off n c l) (ho : Only b w0 W) (hi : i < n) (p : Int) (hP : PS W b bt off n c i d 0 p) : Calls Tryz.prog 173 #[.pointer (some ⟨b, 0, none⟩)] W (fun r w' => r = .returned (.string (strOfNums (if frt (tk l i) = true then (tk l i).text else []))) ∧ Only b W w' ∧ PS w' b bt off n c (if frt (tk l i) = true then i + 1 else i) d (if frt (tk l i) = true then 0 else 22) (if frt (tk l i) = true then p else (tk l i).pos)) := by
  obtain ⟨Post, hPost⟩ : ∃ P : Ending → World → Prop, P = fun r w' => r = .returned (.string (strOfNums (if frt (tk l i) = true then (tk l i).text else []))) ∧ Only b W w' ∧ PS w' b bt off n c (if frt (tk l i) = true then i + 1 else i) d (if frt (tk l i) = true then 0 else 22) (if frt (tk l i) = true then p else (tk l i).pos) := ⟨_, rfl⟩
  rw [← hPost]
  have HPo : Hid (Post = fun r w' => r = .returned (.string (strOfNums (if frt (tk l i) = true then (tk l i).text else []))) ∧ Only b W w' ∧ PS w' b bt off n c (if frt (tk l i) = true then i + 1 else i) d (if frt (tk l i) = true then 0 else 22) (if frt (tk l i) = true then p else (tk l i).pos)) := hPost
  clear hPost
  obtain ⟨a0, a1, a2, a3, a4, fz, hbl⟩ := hP.cells
  have HNW : Hid (Calls Tryz.prog 31 #[.pointer (some ⟨b, 0, none⟩)] W fun r w' => r = .returned (.agg #[.int .i8 (tk l i).kind, .string (strOfNums (tk l i).text), .int .i64 (tk l i).num, .int .i64 (tk l i).pos]) ∧ Up W w') := now_ w0 W b bt off n c i d l hE ho hi 0 p hP
  have HFR : Hid (∀ W2, Calls Tryz.prog 186 #[.string (strOfNums (tk l i).text)] W2 fun r w' => r = .returned (.bool (fre (tk l i).text)) ∧ Up W2 w') := fun W2 => TR.dfree_ _ W2 (hE.byt i hi)
  have HFL : Hid (∀ W2, Up W W2 → Calls Tryz.prog 35 #[.pointer (some ⟨b, 0, none⟩), .int .i64 22] W2 fun r w' => r = .returned (.tuple #[]) ∧ Only b W2 w' ∧ PS w' b bt off n c i d 22 (tk l i).pos) := fun W2 hu => fail_ w0 W2 b bt off n c i d l hE (ho.trans (Only.up hu)) hi 0 p (hP.up hu) 22
  have HKN : Hid (∀ W2, PS W2 b bt off n c i d 22 (tk l i).pos → Calls Tryz.prog 80 #[.pointer (some ⟨b, 0, none⟩), .int .i8 1] W2 fun r w' => r = .returned (.agg #[.int .i8 0, .string ⟨#[]⟩, .int .i64 0, .int .i64 0]) ∧ Only b W2 w' ∧ PS w' b bt off n c i d 22 (tk l i).pos) := fun W2 h => kind_no W2 b bt off n c i d 22 _ h (by decide) 1
  have HKD : Hid (∀ W2, Up W W2 → Calls Tryz.prog 80 #[.pointer (some ⟨b, 0, none⟩), .int .i8 1] W2 fun r w' => r = .returned (.agg (if (tk l i).kind = 1 then tkA (tk l i) else tz)) ∧ Only b W2 w' ∧ PS w' b bt off n c (if (tk l i).kind = 1 then i + 1 else i) d (if (tk l i).kind = 1 then 0 else 22) (if (tk l i).kind = 1 then p else (tk l i).pos)) := fun W2 hu => kind_ w0 W2 b bt off n c i d l hE (ho.trans (Only.up hu)) hi p (hP.up hu) 1 (by decide)
  have f1 := fld1
  have HB : Hid (frt (tk l i) = (decide ((tk l i).kind = 1) && fre (tk l i).text)) := by
    unfold Hid frt
    rw [Bool.eq_iff_iff]
    simp
  clear hE ho hP
  generalize tk l i = t at *
  obtain ⟨tkd, tx, tn, tp⟩ := t
  cases hf : fre tx with
  | false =>
    have HT : Hid (frt ⟨tkd, tx, tn, tp⟩ = false) := by unfold Hid; rw [HB.out]; simp [hf]
    rw [HT.out] at HPo
    simp only [Bool.false_eq_true, if_false] at HPo
    have HFR2 : Hid (∀ W2, Calls Tryz.prog 186 #[.string (strOfNums tx)] W2 fun r w' => r = .returned (.bool false) ∧ Up W2 w') := fun W2 => by have h9 := HFR.out W2; simp only at h9; rw [hf] at h9; exact h9
    clear hf HB HT HFR HKD
    generalize strOfNums tx = st at *
    go_enter Tryz.func173, Tryz.ntmps173
    go_wp2_with fail
    refine Calls.mono HNW.out ?_
    rintro r w1 ⟨rfl, u1⟩
    have HU1 : Hid (Up W w1) := u1
    clear u1
    go_wp2_with fail
    refine Calls.mono (HFR2.out w1) ?_
    rintro r w2 ⟨rfl, u2⟩
    have HU2 : Hid (Up W w2) := HU1.out.trans u2
    clear u2
    go_wp2_with fail
    refine Calls.mono (HFL.out w2 HU2.out) ?_
    rintro r w3 ⟨rfl, o3, p3⟩
    have HO3 : Hid (Only b W w3) := (Only.up HU2.out).trans o3
    have HP3 : Hid (PS w3 b bt off n c i d 22 tp) := p3
    clear o3 p3
    go_wp2_with fail
    refine Calls.mono (HKN.out w3 HP3.out) ?_
    rintro r w4 ⟨rfl, o4, p4⟩
    go_wp2_with fail
    rw [HPo.out]
    exact ⟨rfl, HO3.out.trans o4, p4⟩
  | true =>
    have HFR2 : Hid (∀ W2, Calls Tryz.prog 186 #[.string (strOfNums tx)] W2 fun r w' => r = .returned (.bool true) ∧ Up W2 w') := fun W2 => by have h9 := HFR.out W2; simp only at h9; rw [hf] at h9; exact h9
    clear HFR HFL HKN
    by_cases hk : tkd = 1
    · subst hk
      have HT : Hid (frt ⟨1, tx, tn, tp⟩ = true) := by unfold Hid; rw [HB.out]; simp [hf]
      rw [HT.out] at HPo
      simp only [if_true] at HPo
      have HK2 : Hid (∀ W2, Up W W2 → Calls Tryz.prog 80 #[.pointer (some ⟨b, 0, none⟩), .int .i8 1] W2 fun r w' => r = .returned (.agg #[.int .i8 1, .string (strOfNums tx), .int .i64 tn, .int .i64 tp]) ∧ Only b W2 w' ∧ PS w' b bt off n c (i + 1) d 0 p) := fun W2 hu => by
        have h9 := HKD.out W2 hu
        simp only [if_true] at h9
        exact h9
      clear hf HB HT HKD
      generalize strOfNums tx = st at *
      go_enter Tryz.func173, Tryz.ntmps173
      go_wp2_with fail
      refine Calls.mono HNW.out ?_
      rintro r w1 ⟨rfl, u1⟩
      have HU1 : Hid (Up W w1) := u1
      clear u1
      go_wp2_with fail
      refine Calls.mono (HFR2.out w1) ?_
      rintro r w2 ⟨rfl, u2⟩
      have HU2 : Hid (Up W w2) := HU1.out.trans u2
      clear u2
      go_wp2_with fail
      refine Calls.mono (HK2.out w2 HU2.out) ?_
      rintro r w4 ⟨rfl, o4, p4⟩
      go_wp2_with fail
      rw [HPo.out]
      exact ⟨rfl, (Only.up HU2.out).trans o4, p4⟩
    · have HT : Hid (frt ⟨tkd, tx, tn, tp⟩ = false) := by unfold Hid; rw [HB.out]; simp [hk]
      rw [HT.out] at HPo
      simp only [Bool.false_eq_true, if_false] at HPo
      have HK2 : Hid (∀ W2, Up W W2 → Calls Tryz.prog 80 #[.pointer (some ⟨b, 0, none⟩), .int .i8 1] W2 fun r w' => r = .returned (.agg #[.int .i8 0, .string ⟨#[]⟩, .int .i64 0, .int .i64 0]) ∧ Only b W2 w' ∧ PS w' b bt off n c i d 22 tp) := fun W2 hu => by
        have h9 := HKD.out W2 hu
        simp only [hk, if_false] at h9
        exact h9
      clear hf HB HT HKD hk
      generalize strOfNums tx = st at *
      go_enter Tryz.func173, Tryz.ntmps173
      go_wp2_with fail
      refine Calls.mono HNW.out ?_
      rintro r w1 ⟨rfl, u1⟩
      have HU1 : Hid (Up W w1) := u1
      clear u1
      go_wp2_with fail
      refine Calls.mono (HFR2.out w1) ?_
      rintro r w2 ⟨rfl, u2⟩
      have HU2 : Hid (Up W w2) := HU1.out.trans u2
      clear u2
      go_wp2_with fail
      refine Calls.mono (HK2.out w2 HU2.out) ?_
      rintro r w4 ⟨rfl, o4, p4⟩
      go_wp2_with fail
      rw [HPo.out]
      exact ⟨rfl, (Only.up HU2.out).trans o4, p4⟩
end TP
end Go.Proofs.YtkldllnnocdhbaaGreatDoor
