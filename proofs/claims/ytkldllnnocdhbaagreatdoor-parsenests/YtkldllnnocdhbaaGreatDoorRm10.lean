/-
  The document's parser: one more that is open, marks, words, what is taken.
-/
import Derived.Test.YtkldllnnocdhbaaGreatDoorRh10
namespace Go.Proofs.YtkldllnnocdhbaaGreatDoor
open Go.RowKit
attribute [local go_sem ↓] Go.wp_at_zero Go.wp_at_succ
namespace TP
open TR (Nd Byt nums_inj)
open TK (Tok)
set_option maxRecDepth 100000 in
set_option maxHeartbeats 16000000 in
theorem opens_ (w0 W : World) (b bt off n c i d : Nat) (l : List Tok) (hE : Ev w0 b bt off n c l) (ho : Only b w0 W) (hi : i < n) (p : Int) (hP : PS W b bt off n c i d 0 p) (hd : d ≤ 1000) : Calls Tryz.prog 126 #[.pointer (some ⟨b, 0, none⟩)] W (fun r w' => r = .returned (.tuple #[]) ∧ Only b W w' ∧ PS w' b bt off n c i (d + 1) (if d < 64 then 0 else 23) (if d < 64 then p else (tk l i).pos)) := by
  obtain ⟨Post, hPost⟩ : ∃ P : Ending → World → Prop, P = fun r w' => r = .returned (.tuple #[]) ∧ Only b W w' ∧ PS w' b bt off n c i (d + 1) (if d < 64 then 0 else 23) (if d < 64 then p else (tk l i).pos) := ⟨_, rfl⟩
  rw [← hPost]
  have HPo : Hid (Post = fun r w' => r = .returned (.tuple #[]) ∧ Only b W w' ∧ PS w' b bt off n c i (d + 1) (if d < 64 then 0 else 23) (if d < 64 then p else (tk l i).pos)) := hPost
  clear hPost
  obtain ⟨a0, a1, a2, a3, a4, fz, hbl⟩ := hP.cells
  have HP : Hid (PS W b bt off n c i d 0 p) := hP
  have HF : Hid (∀ W2, Only b W W2 → PS W2 b bt off n c i (d + 1) 0 p → Calls Tryz.prog 35 #[.pointer (some ⟨b, 0, none⟩), .int .i64 23] W2 fun r w' => r = .returned (.tuple #[]) ∧ Only b W2 w' ∧ PS w' b bt off n c i (d + 1) 23 (tk l i).pos) := fun W2 h1 h2 => (fail_ w0 W2 b bt off n c i (d + 1) l hE (ho.trans h1) hi 0 p h2 23)
  obtain ⟨d', hd'⟩ : ∃ d', d' = d + 1 := ⟨_, rfl⟩
  rw [← hd'] at HF HPo
  have ed : IntKind.i64.wrap ((d : Int) + 1) = (d' : Int) := by rw [IntKind.wrap_i64]; omega
  obtain ⟨W1, hW1⟩ : ∃ W1, W.setCell ⟨b, 2, none⟩ (.int .i64 (d' : Int)) = W1 := ⟨_, rfl⟩
  have HP1 : Hid (PS W1 b bt off n c i d' 0 p) := by unfold Hid; rw [← hW1]; exact hP.op d'
  have HO1 : Hid (Only b W W1) := by unfold Hid; rw [← hW1]; exact (Only.refl b W).set 2 _
  have b2 := HP1.out.cells.2.2.1
  clear hE ho hP
  generalize (tk l i).pos = q at *
  by_cases hlt : d < 64
  · have h1 : ¬ (64 : Int) < (d' : Int) := by omega
    rw [if_pos hlt, if_pos hlt] at HPo
    clear hd' hlt
    go_enter Tryz.func126, Tryz.ntmps126
    go_wp2_with fail
    refine bodyPost_end (v := .tuple #[]) (by simp [results, Tryz.results126, go_sem]) rfl ?_
    rw [HPo.out]
    exact ⟨rfl, HO1.out, HP1.out⟩
  · have h1 : (64 : Int) < (d' : Int) := by omega
    rw [if_neg hlt, if_neg hlt] at HPo
    have HC : Hid (Calls Tryz.prog 35 #[.pointer (some ⟨b, 0, none⟩), .int .i64 23] W1 fun r w' => r = .returned (.tuple #[]) ∧ Only b W1 w' ∧ PS w' b bt off n c i d' 23 q) := HF.out W1 HO1.out HP1.out
    clear hd' hlt HF
    go_enter Tryz.func126, Tryz.ntmps126
    go_wp2_with fail
    first | (refine Calls.mono HC.out ?_) | (rw [hW1]; refine Calls.mono HC.out ?_)
    rintro r w1 ⟨rfl, ho2, hp2⟩
    go_wp2_with fail
    refine bodyPost_end (v := .tuple #[]) (by simp [results, Tryz.results126, go_sem]) rfl ?_
    rw [HPo.out]
    exact ⟨rfl, HO1.out.trans ho2, hp2⟩
set_option maxRecDepth 100000 in
set_option maxHeartbeats 16000000 in
theorem mark_ (w0 W : World) (b bt off n c i d : Nat) (l : List Tok) (hE : Ev w0 b bt off n c l) (ho : Only b w0 W) (hi : i < n) (e p : Int) (hP : PS W b bt off n c i d e p) (s : ByteArray) (m : List Int) (hm : Byt m) (hs : s.toList = (strOfNums m).toList) : Calls Tryz.prog 82 #[.pointer (some ⟨b, 0, none⟩), .string s] W (fun r w' => r = .returned (.bool (decide (e = 0) && mk (tk l i) m)) ∧ Up W w') := by
  obtain ⟨Post, hPost⟩ : ∃ P : Ending → World → Prop, P = fun r w' => r = .returned (.bool (decide (e = 0) && mk (tk l i) m)) ∧ Up W w' := ⟨_, rfl⟩
  rw [← hPost]
  have HPo : Hid (Post = fun r w' => r = .returned (.bool (decide (e = 0) && mk (tk l i) m)) ∧ Up W w') := hPost
  clear hPost
  obtain ⟨a0, a1, a2, a3, a4, fz, hbl⟩ := hP.cells
  have HNW : Hid (∀ W2, Only b W W2 → ∀ e2 p2 d2, PS W2 b bt off n c i d2 e2 p2 → Calls Tryz.prog 31 #[.pointer (some ⟨b, 0, none⟩)] W2 fun r w' => r = .returned (.agg #[.int .i8 (tk l i).kind, .string (strOfNums (tk l i).text), .int .i64 (tk l i).num, .int .i64 (tk l i).pos]) ∧ Up W2 w') := fun W2 h1 e2 p2 d2 h2 => now_ w0 W2 b bt off n c i d2 l hE (ho.trans h1) hi e2 p2 h2
  have HP : Hid (PS W b bt off n c i d e p) := hP
  have HNA : Hid (∀ W2, Up W W2 → Calls Tryz.prog 31 #[.pointer (some ⟨b, 0, none⟩)] W2 fun r w' => r = .returned (.agg #[.int .i8 (tk l i).kind, .string (strOfNums (tk l i).text), .int .i64 (tk l i).num, .int .i64 (tk l i).pos]) ∧ Up W2 w') := fun W2 hu => HNW.out W2 (Only.up hu) e p d (HP.out.up hu)
  have hby := hE.byt i hi
  have hiff : (strOfNums (tk l i).text).toList = s.toList ↔ (tk l i).text = m := by
    rw [hs]
    exact ⟨fun h => nums_inj hby hm h, fun h => by rw [h]⟩
  have f0 := fld0
  have f1 := fld1
  clear hE ho hP HNW hs
  by_cases h0 : e = 0
  · subst h0
    have HB : Hid ((decide ((0 : Int) = 0) && mk (tk l i) m) = (decide ((tk l i).kind = 4) && decide ((tk l i).text = m))) := by
      unfold Hid mk
      rw [Bool.eq_iff_iff]
      simp
    rw [HB.out] at HPo
    generalize tk l i = t at *
    obtain ⟨tkd, tx, tn, tp⟩ := t
    simp only at hiff HNA HPo
    by_cases hk : tkd = 4
    · subst hk
      by_cases ht : tx = m
      · have h2 : (strOfNums tx).toList = s.toList := hiff.2 ht
        have HT : Hid (decide (tx = m) = true) := by unfold Hid; simpa using ht
        rw [HT.out] at HPo
        generalize strOfNums tx = st at *
        clear hiff ht
        go_enter Tryz.func82, Tryz.ntmps82
        go_wp2_with fail
        refine Calls.mono (HNA.out _ (Up.refl _)) ?_
        rintro r w1 ⟨rfl, u1⟩
        have HU1 : Hid (Up W w1) := u1
        clear u1
        go_wp2_with fail
        refine Calls.mono (HNA.out _ HU1.out) ?_
        rintro r w2 ⟨rfl, u2⟩
        go_wp2_with fail
        rw [HPo.out]
        exact ⟨rfl, HU1.out.trans u2⟩
      · have h2 : ¬ (strOfNums tx).toList = s.toList := fun h => ht (hiff.1 h)
        have h3 : ((strOfNums tx).toList == s.toList) = false := by simpa using h2
        have HT : Hid (decide (tx = m) = false) := by unfold Hid; simpa using ht
        rw [HT.out] at HPo
        generalize strOfNums tx = st at *
        clear hiff ht
        go_enter Tryz.func82, Tryz.ntmps82
        go_wp2_with fail
        refine Calls.mono (HNA.out _ (Up.refl _)) ?_
        rintro r w1 ⟨rfl, u1⟩
        have HU1 : Hid (Up W w1) := u1
        clear u1
        go_wp2_with fail
        refine Calls.mono (HNA.out _ HU1.out) ?_
        rintro r w2 ⟨rfl, u2⟩
        go_wp2_with fail
        rw [HPo.out]
        exact ⟨rfl, HU1.out.trans u2⟩
    · have hk2 : (tkd == 4) = false := by simpa using hk
      have HT : Hid (decide (tkd = 4) = false) := by unfold Hid; simpa using hk
      rw [HT.out] at HPo
      clear hiff hk
      generalize strOfNums tx = st at *
      go_enter Tryz.func82, Tryz.ntmps82
      go_wp2_with fail
      refine Calls.mono (HNA.out _ (Up.refl _)) ?_
      rintro r w1 ⟨rfl, u1⟩
      go_wp2_with fail
      rw [HPo.out]
      exact ⟨rfl, u1⟩
  · have h1 : (e == 0) = false := by simpa using h0
    have HT : Hid (decide (e = 0) = false) := by unfold Hid; simpa using h0
    rw [HT.out] at HPo
    clear hiff h0
    go_enter Tryz.func82, Tryz.ntmps82
    go_wp2_with fail
    rw [HPo.out]
    exact ⟨rfl, Up.refl _⟩
set_option maxRecDepth 100000 in
set_option maxHeartbeats 16000000 in
theorem word_ (w0 W : World) (b bt off n c i d : Nat) (l : List Tok) (hE : Ev w0 b bt off n c l) (ho : Only b w0 W) (hi : i < n) (e p : Int) (hP : PS W b bt off n c i d e p) (s : ByteArray) (m : List Int) (hm : Byt m) (hs : s.toList = (strOfNums m).toList) : Calls Tryz.prog 120 #[.pointer (some ⟨b, 0, none⟩), .string s] W (fun r w' => r = .returned (.bool (decide (e = 0) && wd (tk l i) m)) ∧ Up W w') := by
  obtain ⟨Post, hPost⟩ : ∃ P : Ending → World → Prop, P = fun r w' => r = .returned (.bool (decide (e = 0) && wd (tk l i) m)) ∧ Up W w' := ⟨_, rfl⟩
  rw [← hPost]
  have HPo : Hid (Post = fun r w' => r = .returned (.bool (decide (e = 0) && wd (tk l i) m)) ∧ Up W w') := hPost
  clear hPost
  obtain ⟨a0, a1, a2, a3, a4, fz, hbl⟩ := hP.cells
  have HNW : Hid (∀ W2, Only b W W2 → ∀ e2 p2 d2, PS W2 b bt off n c i d2 e2 p2 → Calls Tryz.prog 31 #[.pointer (some ⟨b, 0, none⟩)] W2 fun r w' => r = .returned (.agg #[.int .i8 (tk l i).kind, .string (strOfNums (tk l i).text), .int .i64 (tk l i).num, .int .i64 (tk l i).pos]) ∧ Up W2 w') := fun W2 h1 e2 p2 d2 h2 => now_ w0 W2 b bt off n c i d2 l hE (ho.trans h1) hi e2 p2 h2
  have HP : Hid (PS W b bt off n c i d e p) := hP
  have HNA : Hid (∀ W2, Up W W2 → Calls Tryz.prog 31 #[.pointer (some ⟨b, 0, none⟩)] W2 fun r w' => r = .returned (.agg #[.int .i8 (tk l i).kind, .string (strOfNums (tk l i).text), .int .i64 (tk l i).num, .int .i64 (tk l i).pos]) ∧ Up W2 w') := fun W2 hu => HNW.out W2 (Only.up hu) e p d (HP.out.up hu)
  have hby := hE.byt i hi
  have hiff : (strOfNums (tk l i).text).toList = s.toList ↔ (tk l i).text = m := by
    rw [hs]
    exact ⟨fun h => nums_inj hby hm h, fun h => by rw [h]⟩
  have f0 := fld0
  have f1 := fld1
  clear hE ho hP HNW hs
  by_cases h0 : e = 0
  · subst h0
    have HB : Hid ((decide ((0 : Int) = 0) && wd (tk l i) m) = (decide ((tk l i).kind = 1) && decide ((tk l i).text = m))) := by
      unfold Hid wd
      rw [Bool.eq_iff_iff]
      simp
    rw [HB.out] at HPo
    generalize tk l i = t at *
    obtain ⟨tkd, tx, tn, tp⟩ := t
    simp only at hiff HNA HPo
    by_cases hk : tkd = 1
    · subst hk
      by_cases ht : tx = m
      · have h2 : (strOfNums tx).toList = s.toList := hiff.2 ht
        have HT : Hid (decide (tx = m) = true) := by unfold Hid; simpa using ht
        rw [HT.out] at HPo
        generalize strOfNums tx = st at *
        clear hiff ht
        go_enter Tryz.func120, Tryz.ntmps120
        go_wp2_with fail
        refine Calls.mono (HNA.out _ (Up.refl _)) ?_
        rintro r w1 ⟨rfl, u1⟩
        have HU1 : Hid (Up W w1) := u1
        clear u1
        go_wp2_with fail
        refine Calls.mono (HNA.out _ HU1.out) ?_
        rintro r w2 ⟨rfl, u2⟩
        go_wp2_with fail
        rw [HPo.out]
        exact ⟨rfl, HU1.out.trans u2⟩
      · have h2 : ¬ (strOfNums tx).toList = s.toList := fun h => ht (hiff.1 h)
        have h3 : ((strOfNums tx).toList == s.toList) = false := by simpa using h2
        have HT : Hid (decide (tx = m) = false) := by unfold Hid; simpa using ht
        rw [HT.out] at HPo
        generalize strOfNums tx = st at *
        clear hiff ht
        go_enter Tryz.func120, Tryz.ntmps120
        go_wp2_with fail
        refine Calls.mono (HNA.out _ (Up.refl _)) ?_
        rintro r w1 ⟨rfl, u1⟩
        have HU1 : Hid (Up W w1) := u1
        clear u1
        go_wp2_with fail
        refine Calls.mono (HNA.out _ HU1.out) ?_
        rintro r w2 ⟨rfl, u2⟩
        go_wp2_with fail
        rw [HPo.out]
        exact ⟨rfl, HU1.out.trans u2⟩
    · have hk2 : (tkd == 1) = false := by simpa using hk
      have HT : Hid (decide (tkd = 1) = false) := by unfold Hid; simpa using hk
      rw [HT.out] at HPo
      clear hiff hk
      generalize strOfNums tx = st at *
      go_enter Tryz.func120, Tryz.ntmps120
      go_wp2_with fail
      refine Calls.mono (HNA.out _ (Up.refl _)) ?_
      rintro r w1 ⟨rfl, u1⟩
      go_wp2_with fail
      rw [HPo.out]
      exact ⟨rfl, u1⟩
  · have h1 : (e == 0) = false := by simpa using h0
    have HT : Hid (decide (e = 0) = false) := by unfold Hid; simpa using h0
    rw [HT.out] at HPo
    clear hiff h0
    go_enter Tryz.func120, Tryz.ntmps120
    go_wp2_with fail
    rw [HPo.out]
    exact ⟨rfl, Up.refl _⟩
theorem only_setRow {b g : Nat} {x y : World} (h : Only b x y) (hg : x.heap.size ≤ g) (C : Array Value) : Only b x (y.setRow g C) := by
  refine ⟨h.1, by have := h.2.1; simpa [World.setRow] using this, fun k hk hb => ?_⟩
  rw [← h.2.2 k hk hb]
  simp only [World.setRow, Array.getElem?_modify]
  rw [if_neg (by omega)]
set_option maxRecDepth 100000 in
set_option maxHeartbeats 16000000 in
theorem take_ (w0 W : World) (b bt off n c i d : Nat) (l : List Tok) (hE : Ev w0 b bt off n c l) (ho : Only b w0 W) (hi : i < n) (e p : Int) (hP : PS W b bt off n c i d e p) : Calls Tryz.prog 121 #[.pointer (some ⟨b, 0, none⟩)] W (fun r w' => r = .returned (.agg #[.int .i8 (tk l i).kind, .string (strOfNums (tk l i).text), .int .i64 (tk l i).num, .int .i64 (tk l i).pos]) ∧ Only b W w' ∧ PS w' b bt off n c (if e = 0 ∧ i + 1 < n then i + 1 else i) d e p) := by
  obtain ⟨Post, hPost⟩ : ∃ P : Ending → World → Prop, P = fun r w' => r = .returned (.agg #[.int .i8 (tk l i).kind, .string (strOfNums (tk l i).text), .int .i64 (tk l i).num, .int .i64 (tk l i).pos]) ∧ Only b W w' ∧ PS w' b bt off n c (if e = 0 ∧ i + 1 < n then i + 1 else i) d e p := ⟨_, rfl⟩
  rw [← hPost]
  have HPo : Hid (Post = fun r w' => r = .returned (.agg #[.int .i8 (tk l i).kind, .string (strOfNums (tk l i).text), .int .i64 (tk l i).num, .int .i64 (tk l i).pos]) ∧ Only b W w' ∧ PS w' b bt off n c (if e = 0 ∧ i + 1 < n then i + 1 else i) d e p) := hPost
  clear hPost
  obtain ⟨a0, a1, a2, a3, a4, fz, hbl⟩ := hP.cells
  have HNW : Hid (∀ W2, Only b W W2 → ∀ e2 p2 d2, PS W2 b bt off n c i d2 e2 p2 → Calls Tryz.prog 31 #[.pointer (some ⟨b, 0, none⟩)] W2 fun r w' => r = .returned (.agg #[.int .i8 (tk l i).kind, .string (strOfNums (tk l i).text), .int .i64 (tk l i).num, .int .i64 (tk l i).pos]) ∧ Up W2 w') := fun W2 h1 e2 p2 d2 h2 => now_ w0 W2 b bt off n c i d2 l hE (ho.trans h1) hi e2 p2 h2
  have HP : Hid (PS W b bt off n c i d e p) := hP
  have hns := hE.small
  have hcp := hE.cap
  obtain ⟨W0, hW0⟩ : ∃ W0, W.alloc (.cells #[.int .i8 0, .string ⟨#[]⟩, .int .i64 0, .int .i64 0] 45) = W0 := ⟨_, rfl⟩
  have HU0 : Hid (Up W W0) := by unfold Hid; rw [← hW0]; exact (Up.refl _).alloc _
  have g0 : W0.heap[W.heap.size]? = some (.cells tz 45 (0, 0)) := by rw [← hW0]; exact heap_alloc_new _ _
  have HC0 : Hid (Calls Tryz.prog 31 #[.pointer (some ⟨b, 0, none⟩)] W0 fun r w' => r = .returned (.agg #[.int .i8 (tk l i).kind, .string (strOfNums (tk l i).text), .int .i64 (tk l i).num, .int .i64 (tk l i).pos]) ∧ Up W0 w') := HNW.out W0 (Only.up HU0.out) e p d (HP.out.up HU0.out)
  have hone := tkA_one (tk l i)
  generalize tk l i = t at *
  clear hE ho hP HNW a0 a1 a2 a3 a4 fz
  have hn1 : IntKind.i64.wrap ((n : Int) - 1) = (n : Int) - 1 := by rw [IntKind.wrap_i64]; omega
  by_cases h0 : e = 0
  · subst h0
    by_cases hl : i + 1 < n
    · rw [if_pos ⟨rfl, hl⟩] at HPo
      obtain ⟨i', hi'⟩ : ∃ i', i' = i + 1 := ⟨_, rfl⟩
      rw [← hi'] at HPo
      have ei : IntKind.i64.wrap ((i : Int) + 1) = (i' : Int) := by rw [IntKind.wrap_i64]; omega
      have hl2 : (i : Int) < (n : Int) - 1 := by omega
      clear hi' hl
      go_enter Tryz.func121, Tryz.ntmps121
      go_wp2_with fail
      try rw [hW0]
      refine Calls.mono HC0.out ?_
      rintro r w1 ⟨rfl, u1⟩
      have HU1 : Hid (Up W w1) := HU0.out.trans u1
      have HP1 : Hid (PS w1 b bt off n c i d 0 p) := HP.out.up HU1.out
      have g1 : w1.heap[W.heap.size]? = some (.cells tz 45 (0, 0)) := u1.heap g0
      obtain ⟨W2, hW2⟩ : ∃ W2, (w1.alloc (.cells tz 45)).setRow w1.heap.size (tkA t) = W2 := ⟨_, rfl⟩
      have g2 : W2.heap[w1.heap.size]? = some (.cells (tkA t) 45 (0, 0)) := by rw [← hW2]; exact setRow_heap _ _ _ _ _ _ (heap_alloc_new _ _)
      have u2 : Up w1 W2 := by rw [← hW2]; exact up_setRow ((Up.refl _).alloc _) (Nat.le_refl _) _
      have HU2 : Hid (Up W W2) := HU1.out.trans u2
      have HP2 : Hid (PS W2 b bt off n c i d 0 p) := HP.out.up HU2.out
      have g3 : W2.heap[W.heap.size]? = some (.cells tz 45 (0, 0)) := u2.heap g1
      obtain ⟨a0, a1, a2, a3, a4, fz, hbl2⟩ := HP2.out.cells
      have hW2b : Hid ((w1.alloc (.cells tz 45)).setRow w1.heap.size (tkA t) = W2) := hW2
      have hgn := heap_alloc_new w1 (.cells tz 45)
      clear u1 u2 hW2 hW0 g1
      go_upto_region 2 with (first | (refine wpList_store_row rfl 45 (.tmp 3) (.tmp 5) rfl w1.heap.size (tkA t) rfl rfl 45 tz (heap_alloc_new w1 _) infoTk rfl hone ?_; refine wpList_world hW2b.out ?_))
      obtain ⟨g9, hg9⟩ : ∃ g9, g9 = w1.heap.size := ⟨_, rfl⟩
      rw [← hg9] at g2 ⊢
      have hgb : b < g9 := by rw [hg9]; exact HP1.out.cells.2.2.2.2.2.2
      have hgw : W.heap.size ≤ g9 := by rw [hg9]; exact HU1.out.size
      clear hg9 hgn hW2b
      try simp only [Act.put]
      refine TailR.wp_region_seq 17 (by kernel_rfl) (by kernel_rfl) ?_
      simp only [List.take_succ_cons, List.take_zero, List.drop_succ_cons, List.drop_zero]
      repeat (go_big_quiet_step (fail))
      refine wpQuiet_nil ?_
      intro _ hw'
      obtain ⟨nq, hw''⟩ := hw'
      subst hw''
      obtain ⟨W4, hW4⟩ : ∃ W4, (W2.drewN nq).setCell ⟨b, 1, none⟩ (.int .i64 (i' : Int)) = W4 := ⟨_, rfl⟩
      have HP4 : Hid (PS W4 b bt off n c i' d 0 p) := by unfold Hid; rw [← hW4]; exact PS.at (W := W2.drewN nq) HP2.out i'
      have HO4 : Hid (Only b W W4) := by unfold Hid; rw [← hW4]; exact (Only.up (HU2.out.drewN nq)).set 1 _
      have k2 : W4.heap[g9]? = some (.cells (tkA t) 45 (0, 0)) := by rw [← hW4, Below.heap_setCell _ _ _ _ (show g9 ≠ b by omega)]; exact g2
      have k3 : W4.heap[W.heap.size]? = some (.cells tz 45 (0, 0)) := by rw [← hW4, Below.heap_setCell _ _ _ _ (show W.heap.size ≠ b by omega)]; exact g3
      obtain ⟨W5, hW5⟩ : ∃ W5, W4.setRow W.heap.size (tkA t) = W5 := ⟨_, rfl⟩
      have k5 : W5.heap[W.heap.size]? = some (.cells (tkA t) 45 (0, 0)) := by rw [← hW5]; exact setRow_heap _ _ _ _ _ _ k3
      have hW5b : Hid (W4.setRow W.heap.size (tkA t) = W5) := hW5
      clear hW5
      go_wp2_with (first | (refine wpList_load_row (by rfl) 45 (.tmp 3) (by rfl) g9 (by rfl) 45 (tkA t) (0, 0) _ k2 Tryz.underlying45 (by rfl) infoTk ?_) | (refine wpList_store_row rfl 45 (.tmp 2) (.tmp 31) rfl W.heap.size (tkA t) rfl rfl 45 tz k3 infoTk rfl hone ?_; refine wpList_world hW5b.out ?_))
      refine bodyPost_ret (v := .agg (tkA t)) (res_c0 (p := 2) (ty := 45) rfl _ _ W.heap.size 45 (tkA t) (0, 0) _ rfl k5 Tryz.underlying45 rfl infoTk) rfl ?_
      rw [HPo.out]
      refine ⟨rfl, ?_, ?_⟩
      · rw [← hW5b.out]
        exact only_setRow HO4.out (Nat.le_refl _) _
      · unfold PS
        rw [← hW5b.out, setRow_other _ _ _ _ (by omega)]
        exact HP4.out
    · rw [if_neg (fun h => hl h.2)] at HPo
      have hl2 : ¬ (i : Int) < (n : Int) - 1 := by omega
      clear hl
      go_enter Tryz.func121, Tryz.ntmps121
      go_wp2_with fail
      try rw [hW0]
      refine Calls.mono HC0.out ?_
      rintro r w1 ⟨rfl, u1⟩
      have HU1 : Hid (Up W w1) := HU0.out.trans u1
      have HP1 : Hid (PS w1 b bt off n c i d 0 p) := HP.out.up HU1.out
      have g1 : w1.heap[W.heap.size]? = some (.cells tz 45 (0, 0)) := u1.heap g0
      obtain ⟨W2, hW2⟩ : ∃ W2, (w1.alloc (.cells tz 45)).setRow w1.heap.size (tkA t) = W2 := ⟨_, rfl⟩
      have g2 : W2.heap[w1.heap.size]? = some (.cells (tkA t) 45 (0, 0)) := by rw [← hW2]; exact setRow_heap _ _ _ _ _ _ (heap_alloc_new _ _)
      have u2 : Up w1 W2 := by rw [← hW2]; exact up_setRow ((Up.refl _).alloc _) (Nat.le_refl _) _
      have HU2 : Hid (Up W W2) := HU1.out.trans u2
      have HP2 : Hid (PS W2 b bt off n c i d 0 p) := HP.out.up HU2.out
      have g3 : W2.heap[W.heap.size]? = some (.cells tz 45 (0, 0)) := u2.heap g1
      obtain ⟨a0, a1, a2, a3, a4, fz, hbl2⟩ := HP2.out.cells
      have hW2b : Hid ((w1.alloc (.cells tz 45)).setRow w1.heap.size (tkA t) = W2) := hW2
      have hgn := heap_alloc_new w1 (.cells tz 45)
      clear u1 u2 hW2 hW0 g1
      go_upto_region 2 with (first | (refine wpList_store_row rfl 45 (.tmp 3) (.tmp 5) rfl w1.heap.size (tkA t) rfl rfl 45 tz (heap_alloc_new w1 _) infoTk rfl hone ?_; refine wpList_world hW2b.out ?_))
      obtain ⟨g9, hg9⟩ : ∃ g9, g9 = w1.heap.size := ⟨_, rfl⟩
      rw [← hg9] at g2 ⊢
      have hgb : b < g9 := by rw [hg9]; exact HP1.out.cells.2.2.2.2.2.2
      have hgw : W.heap.size ≤ g9 := by rw [hg9]; exact HU1.out.size
      clear hg9 hgn hW2b
      try simp only [Act.put]
      refine TailR.wp_region_seq 17 (by kernel_rfl) (by kernel_rfl) ?_
      simp only [List.take_succ_cons, List.take_zero, List.drop_succ_cons, List.drop_zero]
      repeat (go_big_quiet_step (fail))
      refine wpQuiet_nil ?_
      intro _ hw'
      obtain ⟨nq, hw''⟩ := hw'
      subst hw''
      obtain ⟨W4, hW4⟩ : ∃ W4, W2.drewN nq = W4 := ⟨_, rfl⟩
      have HP4 : Hid (PS W4 b bt off n c i d 0 p) := by unfold Hid; rw [← hW4]; exact HP2.out
      have HO4 : Hid (Only b W W4) := by unfold Hid; rw [← hW4]; exact Only.up (HU2.out.drewN nq)
      have k2 : W4.heap[g9]? = some (.cells (tkA t) 45 (0, 0)) := by rw [← hW4]; exact g2
      have k3 : W4.heap[W.heap.size]? = some (.cells tz 45 (0, 0)) := by rw [← hW4]; exact g3
      try rw [hW4]
      obtain ⟨W5, hW5⟩ : ∃ W5, W4.setRow W.heap.size (tkA t) = W5 := ⟨_, rfl⟩
      have k5 : W5.heap[W.heap.size]? = some (.cells (tkA t) 45 (0, 0)) := by rw [← hW5]; exact setRow_heap _ _ _ _ _ _ k3
      have hW5b : Hid (W4.setRow W.heap.size (tkA t) = W5) := hW5
      clear hW5
      go_wp2_with (first | (refine wpList_load_row (by rfl) 45 (.tmp 3) (by rfl) g9 (by rfl) 45 (tkA t) (0, 0) _ k2 Tryz.underlying45 (by rfl) infoTk ?_) | (refine wpList_store_row rfl 45 (.tmp 2) (.tmp 31) rfl W.heap.size (tkA t) rfl rfl 45 tz k3 infoTk rfl hone ?_; refine wpList_world hW5b.out ?_))
      refine bodyPost_ret (v := .agg (tkA t)) (res_c0 (p := 2) (ty := 45) rfl _ _ W.heap.size 45 (tkA t) (0, 0) _ rfl k5 Tryz.underlying45 rfl infoTk) rfl ?_
      rw [HPo.out]
      refine ⟨rfl, ?_, ?_⟩
      · rw [← hW5b.out]
        exact only_setRow HO4.out (Nat.le_refl _) _
      · unfold PS
        rw [← hW5b.out, setRow_other _ _ _ _ (by omega)]
        exact HP4.out
  · rw [if_neg (fun h => h0 h.1)] at HPo
    have h1 : (e == 0) = false := by simpa using h0
    clear h0
    go_enter Tryz.func121, Tryz.ntmps121
    go_wp2_with fail
    try rw [hW0]
    refine Calls.mono HC0.out ?_
    rintro r w1 ⟨rfl, u1⟩
    have HU1 : Hid (Up W w1) := HU0.out.trans u1
    have HP1 : Hid (PS w1 b bt off n c i d e p) := HP.out.up HU1.out
    have g1 : w1.heap[W.heap.size]? = some (.cells tz 45 (0, 0)) := u1.heap g0
    obtain ⟨W2, hW2⟩ : ∃ W2, (w1.alloc (.cells tz 45)).setRow w1.heap.size (tkA t) = W2 := ⟨_, rfl⟩
    have g2 : W2.heap[w1.heap.size]? = some (.cells (tkA t) 45 (0, 0)) := by rw [← hW2]; exact setRow_heap _ _ _ _ _ _ (heap_alloc_new _ _)
    have u2 : Up w1 W2 := by rw [← hW2]; exact up_setRow ((Up.refl _).alloc _) (Nat.le_refl _) _
    have HU2 : Hid (Up W W2) := HU1.out.trans u2
    have HP2 : Hid (PS W2 b bt off n c i d e p) := HP.out.up HU2.out
    have g3 : W2.heap[W.heap.size]? = some (.cells tz 45 (0, 0)) := u2.heap g1
    obtain ⟨a0, a1, a2, a3, a4, fz, hbl2⟩ := HP2.out.cells
    have hW2b : Hid ((w1.alloc (.cells tz 45)).setRow w1.heap.size (tkA t) = W2) := hW2
    have hgn := heap_alloc_new w1 (.cells tz 45)
    clear u1 u2 hW2 hW0 g1
    go_upto_region 2 with (first | (refine wpList_store_row rfl 45 (.tmp 3) (.tmp 5) rfl w1.heap.size (tkA t) rfl rfl 45 tz (heap_alloc_new w1 _) infoTk rfl hone ?_; refine wpList_world hW2b.out ?_))
    obtain ⟨g9, hg9⟩ : ∃ g9, g9 = w1.heap.size := ⟨_, rfl⟩
    rw [← hg9] at g2 ⊢
    have hgb : b < g9 := by rw [hg9]; exact HP1.out.cells.2.2.2.2.2.2
    have hgw : W.heap.size ≤ g9 := by rw [hg9]; exact HU1.out.size
    clear hg9 hgn hW2b
    try simp only [Act.put]
    refine TailR.wp_region_seq 17 (by kernel_rfl) (by kernel_rfl) ?_
    simp only [List.take_succ_cons, List.take_zero, List.drop_succ_cons, List.drop_zero]
    repeat (go_big_quiet_step (fail))
    refine wpQuiet_nil ?_
    intro _ hw'
    obtain ⟨nq, hw''⟩ := hw'
    subst hw''
    obtain ⟨W4, hW4⟩ : ∃ W4, W2.drewN nq = W4 := ⟨_, rfl⟩
    have HP4 : Hid (PS W4 b bt off n c i d e p) := by unfold Hid; rw [← hW4]; exact HP2.out
    have HO4 : Hid (Only b W W4) := by unfold Hid; rw [← hW4]; exact Only.up (HU2.out.drewN nq)
    have k2 : W4.heap[g9]? = some (.cells (tkA t) 45 (0, 0)) := by rw [← hW4]; exact g2
    have k3 : W4.heap[W.heap.size]? = some (.cells tz 45 (0, 0)) := by rw [← hW4]; exact g3
    try rw [hW4]
    obtain ⟨W5, hW5⟩ : ∃ W5, W4.setRow W.heap.size (tkA t) = W5 := ⟨_, rfl⟩
    have k5 : W5.heap[W.heap.size]? = some (.cells (tkA t) 45 (0, 0)) := by rw [← hW5]; exact setRow_heap _ _ _ _ _ _ k3
    have hW5b : Hid (W4.setRow W.heap.size (tkA t) = W5) := hW5
    clear hW5
    go_wp2_with (first | (refine wpList_load_row (by rfl) 45 (.tmp 3) (by rfl) g9 (by rfl) 45 (tkA t) (0, 0) _ k2 Tryz.underlying45 (by rfl) infoTk ?_) | (refine wpList_store_row rfl 45 (.tmp 2) (.tmp 31) rfl W.heap.size (tkA t) rfl rfl 45 tz k3 infoTk rfl hone ?_; refine wpList_world hW5b.out ?_))
    refine bodyPost_ret (v := .agg (tkA t)) (res_c0 (p := 2) (ty := 45) rfl _ _ W.heap.size 45 (tkA t) (0, 0) _ rfl k5 Tryz.underlying45 rfl infoTk) rfl ?_
    rw [HPo.out]
    refine ⟨rfl, ?_, ?_⟩
    · rw [← hW5b.out]
      exact only_setRow HO4.out (Nat.le_refl _) _
    · unfold PS
      rw [← hW5b.out, setRow_other _ _ _ _ (by omega)]
      exact HP4.out
end TP
end Go.Proofs.YtkldllnnocdhbaaGreatDoor
