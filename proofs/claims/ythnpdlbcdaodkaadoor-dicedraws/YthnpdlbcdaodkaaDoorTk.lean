/-
  taken: the first n numbers that All gives.
-/
import Derived.Test.YthnpdlbcdaodkaaDoorWalkS
import Derived.Test.YthnpdlbcdaodkaaDoorDw
import Derived.RangeFuncBox
import Derived.Maps.AppendAt
namespace Go.Proofs.YthnpdlbcdaodkaaDoor
open Go.RowKit
attribute [local go_sem] Oper.semAt_some

def Tk (w : World) (b n z kk zz : Nat) (W : World) : Prop :=
  Die W b zz ∧ Boxed W w.heap.size 3 (.int .i64 n) ∧ (∃ v, Boxed W (w.heap.size + 1) 85 v ∧ W.ownsRow w.heap.size 22 1 v kk ((drw kk z).map wv)) ∧ Boxed W (w.heap.size + 2) 24 (.pointer (some ⟨b, 0, none⟩)) ∧ Only b w W
theorem Tk.stay {w : World} {b n z kk zz : Nat} {W W' : World} (h : Tk w b n z kk zz W) (hs : Stay W W') (ho : Only b w W') : Tk w b n z kk zz W' := by
  obtain ⟨h1, h2, ⟨v, h3, h4⟩, h5, h6⟩ := h
  refine ⟨hs _ _ _ _ h1, hs _ _ _ _ h2, ⟨v, hs _ _ _ _ h3, BG.own_block h4 fun g hg => ?_⟩, hs _ _ _ _ h5, ho⟩
  obtain ⟨cur, hc⟩ := BG.own_ty h4 hg
  rw [hs _ _ _ _ hc, hc]
theorem Tk.own {w : World} {b n z kk zz B : Nat} {W W' : World} {row : Option Nat} (h : Tk w b n z kk zz W) (hB : w.heap.size ≤ B) (hg : W.grownBy W' row) (hr : ∀ r, row = some r → B ≤ r ∧ ∃ o : Obj, W.heap[r]? = some o ∧ o.isCells = false) : Tk w b n z kk zz W' := by
  have h6 := h.2.2.2.2
  refine h.stay (stay_row hg hr) ⟨⟨hg.os.trans h6.1.1, hg.tape.trans h6.1.2.1, hg.output.trans h6.1.2.2⟩, Nat.le_trans h6.2.1 hg.size, fun g hgl hgb => ?_⟩
  rw [hg.block g (Nat.lt_of_lt_of_le hgl h6.2.1) (fun e => by have := (hr g e.symm).1; omega)]
  exact h6.2.2 g hgl hgb
theorem Tk.step {w : World} {b n z kk zz : Nat} {W : World} (hb : b < w.heap.size) (h : Tk w b n z kk zz W) (y : Nat) : Tk w b n z kk y (W.setCell ⟨b, 0, none⟩ (.int .u64 (y : Nat))) := by
  obtain ⟨h1, h2, ⟨v, h3, h4⟩, h5, h6⟩ := h
  have ne : ∀ {g : Nat} {o : Obj}, W.heap[g]? = some o → w.heap.size ≤ g → (W.setCell ⟨b, 0, none⟩ (.int .u64 (y : Nat))).heap[g]? = some o := fun hg hl => by rw [Below.heap_setCell _ _ _ _ (by show _ ≠ b; omega)]; exact hg
  exact ⟨h1.set y, ne h2 (Nat.le_refl _), ⟨v, ne h3 (Nat.le_succ _), ownsRow_setCell_below h4 (a := ⟨b, 0, none⟩) hb _⟩, ne h5 (by omega), h6.set 0 _⟩
/- one more number -/
theorem Tk.app {w : World} {b n z kk zz : Nat} {W w1 : World} {v v' : Value} {tmp : Obj} (hb : b < w.heap.size) (h1 : Die W b zz) (h2 : Boxed W w.heap.size 3 (.int .i64 n)) (h3 : Boxed W (w.heap.size + 1) 85 v) (h4 : W.ownsRow w.heap.size 22 1 v kk ((drw kk z).map wv)) (h5 : Boxed W (w.heap.size + 2) 24 (.pointer (some ⟨b, 0, none⟩))) (h6 : Only b w W)
    (hown : w1.ownsRow w.heap.size 22 1 v' (kk + 1) ((drw kk z).map wv ++ [wv (mx (stp (stpN kk z)))])) (hg : (W.alloc tmp).grownBy w1 v.ownBlock) :
    Boxed w1 (w.heap.size + 1) 85 v ∧ Boxed w1 w.heap.size 3 (.int .i64 n) ∧ Tk w b n z (kk + 1) zz (w1.setCell ⟨w.heap.size + 1, 0, none⟩ v') ∧ Boxed (w1.setCell ⟨w.heap.size + 1, 0, none⟩ v') (w.heap.size + 1) 85 v' ∧ KeepsOthers W (w1.setCell ⟨w.heap.size + 1, 0, none⟩ v') := by
  have hs := h6.2.1
  obtain ⟨p1, p2, p3, p4, p5⟩ := h3.appended (by decide) h4 hs (Nat.le_succ _) hown hg
  have same : ∀ {g : Nat} {cs : Array Value} {t : Nat}, W.heap[g]? = some (.cells cs t (0, 0)) → 22 ≠ t → w1.heap[g]? = some (.cells cs t (0, 0)) := fun {g cs t} hc ht => by
    have hgl : g < W.heap.size := (Array.getElem?_eq_some_iff.1 hc).1
    rw [hg.block g (by simp; omega) (fun e => BG.ty_apart h4 hc ht e.symm), Below.heap_alloc _ _ _ hgl]
    exact hc
  have ne : ∀ {g : Nat} {o : Obj}, w1.heap[g]? = some o → g ≠ w.heap.size + 1 → (w1.setCell ⟨w.heap.size + 1, 0, none⟩ v').heap[g]? = some o := fun hg hl => by rw [Below.heap_setCell _ _ _ _ hl]; exact hg
  refine ⟨p1, same h2 (by decide), ⟨ne (same h1 (by decide)) (by omega), ne (same h2 (by decide)) (by omega), ⟨v', p2, ?_⟩, ne (same h5 (by decide)) (by omega), ?_⟩, p2, p4⟩
  · rw [drw_more, List.map_append]; exact p3
  · refine ⟨⟨p5.os.trans h6.1.1, p5.tape.trans h6.1.2.1, p5.output.trans h6.1.2.2⟩, Nat.le_trans h6.2.1 p5.size, fun g hgl hgb => ?_⟩
    rw [p5.block g hgl]
    exact h6.2.2 g hgl hgb
theorem Tk.start (w : World) (b n z : Nat) (h : Die w b z) : Tk w b n z 0 z (((w.alloc (.cells #[.int .i64 n] 3)).alloc (.cells #[.slice none 0 0] 85)).alloc (.cells #[.pointer (some ⟨b, 0, none⟩)] 24)) := by
  have u : Up w (((w.alloc (.cells #[.int .i64 n] 3)).alloc (.cells #[.slice none 0 0] 85)).alloc (.cells #[.pointer (some ⟨b, 0, none⟩)] 24)) := (((Up.refl w).alloc _).alloc _).alloc _
  refine ⟨h.up u, ((Boxed.new w 3 _).alloc _).alloc _, ⟨.slice none 0 0, ?_, World.ownsRow_nil _ _ _ _⟩, ?_, Only.up u⟩
  · have := (Boxed.new (w.alloc (.cells #[.int .i64 n] 3)) 85 (.slice none 0 0)).alloc (.cells #[.pointer (some ⟨b, 0, none⟩)] 24)
    simpa using this
  · have := Boxed.new ((w.alloc (.cells #[.int .i64 n] 3)).alloc (.cells #[.slice none 0 0] 85)) 24 (.pointer (some ⟨b, 0, none⟩))
    simpa using this
def TkPost (w : World) (b n z : Nat) (e : Ending) (w' : World) : Prop := ∃ v, e = .returned v ∧ OwnW w' w.heap.size v (drw n z) ∧ Die w' b (stpN n z) ∧ Only b w w'
theorem Die.uniq' {W : World} {b z y : Nat} (h : Die W b z) (k : Die W b y) : z = y := by
  have := (show W.heap[b]? = _ from h).symm.trans k
  simp at this
  omega
set_option maxRecDepth 100000 in
set_option maxHeartbeats 2000000 in
theorem taken_ (b n z : Nat) (w : World) (h : Die w b z) (hn : n ≤ 1000) : Calls Tryd.prog 25 #[dieA b, .int .i64 n] w (TkPost w b n z) := by
  obtain ⟨iW, hiW, z0, z1, z2⟩ := info_parts infoW
  have hb : b < w.heap.size := (Array.getElem?_eq_some_iff.1 h).1
  have HS : Hid (Tk w b n z 0 z (((w.alloc (.cells #[.int .i64 n] 3)).alloc (.cells #[.slice none 0 0] 85)).alloc (.cells #[.pointer (some ⟨b, 0, none⟩)] 24))) := Tk.start w b n z h
  have hnf := func_nil
  obtain ⟨Post, hPost⟩ : ∃ P : Ending → World → Prop, P = TkPost w b n z := ⟨_, rfl⟩
  rw [← hPost]
  have HPost : Hid (Post = TkPost w b n z) := hPost
  clear hPost h
  unfold dieA
  refine (callsIn_wide (n := 9)).1 ?_
  refine callsIn_of_wp_marks Tryd.func25 rfl trivial ?_ rfl
  simp only [Tryd.ntmps25, List.size_toArray, List.length_cons, List.length_nil, Nat.reduceAdd, Nat.reduceSub, Array.replicate_succ, Array.replicate_zero, List.push_toArray, List.append_toArray, List.nil_append, List.cons_append]
  refine wpIn_wide.2 ?_
  go_wp2_with fail
  refine (allPp _ _).mono ?_
  rintro e w1 ⟨rfl, rfl⟩
  obtain ⟨W1, hW1⟩ : ∃ W, W = ((w.alloc (.cells #[.int .i64 n] 3)).alloc (.cells #[.slice none 0 0] 85)).alloc (.cells #[.pointer (some ⟨b, 0, none⟩)] 24) := ⟨_, rfl⟩
  have hsz1 : W1.heap.size = w.heap.size + 3 := by rw [hW1]; simp
  rw [← hW1] at HS ⊢
  have c3 := HS.out.2.1.cell
  clear hW1
  by_cases h0 : n = 0
  · subst h0
    have HF : Hid (Post (.returned (.slice none 0 0)) W1) := by
      unfold Hid; rw [HPost.out]
      exact ⟨_, rfl, World.ownsRow_nil _ _ _ _, by rw [stpN_zero]; exact HS.out.1, HS.out.2.2.2.2⟩
    go_wp2
    refine ⟨.slice none 0 0, ?_, HF.out⟩
    simp [results, Tryd.f25, go_sem]
  · have h0' : ¬ (n : Int) = 0 := by omega
    go_wp2_with fail
    simp only [Nat.add_assoc, Nat.reduceAdd]
    refine (wpIn_wide (n := 9)).1 ?_
    refine rangeAll (n := 6) (b := b) (c := w.heap.size + 2) rfl
      (fun k W => ∃ kk, kk < n ∧ k = n - kk ∧ Tk w b n z kk (stpN kk z) W)
      (fun k y W => ∃ kk, kk < n ∧ k = n - kk ∧ y = stpN kk z ∧ Tk w b n z kk (stp y) W)
      (fun cd W => cd = .exit 0 ∧ Tk w b n z n (stpN n z) W)
      ?hI ?hI' ?hIx ?hD ?hstep n ⟨0, by omega, rfl, by rw [stpN_zero]; exact HS.out⟩ ?a1 ?assign ?body ?stop
    case hI =>
      rintro k W W' row ⟨kk, h1, h2, h3⟩ hg hr
      exact ⟨kk, h1, h2, h3.own (by omega) hg hr⟩
    case hI' =>
      rintro y k W W' row ⟨kk, h1, h2, h3, h4⟩ hg hr
      exact ⟨kk, h1, h2, h3, h4.own (by omega) hg hr⟩
    case hIx =>
      rintro cd _ W W' row ⟨h1, h2⟩ hg hr
      exact ⟨h1, h2.own (by omega) hg hr⟩
    case hD =>
      rintro k W ⟨kk, _, _, h3⟩
      exact ⟨_, h3.1, h3.2.2.2.1⟩
    case hstep =>
      rintro k y W ⟨kk, h1, h2, h3⟩ hd
      obtain rfl := Die.uniq' hd h3.1
      exact ⟨kk, h1, h2, rfl, h3.step hb _⟩
    case assign =>
      intro l x W K hK
      gi_wp2
      exact hK
    case body =>
      rintro l k y W _ _ ⟨kk, h1, h2, rfl, d1, d2, ⟨v, d3, d4⟩, d5, d6⟩
      have HA : Hid (∀ (w1 : World) (v' : Value), w1.ownsRow w.heap.size 22 1 v' (kk + 1) ((drw kk z).map wv ++ [wv (mx (stp (stpN kk z)))]) → (W.alloc (.cells #[wv (mx (stp (stpN kk z)))] 22)).grownBy w1 v.ownBlock → Boxed w1 (w.heap.size + 1) 85 v ∧ Boxed w1 w.heap.size 3 (.int .i64 n) ∧ Tk w b n z (kk + 1) (stp (stpN kk z)) (w1.setCell ⟨w.heap.size + 1, 0, none⟩ v') ∧ Boxed (w1.setCell ⟨w.heap.size + 1, 0, none⟩ v') (w.heap.size + 1) 85 v' ∧ KeepsOthers W (w1.setCell ⟨w.heap.size + 1, 0, none⟩ v')) :=
        fun w1 v' g1 g2 => Tk.app hb d1 d2 d3 d4 d5 d6 g1 g2
      obtain ⟨ad, lcap, rfl⟩ := row_val d4
      have e3 := d3.cell
      have hrA := d4.alloc (.cells #[wv (mx (stp (stpN kk z)))] 22)
      have hsz : w.heap.size ≤ W.heap.size := d6.2.1
      clear d1 d2 d3 d4 d5 d6 c3 HS
      unfold wv at hrA HA
      gi_wp2_with (gi_at_builtin; refine wpListIn_append_own _ rfl (.tmp 18) (.tmp 20) 85 rfl w.heap.size 22 iW (.int .u64 0) 1 8 Tryd.underlying85 hiW z0 z1 z2 rfl (by decide) _ _ _ rfl hrA ⟨W.heap.size, 0, none⟩ 1 1 [.int .u64 (mx (stp (stpN kk z)) : Nat)] rfl rfl (cell_one_new _ _ _) (by simp [Value.oneCell']) (by unfold maxLen; omega) (by omega) (by simp; omega) ?_; intro v' w1 hown' hgrow _; obtain ⟨g', cap', rfl⟩ := ownsRow_succ hown'; obtain ⟨hv1, hb1, ht2, hv2, hk2⟩ := HA.out _ _ hown' hgrow; have hc1 := hv1.cell; have hf1 := hv1.frozen; have hc2 := hv2.cell; have hn2 := ht2.2.1.cell)
      · rename_i hq
        have hq : kk + 1 = n := by have : (kk : Int) + 1 = (n : Int) := by simpa using hq
                                   omega
        subst hq
        rw [stpN_more] at ht2
        exact ⟨hk2.from _, rfl, ht2⟩
      · rename_i hq
        have hq : kk + 1 ≠ n := by
          have : ¬ (kk : Int) + 1 = (n : Int) := by simpa using hq
          omega
        rw [stpN_more] at ht2
        exact ⟨hk2.from _, n - (kk + 1), by omega, kk + 1, by omega, rfl, ht2⟩
    case stop =>
      rintro D cd W hD ⟨rfl, ht⟩ hK
      have HT : Hid (Tk w b n z n (stpN n z) W) := ht
      obtain ⟨v, t3, t4⟩ := ht.2.2.1
      have e3 := t3.cell
      have HR : Hid (W.ownsRow w.heap.size 22 1 v n ((drw n z).map wv)) := t4
      obtain ⟨ad, lcap, rfl⟩ := row_val t4
      have HK : Hid (W.heap[D]? = some (.deferred (some []))) := hK
      clear ht t3 t4 hK c3 HS
      gi_wp2_with fail
      refine (wpIn_wide (n := 9)).1 ?_
      gi_wp2
      refine ⟨by simp, .inl ⟨_, _, rfl, run_takeDeferred HK.out, ?_⟩⟩
      refine ⟨.slice ad n lcap, ?_, ?_⟩
      · simp [results, Tryd.f25, go_sem]
      · rw [HPost.out]
        have hT := HT.out.own (B := W1.heap.size) (by omega) (grownBy_putObj' W D (.deferred none)) (fun r e => by cases e; exact ⟨hD, _, HK.out, rfl⟩)
        refine ⟨_, rfl, ?_, hT.1, hT.2.2.2.2⟩
        unfold OwnW
        rw [drw_len]
        refine BG.own_block HR.out fun g hg => ?_
        rw [World.putObj_heap_other (fun e => ?_)]
        obtain ⟨cur, hc⟩ := BG.own_ty HR.out hg
        rw [e, HK.out] at hc
        cases hc
end Go.Proofs.YthnpdlbcdaodkaaDoor
