/-
  A range over All of dice that New made: each round is handed what is drawn then; it ends only where a round leaves it.
-/
import Derived.RangeFuncNested
import Derived.RangeFuncBound
import Derived.RangeFuncCalls
import Derived.RangeFuncLeaves
import Derived.Shelf.Abstract
import Derived.WalkKit
import Derived.OwnWalkIn
import Derived.TacticsInMore
import Derived.LoopNIn
import Derived.LoopIn
import Derived.Test.YthnpdlbcdaodkaaDoorLiveB
namespace Go.Proofs.YthnpdlbcdaodkaaDoor
open Go.RowKit
attribute [local go_sem] Oper.semAt_some

theorem least (J : Nat → World → Prop) : ∃ m : World → Nat, ∀ W, (∃ k, J k W) → J (m W) W ∧ ∀ k, J k W → m W ≤ k := by
  have h : ∀ W, ∃ k, (∃ k, J k W) → J k W ∧ ∀ k', J k' W → k ≤ k' := by
    intro W
    by_cases hx : ∃ k, J k W
    · have : ∀ n, (∃ k, k ≤ n ∧ J k W) → ∃ k, J k W ∧ ∀ k', J k' W → k ≤ k' := by
        intro n
        induction n with
        | zero => rintro ⟨k, hk, hj⟩; exact ⟨k, hj, fun k' _ => by omega⟩
        | succ n ih =>
          rintro ⟨k, hk, hj⟩
          by_cases h2 : ∃ k, k ≤ n ∧ J k W
          · exact ih h2
          · refine ⟨k, hj, fun k' hk' => ?_⟩
            apply Classical.byContradiction
            intro hlt
            exact h2 ⟨k', by omega, hk'⟩
      obtain ⟨k, hk⟩ := hx
      obtain ⟨k2, h2⟩ := this k ⟨k, Nat.le_refl _, hk⟩
      exact ⟨k2, fun _ => h2⟩
    · exact ⟨0, fun h => absurd h hx⟩
  exact ⟨fun W => Classical.choose (h W), fun W => Classical.choose_spec (h W)⟩
set_option maxHeartbeats 1000000 in
theorem all1 (l b c m : Nat) (J : Nat → World → Prop) (Jx : World → Prop)
    (hD : ∀ k W, J k W → ∃ z, Die W b z ∧ W.heap[c]? = some (.cells #[.pointer (some ⟨b, 0, none⟩)] 24 (0, 0)))
    (hY : ∀ k z W, J k W → Die W b z → YieldAt Fence.wide m Tryd.prog l #[.int .u64 (mx (stp z) : Nat)] (W.setCell ⟨b, 0, none⟩ (.int .u64 (stp z : Nat))) fun e W' => (e = .returned (.bool true) ∧ ∃ k', k' < k ∧ J k' W') ∨ (e = .returned (.bool false) ∧ Jx W'))
    (k : Nat) (W : World) (h0 : J k W) :
    CallsIn Fence.wide (m + 1) Tryd.prog 58 #[.func (.yield l) #[] #[], .pointer (some ⟨c, 0, none⟩)] W fun e W' => (∃ v, e = .returned v) ∧ Jx W' := by
  obtain ⟨lst, hlst⟩ := least J
  have HD : Hid (∀ k W, J k W → ∃ z, Die W b z ∧ W.heap[c]? = some (.cells #[.pointer (some ⟨b, 0, none⟩)] 24 (0, 0))) := hD
  have HY : Hid (∀ k z W, J k W → Die W b z → YieldAt Fence.wide m Tryd.prog l #[.int .u64 (mx (stp z) : Nat)] (W.setCell ⟨b, 0, none⟩ (.int .u64 (stp z : Nat))) fun e W' => (e = .returned (.bool true) ∧ ∃ k', k' < k ∧ J k' W') ∨ (e = .returned (.bool false) ∧ Jx W')) := hY
  have HL : Hid (∀ W, (∃ k, J k W) → J (lst W) W ∧ ∀ k, J k W → lst W ≤ k) := hlst
  have HJ : Hid (J k W) := h0
  clear hD hY hlst h0
  obtain ⟨z0, hd0, hb0⟩ := HD.out k W HJ.out
  have c0 : W.cell? ⟨c, 0, none⟩ = some (.pointer (some ⟨b, 0, none⟩)) := by simp [World.cell?, hb0]
  have HD0 : Hid (Die W b z0) := hd0
  clear hd0 hb0
  have hm1 : 1 ≤ m + 1 := by omega
  refine callsIn_of_wp Tryd.func58 rfl trivial ?_ rfl
  simp only [Tryd.ntmps58, List.size_toArray, List.length_cons, List.length_nil, Nat.reduceAdd, Nat.reduceSub, Array.replicate_succ, Array.replicate_zero, List.push_toArray, List.append_toArray, List.nil_append, List.cons_append]
  gi_wp2_with (refine ⟨trivial, ?_⟩; gi_at_call 49; refine (callsIn_wide.2 (noneD b z0 _ HD0.out)).mono ?_; rintro e w' ⟨rfl, rfl⟩)
  clear c0 HD0
  gi_loopw [] (fun wr => ∃ k, J k wr) (fun wr => lst wr)
  case atStart => exact ⟨k, HJ.out⟩
  case round =>
    have hjk := (HL.out wr hrel).1
    obtain ⟨z, hd, hb⟩ := HD.out _ wr hjk
    have c0 : wr.cell? ⟨c, 0, none⟩ = some (.pointer (some ⟨b, 0, none⟩)) := by simp [World.cell?, hb]
    obtain ⟨fn, tmps, assign, body, hy, hR⟩ := HY.out _ z wr hjk hd
    have HDz : Hid (Die wr b z) := hd
    clear hd hb hjk
    gi_wp2_with (refine ⟨trivial, ?_⟩; gi_at_call 10; refine (callsIn_wide.2 (next b z _ HDz.out)).mono ?_; rintro e w' ⟨rfl, rfl⟩)
    refine hR.mono ?_
    rintro e W3 (⟨rfl, k', hk', hJ3⟩ | ⟨rfl, hJx3⟩)
    · gi_wp2
      exact ⟨⟨k', hJ3⟩, Nat.lt_of_le_of_lt ((HL.out W3 ⟨k', hJ3⟩).2 k' hJ3) hk'⟩
    · gi_wp2
      go_end0
      exact ⟨⟨_, rfl⟩, hJx3⟩
/- how the body of a round may be left -/
def rngPost (B : Nat) (I : Nat → World → Prop) (Ix : Code → World → Prop) (k : Nat) (W : World) : Exit → Act → World → Prop
  | .normal, _, W' => KeepsFrom B W W' ∧ ∃ k', k' < k ∧ I k' W'
  | .ret, _, W' => KeepsFrom B W W' ∧ Ix .ret W'
  | .exit id, _, W' => KeepsFrom B W W' ∧ Ix (.exit id) W'
  | .goto t, _, W' => KeepsFrom B W W' ∧ Ix (.goto t) W'
  | .panic _, _, _ => False
  | .outgrown, _, _ => False

theorem rangeAll {g : Operand} {q : Nat} {assign body : Code} {Q : Exit → Act → World → Prop} {a : Act} {w : World} {n : Nat} {b c : Nat} 
    (hg : a.eval g = .func (.func 58) #[] #[.pointer (some ⟨c, 0, none⟩)])
    (I : Nat → World → Prop) (I' : Nat → Nat → World → Prop) (Ix : Code → World → Prop) (hI : OwnFrom w.heap.size I) (hI' : ∀ z, OwnFrom w.heap.size (fun k W => I' k z W)) (hIx : ∀ cd, OwnFrom w.heap.size (fun (_ : Unit) W => Ix cd W))
    (hD : ∀ k W, I k W → ∃ z, Die W b z ∧ W.heap[c]? = some (.cells #[.pointer (some ⟨b, 0, none⟩)] 24 (0, 0)))
    (hstep : ∀ k z W, I k W → Die W b z → I' k z (W.setCell ⟨b, 0, none⟩ (.int .u64 (stp z : Nat))))
    (k₀ : Nat) (h0 : I k₀ w) (a₁ : Nat → Act)
    (hassign : ∀ (l x : Nat) (W : World) (K : Act → World → Prop), K (a₁ x) W →
      assign.wpIn (Fence.wide.inRound l) (n + 1) Tryd.prog (Exit.then K (fun _ _ _ => False)) { tmps := (#[q].zip #[Value.int .u64 (x : Nat)]).foldl (fun t (p, v) => t.setIfInBounds p v) a.tmps, defers := [] } W)
    (hbody : ∀ (l k z : Nat) (W : World), w.heap.size ≤ l → (∃ r, W.heap[l]? = some (.loop r)) → I' k z W → body.wpIn (Fence.wide.inRound l) (n + 1) Tryd.prog (rngPost w.heap.size I Ix k W) (a₁ (mx (stp z))) W)
    (hstop : ∀ (D : Nat) (cd : Code) (W : World), w.heap.size ≤ D → Ix cd W → W.heap[D]? = some (.deferred (some [])) → cd.wpIn Fence.wide (n + 3) Tryd.prog Q { a with defers := { target := .collected D, args := #[] } :: a.defers } W) :
    (Code.rangeFunc g #[q] assign body).wpIn Fence.wide (n + 3) Tryd.prog Q a w := by
  refine wpIn_rangeFunc ?_
  intro fn hfn
  obtain ⟨rec, hrec⟩ : ∃ rec : LoopState → Option Code → Loop, rec = fun st pe => { state := st, pending := pe, fn, tmps := a.tmps, params := #[q], assign, body, defers := w.heap.size } := ⟨_, rfl⟩
  obtain ⟨W1, hW1⟩ : ∃ W1, (w.alloc (.deferred (some []))).alloc (.loop (rec .ready none)) = W1 := ⟨_, rfl⟩
  have hL1 : W1.heap[w.heap.size + 1]? = some (.loop (rec .ready none)) := by
    rw [← hW1]; have := World.alloc_heap_new (w.alloc (.deferred (some []))) (.loop (rec .ready none)); rwa [World.size_alloc] at this
  have hK1 : W1.heap[w.heap.size]? = some (.deferred (some [])) := by
    rw [← hW1]; exact (Below.heap_alloc _ _ _ (by simp)).trans (World.alloc_heap_new w _)
  have hI1 : I k₀ W1 := by rw [← hW1]; exact hI.alloc _ (hI.alloc _ h0)
  refine ⟨w.heap.size + 1, [{ target := .collected w.heap.size, args := #[] }], W1, { target := .fn (.func 58) #[.pointer (some ⟨c, 0, none⟩)], args := #[.func (.yield (w.heap.size + 1)) #[] #[]] }, W1, 58,
    #[.func (.yield (w.heap.size + 1)) #[] #[], .pointer (some ⟨c, 0, none⟩)], W1, ?_, ?_, ?_, ?_, fun _ => by omega, ?_⟩
  · rw [← hW1, hrec]; exact run_enterLoop_outer _ _ _ _ _
  · simp only [resolve, hg]
    simp [go_sem]
  · intro f' _; trivial
  · have eg : ∀ args w, (callFunc 58 args).run Tryd.prog w = .ok (.enter 58 args) w := enters_of Tryd.func58 (by kernel_rfl) rfl
    simp [invoke, go_sem, eg]
  · refine (all1 (w.heap.size + 1) b c (n + 1) (fun k W => I k W ∧ W.heap[w.heap.size + 1]? = some (.loop (rec .ready none)) ∧ W.heap[w.heap.size]? = some (.deferred (some [])))
      (fun W => ∃ cd, Ix cd W ∧ W.heap[w.heap.size + 1]? = some (.loop (rec .done (some cd))) ∧ W.heap[w.heap.size]? = some (.deferred (some [])))
      (fun k W h => hD k W h.1) ?_ k₀ W1 ⟨hI1, hL1, hK1⟩).mono ?_
    · rintro k z W0 ⟨hi, hl, hk⟩ hd
      have hlb : w.heap.size + 1 ≠ b := by intro e; rw [e, show W0.heap[b]? = _ from hd] at hl; cases hl
      have hkb : w.heap.size ≠ b := by intro e; rw [e, show W0.heap[b]? = _ from hd] at hk; cases hk
      have hi' := hstep k z W0 hi hd
      obtain ⟨W, hW⟩ : ∃ W, W = W0.setCell ⟨b, 0, none⟩ (.int .u64 (stp z : Nat)) := ⟨_, rfl⟩
      rw [← hW] at hi' ⊢
      have hl : W.heap[w.heap.size + 1]? = some (.loop (rec .ready none)) := by rw [hW, Below.heap_setCell _ _ _ _ hlb]; exact hl
      have hk : W.heap[w.heap.size]? = some (.deferred (some [])) := by rw [hW, Below.heap_setCell _ _ _ _ hkb]; exact hk
      have hlt : w.heap.size + 1 < W.heap.size := (Array.getElem?_eq_some_iff.1 hl).1
      have hy := run_yield (P := Tryd.prog) (args := #[Value.int .u64 (mx (stp z) : Nat)]) hl (by rw [hrec]; rfl)
      rw [hrec] at hy
      refine ⟨fn, _, assign, body, hy, roundIn_of_wpIn trivial (hassign _ (mx (stp z)) W _ ?_)⟩
      clear hy
      refine ⟨_, run_beginRound hl (by rw [hrec]), ?_⟩
      have hl2 : (W.putObj (w.heap.size + 1) (.loop { rec .ready none with state := .busy })).heap[w.heap.size + 1]? = some (.loop { rec .ready none with state := .busy }) := World.putObj_heap_same hlt
      have hk2 : (W.putObj (w.heap.size + 1) (.loop { rec .ready none with state := .busy })).heap[w.heap.size]? = some (.deferred (some [])) := (World.putObj_heap_other (by omega)).trans hk
      refine wpIn_mono (hbody _ k z _ (by omega) ⟨_, hl2⟩ ((hI' z).putObj _ hi' (by omega) hl rfl)) ?_
      have fin : ∀ (jump : Option Code) (W3 : World), KeepsFrom w.heap.size (W.putObj (w.heap.size + 1) (.loop { rec .ready none with state := .busy })) W3 →
          (Instr.endRound (w.heap.size + 1) jump).run Tryd.prog W3 = .ok (.bool jump.isNone) (W3.putObj (w.heap.size + 1) (.loop (rec (if jump.isNone then .ready else .done) jump))) ∧
          W3.heap[w.heap.size + 1]? = some (.loop { rec .ready none with state := .busy }) ∧
          (W3.putObj (w.heap.size + 1) (.loop (rec (if jump.isNone then .ready else .done) jump))).heap[w.heap.size + 1]? = some (.loop (rec (if jump.isNone then .ready else .done) jump)) ∧ 
          (W3.putObj (w.heap.size + 1) (.loop (rec (if jump.isNone then .ready else .done) jump))).heap[w.heap.size]? = some (.deferred (some [])) := fun jump W3 hk3 => by
        have hl3 := hk3.same _ _ (by omega) hl2 rfl
        have := run_endRound (P := Tryd.prog) jump hl3
        rw [hrec] at this ⊢
        exact ⟨this, by rw [hrec] at hl3; exact hl3, World.putObj_heap_same (Array.getElem?_eq_some_iff.1 hl3).1, (World.putObj_heap_other (by omega)).trans (hk3.same _ _ (Nat.le_refl _) hk2 rfl)⟩
      rintro e a3 W3 hp
      cases e with
      | normal =>
        obtain ⟨hk3, k', hk', hi3⟩ := hp
        obtain ⟨hr, hl3, hl4, hk4⟩ := fin none W3 hk3
        exact ⟨_, _, hr, .inl ⟨rfl, k', hk', hI.putObj _ hi3 (by omega) hl3 rfl, hl4, hk4⟩⟩
      | ret =>
        obtain ⟨hk3, hi3⟩ := hp
        obtain ⟨hr, hl3, hl4, hk4⟩ := fin (some .ret) W3 hk3
        exact ⟨_, _, hr, .inr ⟨rfl, .ret, (hIx _).putObj (s := ()) _ hi3 (by omega) hl3 rfl, hl4, hk4⟩⟩
      | exit id =>
        obtain ⟨hk3, hi3⟩ := hp
        obtain ⟨hr, hl3, hl4, hk4⟩ := fin (some (.exit id)) W3 hk3
        exact ⟨_, _, hr, .inr ⟨rfl, (.exit id), (hIx _).putObj (s := ()) _ hi3 (by omega) hl3 rfl, hl4, hk4⟩⟩
      | goto t =>
        obtain ⟨hk3, hi3⟩ := hp
        obtain ⟨hr, hl3, hl4, hk4⟩ := fin (some (.goto t)) W3 hk3
        exact ⟨_, _, hr, .inr ⟨rfl, (.goto t), (hIx _).putObj (s := ()) _ hi3 (by omega) hl3 rfl, hl4, hk4⟩⟩
      | panic ch => exact hp.elim
      | outgrown => exact hp.elim
    · rintro e W2 ⟨⟨v, rfl⟩, cd, hi, hl, hk⟩
      exact ⟨some cd, _, by have := run_endLoop (P := Tryd.prog) hl (by rw [hrec]; simp); rw [hrec] at this; exact this, hstop _ cd _ (Nat.le_refl _) ((hIx cd).putObj (s := ()) _ hi (by omega) hl rfl) ((World.putObj_heap_other (by omega)).trans hk)⟩

theorem rangeAllIn {g : Operand} {q : Nat} {assign body : Code} {Q : Exit → Act → World → Prop} {a : Act} {w : World} {n : Nat} {b c : Nat} {l₀ : Nat} {r₀ : Loop} (hl₀ : w.heap[l₀]? = some (.loop r₀)) 
    (hg : a.eval g = .func (.func 58) #[] #[.pointer (some ⟨c, 0, none⟩)])
    (I : Nat → World → Prop) (I' : Nat → Nat → World → Prop) (Ix : Code → World → Prop) (hI : OwnFrom w.heap.size I) (hI' : ∀ z, OwnFrom w.heap.size (fun k W => I' k z W)) (hIx : ∀ cd, OwnFrom w.heap.size (fun (_ : Unit) W => Ix cd W))
    (hD : ∀ k W, I k W → ∃ z, Die W b z ∧ W.heap[c]? = some (.cells #[.pointer (some ⟨b, 0, none⟩)] 24 (0, 0)))
    (hstep : ∀ k z W, I k W → Die W b z → I' k z (W.setCell ⟨b, 0, none⟩ (.int .u64 (stp z : Nat))))
    (k₀ : Nat) (h0 : I k₀ w) (a₁ : Nat → Act)
    (hassign : ∀ (l x : Nat) (W : World) (K : Act → World → Prop), K (a₁ x) W →
      assign.wpIn (Fence.wide.inRound l) (n + 1) Tryd.prog (Exit.then K (fun _ _ _ => False)) { tmps := (#[q].zip #[Value.int .u64 (x : Nat)]).foldl (fun t (p, v) => t.setIfInBounds p v) a.tmps, defers := [] } W)
    (hbody : ∀ (l k z : Nat) (W : World), w.heap.size ≤ l → (∃ r, W.heap[l]? = some (.loop r)) → I' k z W → body.wpIn (Fence.wide.inRound l) (n + 1) Tryd.prog (rngPost w.heap.size I Ix k W) (a₁ (mx (stp z))) W)
    (hstop : ∀ (cd : Code) (W : World), Ix cd W → cd.wpIn (Fence.wide.inRound l₀) (n + 3) Tryd.prog Q a W) :
    (Code.rangeFunc g #[q] assign body).wpIn (Fence.wide.inRound l₀) (n + 3) Tryd.prog Q a w := by
  refine wpIn_rangeFunc ?_
  intro fn hfn
  obtain ⟨rec, hrec⟩ : ∃ rec : LoopState → Option Code → Loop, rec = fun st pe => { state := st, pending := pe, fn, tmps := a.tmps, params := #[q], assign, body, defers := r₀.defers } := ⟨_, rfl⟩
  obtain ⟨W1, hW1⟩ : ∃ W1, w.alloc (.loop (rec .ready none)) = W1 := ⟨_, rfl⟩
  have hL1 : W1.heap[w.heap.size]? = some (.loop (rec .ready none)) := by rw [← hW1]; exact World.alloc_heap_new w _
  have hI1 : I k₀ W1 := by rw [← hW1]; exact hI.alloc _ h0
  refine ⟨w.heap.size, [], W1, { target := .fn (.func 58) #[.pointer (some ⟨c, 0, none⟩)], args := #[.func (.yield (w.heap.size)) #[] #[]] }, W1, 58,
    #[.func (.yield (w.heap.size)) #[] #[], .pointer (some ⟨c, 0, none⟩)], W1, ?_, ?_, ?_, ?_, fun _ => by omega, ?_⟩
  · rw [← hW1, hrec]; exact run_enterLoop_inner hl₀ _ _ _ _ _
  · simp only [resolve, hg]
    simp [go_sem]
  · intro f' _; trivial
  · have eg : ∀ args w, (callFunc 58 args).run Tryd.prog w = .ok (.enter 58 args) w := enters_of Tryd.func58 (by kernel_rfl) rfl
    simp [invoke, go_sem, eg]
  · refine (all1 (w.heap.size) b c (n + 1) (fun k W => I k W ∧ W.heap[w.heap.size]? = some (.loop (rec .ready none)))
      (fun W => ∃ cd, Ix cd W ∧ W.heap[w.heap.size]? = some (.loop (rec .done (some cd))))
      (fun k W h => hD k W h.1) ?_ k₀ W1 ⟨hI1, hL1⟩).mono ?_
    · rintro k z W0 ⟨hi, hl⟩ hd
      have hlb : w.heap.size ≠ b := by intro e; rw [e, show W0.heap[b]? = _ from hd] at hl; cases hl
      have hi' := hstep k z W0 hi hd
      obtain ⟨W, hW⟩ : ∃ W, W = W0.setCell ⟨b, 0, none⟩ (.int .u64 (stp z : Nat)) := ⟨_, rfl⟩
      rw [← hW] at hi' ⊢
      have hl : W.heap[w.heap.size]? = some (.loop (rec .ready none)) := by rw [hW, Below.heap_setCell _ _ _ _ hlb]; exact hl
      have hlt : w.heap.size < W.heap.size := (Array.getElem?_eq_some_iff.1 hl).1
      have hy := run_yield (P := Tryd.prog) (args := #[Value.int .u64 (mx (stp z) : Nat)]) hl (by rw [hrec]; rfl)
      rw [hrec] at hy
      refine ⟨fn, _, assign, body, hy, roundIn_of_wpIn trivial (hassign _ (mx (stp z)) W _ ?_)⟩
      clear hy
      refine ⟨_, run_beginRound hl (by rw [hrec]), ?_⟩
      have hl2 : (W.putObj (w.heap.size) (.loop { rec .ready none with state := .busy })).heap[w.heap.size]? = some (.loop { rec .ready none with state := .busy }) := World.putObj_heap_same hlt
      refine wpIn_mono (hbody _ k z _ (by omega) ⟨_, hl2⟩ ((hI' z).putObj _ hi' (by omega) hl rfl)) ?_
      have fin : ∀ (jump : Option Code) (W3 : World), KeepsFrom w.heap.size (W.putObj (w.heap.size) (.loop { rec .ready none with state := .busy })) W3 →
          (Instr.endRound (w.heap.size) jump).run Tryd.prog W3 = .ok (.bool jump.isNone) (W3.putObj (w.heap.size) (.loop (rec (if jump.isNone then .ready else .done) jump))) ∧
          W3.heap[w.heap.size]? = some (.loop { rec .ready none with state := .busy }) ∧
          (W3.putObj (w.heap.size) (.loop (rec (if jump.isNone then .ready else .done) jump))).heap[w.heap.size]? = some (.loop (rec (if jump.isNone then .ready else .done) jump)) := fun jump W3 hk3 => by
        have hl3 := hk3.same _ _ (by omega) hl2 rfl
        have := run_endRound (P := Tryd.prog) jump hl3
        rw [hrec] at this ⊢
        exact ⟨this, by rw [hrec] at hl3; exact hl3, World.putObj_heap_same (Array.getElem?_eq_some_iff.1 hl3).1⟩
      rintro e a3 W3 hp
      cases e with
      | normal =>
        obtain ⟨hk3, k', hk', hi3⟩ := hp
        obtain ⟨hr, hl3, hl4⟩ := fin none W3 hk3
        exact ⟨_, _, hr, .inl ⟨rfl, k', hk', hI.putObj _ hi3 (by omega) hl3 rfl, hl4⟩⟩
      | ret =>
        obtain ⟨hk3, hi3⟩ := hp
        obtain ⟨hr, hl3, hl4⟩ := fin (some .ret) W3 hk3
        exact ⟨_, _, hr, .inr ⟨rfl, .ret, (hIx _).putObj (s := ()) _ hi3 (by omega) hl3 rfl, hl4⟩⟩
      | exit id =>
        obtain ⟨hk3, hi3⟩ := hp
        obtain ⟨hr, hl3, hl4⟩ := fin (some (.exit id)) W3 hk3
        exact ⟨_, _, hr, .inr ⟨rfl, (.exit id), (hIx _).putObj (s := ()) _ hi3 (by omega) hl3 rfl, hl4⟩⟩
      | goto t =>
        obtain ⟨hk3, hi3⟩ := hp
        obtain ⟨hr, hl3, hl4⟩ := fin (some (.goto t)) W3 hk3
        exact ⟨_, _, hr, .inr ⟨rfl, (.goto t), (hIx _).putObj (s := ()) _ hi3 (by omega) hl3 rfl, hl4⟩⟩
      | panic ch => exact hp.elim
      | outgrown => exact hp.elim
    · rintro e W2 ⟨⟨v, rfl⟩, cd, hi, hl⟩
      exact ⟨some cd, _, by have := run_endLoop (P := Tryd.prog) hl (by rw [hrec]; simp); rw [hrec] at this; exact this, hstop cd _ ((hIx cd).putObj (s := ()) _ hi (by omega) hl rfl)⟩
end Go.Proofs.YthnpdlbcdaodkaaDoor
