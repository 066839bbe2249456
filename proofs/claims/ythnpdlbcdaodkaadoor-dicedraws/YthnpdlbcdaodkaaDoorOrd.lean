/-
  The order that dice give; two lists of ints held against each other; that dice live.
-/
import Derived.Test.YthnpdlbcdaodkaaDoorShuf
import Derived.Shelf.Abstract
namespace Go.Proofs.YthnpdlbcdaodkaaDoor
open Go.RowKit

/- at most the block b has changed, and new ones have come -/
def Only (b : Nat) (w w' : World) : Prop := (w'.os = w.os ∧ w'.tape = w.tape ∧ w'.output = w.output) ∧ w.heap.size ≤ w'.heap.size ∧ ∀ g, g < w.heap.size → g ≠ b → w'.heap[g]? = w.heap[g]?
theorem Only.refl (b : Nat) (w : World) : Only b w w := ⟨⟨rfl, rfl, rfl⟩, Nat.le_refl _, fun _ _ _ => rfl⟩
theorem Only.trans {b : Nat} {x y z : World} (h : Only b x y) (k : Only b y z) : Only b x z :=
  ⟨⟨k.1.1.trans h.1.1, k.1.2.1.trans h.1.2.1, k.1.2.2.trans h.1.2.2⟩, Nat.le_trans h.2.1 k.2.1, fun g hg hb => (k.2.2 g (Nat.lt_of_lt_of_le hg h.2.1) hb).trans (h.2.2 g hg hb)⟩
theorem Only.up {b : Nat} {x y : World} (h : Up x y) : Only b x y := ⟨⟨h.os, h.tape, h.output⟩, h.size, fun g hg _ => h.block g hg⟩
theorem Only.set {b : Nat} {x y : World} (h : Only b x y) (j : Nat) (u : Value) : Only b x (y.setCell ⟨b, j, none⟩ u) :=
  ⟨h.1, by simpa using h.2.1, fun g hg hb => by rw [Below.heap_setCell _ _ _ _ hb]; exact h.2.2 g hg hb⟩
theorem Only.below {b B : Nat} {x y : World} (h : Only b x y) (h1 : B ≤ b) (h2 : B ≤ x.heap.size) : Below B x y :=
  ⟨h.1.1, h.1.2.1, h.1.2.2, h.2.1, fun g hg => h.2.2 g (by omega) (by omega)⟩
theorem Only.fresh {b : Nat} {x y : World} (h : Only b x y) (h1 : x.heap.size ≤ b) : Up x y := h.below h1 (Nat.le_refl _)
theorem Only.heap {b : Nat} {x y : World} (h : Only b x y) {g : Nat} {o : Obj} (hg : x.heap[g]? = some o) (hb : g ≠ b) : y.heap[g]? = some o := by
  rw [h.2.2 g (Array.getElem?_eq_some_iff.1 hg).1 hb]; exact hg
theorem Only.keepX {b N : Nat} {x y z : World} (h : Only b x y) (k : KeepX N y z) (hN : x.heap.size ≤ N) : Only b x z := by
  refine ⟨⟨k.1.1.trans h.1.1, k.1.2.1.trans h.1.2.1, k.1.2.2.trans h.1.2.2⟩, Nat.le_trans h.2.1 k.2.1, fun g hg hb => ?_⟩
  have e1 := h.2.2 g hg hb
  rw [Array.getElem?_eq_getElem hg] at e1 ⊢
  exact k.2.2 g _ e1 (.inl (by omega))

theorem Up.trans' {a b c : World} {k : Nat} (h : Up a b) (o : Only k b c) (hk : a.heap.size ≤ k) : Up a c := Below.trans h (o.below hk h.size)
def askD (z i : Nat) : Int × Bool := (((hiP (mx (stp z)) (i + 1) : Nat) : Int), true)
def nxtD (z _i : Nat) : Nat := stp z
theorem order1 (b c z i : Nat) (w : World) (h : Die w b z) (hc : w.heap[c]? = some (.cells #[dieA b] 24 (0, 0))) (hi : i < 65536) :
    Calls Tryd.prog 53 #[.int .i64 ((i : Int) + 1), .pointer (some ⟨c, 0, none⟩)] w fun e w' => e = .returned (.tuple #[.int .i64 (askD z i).1, .bool (askD z i).2]) ∧ w' = w.setCell ⟨b, 0, none⟩ (.int .u64 (stp z : Nat)) := by
  have c0 : w.cell? ⟨c, 0, none⟩ = some (dieA b) := by simp [World.cell?, hc]
  have HB := below b z (i + 1) w h (by omega) (by omega)
  rw [show (((i + 1 : Nat) : Int)) = (i : Int) + 1 from rfl] at HB
  have HB : Hid (Calls Tryd.prog _ _ w _) := HB
  unfold askD
  clear h hc
  go_enter Tryd.func53, Tryd.ntmps53
  go_wp2_with fail
  refine HB.out.mono ?_
  rintro e w1 ⟨rfl, rfl⟩
  go_wp2
  go_ret2
  exact ⟨rfl, rfl⟩
def InvD (b c : Nat) (w0 : World) (z : Nat) (W : World) : Prop := Die W b z ∧ W.heap[c]? = some (.cells #[dieA b] 24 (0, 0)) ∧ Only b w0 W
theorem asksD (b c n : Nat) (w0 : World) (hn : n ≤ 65536) (hbc : b ≠ c) (N : Nat) (hN : w0.heap.size ≤ N) :
    Asks N 53 #[] #[.pointer (some ⟨c, 0, none⟩)] 0 n (InvD b c w0) askD nxtD (fun _ _ => True) := by
  refine ⟨fun _ _ _ => trivial, enters_of Tryd.func53 (by kernel_rfl) rfl, ?_, ?_⟩
  · rintro z W W' ⟨h1, h2, h3⟩ k
    exact ⟨k.2.2 b _ h1 (.inr (by intro cs fz e; cases e)), k.2.2 c _ h2 (.inr (by intro cs fz e; cases e)), h3.keepX k hN⟩
  · rintro z W i ⟨h1, h2, h3⟩ _ hi1 hi2
    refine (order1 b c z i W h1 h2 (by omega)).mono ?_
    rintro e W' ⟨rfl, rfl⟩
    refine ⟨rfl, ⟨h1.set _, ?_, h3.set 0 _⟩, ?_, ?_⟩
    · rw [Below.heap_setCell _ _ _ _ (Ne.symm hbc)]; exact h2
    · exact KeepI.setX (KeepI.refl W) _ (by intro cs fz e; have e : W.heap[b]? = _ := e; rw [show W.heap[b]? = _ from h1] at e; cases e)
    · exact Below.setCell (Below.refl _ _) (Nat.zero_le _) _
def ordR (n z : Nat) : Option (List Nat) × Nat := shuf askD nxtD (n - 1) z (List.range n)
theorem right_askD (z i : Nat) : right (askD z i) i = true := by
  have := hiP_below (x := mx (stp z)) (y := i + 1) (mx_lt _) (by omega)
  unfold right askD
  rw [Bool.true_and, Bool.and_eq_true]
  exact ⟨decide_eq_true (Int.natCast_nonneg _), decide_eq_true (by omega)⟩
def itr (f : Nat → Nat) : Nat → Nat → Nat
  | 0, z => z
  | k + 1, z => itr f k (f z)
theorem itr_succ (f : Nat → Nat) (k z : Nat) : itr f (k + 1) z = itr f k (f z) := by rw [itr]
def stpN (k z : Nat) : Nat := itr stp k z
theorem stpN_zero (z : Nat) : stpN 0 z = z := by unfold stpN; rw [itr]
theorem stpN_succ (k z : Nat) : stpN (k + 1) z = stpN k (stp z) := itr_succ stp k z
theorem shuf_succ {S : Type} (f : S → Nat → Int × Bool) (nx : S → Nat → S) (i : Nat) (s : S) (l : List Nat) : shuf f nx (i + 1) s l = if right (f s (i + 1)) (i + 1) = true then shuf f nx i (nx s (i + 1)) (swp l (i + 1) (f s (i + 1)).1.toNat) else (none, nx s (i + 1)) := by rw [shuf]
theorem shuf_ok (i : Nat) : ∀ (z : Nat) (l : List Nat), ∃ l', shuf askD nxtD i z l = (some l', stpN i z) := by
  induction i with
  | zero => intro z l; exact ⟨l, by rw [shuf, stpN_zero]⟩
  | succ i ih =>
    intro z l
    obtain ⟨l', h⟩ := ih (stp z) (swp l (i + 1) (askD z (i + 1)).1.toNat)
    refine ⟨l', ?_⟩
    rw [shuf_succ, if_pos (right_askD z (i + 1)), stpN_succ, ← h]
    rfl
def ordL (n z : Nat) : List Nat := (ordR n z).1.getD []
def ordZ (n z : Nat) : Nat := stpN (n - 1) z
theorem ordR_eq (n z : Nat) : ordR n z = (some (ordL n z), ordZ n z) := by
  obtain ⟨l, h⟩ := shuf_ok (n - 1) z (List.range n)
  unfold ordL ordR ordZ
  rw [h]; rfl
theorem shuf_len {S : Type} (f : S → Nat → Int × Bool) (nx : S → Nat → S) (i : Nat) : ∀ (s : S) (l l' : List Nat), (shuf f nx i s l).1 = some l' → l'.length = l.length := by
  induction i with
  | zero => intro s l l' h; rw [shuf] at h; cases h; rfl
  | succ i ih =>
    intro s l l' h
    rw [shuf_succ] at h
    split at h
    · rw [ih _ _ l' h, swp_len]
    · cases h
theorem ordL_len (n z : Nat) : (ordL n z).length = n := by
  have := shuf_len askD nxtD (n - 1) z (List.range n) (ordL n z) (by show (ordR n z).1 = _; rw [ordR_eq])
  simpa using this
def OrdPost (b n z : Nat) (w : World) (e : Ending) (w' : World) : Prop :=
  ∃ g, w.heap.size ≤ g ∧ e = .returned (.slice (some ⟨g, 0, none⟩) n n) ∧ RowI w' g (ordL n z) ∧ Die w' b (ordZ n z) ∧ Only b w w'
end Go.Proofs.YthnpdlbcdaodkaaDoor
