/-
  Shuffle of an asker, whatever the number; the document's Shuffle; what is there behind all three.
-/
import Derived.Test.YthnpdlbcdaodkaaDoorRSh
import Derived.Test.YthnpdlbcdaodkaaDoorApart
import Derived.Test.YthnpdlbcdaodkaaDoorBki
namespace Go.Proofs.YthnpdlbcdaodkaaDoor
open Go.RowKit

def OwnI (W : World) (N e : Nat) (v : Value) (zs : List Int) : Prop := W.ownsRow N e 1 v zs.length (zs.map (Value.int .i64))
theorem OwnI.lies {W : World} {N e : Nat} {v : Value} {zs : List Int} (h : OwnI W N e v zs) : LiesI W v zs := by
  obtain ⟨ad, cap, rfl⟩ := row_val h
  refine ⟨ad, cap, rfl, fun hn => ?_⟩
  obtain ⟨g, cap', _, hge⟩ := row_some h (by omega)
  cases hge
  refine ⟨g, 0, rfl, fun i hi => ?_⟩
  rw [Nat.zero_add, World.ownsRow.cellAt h i (by simpa using hi)]
  simp [List.getD, hi]
theorem OwnI.mono {W : World} {N N' e : Nat} {v : Value} {zs : List Int} (h : OwnI W N e v zs) (hn : N' ≤ N) : OwnI W N' e v zs := by
  refine ⟨h.1, ?_⟩
  rcases h.2 with k | ⟨g, cap, cur, e1, e2, e3⟩
  · exact .inl k
  · exact .inr ⟨g, cap, cur, e1, Nat.le_trans hn e2, e3⟩
theorem OwnI.keep {W W' : World} {N e : Nat} {v : Value} {zs : List Int} (h : OwnI W N e v zs) (k : ∀ g, v.ownBlock = some g → W'.heap[g]? = W.heap[g]?) : OwnI W' N e v zs := BG.own_block h k
theorem OwnI.up {W W' : World} {N e : Nat} {v : Value} {zs : List Int} (h : OwnI W N e v zs) (u : Up W W') : OwnI W' N e v zs := h.keep fun g hg => u.block g (World.ownsRow.lt h g hg).2
theorem OwnI.only {W W' : World} {N e b : Nat} {v : Value} {zs : List Int} (h : OwnI W N e v zs) (u : Only b W W') (hb : b < N) : OwnI W' N e v zs := h.keep fun g hg => u.2.2 g (World.ownsRow.lt h g hg).2 (by have := (World.ownsRow.lt h g hg).1; omega)
theorem OwnI.nil (W : World) (N e : Nat) : OwnI W N e (.slice none 0 0) [] := World.ownsRow_nil _ _ _ _
theorem iv_map (l : List Nat) : l.map iv = (intsOf l).map (Value.int .i64) := by simp [intsOf, iv]
theorem OwnI.row {W : World} {N g : Nat} {l : List Nat} (h : RowI W g l) (hg : N ≤ g) (hm : l.length ≤ 65536) : OwnI W N 3 (.slice (some ⟨g, 0, none⟩) l.length l.length) (intsOf l) := by
  unfold OwnI
  rw [intsOf_len, ← iv_map]
  refine ⟨by simp, .inr ⟨g, l.length, _, rfl, hg, h, Nat.le_refl _, ?_, by simp, ?_⟩⟩
  · unfold maxLen; omega
  · simp only [Nat.mul_one]; exact List.take_of_length_le (by simp)
theorem qsT_len (i : Nat) : ∀ rs, (qsT i rs).length ≤ i := by
  induction i with
  | zero => intro rs; rw [qsT]; exact Nat.le_refl _
  | succ i ih =>
    intro rs
    cases rs with
    | nil => rw [qsT]; simp
    | cons r rs =>
      rw [qsT]
      split
      · have := ih rs; simp; omega
      · simp
def outZ (z : Int) : Bool := decide (z < 0) || decide (65536 < z)
def RZ (z : Int) (rs : List (Int × Bool)) : Option (List Nat) := if outZ z = true then none else run (z.toNat - 1) rs (List.range z.toNat)
def QZ (z : Int) (rs : List (Int × Bool)) : List Int := if outZ z = true then [] else qsT (z.toNat - 1) rs
def LZ (z : Int) (rs : List (Int × Bool)) : List Int := intsOf ((RZ z rs).getD [])
theorem outZ_iff (z : Int) : outZ z = true ↔ z < 0 ∨ 65536 < z := by simp [outZ]
theorem LZ_len (z : Int) (rs : List (Int × Bool)) : (LZ z rs).length ≤ 65536 := by
  unfold LZ RZ
  rw [intsOf_len]
  by_cases h : outZ z = true
  · rw [if_pos h]; simp
  · rw [if_neg h]
    rw [outZ_iff] at h
    cases e : run (z.toNat - 1) rs (List.range z.toNat) with
    | none => simp
    | some l => have := run_len _ _ _ _ e; simp at this ⊢; omega
theorem QZ_len (z : Int) (rs : List (Int × Bool)) : (QZ z rs).length ≤ 65536 := by
  unfold QZ
  by_cases h : outZ z = true
  · rw [if_pos h]; simp
  · rw [if_neg h]
    rw [outZ_iff] at h
    have := qsT_len (z.toNat - 1) rs
    omega
theorem shufU (z : Int) (a : Nat) (lv : Value) (rs : List (Int × Bool)) (w : World) (hl : AnsL a w.heap.size w lv rs) (hb : w.heap[a]? = some (.cells #[lv, .slice none 0 0] 64 (0, 0))) :
    Calls Tryd.prog 12 #[.int .i64 z, .func (.func 13) #[.pointer (some ⟨a, 0, none⟩)] #[]] w fun e w' => ∃ L, e = .returned (.tuple #[L, .bool (RZ z rs).isSome]) ∧ OwnI w' w.heap.size 3 L (LZ z rs) ∧ (∃ A, w'.heap[a]? = some (.cells #[lv, A] 64 (0, 0)) ∧ OwnI w' w.heap.size 2 A (QZ z rs)) ∧ Only a w w' := by
  by_cases h : outZ z = true
  · have e1 : RZ z rs = none := by unfold RZ; rw [if_pos h]
    have e2 : QZ z rs = [] := by unfold QZ; rw [if_pos h]
    refine (shuffleLow z _ w ((outZ_iff z).1 h)).mono ?_
    rintro e w' ⟨rfl, rfl⟩
    refine ⟨_, by rw [e1]; rfl, ?_, ⟨_, hb, ?_⟩, Only.refl _ _⟩
    · unfold LZ; rw [e1]; exact OwnI.nil _ _ _
    · rw [e2]; exact OwnI.nil _ _ _
  · have h' := h
    rw [outZ_iff] at h'
    obtain ⟨n, rfl⟩ := Int.eq_ofNat_of_zero_le (show 0 ≤ z by omega)
    have hn : n ≤ 65536 := by omega
    have e1 : RZ (n : Int) rs = run (n - 1) rs (List.range n) := by unfold RZ; rw [if_neg h]; rfl
    have e2 : QZ (n : Int) rs = qsT (n - 1) rs := by unfold QZ; rw [if_neg h]; rfl
    refine (shuffleA a lv rs n w hn hl hb).mono ?_
    intro e w' hp
    rw [shuf_run] at hp
    simp only [List.length_nil, List.drop_zero, List.nil_append] at hp
    unfold LZ
    rw [e1, e2]
    cases hr : run (n - 1) rs (List.range n) with
    | none =>
      rw [hr] at hp
      obtain ⟨⟨⟨A, h1, h2⟩, h3⟩, -, -, rfl⟩ := hp.none
      exact ⟨_, rfl, OwnI.nil _ _ _, ⟨A, h1, h2⟩, h3⟩
    | some l =>
      rw [hr] at hp
      obtain ⟨⟨⟨A, h1, h2⟩, h3⟩, -, -, g, hg, rfl, hrow⟩ := hp.some
      have := run_len _ _ _ _ hr
      simp at this
      exact ⟨_, rfl, OwnI.row hrow hg (by omega), ⟨A, h1, h2⟩, h3⟩
theorem rshufU (z : Int) (u : Value) (rs : List (Int × Bool)) (w : World) (hl : AnsL w.heap.size w.heap.size w u rs) :
    Calls Tryd.prog 14 #[.int .i64 z, u] w fun e w' => ∃ L A, e = .returned (.tuple #[L, .bool (RZ z rs).isSome, A]) ∧ OwnI w' w.heap.size 3 L (LZ z rs) ∧ OwnI w' w.heap.size 2 A (QZ z rs) ∧ Up w w' := by
  by_cases h : outZ z = true
  · have e1 : RZ z rs = none := by unfold RZ; rw [if_pos h]
    have e2 : QZ z rs = [] := by unfold QZ; rw [if_pos h]
    refine (rshuffleLow z _ w ((outZ_iff z).1 h)).mono ?_
    rintro e w' ⟨rfl, rfl⟩
    refine ⟨_, _, by rw [e1]; rfl, ?_, ?_, Up.refl _⟩
    · unfold LZ; rw [e1]; exact OwnI.nil _ _ _
    · rw [e2]; exact OwnI.nil _ _ _
  · have h' := h
    rw [outZ_iff] at h'
    obtain ⟨n, rfl⟩ := Int.eq_ofNat_of_zero_le (show 0 ≤ z by omega)
    have hn : n ≤ 65536 := by omega
    have e1 : RZ (n : Int) rs = run (n - 1) rs (List.range n) := by unfold RZ; rw [if_neg h]; rfl
    have e2 : QZ (n : Int) rs = qsT (n - 1) rs := by unfold QZ; rw [if_neg h]; rfl
    refine (rshuffle n u rs w hn hl).mono ?_
    rintro e w' ⟨A, h1, h2, h3⟩
    unfold LZ
    rw [e1, e2]
    cases hr : run (n - 1) rs (List.range n) with
    | none =>
      rw [hr] at h3
      have h3 : e = _ := h3
      exact ⟨_, A, by rw [h3]; rfl, OwnI.nil _ _ _, h1, h2⟩
    | some l =>
      rw [hr] at h3
      obtain ⟨L, h4, h5⟩ := h3
      have hl := run_len _ _ _ _ hr
      simp at hl
      refine ⟨L, A, by rw [h5]; rfl, ?_, h1, h2⟩
      unfold OwnI
      show w'.ownsRow w.heap.size 3 1 L (intsOf l).length _
      rw [intsOf_len, ← iv_map, hl]
      exact h4
/- what is there behind the three calls -/
def Got (w : World) (a b : Nat) (lv L1 L2 L3 A1 A2 A3 : Value) (zs qs : List Int) (W : World) : Prop :=
  OwnI W w.heap.size 3 L1 zs ∧ OwnI W w.heap.size 3 L2 zs ∧ OwnI W w.heap.size 3 L3 zs ∧ OwnI W w.heap.size 2 A1 qs ∧ OwnI W w.heap.size 2 A2 qs ∧ OwnI W w.heap.size 2 A3 qs ∧
  W.heap[a]? = some (.cells #[lv, A1] 64 (0, 0)) ∧ W.heap[b]? = some (.cells #[lv, A2] 64 (0, 0)) ∧ (∀ g, L1.ownBlock = some g → L2.ownBlock ≠ some g) ∧ Up w W
theorem Got.up {w W W' : World} {a b : Nat} {lv L1 L2 L3 A1 A2 A3 : Value} {zs qs : List Int} (h : Got w a b lv L1 L2 L3 A1 A2 A3 zs qs W) (u : Up W W') : Got w a b lv L1 L2 L3 A1 A2 A3 zs qs W' := by
  obtain ⟨h1, h2, h3, h4, h5, h6, h7, h8, h9, h10⟩ := h
  exact ⟨h1.up u, h2.up u, h3.up u, h4.up u, h5.up u, h6.up u, u.heap h7, u.heap h8, h9, h10.trans u⟩
theorem Got.cells {w W : World} {a b : Nat} {lv L1 L2 L3 A1 A2 A3 : Value} {zs qs : List Int} (h : Got w a b lv L1 L2 L3 A1 A2 A3 zs qs W) : W.cell? ⟨a, 1, none⟩ = some A1 ∧ W.cell? ⟨b, 1, none⟩ = some A2 :=
  ⟨(two_cells h.2.2.2.2.2.2.1).2.1, (two_cells h.2.2.2.2.2.2.2.1).2.1⟩
theorem Up.only {w W W' : World} {a : Nat} (h : Up w W) (o : Only a W W') (ha : w.heap.size ≤ a) : Up w W' :=
  ⟨o.1.1.trans h.os, o.1.2.1.trans h.tape, o.1.2.2.trans h.output, Nat.le_trans h.size o.2.1, fun g hg => by
    have := h.size
    rw [o.2.2 g (by omega) (by omega)]; exact h.block g hg⟩
theorem Got.mk {w W1 W2 W3 W4 : World} {a b : Nat} {lv L1 L2 L3 A1 A2 A3 : Value} {zs qs : List Int} (ha : w.heap.size ≤ a) (hab : a < b) (hb : b < W1.heap.size) (h0 : Up w W1)
    (p1 : OwnI W2 W1.heap.size 3 L1 zs) (p2 : W2.heap[a]? = some (.cells #[lv, A1] 64 (0, 0))) (p3 : OwnI W2 W1.heap.size 2 A1 qs) (p4 : Only a W1 W2)
    (q1 : OwnI W3 W2.heap.size 3 L2 zs) (q2 : W3.heap[b]? = some (.cells #[lv, A2] 64 (0, 0))) (q3 : OwnI W3 W2.heap.size 2 A2 qs) (q4 : Only b W2 W3)
    (r1 : OwnI W4 W3.heap.size 3 L3 zs) (r2 : OwnI W4 W3.heap.size 2 A3 qs) (r3 : Up W3 W4) : Got w a b lv L1 L2 L3 A1 A2 A3 zs qs W4 := by
  have s1 : w.heap.size ≤ W1.heap.size := h0.size
  have s2 : W1.heap.size ≤ W2.heap.size := p4.2.1
  have s3 : W2.heap.size ≤ W3.heap.size := q4.2.1
  have u3 : Up w W3 := (h0.only p4 ha).only q4 (by omega)
  refine ⟨((p1.only q4 hb).up r3).mono s1, (q1.up r3).mono (by omega), r1.mono (by omega), ((p3.only q4 hb).up r3).mono s1, (q3.up r3).mono (by omega), r2.mono (by omega), ?_, r3.heap q2, ?_, u3.trans r3⟩
  · have : W3.heap[a]? = some (.cells #[lv, A1] 64 (0, 0)) := by rw [q4.2.2 a (by omega) (by omega)]; exact p2
    exact r3.heap this
  · intro g hg hg2
    have := (World.ownsRow.lt p1 g hg).2
    have := (World.ownsRow.lt q1 g hg2).1
    omega
theorem eqSame (v u : Value) (zs : List Int) (w : World) (hv : LiesI w v zs) (hu : LiesI w u zs) (hm : zs.length ≤ 65536) : Calls Tryd.prog 15 #[v, u] w fun e w' => e = .returned (.bool true) ∧ Up w w' :=
  (eqInts v u zs zs w hv hu (by omega)).mono fun e w' ⟨h1, h2⟩ => ⟨by rw [h1]; simp, h2⟩
/- the bag with both lists -/
theorem bag_apart (w W : World) (gb base : Nat) (v L1 L2 : Value) (zs : List Int) (hm : zs.length ≤ 65536) (hB : BagAt W gb v) (hr : W.ownsRow base 65 1 v 2 [L1, L2]) (h1 : OwnI W w.heap.size 3 L1 zs) (h2 : OwnI W w.heap.size 3 L2 zs) (hd : ∀ g, L1.ownBlock = some g → L2.ownBlock ≠ some g) (hw : w.heap.size ≤ W.heap.size) :
    Calls Tryd.prog 9 #[.pointer (some ⟨gb, 0, none⟩)] W fun e w' => e = .returned (.bool true) ∧ Below w.heap.size W w' := by
  obtain ⟨ad, cap, rfl⟩ := row_val hr
  have hblk : ∀ g, BG.Blks [(L1, zs.length), (L2, zs.length)] g → ∃ cur, W.heap[g]? = some (.cells cur 3 (0, 0)) ∧ w.heap.size ≤ g := by
    rintro g ⟨p, hp, hg⟩
    have hp : p < 2 := hp
    rcases (by omega : p = 0 ∨ p = 1) with rfl | rfl
    · obtain ⟨cur, hc⟩ := BG.own_ty h1 hg
      exact ⟨cur, hc, (World.ownsRow.lt h1 g hg).1⟩
    · obtain ⟨cur, hc⟩ := BG.own_ty h2 hg
      exact ⟨cur, hc, (World.ownsRow.lt h2 g hg).1⟩
  refine apartAll gb _ W (fun w' => Below w.heap.size W w') hB ?_
  refine (BG.apartI_ gb ad 2 cap w.heap.size [(L1, zs.length), (L2, zs.length)] W ⟨⟨_, hB, rfl⟩, rfl, fun _ => ?_⟩ (by decide) ?_ ?_ ?_ hw).mono ?_
  · rcases hr.2 with ⟨e, k⟩ | ⟨lb, cap', cur, e, -, hh, -, -, -, ht⟩
    · cases k
    · cases e
      refine ⟨lb, cur, rfl, hh, fun p hp => ?_⟩
      have : (cur.toList.take (2 * 1))[p]? = [L1, L2][p]? := by rw [ht]
      rw [List.getElem?_take_of_lt (by omega)] at this
      rw [← Array.getElem?_toList, this]
      rcases (by omega : p = 0 ∨ p = 1) with rfl | rfl <;> rfl
  · intro p hp
    have hp : p < 2 := hp
    rcases (by omega : p = 0 ∨ p = 1) with rfl | rfl
    · exact ⟨_, h1, fun h => absurd h (Nat.not_lt_zero _)⟩
    · exact ⟨_, h2, fun h => absurd h (Nat.not_lt_zero _)⟩
  · intro p q g hp hq hpq h3 h4
    have hp : p < 2 := hp
    have hq : q < 2 := hq
    rcases (by omega : (p = 0 ∧ q = 1) ∨ (p = 1 ∧ q = 0)) with ⟨rfl, rfl⟩ | ⟨rfl, rfl⟩
    · exact hd g h3 h4
    · exact hd g h4 h3
  · intro p hp
    rcases (by omega : p = 0 ∨ p = 1) with rfl | rfl
    · show zs.length ≤ _; omega
    · show zs.length ≤ _; omega
  · rintro e w' ⟨rfl, hx⟩
    refine ⟨rfl, ?_, hx.below _ (fun g hg => (hblk g hg).elim fun _ h => h.2) hw⟩
    refine hx.heap hB fun hg => ?_
    obtain ⟨cur, hc, -⟩ := hblk gb hg
    have hB' : W.heap[gb]? = _ := hB
    rw [hc] at hB'
    cases hB'
end Go.Proofs.YthnpdlbcdaodkaaDoor
