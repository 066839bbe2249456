/-
  The bag with any number of lists; what 'does' leaves.
-/
import Derived.Test.YthnpdlbcdaodkaaDoorTk
import Derived.Test.YthnpdlbcdaodkaaDoorRO
namespace Go.Proofs.YthnpdlbcdaodkaaDoor
open Go.RowKit

theorem addFull (b : Nat) (a : Option Addr) (n c : Nat) (ad : Option Addr) (m k : Nat) (w : World) (h : BagAt w b (.slice a n c)) (hn : 400 ≤ n) :
    Calls Tryd.prog 16 #[.pointer (some ⟨b, 0, none⟩), .slice ad m k] w fun e w' => e = .returned (.tuple #[]) ∧ w' = w := by
  obtain ⟨c1, f1⟩ := h.ints
  have hlt : ¬ (n : Int) < 400 := by omega
  clear h
  go_enter Tryd.func16, Tryd.ntmps16
  go_wp2
  first | exact ⟨rfl, rfl⟩ | (go_end0; exact ⟨rfl, rfl⟩)
/- the bag: its lists, each of its own, at or above B -/
def BagI (W : World) (gb B : Nat) (L : BG.VL) : Prop :=
  (∃ v, BagAt W gb v ∧ W.ownsRow B 65 1 v L.length (L.map (·.1))) ∧ L.length ≤ 400 ∧ BG.Rows1 BG.mkI B 3 1 W L 0 ∧ BG.Apart L ∧ (∀ p, p < L.length → (L.getD p BG.dv).2 ≤ 65536) ∧ gb < B ∧ B ≤ W.heap.size
theorem BagI.blk {W W' : World} {gb B : Nat} {L : BG.VL} (h : BagI W gb B L) (hs : W.heap.size ≤ W'.heap.size) (k : ∀ g, g < W.heap.size → (B ≤ g ∨ g = gb) → W'.heap[g]? = W.heap[g]?) : BagI W' gb B L := by
  obtain ⟨⟨v, h1, h2⟩, h3, h4, h5, h6, h7, h8⟩ := h
  refine ⟨⟨v, ?_, BG.own_block h2 fun g hg => k g (h2.lt g hg).2 (.inl (h2.lt g hg).1)⟩, h3, fun p hp => ?_, h5, h6, h7, by omega⟩
  · unfold BagAt; rw [k gb (by omega) (.inr rfl)]; exact h1
  · obtain ⟨xs, g1, g2⟩ := h4 p hp
    exact ⟨xs, BG.own_block g1 fun g hg => k g (g1.lt g hg).2 (.inl (g1.lt g hg).1), g2⟩
theorem BagI.only {W W' : World} {gb B b : Nat} {L : BG.VL} (h : BagI W gb B L) (o : Only b W W') (hb : b < B) (hne : b ≠ gb) : BagI W' gb B L := h.blk o.2.1 fun g hg hc => o.2.2 g hg (by rcases hc with hc | hc <;> omega)
theorem BagI.up {W W' : World} {gb B : Nat} {L : BG.VL} (h : BagI W gb B L) (u : Up W W') : BagI W' gb B L := h.blk u.size fun g hg _ => u.block g hg
theorem BagI.lt {W : World} {gb B : Nat} {L : BG.VL} (h : BagI W gb B L) {p g : Nat} (hp : p < L.length) (hg : (L.getD p BG.dv).1.ownBlock = some g) : g < W.heap.size := by
  obtain ⟨xs, g1, -⟩ := h.2.2.1 p hp
  exact (g1.lt g hg).2
theorem getD_more {L : BG.VL} {x : Value × Nat} (p : Nat) : (L ++ [x]).getD p BG.dv = if p = L.length then x else L.getD p BG.dv := by
  by_cases h : p = L.length
  · subst h; simp [List.getD]
  · rw [if_neg h]
    by_cases h2 : p < L.length
    · simp [List.getD, List.getElem?_append_left h2]
    · simp [List.getD, List.getElem?_eq_none (show L.length ≤ p by omega), List.getElem?_eq_none (show (L ++ [x]).length ≤ p by simp; omega)]
/- what may change below B: the two dice and the bag -/
def FrB (dk rk gb B : Nat) (W W' : World) : Prop := (W'.os = W.os ∧ W'.tape = W.tape ∧ W'.output = W.output) ∧ W.heap.size ≤ W'.heap.size ∧ ∀ g, g < B → g ≠ dk → g ≠ rk → g ≠ gb → W'.heap[g]? = W.heap[g]?
theorem FrB.trans {dk rk gb B : Nat} {x y z : World} (h : FrB dk rk gb B x y) (k : FrB dk rk gb B y z) : FrB dk rk gb B x z :=
  ⟨⟨k.1.1.trans h.1.1, k.1.2.1.trans h.1.2.1, k.1.2.2.trans h.1.2.2⟩, Nat.le_trans h.2.1 k.2.1, fun g h1 h2 h3 h4 => (k.2.2 g h1 h2 h3 h4).trans (h.2.2 g h1 h2 h3 h4)⟩
theorem FrB.only {dk rk gb B b : Nat} {x y : World} (h : Only b x y) (hB : B ≤ x.heap.size) (hb : b = dk ∨ b = rk) : FrB dk rk gb B x y :=
  ⟨h.1, h.2.1, fun g h1 h2 h3 _ => h.2.2 g (by omega) (by rcases hb with rfl | rfl <;> assumption)⟩
theorem FrB.up {dk rk gb B : Nat} {x y : World} (h : Up x y) (hB : B ≤ x.heap.size) : FrB dk rk gb B x y := ⟨⟨h.os, h.tape, h.output⟩, h.size, fun g h1 _ _ _ => h.block g (by omega)⟩
/- one more list -/
theorem add_ (gb B N m c : Nat) (ad : Option Addr) (zs : List Int) (L : BG.VL) (w : World) (h : BagI w gb B L) (hu : OwnI w N 3 (.slice ad m c) zs) (hm : m = zs.length) (hz : zs.length ≤ 65536) (hN : B ≤ N) (hL : ∀ p g, p < L.length → (L.getD p BG.dv).1.ownBlock = some g → g < N) :
    Calls Tryd.prog 16 #[.pointer (some ⟨gb, 0, none⟩), .slice ad m c] w fun e w' => e = .returned (.tuple #[]) ∧ (∃ L', BagI w' gb B L') ∧ OwnI w' N 3 (.slice ad m c) zs ∧ (w'.os = w.os ∧ w'.tape = w.tape ∧ w'.output = w.output) ∧ w.heap.size ≤ w'.heap.size ∧ (∀ g, g < B → g ≠ gb → w'.heap[g]? = w.heap[g]?) := by
  obtain ⟨⟨v, h1, h2⟩, h3, h4, h5, h6, h7, h8⟩ := id h
  obtain ⟨va, vc, rfl⟩ := row_val h2
  by_cases hl : L.length < 400
  · refine (addInts gb B L.length _ ad m c _ w h1 h2 hl h7 h8).mono ?_
    rintro e w' ⟨rfl, v', g1, g2, g3⟩
    have same : ∀ {e N : Nat} {u : Value} {n : Nat} {xs : List Value}, w.ownsRow N e 1 u n xs → B ≤ N → e ≠ 65 → w'.ownsRow N e 1 u n xs := fun {e N u n xs} r hBN he => BG.own_block r fun g hg => by
      obtain ⟨cur, hc⟩ := BG.own_ty r hg
      refine g3.2.2 g (r.lt g hg).2 (by have := (r.lt g hg).1; omega) (fun e2 => ?_)
      exact BG.ty_apart h2 hc (fun e3 => he e3.symm) e2
    refine ⟨rfl, ⟨L ++ [(.slice ad m c, m)], ⟨v', g1, ?_⟩, by simp; omega, ?_, ?_, ?_, h7, Nat.le_trans h8 g3.2.1⟩, same hu hN (by decide), g3.1, g3.2.1, fun g k1 k2 => g3.2.2 g (by omega) k2 (fun e2 => by have := (h2.lt g e2).1; omega)⟩
    · rw [List.length_append, List.map_append]; exact g2
    · intro p hp
      rw [getD_more]
      by_cases e : p = L.length
      · rw [if_pos e]
        refine ⟨zs.map (Value.int .i64), ?_, fun h => absurd h (Nat.not_lt_zero _)⟩
        have this : w'.ownsRow N 3 1 (.slice ad m c) zs.length (zs.map (Value.int .i64)) := same hu hN (by decide)
        rw [← hm] at this
        refine ⟨this.1, ?_⟩
        rcases this.2 with k | ⟨g, cap, cur, e1, e2, e3⟩
        · exact .inl k
        · exact .inr ⟨g, cap, cur, e1, Nat.le_trans hN e2, e3⟩
      · rw [if_neg e]
        have hp : p < L.length + 1 := by simpa using hp
        obtain ⟨xs, k1, _⟩ := h4 p (by omega)
        exact ⟨xs, same k1 (Nat.le_refl _) (by decide), fun h => absurd h (Nat.not_lt_zero _)⟩
    · intro p q g hp hq hpq
      rw [getD_more, getD_more]
      have hp : p < L.length + 1 := by simpa using hp
      have hq : q < L.length + 1 := by simpa using hq
      by_cases e : p = L.length
      · rw [if_pos e, if_neg (by omega)]
        intro k1 k2
        have := hL q g (by omega) k2
        have := (World.ownsRow.lt hu g k1).1
        omega
      · rw [if_neg e]
        by_cases e2 : q = L.length
        · rw [if_pos e2]
          intro k1 k2
          have := hL p g (by omega) k1
          have := (World.ownsRow.lt hu g k2).1
          omega
        · rw [if_neg e2]
          exact h5 p q g (by omega) (by omega) hpq
    · intro p hp
      rw [getD_more]
      have hp : p < L.length + 1 := by simpa using hp
      by_cases e : p = L.length
      · rw [if_pos e]; show m ≤ _; omega
      · rw [if_neg e]; exact h6 p (by omega)
  · refine (addFull gb va _ vc ad m c w h1 (by omega)).mono ?_
    rintro e w' ⟨rfl, rfl⟩
    exact ⟨rfl, ⟨L, h⟩, hu, ⟨rfl, rfl, rfl⟩, Nat.le_refl _, fun _ _ _ => rfl⟩
/- the whole bag -/
theorem bagI_apart (W : World) (gb B : Nat) (L : BG.VL) (h : BagI W gb B L) :
    Calls Tryd.prog 9 #[.pointer (some ⟨gb, 0, none⟩)] W fun e w' => e = .returned (.bool true) ∧ Below B W w' := by
  obtain ⟨⟨v, h1, h2⟩, h3, h4, h5, h6, h7, h8⟩ := id h
  obtain ⟨va, vc, rfl⟩ := row_val h2
  have hblk : ∀ g, BG.Blks L g → ∃ cur, W.heap[g]? = some (.cells cur 3 (0, 0)) ∧ B ≤ g := by
    rintro g ⟨p, hp, hg⟩
    obtain ⟨xs, k1, -⟩ := h4 p hp
    obtain ⟨cur, hc⟩ := BG.own_ty k1 hg
    exact ⟨cur, hc, (k1.lt g hg).1⟩
  refine apartAll gb _ W (fun w' => Below B W w') h1 ?_
  refine (BG.apartI_ gb va L.length vc B L W ⟨⟨_, h1, rfl⟩, rfl, fun hn => ?_⟩ h3 h4 h5 (fun p hp => Nat.le_trans (h6 p hp) (by decide)) h8).mono ?_
  · rcases h2.2 with ⟨e, k⟩ | ⟨lb, cap', cur, e, -, hh, -, -, -, ht⟩
    · exact absurd k hn
    · cases e
      refine ⟨lb, cur, rfl, hh, fun p hp => ?_⟩
      have : (cur.toList.take (L.length * 1))[p]? = (L.map (·.1))[p]? := by rw [ht]
      rw [List.getElem?_take_of_lt (by omega)] at this
      rw [← Array.getElem?_toList, this]
      simp [List.getD, hp]
  · rintro e w' ⟨rfl, hx⟩
    refine ⟨rfl, ?_, hx.below _ (fun g hg => (hblk g hg).elim fun _ h => h.2) h8⟩
    refine hx.heap h1 fun hg => ?_
    obtain ⟨cur, hc, -⟩ := hblk gb hg
    have hB' : W.heap[gb]? = _ := h1
    rw [hc] at hB'
    cases hB'
end Go.Proofs.YthnpdlbcdaodkaaDoor
