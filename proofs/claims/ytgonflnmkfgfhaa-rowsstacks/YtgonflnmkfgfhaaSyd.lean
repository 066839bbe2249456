
/-
  Any call of a script at one of two stacks.
-/
import Derived.Test.YtgonflnmkfgfhaaSyc
namespace Go.Proofs.Ytgonflnmkfgfhaa
open Go.RowKit

namespace DS
open IN
/- where it lies -/
def Fo (B : Nat) (W : World) (N : Nat) (L : VL) (o : Option G) : Prop := ∀ g, o = some g → GOk W N g ∧ Away L g ∧ B ≤ g.sb ∧ B ≤ g.rb
theorem below_chg {B sb rb : Nat} {v : Value} {w w' : World} (c : Chg sb rb v w w') (h1 : B ≤ sb) (h2 : B ≤ rb) (h3 : ∀ g, v.ownBlock = some g → B ≤ g) (hs : B ≤ w.heap.size) : Below B w w' :=
  ⟨c.1.1, c.1.2.1, c.1.2.2, c.2.1, fun b hb => c.2.2 b (by omega) (by omega) (by omega) (fun e => by have := h3 b e; omega)⟩
theorem below_two {B hb : Nat} {v : Value} {w w' : World} (c : LIS.Two hb v w w') (h1 : B ≤ hb) (h3 : ∀ g, v.ownBlock = some g → B ≤ g) (hs : B ≤ w.heap.size) : Below B w w' :=
  ⟨c.1.1, c.1.2.1, c.1.2.2, c.2.1, fun b hb => c.2.2 b (by omega) (by omega) (fun e => by have := h3 b e; omega)⟩
/- all other blocks stand -/
def Ko (w w' : World) : Prop := ∀ (b : Nat) (cur : Array Value) (t : TypeId), w.heap[b]? = some (.cells cur t (0, 0)) → t ≠ 3 → t ≠ 37 → t ≠ 30 → t ≠ 42 → t ≠ 40 → w'.heap[b]? = some (.cells cur t (0, 0))
theorem Ko.up {w w' : World} (u : Up w w') : Ko w w' := fun _ _ _ h _ _ _ _ _ => u.heap h
theorem Ko.kp {w w' : World} (u : Kp w w') : Ko w w' := fun _ _ _ h _ h1 h2 _ _ => u.2 _ _ _ h h1 h2
theorem Ko.chg {w w' : World} {N : Nat} {g : G} (h : GOk w N g) (c : Chg g.sb g.rb g.v w w') : Ko w w' := fun b cur t hx h1 _ _ h4 h5 => by
  refine chg_obj h c hx h1 (fun e => ?_) (fun e => ?_)
  · subst e
    have := h.1.1.1
    rw [LIS.Hd, hx] at this
    simp only [Option.some.injEq, Obj.cells.injEq] at this
    exact h4 this.2.1
  · subst e
    have := h.1.2.1
    rw [hx] at this
    simp only [Option.some.injEq, Obj.cells.injEq] at this
    exact h5 this.2.1
def Step (B : Nat) (w : World) (hb base N : Nat) (L : VL) (o : Option G) (w' : World) : Prop :=
  ∃ o' L' ha' hcap', Held w' hb base (N + 1) ha' hcap' L' ∧ L'.length ≤ L.length + 1 ∧ Fo B w' (N + 1) L' o' ∧ ps o' = ps o ∧ pr o' = pr o ∧ (Below B w w' ∧ Ko w w') ∧
    ∀ f, Fo B w N L f → Bes o f → Bes f o → Fo B w' (N + 1) L' f ∧ Bes o' f ∧ Bes f o'
theorem does_step (B : Nat) (o : Option G) (k on n : Int) (w : World) (hb base N hcap : Nat) (ha : Option Addr) (L : VL) (h : Held w hb base N ha hcap L) (hL : L.length ≤ N) (hN : N ≤ 50000) (ho : Fo B w N L o) (hB : B ≤ hb) :
    Calls Try.prog 8 #[ps o, pr o, op k on n, .pointer (some ⟨hb, 0, none⟩)] w fun e w' => e = .returned (.bool true) ∧ Step B w hb base N L o w' := by
  have hBw : B ≤ w.heap.size := Nat.le_trans hB (Nat.le_of_lt (Array.getElem?_eq_some_iff.1 h.1).1)
  have hrl : ∀ g, (Value.slice ha L.length hcap).ownBlock = some g → B ≤ g := fun g e => by
    have := (h.2.1.lt g e).1
    have := h.2.2.1
    omega
  cases o with
  | none =>
    by_cases hk : k = 3
    · subst hk
      refine (does_done_nil hb base L.length hcap ha _ on n w h.1 h.2.1 h.2.2.1 h.2.2.2.1 (by omega)).mono ?_
      rintro e w' ⟨he, ha', hcap', p1, p2, p3⟩
      have kp := kp_two h.1 h.2.1 p3
      refine ⟨he, none, L ++ [(.slice none 0 0, 0)], ha', hcap', (held_add h kp (.inl ⟨rfl, rfl⟩) (Nat.zero_le _) p1 p2).more (by omega), by simp, (fun g e => by cases e), rfl, rfl, ⟨below_two p3 hB hrl hBw, Ko.kp kp⟩, fun f hf b1 b2 => ⟨fun g e => ?_, b1, b2⟩⟩
      obtain ⟨q1, q2, q3⟩ := hf g e
      exact ⟨(kp.g q1).more (by omega), away_add q2 q1 (fun k e => by cases e), q3⟩
    · refine (nil_step _ k on n w hk).mono ?_
      rintro e w' ⟨he, u⟩
      refine ⟨he, none, L, ha, hcap, (held_up h u).more (by omega), by omega, (fun g e => by cases e), rfl, rfl, ⟨Below.mono u hBw, Ko.up u⟩, fun f hf b1 b2 => ⟨fun g e => ?_, b1, b2⟩⟩
      obtain ⟨q1, q2, q3⟩ := hf g e
      exact ⟨(gok_up q1 u).more (by omega), q2, q3⟩
  | some g =>
    obtain ⟨hg, haw, hs1, hs2⟩ := ho g rfl
    have hvB : ∀ k, g.v.ownBlock = some k → B ≤ k := fun k e => by
      have := (hg.1.1.2.1.lt k e).1
      have := hg.1.1.2.2.1
      omega
    by_cases hk : k = 3
    · subst hk
      have hall := hg.2.2.2
      have hd := hg.1.1.2.2.2
      refine (does_done g.sb g.b1 g.rb g.b2 g.v g.vd g.vu g.all g.d g.most _ hb base L.length hcap ha _ on n w hg.1.1 hg.1.2 (by omega) h.1 h.2.1 h.2.2.1 h.2.2.2.1 (by omega)).mono ?_
      rintro e w' ⟨he, gb, ha', hcap', p0, pg, p1, p2, p3⟩
      have kp := kp_two h.1 h.2.1 p3
      have hx : ∀ k, (Value.slice (some ⟨gb, 0, none⟩) g.d g.d).ownBlock = some k → w.heap.size ≤ k := fun k e => by
        have e' : gb = k := by simpa [Value.ownBlock] using e
        omega
      refine ⟨he, some g, L ++ [(.slice (some ⟨gb, 0, none⟩) g.d g.d, g.d)], ha', hcap', (held_add h kp (.inr ⟨gb, iv (g.all.take g.d), p0, rfl, pg, ?_⟩) (by omega) p1 p2).more (by omega), by simp, fun f e => ?_, rfl, rfl, ⟨below_two p3 hB hrl hBw, Ko.kp kp⟩, fun f hf b1 b2 => ⟨fun f' e => ?_, b1, b2⟩⟩
      · rw [iv_len, List.length_take]; omega
      · cases e
        exact ⟨(kp.g hg).more (by omega), away_add haw hg hx, hs1, hs2⟩
      · obtain ⟨q1, q2, q3⟩ := hf f' e
        exact ⟨(kp.g q1).more (by omega), away_add q2 q1 hx, q3⟩
    · refine (g_step g N _ k on n w hg hN hk).mono ?_
      rintro e w' ⟨he, g', l, hg', c⟩
      refine ⟨he, some g', L, ha, hcap, (held_chg h hg haw c).more (by omega), by omega, fun f e => ?_, ?_, ?_, ⟨below_chg c hs1 hs2 hvB hBw, Ko.chg hg c⟩, fun f hf b1 b2 => ⟨fun f' e => ?_, fun x y ex ey => ?_, fun x y ex ey => ?_⟩⟩
      · cases e
        exact ⟨hg', away_later h haw l, by rw [l.1.1]; exact hs1, by rw [l.1.2.1]; exact hs2⟩
      · simp [ps, l.1.1]
      · simp [pr, l.1.2.1]
      · obtain ⟨q1, q2, q3⟩ := hf f' e
        exact ⟨(other_keep hg q1 (b1 g f' rfl e) c).more (by omega), q2, q3⟩
      · cases ex
        exact beside_l (hf y ey).1 (b1 g y rfl ey) l
      · cases ey
        exact beside_r (hf x ex).1 (b2 x g ex rfl) l
/- what stands in memory behind so many calls of the script -/
def JJ (w : World) (hb sa ra : Nat) (a0 a1 c0 c1 : Option Addr) (N : Nat) (W : World) : Prop :=
  ∃ o0 o1 L ha hcap, (Held W hb (hb + 1) N ha hcap L ∧ L.length ≤ N) ∧ (Fo w.heap.size W N L o0 ∧ Fo w.heap.size W N L o1 ∧ Bes o0 o1 ∧ Bes o1 o0) ∧ (ps o0 = .pointer a0 ∧ pr o0 = .pointer c0 ∧ ps o1 = .pointer a1 ∧ pr o1 = .pointer c1) ∧
    (W.heap[sa]? = some (.cells #[.pointer a0, .pointer a1] 26 (0, 0)) ∧ W.heap[ra]? = some (.cells #[.pointer c0, .pointer c1] 29 (0, 0))) ∧ Up w W
theorem JJ.zero {w W : World} {hb sa ra : Nat} {a0 a1 c0 c1 : Option Addr} {N : Nat} (hB : w.heap.size ≤ hb) (hN : N ≤ 50000) (k on n : Int) (h : JJ w hb sa ra a0 a1 c0 c1 N W) :
    Calls Try.prog 8 #[.pointer a0, .pointer c0, op k on n, .pointer (some ⟨hb, 0, none⟩)] W fun e w' => e = .returned (.bool true) ∧ JJ w hb sa ra a0 a1 c0 c1 (N + 1) w' := by
  obtain ⟨o0, o1, L, ha, hcap, ⟨h1, h2⟩, ⟨f0, f1, b0, b1⟩, ⟨p0, p1, p2, p3⟩, ⟨q0, q1⟩, u⟩ := h
  rw [← p0, ← p1]
  refine (does_step w.heap.size o0 k on n W hb (hb + 1) N hcap ha L h1 h2 hN f0 hB).mono ?_
  rintro e w' ⟨he, o', L', ha', hcap', s1, s2, s3, s4, s5, ⟨s6, s7⟩, s8⟩
  obtain ⟨t1, t2, t3⟩ := s8 o1 f1 b0 b1
  exact ⟨he, o', o1, L', ha', hcap', ⟨s1, by omega⟩, ⟨s3, t1, t2, t3⟩, ⟨s4.trans p0, s5.trans p1, p2, p3⟩, ⟨s7 _ _ _ q0 (by decide) (by decide) (by decide) (by decide) (by decide), s7 _ _ _ q1 (by decide) (by decide) (by decide) (by decide) (by decide)⟩, Below.trans u s6⟩
theorem JJ.one {w W : World} {hb sa ra : Nat} {a0 a1 c0 c1 : Option Addr} {N : Nat} (hB : w.heap.size ≤ hb) (hN : N ≤ 50000) (k on n : Int) (h : JJ w hb sa ra a0 a1 c0 c1 N W) :
    Calls Try.prog 8 #[.pointer a1, .pointer c1, op k on n, .pointer (some ⟨hb, 0, none⟩)] W fun e w' => e = .returned (.bool true) ∧ JJ w hb sa ra a0 a1 c0 c1 (N + 1) w' := by
  obtain ⟨o0, o1, L, ha, hcap, ⟨h1, h2⟩, ⟨f0, f1, b0, b1⟩, ⟨p0, p1, p2, p3⟩, ⟨q0, q1⟩, u⟩ := h
  rw [← p2, ← p3]
  refine (does_step w.heap.size o1 k on n W hb (hb + 1) N hcap ha L h1 h2 hN f1 hB).mono ?_
  rintro e w' ⟨he, o', L', ha', hcap', s1, s2, s3, s4, s5, ⟨s6, s7⟩, s8⟩
  obtain ⟨t1, t2, t3⟩ := s8 o0 f0 b1 b0
  exact ⟨he, o0, o', L', ha', hcap', ⟨s1, by omega⟩, ⟨t1, s3, t3, t2⟩, ⟨p0, p1, s4.trans p2, s5.trans p3⟩, ⟨s7 _ _ _ q0 (by decide) (by decide) (by decide) (by decide) (by decide), s7 _ _ _ q1 (by decide) (by decide) (by decide) (by decide) (by decide)⟩, Below.trans u s6⟩
theorem JJ.cells {w W : World} {hb sa ra : Nat} {a0 a1 c0 c1 : Option Addr} {N : Nat} (h : JJ w hb sa ra a0 a1 c0 c1 N W) : (W.cell? ⟨sa, 0, none⟩ = some (.pointer a0) ∧ W.cell? ⟨sa, 1, none⟩ = some (.pointer a1)) ∧ W.cell? ⟨ra, 0, none⟩ = some (.pointer c0) ∧ W.cell? ⟨ra, 1, none⟩ = some (.pointer c1) := by
  obtain ⟨o0, o1, L, ha, hcap, -, -, -, ⟨q0, q1⟩, -⟩ := h
  simp [World.cell?, q0, q1]
theorem JJ.up {w W W' : World} {hb sa ra : Nat} {a0 a1 c0 c1 : Option Addr} {N : Nat} (h : JJ w hb sa ra a0 a1 c0 c1 N W) (u : Up W W') : JJ w hb sa ra a0 a1 c0 c1 N W' := by
  obtain ⟨o0, o1, L, ha, hcap, ⟨h1, h2⟩, ⟨f0, f1, b0, b1⟩, p, ⟨q0, q1⟩, v⟩ := h
  have key : ∀ o, Fo w.heap.size W N L o → Fo w.heap.size W' N L o := fun o f g e => ⟨gok_up (f g e).1 u, (f g e).2⟩
  exact ⟨o0, o1, L, ha, hcap, ⟨held_up h1 u, h2⟩, ⟨key _ f0, key _ f1, b0, b1⟩, p, ⟨u.heap q0, u.heap q1⟩, v.trans u⟩
/- what stands behind apart -/
def FF (w : World) (sa ra : Nat) (a0 a1 c0 c1 : Option Addr) (N : Nat) (W : World) : Prop :=
  ∃ o0 o1, ((∀ g, o0 = some g → GOk W N g) ∧ ∀ g, o1 = some g → GOk W N g) ∧ (ps o0 = .pointer a0 ∧ pr o0 = .pointer c0 ∧ ps o1 = .pointer a1 ∧ pr o1 = .pointer c1) ∧
    (W.heap[sa]? = some (.cells #[.pointer a0, .pointer a1] 26 (0, 0)) ∧ W.heap[ra]? = some (.cells #[.pointer c0, .pointer c1] 29 (0, 0))) ∧ Up w W
theorem FF.up {w W W' : World} {sa ra : Nat} {a0 a1 c0 c1 : Option Addr} {N : Nat} (h : FF w sa ra a0 a1 c0 c1 N W) (u : Up W W') : FF w sa ra a0 a1 c0 c1 N W' := by
  obtain ⟨o0, o1, ⟨f0, f1⟩, p, ⟨q0, q1⟩, v⟩ := h
  exact ⟨o0, o1, ⟨fun g e => gok_up (f0 g e) u, fun g e => gok_up (f1 g e) u⟩, p, ⟨u.heap q0, u.heap q1⟩, v.trans u⟩
theorem JJ.fin {w W : World} {hb sa ra : Nat} {a0 a1 c0 c1 : Option Addr} {N : Nat} (h : JJ w hb sa ra a0 a1 c0 c1 N W) (hB : w.heap.size ≤ hb) (hN : N ≤ 50000) :
    ∃ ha m hcap, (m ≤ N ∧ m ≤ hcap ∧ hcap ≤ maxLen ∧ (m ≠ 0 → ∃ g, ha = some ⟨g, 0, none⟩)) ∧ (W.cell? ⟨hb, 0, none⟩ = some (.slice ha m hcap) ∧ W.frozen? ⟨hb, 0, none⟩ = false) ∧
      ∀ k W', k ≤ m → k ≤ 40 → (W' = W ∨ W' = W.setCell ⟨hb, 0, none⟩ (.slice ha k hcap)) → Calls Try.prog 9 #[.slice ha k hcap] W' fun e w' => e = .returned (.bool true) ∧ FF w sa ra a0 a1 c0 c1 N w' := by
  obtain ⟨o0, o1, L, ha, hcap, ⟨h1, h2⟩, ⟨f0, f1, b0, b1⟩, p, ⟨q0, q1⟩, u⟩ := h
  refine ⟨ha, L.length, hcap, ⟨h2, ?_⟩, ⟨by simp [World.cell?, h1.1], by simp [World.frozen?, h1.1]⟩, fun k W' hk hk4 hW' => ?_⟩
  · rcases h1.2.1.2 with ⟨e0, e1⟩ | ⟨g, cap, cur, e0, -, -, e4, e5, -⟩
    · simp only [Value.slice.injEq] at e0
      obtain ⟨-, e2, e3⟩ := e0
      exact ⟨by omega, by rw [e3]; exact Nat.zero_le _, fun h => absurd e1 h⟩
    · simp only [Value.slice.injEq] at e0
      obtain ⟨e1, -, rfl⟩ := e0
      exact ⟨e4, e5, fun _ => ⟨g, e1⟩⟩
  · have hkp : Kp W W' ∧ Below w.heap.size W W' ∧ W'.ownsRow (hb + 1) 37 1 (.slice ha L.length hcap) L.length (L.map (·.1)) := by
      rcases hW' with rfl | rfl
      · exact ⟨⟨Nat.le_refl _, fun _ _ _ h _ _ => h⟩, Below.refl _ _, h1.2.1⟩
      · refine ⟨⟨by simp [World.setCell], fun b cur t h e1 e2 => ?_⟩, (Below.refl _ _).setCell hB _, RS.row_setB h1.2.1 (Nat.lt_succ_self _)⟩
        rw [Below.heap_setCell _ _ _ _ (fun e => ?_)]
        · exact h
        · have e' : b = hb := e
          subst e'
          rw [h1.1] at h
          simp only [Option.some.injEq, Obj.cells.injEq] at h
          exact e2 h.2.1.symm
    obtain ⟨kp, bel, row⟩ := hkp
    have hparts : ∀ p, p < L.length → AE.Part W' (L.getD p AE.dv).1 (L.getD p AE.dv).2 p 0 := fun p hp => (h1.2.2.2.2.1 p hp).1.keep fun b cs _ hk => kp.2 _ _ _ hk (by decide) (by decide)
    refine (apart_end row rfl (fun p hp => ⟨hparts p hp, (h1.2.2.2.2.1 p hp).2.1⟩) h1.2.2.2.2.2 hk (by omega) hN).mono ?_
    rintro e w' ⟨he, x⟩
    have hBW : w.heap.size ≤ W'.heap.size := Nat.le_trans u.size kp.1
    refine ⟨he, o0, o1, ⟨fun g e => exc_g hparts x (kp.g (f0 g e).1) (f0 g e).2.1, fun g e => exc_g hparts x (kp.g (f1 g e).1) (f1 g e).2.1⟩, p, ⟨exc_obj hparts x (kp.2 _ _ _ q0 (by decide) (by decide)) (by decide), exc_obj hparts x (kp.2 _ _ _ q1 (by decide) (by decide)) (by decide)⟩, Below.trans u (Below.trans bel (exc_below x (fun p q hp e => ?_) hBW))⟩
    have := (h1.2.2.2.2.1 p hp).2.2 q e
    omega
theorem FF.cells {w W : World} {sa ra : Nat} {a0 a1 c0 c1 : Option Addr} {N : Nat} (h : FF w sa ra a0 a1 c0 c1 N W) : (W.cell? ⟨sa, 0, none⟩ = some (.pointer a0) ∧ W.cell? ⟨sa, 1, none⟩ = some (.pointer a1)) ∧ W.cell? ⟨ra, 0, none⟩ = some (.pointer c0) ∧ W.cell? ⟨ra, 1, none⟩ = some (.pointer c1) := by
  obtain ⟨o0, o1, -, -, ⟨q0, q1⟩, -⟩ := h
  simp [World.cell?, q0, q1]
/- the start -/
def gs (sb rb : Nat) (most : Int) : G := ⟨sb, sb + 1, rb, rb + 1, .slice none 0 0, .slice none 0 0, .slice none 0 0, [], 0, most⟩
theorem gs_ok {W : World} {sb rb : Nat} {most : Int} (h1 : LIS.StackAt W sb (sb + 1) (.slice none 0 0) [] 0 most) (h2 : RS.RSt W rb (rb + 1) (.slice none 0 0) (.slice none 0 0) most [] []) : GOk W 0 (gs sb rb most) :=
  ⟨⟨h1, h2⟩, fun g e => (by cases e), (Array.getElem?_eq_some_iff.1 h1.1).1, Nat.le_refl _⟩
end DS
end Go.Proofs.Ytgonflnmkfgfhaa
