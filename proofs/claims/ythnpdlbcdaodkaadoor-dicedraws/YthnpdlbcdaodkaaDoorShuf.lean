/-
  The order that comes of asking: what Shuffle does, whoever is asked, as long as who is asked leaves lists of ints alone.
-/
import Derived.Test.YthnpdlbcdaodkaaDoorDice
import Derived.OwnWalk
import Derived.Deep.QuietTactic
import Derived.BigQuiet
import Derived.BigRegion
import Derived.WalkSmall
namespace Go.Proofs.YthnpdlbcdaodkaaDoor
open Go.RowKit

def iv (x : Nat) : Value := .int .i64 (x : Int)
def RowI (W : World) (g : Nat) (l : List Nat) : Prop := W.heap[g]? = some (.cells (l.map iv).toArray 3 (0, 0))
theorem RowI.cell {W : World} {g : Nat} {l : List Nat} (h : RowI W g l) (j : Nat) (hj : j < l.length) : W.cell? ⟨g, j, none⟩ = some (.int .i64 ((l.getD j 0 : Nat) : Int)) := by
  simp [World.cell?, show W.heap[g]? = _ from h, hj, iv]
theorem RowI.frozen {W : World} {g : Nat} {l : List Nat} (h : RowI W g l) (j : Nat) : W.frozen? ⟨g, j, none⟩ = false := by
  simp [World.frozen?, show W.heap[g]? = _ from h]
theorem RowI.lt {W : World} {g : Nat} {l : List Nat} (h : RowI W g l) : g < W.heap.size := (Array.getElem?_eq_some_iff.1 h).1
theorem RowI.set {W : World} {g : Nat} {l : List Nat} (h : RowI W g l) (j x : Nat) : RowI (W.setCell ⟨g, j, none⟩ (.int .i64 (x : Int))) g (l.set j x) := by
  unfold RowI
  simp only [World.setCell, Array.getElem?_modify]
  rw [show W.heap[g]? = _ from h]
  simp [iv, List.map_set]
theorem RowI.up {w w' : World} {g : Nat} {l : List Nat} (h : RowI w g l) (u : Up w w') : RowI w' g l := u.heap h
theorem RowI.drew {w : World} {g : Nat} {l : List Nat} (h : RowI w g l) : RowI w.drew g l := h
/- lists of ints stay; all else stays -/
def KeepI (W W' : World) : Prop := ∀ (g : Nat) (cs : Array Value) (fz : Nat × Nat), W.heap[g]? = some (.cells cs 3 fz) → W'.heap[g]? = some (.cells cs 3 fz)
def KeepX (N : Nat) (W W' : World) : Prop := (W'.os = W.os ∧ W'.tape = W.tape ∧ W'.output = W.output) ∧ W.heap.size ≤ W'.heap.size ∧ ∀ (g : Nat) (o : Obj), W.heap[g]? = some o → (g < N ∨ ∀ (cs : Array Value) (fz : Nat × Nat), o ≠ .cells cs 3 fz) → W'.heap[g]? = some o
theorem KeepI.refl (W : World) : KeepI W W := fun _ _ _ h => h
theorem KeepI.trans {a b c : World} (h : KeepI a b) (k : KeepI b c) : KeepI a c := fun g cs fz e => k g cs fz (h g cs fz e)
theorem KeepI.up {a b : World} (h : Up a b) : KeepI a b := fun _ _ _ e => h.heap e
theorem KeepI.set {a w : World} (h : KeepI a w) {p : Addr} (hp : a.heap.size ≤ p.block) (u : Value) : KeepI a (w.setCell p u) := by
  intro g cs fz e
  have hg := (Array.getElem?_eq_some_iff.1 e).1
  rw [Below.heap_setCell _ _ _ _ (by omega)]
  exact h g cs fz e
theorem KeepI.setX {a w : World} (h : KeepI a w) {p : Addr} (u : Value) (hp : ∀ cs fz, w.heap[p.block]? ≠ some (.cells cs 3 fz)) : KeepI a (w.setCell p u) := by
  intro g cs fz e
  have h1 := h g cs fz e
  rw [Below.heap_setCell _ _ _ _ (fun he => by subst he; exact hp _ _ h1)]
  exact h1
theorem KeepI.row {W W' : World} {g : Nat} {l : List Nat} (k : KeepI W W') (h : RowI W g l) : RowI W' g l := k g _ _ h
theorem KeepX.up {N : Nat} {a b : World} (h : Up a b) : KeepX N a b := ⟨⟨h.os, h.tape, h.output⟩, h.size, fun _ _ e _ => h.heap e⟩
theorem KeepX.set {N : Nat} {W : World} {g : Nat} {l : List Nat} (h : RowI W g l) (hN : N ≤ g) (j : Nat) (u : Value) : KeepX N W (W.setCell ⟨g, j, none⟩ u) := by
  refine ⟨⟨rfl, rfl, rfl⟩, by simp, fun g' o e hne => ?_⟩
  by_cases eq : g' = g
  · subst eq
    rw [show W.heap[g']? = _ from h] at e
    cases e
    rcases hne with h1 | h1
    · omega
    · exact absurd rfl (h1 _ _)
  · rw [Below.heap_setCell _ _ _ _ eq]; exact e
theorem KeepX.trans {N : Nat} {a b c : World} (h : KeepX N a b) (k : KeepX N b c) : KeepX N a c :=
  ⟨⟨k.1.1.trans h.1.1, k.1.2.1.trans h.1.2.1, k.1.2.2.trans h.1.2.2⟩, Nat.le_trans h.2.1 k.2.1, fun g o e hne => k.2.2 g o (h.2.2 g o e hne) hne⟩
theorem KeepX.drew (N : Nat) (W : World) : KeepX N W W.drew := ⟨⟨rfl, rfl, rfl⟩, Nat.le_refl _, fun _ _ e _ => e⟩
theorem KeepI.drew {a w : World} (h : KeepI a w) : KeepI a w.drew := h
def swp (l : List Nat) (i j : Nat) : List Nat := (l.set i (l.getD j 0)).set j (l.getD i 0)
theorem swp_len (l : List Nat) (i j : Nat) : (swp l i j).length = l.length := by simp [swp]
def right (r : Int × Bool) (i : Nat) : Bool := r.2 && (decide (0 ≤ r.1) && decide (r.1 ≤ (i : Int)))
def shuf {S : Type} (f : S → Nat → Int × Bool) (nx : S → Nat → S) : Nat → S → List Nat → Option (List Nat) × S
  | 0, s, l => (some l, s)
  | i + 1, s, l => if right (f s (i + 1)) (i + 1) = true then shuf f nx i (nx s (i + 1)) (swp l (i + 1) (f s (i + 1)).1.toNat) else (none, nx s (i + 1))
/- who is asked: what it answers, what it leaves -/
def Asks (N k : Nat) (fst cap : Array Value) (B n : Nat) {S : Type} (Inv : S → World → Prop) (f : S → Nat → Int × Bool) (nx : S → Nat → S) (Ok : S → Nat → Prop) : Prop :=
  (∀ s i, Ok s (i + 2) → Ok (nx s (i + 2)) (i + 1)) ∧
  (∀ args w, (callFunc k args).run Tryd.prog w = .ok (.enter k args) w) ∧
  (∀ s W W', Inv s W → KeepX N W W' → Inv s W') ∧
  (∀ s W i, Inv s W → Ok s i → 1 ≤ i → i < n → Calls Tryd.prog k (fst.push (.int .i64 ((i : Int) + 1)) ++ cap) W fun e W' => e = .returned (.tuple #[.int .i64 (f s i).1, .bool (f s i).2]) ∧ Inv (nx s i) W' ∧ KeepI W W' ∧ Below B W W')
def ShufPost (w : World) (B : Nat) {S : Type} (Inv : S → World → Prop) (r : Option (List Nat) × S) (e : Ending) (w' : World) : Prop :=
  Inv r.2 w' ∧ KeepI w w' ∧ Below B w w' ∧
  match r.1 with
  | some l => ∃ g, w.heap.size ≤ g ∧ e = .returned (.tuple #[.slice (some ⟨g, 0, none⟩) l.length l.length, .bool true]) ∧ RowI w' g l
  | none => e = .returned (.tuple #[.slice none 0 0, .bool false])

theorem ShufPost.some {w : World} {B : Nat} {S : Type} {Inv : S → World → Prop} {l : List Nat} {s : S} {e : Ending} {w' : World} (h : ShufPost w B Inv (some l, s) e w') :
    Inv s w' ∧ KeepI w w' ∧ Below B w w' ∧ ∃ g, w.heap.size ≤ g ∧ e = .returned (.tuple #[.slice (some ⟨g, 0, none⟩) l.length l.length, .bool true]) ∧ RowI w' g l := h
theorem ShufPost.none {w : World} {B : Nat} {S : Type} {Inv : S → World → Prop} {s : S} {e : Ending} {w' : World} (h : ShufPost w B Inv (none, s) e w') :
    Inv s w' ∧ KeepI w w' ∧ Below B w w' ∧ e = .returned (.tuple #[.slice none 0 0, .bool false]) := h
def fillI (k n : Nat) : List Nat := (List.range n).map fun j => if j < k then j else 0
theorem fillI_len (k n : Nat) : (fillI k n).length = n := by simp [fillI]
theorem fillI_step (k n : Nat) : (fillI k n).set k k = fillI (k + 1) n := by
  unfold fillI
  apply List.ext_getElem
  · simp
  · intro i h1 h2
    simp only [List.getElem_set, List.getElem_map, List.getElem_range]
    by_cases e : k = i
    · subst e; simp
    · rw [if_neg e]
      by_cases hik : i < k
      · rw [if_pos hik, if_pos (show i < k + 1 by omega)]
      · rw [if_neg hik, if_neg (show ¬ i < k + 1 by omega)]
theorem fillI_all (n : Nat) : fillI n n = List.range n := by
  unfold fillI
  apply List.ext_getElem
  · simp
  · intro i h1 h2; simp at h1; simp [h1]
theorem toList_madeI (n : Nat) : (madeCells (Value.int .i64 0).cells (n * 1)).toList = (fillI 0 n).map iv := by
  rw [Nat.mul_one]
  unfold madeCells fillI
  apply List.ext_getElem
  · simp
  · intro i h1 h2; simp [iv, Value.cells, Nat.mod_one]
theorem rowI_made {w : World} {base g n : Nat} (h : w.ownsRow base 3 1 (.slice (some ⟨g, 0, none⟩) n n) n (madeCells (Value.int .i64 0).cells (n * 1)).toList) : RowI w g (fillI 0 n) := by
  rw [toList_madeI] at h
  rcases h.2 with ⟨e, _⟩ | ⟨g', cap, cur, e, _, hh, _, _, hs, ht⟩
  · cases e
  · cases e
    unfold RowI
    rw [hh, ← ht, Nat.mul_one, List.take_of_length_le (by simp; omega)]
theorem info3 : (Tryd.prog.info? 3).map (fun i => (i.zero, i.size, i.bytes)) = some (some (.int .i64 0), 1, 8) := by kernel_rfl

set_option maxRecDepth 100000 in
set_option maxHeartbeats 1000000 in
theorem shuffle {S : Type} (k : Nat) (fst cap : Array Value) (B n : Nat) (Inv : S → World → Prop) (f : S → Nat → Int × Bool) (nx : S → Nat → S) (Ok : S → Nat → Prop) (w : World) (hA : Asks w.heap.size k fst cap B n Inv f nx Ok) (s : S) (hI : Inv s w) (hOk : 2 ≤ n → Ok s (n - 1)) (hn : n ≤ 65536) (hB : B ≤ w.heap.size) :
    Calls Tryd.prog 12 #[.int .i64 n, .func (.func k) fst cap] w (ShufPost w B Inv (shuf f nx (n - 1) s (List.range n))) := by
  obtain ⟨i3, hi3, z0, z1, z2⟩ := info_parts info3
  obtain ⟨hok, hent, hkeep, hask⟩ := hA
  have HOK : Hid (2 ≤ n → Ok s (n - 1)) := hOk
  have HOKS : Hid (∀ s i, Ok s (i + 2) → Ok (nx s (i + 2)) (i + 1)) := hok
  clear hOk hok
  have HP : Hid (∀ r e w', ShufPost w B Inv (S := S) r e w' = ShufPost w B Inv r e w') := fun _ _ _ => rfl
  obtain ⟨R, hR⟩ : ∃ R, R = shuf f nx (n - 1) s (List.range n) := ⟨_, rfl⟩
  rw [← hR]
  have HR : Hid (R = shuf f nx (n - 1) s (List.range n)) := hR
  clear hR HP
  obtain ⟨Post, hPost⟩ : ∃ P : Ending → World → Prop, P = ShufPost w B Inv R := ⟨_, rfl⟩
  rw [← hPost]
  have HPost : Hid (Post = ShufPost w B Inv R) := hPost
  clear hPost
  have HI : Hid (Inv s w) := hI
  have HK : Hid (∀ s W W', Inv s W → KeepX w.heap.size W W' → Inv s W') := hkeep
  have HA : Hid (∀ s W i, Inv s W → Ok s i → 1 ≤ i → i < n → Calls Tryd.prog k (fst.push (.int .i64 ((i : Int) + 1)) ++ cap) W fun e W' => e = .returned (.tuple #[.int .i64 (f s i).1, .bool (f s i).2]) ∧ Inv (nx s i) W' ∧ KeepI W W' ∧ Below B W W') := hask
  clear hI hkeep hask
  go_enter Tryd.func12, Tryd.ntmps12
  go_wp2_with (at_make; refine wpList_make_full _ rfl _ _ 65 rfl w.heap.size 3 i3 (.int .i64 0) 1 Tryd.underlying65 hi3 z0 z1 .i64 .i64 _ _ n rfl rfl rfl rfl (by rw [z2]; omega) (by unfold maxLen; omega) (Nat.le_refl _) ?_; intro w1 hin hg1)
  have hup : Up w w1 := Below.grown (Up.refl _) hg1 (Nat.le_refl _) (fun k hk => by cases hk)
  have hrow := rowI_made hin
  have hx : Inv s w1 := HK.out s w w1 HI.out (KeepX.up hup)
  have hki := KeepI.up hup
  have hbl : Below B w w1 := Below.mono hup hB
  have hsz := hup.size
  have hlt := hrow.lt
  have HROW : Hid (RowI w1 w.heap.size (fillI 0 n) ∧ Inv s w1 ∧ KeepI w w1 ∧ Below B w w1) := ⟨hrow, hx, hki, hbl⟩
  clear hin hg1 hrow hx hki hbl hup hsz hlt
  go_loopw [21] (fun i wr => ∃ k : Nat, k ≤ n ∧ i = .int .i64 k ∧ RowI wr w.heap.size (fillI k n) ∧ Inv s wr ∧ KeepI w wr ∧ Below B w wr) (fun i _ => n - (intOf i).toNat)
  case atStart => exact ⟨0, Nat.zero_le _, rfl, HROW.out⟩
  case round =>
    obtain ⟨k, hk, rfl, hr, hx, hki, hbl⟩ := hrel
    clear HROW
    by_cases hlt : k < n
    · have hki' : (k : Int) < (n : Int) := by omega
      have c1 := hr.cell k (by rw [fillI_len]; exact hlt)
      have f1 := hr.frozen k
      have hr' := hr.set k k
      rw [fillI_step] at hr'
      have hx' := HK.out s wr _ hx (KeepX.set hr (Nat.le_refl _) k (.int .i64 (k : Int)))
      have hki2 := hki.set (p := ⟨w.heap.size, k, none⟩) (Nat.le_refl _) (.int .i64 (k : Int))
      have hbl2 := hbl.setCell (p := ⟨w.heap.size, k, none⟩) hB (.int .i64 (k : Int))
      have HN : Hid (RowI (wr.setCell ⟨w.heap.size, k, none⟩ (.int .i64 (k : Int))) w.heap.size (fillI (k + 1) n) ∧ Inv s (wr.setCell ⟨w.heap.size, k, none⟩ (.int .i64 (k : Int))) ∧ KeepI w (wr.setCell ⟨w.heap.size, k, none⟩ (.int .i64 (k : Int))) ∧ Below B w (wr.setCell ⟨w.heap.size, k, none⟩ (.int .i64 (k : Int)))) := ⟨hr', hx', hki2, hbl2⟩
      clear hr' hx' hki2 hbl2 hx hki hbl hr
      go_wp2
      go_roundw
      case rel => first | exact ⟨k + 1, by omega, by go_num, HN.out⟩ | ((repeat apply Exists.intro); exact ⟨⟨k + 1, by omega, by go_num, HN.out⟩, rfl⟩)
      case measure => simp [intOf]; omega
    · obtain rfl : k = n := by omega
      have HROW : Hid (RowI wr w.heap.size (List.range k) ∧ Inv s wr ∧ KeepI w wr ∧ Below B w wr) := ⟨by rw [← fillI_all]; exact hr, hx, hki, hbl⟩
      clear hr hx hki hbl
      go_wp2
      go_loopw [8] (fun i wr => ∃ (m : Nat) (s' : S) (l : List Nat), m ≤ k ∧ l.length = k ∧ i = .int .i64 ((m : Int) - 1) ∧ shuf f nx (m - 1) s' l = R ∧ (2 ≤ m → Ok s' (m - 1)) ∧ RowI wr w.heap.size l ∧ Inv s' wr ∧ KeepI w wr ∧ Below B w wr) (fun i _ => (intOf i).toNat)
      case atStart => exact ⟨k, s, List.range k, Nat.le_refl _, by simp, by go_num, HR.out.symm, HOK.out, HROW.out⟩
      case round =>
        obtain ⟨m, s', l, hm, hl, rfl, hsh, hok, hr, hx, hki, hbl⟩ := hrel
        have HO : Hid (2 ≤ m → Ok s' (m - 1)) := hok
        clear hok
        clear HROW
        have HS : Hid (shuf f nx (m - 1) s' l = R) := hsh
        have HX : Hid (Inv s' wr ∧ KeepI w wr ∧ Below B w wr) := ⟨hx, hki, hbl⟩
        clear hsh hx hki hbl
        by_cases h2 : m < 2
        · have h2' : (m : Int) - 1 < 1 := by omega
          have hz : m - 1 = 0 := by omega
          have hR : R = (some l, s') := by rw [← HS.out, hz]; rfl
          have HF : Hid (Post = ShufPost w B Inv (some l, s')) := by unfold Hid; rw [← hR]; exact HPost.out
          clear HS hR
          go_wp2
          rw [HF.out]
          refine ⟨HX.out.1, HX.out.2.1, HX.out.2.2, w.heap.size, Nat.le_refl _, ?_, hr⟩
          rw [hl]; rfl
        · obtain ⟨q, rfl⟩ : ∃ q, m = q + 2 := ⟨m - 2, by omega⟩
          have hq : ((q + 2 : Nat) : Int) - 1 = (q : Int) + 1 := by omega
          rw [hq]
          have hq1 : (1 : Int) ≤ (q : Int) + 1 := by omega
          have hc := HA.out s' wr (q + 1) HX.out.1 (HO.out (by omega)) (by omega) (by omega)
          rw [show (((q + 1 : Nat) : Int) + 1) = (q : Int) + 1 + 1 from rfl] at hc
          have HC : Hid (Calls Tryd.prog _ _ wr _) := hc
          clear hc
          have HO2 : Hid (2 ≤ q + 1 → Ok (nx s' (q + 1)) (q + 1 - 1)) := by
            intro h
            obtain ⟨p, rfl⟩ : ∃ p, q = p + 1 := ⟨q - 1, by omega⟩
            exact HOKS.out s' p (HO.out (by omega))
          clear HO
          have HS2 : Hid ((if right (f s' (q + 1)) (q + 1) = true then shuf f nx q (nx s' (q + 1)) (swp l (q + 1) (f s' (q + 1)).1.toNat) else (none, nx s' (q + 1))) = R) := HS.out
          have HX2 : Hid (KeepI w wr ∧ Below B w wr) := HX.out.2
          clear HS HX
          generalize f s' (q + 1) = r at *
          obtain ⟨j, ok⟩ := r
          generalize nx s' (q + 1) = s2 at *
          go_wp2_with fail
          refine HC.out.mono ?_
          clear HC
          rintro e w2 ⟨rfl, hI2, hK2, hB2⟩
          have hr2 := hK2.row hr
          have HX : Hid (Inv s2 w2 ∧ KeepI w w2 ∧ Below B w w2) := ⟨hI2, HX2.out.1.trans hK2, HX2.out.2.trans hB2⟩
          clear hI2 hK2 hB2 HX2 hr
          by_cases hbad : right (j, ok) (q + 1) = true
          · obtain ⟨rfl, h0, h1⟩ : ok = true ∧ 0 ≤ j ∧ j ≤ (q : Int) + 1 := by
              simp only [right, Bool.and_eq_true, decide_eq_true_eq] at hbad
              exact ⟨hbad.1, hbad.2.1, hbad.2.2⟩
            obtain ⟨p, rfl⟩ := Int.eq_ofNat_of_zero_le h0
            have HN : Hid (shuf f nx q s2 (swp l (q + 1) p) = R) := by have := HS2.out; rw [if_pos hbad] at this; exact this
            clear HS2 hbad
            have ci := hr2.cell (q + 1) (by omega)
            have cj := hr2.cell p (by omega)
            have fi := hr2.frozen (q + 1)
            have fj := hr2.frozen p
            have hs1 := hr2.set (q + 1) (l.getD p 0)
            have fj2 := hs1.frozen p
            have cj2 := hs1.cell p (by simp; omega)
            have hs2 := hs1.set p (l.getD (q + 1) 0)
            have hx1 := HK.out s2 w2 _ HX.out.1 ((KeepX.set hr2 (Nat.le_refl _) (q + 1) (.int .i64 ((l.getD p 0 : Nat) : Int))).trans (KeepX.set hs1 (Nat.le_refl _) p (.int .i64 ((l.getD (q + 1) 0 : Nat) : Int))))
            have hk1 := (HX.out.2.1.set (p := ⟨w.heap.size, q + 1, none⟩) (Nat.le_refl _) (.int .i64 ((l.getD p 0 : Nat) : Int))).set (p := ⟨w.heap.size, p, none⟩) (Nat.le_refl _) (.int .i64 ((l.getD (q + 1) 0 : Nat) : Int))
            have hb1 := (HX.out.2.2.setCell (p := ⟨w.heap.size, q + 1, none⟩) hB (.int .i64 ((l.getD p 0 : Nat) : Int))).setCell (p := ⟨w.heap.size, p, none⟩) hB (.int .i64 ((l.getD (q + 1) 0 : Nat) : Int))
            have HW : Hid (RowI _ w.heap.size (swp l (q + 1) p) ∧ Inv s2 _ ∧ KeepI w _ ∧ Below B w _) := ⟨hs2, hx1, hk1, hb1⟩
            clear hs1 hs2 hx1 hk1 hb1 HX
            have e1 : ((q : Int) + 1).toNat = q + 1 := by omega
            have e2 : (p : Int) < (k : Int) := by omega
            have e3 : (q : Int) + 1 < (k : Int) := by omega
            generalize l.getD p 0 = x at *
            generalize l.getD (q + 1) 0 = y at *
            go_wp2_with fail
            go_region
            go_wp2
            have hfin : _ ∧ _ ∧ _ ∧ _ := ⟨HW.out.1.drew, HK.out _ _ _ HW.out.2.1 (KeepX.drew _ _), HW.out.2.2.1.drew, HW.out.2.2.2.drew⟩
            go_roundw
            case rel => first | exact ⟨q + 1, s2, swp l (q + 1) p, by omega, by rw [swp_len]; exact hl, by go_num, HN.out, HO2.out, hfin⟩ | ((repeat apply Exists.intro); exact ⟨⟨q + 1, s2, swp l (q + 1) p, by omega, by rw [swp_len]; exact hl, by go_num, HN.out, HO2.out, hfin⟩, rfl⟩)
            case measure => simp [intOf]
          · have HF : Hid (Post = ShufPost w B Inv (none, s2)) := by
              unfold Hid
              have := HS2.out
              rw [if_neg hbad] at this
              rw [this]
              exact HPost.out
            have hbad2 : ok = false ∨ (ok = true ∧ (j < 0 ∨ (0 ≤ j ∧ (q : Int) + 1 < j))) := by
              simp only [right, Bool.and_eq_true, decide_eq_true_eq, not_and] at hbad
              cases ok
              · exact .inl rfl
              · right
                refine ⟨rfl, ?_⟩
                by_cases hj : j < 0
                · exact .inl hj
                · exact .inr ⟨by omega, by have := hbad rfl (by omega); omega⟩
            clear HS2 hbad
            rcases hbad2 with rfl | ⟨rfl, hj | ⟨hj, hj2⟩⟩
            · go_wp2
              rw [HF.out]
              exact ⟨HX.out.1, HX.out.2.1, HX.out.2.2, rfl⟩
            · go_wp2
              rw [HF.out]
              exact ⟨HX.out.1, HX.out.2.1, HX.out.2.2, rfl⟩
            · go_wp2
              rw [HF.out]
              exact ⟨HX.out.1, HX.out.2.1, HX.out.2.2, rfl⟩
set_option maxRecDepth 100000 in
theorem shuffleLow (n : Int) (u : Value) (w : World) (h : n < 0 ∨ 65536 < n) :
    Calls Tryd.prog 12 #[.int .i64 n, u] w fun e w' => e = .returned (.tuple #[.slice none 0 0, .bool false]) ∧ w' = w := by
  rcases h with h | h
  · go_enter Tryd.func12, Tryd.ntmps12
    go_wp2
    go_ret2
    exact ⟨rfl, rfl⟩
  · have h0 : ¬ n < 0 := by omega
    go_enter Tryd.func12, Tryd.ntmps12
    go_wp2
    go_ret2
    exact ⟨rfl, rfl⟩
end Go.Proofs.YthnpdlbcdaodkaaDoor
