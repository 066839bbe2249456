
/-
  An entry of a heap of ints rises and sinks, as in the list that it is.
-/
import Derived.Test.YtgonflnmkfgfhaaHeapI
namespace Go.Proofs.Ytgonflnmkfgfhaa
open Go.RowKit
attribute [local go_sem ↓] Go.wp_at_zero Go.wp_at_succ

namespace HI
def de : X × Nat := (dx, 0)
def flE (es : List (X × Nat)) : List Value := es.flatMap fl
theorem fl_len (e : X × Nat) : (fl e).length = 2 := rfl
theorem flE_len (es : List (X × Nat)) : (flE es).length = es.length * 2 := flat_len fl 2 fl_len es
def HeapAt (W : World) (hb k base : Nat) (v : Value) (es : List (X × Nat)) (t : Nat) : Prop :=
  Hd W hb k v t ∧ W.ownsRow base 82 2 v es.length (flE es) ∧ hb < base
theorem HeapAt.up {W W' : World} {hb k base : Nat} {v : Value} {es : List (X × Nat)} {t : Nat} (h : HeapAt W hb k base v es t) (u : Up W W') : HeapAt W' hb k base v es t := ⟨u.heap h.1, row_up h.2.1 u, h.2.2⟩
theorem HeapAt.slice {W : World} {hb k base : Nat} {v : Value} {es : List (X × Nat)} {t : Nat} (h : HeapAt W hb k base v es t) (hn : 0 < es.length) : ∃ g cap, base ≤ g ∧ es.length ≤ cap ∧ v = .slice (some ⟨g, 0, none⟩) es.length cap := row_some h.2.1 hn
theorem HeapAt.cells {W : World} {hb k base g cap : Nat} {es : List (X × Nat)} {t n : Nat} (h : HeapAt W hb k base (.slice (some ⟨g, 0, none⟩) n cap) es t) (hn : es.length = n) (i : Nat) (hi : i < n) (x : X × Nat) (hx : x = es.getD i de) : W.cell? ⟨g, i * 2, none⟩ = some (.int .i64 x.1) ∧ W.cell? ⟨g, i * 2 + 1, none⟩ = some (.int .i64 x.2) := by
  subst hx hn
  have hlt : ∀ j, j < 2 → i * 2 + j < es.length * 2 := fun j hj => by omega
  have hg : ∀ j, j < 2 → W.cell? ⟨g, i * 2 + j, none⟩ = (fl (es.getD i de))[j]? := fun j hj => by
    rw [h.2.1.cellAt _ (hlt j hj)]; exact flat_get fl 2 fl_len de es i j hi hj
  exact ⟨hg 0 (by decide), hg 1 (by decide)⟩
set_option maxHeartbeats 4000000 in
theorem below_ (hb k base : Nat) (v : Value) (es : List (X × Nat)) (t at_ : Nat) (w : World) (h : HeapAt w hb k base v es t) (hk : Less k) (ha : 2 * at_ + 1 < es.length) (hm : es.length ≤ 1000000) :
    Calls Try.prog 40 #[.pointer (some ⟨hb, 0, none⟩), .int .i64 at_] w fun e w' => e = .returned (.int .i64 (below de (ahd rk) es at_ : Nat)) ∧ Up w w' := by
  obtain ⟨g, cap, hg, hcap, rfl⟩ := h.slice (by omega)
  obtain ⟨R, hR⟩ : ∃ R, R = below de (ahd rk) es at_ := ⟨_, rfl⟩
  rw [← hR]
  obtain ⟨c0, c1, c2, c3, ff⟩ := four_cells h.1
  have p1 : (0 : Int) ≤ 2 * (at_ : Int) + 1 := by omega
  have p2 : (0 : Int) ≤ 2 * (at_ : Int) + 2 := by omega
  have e1 : (2 * (at_ : Int) + 1).toNat = 2 * at_ + 1 := by omega
  have e2 : (2 * (at_ : Int) + 2).toNat = 2 * at_ + 2 := by omega
  by_cases h2 : 2 * at_ + 2 < es.length
  · obtain ⟨x, hx⟩ : ∃ x, x = es.getD (2 * at_ + 2) de := ⟨_, rfl⟩
    obtain ⟨y, hy⟩ : ∃ y, y = es.getD (2 * at_ + 1) de := ⟨_, rfl⟩
    have cx := h.cells rfl _ h2 x hx
    have cy := h.cells rfl _ ha y hy
    have h2' : 2 * (at_ : Int) + 2 < (es.length : Int) := by omega
    have h1' : 2 * (at_ : Int) + 1 < (es.length : Int) := by omega
    have HR : Hid (R = if ahd rk x y = true then 2 * at_ + 2 else 2 * at_ + 1) := by
      unfold Hid; rw [hR, below, hx, hy]; simp [h2]
    have HH : Hid _ := h
    clear h hR hx hy c0 c2 c3 ff
    generalize es.length = n at *
    go_enter Try.func40, Try.ntmps40
    go_wp2_with fail
    have ur := Up.refl w
    go_region_held3 (fun v => (v.cell? ⟨hb, 1, none⟩ = some (.slice (some ⟨g, 0, none⟩) n cap)) ∧ (v.cell? ⟨g, (2 * at_ + 2) * 2, none⟩ = some (.int .i64 x.1) ∧ v.cell? ⟨g, (2 * at_ + 2) * 2 + 1, none⟩ = some (.int .i64 x.2)) ∧ (v.cell? ⟨g, (2 * at_ + 1) * 2, none⟩ = some (.int .i64 y.1) ∧ v.cell? ⟨g, (2 * at_ + 1) * 2 + 1, none⟩ = some (.int .i64 y.2)) ∧ Up w v)
      (first | assumption | exact ⟨c1, cx, cy, ur.drew⟩ | (obtain ⟨z0, z1, z2, z3⟩ := ‹_ ∧ _›; exact ⟨u2.cell z0, ⟨u2.cell z1.1, u2.cell z1.2⟩, ⟨u2.cell z2.1, u2.cell z2.2⟩, z3.trans u2⟩))
      (first | (go_at_call 39; refine (ahead hb k _ t x y _ (ur.drew.heap HH.out.1) hk).mono ?_; rintro e w2 ⟨rfl, u2⟩))
    rename_i hZ
    have HU : Hid (Up w w2) := hZ.2.2.2
    clear hZ u2 c1 cx cy
    generalize ahd rk x y = r at *
    cases r
    · go_wp2
      go_ret
      exact ⟨ret_int (by rw [HR.out]; simp), HU.out⟩
    · go_wp2
      go_ret
      exact ⟨ret_int (by rw [HR.out]; simp), HU.out⟩
  · have HR : Hid (R = 2 * at_ + 1) := by
      unfold Hid; rw [hR, below]; simp [h2]
    have hd : decide (2 * (at_ : Int) + 2 < (es.length : Int)) = false := decide_eq_false (by omega)
    clear h hR c0 c2 c3 ff
    generalize es.length = n at *
    go_enter Try.func40, Try.ntmps40
    go_wp2_with fail
    go_quiet (fail)
    go_wp2
    go_ret
    exact ⟨ret_int (by rw [HR.out]; simp), (Up.refl _).drewN _⟩
theorem HeapAt.ice {W : World} {hb k base g cap : Nat} {es : List (X × Nat)} {t n : Nat} (h : HeapAt W hb k base (.slice (some ⟨g, 0, none⟩) n cap) es t) (hn : es.length = n) (j : Nat) : W.frozen? ⟨g, j, none⟩ = false := by
  subst hn; exact h.2.1.frozenAt j
/- two entries exchanged -/
def put1 (W : World) (g i : Nat) (y : X × Nat) : World := (W.setCell ⟨g, i * 2, none⟩ (.int .i64 y.1)).setCell ⟨g, i * 2 + 1, none⟩ (.int .i64 y.2)
theorem HeapAt.put1 {W : World} {hb k base g cap : Nat} {es : List (X × Nat)} {t n : Nat} (h : HeapAt W hb k base (.slice (some ⟨g, 0, none⟩) n cap) es t) (hn : es.length = n) (hg : base ≤ g) (i : Nat) (hi : i < n) (y : X × Nat) :
    HeapAt (put1 W g i y) hb k base (.slice (some ⟨g, 0, none⟩) n cap) (es.set i y) t := by
  subst hn
  have hne : hb ≠ g := by have := h.2.2; omega
  refine ⟨?_, ?_, h.2.2⟩
  · unfold Hd HI.put1
    rw [Below.heap_setCell _ _ _ _ hne, Below.heap_setCell _ _ _ _ hne]
    exact h.1
  · rw [List.length_set]
    have e : flE (es.set i y) = _ := flat_set2 fl fl_len es y i hi
    rw [e]
    exact ((h.2.1.stored (i * 2) _).1.stored (i * 2 + 1) _).1
theorem only_put1 {w W : World} {g : Nat} (h : Only g w W) (i : Nat) (y : X × Nat) : Only g w (put1 W g i y) := by
  unfold HI.put1
  exact (h.set _ _).set _ _
theorem HeapAt.xch {W : World} {hb k base g cap : Nat} {es : List (X × Nat)} {t n : Nat} (h : HeapAt W hb k base (.slice (some ⟨g, 0, none⟩) n cap) es t) (hn : es.length = n) (hg : base ≤ g) (i j : Nat) (hi : i < n) (hj : j < n) (x y : X × Nat) (hx : x = es.getD i de) (hy : y = es.getD j de) :
    HeapAt (HI.put1 (HI.put1 W g i y) g j x) hb k base (.slice (some ⟨g, 0, none⟩) n cap) (xch de es i j) t := by
  subst hx hy
  exact (h.put1 hn hg i hi _).put1 (by rw [List.length_set]; exact hn) hg j hj _
set_option maxHeartbeats 8000000 in
theorem rise_ (hb k base g cap : Nat) (es : List (X × Nat)) (t at_ : Nat) (w : World) (h : HeapAt w hb k base (.slice (some ⟨g, 0, none⟩) es.length cap) es t) (hk : Less k) (ha : at_ < es.length) (hm : es.length ≤ 1000000) (hg : base ≤ g) :
    Calls Try.prog 35 #[.pointer (some ⟨hb, 0, none⟩), .int .i64 at_] w fun e w' => e = .returned (.tuple #[]) ∧ HeapAt w' hb k base (.slice (some ⟨g, 0, none⟩) es.length cap) (rise de (ahd rk) at_ es at_) t ∧ Only g w w' := by
  obtain ⟨R, hR⟩ : ∃ R, R = rise de (ahd rk) at_ es at_ := ⟨_, rfl⟩
  rw [← hR]
  have HR : Hid (R = rise de (ahd rk) at_ es at_) := hR
  have HH_ : Hid (HeapAt w hb k base (.slice (some ⟨g, 0, none⟩) es.length cap) es t) := h
  have hne : hb ≠ g := by have := h.2.2; omega
  obtain ⟨n, hn⟩ : ∃ n, n = es.length := ⟨_, rfl⟩
  have HN : Hid (es.length = n) := hn.symm
  rw [← hn] at ha hm ⊢
  clear h hR hn
  go_enter Try.func35, Try.ntmps35
  go_wp2_with fail
  go_loopw [1] (fun i wr => ∃ (m f : Nat) (cur : List (X × Nat)), m < n ∧ m ≤ f ∧ i = .int .i64 m ∧ cur.length = n ∧ rise de (ahd rk) f cur m = R ∧ HeapAt wr hb k base (.slice (some ⟨g, 0, none⟩) n cap) cur t ∧ Only g w wr) (fun i _ => (intOf i).toNat)
  case atStart => exact ⟨at_, at_, es, ha, Nat.le_refl _, rfl, HN.out, HR.out.symm, by rw [← HN.out]; exact HH_.out, Only.refl _ _⟩
  case round =>
    obtain ⟨m, f, cur, hmn, hmf, rfl, hl, hri, hat, hon⟩ := hrel
    clear HH_ HR HN
    by_cases h0 : m = 0
    · subst h0
      rw [rise_zero] at hri
      subst hri
      have HF : Hid _ := And.intro hat hon
      clear hat hon
      go_wp2
      first | go_end0 | refine bodyPost_ret (results_none rfl _ _ _) rfl ?_
      exact ⟨rfl, HF.out⟩
    · have hpos : (0 : Int) < (m : Int) := by omega
      obtain ⟨p, hp⟩ : ∃ p, p = (m - 1) / 2 := ⟨_, rfl⟩
      have hpm : p < m := by omega
      have hpn : p < n := by omega
      have ep : ((m : Int) - 1) / 2 = (p : Int) := by omega
      have ep2 : ((m : Int) - 1).tdiv 2 = (p : Int) := by rw [Int.tdiv_eq_ediv_of_nonneg (by omega)]; exact ep
      obtain ⟨x, hx⟩ : ∃ x, x = cur.getD m de := ⟨_, rfl⟩
      obtain ⟨y, hy⟩ : ∃ y, y = cur.getD p de := ⟨_, rfl⟩
      obtain ⟨c0, c1, c2, c3, ff⟩ := four_cells hat.1
      have cx := hat.cells hl m hmn x hx
      have cy := hat.cells hl p hpn y hy
      have hm1 : (m : Int) < (n : Int) := by omega
      have hm2 : (p : Int) < (n : Int) := by omega
      have HL : Hid (cur.length = n) := hl
      have HX : Hid (x = cur.getD m de) := hx
      have HY : Hid (y = cur.getD p de) := hy
      have HP : Hid (p = (m - 1) / 2) := hp
      have HRI : Hid (rise de (ahd rk) f cur m = R) := hri
      have HA : Hid (HeapAt wr hb k base (.slice (some ⟨g, 0, none⟩) n cap) cur t) := hat
      have HO : Hid (Only g w wr) := hon
      clear hx hy hp hri hat hon c0 c2 c3 ff hl
      go_wp2_with fail
      have ur := Up.refl wr
      go_region_held3 (fun v => (v.cell? ⟨hb, 1, none⟩ = some (.slice (some ⟨g, 0, none⟩) n cap)) ∧ (v.cell? ⟨g, m * 2, none⟩ = some (.int .i64 x.1) ∧ v.cell? ⟨g, m * 2 + 1, none⟩ = some (.int .i64 x.2)) ∧ (v.cell? ⟨g, p * 2, none⟩ = some (.int .i64 y.1) ∧ v.cell? ⟨g, p * 2 + 1, none⟩ = some (.int .i64 y.2)) ∧ Up wr v)
        (first | assumption | exact ⟨c1, cx, cy, ur.drew⟩ | (obtain ⟨z0, z1, z2, z3⟩ := ‹_ ∧ _›; exact ⟨u2.cell z0, ⟨u2.cell z1.1, u2.cell z1.2⟩, ⟨u2.cell z2.1, u2.cell z2.2⟩, z3.trans u2⟩))
        (first | (go_at_call 39; refine (ahead hb k _ t x y _ (ur.drew.heap HA.out.1) hk).mono ?_; rintro e w2 ⟨rfl, u2⟩))
      rename_i hZ
      obtain ⟨d1, dx_, dy_, uz⟩ := hZ
      have HA2 : Hid (HeapAt w2 hb k base (.slice (some ⟨g, 0, none⟩) n cap) cur t) := HA.out.up uz
      have HO2 : Hid (Only g w w2) := HO.out.trans (Only.up uz)
      clear u2 c1 cx cy uz HA HO ur
      cases hr : ahd rk x y
      · have hR : cur = R := by
          rw [← HRI.out, rise_stop]
          rw [← HP.out, ← HX.out, ← HY.out]; exact hr
        subst hR
        clear d1 dx_ dy_ HRI HX HY hr
        go_wp2
        first | go_end0 | refine bodyPost_ret (results_none rfl _ _ _) rfl ?_
        exact ⟨rfl, HA2.out, HO2.out⟩
      · have fz := HA2.out.ice HL.out
        go_wp2_with fail
        have HX2 : Hid (HeapAt (HI.put1 (HI.put1 w2 g m y) g p x) hb k base (.slice (some ⟨g, 0, none⟩) n cap) (xch de cur m p) t ∧ Only g w (HI.put1 (HI.put1 w2 g m y) g p x)) :=
          ⟨HA2.out.xch HL.out hg m p hmn hpn x y HX.out HY.out, only_put1 (only_put1 HO2.out m y) p x⟩
        have HRI2 : Hid (rise de (ahd rk) (f - 1) (xch de cur m p) p = R) := by
          obtain ⟨f', rfl⟩ : ∃ f', f = f' + 1 := ⟨f - 1, by omega⟩
          unfold Hid
          rw [← HRI.out, rise_go de (ahd rk) f' cur m (by omega) (by rw [← HP.out, ← HX.out, ← HY.out]; exact hr), ← HP.out]
          rfl
        clear HA2 HO2 HX HY HRI
        go_region
        go_wp2
        go_roundw
        case rel => exact ⟨p, f - 1, xch de cur m p, hpn, by omega, rfl, by rw [xch_len]; exact HL.out, HRI2.out, HX2.out.1.up (Up.refl _).drew, HX2.out.2.trans (Only.up (Up.refl _).drew)⟩
        case measure => simp [intOf]; omega
set_option maxHeartbeats 8000000 in
theorem sink_ (hb k base g cap : Nat) (es : List (X × Nat)) (t : Nat) (w : World) (h : HeapAt w hb k base (.slice (some ⟨g, 0, none⟩) es.length cap) es t) (hk : Less k) (hm : es.length ≤ 1000000) (hg : base ≤ g) :
    Calls Try.prog 36 #[.pointer (some ⟨hb, 0, none⟩)] w fun e w' => e = .returned (.tuple #[]) ∧ HeapAt w' hb k base (.slice (some ⟨g, 0, none⟩) es.length cap) (sink de (ahd rk) es.length es 0) t ∧ Only g w w' := by
  obtain ⟨R, hR⟩ : ∃ R, R = sink de (ahd rk) es.length es 0 := ⟨_, rfl⟩
  rw [← hR]
  have HR : Hid (R = sink de (ahd rk) es.length es 0) := hR
  have HH_ : Hid (HeapAt w hb k base (.slice (some ⟨g, 0, none⟩) es.length cap) es t) := h
  have hne : hb ≠ g := by have := h.2.2; omega
  obtain ⟨n, hn⟩ : ∃ n, n = es.length := ⟨_, rfl⟩
  have HN : Hid (es.length = n) := hn.symm
  rw [← hn] at hm HR ⊢
  clear h hR hn
  go_enter Try.func36, Try.ntmps36
  go_wp2_with fail
  go_loopw [2] (fun i wr => ∃ (m f : Nat) (cur : List (X × Nat)), m ≤ n ∧ n ≤ f + m ∧ i = .int .i64 m ∧ cur.length = n ∧ sink de (ahd rk) f cur m = R ∧ HeapAt wr hb k base (.slice (some ⟨g, 0, none⟩) n cap) cur t ∧ Only g w wr) (fun i _ => n - (intOf i).toNat)
  case atStart => exact ⟨0, n, es, Nat.zero_le _, by omega, rfl, HN.out, HR.out.symm, by rw [← HN.out]; exact HH_.out, Only.refl _ _⟩
  case round =>
    obtain ⟨m, f, cur, hmn, hmf, rfl, hl, hri, hat, hon⟩ := hrel
    clear HH_ HR HN
    obtain ⟨c0, c1, c2, c3, ff⟩ := four_cells hat.1
    clear c0 c2 c3 ff
    by_cases h0 : 2 * m + 1 < n
    · have hpos : 2 * (m : Int) + 1 < (n : Int) := by omega
      have hb0 := below_lt de (ahd rk) cur m (by rw [hl]; exact h0)
      have HBC : Hid (∀ W, HeapAt W hb k base (.slice (some ⟨g, 0, none⟩) n cap) cur t → Calls Try.prog 40 #[.pointer (some ⟨hb, 0, none⟩), .int .i64 m] W fun e w' => e = .returned (.int .i64 (below de (ahd rk) cur m : Nat)) ∧ Up W w') := fun W hW => below_ hb k base _ cur t m W hW hk (by rw [hl]; exact h0) (by rw [hl]; exact hm)
      obtain ⟨p, hp⟩ : ∃ p, p = below de (ahd rk) cur m := ⟨_, rfl⟩
      rw [← hp] at hb0 HBC
      obtain ⟨b1, b2, b3⟩ := hb0
      rw [hl] at b1
      obtain ⟨x, hx⟩ : ∃ x, x = cur.getD p de := ⟨_, rfl⟩
      obtain ⟨y, hy⟩ : ∃ y, y = cur.getD m de := ⟨_, rfl⟩
      have hm1 : (m : Int) < (n : Int) := by omega
      have hm2 : (p : Int) < (n : Int) := by omega
      have HL : Hid (cur.length = n) := hl
      have HX : Hid (x = cur.getD p de) := hx
      have HY : Hid (y = cur.getD m de) := hy
      have HP : Hid (p = below de (ahd rk) cur m) := hp
      have HRI : Hid (sink de (ahd rk) f cur m = R) := hri
      have HA0 : Hid (HeapAt wr hb k base (.slice (some ⟨g, 0, none⟩) n cap) cur t) := hat
      have HO0 : Hid (Only g w wr) := hon
      clear hx hy hp hri hat hon hl b3
      go_wp2_with fail
      refine (HBC.out wr HA0.out).mono ?_
      rintro e w1 ⟨rfl, u1⟩
      have HA : Hid (HeapAt w1 hb k base (.slice (some ⟨g, 0, none⟩) n cap) cur t) := HA0.out.up u1
      have HO : Hid (Only g w w1) := HO0.out.trans (Only.up u1)
      have c1' := u1.cell c1
      have cx := HA.out.cells HL.out p b1 x HX.out
      have cy := HA.out.cells HL.out m (by omega) y HY.out
      clear HA0 HO0 HBC u1 c1
      have ur := Up.refl w1
      go_wp2_with fail
      go_region_held3 (fun v => (v.cell? ⟨hb, 1, none⟩ = some (.slice (some ⟨g, 0, none⟩) n cap)) ∧ (v.cell? ⟨g, p * 2, none⟩ = some (.int .i64 x.1) ∧ v.cell? ⟨g, p * 2 + 1, none⟩ = some (.int .i64 x.2)) ∧ (v.cell? ⟨g, m * 2, none⟩ = some (.int .i64 y.1) ∧ v.cell? ⟨g, m * 2 + 1, none⟩ = some (.int .i64 y.2)) ∧ Up w1 v)
        (first | assumption | exact ⟨c1', cx, cy, ur.drew⟩ | (obtain ⟨z0, z1, z2, z3⟩ := ‹_ ∧ _›; exact ⟨u2.cell z0, ⟨u2.cell z1.1, u2.cell z1.2⟩, ⟨u2.cell z2.1, u2.cell z2.2⟩, z3.trans u2⟩))
        (first | (go_at_call 39; refine (ahead hb k _ t x y _ (ur.drew.heap HA.out.1) hk).mono ?_; rintro e w2 ⟨rfl, u2⟩))
      rename_i hZ
      obtain ⟨d1, dx_, dy_, uz⟩ := hZ
      have HA2 : Hid (HeapAt w2 hb k base (.slice (some ⟨g, 0, none⟩) n cap) cur t) := HA.out.up uz
      have HO2 : Hid (Only g w w2) := HO.out.trans (Only.up uz)
      clear u2 c1' cx cy uz HA HO ur
      cases hr : ahd rk x y
      · have hR : cur = R := by
          rw [← HRI.out, sink_stop]
          rw [← HP.out, ← HX.out, ← HY.out]; exact hr
        subst hR
        clear d1 dx_ dy_ HRI HX HY hr
        go_wp2
        first | go_end0 | refine bodyPost_ret (results_none rfl _ _ _) rfl ?_
        exact ⟨rfl, HA2.out, HO2.out⟩
      · have fz := HA2.out.ice HL.out
        go_wp2_with fail
        have HX2 : Hid (HeapAt (HI.put1 (HI.put1 w2 g m x) g p y) hb k base (.slice (some ⟨g, 0, none⟩) n cap) (xch de cur m p) t ∧ Only g w (HI.put1 (HI.put1 w2 g m x) g p y)) :=
          ⟨HA2.out.xch HL.out hg m p (by omega) b1 y x HY.out HX.out, only_put1 (only_put1 HO2.out m x) p y⟩
        have HRI2 : Hid (sink de (ahd rk) (f - 1) (xch de cur m p) p = R) := by
          obtain ⟨f', rfl⟩ : ∃ f', f = f' + 1 := ⟨f - 1, by omega⟩
          unfold Hid
          rw [← HRI.out, sink_go de (ahd rk) f' cur m (by rw [HL.out]; exact h0) (by rw [← HP.out, ← HX.out, ← HY.out]; exact hr), ← HP.out]
          rfl
        clear HA2 HO2 HX HY HRI
        go_region
        go_wp2
        go_roundw
        case rel => exact ⟨p, f - 1, xch de cur m p, by omega, by omega, rfl, by rw [xch_len]; exact HL.out, HRI2.out, HX2.out.1.up (Up.refl _).drew, HX2.out.2.trans (Only.up (Up.refl _).drew)⟩
        case measure => simp [intOf]; omega
    · have hpos : ¬ 2 * (m : Int) + 1 < (n : Int) := by omega
      rw [sink_end de (ahd rk) f cur m (by omega)] at hri
      subst hri
      have HF : Hid _ := And.intro hat hon
      clear hat hon
      go_wp2
      first | go_end0 | refine bodyPost_ret (results_none rfl _ _ _) rfl ?_
      exact ⟨rfl, HF.out⟩
end HI
end Go.Proofs.Ytgonflnmkfgfhaa
