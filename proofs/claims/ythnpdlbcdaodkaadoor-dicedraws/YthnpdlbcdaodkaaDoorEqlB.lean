/-
  Lists of ints in memory, two held against each other.
-/
import Derived.Test.YthnpdlbcdaodkaaDoorOrdr
namespace Go.Proofs.YthnpdlbcdaodkaaDoor
open Go.RowKit

theorem Up.drewN {a w : World} (h : Up a w) (n : Nat) : Up a (w.drewN n) := ⟨h.os, h.tape, h.output, h.size, h.block⟩
def LiesI (W : World) (v : Value) (zs : List Int) : Prop := ∃ a cap, v = .slice a zs.length cap ∧ (zs.length ≠ 0 → ∃ b off, a = some ⟨b, off, none⟩ ∧ ∀ i, i < zs.length → W.cell? ⟨b, off + i, none⟩ = some (.int .i64 (zs.getD i 0)))
theorem LiesI.up {w w' : World} {v : Value} {zs : List Int} (h : LiesI w v zs) (u : Up w w') : LiesI w' v zs := by
  obtain ⟨a, cap, rfl, h⟩ := h
  refine ⟨a, cap, rfl, fun hn => ?_⟩
  obtain ⟨b, off, ha, hc⟩ := h hn
  exact ⟨b, off, ha, fun i hi => u.cell (hc i hi)⟩
def intsOf (l : List Nat) : List Int := l.map fun (x : Nat) => (x : Int)
theorem intsOf_len (l : List Nat) : (intsOf l).length = l.length := by simp [intsOf]
theorem intsOf_getD (l : List Nat) (i : Nat) : (intsOf l).getD i 0 = ((l.getD i 0 : Nat) : Int) := by
  unfold intsOf
  by_cases h : i < l.length
  · simp [List.getD, h]
  · simp [List.getD, h]
theorem RowI.lies {W : World} {g : Nat} {l : List Nat} (h : RowI W g l) (cap : Nat) : LiesI W (.slice (some ⟨g, 0, none⟩) l.length cap) (intsOf l) := by
  refine ⟨_, cap, by rw [intsOf_len], fun _ => ⟨g, 0, rfl, fun i hi => ?_⟩⟩
  rw [Nat.zero_add, h.cell i (by rw [← intsOf_len]; exact hi), intsOf_getD]
theorem getD_ext {zs ys : List Int} (hl : zs.length = ys.length) (h : ∀ j, j < zs.length → zs.getD j 0 = ys.getD j 0) : zs = ys := by
  apply List.ext_getElem hl
  intro i h1 h2
  have := h i h1
  simpa [List.getD, h1, h2] using this
set_option maxHeartbeats 400000 in
theorem eqInts (v u : Value) (zs ys : List Int) (w : World) (hv : LiesI w v zs) (hu : LiesI w u ys) (hm : zs.length ≤ 4611686018427387904) :
    Calls Tryd.prog 15 #[v, u] w fun e w' => e = .returned (.bool (decide (zs = ys))) ∧ Up w w' := by
  obtain ⟨a, cap, rfl, h1⟩ := hv
  obtain ⟨a2, cap2, rfl, h2⟩ := hu
  by_cases hl : zs.length = ys.length
  · have H1 : Hid (zs.length ≠ 0 → ∃ b off, a = some ⟨b, off, none⟩ ∧ ∀ i, i < zs.length → w.cell? ⟨b, off + i, none⟩ = some (.int .i64 (zs.getD i 0))) := h1
    have H2 : Hid (ys.length ≠ 0 → ∃ b off, a2 = some ⟨b, off, none⟩ ∧ ∀ i, i < ys.length → w.cell? ⟨b, off + i, none⟩ = some (.int .i64 (ys.getD i 0))) := h2
    clear h1 h2
    obtain ⟨n, hn⟩ : ∃ n, n = zs.length := ⟨_, rfl⟩
    obtain ⟨r, hr⟩ : ∃ r, r = decide (zs = ys) := ⟨_, rfl⟩
    rw [← hr, ← hl, ← hn]
    have HN : Hid (n = zs.length) := hn
    have HL : Hid (zs.length = ys.length) := hl
    have HR : Hid (r = decide (zs = ys)) := hr
    rw [← hn] at hm
    clear hn hl hr
    have e0 : ((n : Int) == (n : Int)) = true := by simp
    go_enter Tryd.func15, Tryd.ntmps15
    go_wp2_with fail
    go_loopw [5] (fun i wr => ∃ k : Nat, k ≤ n ∧ i = .int .i64 k ∧ (∀ j, j < k → zs.getD j 0 = ys.getD j 0) ∧ Up w wr) (fun i _ => n - (intOf i).toNat)
    case atStart => exact ⟨0, Nat.zero_le _, rfl, fun j hj => absurd hj (Nat.not_lt_zero _), Up.refl _⟩
    case round =>
      obtain ⟨k, hk, rfl, hall, hup⟩ := hrel
      have HALL : Hid (∀ j, j < k → zs.getD j 0 = ys.getD j 0) := hall
      clear hall
      by_cases hlt : k < n
      · have hki : (k : Int) < (n : Int) := by omega
        obtain ⟨b, off, rfl, hc⟩ := H1.out (by have := HN.out; omega)
        obtain ⟨b2, off2, rfl, hc2⟩ := H2.out (by have := HN.out; have := HL.out; omega)
        have c1 := hup.cell (hc k (by have := HN.out; omega))
        have c2 := hup.cell (hc2 k (by have := HN.out; have := HL.out; omega))
        clear hc hc2
        obtain ⟨x, hx⟩ : ∃ x, x = zs.getD k 0 := ⟨_, rfl⟩
        obtain ⟨y, hy⟩ : ∃ y, y = ys.getD k 0 := ⟨_, rfl⟩
        rw [← hx] at c1
        rw [← hy] at c2
        have HX : Hid (x = zs.getD k 0) := hx
        have HY : Hid (y = ys.getD k 0) := hy
        clear hx hy
        by_cases hxy : x = y
        · subst hxy
          have e1 : (x == x) = true := by simp
          go_wp2_with fail
          go_quiet (fail)
          go_wp2
          go_roundw
          case rel =>
            have hq : ∀ j, j < k + 1 → zs.getD j 0 = ys.getD j 0 := by
              intro j hj
              by_cases e : j = k
              · subst e; rw [← HX.out, ← HY.out]
              · exact HALL.out j (by omega)
            first | exact ⟨k + 1, by omega, by go_num, hq, Up.drewN hup _⟩ | ((repeat apply Exists.intro); exact ⟨⟨k + 1, by omega, by go_num, hq, Up.drewN hup _⟩, rfl⟩)
          case measure => simp [intOf]; omega
        · have e1 : (x == y) = false := by simpa using hxy
          have hne : r = false := by
            rw [HR.out]
            apply decide_eq_false
            intro e
            exact hxy (by rw [HX.out, HY.out, e])
          have HE : Hid (r = false) := hne
          clear hne
          go_wp2_with fail
          go_quiet (fail)
          go_wp2
          go_ret
          exact ⟨by rw [HE.out]; rfl, Up.drewN hup _⟩
      · obtain rfl : k = n := by omega
        have hne : r = true := by
          rw [HR.out]
          apply decide_eq_true
          exact getD_ext HL.out (fun j hj => HALL.out j (by have := HN.out; omega))
        have HE : Hid (r = true) := hne
        clear hne
        go_wp2
        go_ret
        exact ⟨by rw [HE.out]; rfl, hup⟩
  · have hf : decide (zs = ys) = false := decide_eq_false (fun e => hl (by rw [e]))
    rw [hf]
    have e0 : ((zs.length : Int) == (ys.length : Int)) = false := by
      simp; omega
    generalize zs.length = n1 at *
    generalize ys.length = n2 at *
    clear h1 h2
    go_enter Tryd.func15, Tryd.ntmps15
    go_wp2
    go_ret
    exact ⟨rfl, Up.refl _⟩
end Go.Proofs.YthnpdlbcdaodkaaDoor
