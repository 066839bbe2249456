/-
  Lists of numbers that lie in memory: what sat.Sum and the document's Sum answer of them, whatever slice holds them (nil, empty, one that came in, one that the call made).
-/
import Derived.Test.YthanbiblikkimabEnds
import Derived.Deep.RegionHeld3
namespace Go.Proofs.Ythanbiblikkimab
open Go.RowKit

def Lies (k : IntKind) (w : World) (v : Value) (zs : List Int) : Prop :=
  ∃ a cap, v = .slice a zs.length cap ∧ (zs.length ≠ 0 → ∃ b off, a = some ⟨b, off, none⟩ ∧ ∀ i, i < zs.length → w.cell? ⟨b, off + i, none⟩ = some (.int k (zs.getD i 0)))
theorem Up.cell {w w' : World} (h : Up w w') {p : Addr} {v : Value} (hc : w.cell? p = some v) : w'.cell? p = some v := by
  rw [Below.cell h (World.block_lt_of_cell? w p hc)]; exact hc
theorem Lies.up {k : IntKind} {w w' : World} {v : Value} {zs : List Int} (h : Lies k w v zs) (u : Up w w') : Lies k w' v zs := by
  obtain ⟨a, cap, rfl, h⟩ := h
  refine ⟨a, cap, rfl, fun hn => ?_⟩
  obtain ⟨b, off, rfl, hc⟩ := h hn
  exact ⟨b, off, rfl, fun i hi => u.cell (hc i hi)⟩
theorem lies_own {k : IntKind} {w : World} {base e : Nat} {v : Value} {zs : List Int} (h : w.ownsRow base e 1 v zs.length (zs.map (Value.int k))) : Lies k w v zs := by
  have hs := h
  rcases h.2 with ⟨rfl, hn⟩ | ⟨g, cap, cur, rfl, _⟩
  · exact ⟨none, 0, by rw [hn], fun hz => absurd hn hz⟩
  · refine ⟨_, cap, rfl, fun _ => ⟨g, 0, rfl, fun i hi => ?_⟩⟩
    rw [Nat.zero_add, hs.cellAt i (by omega)]
    simp [List.getD, List.getElem?_eq_getElem hi]

set_option maxHeartbeats 400000 in
theorem sumI8_zero (a : Option Addr) (cap : Nat) (w : World) :
    Calls Try.prog 30 #[.slice a 0 cap] w fun e w' => e = .returned (.int .i8 0) ∧ w' = w := by
  go_enter Try.func30, Try.ntmps30
  go_wp2
  go_rounds 1
  go_ret
  exact ⟨rfl, rfl⟩
set_option maxHeartbeats 400000 in
theorem sumI32_zero (a : Option Addr) (cap : Nat) (w : World) :
    Calls Try.prog 32 #[.slice a 0 cap] w fun e w' => e = .returned (.int .i32 0) ∧ w' = w := by
  go_enter Try.func32, Try.ntmps32
  go_wp2
  go_rounds 1
  go_ret
  exact ⟨rfl, rfl⟩
set_option maxHeartbeats 400000 in
theorem sumI64_zero (a : Option Addr) (cap : Nat) (w : World) :
    Calls Try.prog 33 #[.slice a 0 cap] w fun e w' => e = .returned (.int .i64 0) ∧ w' = w := by
  go_enter Try.func33, Try.ntmps33
  go_wp2
  go_rounds 1
  go_ret
  exact ⟨rfl, rfl⟩
theorem sumL8 (v : Value) (zs : List Int) (w : World) (h : Lies .i8 w v zs) (hm : zs.length ≤ maxLen) (hb : ∀ i, -128 ≤ zs.getD i 0 ∧ zs.getD i 0 ≤ 127) :
    Calls Try.prog 30 #[v] w fun e w' => e = .returned (.int .i8 (sum8 zs)) ∧ w' = w := by
  obtain ⟨a, cap, rfl, h⟩ := h
  by_cases hn : zs.length = 0
  · obtain rfl := List.eq_nil_of_length_eq_zero hn
    exact sumI8_zero a cap w
  · obtain ⟨b, off, rfl, hc⟩ := h hn
    have := sumI8 b off zs.length cap zs w (Nat.le_refl _) hm hc hb
    rw [List.take_length] at this
    exact this
theorem sumL32 (v : Value) (zs : List Int) (w : World) (h : Lies .i32 w v zs) (hm : zs.length ≤ maxLen) (hb : ∀ i, -2147483648 ≤ zs.getD i 0 ∧ zs.getD i 0 ≤ 2147483647) :
    Calls Try.prog 32 #[v] w fun e w' => e = .returned (.int .i32 (sum32 zs)) ∧ w' = w := by
  obtain ⟨a, cap, rfl, h⟩ := h
  by_cases hn : zs.length = 0
  · obtain rfl := List.eq_nil_of_length_eq_zero hn
    exact sumI32_zero a cap w
  · obtain ⟨b, off, rfl, hc⟩ := h hn
    have := sumI32 b off zs.length cap zs w (Nat.le_refl _) hm hc hb
    rw [List.take_length] at this
    exact this
theorem sumL64 (v : Value) (zs : List Int) (w : World) (h : Lies .i64 w v zs) (hm : zs.length ≤ maxLen) (hb : ∀ i, -9223372036854775808 ≤ zs.getD i 0 ∧ zs.getD i 0 ≤ 9223372036854775807) :
    Calls Try.prog 33 #[v] w fun e w' => e = .returned (.int .i64 (sum64 zs)) ∧ w' = w := by
  obtain ⟨a, cap, rfl, h⟩ := h
  by_cases hn : zs.length = 0
  · obtain rfl := List.eq_nil_of_length_eq_zero hn
    exact sumI64_zero a cap w
  · obtain ⟨b, off, rfl, hc⟩ := h hn
    have := sumI64 b off zs.length cap zs w (Nat.le_refl _) hm hc hb
    rw [List.take_length] at this
    exact this

def sumI (lo hi : Int) (zs : List Int) : Int := zs.foldl (fun s z => cutI lo hi (s + z)) 0
theorem sumI_nil (lo hi : Int) : sumI lo hi [] = 0 := rfl
theorem sumI_snoc (lo hi : Int) (l : List Int) (z : Int) : sumI lo hi (l ++ [z]) = cutI lo hi (sumI lo hi l + z) := by unfold sumI; rw [List.foldl_append]; rfl
theorem sumI_bd (lo hi : Int) (h1 : lo ≤ 0) (h2 : 0 ≤ hi) (l : List Int) : lo ≤ sumI lo hi l ∧ sumI lo hi l ≤ hi := by
  rcases List.eq_nil_or_concat l with rfl | ⟨m, z, rfl⟩
  · rw [sumI_nil]; exact ⟨h1, h2⟩
  · rw [List.concat_eq_append, sumI_snoc]; unfold cutI; omega
theorem keepR {u v v' : World} {p q r : Addr} {x y z : Value} (k : Up v v') (h : v.cell? p = some x ∧ v.cell? q = some y ∧ v.cell? r = some z ∧ Up u v) : v'.cell? p = some x ∧ v'.cell? q = some y ∧ v'.cell? r = some z ∧ Up u v' :=
  ⟨k.cell h.1, k.cell h.2.1, k.cell h.2.2.1, h.2.2.2.trans k⟩
theorem keepRD {u v : World} {p q r : Addr} {x y z : Value} (h : v.cell? p = some x ∧ v.cell? q = some y ∧ v.cell? r = some z ∧ Up u v) : v.drew.cell? p = some x ∧ v.drew.cell? q = some y ∧ v.drew.cell? r = some z ∧ Up u v.drew :=
  ⟨h.1, h.2.1, h.2.2.1, h.2.2.2.drew⟩
set_option maxHeartbeats 400000 in
theorem refSum_zero (a : Option Addr) (cap : Nat) (lo hi : Int) (w : World) :
    Calls Try.prog 31 #[.slice a 0 cap, .agg #[.int .i64 lo, .int .i64 hi]] w fun e w' => e = .returned (.int .i64 0) ∧ Up w w' := by
  go_enter Try.func31, Try.ntmps31
  go_wp2
  go_rounds 1
  go_ret
  exact ⟨rfl, (Up.refl _).alloc _⟩
set_option maxHeartbeats 1000000 in
theorem refSum (b off len cap : Nat) (zs : List Int) (lo hi : Int) (w : World) (h1 : 0 < hi) (h2 : hi ≤ 9223372036854775807) (l1 : lo ≤ -hi - 1) (l2 : -hi - 1 ≤ lo) (hl : len ≤ zs.length) (hm : len ≤ maxLen)
    (hc : ∀ i, i < len → w.cell? ⟨b, off + i, none⟩ = some (.int .i64 (zs.getD i 0)))
    (hb : ∀ i, lo ≤ zs.getD i 0 ∧ zs.getD i 0 ≤ hi) :
    Calls Try.prog 31 #[.slice (some ⟨b, off, none⟩) len cap, .agg #[.int .i64 lo, .int .i64 hi]] w fun e w' => e = .returned (.int .i64 (sumI lo hi (zs.take len))) ∧ Up w w' := by
  unfold maxLen at hm
  have HC : Hid (∀ i, i < len → w.cell? ⟨b, off + i, none⟩ = some (.int .i64 (zs.getD i 0))) := hc
  have HB : Hid (∀ i, lo ≤ zs.getD i 0 ∧ zs.getD i 0 ≤ hi) := hb
  clear hc hb
  go_enter Try.func31, Try.ntmps31
  go_wp2
  go_loopw [5, 6] (fun s i wr => ∃ k : Nat, k ≤ len ∧ i = .int .i64 k ∧ s = .int .i64 (sumI lo hi (zs.take k)) ∧ Up (w.alloc (.cells #[.int .i64 lo, .int .i64 hi] 24)) wr) (fun _ i _ => len - (intOf i).toNat)
  case atStart => exact ⟨0, Nat.zero_le _, rfl, rfl, Up.refl _⟩
  case round =>
    obtain ⟨k, hk, rfl, rfl, ub⟩ := hrel
    obtain ⟨s1, s2⟩ := sumI_bd lo hi (by omega) (by omega) (zs.take k)
    by_cases hlt : k < len
    · have hS : wr.cell? ⟨b, off + k, none⟩ = some (.int .i64 (zs.getD k 0)) ∧ wr.cell? ⟨w.heap.size, 0, none⟩ = some (.int .i64 lo) ∧ wr.cell? ⟨w.heap.size, 1, none⟩ = some (.int .i64 hi) ∧ Up (w.alloc (.cells #[.int .i64 lo, .int .i64 hi] 24)) wr :=
        ⟨(((Up.refl w).alloc _).trans ub).cell (HC.out k hlt), ub.cell (by simp), ub.cell (by simp), ub⟩
      clear ub
      obtain ⟨e1, e2⟩ := HB.out k
      have HS : Hid (sumI lo hi (zs.take (k + 1)) = cutI lo hi (sumI lo hi (zs.take k) + zs.getD k 0)) := by unfold Hid; rw [take_snoc' zs k (by omega), sumI_snoc]
      generalize zs.getD k 0 = z at *
      generalize sumI lo hi (zs.take k) = sk at *
      have hki : (k : Int) < (len : Int) := by omega
      go_wp2_with fail
      go_region_held3 (fun v => v.cell? ⟨b, off + k, none⟩ = some (.int .i64 z) ∧ v.cell? ⟨w.heap.size, 0, none⟩ = some (.int .i64 lo) ∧ v.cell? ⟨w.heap.size, 1, none⟩ = some (.int .i64 hi) ∧ Up (w.alloc (.cells #[.int .i64 lo, .int .i64 hi] 24)) v) (first | assumption | exact keepRD (by assumption) | exact keepR up (by assumption))
        (first
          | (go_at_call 57; refine (refAdd sk z lo hi _ h1 h2 l1 l2 s1 s2 e1 e2).mono ?_; rintro e v ⟨rfl, up⟩))
      rename_i hZ
      obtain ⟨_, _, _, ub⟩ := hZ
      go_wp2
      go_roundw
      case rel => exact ⟨k + 1, by omega, by go_num, by rw [HS.out], by first | exact ub | exact ub.drew⟩
      case measure => simp [intOf]; omega
    · have : k = len := by omega
      subst this
      go_wp2
      go_ret
      exact ⟨rfl, Up.trans ((Up.refl _).alloc _) ub⟩
theorem refSumL (v : Value) (zs : List Int) (lo hi : Int) (w : World) (h1 : 0 < hi) (h2 : hi ≤ 9223372036854775807) (l1 : lo ≤ -hi - 1) (l2 : -hi - 1 ≤ lo) (h : Lies .i64 w v zs) (hm : zs.length ≤ maxLen) (hb : ∀ i, lo ≤ zs.getD i 0 ∧ zs.getD i 0 ≤ hi) :
    Calls Try.prog 31 #[v, .agg #[.int .i64 lo, .int .i64 hi]] w fun e w' => e = .returned (.int .i64 (sumI lo hi zs)) ∧ Up w w' := by
  obtain ⟨a, cap, rfl, h⟩ := h
  by_cases hn : zs.length = 0
  · obtain rfl := List.eq_nil_of_length_eq_zero hn
    exact refSum_zero a cap lo hi w
  · obtain ⟨b, off, rfl, hc⟩ := h hn
    have := refSum b off zs.length cap zs lo hi w h1 h2 l1 l2 (Nat.le_refl _) hm hc hb
    rw [List.take_length] at this
    exact this
theorem refSum8 (v : Value) (zs : List Int) (w : World) (h : Lies .i64 w v zs) (hm : zs.length ≤ maxLen) (hb : ∀ i, -128 ≤ zs.getD i 0 ∧ zs.getD i 0 ≤ 127) :
    Calls Try.prog 31 #[v, .agg #[.int .i64 (-128), .int .i64 127]] w fun e w' => e = .returned (.int .i64 (sum8 zs)) ∧ Up w w' :=
  refSumL v zs (-128) 127 w (by decide) (by decide) (by decide) (by decide) h hm hb
theorem refSum32 (v : Value) (zs : List Int) (w : World) (h : Lies .i64 w v zs) (hm : zs.length ≤ maxLen) (hb : ∀ i, -2147483648 ≤ zs.getD i 0 ∧ zs.getD i 0 ≤ 2147483647) :
    Calls Try.prog 31 #[v, .agg #[.int .i64 (-2147483648), .int .i64 2147483647]] w fun e w' => e = .returned (.int .i64 (sum32 zs)) ∧ Up w w' :=
  refSumL v zs (-2147483648) 2147483647 w (by decide) (by decide) (by decide) (by decide) h hm hb
theorem refSum64 (v : Value) (zs : List Int) (w : World) (h : Lies .i64 w v zs) (hm : zs.length ≤ maxLen) (hb : ∀ i, -9223372036854775808 ≤ zs.getD i 0 ∧ zs.getD i 0 ≤ 9223372036854775807) :
    Calls Try.prog 31 #[v, .agg #[.int .i64 (-9223372036854775808), .int .i64 9223372036854775807]] w fun e w' => e = .returned (.int .i64 (sum64 zs)) ∧ Up w w' :=
  refSumL v zs (-9223372036854775808) 9223372036854775807 w (by decide) (by decide) (by decide) (by decide) h hm hb
end Go.Proofs.Ythanbiblikkimab
