/-
  What sat.Sum answers of a list that lies in memory, and that the laws' own look at the program ('works') answers true.
-/
import Derived.Test.YthanbiblikkimabSat
namespace Go.Proofs.Ythanbiblikkimab
open Go.RowKit

theorem take_snoc' (zs : List Int) (k : Nat) (h : k < zs.length) : zs.take (k + 1) = zs.take k ++ [zs.getD k 0] := by
  rw [List.take_succ_eq_append_getElem h]; simp [List.getD, List.getElem?_eq_getElem h]


def sum8 (zs : List Int) : Int := zs.foldl (fun s z => cut8 (s + z)) 0
theorem sum8_nil : sum8 [] = 0 := rfl
theorem sum8_snoc (l : List Int) (z : Int) : sum8 (l ++ [z]) = cut8 (sum8 l + z) := by unfold sum8; rw [List.foldl_append]; rfl
theorem sum8_bd (l : List Int) : -128 ≤ sum8 l ∧ sum8 l ≤ 127 := by
  rcases List.eq_nil_or_concat l with rfl | ⟨m, z, rfl⟩
  · rw [sum8_nil]; decide
  · rw [List.concat_eq_append, sum8_snoc]; exact cut8_bd _
set_option maxHeartbeats 400000 in
theorem sumI8_nil (w : World) :
    Calls Try.prog 30 #[.slice none 0 0] w fun e w' => e = .returned (.int .i8 (sum8 [])) ∧ w' = w := by
  rw [sum8_nil]
  go_enter Try.func30, Try.ntmps30
  go_wp2
  go_rounds 1
  go_ret
  exact ⟨rfl, rfl⟩
set_option maxHeartbeats 400000 in
theorem sumI8 (b off len cap : Nat) (zs : List Int) (w : World) (hl : len ≤ zs.length) (hm : len ≤ maxLen)
    (hc : ∀ i, i < len → w.cell? ⟨b, off + i, none⟩ = some (.int .i8 (zs.getD i 0)))
    (hb : ∀ i, -128 ≤ zs.getD i 0 ∧ zs.getD i 0 ≤ 127) :
    Calls Try.prog 30 #[.slice (some ⟨b, off, none⟩) len cap] w fun e w' => e = .returned (.int .i8 (sum8 (zs.take len))) ∧ w' = w := by
  unfold maxLen at hm
  have HC : Hid (∀ i, i < len → w.cell? ⟨b, off + i, none⟩ = some (.int .i8 (zs.getD i 0))) := hc
  have HB : Hid (∀ i, -128 ≤ zs.getD i 0 ∧ zs.getD i 0 ≤ 127) := hb
  clear hc hb
  go_enter Try.func30, Try.ntmps30
  go_wp2
  go_loop [3, 8] (fun t i => ∃ k : Nat, k ≤ len ∧ i = .int .i64 k ∧ t = .int .i8 (sum8 (zs.take k))) (fun _ i => len - (intOf i).toNat)
  case atStart => exact ⟨0, Nat.zero_le _, rfl, rfl⟩
  case round =>
    obtain ⟨k, hk, rfl, rfl⟩ := hrel
    obtain ⟨s1, s2⟩ := sum8_bd (zs.take k)
    by_cases hlt : k < len
    · have hcell := HC.out k hlt
      obtain ⟨e1, e2⟩ := HB.out k
      have HS : Hid (sum8 (zs.take (k + 1)) = cut8 (sum8 (zs.take k) + zs.getD k 0)) := by unfold Hid; rw [take_snoc' zs k (by omega), sum8_snoc]
      generalize zs.getD k 0 = z at *
      generalize sum8 (zs.take k) = sk at *
      go_wp2_with (go_at_call 37; refine (addI8 sk z _ s1 s2 e1 e2).mono ?_; rintro e w' ⟨rfl, rfl⟩)
      go_round
      case rel => exact ⟨k + 1, by omega, by go_num, by rw [HS.out]⟩
      case measure => simp [intOf]; omega
    · have : k = len := by omega
      subst this
      go_wp2
      go_ret
      exact ⟨rfl, rfl⟩


def sum32 (zs : List Int) : Int := zs.foldl (fun s z => cut32 (s + z)) 0
theorem sum32_nil : sum32 [] = 0 := rfl
theorem sum32_snoc (l : List Int) (z : Int) : sum32 (l ++ [z]) = cut32 (sum32 l + z) := by unfold sum32; rw [List.foldl_append]; rfl
theorem sum32_bd (l : List Int) : -2147483648 ≤ sum32 l ∧ sum32 l ≤ 2147483647 := by
  rcases List.eq_nil_or_concat l with rfl | ⟨m, z, rfl⟩
  · rw [sum32_nil]; decide
  · rw [List.concat_eq_append, sum32_snoc]; exact cut32_bd _
set_option maxHeartbeats 400000 in
theorem sumI32_nil (w : World) :
    Calls Try.prog 32 #[.slice none 0 0] w fun e w' => e = .returned (.int .i32 (sum32 [])) ∧ w' = w := by
  rw [sum32_nil]
  go_enter Try.func32, Try.ntmps32
  go_wp2
  go_rounds 1
  go_ret
  exact ⟨rfl, rfl⟩
set_option maxHeartbeats 400000 in
theorem sumI32 (b off len cap : Nat) (zs : List Int) (w : World) (hl : len ≤ zs.length) (hm : len ≤ maxLen)
    (hc : ∀ i, i < len → w.cell? ⟨b, off + i, none⟩ = some (.int .i32 (zs.getD i 0)))
    (hb : ∀ i, -2147483648 ≤ zs.getD i 0 ∧ zs.getD i 0 ≤ 2147483647) :
    Calls Try.prog 32 #[.slice (some ⟨b, off, none⟩) len cap] w fun e w' => e = .returned (.int .i32 (sum32 (zs.take len))) ∧ w' = w := by
  unfold maxLen at hm
  have HC : Hid (∀ i, i < len → w.cell? ⟨b, off + i, none⟩ = some (.int .i32 (zs.getD i 0))) := hc
  have HB : Hid (∀ i, -2147483648 ≤ zs.getD i 0 ∧ zs.getD i 0 ≤ 2147483647) := hb
  clear hc hb
  go_enter Try.func32, Try.ntmps32
  go_wp2
  go_loop [3, 8] (fun t i => ∃ k : Nat, k ≤ len ∧ i = .int .i64 k ∧ t = .int .i32 (sum32 (zs.take k))) (fun _ i => len - (intOf i).toNat)
  case atStart => exact ⟨0, Nat.zero_le _, rfl, rfl⟩
  case round =>
    obtain ⟨k, hk, rfl, rfl⟩ := hrel
    obtain ⟨s1, s2⟩ := sum32_bd (zs.take k)
    by_cases hlt : k < len
    · have hcell := HC.out k hlt
      obtain ⟨e1, e2⟩ := HB.out k
      have HS : Hid (sum32 (zs.take (k + 1)) = cut32 (sum32 (zs.take k) + zs.getD k 0)) := by unfold Hid; rw [take_snoc' zs k (by omega), sum32_snoc]
      generalize zs.getD k 0 = z at *
      generalize sum32 (zs.take k) = sk at *
      go_wp2_with (go_at_call 58; refine (addI32 sk z _ s1 s2 e1 e2).mono ?_; rintro e w' ⟨rfl, rfl⟩)
      go_round
      case rel => exact ⟨k + 1, by omega, by go_num, by rw [HS.out]⟩
      case measure => simp [intOf]; omega
    · have : k = len := by omega
      subst this
      go_wp2
      go_ret
      exact ⟨rfl, rfl⟩


def sum64 (zs : List Int) : Int := zs.foldl (fun s z => cut64 (s + z)) 0
theorem sum64_nil : sum64 [] = 0 := rfl
theorem sum64_snoc (l : List Int) (z : Int) : sum64 (l ++ [z]) = cut64 (sum64 l + z) := by unfold sum64; rw [List.foldl_append]; rfl
theorem sum64_bd (l : List Int) : -9223372036854775808 ≤ sum64 l ∧ sum64 l ≤ 9223372036854775807 := by
  rcases List.eq_nil_or_concat l with rfl | ⟨m, z, rfl⟩
  · rw [sum64_nil]; decide
  · rw [List.concat_eq_append, sum64_snoc]; exact cut64_bd _
set_option maxHeartbeats 400000 in
theorem sumI64_nil (w : World) :
    Calls Try.prog 33 #[.slice none 0 0] w fun e w' => e = .returned (.int .i64 (sum64 [])) ∧ w' = w := by
  rw [sum64_nil]
  go_enter Try.func33, Try.ntmps33
  go_wp2
  go_rounds 1
  go_ret
  exact ⟨rfl, rfl⟩
set_option maxHeartbeats 400000 in
theorem sumI64 (b off len cap : Nat) (zs : List Int) (w : World) (hl : len ≤ zs.length) (hm : len ≤ maxLen)
    (hc : ∀ i, i < len → w.cell? ⟨b, off + i, none⟩ = some (.int .i64 (zs.getD i 0)))
    (hb : ∀ i, -9223372036854775808 ≤ zs.getD i 0 ∧ zs.getD i 0 ≤ 9223372036854775807) :
    Calls Try.prog 33 #[.slice (some ⟨b, off, none⟩) len cap] w fun e w' => e = .returned (.int .i64 (sum64 (zs.take len))) ∧ w' = w := by
  unfold maxLen at hm
  have HC : Hid (∀ i, i < len → w.cell? ⟨b, off + i, none⟩ = some (.int .i64 (zs.getD i 0))) := hc
  have HB : Hid (∀ i, -9223372036854775808 ≤ zs.getD i 0 ∧ zs.getD i 0 ≤ 9223372036854775807) := hb
  clear hc hb
  go_enter Try.func33, Try.ntmps33
  go_wp2
  go_loop [3, 8] (fun t i => ∃ k : Nat, k ≤ len ∧ i = .int .i64 k ∧ t = .int .i64 (sum64 (zs.take k))) (fun _ i => len - (intOf i).toNat)
  case atStart => exact ⟨0, Nat.zero_le _, rfl, rfl⟩
  case round =>
    obtain ⟨k, hk, rfl, rfl⟩ := hrel
    obtain ⟨s1, s2⟩ := sum64_bd (zs.take k)
    by_cases hlt : k < len
    · have hcell := HC.out k hlt
      obtain ⟨e1, e2⟩ := HB.out k
      have HS : Hid (sum64 (zs.take (k + 1)) = cut64 (sum64 (zs.take k) + zs.getD k 0)) := by unfold Hid; rw [take_snoc' zs k (by omega), sum64_snoc]
      generalize zs.getD k 0 = z at *
      generalize sum64 (zs.take k) = sk at *
      go_wp2_with (go_at_call 42; refine (addI64 sk z _ s1 s2 e1 e2).mono ?_; rintro e w' ⟨rfl, rfl⟩)
      go_round
      case rel => exact ⟨k + 1, by omega, by go_num, by rw [HS.out]⟩
      case measure => simp [intOf]; omega
    · have : k = len := by omega
      subst this
      go_wp2
      go_ret
      exact ⟨rfl, rfl⟩


def Up (w w' : World) : Prop := Below w.heap.size w w'
theorem Up.refl (w : World) : Up w w := Below.refl _ _
theorem Up.trans {a b c : World} (h : Up a b) (k : Up b c) : Up a c := Below.trans h (Below.mono k h.size)
theorem Up.alloc {a w : World} (h : Up a w) (o : Obj) : Up a (w.alloc o) := Below.alloc h h.size o
theorem Up.drew {a w : World} (h : Up a w) : Up a w.drew := Below.drew h
theorem cd (b off : Nat) (w : World) (h : w.cell? ⟨b, off, none⟩ = some (.int .i32 5)) (g : w.cell? ⟨b, off + 1, none⟩ = some (.int .i32 6)) :
    Calls Try.prog 32 #[.slice (some ⟨b, off, none⟩) 2 2] w fun e w' => e = .returned (.int .i32 11) ∧ w' = w := by
  refine (sumI32 b off 2 2 [5, 6] w (by decide) (by decide) ?_ ?_).mono ?_
  · intro i hi
    rcases (by omega : i = 0 ∨ i = 1) with rfl | rfl
    · exact h
    · exact g
  · intro i
    rcases (by omega : i = 0 ∨ i = 1 ∨ 2 ≤ i) with rfl | rfl | h2
    · decide
    · decide
    · rw [show ([5, 6] : List Int).getD i 0 = 0 by simp [List.getD, List.getElem?_eq_none (l := ([5, 6] : List Int)) (by simpa using h2)]]; decide
  · rintro e w' ⟨rfl, rfl⟩
    exact ⟨ret_int (by decide), rfl⟩
set_option maxHeartbeats 400000 in
theorem works (w : World) :
    Calls Try.prog 8 #[] w fun e w' => e = .returned (.bool true) ∧ Up w w' := by
  have v1 : div8VI8 (-128) (-1) = 127 := by decide
  have v2 : cut8 (100 + 100) = 127 := by decide
  have v3 : cut16 (-300 * 300) = -32768 := by decide
  have v4 : cut8 (-999) = -128 := by decide
  go_enter Try.func8, Try.ntmps8
  go_wp2_with fail
  refine (divI8 (-128) (-1) _ (by decide) (by decide) (by decide) (by decide)).mono ?_
  rintro e w' ⟨rfl, rfl⟩
  rw [v1, nz_yes (-1) (by decide)]
  go_wp2_with fail
  refine (addI8 100 100 _ (by decide) (by decide) (by decide) (by decide)).mono ?_
  rintro e w' ⟨rfl, rfl⟩
  rw [v2]
  go_wp2_with fail
  refine (mulI16 (-300) 300 _ (by decide) (by decide) (by decide) (by decide)).mono ?_
  rintro e w' ⟨rfl, rfl⟩
  rw [v3]
  go_wp2_with fail
  refine (toI8I64 (-999) _ (by decide) (by decide)).mono ?_
  rintro e w' ⟨rfl, rfl⟩
  rw [v4]
  go_wp2_with fail
  refine (cd _ _ _ (by simp) (by simp)).mono ?_
  rintro e w' ⟨rfl, rfl⟩
  go_wp2_with fail
  go_ret
  exact ⟨rfl, (Up.refl _).alloc _⟩

end Go.Proofs.Ythanbiblikkimab
