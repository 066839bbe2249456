/-
  A tree is let by, and one that is none is not.
-/
import Derived.Test.YtgahdppcdeefaaaNc9
import Derived.Test.YtgahdppcdeefaaaNe9
import Derived.Test.YtgahdppcdeefaaaNf9
namespace Go.Proofs.Ytgahdppcdeefaaa
open Go.RowKit
attribute [local go_sem ↓] Go.wp_at_zero Go.wp_at_succ
namespace TR
theorem nl_nil (W : World) : NLs W (.slice none 0 0) [] := ⟨rfl, none, 0, rfl, Nat.le_refl _, fun h => absurd rfl h⟩
def lbl : List Nd := [⟨10, 0, 0, 0, [], 0, 1⟩, ⟨19, 0, 0, 0, wdraw, 0, 1⟩, ⟨33, 0, 0, 0, wme, 0, 0⟩]
theorem one_ltr : oneL [] lbl = ltr := by decide +kernel
theorem ltr_byt : ∀ a ∈ ltr, Byt a.text := by
  intro a ha
  have h : ltr.all (fun a => a.text.all fun c => decide (0 ≤ c) && decide (c < 256)) = true := by decide +kernel
  intro c hc
  have h2 := List.all_eq_true.1 (List.all_eq_true.1 h a ha) c hc
  simpa using h2
theorem ltr_kid : ∀ a ∈ ltr, a.kids ≤ 9223372036854775807 := by
  intro a ha
  have h : ltr.all (fun a => decide (a.kids ≤ 9223372036854775807)) = true := by decide +kernel
  simpa using List.all_eq_true.1 h a ha
theorem nl_take {W : World} {g n c k : Nat} {l : List Nd} (h : NLs W (.slice (some ⟨g, 0, none⟩) n c) l) (hn : n = l.length) (hk : k ≤ n) (hc : n ≤ c) (h0 : l.length ≠ 0) : NLs W (.slice (some ⟨g, 0, none⟩) k c) (l.take k) := by
  have hl : (l.take k).length = k := by rw [List.length_take]; omega
  obtain ⟨h1, a, c', h2, -, h3⟩ := h
  simp only [Value.slice.injEq] at h2
  obtain ⟨rfl, -, rfl⟩ := h2
  obtain ⟨b, off, h4, h5⟩ := h3 h0
  refine ⟨by rw [nvs_len], _, c, by rw [hl], by omega, fun _ => ⟨b, off, h4, fun j hj => ?_⟩⟩
  rw [hl] at hj
  rw [h5 j (by have : k * 7 ≤ l.length * 7 := Nat.mul_le_mul_right _ (by omega); omega)]
  have e : nvs l = nvs (l.take k) ++ nvs (l.drop k) := by rw [← nvs_app, List.take_append_drop]
  rw [e, List.getElem?_append_left (by rw [nvs_len, hl]; omega)]
theorem sam_self (l : List Nd) : sam l l = true := by unfold sam; simp
set_option maxRecDepth 100000 in
set_option maxHeartbeats 8000000 in
theorem lives_ (w : World) : Calls Try.prog 18 #[] w fun e w' => e = .returned (.bool true) ∧ Up w w' := by
  obtain ⟨Post, hPost⟩ : ∃ P : Ending → World → Prop, P = fun e w' => e = .returned (.bool true) ∧ Up w w' := ⟨_, rfl⟩
  rw [← hPost]
  have HPo : Hid (Post = fun e w' => e = .returned (.bool true) ∧ Up w w') := hPost
  clear hPost
  have HON : Hid (Calls Try.prog 24 #[.slice none 0 0, .slice (some ⟨w.heap.size, 0, none⟩) 3 3] (w.alloc (.cells #[.int .i8 10, .int .i8 0, .int .i64 0, .int .i64 0, .string ⟨#[]⟩, .int .i64 0, .int .i64 1, .int .i8 19, .int .i8 0, .int .i64 0, .int .i64 0, .string ⟨#[100, 114, 97, 119]⟩, .int .i64 0, .int .i64 1, .int .i8 33, .int .i8 0, .int .i64 0, .int .i64 0, .string ⟨#[109, 101]⟩, .int .i64 0, .int .i64 0] 33)) fun e w' => ∃ g c, e = .returned (.slice (some ⟨g, 0, none⟩) 6 c) ∧ 6 ≤ c ∧ NLs w' (.slice (some ⟨g, 0, none⟩) 6 c) ltr ∧ Up w w') := by
    have h1 : (w.alloc (.cells #[.int .i8 10, .int .i8 0, .int .i64 0, .int .i64 0, .string ⟨#[]⟩, .int .i64 0, .int .i64 1, .int .i8 19, .int .i8 0, .int .i64 0, .int .i64 0, .string ⟨#[100, 114, 97, 119]⟩, .int .i64 0, .int .i64 1, .int .i8 33, .int .i8 0, .int .i64 0, .int .i64 0, .string ⟨#[109, 101]⟩, .int .i64 0, .int .i64 0] 33)).ownsRow w.heap.size 33 7 (.slice (some ⟨w.heap.size, 0, none⟩) 3 3) 3 (nvs lbl) := World.ownsRow_lit (base := w.heap.size) w #[.int .i8 10, .int .i8 0, .int .i64 0, .int .i64 0, .string ⟨#[]⟩, .int .i64 0, .int .i64 1, .int .i8 19, .int .i8 0, .int .i64 0, .int .i64 0, .string ⟨#[100, 114, 97, 119]⟩, .int .i64 0, .int .i64 1, .int .i8 33, .int .i8 0, .int .i64 0, .int .i64 0, .string ⟨#[109, 101]⟩, .int .i64 0, .int .i64 0] 3 (Nat.le_refl _) (by unfold maxLen; omega) rfl
    refine (one_ _ _ [] lbl _ (nl_nil _) (own_nl h1) (by decide) (by decide)).mono ?_
    rintro e w' ⟨v', rfl, h2, h3⟩
    rw [one_ltr] at h2
    obtain ⟨g, c, -, h4, rfl⟩ := row_some h2 (by decide)
    exact ⟨g, c, rfl, h4, own_nl h2, ((Up.refl w).alloc _).trans h3⟩
  go_enter Try.func18, Try.ntmps18
  go_wp2_with fail
  refine Calls.mono HON.out ?_
  rintro r W1 ⟨g, c, rfl, hc, hl, hu⟩
  have HU1 : Hid (Up w W1) := hu
  have HL : Hid (NLs W1 (.slice (some ⟨g, 0, none⟩) 6 c) ltr) := hl
  have HL5 : Hid (NLs W1 (.slice (some ⟨g, 0, none⟩) 5 c) (ltr.take 5)) := nl_take hl rfl (by decide) hc (by decide)
  have HCK : Hid (∀ W, Up W1 W → Calls Try.prog 10 #[.slice (some ⟨g, 0, none⟩) 6 c] W fun e w' => e = .returned (.tuple #[.int .i64 0, .int .i64 0]) ∧ Up W w') := fun W u => (check_ _ ltr W (hl.up u) ltr_byt ltr_kid (by decide)).mono fun e w' ⟨h1, h2⟩ => ⟨by rw [h1, show ckE ltr = 0 by unfold ckE; rw [ltr_wlk]; rfl, show ckA ltr = 0 by unfold ckA; rw [ltr_wlk]]; rfl, h2⟩
  have HC5 : Hid (∀ W, Up W1 W → Calls Try.prog 10 #[.slice (some ⟨g, 0, none⟩) 5 c] W fun e w' => e = .returned (.tuple #[.int .i64 24, .int .i64 5]) ∧ Up W w') := fun W u => (check_ _ (ltr.take 5) W (HL5.out.up u) (fun a ha => ltr_byt a (List.mem_of_mem_take ha)) (fun a ha => ltr_kid a (List.mem_of_mem_take ha)) (by decide)).mono fun e w' ⟨h1, h2⟩ => ⟨by rw [h1, show ckE (ltr.take 5) = 24 by unfold ckE; rw [ltr_cut]; rfl, show ckA (ltr.take 5) = 5 by unfold ckA; rw [ltr_cut]]; rfl, h2⟩
  have HKI : Hid (∀ W, Up W1 W → Calls Try.prog 23 #[.slice (some ⟨g, 0, none⟩) 6 c, .int .i64 4] W fun e w' => ∃ g2 c2, e = .returned (.slice (some ⟨g2, 0, none⟩) 1 c2) ∧ 1 ≤ c2 ∧ w'.cell? ⟨g2, 0, none⟩ = some (.int .i64 5) ∧ Up W w') := fun W u => (kids_ _ ltr 4 W (hl.up u) (by decide) (by decide)).mono fun e w' ⟨v', h1, h2, h3⟩ => by
    rw [ltr_kds] at h2
    obtain ⟨g2, c2, -, h4, rfl⟩ := row_some h2 (by decide)
    exact ⟨g2, c2, h1, h4, by rw [h2.cellAt 0 (by decide)]; rfl, h3⟩
  have HDP : Hid (∀ W, Up W1 W → Calls Try.prog 11 #[.slice (some ⟨g, 0, none⟩) 6 c] W fun e w' => e = .returned (.int .i64 2) ∧ Up W w') := fun W u => (depth_ _ ltr W (hl.up u) ltr_byt ltr_kid (by decide)).mono fun e w' ⟨h1, h2⟩ => ⟨by rw [h1, show dpt ltr = 2 by unfold dpt; rw [ltr_wlk]]; rfl, h2⟩
  have HWT : Hid (∀ W, Up W1 W → Calls Try.prog 12 #[.slice (some ⟨g, 0, none⟩) 6 c] W fun e w' => e = .returned (.int .i64 3) ∧ Up W w') := fun W u => (weight_ _ ltr W (hl.up u) ltr_byt ltr_kid (by decide)).mono fun e w' ⟨h1, h2⟩ => ⟨by rw [h1, ltr_wgt], h2⟩
  have HBH : Hid (∀ W, Up W1 W → Calls Try.prog 22 #[.slice (some ⟨g, 0, none⟩) 6 c, .int .i64 3] W fun e w' => e = .returned (.int .i64 6) ∧ w' = W) := fun W u => (behind_ _ ltr 3 W (hl.up u) (by decide) (by decide)).mono fun e w' ⟨h1, h2⟩ => ⟨by rw [h1, ltr_bhd], h2⟩
  have HSA : Hid (∀ W, Up W1 W → Calls Try.prog 20 #[.slice (some ⟨g, 0, none⟩) 6 c, .slice (some ⟨g, 0, none⟩) 6 c] W fun e w' => e = .returned (.bool true) ∧ Up W w') := fun W u => (same_ _ _ ltr ltr W (hl.up u) (hl.up u) (by decide) (by decide) ltr_byt ltr_byt).mono fun e w' ⟨h1, h2⟩ => ⟨by rw [h1, sam_self], h2⟩
  have hc5 : (5 : Int) ≤ (c : Int) := by omega
  have hc5n : 5 ≤ c := by omega
  clear hl hu HON
  go_wp2_with fail
  refine Calls.mono (HCK.out _ (Up.refl _)) ?_
  rintro r W2 ⟨rfl, u2⟩
  have HU2 : Hid (Up W1 W2) := u2
  clear u2 HCK
  go_wp2_with fail
  refine Calls.mono (HC5.out _ HU2.out) ?_
  rintro r W3 ⟨rfl, u3⟩
  have HU3 : Hid (Up W1 W3) := HU2.out.trans u3
  clear u3 HC5
  go_wp2_with fail
  refine Calls.mono (HKI.out _ HU3.out) ?_
  rintro r W4 ⟨g2, c2, rfl, hc2, x0, u4⟩
  have HU4 : Hid (Up W1 W4) := HU3.out.trans u4
  have HX0 : Hid (W4.cell? ⟨g2, 0, none⟩ = some (.int .i64 5)) := x0
  clear u4 x0 HKI
  go_wp2_with fail
  refine Calls.mono (HDP.out _ HU4.out) ?_
  rintro r W5 ⟨rfl, u5⟩
  have HU5 : Hid (Up W1 W5) := HU4.out.trans u5
  have HX5 : Hid (W5.cell? ⟨g2, 0, none⟩ = some (.int .i64 5)) := u5.cell HX0.out
  clear u5 HDP
  go_wp2_with fail
  refine Calls.mono (HWT.out _ HU5.out) ?_
  rintro r W6 ⟨rfl, u6⟩
  have HU6 : Hid (Up W1 W6) := HU5.out.trans u6
  have x0 := u6.cell HX5.out
  clear u6 HWT
  go_wp2_with fail
  refine Calls.mono (HBH.out _ HU6.out) ?_
  rintro r W7 ⟨rfl, rfl⟩
  clear HBH
  go_wp2_with fail
  refine Calls.mono (HSA.out _ HU6.out) ?_
  rintro r W8 ⟨rfl, u8⟩
  have HU8 : Hid (Up w W8) := HU1.out.trans (HU6.out.trans u8)
  clear u8 HSA
  go_wp2_with fail
  rw [HPo.out]
  exact ⟨rfl, HU8.out⟩
end TR
end Go.Proofs.Ytgahdppcdeefaaa
