
/-
  Sets of classes, and how far bytes belong.
-/
import Derived.Test.YtjjikeehifndhaaDoorCl8
import Derived.Test.YtjjikeehifndhaaDoorTail
namespace Go.Proofs.YtjjikeehifndhaaDoor
open Go.RowKit
attribute [local go_sem ↓] Go.wp_at_zero Go.wp_at_succ
namespace TK
theorem cls_in (c : Int) : clsI c = 0 ∨ clsI c = 1 ∨ clsI c = 2 ∨ clsI c = 3 ∨ clsI c = 4 ∨ clsI c = 5 ∨ clsI c = 6 ∨ clsI c = 7 := by
  unfold clsI
  split
  · simp
  · split
    · simp
    · split
      · simp
      · split
        · simp
        · split
          · simp
          · split
            · simp
            · split <;> simp
theorem prt_cls (c : Int) : prt c = (clsI c == 2 || clsI c == 3 || clsI c == 4 || clsI c == 5) := by
  unfold clsI prt
  by_cases h0 : blk c = true
  · have h1 : sml c = false ∧ grt c = false ∧ dig c = false ∧ (c == 95) = false := by
      unfold blk at h0
      simp only [Bool.or_eq_true, beq_iff_eq] at h0
      rcases h0 with ((h | h) | h) | h <;> subst h <;> decide
    rw [h1.1, h1.2.1, h1.2.2.1, h1.2.2.2, if_pos h0]
    decide
  · rw [if_neg h0]
    cases sml c with
    | true => simp
    | false =>
      cases grt c with
      | true => simp
      | false =>
        cases dig c with
        | true => simp
        | false =>
          cases h5 : (c == 95) with
          | true => simp
          | false =>
            simp only [Bool.false_eq_true, ↓reduceIte, Bool.or_false]
            split
            · rfl
            · split <;> rfl
theorem dig_cls (c : Int) : dig c = (clsI c == 4) := by
  unfold clsI
  by_cases h0 : dig c = true
  · have h1 : blk c = false ∧ sml c = false ∧ grt c = false := by
      unfold dig at h0
      simp only [Bool.and_eq_true, decide_eq_true_eq] at h0
      unfold blk sml grt
      refine ⟨?_, ?_, ?_⟩ <;> simp <;> omega
    rw [h1.1, h1.2.1, h1.2.2, h0]
    simp
  · have h2 : dig c = false := by simpa using h0
    rw [h2]
    split
    · rfl
    · split
      · rfl
      · split
        · rfl
        · simp only [Bool.false_eq_true, ↓reduceIte]
          split
          · rfl
          · split
            · rfl
            · split <;> rfl
set_option maxRecDepth 100000 in
set_option maxHeartbeats 4000000 in
theorem ofN_ (c : Int) (g : Nat) (w : World) (h : w.cell? ⟨g, 0, none⟩ = some (.int .u64 60)) : Calls Tryd.prog 91 #[.int .u8 c, .pointer (some ⟨g, 0, none⟩)] w fun e w' => e = .returned (.bool (prt c)) ∧ Up w w' := by
  rw [prt_cls]
  have HC : Hid (∀ W, Calls Tryd.prog 27 #[.int .u8 c] W fun e w' => e = .returned (.int .i64 (clsI c)) ∧ w' = W) := fun W => classOf_ c W
  have hin := cls_in c
  generalize clsI c = k at *
  rcases hin with rfl | rfl | rfl | rfl | rfl | rfl | rfl | rfl
  all_goals
    go_enter Tryd.func91, Tryd.ntmps91
    go_wp2_with fail
    go_quiet (exact Calls.quiet_of_same (HC.out _))
    go_wp2
    go_ret
    exact ⟨rfl, (Up.refl _).drewN _⟩
set_option maxRecDepth 100000 in
set_option maxHeartbeats 4000000 in
theorem ofD_ (c : Int) (g : Nat) (w : World) (h : w.cell? ⟨g, 0, none⟩ = some (.int .u64 16)) : Calls Tryd.prog 91 #[.int .u8 c, .pointer (some ⟨g, 0, none⟩)] w fun e w' => e = .returned (.bool (dig c)) ∧ Up w w' := by
  rw [dig_cls]
  have HC : Hid (∀ W, Calls Tryd.prog 27 #[.int .u8 c] W fun e w' => e = .returned (.int .i64 (clsI c)) ∧ w' = W) := fun W => classOf_ c W
  have hin := cls_in c
  generalize clsI c = k at *
  rcases hin with rfl | rfl | rfl | rfl | rfl | rfl | rfl | rfl
  all_goals
    go_enter Tryd.func91, Tryd.ntmps91
    go_wp2_with fail
    go_quiet (exact Calls.quiet_of_same (HC.out _))
    go_wp2
    go_ret
    exact ⟨rfl, (Up.refl _).drewN _⟩
set_option maxRecDepth 100000 in
set_option maxHeartbeats 4000000 in
theorem behind_ (k : Nat) (fst cap : Array Value) (f : Int → Bool) (v : Value) (B : List Int) (p : Nat) (w : World) (hB : BL w v B) (hp : p ≤ B.length) (hn : B.length ≤ 4611686018427387904)
    (hent : ∀ args w, (callFunc k args).run Tryd.prog w = .ok (.enter k args) w) (hask : ∀ W c, Up w W → Calls Tryd.prog k (fst.push (.int .u8 c) ++ cap) W fun e W' => e = .returned (.bool (f c)) ∧ Up W W') :
    Calls Tryd.prog 65 #[v, .int .i64 p, .func (.func k) fst cap] w fun e w' => e = .returned (.int .i64 (spn f B p)) ∧ Up w w' := by
  obtain ⟨Post, hPost⟩ : ∃ P : Ending → World → Prop, P = fun e w' => e = .returned (.int .i64 (spn f B p)) ∧ Up w w' := ⟨_, rfl⟩
  rw [← hPost]
  have HPo : Hid (Post = fun e w' => e = .returned (.int .i64 (spn f B p)) ∧ Up w w') := hPost
  clear hPost
  obtain ⟨a, c, rfl, -, hc⟩ := bl_cells hB
  obtain ⟨n, hN⟩ : ∃ n, n = B.length := ⟨_, rfl⟩
  have HN : Hid (n = B.length) := hN
  rw [← hN] at hp hn hc ⊢
  have HC : Hid (∀ W, Up w W → ∀ q, q < n → ∃ b off, a = some ⟨b, off, none⟩ ∧ W.cell? ⟨b, off + q, none⟩ = some (.int .u8 (B.getD q 0))) := fun W u q hq => by
    obtain ⟨b, off, ha, hcc⟩ := hc (by omega)
    exact ⟨b, off, ha, hcc W u q hq⟩
  have HA : Hid (∀ W c, Up w W → Calls Tryd.prog k (fst.push (.int .u8 c) ++ cap) W fun e W' => e = .returned (.bool (f c)) ∧ Up W W') := hask
  clear hB hc hask hN
  go_enter Tryd.func65, Tryd.ntmps65
  go_wp2_with fail
  go_loopw [1] (fun s1 W => ∃ q : Nat, q ≤ n ∧ s1 = .int .i64 q ∧ spn f B p = spn f B q ∧ Up w W) (fun s1 _ => n - (intOf s1).toNat)
  case atStart => exact ⟨p, hp, rfl, rfl, Up.refl _⟩
  case round =>
    obtain ⟨q, hq, rfl, hs, hu⟩ := hrel
    have HS : Hid (spn f B p = spn f B q ∧ Up w wr) := ⟨hs, hu⟩
    clear hs hu
    by_cases hlt : q < n
    · have hlt2 : (q : Int) < (n : Int) := by omega
      obtain ⟨b, off, rfl, hcell⟩ := HC.out wr HS.out.2 q hlt
      have ei : IntKind.i64.wrap ((q : Int) + 1) = ((q + 1 : Nat) : Int) := by rw [IntKind.wrap_i64]; omega
      have HQ : Hid (q < B.length) := by have := HN.out; unfold Hid; omega
      have HF : Hid (∀ y, y = f (B.getD q 0) → (y = true → spn f B q = spn f B (q + 1)) ∧ (y = false → spn f B q = q)) := fun y hy => ⟨fun h => spn_more HQ.out (by rw [← hy]; exact h), fun h => spn_stop HQ.out (by rw [← hy]; exact h)⟩
      have HA2 : Hid (Calls Tryd.prog k (fst.push (.int .u8 (B.getD q 0)) ++ cap) wr fun e W' => e = .returned (.bool (f (B.getD q 0))) ∧ Up wr W') := HA.out wr _ HS.out.2
      generalize hcv : B.getD q 0 = c9 at *
      clear hcv
      go_wp2_with fail
      refine Calls.mono HA2.out ?_
      rintro r W1 ⟨rfl, u⟩
      obtain ⟨y, hy⟩ : ∃ y, y = f c9 := ⟨_, rfl⟩
      have HY := HF.out y hy
      rw [← hy]
      have HS : Hid (spn f B p = spn f B q ∧ Up w W1) := ⟨HS.out.1, HS.out.2.trans u⟩
      clear hy u hcell HA2 HF
      cases y with
      | true =>
        have HY2 : Hid (spn f B q = spn f B (q + 1)) := HY.1 rfl
        clear HY
        go_wp2_with fail
        go_roundw
        case rel => exact ⟨q + 1, by omega, by go_num, by rw [HS.out.1, HY2.out], HS.out.2⟩
        case measure => simp [intOf]; omega
      | false =>
        have HY2 : Hid (spn f B q = q) := HY.2 rfl
        clear HY
        go_wp2_with fail
        rw [HPo.out]
        exact ⟨by rw [HS.out.1, HY2.out] <;> rfl, HS.out.2⟩
    · have hlt2 : ¬ (q : Int) < (n : Int) := by omega
      have HY2 : Hid (spn f B q = q) := spn_end (by have := HN.out; omega)
      go_wp2_with fail
      rw [HPo.out]
      exact ⟨by rw [HS.out.1, HY2.out] <;> rfl, HS.out.2⟩
end TK
end Go.Proofs.YtjjikeehifndhaaDoor
