
/-
  The whole bag: apart.
-/
import Derived.Test.YtoaaehgnbapibaaDoorBw
import Derived.Test.YtoaaehgnbapibaaDoorBkd
namespace Go.Proofs.YtoaaehgnbapibaaDoor.BG
open Go.RowKit

theorem noneAtBxd {w0 W : World} {lo gb B k : Nat} {f : Nat → Value} {L : Nat → VL} (h : BagP w0 lo gb B f L k W) (hk : k < 21) (hL : L k = []) : ∃ a m, W.cell? ⟨gb, k, none⟩ = some (.slice a 0 m) := by
  have hr := (h.kinds k (Nat.le_refl _) hk).row
  rw [hL] at hr
  obtain ⟨a, m, hv⟩ := row_val hr
  exact ⟨a, m, by rw [bag_cell h.blk k hk, hv]; rfl⟩
theorem apartBxd_ (W : World) (lo gb B : Nat) (f : Nat → Value) (L : Nat → VL) (h : BagG W lo gb B f L) (hl : lo ≤ gb) (hL : ∀ k, k < 21 → k ≠ 11 → L k = []) :
    Calls Tryd.prog 23 #[.pointer (some ⟨gb, 0, none⟩)] W fun e w' => e = .returned (.bool true) ∧ Below lo W w' := by
  have nn : ∀ {k : Nat} {n : Nat}, k < 21 → L k = [] → (∀ (a : Option Addr) (m : Nat) (w : World), w.cell? ⟨gb, k, none⟩ = some (.slice a 0 m) → Calls Tryd.prog n #[.pointer (some ⟨gb, 0, none⟩)] w fun e w' => e = .returned (.bool true) ∧ w' = w) → ∀ w, BagP W lo gb B f L k w → Calls Tryd.prog n #[.pointer (some ⟨gb, 0, none⟩)] w fun e w' => e = .returned (.bool true) ∧ BagP W lo gb B f L (k + 1) w' := fun {k n} hk hLk hc w hb => by
    obtain ⟨a, m, hm⟩ := noneAtBxd hb hk hLk
    refine (hc a m w hm).mono ?_
    rintro e w' ⟨rfl, rfl⟩
    exact ⟨rfl, hb.none⟩
  refine (apartAll gb (BagP W lo gb B f L)
    (nn (by decide) (hL 0 (by decide) (by decide)) (noneBytes gb))
    (nn (by decide) (hL 1 (by decide) (by decide)) (noneInts gb))
    (nn (by decide) (hL 2 (by decide) (by decide)) (noneLongs gb))
    (nn (by decide) (hL 3 (by decide) (by decide)) (noneWords gb))
    (nn (by decide) (hL 4 (by decide) (by decide)) (noneFloats gb))
    (nn (by decide) (hL 5 (by decide) (by decide)) (noneSmalls gb))
    (nn (by decide) (hL 6 (by decide) (by decide)) (noneTexts gb))
    (nn (by decide) (hL 7 (by decide) (by decide)) (nonePlayers gb))
    (nn (by decide) (hL 8 (by decide) (by decide)) (noneCards gb))
    (nn (by decide) (hL 9 (by decide) (by decide)) (noneTokens gb))
    (nn (by decide) (hL 10 (by decide) (by decide)) (noneNodes gb))
    (fun w hb => ?_)
    (nn (by decide) (hL 12 (by decide) (by decide)) (noneRows gb))
    (nn (by decide) (hL 13 (by decide) (by decide)) (noneShapes gb))
    (nn (by decide) (hL 14 (by decide) (by decide)) (noneEvents gb))
    (nn (by decide) (hL 15 (by decide) (by decide)) (noneValues gb))
    (nn (by decide) (hL 16 (by decide) (by decide)) (noneAbilities gb))
    (nn (by decide) (hL 17 (by decide) (by decide)) (noneDesigns gb))
    (nn (by decide) (hL 18 (by decide) (by decide)) (noneEffects gb))
    (nn (by decide) (hL 19 (by decide) (by decide)) (noneKinds gb))
    (nn (by decide) (hL 20 (by decide) (by decide)) (noneStates gb))
    W (h.part hl)).mono fun e w' h => ⟨h.1, h.2.rest⟩
  · obtain ⟨a, cap, b1, b2, b3, b4, b5, b6⟩ := hb.bag1 (by decide)
    refine (apartOp_ gb a _ cap lo _ w b1 b2 (b3 _) b4 b5 b6).mono ?_
    rintro e w' ⟨rfl, hx⟩
    exact ⟨rfl, hb.next (by decide) hx⟩
end Go.Proofs.YtoaaehgnbapibaaDoor.BG
