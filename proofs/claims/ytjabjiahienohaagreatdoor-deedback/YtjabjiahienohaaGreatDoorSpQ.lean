/-
  Do the marks behind a list stand?
-/
import Derived.Test.YtjabjiahienohaaGreatDoorWsToRa
namespace Go.Proofs.YtjabjiahienohaaGreatDoor
open Go.RowKit
attribute [local go_sem ↓] Go.wp_at_zero Go.wp_at_succ

namespace ST
set_option maxRecDepth 100000 in
set_option maxHeartbeats 4000000 in
theorem spareInts_ (base : Nat) (v : Value) (l : List Int) (w : World) (hv : WI base w v l) (hn : l.length ≤ 4294967296) :
    Calls Tryz.prog 35 #[v] w fun e w' => e = .returned (.bool true) ∧ w' = w := by
  obtain ⟨g, -, rfl, h3⟩ := hv
  obtain ⟨n, hn0⟩ : ∃ n, n = l.length := ⟨_, rfl⟩
  have HC : Hid (∀ i, n ≤ i → i < n + 64 → w.cell? ⟨g, i, none⟩ = some (.int .i64 (numI i))) := fun i h1 h2 => by
    have : w.cell? ⟨g, i, none⟩ = (wIs l)[i]? := by simp [World.cell?, h3]
    rw [this, wIs_get l i (by omega), wI, if_neg (by omega)]
  rw [← hn0] at hn ⊢
  clear h3 hn0
  have e1 : (n : Int) + 64 ≤ (n : Int) + 64 := by omega
  have e2 : (0 : Int) ≤ (n : Int) + 64 := by omega
  have e3 : ((n : Int) + 64).toNat = n + 64 := by omega
  go_enter Tryz.func35, Tryz.ntmps35
  go_wp2_with fail
  go_loopw [2, 4] (fun s2 s4 wr => ∃ i : Nat, n ≤ i ∧ i ≤ n + 64 ∧ s2 = .bool false ∧ s4 = .int .i64 i ∧ wr = w) (fun _ s4 _ => n + 64 - (intOf s4).toNat)
  case atStart => exact ⟨n, Nat.le_refl _, by omega, rfl, rfl, rfl⟩
  case round =>
    obtain ⟨i, hi1, hi2, rfl, rfl, rfl⟩ := hrel
    by_cases hlt : i < n + 64
    · have hlt2 : (i : Int) < (n : Int) + 64 := by omega
      have x1 := HC.out i hi1 hlt
      have HNm : Hid _ := num_ i (by omega)
      generalize numI i = z at x1 HNm
      go_wp2_with fail
      refine Calls.mono (HNm.out _) ?_
      rintro e w2 ⟨rfl, rfl⟩
      go_wp2
      go_roundw
      case rel => exact ⟨i + 1, by omega, by omega, rfl, by go_num, by first | rfl | trivial⟩
      case measure => simp [intOf]; omega
    · have hlt2 : ¬ (i : Int) < (n : Int) + 64 := by omega
      go_wp2
      go_ret
      exact ⟨rfl, rfl⟩
end ST
end Go.Proofs.YtjabjiahienohaaGreatDoor
