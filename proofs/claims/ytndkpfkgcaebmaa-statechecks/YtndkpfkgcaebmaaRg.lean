/-
  The document's Check, May and Where, given what it makes of the list of things.
-/
import Derived.Test.YtndkpfkgcaebmaaRf
import Derived.Test.YtndkpfkgcaebmaaWh
namespace Go.Proofs.Ytndkpfkgcaebmaa
open Go.RowKit
attribute [local go_sem ↓] Go.wp_at_zero Go.wp_at_succ

namespace ST
def bvs (l : List Bool) : List Value := l.map (fun b => .bool b)
theorem bvs_get (l : List Bool) (i : Nat) (hi : i < l.length) : (bvs l)[i]? = some (.bool (l.getD i false)) := by
  simp [bvs, List.getD_eq_getElem?_getD, List.getElem?_eq_getElem hi]
def BL (W : World) (v : Value) (l : List Bool) : Prop := LC W v 1 l.length (bvs l)
/- things answers a list of which the first that is not so is ff s -/
def ThingsOk (s : Stt) : Prop := ∀ v w, StL w v s → Calls Try.prog 29 #[v] w fun e w' => ∃ x l, e = .returned x ∧ BL w' x l ∧ l.findIdx? (fun b => !b) = ff s ∧ l.length ≤ 4294967296 ∧ Up w w'
set_option maxRecDepth 100000 in
set_option maxHeartbeats 4000000 in
theorem rcheck_ (v : Value) (s : Stt) (w : World) (hs : StL w v s) (ht : ThingsOk s) :
    Calls Try.prog 10 #[v] w fun e w' => e = .returned (ckV (ff s)) ∧ Up w w' := by
  obtain ⟨Post, hPost⟩ : ∃ P : Ending → World → Prop, P = fun e w' => e = .returned (ckV (ff s)) ∧ Up w w' := ⟨_, rfl⟩
  rw [← hPost]
  have HP : Hid (Post = fun e w' => e = .returned (ckV (ff s)) ∧ Up w w') := hPost
  have hc := ht v _ (hs.up ((Up.refl w).alloc (.cells v.cells 27)))
  obtain ⟨vp, vc, vz, rfl, -, -, -⟩ := hs
  unfold sv at hc ⊢
  have HC : Hid _ := hc
  clear hc ht hPost
  go_enter Try.func10, Try.ntmps10
  go_wp2_with fail
  refine Calls.mono HC.out ?_
  rintro e w1 ⟨x, l, rfl, hx, hf, hn, u1⟩
  have HU : Hid (Up w w1) := ((Up.refl w).alloc _).trans u1
  obtain ⟨a1, k1, rfl, -, h1⟩ := lc_at hx
  have H1 : Hid (∀ i, i < l.length → ∃ b o, a1 = some ⟨b, o, none⟩ ∧ w1.cell? ⟨b, o + i, none⟩ = some (.bool (l.getD i false))) := fun i hi => by
    obtain ⟨b, o, ha, -, hcell⟩ := h1 (by omega)
    exact ⟨b, o, ha, by rw [hcell w1 (Up.refl _) i (by omega)]; exact bvs_get l i hi⟩
  have HF : Hid (l.findIdx? (fun b => !b) = ff s) := hf
  obtain ⟨n, hn0⟩ : ∃ n, n = l.length := ⟨_, rfl⟩
  have HN : Hid (n = l.length) := hn0
  rw [← hn0] at hn H1 ⊢
  clear HC hx h1 hf u1 hn0
  go_wp2_with fail
  go_loopw [2, 3, 5] (fun s2 s3 s5 W => ∃ i : Nat, i ≤ n ∧ s2 = .int .i64 0 ∧ s3 = .int .i64 0 ∧ s5 = .int .i64 i ∧ W = w1 ∧ ∀ j, j < i → l.getD j false = true) (fun _ _ s5 _ => n - (intOf s5).toNat)
  case atStart => exact ⟨0, Nat.zero_le _, rfl, rfl, rfl, rfl, fun j hj => by omega⟩
  case round =>
    obtain ⟨i, hi, rfl, rfl, rfl, rfl, hj⟩ := hrel
    have HJ : Hid (∀ j, j < i → l.getD j false = true) := hj
    clear hj
    by_cases hlt : i < n
    · have hlt2 : (i : Int) < (n : Int) := by omega
      obtain ⟨b, o, rfl, x1⟩ := H1.out i hlt
      have HY : Hid ((l.getD i false = true → ∀ j, j < i + 1 → l.getD j false = true) ∧ (l.getD i false = false → ff s = some i)) := ⟨fun e j hj => by
        by_cases ej : j = i
        · subst ej; exact e
        · exact HJ.out j (by omega), fun e => by rw [← HF.out]; exact findIdx_at l (fun b => b) false i (by rw [← HN.out]; exact hlt) HJ.out e⟩
      clear HJ
      generalize l.getD i false = y at x1 HY
      cases y
      · have HR : Hid (ff s = some i) := HY.out.2 rfl
        clear HY
        go_wp2
        rw [HP.out, HR.out]
        exact ⟨rfl, HU.out⟩
      · have HR : Hid _ := HY.out.1 rfl
        clear HY
        go_wp2_with fail
        go_roundw
        case rel => exact ⟨i + 1, by omega, rfl, rfl, by go_num, by first | rfl | trivial, HR.out⟩
        case measure => simp [intOf]; omega
    · have hlt2 : ¬ (i : Int) < (n : Int) := by omega
      have HR : Hid (ff s = none) := by unfold Hid; rw [← HF.out]; exact findIdx_no l (fun b => b) false (fun j hj => HJ.out j (by have := HN.out; omega))
      clear HJ
      go_wp2
      rw [HP.out, HR.out]
      exact ⟨rfl, HU.out⟩
set_option maxHeartbeats 2000000 in
theorem rmay_ (v : Value) (s : Stt) (w : World) (hs : StL w v s) (ht : ThingsOk s) :
    Calls Try.prog 38 #[v] w fun e w' => e = .returned (.bool (decide (ff s = none))) ∧ Up w w' := by
  have hc := rcheck_ v s _ (hs.up ((Up.refl w).alloc (.cells v.cells 27))) ht
  obtain ⟨vp, vc, vz, rfl, -, -, -⟩ := hs
  cases hff : ff s with
  | none =>
    rw [hff] at hc
    unfold ckV sv at hc
    have HC : Hid _ := hc
    clear hc hff ht
    unfold sv
    go_enter Try.func38, Try.ntmps38
    go_wp2_with fail
    refine Calls.mono HC.out ?_
    rintro e w1 ⟨rfl, u1⟩
    clear HC
    have HU : Hid (Up w w1) := ((Up.refl w).alloc _).trans u1
    clear u1
    go_wp2
    go_ret
    exact ⟨rfl, HU.out⟩
  | some k =>
    rw [hff] at hc
    unfold ckV sv at hc
    have HC : Hid _ := hc
    clear hc hff ht
    unfold sv
    go_enter Try.func38, Try.ntmps38
    go_wp2_with fail
    refine Calls.mono HC.out ?_
    rintro e w1 ⟨rfl, u1⟩
    clear HC
    have HU : Hid (Up w w1) := ((Up.refl w).alloc _).trans u1
    clear u1
    go_wp2
    go_ret
    exact ⟨rfl, HU.out⟩
end ST
end Go.Proofs.Ytndkpfkgcaebmaa
