/-
  Decks that came in; may a game begin with them; numbers in a row.
-/
import Derived.Test.YtndkpfkgcaebmaaDoorCt
namespace Go.Proofs.YtndkpfkgcaebmaaDoor
open Go.RowKit
attribute [local go_sem ↓] Go.wp_at_zero Go.wp_at_succ

namespace ST
def DL (W : World) (v : Value) (ds : List (List Crd)) : Prop := ∃ vs : List Value, LC W v 1 ds.length vs ∧ ∀ i, i < ds.length → CLs W (vs.getD i nl) (ds.getD i [])
theorem DL.up {W W' : World} {v : Value} {ds : List (List Crd)} (h : DL W v ds) (u : Up W W') : DL W' v ds := by
  obtain ⟨vs, h1, h2⟩ := h
  exact ⟨vs, h1.up u, fun i hi => (h2 i hi).up u⟩
theorem dl_at {w : World} {v : Value} {ds : List (List Crd)} (h : DL w v ds) : ∃ a cap, v = .slice a ds.length cap ∧ ds.length ≤ cap ∧ (ds.length ≠ 0 → ∃ b off, a = some ⟨b, off, none⟩ ∧ ∀ r, r < ds.length → ∃ ra rc, (∀ W, Up w W → W.cell? ⟨b, off + r, none⟩ = some (.slice ra (ds.getD r []).length rc)) ∧ CLs w (.slice ra (ds.getD r []).length rc) (ds.getD r [])) := by
  obtain ⟨vs, h, h2⟩ := h
  have hl := h.1
  obtain ⟨a, cap, hv, hc, h⟩ := lc_at h
  refine ⟨a, cap, hv, hc, fun hn => ?_⟩
  obtain ⟨b, off, ha, -, hcell⟩ := h hn
  refine ⟨b, off, ha, fun r hr => ?_⟩
  have hi := h2 r hr
  obtain ⟨ra, rc, e, -, -⟩ := lc_at hi
  refine ⟨ra, rc, fun W hu => ?_, by rw [e] at hi; exact hi⟩
  rw [hcell W hu r (by omega), List.getElem?_eq_getElem (by omega), ← e, List.getD_eq_getElem?_getD, List.getElem?_eq_getElem (by omega)]
  rfl
theorem all_at {A : Type} (l : List A) (f : A → Bool) (d : A) (h : ∀ j, j < l.length → f (l.getD j d) = true) : l.all f = true := by
  rw [List.all_eq_true]
  intro x hx
  obtain ⟨j, hj, rfl⟩ := List.getElem_of_mem hx
  have := h j hj
  rwa [List.getD_eq_getElem?_getD, List.getElem?_eq_getElem hj] at this
theorem all_no {A : Type} (l : List A) (f : A → Bool) (d : A) (i : Nat) (hi : i < l.length) (h : f (l.getD i d) = false) : l.all f = false := by
  rw [Bool.eq_false_iff]
  intro ha
  rw [List.all_eq_true] at ha
  have := ha (l.getD i d) (by rw [List.getD_eq_getElem?_getD, List.getElem?_eq_getElem hi]; exact List.getElem_mem _)
  rw [h] at this
  cases this
theorem tot_next (ds : List (List Crd)) (z : Nat) (hz : z < ds.length) : total (ds.take (z + 1)) = total (ds.take z) + (ds.getD z []).length := by
  unfold total
  rw [List.take_add_one, List.getElem?_eq_getElem hz, List.flatten_append, List.length_append, List.getD_eq_getElem?_getD, List.getElem?_eq_getElem hz]
  simp
set_option maxRecDepth 100000 in
set_option maxHeartbeats 4000000 in
theorem decksFit_ (v : Value) (ds : List (List Crd)) (w : World) (hv : DL w v ds) (hn : ds.length ≤ 140737488355328) (hl : ∀ r, r < ds.length → (ds.getD r []).length ≤ 140737488355328) :
    Calls Tryd.prog 66 #[v] w fun e w' => e = .returned (.bool (decksB ds)) ∧ Up w w' := by
  obtain ⟨a3, k3, rfl, -, c3⟩ := dl_at hv
  obtain ⟨n, hn0⟩ : ∃ n, n = ds.length := ⟨_, rfl⟩
  obtain ⟨R, hR⟩ : ∃ R, R = decksB ds := ⟨_, rfl⟩
  have HR : Hid (R = (npB n && ncB (total ds) && ds.all (fun d => d.all crd0B))) := by unfold Hid; rw [hR, hn0]; rfl
  rw [← hR]
  rw [← hn0] at hn hl c3 ⊢
  have HC : Hid _ := c3
  have HL : Hid _ := hl
  have HN : Hid (n = ds.length) := hn0
  clear hv c3 hl hn0 hR
  cases hp : npB n
  · have HF : Hid (R = false) := by unfold Hid; rw [HR.out, hp]; rfl
    clear HR
    go_enter Tryd.func66, Tryd.ntmps66
    go_wp2_with fail
    refine Calls.mono (playersFitB _ false hp _) ?_
    rintro e w1 ⟨rfl, rfl⟩
    go_wp2
    go_ret
    exact ⟨by rw [HF.out]; rfl, Up.refl _⟩
  · have hn4 : n ≤ 4 := by simp [npB] at hp; omega
    go_enter Tryd.func66, Tryd.ntmps66
    go_wp2_with fail
    refine Calls.mono (playersFitB _ true hp _) ?_
    rintro e w1 ⟨rfl, rfl⟩
    go_wp2_with fail
    go_loopw [3, 16] (fun s3 s16 W => ∃ i m : Nat, i ≤ n ∧ s16 = .int .i64 i ∧ s3 = .int .i64 m ∧ W = w1 ∧ m = total (ds.take i) ∧ m ≤ i * 140737488355328) (fun _ s16 _ => n - (intOf s16).toNat)
    case atStart => exact ⟨0, 0, Nat.zero_le _, rfl, rfl, rfl, rfl, by omega⟩
    case round =>
      obtain ⟨i, m, hi, rfl, rfl, rfl, hm, hmb⟩ := hrel
      have HM : Hid (m = total (ds.take i)) := hm
      clear hm
      by_cases hlt : i < n
      · have hlt2 : (i : Int) < (n : Int) := by omega
        obtain ⟨b3, o3, rfl, hrow⟩ := HC.out (by omega)
        obtain ⟨ra, rc, hcell, -⟩ := hrow i hlt
        have x1 := hcell _ (Up.refl _)
        have hlen := HL.out i hlt
        have HF : Hid (m + (ds.getD i []).length = total (ds.take (i + 1))) := by unfold Hid; rw [HM.out]; exact (tot_next ds i (by rw [← HN.out]; exact hlt)).symm
        clear hcell hrow HM
        generalize (ds.getD i []).length = q at x1 hlen HF
        go_wp2_with fail
        go_roundw
        case rel => exact ⟨i + 1, m + q, by omega, by go_num, by go_num, by first | rfl | trivial, HF.out, by omega⟩
        case measure => simp [intOf]; omega
      · have hlt2 : ¬ (i : Int) < (n : Int) := by omega
        have HMt : Hid (m = total ds) := by unfold Hid; rw [HM.out, List.take_of_length_le (by rw [← HN.out]; omega)]
        clear HM
        cases hc : ncB m
        · have HF : Hid (R = false) := by unfold Hid; rw [HR.out, ← HMt.out, hc]; simp
          clear HR
          go_wp2_with fail
          refine Calls.mono (cardsFitB _ false hc _) ?_
          rintro e w1 ⟨rfl, rfl⟩
          go_wp2
          go_ret
          exact ⟨by rw [HF.out]; rfl, Up.refl _⟩
        · have HR2 : Hid (R = ds.all (fun d => d.all crd0B)) := by unfold Hid; rw [HR.out, ← HMt.out, hp, hc]; simp
          clear HR hmb
          go_wp2_with fail
          refine Calls.mono (cardsFitB _ true hc _) ?_
          rintro e w2 ⟨rfl, rfl⟩
          go_wp2_with fail
          go_loopw [2, 30] (fun s2 s30 W => ∃ z : Nat, z ≤ n ∧ s30 = .int .i64 z ∧ s2 = .bool false ∧ Up w2 W ∧ ∀ j, j < z → (ds.getD j []).all crd0B = true) (fun _ s30 _ => n - (intOf s30).toNat)
          case atStart => exact ⟨0, Nat.zero_le _, rfl, rfl, Up.refl _, fun j hj => by omega⟩
          case round =>
            obtain ⟨z, hz, rfl, rfl, hu, hj⟩ := hrel
            have HU : Hid (Up w2 wr) := hu
            have HJ : Hid (∀ j, j < z → (ds.getD j []).all crd0B = true) := hj
            clear hu hj
            by_cases hlt3 : z < n
            · have hlt4 : (z : Int) < (n : Int) := by omega
              obtain ⟨b3, o3, rfl, hrow⟩ := HC.out (by omega)
              obtain ⟨ra, rc, hcell, hcl⟩ := hrow z hlt3
              have x1 := hcell _ HU.out
              have hlen := HL.out z hlt3
              obtain ⟨_, _, hra, -, hin⟩ := cl_at hcl
              cases hra
              have HBad : Hid (∀ q, q < (ds.getD z []).length → crd0B ((ds.getD z []).getD q dc) = false → R = false) := fun q hq h => by rw [HR2.out]; exact all_no ds _ [] z (by rw [← HN.out]; exact hlt3) (all_no _ crd0B dc q hq h)
              have HOk : Hid ((∀ q, q < (ds.getD z []).length → crd0B ((ds.getD z []).getD q dc) = true) → ∀ j, j < z + 1 → (ds.getD j []).all crd0B = true) := fun h j hj => by
                by_cases e : j = z
                · subst e; exact all_at _ crd0B dc h
                · exact HJ.out j (by omega)
              clear hcell hrow hcl HJ
              obtain ⟨r, hr⟩ : ∃ r, r = ds.getD z [] := ⟨_, rfl⟩
              rw [← hr] at x1 hlen hin HBad HOk
              obtain ⟨q, hq⟩ : ∃ q, q = r.length := ⟨_, rfl⟩
              rw [← hq] at x1 hlen hin HBad HOk
              have HIn : Hid _ := hin
              clear hr hq hin
              go_wp2_with fail
              go_loopw [2, 36] (fun s2 s36 W => ∃ i : Nat, i ≤ q ∧ s36 = .int .i64 i ∧ s2 = .bool false ∧ Up w2 W ∧ ∀ j, j < i → crd0B (r.getD j dc) = true) (fun _ s36 _ => q - (intOf s36).toNat)
              case atStart => exact ⟨0, Nat.zero_le _, rfl, rfl, HU.out, fun j hj => by omega⟩
              case round =>
                obtain ⟨i, hiq, rfl, rfl, hu, hj⟩ := hrel
                clear HU x1
                have HU : Hid (Up w2 wr) := hu
                have HJ : Hid (∀ j, j < i → crd0B (r.getD j dc) = true) := hj
                clear hu hj
                by_cases hlt5 : i < q
                · have hlt6 : (i : Int) < (q : Int) := by omega
                  obtain ⟨b4, o4, rfl, hc4⟩ := HIn.out (by omega)
                  obtain ⟨x1, x2, x3, x4, x5, x6⟩ := hc4 wr HU.out i hlt5
                  clear hc4
                  have HY : Hid ((crd0B (r.getD i dc) = false → R = false) ∧ (crd0B (r.getD i dc) = true → ∀ j, j < i + 1 → crd0B (r.getD j dc) = true)) := ⟨HBad.out i hlt5, fun h j hj => by
                    by_cases e : j = i
                    · subst e; exact h
                    · exact HJ.out j (by omega)⟩
                  clear HJ
                  generalize r.getD i dc = c at x1 x2 x3 x4 x5 x6 HY
                  obtain ⟨ki, ow, po, he, da, ma⟩ := c
                  simp only at x1 x2 x3 x4 x5 x6
                  cases q1 : crd0B ⟨ki, ow, po, he, da, ma⟩
                  · have HF : Hid (R = false) := HY.out.1 q1
                    have HCf : Hid _ := cardFitsB _ false q1
                    clear HY q1
                    unfold cag at HCf
                    go_wp2_with fail
                    refine Calls.mono (HCf.out _) ?_
                    rintro e9 w9 ⟨rfl, u9⟩
                    have HU9 : Hid (Up w2 w9) := by
                      refine Up.trans (HU.out.trans ?_) u9
                      repeat (first | with_reducible exact Up.refl _ | with_reducible apply Up.alloc | with_reducible apply Up.drewN | with_reducible apply Up.drew | with_reducible refine Up.set ?_ _ _ (by first | exact Nat.le_refl _ | exact Nat.le_succ _ | (simp; omega)))
                    clear u9
                    go_wp2
                    go_ret
                    exact ⟨by rw [HF.out]; rfl, HU9.out⟩
                  · have HF : Hid (∀ j, j < i + 1 → crd0B (r.getD j dc) = true) := HY.out.2 q1
                    have HCf : Hid _ := cardFitsB _ true q1
                    clear HY q1
                    unfold cag at HCf
                    go_wp2_with fail
                    refine Calls.mono (HCf.out _) ?_
                    rintro e9 w9 ⟨rfl, u9⟩
                    have HU9 : Hid (Up w2 w9) := by
                      refine Up.trans (HU.out.trans ?_) u9
                      repeat (first | with_reducible exact Up.refl _ | with_reducible apply Up.alloc | with_reducible apply Up.drewN | with_reducible apply Up.drew | with_reducible refine Up.set ?_ _ _ (by first | exact Nat.le_refl _ | exact Nat.le_succ _ | (simp; omega)))
                    clear u9
                    go_wp2_with fail
                    go_roundw
                    case rel => exact ⟨i + 1, by omega, by go_num, rfl, HU9.out, HF.out⟩
                    case measure => simp [intOf]; omega
                · have hlt6 : ¬ (i : Int) < (q : Int) := by omega
                  have hiq2 : i = q := by omega
                  subst hiq2
                  have HF : Hid (∀ j, j < z + 1 → (ds.getD j []).all crd0B = true) := HOk.out HJ.out
                  clear HJ
                  go_wp2_with fail
                  go_roundw
                  case rel => exact ⟨z + 1, by omega, by go_num, rfl, HU.out, HF.out⟩
                  case measure => simp [intOf]; omega
            · have hlt4 : ¬ (z : Int) < (n : Int) := by omega
              have HF : Hid (R = true) := by unfold Hid; rw [HR2.out]; exact all_at ds _ [] (fun j hj => HJ.out j (by have := HN.out; omega))
              clear HJ
              go_wp2
              go_ret
              exact ⟨by rw [HF.out]; rfl, HU.out⟩
end ST
end Go.Proofs.YtndkpfkgcaebmaaDoor
