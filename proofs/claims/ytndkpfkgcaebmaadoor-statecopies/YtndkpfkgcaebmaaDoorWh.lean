/-
  Check and Where.
-/
import Derived.Test.YtndkpfkgcaebmaaDoorFf
namespace Go.Proofs.YtndkpfkgcaebmaaDoor
open Go.RowKit
attribute [local go_sem ↓] Go.wp_at_zero Go.wp_at_succ

namespace ST
def ckV (r : Option Nat) : Value := .tuple #[.int .i64 (if r = none then 0 else 10), .int .i64 (r.getD 0 : Nat)]
set_option maxHeartbeats 2000000 in
theorem check_ (v : Value) (s : Stt) (w : World) (hs : StL w v s) (hsm : Small s) :
    Calls Tryd.prog 63 #[v] w fun e w' => e = .returned (ckV (ff s)) ∧ Up w w' := by
  have hc := firstFault_ v s _ (hs.up ((Up.refl w).alloc (.cells v.cells 27))) hsm
  obtain ⟨vp, vc, vz, rfl, -, -, -⟩ := hs
  cases hff : ff s with
  | none =>
    rw [hff] at hc
    unfold FPost sv at hc
    have HC : Hid _ := hc
    clear hc hff hsm
    unfold sv
    go_enter Tryd.func63, Tryd.ntmps63
    go_wp2_with fail
    refine Calls.mono HC.out ?_
    rintro e w1 ⟨rfl, u1⟩
    clear HC
    have HU : Hid (Up w w1) := ((Up.refl w).alloc _).trans u1
    clear u1
    go_wp2
    go_ret2
    exact ⟨rfl, HU.out⟩
  | some k =>
    rw [hff] at hc
    unfold FPost sv at hc
    have HC : Hid _ := hc
    clear hc hff hsm
    unfold sv
    go_enter Tryd.func63, Tryd.ntmps63
    go_wp2_with fail
    refine Calls.mono HC.out ?_
    rintro e w1 ⟨rfl, u1⟩
    clear HC
    have HU : Hid (Up w w1) := ((Up.refl w).alloc _).trans u1
    clear u1
    go_wp2
    go_ret2
    exact ⟨rfl, HU.out⟩
theorem wh_hit {c : Int} {zs : List (List Int)} {z i : Nat} (hz : z < zs.length) (hi : i < (zs.getD z []).length) (h1 : ∀ j, j < i → (zs.getD z []).getD j 0 ≠ c) (h2 : (zs.getD z []).getD i 0 = c) : wh c (zs.drop z) z = some (z, i) := by
  have e : zs.drop z = zs.getD z [] :: zs.drop (z + 1) := by rw [List.drop_eq_getElem_cons hz, List.getD_eq_getElem?_getD, List.getElem?_eq_getElem hz]; rfl
  rw [e]
  unfold wh
  have : (zs.getD z []).findIdx? (fun x => decide (x = c)) = some i := by
    have := findIdx_at (zs.getD z []) (fun x => !decide (x = c)) 0 i hi (fun j hj => by simpa using h1 j hj) (by simpa using h2)
    simpa using this
  rw [this]
theorem wh_miss {c : Int} {zs : List (List Int)} {z : Nat} (hz : z < zs.length) (h1 : ∀ j, j < (zs.getD z []).length → (zs.getD z []).getD j 0 ≠ c) : wh c (zs.drop z) z = wh c (zs.drop (z + 1)) (z + 1) := by
  have e : zs.drop z = zs.getD z [] :: zs.drop (z + 1) := by rw [List.drop_eq_getElem_cons hz, List.getD_eq_getElem?_getD, List.getElem?_eq_getElem hz]; rfl
  rw [e, wh]
  have : (zs.getD z []).findIdx? (fun x => decide (x = c)) = none := by
    have := findIdx_no (zs.getD z []) (fun x => !decide (x = c)) 0 (fun j hj => by simpa using h1 j hj)
    simpa using this
  rw [this]
def whV (r : Option (Nat × Nat)) : Value := .tuple #[.int .i64 ((r.map (·.1)).getD 0 : Nat), .int .i64 ((r.map (·.2)).getD 0 : Nat), .bool r.isSome]
def WPost (w : World) (r : Option (Nat × Nat)) (e : Ending) (w' : World) : Prop := e = .returned (whV r) ∧ Up w w'
set_option maxRecDepth 100000 in
set_option maxHeartbeats 4000000 in
theorem where_ (v : Value) (s : Stt) (c : Int) (w : World) (hs : StL w v s) (hsm : Small s) :
    Calls Tryd.prog 64 #[v, .int .i64 c] w (WPost w (whereOf s c)) := by
  have hc := firstFault_ v s _ (hs.up ((Up.refl w).alloc (.cells v.cells 27))) hsm
  obtain ⟨vp, vc, vz, rfl, -, -, h3⟩ := hs
  obtain ⟨Post, hPost⟩ : ∃ P : Ending → World → Prop, P = WPost w (whereOf s c) := ⟨_, rfl⟩
  rw [← hPost]
  have HP : Hid (Post = WPost w (whereOf s c)) := hPost
  clear hPost
  cases hff : ff s with
  | some k =>
    rw [hff] at hc
    unfold FPost sv at hc
    have HC : Hid _ := hc
    have HR : Hid (whereOf s c = none) := by unfold Hid; rw [whereOf, hff]; simp
    clear hc hff hsm h3
    unfold sv
    go_enter Tryd.func64, Tryd.ntmps64
    go_wp2_with fail
    go_step3
    go_wp2_with fail
    refine Calls.mono HC.out ?_
    rintro e w1 ⟨rfl, u1⟩
    clear HC
    have HU : Hid (Up w w1) := ((Up.refl w).alloc _).trans u1
    clear u1
    go_wp2
    rw [HP.out, HR.out]
    exact ⟨rfl, HU.out⟩
  | none =>
    rw [hff] at hc
    unfold FPost sv at hc
    obtain ⟨a3, k3, rfl, -, c3⟩ := zl_at h3
    have HC : Hid _ := hc
    have HR : Hid (whereOf s c = wh c (s.zs.drop 0) 0) := by unfold Hid; rw [whereOf, if_pos hff]; rfl
    obtain ⟨zs, hzs⟩ : ∃ n, n = s.zs := ⟨_, rfl⟩
    obtain ⟨n, hn0⟩ : ∃ n, n = zs.length := ⟨_, rfl⟩
    have hz := hsm.2.2.1
    have hl := hsm.2.2.2
    rw [← hzs] at hz hl c3 HC HR ⊢
    rw [← hn0] at hz hl c3 HC ⊢
    have HCs : Hid _ := c3
    have HL : Hid _ := hl
    have HN : Hid (n = zs.length) := hn0
    clear hc hff hsm h3 c3 hl hn0 hzs
    unfold sv
    go_enter Tryd.func64, Tryd.ntmps64
    go_wp2_with fail
    go_step3
    go_wp2_with fail
    refine Calls.mono HC.out ?_
    rintro e w1 ⟨rfl, u1⟩
    clear HC
    have HU : Hid (Up w w1) := ((Up.refl w).alloc _).trans u1
    have y2 : w1.cell? ⟨w.heap.size, 2, none⟩ = some (.slice a3 n k3) := u1.cell (by simp [Value.cells])
    clear u1
    go_wp2_with fail
    go_step3
    go_wp2_with fail
    go_loopw [4, 5, 6, 22] (fun s4 s5 s6 s22 W => ∃ z : Nat, z ≤ n ∧ s22 = .int .i64 z ∧ s4 = .int .i64 0 ∧ s5 = .int .i64 0 ∧ s6 = .bool false ∧ W = w1 ∧ whereOf s c = wh c (zs.drop z) z) (fun _ _ _ s22 _ => n - (intOf s22).toNat)
    case atStart => exact ⟨0, Nat.zero_le _, rfl, rfl, rfl, rfl, rfl, HR.out⟩
    case round =>
      obtain ⟨z, hzn, rfl, rfl, rfl, rfl, rfl, hR⟩ := hrel
      clear HR
      have HR : Hid (whereOf s c = wh c (zs.drop z) z) := hR
      clear hR
      by_cases hlt : z < n
      · have hlt2 : (z : Int) < (n : Int) := by omega
        obtain ⟨b3, o3, rfl, hrow⟩ := HCs.out (by omega)
        obtain ⟨ra, rc, hcell, hil⟩ := hrow z hlt
        have hlen := HL.out z hlt
        obtain ⟨_, _, hra, -, hin⟩ := il_at hil
        cases hra
        have x1 := hcell _ HU.out
        have HHit : Hid (∀ i, i < (zs.getD z []).length → (∀ j, j < i → (zs.getD z []).getD j 0 ≠ c) → (zs.getD z []).getD i 0 = c → whereOf s c = some (z, i)) := fun i hi h1 h2 => by rw [HR.out]; exact wh_hit (by rw [← HN.out]; exact hlt) hi h1 h2
        have HMiss : Hid ((∀ j, j < (zs.getD z []).length → (zs.getD z []).getD j 0 ≠ c) → whereOf s c = wh c (zs.drop (z + 1)) (z + 1)) := fun h1 => by rw [HR.out]; exact wh_miss (by rw [← HN.out]; exact hlt) h1
        clear hcell hrow hil HR
        obtain ⟨r, hr⟩ : ∃ r, r = zs.getD z [] := ⟨_, rfl⟩
        rw [← hr] at x1 hlen hin HHit HMiss
        obtain ⟨q, hq⟩ : ∃ q, q = r.length := ⟨_, rfl⟩
        rw [← hq] at x1 hlen hin HHit HMiss
        have HIn : Hid _ := hin
        clear hr hq hin
        go_wp2_with fail
        go_loopw [4, 5, 6, 29] (fun s4 s5 s6 s29 W => ∃ i : Nat, i ≤ q ∧ s29 = .int .i64 i ∧ s4 = .int .i64 0 ∧ s5 = .int .i64 0 ∧ s6 = .bool false ∧ W = wr ∧ ∀ j, j < i → r.getD j 0 ≠ c) (fun _ _ _ s29 _ => q - (intOf s29).toNat)
        case atStart => exact ⟨0, Nat.zero_le _, rfl, rfl, rfl, rfl, rfl, fun j hj => by omega⟩
        case round =>
          obtain ⟨i, hiq, rfl, rfl, rfl, rfl, rfl, hj⟩ := hrel
          have HJ : Hid (∀ j, j < i → r.getD j 0 ≠ c) := hj
          clear hj
          by_cases hlt3 : i < q
          · have hlt4 : (i : Int) < (q : Int) := by omega
            obtain ⟨b4, o4, rfl, hc4⟩ := HIn.out (by omega)
            have x2 := hc4 _ HU.out i hlt3
            clear hc4
            have HY : Hid (∀ z', z' = r.getD i 0 → (z' = c → whereOf s c = some (z, i)) ∧ (z' ≠ c → ∀ j, j < i + 1 → r.getD j 0 ≠ c)) := fun z' hz' => ⟨fun e => HHit.out i hlt3 HJ.out (by rw [← hz']; exact e), fun e j hj => by
              by_cases ej : j = i
              · subst ej; rw [← hz']; exact e
              · exact HJ.out j (by omega)⟩
            have HY2 := HY.out _ rfl
            have HY3 : Hid _ := HY2
            clear HY HY2 HJ
            generalize r.getD i 0 = y at x2 HY3
            by_cases hyc : y = c
            · subst hyc
              have hb : (y == y) = true := by simp
              have HF : Hid (whereOf s y = some (z, i)) := HY3.out.1 rfl
              clear HY3
              go_wp2
              rw [HP.out, HF.out]
              exact ⟨rfl, HU.out⟩
            · have hb : (y == c) = false := beq_eq_false_iff_ne.2 hyc
              have HF : Hid (∀ j, j < i + 1 → r.getD j 0 ≠ c) := HY3.out.2 hyc
              clear HY3
              go_wp2_with fail
              go_roundw
              case rel => exact ⟨i + 1, by omega, by go_num, rfl, rfl, rfl, by first | rfl | trivial, HF.out⟩
              case measure => simp [intOf]; omega
          · have hlt4 : ¬ (i : Int) < (q : Int) := by omega
            have hiq2 : i = q := by omega
            subst hiq2
            have HF : Hid (whereOf s c = wh c (zs.drop (z + 1)) (z + 1)) := HMiss.out HJ.out
            clear HJ
            go_wp2_with fail
            go_roundw
            case rel => exact ⟨z + 1, by omega, by go_num, rfl, rfl, rfl, by first | rfl | trivial, HF.out⟩
            case measure => simp [intOf]; omega
      · have hlt2 : ¬ (z : Int) < (n : Int) := by omega
        have HF : Hid (whereOf s c = none) := by
          unfold Hid
          rw [HR.out, List.drop_of_length_le (by have := HN.out; omega)]
          rfl
        clear HR
        go_wp2
        rw [HP.out, HF.out]
        exact ⟨rfl, HU.out⟩
end ST
end Go.Proofs.YtndkpfkgcaebmaaDoor
