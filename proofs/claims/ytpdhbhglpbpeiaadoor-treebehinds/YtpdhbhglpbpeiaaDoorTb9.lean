
/-
  TreeBehinds' walk.
-/
import Derived.Test.YtpdhbhglpbpeiaaDoorNg9
import Derived.Test.YtpdhbhglpbpeiaaDoorOp9
import Derived.Test.YtpdhbhglpbpeiaaDoorRb9
import Derived.Test.YtpdhbhglpbpeiaaDoorBxi
import Derived.Test.YtpdhbhglpbpeiaaDoorBad
namespace Go.Proofs.YtpdhbhglpbpeiaaDoor
open Go.RowKit
attribute [local go_sem ↓] Go.wp_at_zero Go.wp_at_succ
namespace TR
theorem ok_byt {l : List Nd} (h : ∀ t ∈ l, NdOk t) : ∀ a ∈ l, Byt a.text := fun a ha => (h a ha).1
theorem ok_len {l : List Nd} (h : ∀ t ∈ l, NdOk t) : ∀ a ∈ l, a.text.length ≤ 281474976710656 := fun a ha => (h a ha).2.1
theorem kds_len {l : List Nd} (hl : l.length ≤ 65536) (p : Int) : (kds l p).length ≤ 4294967296 := by
  unfold kds
  split
  · simp
  · rename_i h
    obtain ⟨q, rfl, h1, h2, h3⟩ := bhd_in h
    rw [kdsF_len]
    show (l.getD ((q : Int)).toNat dn).kids.toNat ≤ _
    rw [Int.toNat_natCast]
    omega
set_option maxRecDepth 100000 in
set_option maxHeartbeats 16000000 in
theorem tbehinds (v0 : Value) (l : List Nd) (p : Int) (w : World) (h0 : NLs w v0 l) (k0 : ∀ t ∈ l, NdOk t) (n0 : l.length ≤ 140737488355328) (hp : p ≤ 9223372036854775807) : Calls Tryd.prog 3 #[v0, .int .i64 p] w fun e w' => e = .returned (.bool true) ∧ Up w w' := by
  obtain ⟨Post, hPost⟩ : ∃ P : Ending → World → Prop, P = fun e w' => e = .returned (.bool true) ∧ Up w w' := ⟨_, rfl⟩
  rw [← hPost]
  have HPo : Hid (Post = fun e w' => e = .returned (.bool true) ∧ Up w w') := hPost
  clear hPost
  have HB0 : Hid (Calls Tryd.prog 4 #[v0] w (BeyR l w)) := beyond_ v0 l w h0 n0 (ok_len k0)
  have HA : Hid (NLs w v0 l ∧ ∀ t ∈ l, NdOk t) := ⟨h0, k0⟩
  have HP : Hid (p ≤ 9223372036854775807) := hp
  clear h0 k0 n0 hp
  go_enter Tryd.func3, Tryd.ntmps3
  go_wp2_with fail
  refine Calls.mono HB0.out ?_
  rintro e w1 ⟨⟨x, rfl, hx⟩, rfl⟩
  clear HB0
  cases x with
  | true =>
    go_wp2_with fail
    rw [HPo.out]
    exact ⟨rfl, Up.refl _⟩
  | false =>
    have HL : Hid (l.length ≤ 65536) := hx rfl
    have HLM : Hid (l.length ≤ 1000000) := Nat.le_trans HL.out (by decide)
    have HL4 : Hid (l.length ≤ 4294967296) := Nat.le_trans HL.out (by decide)
    have HKL : Hid ((kds l p).length ≤ 4294967296) := kds_len HL.out p
    clear hx
    go_wp2_with fail
    refine Calls.mono (wideN_ v0 l w1 HA.out.1 HL4.out) ?_
    rintro e w2 ⟨x, rfl, hx, u2⟩
    have HX : Hid (WN w1.heap.size w2 x l) := hx
    have HU2 : Hid (Up w1 w2) := u2
    clear hx u2
    go_wp2_with fail
    refine Calls.mono (behind_ x l p w2 HX.out.nl (Nat.le_trans HL.out (by decide)) HP.out) ?_
    rintro e w3 ⟨rfl, rfl⟩
    go_wp2_with fail
    refine Calls.mono (kids_ x l p w3 HX.out.nl HLM.out HP.out) ?_
    rintro e w4 ⟨va, rfl, ha, u4⟩
    have HRA : Hid (w4.ownsRow w3.heap.size 3 1 va (kds l p).length (ivn (kds l p))) := ha
    have HU4 : Hid (Up w1 w4) := HU2.out.trans u4
    have HX4 : Hid (WN w1.heap.size w4 x l) := HX.out.up u4
    have HS34 : Hid (w3.heap.size ≤ w4.heap.size) := u4.size
    have HS13 : Hid (w1.heap.size ≤ w3.heap.size) := HU2.out.size
    clear ha u4 HX
    go_wp2_with fail
    refine Calls.mono (kids_ x l p w4 HX4.out.nl HLM.out HP.out) ?_
    rintro e w5 ⟨vb, rfl, hb, u5⟩
    have HRB : Hid (w5.ownsRow w4.heap.size 3 1 vb (kds l p).length (ivn (kds l p))) := hb
    have HRA5 : Hid (w5.ownsRow w3.heap.size 3 1 va (kds l p).length (ivn (kds l p))) := row_up HRA.out u5
    have HAL : Hid (∀ g, va.ownBlock = some g → g < w4.heap.size) := fun g hg => (World.ownsRow.lt HRA.out g hg).2
    have HU5 : Hid (Up w1 w5) := HU4.out.trans u5
    have HX5 : Hid (WN w1.heap.size w5 x l) := HX4.out.up u5
    clear hb u5 HX4 HRA HU4
    go_wp2_with fail
    refine Calls.mono (rkids_ v0 l p w5 (HA.out.1.up HU5.out) HLM.out HP.out) ?_
    rintro e w6 ⟨vw, rfl, hw, u6⟩
    have HRW : Hid (w6.ownsRow w5.heap.size 3 1 vw (kds l p).length (ivn (kds l p))) := hw
    have HRB6 : Hid (w6.ownsRow w4.heap.size 3 1 vb (kds l p).length (ivn (kds l p))) := row_up HRB.out u6
    have HRA6 : Hid (w6.ownsRow w3.heap.size 3 1 va (kds l p).length (ivn (kds l p))) := row_up HRA5.out u6
    have HU6 : Hid (Up w1 w6) := HU5.out.trans u6
    have HX6 : Hid (WN w1.heap.size w6 x l) := HX5.out.up u6
    clear hw u6 HX5 HRA5 HRB HU5
    go_wp2_with fail
    refine Calls.mono (rbehind_ v0 l p w6 (HA.out.1.up HU6.out) HLM.out HP.out) ?_
    rintro e w7 ⟨rfl, rfl⟩
    have HKD : Hid (∀ z : Int, (z != z) = false) := fun z => by simp
    have hz := HKD.out (bhd l p)
    generalize bhd l p = zb at *
    go_wp2_with fail
    refine Calls.mono (eqI_ va vw _ w7 (own_ivl HRA6.out) (own_ivl HRW.out) HKL.out) ?_
    rintro e w8 ⟨rfl, u8⟩
    have HRW8 : Hid (w8.ownsRow w5.heap.size 3 1 vw (kds l p).length (ivn (kds l p))) := row_up HRW.out u8
    have HRB8 : Hid (w8.ownsRow w4.heap.size 3 1 vb (kds l p).length (ivn (kds l p))) := row_up HRB6.out u8
    have HRA8 : Hid (w8.ownsRow w3.heap.size 3 1 va (kds l p).length (ivn (kds l p))) := row_up HRA6.out u8
    have HU8 : Hid (Up w1 w8) := HU6.out.trans u8
    have HX8 : Hid (WN w1.heap.size w8 x l) := HX6.out.up u8
    clear u8 HX6 HRW HRB6 HRA6 HU6
    go_wp2_with fail
    refine Calls.mono (eqI_ vb vw _ w8 (own_ivl HRB8.out) (own_ivl HRW8.out) HKL.out) ?_
    rintro e w9 ⟨rfl, u9⟩
    have HRB9 : Hid (w9.ownsRow w4.heap.size 3 1 vb (kds l p).length (ivn (kds l p))) := row_up HRB8.out u9
    have HRA9 : Hid (w9.ownsRow w3.heap.size 3 1 va (kds l p).length (ivn (kds l p))) := row_up HRA8.out u9
    have HU9 : Hid (Up w1 w9) := HU8.out.trans u9
    have HX9 : Hid (WN w1.heap.size w9 x l) := HX8.out.up u9
    clear u9 HX8 HRW8 HRB8 HRA8 HU8
    go_wp2_with fail
    refine Calls.mono (eqN_ x v0 l w9 HX9.out.nl (HA.out.1.up HU9.out) HL4.out) ?_
    rintro e wa ⟨rfl, ua⟩
    have HRBa : Hid (wa.ownsRow w4.heap.size 3 1 vb (kds l p).length (ivn (kds l p))) := row_up HRB9.out ua
    have HRAa : Hid (wa.ownsRow w3.heap.size 3 1 va (kds l p).length (ivn (kds l p))) := row_up HRA9.out ua
    have HUa : Hid (Up w1 wa) := HU9.out.trans ua
    have HXa : Hid (WN w1.heap.size wa x l) := HX9.out.up ua
    clear ua HX9 HRB9 HRA9 HU9
    go_wp2_with fail
    refine Calls.mono (spareN_ w1.heap.size x l wa HXa.out HL4.out) ?_
    rintro e V5 ⟨rfl, ub⟩
    have HS4 : Hid (w4.heap.size = w4.heap.size) := rfl
    obtain ⟨h5, hh5⟩ : ∃ h, h = w4.heap.size := ⟨_, rfl⟩
    have HR5 : Hid (V5.ownsRow w1.heap.size 3 1 va (kds l p).length (ivn (kds l p)) ∧ V5.ownsRow w1.heap.size 3 1 vb (kds l p).length (ivn (kds l p))) := ⟨BG.own_low (row_up HRAa.out ub) HS13.out, BG.own_low (row_up HRBa.out ub) (Nat.le_trans HS13.out HS34.out)⟩
    have HSEP : Hid ((∀ g, va.ownBlock = some g → g < h5) ∧ (∀ g, vb.ownBlock = some g → h5 ≤ g)) := ⟨fun g hg => by rw [hh5]; exact HAL.out g hg, fun g hg => by rw [hh5]; exact (World.ownsRow.lt HRBa.out g hg).1⟩
    have HU : Hid (Up w1 V5) := HUa.out.trans ub
    clear ub HRBa HRAa HUa HXa hh5 HS4 HAL HS34 HS13
    obtain ⟨gb, hgb⟩ : ∃ g, g = V5.heap.size := ⟨_, rfl⟩
    obtain ⟨V6, hV6⟩ : ∃ W, W = V5.alloc (.cells #[.slice none 0 0, .slice none 0 0, .slice none 0 0, .slice none 0 0, .slice none 0 0, .slice none 0 0, .slice none 0 0, .slice none 0 0, .slice none 0 0, .slice none 0 0, .slice none 0 0, .slice none 0 0, .slice none 0 0, .slice none 0 0, .slice none 0 0, .slice none 0 0, .slice none 0 0, .slice none 0 0, .slice none 0 0, .slice none 0 0, .slice none 0 0] 53) := ⟨_, rfl⟩
    have HBG : Hid (BG.BagG V6 w1.heap.size gb (gb + 1) (fun _ => .slice none 0 0) (fun _ => [])) := by
      unfold Hid
      rw [hgb, hV6]
      exact BG.bagG_start _ _
    have u6 : Up V5 V6 := by rw [hV6]; exact (Up.refl _).alloc _
    have HR6 : Hid (∀ W, Below gb V6 W → W.ownsRow w1.heap.size 3 1 va (kds l p).length (ivn (kds l p)) ∧ W.ownsRow w1.heap.size 3 1 vb (kds l p).length (ivn (kds l p))) := fun W x => by
      obtain ⟨r1, r2⟩ := HR5.out
      refine ⟨BG.own_block (row_up r1 u6) fun g hg => x.block g ?_, BG.own_block (row_up r2 u6) fun g hg => x.block g ?_⟩
      · have := r1.lt g hg; omega
      · have := r2.lt g hg; omega
    have HG : Hid (w1.heap.size ≤ gb ∧ ∀ g, (va.ownBlock = some g → g < h5 ∧ g < gb) ∧ (vb.ownBlock = some g → h5 ≤ g ∧ g < gb)) := by
      obtain ⟨r1, r2⟩ := HR5.out
      obtain ⟨s1, s2⟩ := HSEP.out
      rw [hgb]
      exact ⟨HU.out.size, fun g => ⟨fun h => ⟨s1 g h, (r1.lt g h).2⟩, fun h => ⟨s2 g h, (r2.lt g h).2⟩⟩⟩
    have HU6 : Hid (Up w1 V6) := HU.out.trans u6
    clear u6 HR5 HU HSEP
    go_wp2_with fail
    rw [← hV6, ← hgb]
    clear hV6 hgb
    refine Calls.mono (BG.addInts_ gb (gb + 1) w1.heap.size _ _ va (kds l p).length V6 HBG.out ⟨⟨_, (HR6.out V6 (Below.refl _ _)).1⟩, HKL.out, fun g hg => ⟨((HG.out.2 g).1 hg).2, fun h => by obtain ⟨p, hp, -⟩ := h; exact absurd hp (Nat.not_lt_zero _)⟩⟩) ?_
    rintro e V7 ⟨rfl, f7, L7, d1, d2, d3, -, d5⟩
    have HB7 : Hid (BG.BagG V7 w1.heap.size gb (gb + 1) f7 L7) := d1
    have HD7 : Hid (Below gb V6 V7) := d2
    have HK7 : Hid (∀ g, BG.Blks (L7 1) g → g < h5) := fun g hg => by
      rcases d3 1 g hg with h | h
      · obtain ⟨p, hp, -⟩ := h; exact absurd hp (Nat.not_lt_zero _)
      · exact ((HG.out.2 g).1 h.2).1
    have HJ7 : Hid (∀ j, j ∉ [1] → L7 j = []) := d5
    clear d1 d2 d3 d5 HBG
    go_wp2_with fail
    refine Calls.mono (BG.addInts_ gb (gb + 1) w1.heap.size _ _ vb (kds l p).length V7 HB7.out ⟨⟨_, (HR6.out V7 HD7.out).2⟩, HKL.out, fun g hg => ⟨((HG.out.2 g).2 hg).2, fun h => by have := HK7.out g h; have := (HG.out.2 g).2 hg; omega⟩⟩) ?_
    rintro e V9 ⟨rfl, f9, L9, d1, d2, -, -, d5⟩
    have HB9 : Hid (BG.BagG V9 w1.heap.size gb (gb + 1) f9 L9) := d1
    have HD9 : Hid (Below w1.heap.size w1 V9) := Below.trans HU6.out ((Below.trans HD7.out d2).mono HG.out.1)
    have HJ9 : Hid (∀ k, k < 21 → k ≠ 1 → L9 k = []) := fun j _ h1 => (d5 j (by simp; omega)).trans (HJ7.out j (by simp; omega))
    clear d1 d2 d5 HB7 HD7 HK7 HJ7
    go_wp2_with fail
    refine Calls.mono (BG.apartBxi_ V9 w1.heap.size gb (gb + 1) f9 L9 HB9.out HG.out.1 HJ9.out) ?_
    rintro e V10 ⟨rfl, d1⟩
    have HD10 : Hid (Up w1 V10) := Below.trans HD9.out d1
    clear d1 HD9 HB9 HJ9
    go_wp2_with fail
    refine Calls.mono (lives_ V10) ?_
    rintro r V11 ⟨rfl, u⟩
    go_wp2_with fail
    rw [HPo.out]
    exact ⟨rfl, HD10.out.trans u⟩
end TR
end Go.Proofs.YtpdhbhglpbpeiaaDoor
