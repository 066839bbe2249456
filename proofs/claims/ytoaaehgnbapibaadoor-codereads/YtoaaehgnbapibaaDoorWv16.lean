
/-
  The document's All.
-/
import Derived.Test.YtoaaehgnbapibaaDoorWu16
namespace Go.Proofs.YtoaaehgnbapibaaDoor
open Go.RowKit
attribute [local go_sem ↓] Go.wp_at_zero Go.wp_at_succ
namespace CD
theorem rd_op {B : List Int} {p : Nat} (h : (rd B p).2 = 0) : (rd B p).1.op = B.getD p 0 := by
  unfold rd at h ⊢
  by_cases h1 : (p : Int) < 0 ∨ (B.length : Int) ≤ (p : Int)
  · rw [if_pos h1] at h
    exact absurd h (by decide)
  rw [if_neg h1, Int.toNat_natCast] at h ⊢
  by_cases h2 : ko B p = 0
  · rw [if_pos h2] at h
    exact absurd h (by decide)
  rw [if_neg h2] at h ⊢
  by_cases h3 : B.length - p < siz (ko B p)
  · rw [if_pos h3] at h
    exact absurd h (by decide)
  rw [if_neg h3]
set_option maxRecDepth 100000 in
set_option maxHeartbeats 16000000 in
theorem rAll_ (v : Value) (B : List Int) (W : World) (hv : BL W v B) (hB : Byt B) (hn : B.length ≤ 1000000000000) : Calls Tryd.prog 17 #[v] W (AllQ B W) := by
  obtain ⟨Post, hPost⟩ : ∃ P : Ending → World → Prop, P = AllQ B W := ⟨_, rfl⟩
  rw [← hPost]
  have HPo : Hid (Post = AllQ B W) := hPost
  clear hPost
  obtain ⟨hz, -⟩ := zero_of_info (P := Tryd.prog) infoTbl
  obtain ⟨hzi, -⟩ := zero_of_info (P := Tryd.prog) infoIns
  obtain ⟨iT, hiT, y0, y1, y2⟩ := info_parts infoI3
  have HBL : Hid (BL W v B) := hv
  have HBY : Hid (Byt B) := hB
  obtain ⟨ad, c, rfl, hnc, hce⟩ := bl_cells hv
  obtain ⟨n, hN⟩ : ∃ n, n = B.length := ⟨_, rfl⟩
  have HN : Hid (n = B.length) := hN
  rw [← hN] at hn hnc hce HBL ⊢
  have HCE : Hid (n ≠ 0 → ∃ b off, ad = some ⟨b, off, none⟩ ∧ ∀ W', Up W W' → ∀ j, j < n → W'.cell? ⟨b, off + j, none⟩ = some (.int .u8 (B.getD j 0))) := hce
  clear hv hB hN hce
  go_enter Tryd.func17, Tryd.ntmps17
  clear hz
  obtain ⟨W3, hW3⟩ : ∃ X, X = W := ⟨_, rfl⟩
  have HUM2 : Hid (Up W W3) := by unfold Hid; rw [hW3]; exact Up.refl _
  have HW3 : Hid (W3 = W) := hW3
  rw [← hW3]
  clear hW3
  go_upto_region 3 with fail
  go_wp2_with fail
  go_loopw [5, 6] (fun s5 s6 V => ∃ (p k : Nat) (L : List Ins) (sa : Option Addr) (sc : Nat), s5 = .slice sa k sc ∧ s6 = .int .i64 (p : Int) ∧ L.length = k ∧ Al B p L ∧ V.ownsRow W3.heap.size 28 5 (.slice sa k sc) k (ivs L) ∧ Up W3 V) (fun _ s6 _ => n - (intOf s6).toNat)
  case atStart => exact ⟨0, 0, [], none, 0, rfl, rfl, rfl, al_start B, World.ownsRow_nil _ _ _ _, Up.refl _⟩
  case round =>
    obtain ⟨p, k, L, sa, sc, rfl, rfl, hkl, hal, hrow, hup⟩ := hrel
    have HAL : Hid (Al B p L) := hal
    have HRO : Hid (wr.ownsRow W3.heap.size 28 5 (.slice sa k sc) k (ivs L)) := hrow
    have HUR : Hid (Up W3 wr) := hup
    have HKL : Hid (L.length = k) := hkl
    have hpn : p ≤ n := by have := hal.1; rw [← HN.out] at this; exact this
    have hkp : k ≤ p := by have := hal.2.1; omega
    clear hal hrow hup hkl
    by_cases hlt : p < n
    · have hlt2 : (p : Int) < (n : Int) := by omega
      obtain ⟨b, off, rfl, hce⟩ := HCE.out (by omega)
      have HCB : Hid (∀ W', Up W W' → ∀ j, j < n → W'.cell? ⟨b, off + j, none⟩ = some (.int .u8 (B.getD j 0))) := hce
      clear hce
      have HRD : Hid _ := rRead_ (.slice (some ⟨b, off, none⟩) n c) B (p : Int) wr (HBL.out.up (HUM2.out.trans HUR.out)) HBY.out (by rw [← HN.out]; omega) (by omega) (by omega)
      have HOP : Hid ((rd B (p : Int)).2 = 0 → (rd B (p : Int)).1.op = B.getD p 0) := rd_op
      have HBD : Hid ((rd B (p : Int)).2 ≠ 0 → allR B = ([], (rd B (p : Int)).2, (p : Int))) := HAL.out.bad (by rw [← HN.out]; exact hlt)
      have HNX : Hid ((rd B (p : Int)).2 = 0 → Al B (p + siz (ko B p)) (L ++ [(rd B (p : Int)).1]) ∧ 0 < siz (ko B p)) := fun h => ⟨HAL.out.next h, (rd_ok h).2.1⟩
      obtain ⟨d, hd, hd2⟩ : ∃ d : Nat, (d : Int) = B.getD p 0 ∧ d < 256 := ⟨(B.getD p 0).toNat, by have := HBY.out.at p; omega, by have := HBY.out.at p; omega⟩
      have HKO : Hid (ko B p = knd d) := by unfold Hid ko; rw [← hd, Int.toNat_natCast]
      go_wp2_with fail
      refine Calls.mono HRD.out ?_
      rintro e1 W4 ⟨rfl, u4⟩
      have HRO : Hid (W4.ownsRow W3.heap.size 28 5 (.slice sa k sc) k (ivs L)) := row_up HRO.out u4
      have HU4 : Hid (Up W3 W4) := HUR.out.trans u4
      obtain ⟨x, hx⟩ : ∃ x, x = rd B (p : Int) := ⟨_, rfl⟩
      rw [← hx] at HBD HNX HOP ⊢
      obtain ⟨⟨i1, i2, i3, i4, i5⟩, er⟩ := x
      have hx9 : insv (⟨i1, i2, i3, i4, i5⟩ : Ins) = #[.int .i64 i1, .int .u8 i2, .int .i64 i3, .int .i64 i4, .int .i64 i5] := rfl
      simp only at HBD HNX HOP ⊢
      rw [hx9]
      clear hx hx9 u4 HRD HUR HAL
      obtain ⟨r8, hr8⟩ : ∃ r, r = W4.heap.size := ⟨_, rfl⟩
      have HNR : Hid (∀ g1, (Value.slice sa k sc).ownBlock = some g1 → g1 < r8) := fun g1 h9 => by rw [hr8]; exact (World.ownsRow.lt HRO.out g1 h9).2
      obtain ⟨W5, hW5⟩ : ∃ X, W4.alloc (.cells (insv zi) 28) = X := ⟨_, rfl⟩
      have g5 : W5.heap[r8]? = some (.cells (insv zi) 28 (0, 0)) := by rw [← hW5, hr8]; exact heap_alloc_new _ _
      obtain ⟨W6, hW6⟩ : ∃ X, W5.setRow r8 #[.int .i64 i1, .int .u8 i2, .int .i64 i3, .int .i64 i4, .int .i64 i5] = X := ⟨_, rfl⟩
      have g6 : W6.heap[r8]? = some (.cells #[.int .i64 i1, .int .u8 i2, .int .i64 i3, .int .i64 i4, .int .i64 i5] 28 (0, 0)) := by rw [← hW6]; exact setRow_heap _ _ _ _ _ _ g5
      have HU46 : Hid (Up W4 W6) := by
        unfold Hid
        rw [← hW6]
        exact up_setRow (by rw [← hW5]; exact (Up.refl _).alloc _) (by rw [hr8]; exact Nat.le_refl _) _
      have HRO : Hid (W6.ownsRow W3.heap.size 28 5 (.slice sa k sc) k (ivs L)) := row_up HRO.out HU46.out
      have HU6 : Hid (Up W3 W6) := HU4.out.trans HU46.out
      go_upto_region 5 with (first | (refine wpList_store_row rfl 28 (.tmp 7) (.tmp 17) (by first | rfl | (rw [hr8]; rfl)) r8 #[.int .i64 i1, .int .u8 i2, .int .i64 i3, .int .i64 i4, .int .i64 i5] (by first | rfl | (rw [hr8]; rfl)) (by rfl) 28 (insv zi) (by first | exact g5 | (rw [hW5]; exact g5)) sizeIns rfl (by simp [Value.oneCell']) ?_; refine wpList_world (by first | exact hW6 | (rw [hW5]; exact hW6)) ?_))
      try rw [← hr8]
      try simp only [Act.put]
      clear hr8 hW5 g5 hW6 HU46 HU4
      by_cases her : er = 0
      · subst her
        obtain ⟨hal2, hsp⟩ := HNX.out rfl
        have hi2 : i2 = (d : Int) := by rw [HOP.out rfl, hd]
        subst hi2
        have HAL2 : Hid (Al B (p + siz (ko B p)) (L ++ [⟨i1, (d : Int), i3, i4, i5⟩])) := hal2
        have hsp2 := siz_le (ko B p)
        have hp2 : p + siz (ko B p) ≤ n := by rw [HN.out]; exact hal2.1
        clear hal2 HBD HNX HOP hd
        have HMW : Hid (∀ q u, [.int .i64 i1, .int .u8 (d : Int), .int .i64 i3, .int .i64 i4, .int .i64 i5][q]? = some u → (W6.alloc (.cells #[.int .i64 i1, .int .u8 (d : Int), .int .i64 i3, .int .i64 i4, .int .i64 i5] 28)).cell? ((⟨W6.heap.size, 0, none⟩ : Addr).add q) = some u) := World.news_of_block (cs := #[.int .i64 i1, .int .u8 (d : Int), .int .i64 i3, .int .i64 i4, .int .i64 i5]) (t := 28) (fr := (0, 0)) (heap_alloc_new W6 _)
        have HTV : Hid ((W6.alloc (.cells #[.int .i64 i1, .int .u8 (d : Int), .int .i64 i3, .int .i64 i4, .int .i64 i5] 28)).ownsRow W3.heap.size 28 5 (.slice sa k sc) k (ivs L)) := row_up HRO.out ((Up.refl _).alloc _)
        have HGX : Hid (∀ X : World, (W6.alloc (.cells #[.int .i64 i1, .int .u8 (d : Int), .int .i64 i3, .int .i64 i4, .int .i64 i5] 28)).grownBy X (Value.slice sa k sc).ownBlock → X.heap[r8]? = some (.cells #[.int .i64 i1, .int .u8 (d : Int), .int .i64 i3, .int .i64 i4, .int .i64 i5] 28 (0, 0))) := fun X hg => by
          have g6v : (W6.alloc (.cells #[.int .i64 i1, .int .u8 (d : Int), .int .i64 i3, .int .i64 i4, .int .i64 i5] 28)).heap[r8]? = some (.cells #[.int .i64 i1, .int .u8 (d : Int), .int .i64 i3, .int .i64 i4, .int .i64 i5] 28 (0, 0)) := ((Up.refl W6).alloc _).heap g6
          rw [hg.block r8 (Array.getElem?_eq_some_iff.1 g6v).1 (fun h9 => by have h8 := HNR.out r8 h9.symm; omega)]
          exact g6v
        have HUV : Hid (Up W3 (W6.alloc (.cells #[.int .i64 i1, .int .u8 (d : Int), .int .i64 i3, .int .i64 i4, .int .i64 i5] 28))) := HU6.out.alloc _
        go_upto_region 8 with (first | (refine wpList_load_rowG (by rfl) 28 (.tmp 7) (by rfl) r8 (by rfl) 28 #[.int .i64 i1, .int .u8 (d : Int), .int .i64 i3, .int .i64 i4, .int .i64 i5] (0, 0) _ g6 Tryd.underlying28 (by rfl) sizeIns ?_) | (at_builtin; go_loud (refine wpList_append_own _ (by rfl) (.tmp 23) (.tmp 25) 32 (by rfl) W3.heap.size 28 iT _ 5 40 Tryd.underlying32 hiT y0 y1 y2 (by rfl) (by decide) (.slice sa k sc) k (ivs L) (by rfl) HTV.out ⟨W6.heap.size, 0, none⟩ 1 1 [.int .i64 i1, .int .u8 (d : Int), .int .i64 i3, .int .i64 i4, .int .i64 i5] (by rfl) (by rfl) HMW.out (by simp [Value.oneCell']) (by unfold maxLen; omega) (by omega) HUV.out.size ?_; intro v' V2 hin hg1 _; have HRO2 : Hid (V2.ownsRow W3.heap.size 28 5 v' (k + 1) (ivs (L ++ [⟨i1, (d : Int), i3, i4, i5⟩]))) := (by unfold Hid; rw [ivs_app]; exact hin); have HUG : Hid (Up W3 V2) := Below.grown HUV.out hg1 HUV.out.size (fun k9 hk => (World.ownsRow.lt HTV.out k9 hk).1); have g6x : V2.heap[r8]? = some (.cells #[.int .i64 i1, .int .u8 (d : Int), .int .i64 i3, .int .i64 i4, .int .i64 i5] 28 (0, 0)) := HGX.out _ hg1; obtain ⟨fb, fd, hva⟩ : ∃ a c, v' = Value.slice a (k + 1) c := row_val hin; subst hva; clear hin hg1 HTV HMW)))
        clear g6
        have x1 : V2.cell? ⟨r8, 1, none⟩ = some (.int .u8 (d : Int)) := by simp only [World.cell?, g6x]; rfl
        have HSZ : Hid _ := rSize_ d hd2 V2
        have e5 : IntKind.i64.wrap ((p : Int) + ((siz (ko B p) : Nat) : Int)) = ((p + siz (ko B p) : Nat) : Int) := by rw [IntKind.wrap_i64]; omega
        rw [HKO.out] at e5 hsp hsp2 hp2 HAL2
        clear HKO HUV HU6 HRO HBY HCB hiT y0 y1 y2 hzi hpn hkp g6x
        generalize siz (knd d) = sz at HSZ e5 hsp hsp2 hp2 HAL2
        go_wp2_with fail
        refine Calls.mono HSZ.out ?_
        rintro e7 W8 ⟨rfl, u8⟩
        have HU8 : Hid (Up W3 W8) := HUG.out.trans u8
        have HRO8 : Hid (W8.ownsRow W3.heap.size 28 5 (.slice fb (k + 1) fd) (k + 1) (ivs (L ++ [⟨i1, (d : Int), i3, i4, i5⟩]))) := row_up HRO2.out u8
        have HKL2 : Hid ((L ++ [(⟨i1, (d : Int), i3, i4, i5⟩ : Ins)]).length = k + 1) := by unfold Hid; rw [List.length_append, HKL.out]; rfl
        clear u8 HSZ HRO2 HUG x1
        go_wp2_with fail
        go_roundw
        case rel => exact ⟨p + sz, k + 1, L ++ [⟨i1, (d : Int), i3, i4, i5⟩], fb, fd, rfl, by first | rfl | (rw [e5]) | go_num, HKL2.out, HAL2.out, HRO8.out, HU8.out⟩
        case measure => simp [intOf]; omega
      · have HRS : Hid (allR B = ([], er, (p : Int))) := HBD.out her
        clear HBD HNX
        have her2 : (er == 0) = false := by simpa using her
        go_wp2_with fail
        rw [HPo.out]
        refine ⟨.slice none 0 0, (by rw [HRS.out]; try rfl), by rw [HRS.out]; exact World.ownsRow_nil _ _ _ _, HUM2.out.trans HU6.out⟩
    · have hlt2 : ¬ (p : Int) < (n : Int) := by omega
      have HRS : Hid (allR B = (L, 0, 0)) := HAL.out.fin (by rw [← HN.out]; exact hlt)
      go_wp2_with fail
      rw [HPo.out]
      refine ⟨.slice sa k sc, (by rw [HRS.out]; try rfl), by rw [HRS.out]; show wr.ownsRow W.heap.size 28 5 (.slice sa k sc) L.length (ivs L); rw [HKL.out]; exact ows_base HRO.out HUM2.out.size, HUM2.out.trans HUR.out⟩
end CD
end Go.Proofs.YtoaaehgnbapibaaDoor
