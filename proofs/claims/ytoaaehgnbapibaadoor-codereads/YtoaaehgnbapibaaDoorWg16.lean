
/-
  All.
-/
import Derived.Test.YtoaaehgnbapibaaDoorWf16
namespace Go.Proofs.YtoaaehgnbapibaaDoor
open Go.RowKit
attribute [local go_sem ↓] Go.wp_at_zero Go.wp_at_succ
namespace CD
def allG (B : List Int) : Nat → Nat → List Ins → List Ins × Int × Int
  | 0, _, acc => (acc, 0, 0)
  | n + 1, p, acc => if ¬ p < B.length then (acc, 0, 0) else if (rd B p).2 ≠ 0 then ([], (rd B p).2, (p : Int)) else allG B n (p + siz (ko B p)) (acc ++ [(rd B p).1])
def allR (B : List Int) : List Ins × Int × Int := allG B (B.length + 1) 0 []
def Al (B : List Int) (p : Nat) (L : List Ins) : Prop := p ≤ B.length ∧ L.length ≤ p ∧ ∃ n, B.length - p ≤ n ∧ allR B = allG B (n + 1) p L
theorem siz_pos {k : Nat} (h : k ≠ 0) : 0 < siz k := by
  unfold siz
  rw [if_neg h]
  repeat' split
  all_goals omega
theorem siz_le (k : Nat) : siz k ≤ 5 := by
  unfold siz
  repeat' split
  all_goals omega
theorem rd_ok {B : List Int} {p : Nat} (h : (rd B p).2 = 0) : p < B.length ∧ 0 < siz (ko B p) ∧ p + siz (ko B p) ≤ B.length := by
  unfold rd at h
  by_cases h1 : (p : Int) < 0 ∨ (B.length : Int) ≤ (p : Int)
  · rw [if_pos h1] at h
    exact absurd h (by decide)
  rw [if_neg h1, Int.toNat_natCast] at h
  by_cases h2 : ko B p = 0
  · rw [if_pos h2] at h
    exact absurd h (by decide)
  rw [if_neg h2] at h
  by_cases h3 : B.length - p < siz (ko B p)
  · rw [if_pos h3] at h
    exact absurd h (by decide)
  have h4 := siz_pos h2
  omega
theorem al_start (B : List Int) : Al B 0 [] := ⟨Nat.zero_le _, Nat.le_refl _, B.length, by omega, rfl⟩
theorem Al.next {B : List Int} {p : Nat} {L : List Ins} (h : Al B p L) (hr : (rd B p).2 = 0) : Al B (p + siz (ko B p)) (L ++ [(rd B p).1]) := by
  obtain ⟨h1, h2, n, h3, h4⟩ := h
  obtain ⟨h5, h6, h7⟩ := rd_ok hr
  refine ⟨h7, by rw [List.length_append]; show L.length + 1 ≤ _; omega, n - 1, by omega, ?_⟩
  rw [h4, allG, if_neg (by omega), if_neg (by rw [hr]; decide), show n - 1 + 1 = n by omega]
theorem Al.bad {B : List Int} {p : Nat} {L : List Ins} (h : Al B p L) (hp : p < B.length) (hr : (rd B p).2 ≠ 0) : allR B = ([], (rd B p).2, (p : Int)) := by
  obtain ⟨h1, h2, n, h3, h4⟩ := h
  rw [h4, allG, if_neg (by omega), if_pos hr]
theorem Al.fin {B : List Int} {p : Nat} {L : List Ins} (h : Al B p L) (hp : ¬ p < B.length) : allR B = (L, 0, 0) := by
  obtain ⟨h1, h2, n, h3, h4⟩ := h
  rw [h4, allG, if_pos hp]
def ivs (L : List Ins) : List Value := L.flatMap insl
theorem ivs_app (a b : List Ins) : ivs (a ++ b) = ivs a ++ ivs b := List.flatMap_append
theorem infoI3 : (Tryd.prog.info? 28).map (fun i => (i.zero, i.size, i.bytes)) = some (some (.agg (insv zi)), 5, 40) := by kernel_rfl
theorem ows_base {W : World} {b1 b2 e s n : Nat} {v : Value} {xs : List Value} (h : W.ownsRow b1 e s v n xs) (hb : b2 ≤ b1) : W.ownsRow b2 e s v n xs := by
  refine ⟨h.1, ?_⟩
  rcases h.2 with h0 | ⟨g, cap, cur, e1, e2, e3, e4⟩
  · exact .inl h0
  · exact .inr ⟨g, cap, cur, e1, Nat.le_trans hb e2, e3, e4⟩
theorem TBat.grown {W V : World} {g base n : Nat} {v : Value} {xs : List Value} (h : TBat W g) (hr : W.ownsRow base 28 5 v n xs) (hg : W.grownBy V v.ownBlock) : TBat V g := by
  have h1 : W.heap[g]? = some (.cells TBL 80 (0, 0)) := h
  have hl : g < W.heap.size := (Array.getElem?_eq_some_iff.1 h1).1
  unfold TBat
  rw [hg.block g hl ?_]
  · exact h1
  · rcases hr.2 with ⟨rfl, -⟩ | ⟨g1, c1, cur1, rfl, -, h3, -⟩
    · simp [Value.ownBlock]
    · intro e
      have e : g = g1 := by simpa [Value.ownBlock] using e
      subst e
      rw [h3] at h1
      simp at h1
/- what All answers -/
def AllQ (B : List Int) (W : World) (e : Ending) (w' : World) : Prop := ∃ lv, e = .returned (.tuple #[lv, .int .i64 (allR B).2.1, .int .i64 (allR B).2.2]) ∧ w'.ownsRow W.heap.size 28 5 lv (allR B).1.length (ivs (allR B).1) ∧ Up W w'
set_option maxRecDepth 100000 in
set_option maxHeartbeats 16000000 in
theorem All_ (v : Value) (B : List Int) (W : World) (hv : BL W v B) (hB : Byt B) (hn : B.length ≤ 1000000000000) : Calls Tryd.prog 16 #[v] W (AllQ B W) := by
  obtain ⟨Post, hPost⟩ : ∃ P : Ending → World → Prop, P = AllQ B W := ⟨_, rfl⟩
  rw [← hPost]
  have HPo : Hid (Post = AllQ B W) := hPost
  clear hPost
  obtain ⟨hz, -⟩ := zero_of_info (P := Tryd.prog) infoTbl
  obtain ⟨hzi, -⟩ := zero_of_info (P := Tryd.prog) infoIns
  obtain ⟨iT, hiT, y0, y1, y2⟩ := info_parts infoI3
  have HBL : Hid (BL W v B) := hv
  have HBY : Hid (Byt B) := hB
  obtain ⟨ad, c, rfl, hnc, hce⟩ := bl_cells hv
  obtain ⟨n, hN⟩ : ∃ n, n = B.length := ⟨_, rfl⟩
  have HN : Hid (n = B.length) := hN
  rw [← hN] at hn hnc hce HBL ⊢
  have HCE : Hid (n ≠ 0 → ∃ b off, ad = some ⟨b, off, none⟩ ∧ ∀ W', Up W W' → ∀ j, j < n → W'.cell? ⟨b, off + j, none⟩ = some (.int .u8 (B.getD j 0))) := hce
  clear hv hB hN hce
  go_enter Tryd.func16, Tryd.ntmps16
  go_upto_region 1 with fail
  have HOP : Hid _ := opcodes_ W
  go_wp2_with fail
  refine Calls.mono HOP.out ?_
  rintro e0 W1 ⟨rfl, u1⟩
  obtain ⟨g, hg⟩ : ∃ g, g = W1.heap.size := ⟨_, rfl⟩
  have HGS : Hid (W.heap.size ≤ g) := by unfold Hid; rw [hg]; exact u1.size
  obtain ⟨W2, hW2⟩ : ∃ X, W1.alloc (.cells TBZ 80) = X := ⟨_, rfl⟩
  have g2 : W2.heap[g]? = some (.cells TBZ 80 (0, 0)) := by rw [← hW2, hg]; exact heap_alloc_new _ _
  obtain ⟨W3, hW3⟩ : ∃ X, W2.setRow g TBL = X := ⟨_, rfl⟩
  have HT : Hid (TBat W3 g) := by unfold Hid TBat; rw [← hW3]; exact setRow_heap _ _ _ _ _ _ g2
  have HUM : Hid (Up W W3) := by
    unfold Hid
    rw [← hW3]
    exact up_setRow (by rw [← hW2]; exact u1.alloc _) HGS.out _
  go_upto_region 2 with (first | (refine wpList_store_row rfl 80 (.tmp 5) (.tmp 10) (by first | rfl | (rw [hg]; rfl)) g TBL (by first | rfl | (rw [hg]; rfl)) (by rfl) 80 TBZ (by first | exact g2 | (rw [hW2]; exact g2)) (by rw [tbl_size]; exact sizeTbl) (by rw [tbl_size, tbz_size]) tbl_one ?_; refine wpList_world (by first | exact hW3 | (rw [hW2]; exact hW3)) ?_))
  try rw [← hg]
  try simp only [Act.put]
  clear hg hW2 g2 hW3 u1 HOP HGS
  clear hz
  have HUM2 : Hid (Up W W3) := HUM.out
  go_upto_region 3 with fail
  go_wp2_with fail
  go_loopw [6, 7] (fun s6 s7 V => ∃ (p k : Nat) (L : List Ins) (sa : Option Addr) (sc : Nat), s6 = .slice sa k sc ∧ s7 = .int .i64 (p : Int) ∧ L.length = k ∧ Al B p L ∧ V.ownsRow W3.heap.size 28 5 (.slice sa k sc) k (ivs L) ∧ Up W3 V) (fun _ s7 _ => n - (intOf s7).toNat)
  case atStart => exact ⟨0, 0, [], none, 0, rfl, rfl, rfl, al_start B, World.ownsRow_nil _ _ _ _, Up.refl _⟩
  case round =>
    obtain ⟨p, k, L, sa, sc, rfl, rfl, hkl, hal, hrow, hup⟩ := hrel
    have HAL : Hid (Al B p L) := hal
    have HRO : Hid (wr.ownsRow W3.heap.size 28 5 (.slice sa k sc) k (ivs L)) := hrow
    have HUR : Hid (Up W3 wr) := hup
    have HKL : Hid (L.length = k) := hkl
    have hpn : p ≤ n := by have := hal.1; rw [← HN.out] at this; exact this
    have hkp : k ≤ p := by have := hal.2.1; omega
    clear hal hrow hup hkl
    by_cases hlt : p < n
    · have hlt2 : (p : Int) < (n : Int) := by omega
      obtain ⟨b, off, rfl, hce⟩ := HCE.out (by omega)
      have HCB : Hid (∀ W', Up W W' → ∀ j, j < n → W'.cell? ⟨b, off + j, none⟩ = some (.int .u8 (B.getD j 0))) := hce
      clear hce
      have HRD : Hid _ := read_ wr g (.slice (some ⟨b, off, none⟩) n c) B (p : Int) (HT.out.up HUR.out) (HBL.out.up (HUM2.out.trans HUR.out)) HBY.out (by rw [← HN.out]; omega) (by omega) (by omega)
      have HBD : Hid ((rd B (p : Int)).2 ≠ 0 → allR B = ([], (rd B (p : Int)).2, (p : Int))) := HAL.out.bad (by rw [← HN.out]; exact hlt)
      have HNX : Hid ((rd B (p : Int)).2 = 0 → Al B (p + siz (ko B p)) (L ++ [(rd B (p : Int)).1]) ∧ 0 < siz (ko B p)) := fun h => ⟨HAL.out.next h, (rd_ok h).2.1⟩
      obtain ⟨d, hd, hd2⟩ : ∃ d : Nat, (d : Int) = B.getD p 0 ∧ d < 256 := ⟨(B.getD p 0).toNat, by have := HBY.out.at p; omega, by have := HBY.out.at p; omega⟩
      have HKO : Hid (ko B p = knd d) := by unfold Hid ko; rw [← hd, Int.toNat_natCast]
      go_wp2_with fail
      refine Calls.mono HRD.out ?_
      rintro e1 W4 ⟨rfl, u4⟩
      have HRO : Hid (W4.ownsRow W3.heap.size 28 5 (.slice sa k sc) k (ivs L)) := row_up HRO.out u4
      have HU4 : Hid (Up W3 W4) := HUR.out.trans u4
      obtain ⟨x, hx⟩ : ∃ x, x = rd B (p : Int) := ⟨_, rfl⟩
      rw [← hx] at HBD HNX ⊢
      obtain ⟨⟨i1, i2, i3, i4, i5⟩, er⟩ := x
      have hx9 : insv (⟨i1, i2, i3, i4, i5⟩ : Ins) = #[.int .i64 i1, .int .u8 i2, .int .i64 i3, .int .i64 i4, .int .i64 i5] := rfl
      simp only at HBD HNX ⊢
      rw [hx9]
      clear hx hx9 u4 HRD HUR HAL
      obtain ⟨r8, hr8⟩ : ∃ r, r = W4.heap.size := ⟨_, rfl⟩
      obtain ⟨W5, hW5⟩ : ∃ X, W4.alloc (.cells (insv zi) 28) = X := ⟨_, rfl⟩
      have g5 : W5.heap[r8]? = some (.cells (insv zi) 28 (0, 0)) := by rw [← hW5, hr8]; exact heap_alloc_new _ _
      obtain ⟨W6, hW6⟩ : ∃ X, W5.setRow r8 #[.int .i64 i1, .int .u8 i2, .int .i64 i3, .int .i64 i4, .int .i64 i5] = X := ⟨_, rfl⟩
      have g6 : W6.heap[r8]? = some (.cells #[.int .i64 i1, .int .u8 i2, .int .i64 i3, .int .i64 i4, .int .i64 i5] 28 (0, 0)) := by rw [← hW6]; exact setRow_heap _ _ _ _ _ _ g5
      have HU46 : Hid (Up W4 W6) := by
        unfold Hid
        rw [← hW6]
        exact up_setRow (by rw [← hW5]; exact (Up.refl _).alloc _) (by rw [hr8]; exact Nat.le_refl _) _
      have HRO : Hid (W6.ownsRow W3.heap.size 28 5 (.slice sa k sc) k (ivs L)) := row_up HRO.out HU46.out
      have HU6 : Hid (Up W3 W6) := HU4.out.trans HU46.out
      go_upto_region 7 with (first | (refine wpList_store_row rfl 28 (.tmp 8) (.tmp 27) (by first | rfl | (rw [hr8]; rfl)) r8 #[.int .i64 i1, .int .u8 i2, .int .i64 i3, .int .i64 i4, .int .i64 i5] (by first | rfl | (rw [hr8]; rfl)) (by rfl) 28 (insv zi) (by first | exact g5 | (rw [hW5]; exact g5)) sizeIns rfl (by simp [Value.oneCell']) ?_; refine wpList_world (by first | exact hW6 | (rw [hW5]; exact hW6)) ?_))
      try rw [← hr8]
      try simp only [Act.put]
      clear hr8 hW5 g5 hW6 HU46 HU4
      by_cases her : er = 0
      · subst her
        obtain ⟨hal2, hsp⟩ := HNX.out rfl
        have HAL2 : Hid (Al B (p + siz (ko B p)) (L ++ [⟨i1, i2, i3, i4, i5⟩])) := hal2
        have hsp2 := siz_le (ko B p)
        have hp2 : p + siz (ko B p) ≤ n := by rw [HN.out]; exact hal2.1
        clear hal2 HBD HNX
        have HMW : Hid (∀ q u, [.int .i64 i1, .int .u8 i2, .int .i64 i3, .int .i64 i4, .int .i64 i5][q]? = some u → (W6.alloc (.cells #[.int .i64 i1, .int .u8 i2, .int .i64 i3, .int .i64 i4, .int .i64 i5] 28)).cell? ((⟨W6.heap.size, 0, none⟩ : Addr).add q) = some u) := World.news_of_block (cs := #[.int .i64 i1, .int .u8 i2, .int .i64 i3, .int .i64 i4, .int .i64 i5]) (t := 28) (fr := (0, 0)) (heap_alloc_new W6 _)
        have HTV : Hid ((W6.alloc (.cells #[.int .i64 i1, .int .u8 i2, .int .i64 i3, .int .i64 i4, .int .i64 i5] 28)).ownsRow W3.heap.size 28 5 (.slice sa k sc) k (ivs L)) := row_up HRO.out ((Up.refl _).alloc _)
        have HUV : Hid (Up W3 (W6.alloc (.cells #[.int .i64 i1, .int .u8 i2, .int .i64 i3, .int .i64 i4, .int .i64 i5] 28))) := HU6.out.alloc _
        go_upto_region 5 with (first | (refine wpList_load_rowG (by rfl) 28 (.tmp 8) (by rfl) r8 (by rfl) 28 #[.int .i64 i1, .int .u8 i2, .int .i64 i3, .int .i64 i4, .int .i64 i5] (0, 0) _ g6 Tryd.underlying28 (by rfl) sizeIns ?_) | (at_builtin; go_loud (refine wpList_append_own _ (by rfl) (.tmp 33) (.tmp 35) 32 (by rfl) W3.heap.size 28 iT _ 5 40 Tryd.underlying32 hiT y0 y1 y2 (by rfl) (by decide) (.slice sa k sc) k (ivs L) (by rfl) HTV.out ⟨W6.heap.size, 0, none⟩ 1 1 [.int .i64 i1, .int .u8 i2, .int .i64 i3, .int .i64 i4, .int .i64 i5] (by rfl) (by rfl) HMW.out (by simp [Value.oneCell']) (by unfold maxLen; omega) (by omega) HUV.out.size ?_; intro v' V2 hin hg1 _; have HRO2 : Hid (V2.ownsRow W3.heap.size 28 5 v' (k + 1) (ivs (L ++ [⟨i1, i2, i3, i4, i5⟩]))) := (by unfold Hid; rw [ivs_app]; exact hin); have HUG : Hid (Up W3 V2) := Below.grown HUV.out hg1 HUV.out.size (fun k9 hk => (World.ownsRow.lt HTV.out k9 hk).1); have HU73 : Hid (TBat V2 g) := TBat.grown (HT.out.up HUV.out) HTV.out hg1; obtain ⟨fb, fd, hva⟩ : ∃ a c, v' = Value.slice a (k + 1) c := row_val hin; subst hva; clear hin hg1 HTV HMW)))
        clear g6
        have hx := HCB.out V2 (HUM2.out.trans HUG.out) p hlt
        rw [← hd] at hx
        have HRW : Hid _ := row_ V2 g d HU73.out hd2
        have HSZ : Hid _ := size_ d
        have e5 : IntKind.i64.wrap ((p : Int) + ((siz (ko B p) : Nat) : Int)) = ((p + siz (ko B p) : Nat) : Int) := by rw [IntKind.wrap_i64]; omega
        rw [HKO.out] at e5 hsp hsp2 hp2 HAL2
        clear HKO HUV HU6 HRO hd HBY HCB HT HU73 hiT y0 y1 y2 hzi hpn hkp
        go_wp2_with fail
        refine Calls.mono HRW.out ?_
        rintro e6 W7 ⟨rfl, u7⟩
        have HSZ : Hid _ := size_ d W7
        generalize rwv (rwo d) = rv at HSZ ⊢
        generalize siz (knd d) = sz at HSZ e5 hsp hsp2 hp2 HAL2
        go_wp2_with fail
        refine Calls.mono HSZ.out ?_
        rintro e7 W8 ⟨rfl, u8⟩
        have HU8 : Hid (Up W3 W8) := HUG.out.trans (u7.trans u8)
        have HRO8 : Hid (W8.ownsRow W3.heap.size 28 5 (.slice fb (k + 1) fd) (k + 1) (ivs (L ++ [⟨i1, i2, i3, i4, i5⟩]))) := row_up HRO2.out (u7.trans u8)
        have HKL2 : Hid ((L ++ [(⟨i1, i2, i3, i4, i5⟩ : Ins)]).length = k + 1) := by unfold Hid; rw [List.length_append, HKL.out]; rfl
        clear u7 u8 HRW HSZ HRO2 HUG
        go_wp2_with fail
        go_roundw
        case rel => exact ⟨p + sz, k + 1, L ++ [⟨i1, i2, i3, i4, i5⟩], fb, fd, rfl, by first | rfl | (rw [e5]) | go_num, HKL2.out, HAL2.out, HRO8.out, HU8.out⟩
        case measure => simp [intOf]; omega
      · have HRS : Hid (allR B = ([], er, (p : Int))) := HBD.out her
        clear HBD HNX
        have her2 : (er == 0) = false := by simpa using her
        go_wp2_with fail
        rw [HPo.out]
        refine ⟨.slice none 0 0, (by rw [HRS.out]; try rfl), by rw [HRS.out]; exact World.ownsRow_nil _ _ _ _, HUM2.out.trans HU6.out⟩
    · have hlt2 : ¬ (p : Int) < (n : Int) := by omega
      have HRS : Hid (allR B = (L, 0, 0)) := HAL.out.fin (by rw [← HN.out]; exact hlt)
      go_wp2_with fail
      rw [HPo.out]
      refine ⟨.slice sa k sc, (by rw [HRS.out]; try rfl), by rw [HRS.out]; show wr.ownsRow W.heap.size 28 5 (.slice sa k sc) L.length (ivs L); rw [HKL.out]; exact ows_base HRO.out HUM2.out.size, HUM2.out.trans HUR.out⟩
end CD
end Go.Proofs.YtoaaehgnbapibaaDoor
