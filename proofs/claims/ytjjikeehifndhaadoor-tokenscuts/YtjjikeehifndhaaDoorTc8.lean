
/-
  The law TokensCuts.
-/
import Derived.Test.YtjjikeehifndhaaDoorRu8
import Derived.Test.YtjjikeehifndhaaDoorLu8
import Derived.Test.YtjjikeehifndhaaDoorWk8
import Derived.Test.YtjjikeehifndhaaDoorEt8
import Derived.Test.YtjjikeehifndhaaDoorBta8
import Derived.Test.YtjjikeehifndhaaDoorBxt
namespace Go.Proofs.YtjjikeehifndhaaDoor
open Go.RowKit
attribute [local go_sem ↓] Go.wp_at_zero Go.wp_at_succ
namespace TK
theorem cutF_len {B : List Int} : ∀ (n p : Nat) (L l : List Tok), p ≤ B.length → cutF B n p L = .ok l → l.length ≤ L.length + (B.length - p) + 1
  | 0, p, L, l, hp, h => by
    unfold cutF at h
    cases h
    omega
  | n + 1, p, L, l, hp, h => by
    unfold cutF at h
    split at h
    · cases h
      simp
    · split at h
      · rename_i hs
        have h1 := stp_skip (by omega) hs
        have := cutF_len n _ _ _ h1.2 h
        omega
      · rename_i hs
        have h1 := stp_tok (by omega) hs
        have := cutF_len n _ _ _ h1.2.1 h
        simp at this
        omega
      · cases h
theorem cuL_len (B : List Int) : (cuL B).length ≤ 4294967296 := by
  unfold cuL
  split
  · simp
  · split
    · rename_i h
      have := cutF_len _ _ _ _ (Nat.zero_le _) h
      simp at this
      omega
    · simp
/- the source that is written over: its block, what stands in it -/
structure OC (w : World) (g n : Nat) (C : List Int) (W : World) : Prop where
  ex : ∃ cur : Array Value, W.heap[g]? = some (.cells cur 5 (0, 0)) ∧ ∀ j, j < n → cur[j]? = some (.int .u8 (C.getD j 0))
  le : w.heap.size ≤ g
  len : C.length = n
  byt : Byt C
theorem OC.lt {w W : World} {g n : Nat} {C : List Int} (h : OC w g n C W) : g < W.heap.size := by
  obtain ⟨cur, h1, -⟩ := h.ex
  exact (Array.getElem?_eq_some_iff.1 h1).1
theorem OC.cell {w W : World} {g n : Nat} {C : List Int} (h : OC w g n C W) {j : Nat} (hj : j < n) : W.cell? ⟨g, j, none⟩ = some (.int .u8 (C.getD j 0)) := by
  obtain ⟨cur, h1, h2⟩ := h.ex
  simp only [World.cell?, h1, h2 j hj]
  rfl
theorem OC.frozen {w W : World} {g n : Nat} {C : List Int} (h : OC w g n C W) (j : Nat) : W.frozen? ⟨g, j, none⟩ = false := by
  obtain ⟨cur, h1, -⟩ := h.ex
  simp [World.frozen?, h1]
theorem OC.up {w W W' : World} {g n : Nat} {C : List Int} (h : OC w g n C W) (u : Up W W') : OC w g n C W' := by
  obtain ⟨cur, h1, h2⟩ := h.ex
  exact ⟨⟨cur, u.heap h1, h2⟩, h.le, h.len, h.byt⟩
theorem OC.set {w W : World} {g n : Nat} {C : List Int} (h : OC w g n C W) {i : Nat} (hi : i < n) {d : Int} (hd : 0 ≤ d ∧ d < 256) : OC w g n (C.set i d) (W.setCell ⟨g, i, none⟩ (.int .u8 d)) := by
  obtain ⟨cur, h1, h2⟩ := h.ex
  refine ⟨⟨cur.setIfInBounds i (.int .u8 d), set_cells h1, fun j hj => ?_⟩, h.le, by simp [h.len], fun c hc => ?_⟩
  · have hs : i < cur.size := by
      have := h2 i hi
      exact (Array.getElem?_eq_some_iff.1 this).1
    rw [Array.getElem?_setIfInBounds]
    by_cases e : i = j
    · subst e
      rw [if_pos rfl, if_pos hs]
      simp [List.getD, h.len, hi]
    · rw [if_neg e, h2 j hj]
      simp [List.getD, e]
  · rcases List.mem_or_eq_of_mem_set hc with h9 | h9
    · exact h.byt c h9
    · subst h9; exact hd
theorem OC.bl {w W : World} {g n c : Nat} {C : List Int} (h : OC w g n C W) (hc : n ≤ c) : BL W (.slice (some ⟨g, 0, none⟩) n c) C := by
  have h1 : BA W g 0 C := fun W' u j hj => by
    rw [Nat.zero_add]
    exact (h.up u).cell (by rw [← h.len]; exact hj)
  have h2 := ba_bl (c := c) h1 (by rw [h.len]; exact hc)
  rw [h.len] at h2
  exact h2
theorem oc_start {w W : World} {g : Nat} {B : List Int} (h : WB w W g B) (hl : Byt B) : OC w g B.length B W := by
  have hba := h.ba hl
  have h' : W.ownsRow w.heap.size 5 1 (.slice (some ⟨g, 0, none⟩) (SM.fillL (bts B) (B.length + 64) (B.length + 64)).length (SM.fillL (bts B) (B.length + 64) (B.length + 64)).length) (SM.fillL (bts B) (B.length + 64) (B.length + 64)).length _ := h
  rcases h'.2 with ⟨h9, -⟩ | ⟨g', cap, cur, e1, e2, e3, -⟩
  · cases h9
  · have e4 : g' = g := by
      simp only [Value.slice.injEq, Option.some.injEq, Addr.mk.injEq] at e1
      exact e1.1.1.symm
    subst e4
    refine ⟨⟨cur, e3, fun j hj => ?_⟩, e2, rfl, hl⟩
    have h8 := hba W (Up.refl _) j hj
    rw [Nat.zero_add] at h8
    simpa [World.cell?, e3] using h8
theorem own_lc8 {W : World} {base e s n : Nat} {v : Value} {xs : List Value} (h : W.ownsRow base e s v n xs) : LC W v s n xs := by
  refine ⟨h.1, ?_⟩
  rcases h.2 with ⟨rfl, rfl⟩ | ⟨g, cap, cur, rfl, _, _, hnc, _⟩
  · exact ⟨none, 0, rfl, Nat.le_refl _, fun h => absurd rfl h⟩
  · exact ⟨some ⟨g, 0, none⟩, cap, rfl, hnc, fun _ => ⟨g, 0, rfl, fun j hj => by rw [Nat.zero_add]; exact h.cellAt j hj⟩⟩
theorem own_bl8 {W : World} {base : Nat} {v : Value} {l : List Int} (h : W.ownsRow base 5 1 v l.length (bvs l)) : BL W v l := by
  rcases own_lv h with ⟨rfl, rfl⟩ | ⟨b, o, c, rfl, hc, hb⟩
  · exact ⟨rfl, none, 0, rfl, by simp, fun h9 => absurd rfl h9⟩
  · exact ba_bl hb hc
theorem row_tls {W : World} {base : Nat} {v : Value} {l : List Tok} (h : W.ownsRow base 63 4 v l.length (tvs l)) : TLs W v l := own_lc8 h
theorem up_kg {g : Nat} {a b : World} (u : Up a b) : Kg g a b := (Kg.refl g a).up u
set_option maxRecDepth 100000 in
set_option maxHeartbeats 16000000 in
theorem tcuts (vs : Value) (B : List Int) (w : World) (hB : BL w vs B) (hby : Byt B) (hz : ∀ cap, vs ≠ .slice none 0 (cap + 1)) (her : ER w) : Calls Tryd.prog 3 #[vs] w fun e w' => e = .returned (.bool true) ∧ Up w w' := by
  obtain ⟨Post, hPost⟩ : ∃ P : Ending → World → Prop, P = fun e w' => e = .returned (.bool true) ∧ Up w w' := ⟨_, rfl⟩
  rw [← hPost]
  have HPo : Hid (Post = fun e w' => e = .returned (.bool true) ∧ Up w w') := hPost
  clear hPost
  have HBY : Hid (Byt B) := hby
  have HBW : Hid (∀ W, Up w W → BL W vs B) := fun W u => hB.up u
  have HZ : Hid (∀ cap, vs ≠ .slice none 0 (cap + 1)) := hz
  have HER : Hid (ER w) := her
  obtain ⟨a, c, hvb, -, -⟩ := bl_cells hB
  obtain ⟨n, hN⟩ : ∃ n, n = B.length := ⟨_, rfl⟩
  have HN : Hid (n = B.length) := hN
  rw [← hN] at hvb
  subst hvb
  clear hB hby hz her hN
  go_enter Tryd.func3, Tryd.ntmps3
  go_wp2_with fail
  refine Calls.mono (SM.longB n w) ?_
  rintro r W1 ⟨rfl, hw1⟩
  obtain rfl := hw1.symm
  clear hw1
  by_cases hbig : 2147483647 < n
  · rw [decide_eq_true hbig]
    go_wp2_with fail
    rw [HPo.out]
    exact ⟨rfl, Up.refl _⟩
  · rw [decide_eq_false hbig]
    have HWD : Hid (Calls Tryd.prog 10 #[.slice a n c] w fun e w' => ∃ g, e = .returned (.slice (some ⟨g, 0, none⟩) n (n + 64)) ∧ WB w w' g B ∧ Up w w') := by
      have h9 := wideT_ _ B w (HBW.out w (Up.refl _)) HBY.out HZ.out (by have := HN.out; omega)
      rw [← HN.out] at h9
      exact h9
    go_wp2_with fail
    refine Calls.mono HWD.out ?_
    rintro r W2 ⟨g, rfl, hwb, u⟩
    have HW : Hid (∀ W, Up W2 W → WB w W g B) := fun W x => hwb.up x
    have HG2 : Hid (g < W2.heap.size ∧ w.heap.size ≤ W2.heap.size) := ⟨(oc_start hwb HBY.out).lt, u.size⟩
    have HU : Hid (Up w W2) := u
    have HCU : Hid (∀ W, Up W2 W → Up w W → Calls Tryd.prog 11 #[.slice (some ⟨g, 0, none⟩) n (n + 64)] W (CuP W B)) := fun W x y => by
      have h9 := (HW.out W x).bl HBY.out
      rw [← HN.out] at h9
      exact cut_ _ B W h9 HBY.out (HER.out.up y)
    have HRC : Hid (∀ W, Up w W → Calls Tryd.prog 12 #[.slice a n c] W (CuP W B)) := fun W y => rcut_ _ B W (HBW.out W y) HBY.out
    have HEQ : Hid (∀ W, Up W2 W → Up w W → Calls Tryd.prog 14 #[.slice (some ⟨g, 0, none⟩) n (n + 64), .slice a n c] W fun e w' => e = .returned (.bool true) ∧ Up W w') := fun W x y => by
      have h9 := (HW.out W x).bl HBY.out
      rw [← HN.out] at h9
      exact eqT_ _ _ B W h9 (HBW.out W y) HBY.out (fun cap h => by cases h) HZ.out (by have := HN.out; omega)
    have HSP : Hid (∀ W, Up W2 W → Calls Tryd.prog 15 #[.slice (some ⟨g, 0, none⟩) n (n + 64)] W fun e w' => e = .returned (.bool true) ∧ w' = W) := fun W x => by
      have h9 := (HW.out W x).spare
      rw [← HN.out] at h9
      exact SM.spareB g n W (by omega) h9
    have HLB : Hid ((cuL B).length ≤ 4294967296) := cuL_len B
    have HN0 : Hid (¬ 2147483647 < n) := hbig
    clear hwb u HWD hbig
    generalize hE : cuE B = eE at *
    generalize hA : cuA B = eA at *
    clear hE hA
    have q1 : (eE != eE) = false := by simp
    have q2 : (eA != eA) = false := by simp
    go_wp2_with fail
    refine Calls.mono (HCU.out W2 (Up.refl _) HU.out) ?_
    rintro r W3 ⟨va, rfl, hra, u3⟩
    have HX : Hid (Up W2 W3) := u3
    have HU : Hid (Up w W3) := HU.out.trans u3
    have HRA : Hid (W3.ownsRow W2.heap.size 63 4 va (cuL B).length (tvs (cuL B))) := hra
    have HS3 : Hid (W2.heap.size ≤ W3.heap.size) := u3.size
    clear hra u3
    go_wp2_with fail
    refine Calls.mono (HCU.out W3 HX.out HU.out) ?_
    rintro r W4 ⟨vb, rfl, hrb, u4⟩
    have HX : Hid (Up W2 W4) := HX.out.trans u4
    have HU : Hid (Up w W4) := HU.out.trans u4
    have HAL : Hid (∀ k, va.ownBlock = some k → W2.heap.size ≤ k ∧ k < W3.heap.size) := World.ownsRow.lt HRA.out
    have HBL : Hid (∀ k, vb.ownBlock = some k → W3.heap.size ≤ k ∧ k < W4.heap.size) := World.ownsRow.lt hrb
    have HS40 : Hid (W3.heap.size ≤ W4.heap.size) := u4.size
    have HRA : Hid (W4.ownsRow W2.heap.size 63 4 va (cuL B).length (tvs (cuL B))) := row_up HRA.out u4
    have HRB : Hid (W4.ownsRow W3.heap.size 63 4 vb (cuL B).length (tvs (cuL B))) := hrb
    clear hrb u4
    go_wp2_with fail
    refine Calls.mono (HRC.out W4 HU.out) ?_
    rintro r W5 ⟨vw, rfl, hrw, u5⟩
    have HX : Hid (Up W2 W5) := HX.out.trans u5
    have HU : Hid (Up w W5) := HU.out.trans u5
    have HS4 : Hid (W4.heap.size ≤ W5.heap.size ∧ W3.heap.size ≤ W4.heap.size) := ⟨u5.size, HS40.out⟩
    have HRA : Hid (W5.ownsRow W2.heap.size 63 4 va (cuL B).length (tvs (cuL B))) := row_up HRA.out u5
    have HRB : Hid (W5.ownsRow W3.heap.size 63 4 vb (cuL B).length (tvs (cuL B))) := row_up HRB.out u5
    have HRW : Hid (W5.ownsRow W4.heap.size 63 4 vw (cuL B).length (tvs (cuL B))) := hrw
    have HQ1 : Hid (∀ W, Up W5 W → Calls Tryd.prog 13 #[va, vw] W fun e w' => e = .returned (.bool true) ∧ Up W w') := fun W x => eqTok_ _ _ (cuL B) W (row_tls (row_up HRA.out x)) (row_tls (row_up HRW.out x)) HLB.out
    have HQ2 : Hid (∀ W, Up W5 W → Calls Tryd.prog 13 #[vb, vw] W fun e w' => e = .returned (.bool true) ∧ Up W w') := fun W x => eqTok_ _ _ (cuL B) W (row_tls (row_up HRB.out x)) (row_tls (row_up HRW.out x)) HLB.out
    clear hrw u5 HRC HCU
    go_wp2_with fail
    refine Calls.mono (HQ1.out W5 (Up.refl _)) ?_
    rintro r Wa ⟨rfl, ua⟩
    have HY : Hid (Up W5 Wa) := ua
    clear ua HQ1
    go_wp2_with fail
    refine Calls.mono (HQ2.out Wa HY.out) ?_
    rintro r Wb ⟨rfl, ub⟩
    have HY : Hid (Up W5 Wb) := HY.out.trans ub
    clear ub HQ2
    go_wp2_with fail
    refine Calls.mono (HEQ.out Wb (HX.out.trans HY.out) (HU.out.trans HY.out)) ?_
    rintro r W6 ⟨rfl, uc⟩
    have HY : Hid (Up W5 W6) := HY.out.trans uc
    clear uc HEQ
    go_wp2_with fail
    refine Calls.mono (HSP.out W6 (HX.out.trans HY.out)) ?_
    rintro r Wd ⟨rfl, hwd⟩
    obtain rfl := hwd.symm
    clear hwd HSP
    have HOC0 : Hid (OC w g n B W6) := by
      have h9 := oc_start (HW.out W6 (HX.out.trans HY.out)) HBY.out
      rw [← HN.out] at h9
      exact h9
    have HRA : Hid (W6.ownsRow W2.heap.size 63 4 va (cuL B).length (tvs (cuL B))) := row_up HRA.out HY.out
    have HRB : Hid (W6.ownsRow W3.heap.size 63 4 vb (cuL B).length (tvs (cuL B))) := row_up HRB.out HY.out
    have HRW : Hid (W6.ownsRow W4.heap.size 63 4 vw (cuL B).length (tvs (cuL B))) := row_up HRW.out HY.out
    have HS5 : Hid (W5.heap.size ≤ W6.heap.size) := HY.out.size
    have HU : Hid (Up w W6) := HU.out.trans HY.out
    clear HY HX HW
    go_wp2_with fail
    go_loopw [13] (fun s13 W => ∃ (i : Nat) (C : List Int), i ≤ n ∧ s13 = .int .i64 i ∧ OC w g n C W ∧ Kg g W6 W ∧ Up w W) (fun s13 _ => n - (intOf s13).toNat)
    case atStart => exact ⟨0, B, Nat.zero_le _, rfl, HOC0.out, Kg.refl _ _, HU.out⟩
    case round =>
      clear HOC0 HU
      obtain ⟨i, C, hi, rfl, hoc, hkg, hup⟩ := hrel
      have HOC : Hid (OC w g n C wr) := hoc
      have HK : Hid (Kg g W6 wr) := hkg
      have HU : Hid (Up w wr) := hup
      have hng := HN0.out
      clear hoc hkg hup
      by_cases hlt : i < n
      · have hlt2 : (i : Int) < (n : Int) := by omega
        have ei : IntKind.i64.wrap ((i : Int) + 1) = ((i + 1 : Nat) : Int) := by rw [IntKind.wrap_i64]; omega
        have x1 := HOC.out.cell hlt
        have f1 := HOC.out.frozen i
        have hdr := HOC.out.byt.at i
        generalize C.getD i 0 = d at *
        by_cases c1 : 97 ≤ d ∧ d < 122
        · have k1 : (97 : Int) ≤ d := c1.1
          have k2 : d < 122 := c1.2
          clear c1
          have ed : IntKind.u8.wrap (d + 1) = d + 1 := by rw [IntKind.wrap_u8]; omega
          have HOC2 : Hid (OC w g n (C.set i (d + 1)) (wr.setCell ⟨g, i, none⟩ (.int .u8 (d + 1)))) := HOC.out.set hlt ⟨by omega, by omega⟩
          have HK2 : Hid (Kg g W6 (wr.setCell ⟨g, i, none⟩ (.int .u8 (d + 1)))) := HK.out.set _ _
          have HU2 : Hid (Up w (wr.setCell ⟨g, i, none⟩ (.int .u8 (d + 1)))) := Below.setCell HU.out HOC.out.le _
          go_wp2_with fail
          go_roundw
          case rel => exact ⟨i + 1, _, by omega, by go_num, HOC2.out, HK2.out, HU2.out⟩
          case measure => simp [intOf]; omega
        · by_cases c2 : 49 ≤ d ∧ d < 57
          · have k1 : ¬ (97 : Int) ≤ d := by omega
            have k3 : (49 : Int) ≤ d := c2.1
            have k4 : d < 57 := c2.2
            clear c1 c2
            have ed : IntKind.u8.wrap (d + 1) = d + 1 := by rw [IntKind.wrap_u8]; omega
            have HOC2 : Hid (OC w g n (C.set i (d + 1)) (wr.setCell ⟨g, i, none⟩ (.int .u8 (d + 1)))) := HOC.out.set hlt ⟨by omega, by omega⟩
            have HK2 : Hid (Kg g W6 (wr.setCell ⟨g, i, none⟩ (.int .u8 (d + 1)))) := HK.out.set _ _
            have HU2 : Hid (Up w (wr.setCell ⟨g, i, none⟩ (.int .u8 (d + 1)))) := Below.setCell HU.out HOC.out.le _
            go_wp2_with fail
            go_roundw
            case rel => exact ⟨i + 1, _, by omega, by go_num, HOC2.out, HK2.out, HU2.out⟩
            case measure => simp [intOf]; omega
          · by_cases k1 : (97 : Int) ≤ d
            · have k2 : ¬ d < 122 := by omega
              have k3 : (49 : Int) ≤ d := by omega
              have k4 : ¬ d < 57 := by omega
              clear c1 c2
              have HOC2 := HOC
              have HK2 := HK
              have HU2 := HU
              go_wp2_with fail
              go_roundw
              case rel => exact ⟨i + 1, _, by omega, by go_num, HOC2.out, HK2.out, HU2.out⟩
              case measure => simp [intOf]; omega
            · by_cases k3 : (49 : Int) ≤ d
              · have k4 : ¬ d < 57 := by omega
                clear c1 c2
                have HOC2 := HOC
                have HK2 := HK
                have HU2 := HU
                go_wp2_with fail
                go_roundw
                case rel => exact ⟨i + 1, _, by omega, by go_num, HOC2.out, HK2.out, HU2.out⟩
                case measure => simp [intOf]; omega
              · clear c1 c2
                have HOC2 := HOC
                have HK2 := HK
                have HU2 := HU
                go_wp2_with fail
                go_roundw
                case rel => exact ⟨i + 1, _, by omega, by go_num, HOC2.out, HK2.out, HU2.out⟩
                case measure => simp [intOf]; omega
      · have hlt2 : ¬ (i : Int) < (n : Int) := by omega
        have HCC : Hid (Calls Tryd.prog 11 #[.slice (some ⟨g, 0, none⟩) n (n + 64)] wr (CuP wr C)) := cut_ _ C wr (HOC.out.bl (by omega)) HOC.out.byt (HER.out.up HU.out)
        have HLC : Hid ((cuL C).length ≤ 4294967296) := cuL_len C
        have HRA : Hid (wr.ownsRow W2.heap.size 63 4 va (cuL B).length (tvs (cuL B))) := row_kg HRA.out HK.out HG2.out.1
        have HRB : Hid (wr.ownsRow W3.heap.size 63 4 vb (cuL B).length (tvs (cuL B))) := row_kg HRB.out HK.out (Nat.lt_of_lt_of_le HG2.out.1 HS3.out)
        have HRW : Hid (wr.ownsRow W4.heap.size 63 4 vw (cuL B).length (tvs (cuL B))) := row_kg HRW.out HK.out (Nat.lt_of_lt_of_le HG2.out.1 (Nat.le_trans HS3.out HS4.out.2))
        obtain ⟨h5, hh5⟩ : ∃ h, h = W3.heap.size := ⟨_, rfl⟩
        obtain ⟨h6, hh6⟩ : ∃ h, h = wr.heap.size := ⟨_, rfl⟩
        have HSA : Hid ((∀ g, va.ownBlock = some g → g < h5) ∧ (∀ g, vb.ownBlock = some g → h5 ≤ g ∧ g < h6)) := by
          have h8 := HK.out.1
          have h7 := HS5.out
          have h6' := HS4.out
          exact ⟨fun g hg => by have := HAL.out g hg; omega, fun g hg => by have := HBL.out g hg; omega⟩
        have HW6 : Hid (w.heap.size ≤ h6) := by
          have h9 := HU.out.size
          unfold Hid
          omega
        have HH0 : Hid (h5 ≤ h6) := by
          have h8 := HK.out.1
          have h7 := HS5.out
          have h6' := HS4.out
          unfold Hid
          omega
        have HOC : Hid (OC w g n C wr) := HOC.out
        clear hh5 HK HAL HBL
        generalize hE2 : cuE C = eC at *
        generalize hA2 : cuA C = eB at *
        have q3 : (eC != eC) = false := by simp
        have q4 : (eB != eB) = false := by simp
        go_wp2_with fail
        refine Calls.mono HCC.out ?_
        rintro r V1 ⟨vc, rfl, hrc, v1⟩
        have HX : Hid (Up wr V1) := v1
        have HRC1 : Hid (V1.ownsRow h6 63 4 vc (cuL C).length (tvs (cuL C))) := by unfold Hid; rw [hh6]; exact hrc
        have HU : Hid (Up w V1) := HU.out.trans v1
        have HCP : Hid (Calls Tryd.prog 16 #[.slice (some ⟨g, 0, none⟩) n (n + 64)] V1 fun e w' => ∃ u, e = .returned u ∧ w'.ownsRow V1.heap.size 5 1 u C.length (bvs C) ∧ Up V1 w') := copyT_ _ C V1 ((HOC.out.up v1).bl (by omega)) HOC.out.byt (fun cap h => by cases h) (by have := HOC.out.len; omega)
        clear hrc v1 HCC hh6
        rw [hE2, hA2]
        go_wp2_with fail
        refine Calls.mono HCP.out ?_
        rintro r V2 ⟨uu, rfl, hru, v2⟩
        have HX : Hid (Up wr V2) := HX.out.trans v2
        have HU : Hid (Up w V2) := HU.out.trans v2
        have HRC1 : Hid (V2.ownsRow h6 63 4 vc (cuL C).length (tvs (cuL C))) := row_up HRC1.out v2
        have HCR : Hid (Calls Tryd.prog 12 #[uu] V2 (CuP V2 C)) := rcut_ _ C V2 (own_bl8 hru) HOC.out.byt
        clear hru v2 HCP
        go_wp2_with fail
        refine Calls.mono HCR.out ?_
        rintro r V3 ⟨vo, rfl, hro, v3⟩
        have HX : Hid (Up wr V3) := HX.out.trans v3
        have HU : Hid (Up w V3) := HU.out.trans v3
        have HRC1 : Hid (V3.ownsRow h6 63 4 vc (cuL C).length (tvs (cuL C))) := row_up HRC1.out v3
        have HQ3 : Hid (∀ W, Up V3 W → Calls Tryd.prog 13 #[vc, vo] W fun e w' => e = .returned (.bool true) ∧ Up W w') := fun W x => eqTok_ _ _ (cuL C) W (row_tls (row_up HRC1.out x)) (row_tls (row_up hro x)) HLC.out
        have HQ4 : Hid (∀ W, Up V3 W → Calls Tryd.prog 13 #[va, vw] W fun e w' => e = .returned (.bool true) ∧ Up W w') := fun W x => eqTok_ _ _ (cuL B) W (row_tls (row_up HRA.out (HX.out.trans x))) (row_tls (row_up HRW.out (HX.out.trans x))) HLB.out
        clear hro v3 HCR
        rw [hE2, hA2]
        clear hE2 hA2
        go_wp2_with fail
        refine Calls.mono (HQ3.out V3 (Up.refl _)) ?_
        rintro r V4 ⟨rfl, v4⟩
        have HY : Hid (Up V3 V4) := v4
        clear v4 HQ3
        go_wp2_with fail
        refine Calls.mono (HQ4.out V4 HY.out) ?_
        rintro r V5 ⟨rfl, v5⟩
        have HY : Hid (Up V3 V5) := HY.out.trans v5
        have HU : Hid (Up w V5) := HU.out.trans HY.out
        have HR5 : Hid (V5.ownsRow w.heap.size 63 4 va (cuL B).length (tvs (cuL B)) ∧ V5.ownsRow w.heap.size 63 4 vb (cuL B).length (tvs (cuL B)) ∧ V5.ownsRow w.heap.size 63 4 vc (cuL C).length (tvs (cuL C))) := ⟨BG.own_low (row_up HRA.out (HX.out.trans HY.out)) HG2.out.2, BG.own_low (row_up HRB.out (HX.out.trans HY.out)) (Nat.le_trans HG2.out.2 HS3.out), BG.own_low (row_up HRC1.out HY.out) HW6.out⟩
        have HSEP : Hid ((∀ g, va.ownBlock = some g → g < h5) ∧ (∀ g, vb.ownBlock = some g → h5 ≤ g ∧ g < h6) ∧ (∀ g, vc.ownBlock = some g → h6 ≤ g)) := ⟨HSA.out.1, HSA.out.2, fun g hg => (World.ownsRow.lt HRC1.out g hg).1⟩
        clear v5 HQ4 HX HY HRA HRB HRW HRC1 HOC HSA
        obtain ⟨gb, hgb⟩ : ∃ g, g = V5.heap.size := ⟨_, rfl⟩
        obtain ⟨V6, hV6⟩ : ∃ W, W = V5.alloc (.cells #[.slice none 0 0, .slice none 0 0, .slice none 0 0, .slice none 0 0, .slice none 0 0, .slice none 0 0, .slice none 0 0, .slice none 0 0, .slice none 0 0, .slice none 0 0, .slice none 0 0, .slice none 0 0, .slice none 0 0, .slice none 0 0, .slice none 0 0, .slice none 0 0, .slice none 0 0, .slice none 0 0, .slice none 0 0, .slice none 0 0, .slice none 0 0] 55) := ⟨_, rfl⟩
        have HB0 : Hid (BG.BagG V6 w.heap.size gb (gb + 1) (fun _ => .slice none 0 0) (fun _ => [])) := by
          unfold Hid
          rw [hgb, hV6]
          exact BG.bagG_start _ _
        have u6 : Up V5 V6 := by rw [hV6]; exact (Up.refl _).alloc _
        have HR6 : Hid (∀ W, Below gb V6 W → W.ownsRow w.heap.size 63 4 va (cuL B).length (tvs (cuL B)) ∧ W.ownsRow w.heap.size 63 4 vb (cuL B).length (tvs (cuL B)) ∧ W.ownsRow w.heap.size 63 4 vc (cuL C).length (tvs (cuL C))) := fun W x => by
          obtain ⟨r1, r2, r3⟩ := HR5.out
          refine ⟨BG.own_block (row_up r1 u6) fun g hg => x.block g ?_, BG.own_block (row_up r2 u6) fun g hg => x.block g ?_, BG.own_block (row_up r3 u6) fun g hg => x.block g ?_⟩
          · have := r1.lt g hg; omega
          · have := r2.lt g hg; omega
          · have := r3.lt g hg; omega
        have HG : Hid (w.heap.size ≤ gb ∧ ∀ g, (va.ownBlock = some g → g < h5 ∧ g < gb) ∧ (vb.ownBlock = some g → h5 ≤ g ∧ g < h6 ∧ g < gb) ∧ (vc.ownBlock = some g → h6 ≤ g ∧ g < gb)) := by
          obtain ⟨r1, r2, r3⟩ := HR5.out
          obtain ⟨s1, s2, s3⟩ := HSEP.out
          rw [hgb]
          exact ⟨HU.out.size, fun g => ⟨fun h => ⟨s1 g h, (r1.lt g h).2⟩, fun h => ⟨(s2 g h).1, (s2 g h).2, (r2.lt g h).2⟩, fun h => ⟨s3 g h, (r3.lt g h).2⟩⟩⟩
        have HU6 : Hid (Up w V6) := HU.out.trans u6
        have HXZ : Hid ((cuL B).length ≤ 4294967296 ∧ (cuL C).length ≤ 4294967296) := ⟨cuL_len B, cuL_len C⟩
        have HH : Hid (h5 ≤ h6) := HH0.out
        clear u6 HR5 HU HSEP
        go_wp2_with fail
        rw [← hV6, ← hgb]
        clear hV6 hgb
        refine Calls.mono (BG.addTokens_ gb (gb + 1) w.heap.size _ _ va (cuL B).length V6 HB0.out ⟨⟨_, (HR6.out V6 (Below.refl _ _)).1⟩, HXZ.out.1, fun g hg => ⟨((HG.out.2 g).1 hg).2, fun h => by obtain ⟨p, hp, -⟩ := h; exact absurd hp (Nat.not_lt_zero _)⟩⟩) ?_
        rintro e V7 ⟨rfl, f7, L7, d1, d2, d3, -, d5⟩
        have HB7 : Hid (BG.BagG V7 w.heap.size gb (gb + 1) f7 L7) := d1
        have HD7 : Hid (Below gb V6 V7) := d2
        have HK7 : Hid (∀ g, BG.Blks (L7 9) g → g < h5) := fun g hg => by
          rcases d3 9 g hg with h | h
          · obtain ⟨p, hp, -⟩ := h; exact absurd hp (Nat.not_lt_zero _)
          · exact ((HG.out.2 g).1 h.2).1
        have HJ7 : Hid (∀ j, j ∉ [9] → L7 j = []) := d5
        clear d1 d2 d3 d5 HB0
        go_wp2_with fail
        refine Calls.mono (BG.addTokens_ gb (gb + 1) w.heap.size _ _ vb (cuL B).length V7 HB7.out ⟨⟨_, (HR6.out V7 HD7.out).2.1⟩, HXZ.out.1, fun g hg => ⟨((HG.out.2 g).2.1 hg).2.2, fun h => by have := HK7.out g h; have := (HG.out.2 g).2.1 hg; omega⟩⟩) ?_
        rintro e V8 ⟨rfl, f8, L8, d1, d2, d3, -, d5⟩
        have HB8 : Hid (BG.BagG V8 w.heap.size gb (gb + 1) f8 L8) := d1
        have HD8 : Hid (Below gb V6 V8) := Below.trans HD7.out d2
        have HK8 : Hid (∀ g, BG.Blks (L8 9) g → g < h6) := fun g hg => by
          rcases d3 9 g hg with h | h
          · have := HK7.out g h; have := HH.out; omega
          · have := (HG.out.2 g).2.1 h.2; omega
        have HJ8 : Hid (∀ j, j ∉ [9] → L8 j = []) := fun j hj => (d5 j hj).trans (HJ7.out j hj)
        clear d1 d2 d3 d5 HB7 HD7 HK7 HJ7
        go_wp2_with fail
        refine Calls.mono (BG.addTokens_ gb (gb + 1) w.heap.size _ _ vc (cuL C).length V8 HB8.out ⟨⟨_, (HR6.out V8 HD8.out).2.2⟩, HXZ.out.2, fun g hg => ⟨((HG.out.2 g).2.2 hg).2, fun h => by have := HK8.out g h; have := (HG.out.2 g).2.2 hg; omega⟩⟩) ?_
        rintro e V9 ⟨rfl, f9, L9, d1, d2, -, -, d5⟩
        have HB9 : Hid (BG.BagG V9 w.heap.size gb (gb + 1) f9 L9) := d1
        have HD9 : Hid (Below w.heap.size w V9) := Below.trans HU6.out ((Below.trans HD8.out d2).mono HG.out.1)
        have HJ9 : Hid (∀ k, k < 21 → k ≠ 9 → L9 k = []) := fun j _ h1 => (d5 j (by simp; omega)).trans (HJ8.out j (by simp; omega))
        clear d1 d2 d5 HB8 HD8 HK8 HJ8
        go_wp2_with fail
        refine Calls.mono (BG.apartBxt_ V9 w.heap.size gb (gb + 1) f9 L9 HB9.out HG.out.1 HJ9.out) ?_
        rintro e V10 ⟨rfl, d1⟩
        have HD10 : Hid (Up w V10) := Below.trans HD9.out d1
        clear d1 HD9 HB9 HJ9
        go_wp2_with fail
        refine Calls.mono (works_ V10 (HER.out.up HD10.out)) ?_
        rintro r V11 ⟨rfl, u⟩
        go_wp2_with fail
        rw [HPo.out]
        exact ⟨rfl, HD10.out.trans u⟩
end TK
end Go.Proofs.YtjjikeehifndhaaDoor
