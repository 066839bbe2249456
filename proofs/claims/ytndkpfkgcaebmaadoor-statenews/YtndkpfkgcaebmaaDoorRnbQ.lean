/-
  The document's New.
-/
import Derived.Test.YtndkpfkgcaebmaaDoorBkmToNp
import Derived.Test.YtndkpfkgcaebmaaDoorBbToBks
import Derived.Deep.AppendLies
import Derived.Deep.RegionLaw
namespace Go.Proofs.YtndkpfkgcaebmaaDoor
open Go.RowKit
attribute [local go_sem ↓] Go.wp_at_zero Go.wp_at_succ

namespace ST
def RPost (w : World) (s : Stt) (k : Int) (e : Ending) (w' : World) : Prop := ∃ v', e = .returned (.tuple #[v', .int .i64 k]) ∧ StL w' v' s ∧ Up w w'
theorem zone_le (zs : List (List Int)) (r : Nat) : (zs.getD r []).length ≤ zs.flatten.length := by
  by_cases h : r < zs.length
  · have : zs.flatten = (zs.take r).flatten ++ (zs.getD r [] ++ (zs.drop (r + 1)).flatten) := by
      rw [← List.flatten_cons, ← List.flatten_append, List.getD_eq_getElem?_getD, List.getElem?_eq_getElem h]
      simp
    rw [this, List.length_append, List.length_append]
    omega
  · rw [List.getD_eq_getElem?_getD, List.getElem?_eq_none (by omega)]
    exact Nat.zero_le _
theorem tot_le (ds : List (List Crd)) (p : Nat) : total (ds.take p) ≤ total ds := by
  have : ds.flatten = (ds.take p).flatten ++ (ds.drop p).flatten := by rw [← List.flatten_append, List.take_append_drop]
  unfold total
  rw [this, List.length_append]
  omega
set_option maxRecDepth 100000 in
set_option maxHeartbeats 8000000 in
theorem rnew_ (v : Value) (ds : List (List Crd)) (li en : Int) (w : World) (hv : DL w v ds) (hn : ds.length ≤ 4294967296) (hl : ∀ r, r < ds.length → (ds.getD r []).length ≤ 4294967296) :
    Calls Tryd.prog 18 #[v, .int .i32 li, .int .i32 en] w (RPost w (newR ds li en) (newE ds li en)) := by
  obtain ⟨Post, hPost⟩ : ∃ P : Ending → World → Prop, P = RPost w (newR ds li en) (newE ds li en) := ⟨_, rfl⟩
  rw [← hPost]
  have HP : Hid (Post = RPost w (newR ds li en) (newE ds li en)) := hPost
  have HBad : Hid (newB ds li en = false → ∀ W, Up w W → Post (.returned (.tuple #[.agg #[.slice none 0 0, .slice none 0 0, .slice none 0 0, .int .i32 0, .int .i64 0, .int .i8 0, .int .i64 0], .int .i64 1])) W) := fun hb W u => by
    rw [HP.out]
    refine ⟨.agg stZ, ?_, ?_, u⟩
    · rw [newE, hb]; rfl
    · rw [newR, hb]; exact (noS_own w.heap.size W).sl
  obtain ⟨a3, k3, rfl, -, c3⟩ := dl_at hv
  obtain ⟨n, hn0⟩ : ∃ n, n = ds.length := ⟨_, rfl⟩
  rw [← hn0] at hn hl c3 ⊢
  have HC : Hid _ := c3
  have HL : Hid _ := hl
  have HN : Hid (n = ds.length) := hn0
  clear hv c3 hl hn0 hPost
  cases hp : npB n
  · have hb : newB ds li en = false := by simp [newB, decksB, ← HN.out, hp]
    have HB : Hid _ := HBad.out hb
    have hf : fromB (n : Int) 2 4 = false := by
      simp only [npB, fromB, Bool.and_eq_false_iff, decide_eq_false_iff_not] at hp ⊢
      omega
    clear HBad hb
    go_enter Tryd.func18, Tryd.ntmps18
    go_wp2_with fail
    refine Calls.mono (rfromB _ _ _ false hf _) ?_
    rintro e w1 ⟨rfl, rfl⟩
    go_wp2
    refine bodyPost_ret (v := .tuple #[.agg stZ, .int .i64 1]) (by simp [results, Tryd.results18, go_sem]; rfl) rfl ?_
    exact HB.out _ ((Up.refl _).alloc _)
  · have hn4 : 2 ≤ n ∧ n ≤ 4 := by simp [npB] at hp; omega
    have hf : fromB (n : Int) 2 4 = true := by simp [fromB]; omega
    go_enter Tryd.func18, Tryd.ntmps18
    go_wp2_with fail
    refine Calls.mono (rfromB _ _ _ true hf _) ?_
    rintro e w1 ⟨rfl, hw1⟩
    obtain rfl := hw1.symm
    go_wp2_with fail
    go_loopw [8, 9] (fun s3 s16 W => ∃ i m : Nat, i ≤ n ∧ s16 = .int .i64 i ∧ s3 = .int .i64 m ∧ W = w.alloc (.cells #[.slice none 0 0, .slice none 0 0, .slice none 0 0, .int .i32 0, .int .i64 0, .int .i8 0, .int .i64 0] 27) ∧ m = total (ds.take i) ∧ m ≤ i * 4294967296) (fun _ s16 _ => n - (intOf s16).toNat)
    case atStart => exact ⟨0, 0, Nat.zero_le _, rfl, rfl, rfl, rfl, by omega⟩
    case round =>
      obtain ⟨i, m, hi, rfl, rfl, hww, hm, hmb⟩ := hrel
      obtain rfl := hww
      have HM : Hid (m = total (ds.take i)) := hm
      clear hm
      by_cases hlt : i < n
      · have hlt2 : (i : Int) < (n : Int) := by omega
        obtain ⟨b3, o3, rfl, hrow⟩ := HC.out (by omega)
        obtain ⟨ra, rc, hcell, -⟩ := hrow i hlt
        have x1 := hcell _ ((Up.refl _).alloc (.cells #[.slice none 0 0, .slice none 0 0, .slice none 0 0, .int .i32 0, .int .i64 0, .int .i8 0, .int .i64 0] 27))
        have hlen := HL.out i hlt
        have HF : Hid (m + (ds.getD i []).length = total (ds.take (i + 1))) := by unfold Hid; rw [HM.out]; exact (tot_next ds i (by rw [← HN.out]; exact hlt)).symm
        clear hcell hrow HM
        generalize (ds.getD i []).length = q at x1 hlen HF
        go_wp2_with fail
        go_roundw
        case rel => exact ⟨i + 1, m + q, by omega, by go_num, by go_num, by first | rfl | trivial, HF.out, by omega⟩
        case measure => simp [intOf]; omega
      · have hlt2 : ¬ (i : Int) < (n : Int) := by omega
        have HMt : Hid (m = total ds) := by unfold Hid; rw [HM.out, List.take_of_length_le (by rw [← HN.out]; omega)]
        clear HM
        obtain ⟨M, hM⟩ : ∃ M, M = m := ⟨_, rfl⟩
        cases hc : ncB m
        · have hb : newB ds li en = false := by simp [newB, decksB, ← HMt.out, hc]
          have HB : Hid _ := HBad.out hb
          have hf2 : fromB (m : Int) 1 256 = false := by
            simp only [ncB, fromB, Bool.and_eq_false_iff, decide_eq_false_iff_not] at hc ⊢
            omega
          clear HBad hb
          go_wp2_with fail
          refine Calls.mono (rfromB _ _ _ false hf2 _) ?_
          rintro e w1 ⟨rfl, hw1⟩
          obtain rfl := hw1.symm
          go_wp2
          refine bodyPost_ret (v := .tuple #[.agg stZ, .int .i64 1]) (by simp [results, Tryd.results18, go_sem]; rfl) rfl ?_
          exact HB.out _ ((Up.refl _).alloc _)
        · have hf2 : fromB (m : Int) 1 256 = true := by
            simp only [ncB, fromB, Bool.and_eq_true, decide_eq_true_eq] at hc ⊢
            omega
          go_wp2_with fail
          refine Calls.mono (rfromB _ _ _ true hf2 _) ?_
          rintro e w1 ⟨rfl, hw1⟩
          obtain rfl := hw1.symm
          cases hli : statB li
          · have hb : newB ds li en = false := by simp [newB, hli]
            have HB : Hid _ := HBad.out hb
            clear HBad hb
            go_wp2_with fail
            refine Calls.mono (rStatB _ false hli _) ?_
            rintro e w1 ⟨rfl, hw1⟩
            obtain rfl := hw1.symm
            go_wp2
            refine bodyPost_ret (v := .tuple #[.agg stZ, .int .i64 1]) (by simp [results, Tryd.results18, go_sem]; rfl) rfl ?_
            exact HB.out _ ((Up.refl _).alloc _)
          · go_wp2_with fail
            refine Calls.mono (rStatB _ true hli _) ?_
            rintro e w1 ⟨rfl, hw1⟩
            obtain rfl := hw1.symm
            cases hen : statB en
            · have hb : newB ds li en = false := by simp [newB, hen]
              have HB : Hid _ := HBad.out hb
              clear HBad hb
              go_wp2_with fail
              refine Calls.mono (rStatB _ false hen _) ?_
              rintro e w1 ⟨rfl, hw1⟩
              obtain rfl := hw1.symm
              go_wp2
              refine bodyPost_ret (v := .tuple #[.agg stZ, .int .i64 1]) (by simp [results, Tryd.results18, go_sem]; rfl) rfl ?_
              exact HB.out _ ((Up.refl _).alloc _)
            · go_wp2_with fail
              refine Calls.mono (rStatB _ true hen _) ?_
              rintro e w1 ⟨rfl, hw1⟩
              obtain rfl := hw1.symm
              obtain ⟨MP, MZ, -, hMZ0, -, hmk⟩ := new_make n hn4.2
              have hMZ : Hid (MZ = List.replicate (4 * n) (.slice none 0 0)) := hMZ0
              clear hMZ0
              obtain ⟨iP, hiP, ip0, ip1, ip2⟩ := info_parts infoP
              obtain ⟨iC, hiC, ic0, ic1, ic2⟩ := info_parts infoC
              obtain ⟨iI, hiI, ii0, ii1, ii2⟩ := info_parts infoI
              have hm256 : m ≤ 256 := by simp [ncB] at hc; omega
              have HG9 : Hid (npB n = true ∧ ncB m = true ∧ statB li = true ∧ statB en = true) := ⟨hp, hc, hli, hen⟩
              clear hf hf2 hp hc hM M hlt hlt2 hi hmb
              obtain ⟨W0, hW0⟩ : ∃ W, W = ((w.alloc (.cells #[.slice none 0 0, .slice none 0 0, .slice none 0 0, .int .i32 0, .int .i64 0, .int .i8 0, .int .i64 0] 27)).alloc (.cells MZ.toArray 74)).alloc (.cells #[.slice none 0 0, .slice none 0 0, .slice (some ⟨w.heap.size + 1, 0, none⟩) (4 * n) (4 * n), .int .i32 1, .int .i64 0, .int .i8 0, .int .i64 0] 27) := ⟨_, rfl⟩
              have HR0 : Hid (RN w W0 (w.heap.size + 2) (w.heap.size + 1) n nl nl MZ [] [] (fun _ => [])) := by
                have e1 : (w.alloc (.cells #[.slice none 0 0, .slice none 0 0, .slice none 0 0, .int .i32 0, .int .i64 0, .int .i8 0, .int .i64 0] 27)).heap[w.heap.size]? = some (.cells stZ 27 (0, 0)) := heap_alloc_new w _
                have e2 : ((w.alloc (.cells #[.slice none 0 0, .slice none 0 0, .slice none 0 0, .int .i32 0, .int .i64 0, .int .i8 0, .int .i64 0] 27)).alloc (.cells MZ.toArray 74)).heap[w.heap.size + 1]? = some (.cells MZ.toArray 74 (0, 0)) := by
                  have := heap_alloc_new (w.alloc (.cells #[.slice none 0 0, .slice none 0 0, .slice none 0 0, .int .i32 0, .int .i64 0, .int .i8 0, .int .i64 0] 27)) (.cells MZ.toArray 74)
                  simpa using this
                have e3 : W0.heap[w.heap.size + 2]? = some (.cells #[.slice none 0 0, .slice none 0 0, .slice (some ⟨w.heap.size + 1, 0, none⟩) (4 * n) (4 * n), .int .i32 1, .int .i64 0, .int .i8 0, .int .i64 0] 27 (0, 0)) := by
                  have := heap_alloc_new ((w.alloc (.cells #[.slice none 0 0, .slice none 0 0, .slice none 0 0, .int .i32 0, .int .i64 0, .int .i8 0, .int .i64 0] 27)).alloc (.cells MZ.toArray 74)) (.cells #[.slice none 0 0, .slice none 0 0, .slice (some ⟨w.heap.size + 1, 0, none⟩) (4 * n) (4 * n), .int .i32 1, .int .i64 0, .int .i8 0, .int .i64 0] 27)
                  rw [hW0]
                  simpa using this
                have u1 : Up (w.alloc (.cells #[.slice none 0 0, .slice none 0 0, .slice none 0 0, .int .i32 0, .int .i64 0, .int .i8 0, .int .i64 0] 27)) W0 := by rw [hW0]; exact ((Up.refl _).alloc _).alloc _
                have u2 : Up ((w.alloc (.cells #[.slice none 0 0, .slice none 0 0, .slice none 0 0, .int .i32 0, .int .i64 0, .int .i8 0, .int .i64 0] 27)).alloc (.cells MZ.toArray 74)) W0 := by rw [hW0]; exact (Up.refl _).alloc _
                have hnil : ∀ q, q < 4 * n → MZ.getD q nl = .slice none 0 0 := fun q hq => by rw [hMZ.out, List.getD_eq_getElem?_getD]; simp [hq]
                refine ⟨((Up.refl w).alloc _).trans u1, e3, World.ownsRow_nil _ _ _ _, World.ownsRow_nil _ _ _ _, ⟨u2.heap e2, by rw [hMZ.out]; simp, fun q hq => ?_, fun p q g hp _ _ h => ?_⟩, ⟨by omega, by omega⟩, u1.heap e1⟩
                · rw [hnil q hq]; exact World.ownsRow_nil _ _ _ _
                · rw [hnil p hp] at h; cases h
              go_wp2_with fail
              rw [← hW0]
              clear hW0 hMZ hmk
              obtain ⟨bs, hbs⟩ : ∃ b, b = w.heap.size + 1 + 1 := ⟨_, rfl⟩
              obtain ⟨gz, hgz⟩ : ∃ b, b = w.heap.size + 1 := ⟨_, rfl⟩
              rw [show w.heap.size + 2 = w.heap.size + 1 + 1 from rfl, ← hbs, ← hgz] at HR0
              rw [← hbs]
              clear hbs hgz
              go_loopw [11, 12, 13] (fun s11 s12 s13 W => ∃ (p m : Nat) (pa ca : Option Addr) (pk ck : Nat) (zl : List Value) (zs : Nat → List Int), p ≤ n ∧ s11 = .int .i64 p ∧ m = total (ds.take p) ∧ RN w W bs gz n (.slice pa p pk) (.slice ca m ck) zl (List.replicate p ⟨li, en, false⟩) (cardsF 0 (ds.take p)) zs ∧ (∀ q, q < 4 * n → zs q = (zonesF 0 (ds.take p)).getD q []) ∧ ∀ j, j < p → (ds.getD j []).all crd0B = true) (fun s11 _ _ _ => n - (intOf s11).toNat)
              case atStart => exact ⟨0, 0, none, none, 0, 0, MZ, fun _ => [], Nat.zero_le _, rfl, rfl, HR0.out, fun q _ => by simp [zonesF], fun j hj => absurd hj (Nat.not_lt_zero _)⟩
              case round =>
                clear HR0
                obtain ⟨p, m2, pa, ca, pk, ck, zl, zs, hp, rfl, hm2, hrn, hzs, hall⟩ := hrel
                have HRN : Hid _ := hrn
                have HM2 : Hid (m2 = total (ds.take p)) := hm2
                have HZS : Hid _ := hzs
                have HALL : Hid _ := hall
                clear hrn hm2 hzs hall
                by_cases hlt : p < n
                · have hlt2 : (p : Int) < (n : Int) := by omega
                  obtain ⟨b3, o3, rfl, hrow⟩ := HC.out (by omega)
                  obtain ⟨ra, rc, hcell, hcl⟩ := hrow p hlt
                  have hlen := HL.out p hlt
                  obtain ⟨d, hd⟩ : ∃ d, d = ds.getD p [] := ⟨_, rfl⟩
                  have HDd : Hid (d = ds.getD p []) := hd
                  rw [← hd] at hcell hcl hlen
                  clear hd
                  obtain ⟨a9, c9, hv9, -, hcc⟩ := cl_at hcl
                  obtain ⟨q, hq⟩ : ∃ q, q = d.length := ⟨_, rfl⟩
                  have HQ : Hid (q = d.length) := hq
                  rw [← hq] at hcell hlen hv9 hcc
                  have e9 : a9 = ra := by simp only [Value.slice.injEq] at hv9; exact hv9.1.symm
                  subst e9
                  have HCell : Hid (∀ W, Up w W → W.cell? ⟨b3, o3 + p, none⟩ = some (.slice a9 q rc)) := hcell
                  have HCC : Hid _ := hcc
                  clear hrow hcell hcl hv9 hcc hq
                  obtain ⟨y0, y1, y2, y3, y4, y5, y6⟩ := seven_cells HRN.out.sb
                  have yf := seven_f HRN.out.sb
                  have HPo : Hid ((wr.alloc (.cells #[.int .i32 li, .int .i32 en, .bool false] 71)).ownsRow w.heap.size 71 3 (.slice pa p pk) p (pvs (List.replicate p ⟨li, en, false⟩))) := by
                    have := (HRN.out.mono ((Up.refl wr).alloc (.cells #[.int .i32 li, .int .i32 en, .bool false] 71))).p
                    unfold PO at this
                    rw [List.length_replicate] at this
                    exact this
                  have HAdd : Hid (∀ v' w2, w2.ownsRow w.heap.size 71 3 v' (p + 1) (pvs (List.replicate p ⟨li, en, false⟩) ++ [.int .i32 li, .int .i32 en, .bool false]) → (wr.alloc (.cells #[.int .i32 li, .int .i32 en, .bool false] 71)).grownBy w2 (Value.slice pa p pk).ownBlock → RN w (w2.setCell ⟨bs, 0, none⟩ v') bs gz n v' (.slice ca m2 ck) zl (List.replicate (p + 1) ⟨li, en, false⟩) (cardsF 0 (ds.take p)) zs ∧ w2.cell? ⟨bs, 0, none⟩ = some (.slice pa p pk) ∧ w2.frozen? ⟨bs, 0, none⟩ = false) := fun v' w2 a1 a2 => by
                    have hR := HRN.out.mono ((Up.refl wr).alloc (.cells #[.int .i32 li, .int .i32 en, .bool false] 71))
                    have hk := BG.keep_grown hR.p a2 (by decide) bs _ hR.sb
                    refine ⟨hR.addP a2 ?_, (seven_cells hk).1, seven_f hk 0⟩
                    unfold PO
                    rw [List.length_replicate]
                    have e : pvs (List.replicate (p + 1) ⟨li, en, false⟩) = pvs (List.replicate p ⟨li, en, false⟩) ++ [.int .i32 li, .int .i32 en, .bool false] := by
                      rw [List.replicate_succ', pvs, List.flatMap_append]; rfl
                    rw [e]
                    exact a1
                  have HNw : Hid _ := BG.newCells wr [.int .i32 li, .int .i32 en, .bool false] 71
                  have HOn : Hid (∀ u ∈ [(.int .i32 li : Value), .int .i32 en, .bool false], u.oneCell' = true) := by intro u hu; simp at hu; rcases hu with rfl | rfl | rfl <;> rfl
                  have HWs : Hid (w.heap.size ≤ (wr.alloc (.cells #[.int .i32 li, .int .i32 en, .bool false] 71)).heap.size) := by have := HRN.out.up.size; unfold Hid; simp; omega
                  clear HRN
                  go_wp2_with (at_builtin; (refine BG.wpList_append_apart _ (by rfl) (.tmp 58) (.tmp 62) 22 (by rfl) w.heap.size 71 iP _ 3 12 Tryd.underlying22 hiP ip0 ip1 ip2 (by rfl) (by decide) (.slice pa p pk) p (pvs (List.replicate p ⟨li, en, false⟩)) (by rfl) HPo.out ⟨wr.heap.size, 0, none⟩ 1 [.int .i32 li, .int .i32 en, .bool false] (by rfl) (by rfl) HNw.out HOn.out (by unfold maxLen; omega) (by omega) HWs.out ?_; intro v' w2 a1 a2 a3 a4 a5; obtain ⟨hR, d1, e1⟩ := HAdd.out v' w2 a1 a2; have HR2 : Hid _ := hR; obtain ⟨pa2, pk2, hx⟩ := row_val a1; subst hx; clear a1 a2 a3 a4 a5 hR y0 y1 y2 y3 y4 y5 y6 yf))
                  clear d1 e1 HAdd HPo HNw HOn HWs
                  obtain ⟨W2, hW2⟩ : ∃ W, W = w2.setCell ⟨bs, 0, none⟩ (.slice pa2 (p + 1) pk2) := ⟨_, rfl⟩
                  rw [← hW2] at HR2 ⊢
                  clear hW2
                  have HT0 : Hid ((cardsF 0 (ds.take p)).length = m2) := by unfold Hid; rw [cardsF_len, HM2.out]
                  have hmm : m2 + q ≤ 256 := by
                    have h1 := tot_le ds (p + 1)
                    rw [tot_next ds p (by rw [← HN.out]; exact hlt), ← HM2.out, ← HDd.out, ← HQ.out, ← HMt.out] at h1
                    omega
                  go_loopw [12, 13] (fun s12 s13 W => ∃ (i : Nat) (ca : Option Addr) (ck : Nat) (zl : List Value) (zs : Nat → List Int), i ≤ q ∧ s12 = .int .i64 i ∧ RN w W bs gz n (.slice pa2 (p + 1) pk2) (.slice ca (m2 + i) ck) zl (List.replicate (p + 1) ⟨li, en, false⟩) (cardsF 0 (ds.take p) ++ owned p (d.take i)) zs ∧ (∀ z, z < 4 * n → zs z = if z = 4 * p then numsF m2 i else (zonesF 0 (ds.take p)).getD z []) ∧ (d.take i).all crd0B = true) (fun s12 _ _ => q - (intOf s12).toNat)
                  case atStart =>
                    refine ⟨0, ca, ck, zl, zs, Nat.zero_le _, rfl, by simpa [owned] using HR2.out, fun z hz => ?_, rfl⟩
                    rw [HZS.out z hz]
                    by_cases e : z = 4 * p
                    · rw [if_pos e, List.getD_eq_getElem?_getD, List.getElem?_eq_none (by rw [zonesF_len]; simp; omega)]; rfl
                    · rw [if_neg e]
                  case round =>
                    clear HR2 HZS
                    obtain ⟨i, ca, ck, zl, zs, hi, rfl, hrn, hzs, hall⟩ := hrel
                    have HRN : Hid _ := hrn
                    have HZS : Hid _ := hzs
                    have HAL : Hid _ := hall
                    clear hrn hzs hall
                    have x1 := HCell.out wr HRN.out.up
                    by_cases hi9 : i < q
                    · have hi10 : (i : Int) < (q : Int) := by omega
                      obtain ⟨b4, o4, rfl, hcc⟩ := HCC.out (by omega)
                      obtain ⟨x0, x2, x3, x4, x5, x6⟩ := hcc wr HRN.out.up i hi9
                      obtain ⟨x, hx⟩ : ∃ x, x = d.getD i dc := ⟨_, rfl⟩
                      rw [← hx] at x0 x2 x3 x4 x5 x6
                      have HXd : Hid (x = d.getD i dc) := hx
                      clear hx hcc
                      obtain ⟨ki, ow, po, he, da, ma⟩ := x
                      simp only at x0 x2 x3 x4 x5 x6
                      have hcr0 : crdB n ⟨ki, p, po, he, da, ma⟩ = crd0B ⟨ki, ow, po, he, da, ma⟩ := by
                        have h9 : numB (p : Int) n = true := by simp [numB]; omega
                        simp only [crdB, crd0B, h9, Bool.and_true]
                      cases hcr : crd0B ⟨ki, ow, po, he, da, ma⟩
                      · have hb : newB ds li en = false := by
                          have h9 : ds.all (fun d => d.all crd0B) = false := by
                            rw [List.all_eq_false]
                            refine ⟨d, ?_, ?_⟩
                            · rw [HDd.out, List.getD_eq_getElem?_getD, List.getElem?_eq_getElem (by rw [← HN.out]; exact hlt)]
                              exact List.getElem_mem _
                            · rw [Bool.not_eq_true, List.all_eq_false]
                              refine ⟨⟨ki, ow, po, he, da, ma⟩, ?_, by rw [hcr]; decide⟩
                              rw [HXd.out, List.getD_eq_getElem?_getD, List.getElem?_eq_getElem (by rw [← HQ.out]; exact hi9)]
                              exact List.getElem_mem _
                          simp [newB, decksB, h9]
                        have HB : Hid _ := HBad.out hb
                        have HCd : Hid (∀ W, Calls Tryd.prog 71 #[.agg #[.int .i64 ki, .int .i64 p, .int .i32 po, .int .i32 he, .int .i32 da, .int .i32 ma], .int .i64 n] W fun e w' => e = .returned (.bool false) ∧ Up W w') := fun W => by
                          have := rcard_ ⟨ki, p, po, he, da, ma⟩ n (by omega) W
                          rw [hcr0, hcr] at this
                          exact this
                        have l1 : b3 < wr.heap.size := World.block_lt_of_cell? _ _ x1
                        have l2 : b4 < wr.heap.size := World.block_lt_of_cell? _ _ x0
                        clear hb HBad hcr0 hcr
                        go_wp2_with fail
                        refine Calls.mono (HCd.out _) ?_
                        rintro e w3 ⟨rfl, u3⟩
                        have HR3 : Hid _ := HRN.out.mono (((Up.refl _).alloc _).trans u3)
                        have HU3 : Hid (Up w w3) := HR3.out.up
                        have HG : Hid (w3.heap[w.heap.size]? = some (.cells #[.slice none 0 0, .slice none 0 0, .slice none 0 0, .int .i32 0, .int .i64 0, .int .i8 0, .int .i64 0] 27 (0, 0))) := HR3.out.b6
                        have yf := seven_f HG.out
                        obtain ⟨y0, y1, y2, y3, y4, y5, y6⟩ := seven_cells HG.out
                        clear u3 HR3 HRN HCd x0 x1 x2 x3 x4 x5 x6
                        go_wp2_with fail
                        obtain ⟨p0, p1, p2, p3, p4, p5, p6⟩ := seven_cells (seven_set (x0 := .slice none 0 0) (x1 := .slice none 0 0) (x2 := .slice none 0 0) (x3 := .int .i32 0) (x4 := .int .i64 0) (x5 := .int .i8 0) (x6 := .int .i64 0) HG.out)
                        refine bodyPost_ret (v := .tuple #[.agg stZ, .int .i64 1]) (by simp [results, Tryd.results18, go_sem, p0, p1, p2, p3, p4, p5, p6]; rfl) rfl ?_
                        have hb : w.heap.size ≤ w.heap.size := Nat.le_refl _
                        exact HB.out _ (Up.set (Up.set (Up.set (Up.set (Up.set (Up.set (Up.set HU3.out _ _ hb) _ _ hb) _ _ hb) _ _ hb) _ _ hb) _ _ hb) _ _ hb)
                      · have HCd : Hid (∀ W, Calls Tryd.prog 71 #[.agg #[.int .i64 ki, .int .i64 p, .int .i32 po, .int .i32 he, .int .i32 da, .int .i32 ma], .int .i64 n] W fun e w' => e = .returned (.bool true) ∧ Up W w') := fun W => by
                          have := rcard_ ⟨ki, p, po, he, da, ma⟩ n (by omega) W
                          rw [hcr0, hcr] at this
                          exact this
                        have l1 : b3 < wr.heap.size := World.block_lt_of_cell? _ _ x1
                        have l2 : b4 < wr.heap.size := World.block_lt_of_cell? _ _ x0
                        have HCR : Hid _ := hcr
                        clear hcr0 hcr
                        go_wp2_with fail
                        refine Calls.mono (HCd.out _) ?_
                        rintro e w3 ⟨rfl, u3⟩
                        have HR3 : Hid _ := HRN.out.mono (((Up.refl _).alloc _).trans u3)
                        have HCb : Hid (w3.heap[wr.heap.size]? = some (.cells #[.int .i64 ki, .int .i64 p, .int .i32 po, .int .i32 he, .int .i32 da, .int .i32 ma] 73 (0, 0))) := u3.heap (heap_alloc_new wr _)
                        clear u3 HRN HCd x0 x1 x2 x3 x4 x5 x6 l1 l2
                        generalize wr.heap.size = cb at HCb ⊢
                        have h4p : 4 * p < 4 * n := by omega
                        have t4 : (4 * (p : Int)).toNat = 4 * p := by omega
                        have t5 : (4 * (p : Int)) < 4 * (n : Int) := by omega
                        have t7 : IntKind.i64.wrap (4 * (p : Int)) = 4 * (p : Int) := by rw [IntKind.wrap_i64]; omega
                        have t6 : (0 : Int) ≤ 4 * (p : Int) := by omega
                        have hio := HR3.out.z.2.2.1 (4 * p) h4p
                        rw [HZS.out (4 * p) h4p, if_pos rfl] at hio
                        obtain ⟨za, zk, hzv⟩ := row_val hio
                        rw [numsF_len] at hzv
                        have HIO : Hid (w3.ownsRow w.heap.size 3 1 (.slice za i zk) i (ivs (numsF m2 i))) := by
                          unfold IRow at hio
                          rw [numsF_len, hzv] at hio
                          exact hio
                        have HZC : Hid (w3.cell? ⟨gz, 4 * p, none⟩ = some (.slice za i zk) ∧ w3.frozen? ⟨gz, 4 * p, none⟩ = false) := by
                          have hz := HR3.out.z
                          have hl9 := hz.2.1
                          refine ⟨?_, seven_f hz.1 _⟩
                          rw [← hzv, List.getD_eq_getElem?_getD, List.getElem?_eq_getElem (by omega)]
                          simp [World.cell?, hz.1]
                        have HZV : Hid (zl.getD (4 * p) nl = .slice za i zk) := hzv
                        clear hio hzv
                        obtain ⟨y0, y1, y2, y3, y4, y5, y6⟩ := seven_cells HR3.out.sb
                        obtain ⟨zc, zf⟩ := HZC.out
                        have l1 : bs < w3.heap.size := World.block_lt_of_cell? _ _ y0
                        have l2 : gz < w3.heap.size := World.block_lt_of_cell? _ _ zc
                        have HOWN : Hid (((w3.alloc (.cells #[.int .i64 ((m2 : Int) + (i : Int))] 3)).drew).ownsRow w.heap.size 3 1 (.slice za i zk) i (ivs (numsF m2 i))) := row_up HIO.out (((Up.refl _).alloc _).drew)
                        have HGO : Hid (∀ g cap w4, w4.ownsRow w.heap.size 3 1 (.slice (some ⟨g, 0, none⟩) (i + 1) cap) (i + 1) (ivs (numsF m2 i) ++ [.int .i64 ((m2 : Int) + (i : Int))]) → ((w3.alloc (.cells #[.int .i64 ((m2 : Int) + (i : Int))] 3)).drew).grownBy w4 (Value.slice za i zk).ownBlock → ((Value.slice za i zk).ownBlock = some g ∨ g = w3.heap.size + 1) →
                            (RN w (w4.setCell ⟨gz, 4 * p, none⟩ (.slice (some ⟨g, 0, none⟩) (i + 1) cap)) bs gz n (.slice pa2 (p + 1) pk2) (.slice ca (m2 + i) ck) (zl.set (4 * p) (.slice (some ⟨g, 0, none⟩) (i + 1) cap)) (List.replicate (p + 1) ⟨li, en, false⟩) (cardsF 0 (ds.take p) ++ owned p (d.take i)) (fun z => if z = 4 * p then numsF m2 (i + 1) else zs z) ∧ (w4.setCell ⟨gz, 4 * p, none⟩ (.slice (some ⟨g, 0, none⟩) (i + 1) cap)).heap[cb]? = some (.cells #[.int .i64 ki, .int .i64 p, .int .i32 po, .int .i32 he, .int .i32 da, .int .i32 ma] 73 (0, 0))) ∧ (w4.cell? ⟨bs, 2, none⟩ = some (.slice (some ⟨gz, 0, none⟩) (4 * n) (4 * n)) ∧ w4.cell? ⟨bs, 1, none⟩ = some (.slice ca (m2 + i) ck)) ∧ w4.cell? ⟨gz, 4 * p, none⟩ = some (.slice za i zk) ∧ w4.frozen? ⟨gz, 4 * p, none⟩ = false) := fun g cap w4 h1 h2 h3 => by
                          have u : Up w3 ((w3.alloc (.cells #[.int .i64 ((m2 : Int) + (i : Int))] 3)).drew) := ((Up.refl _).alloc _).drew
                          have hR := HR3.out.mono u
                          have kb := BG.keep_grown HOWN.out h2 (by decide) bs _ hR.sb
                          have kz := BG.keep_grown HOWN.out h2 (by decide) gz _ hR.z.1
                          have kc := BG.keep_grown HOWN.out h2 (by decide) cb _ (u.heap HCb.out)
                          have hnx : numsF m2 (i + 1) = numsF m2 i ++ [((m2 : Int) + (i : Int))] := by
                            simp [numsF, List.range_succ]
                          refine ⟨⟨?_, set_other kc (heap_ne kc kz (by decide))⟩, ⟨(seven_cells kb).2.2.1, (seven_cells kb).2.1⟩, ?_, seven_f kz _⟩
                          · refine hR.addZ (l := numsF m2 (i + 1)) h4p (by rw [HZV.out]; exact h2) ?_ (by
                              rw [HZV.out]
                              rcases h3 with h3 | h3
                              · exact .inl (by rw [h3]; rfl)
                              · exact .inr ⟨g, rfl, by rw [h3]; simp⟩)
                            unfold IRow
                            rw [numsF_len, hnx]
                            have : ivs (numsF m2 i ++ [((m2 : Int) + (i : Int))]) = ivs (numsF m2 i) ++ [.int .i64 ((m2 : Int) + (i : Int))] := by simp [ivs]
                            rw [this]
                            exact h1
                          · have hl9 := hR.z.2.1
                            rw [← HZV.out, List.getD_eq_getElem?_getD, List.getElem?_eq_getElem (by omega)]
                            simp [World.cell?, kz]
                        have hws : w.heap.size ≤ w3.heap.size := HR3.out.up.size
                        have hne : gz ≠ bs := fun e => heap_ne HR3.out.z.1 HR3.out.sb (by decide) e
                        clear y0 y3 y4 y5 y6
                        clear HR3 HCb HIO HZC HZV
                        go_wp2_with fail
                        refine (fun key : ∀ g cap W6, (RN w W6 bs gz n (.slice pa2 (p + 1) pk2) (.slice ca (m2 + i) ck) (zl.set (4 * p) (.slice (some ⟨g, 0, none⟩) (i + 1) cap)) (List.replicate (p + 1) ⟨li, en, false⟩) (cardsF 0 (ds.take p) ++ owned p (d.take i)) (fun z => if z = 4 * p then numsF m2 (i + 1) else zs z) ∧ W6.heap[cb]? = some (.cells #[.int .i64 ki, .int .i64 p, .int .i32 po, .int .i32 he, .int .i32 da, .int .i32 ma] 73 (0, 0))) → (?G : Nat → Nat → World → Prop) g cap W6 => ?main) ?kp
                        case main =>
                          go_region_law ((refine step_append_lies _ (by rfl) _ _ _ (by rfl) w.heap.size 3 iI _ 1 8 Tryd.underlying74 hiI ii0 ii1 ii2 rfl (by omega) (.slice za i zk) i (ivs (numsF m2 i)) (by rfl) HOWN.out ⟨w3.heap.size, 0, none⟩ 1 1 [.int .i64 ((m2 : Int) + (i : Int))] (by rfl) (by rfl) (World.news_of_block (cs := #[.int .i64 ((m2 : Int) + (i : Int))]) (t := 3) (fr := (0, 0)) (show ((w3.alloc (.cells #[.int .i64 ((m2 : Int) + (i : Int))] 3)).drew).heap[w3.heap.size]? = some (.cells #[.int .i64 ((m2 : Int) + (i : Int))] 3 (0, 0)) from heap_alloc_new w3 _)) (by simp [Value.oneCell']) (by omega) (by unfold maxLen; omega) (by omega) (by simp; omega) (w3.heap.size + 1) (by simp) ?_; intro gg gcap w4 hown1 hgrow hat hlt9; obtain ⟨hk4, ⟨q2, q1⟩, q3, q4⟩ := HGO.out gg gcap w4 hown1 hgrow hat; have HK4 : Hid _ := hk4; clear hown1 hgrow hat hlt9 hk4))
                          all_goals exact key _ _ _ HK4.out
                        case kp =>
                          intro g cap W6 hk6
                          have HK6 : Hid _ := hk6
                          clear hk6 HGO HOWN y1 y2 zc zf l1 l2
                          obtain ⟨y0, y1, y2, y3, y4, y5, y6⟩ := seven_cells HK6.out.1.sb
                          have yf := seven_f HK6.out.1.sb
                          have cc : W6.cell? ⟨cb, 0, none⟩ = some (.int .i64 ki) ∧ W6.cell? ⟨cb, 1, none⟩ = some (.int .i64 p) ∧ W6.cell? ⟨cb, 2, none⟩ = some (.int .i32 po) ∧ W6.cell? ⟨cb, 3, none⟩ = some (.int .i32 he) ∧ W6.cell? ⟨cb, 4, none⟩ = some (.int .i32 da) ∧ W6.cell? ⟨cb, 5, none⟩ = some (.int .i32 ma) := by
                            have := HK6.out.2
                            refine ⟨?_, ?_, ?_, ?_, ?_, ?_⟩ <;> simp [World.cell?, this]
                          obtain ⟨v0, v1, v2, v3, v4, v5⟩ := cc
                          have HT9 : Hid ((cardsF 0 (ds.take p) ++ owned p (d.take i)).length = m2 + i) := by
                            unfold Hid
                            rw [List.length_append, HT0.out]
                            have := HQ.out
                            simp [owned]
                            omega
                          have HCo : Hid ((W6.alloc (.cells #[.int .i64 ki, .int .i64 p, .int .i32 po, .int .i32 he, .int .i32 da, .int .i32 ma] 73)).ownsRow w.heap.size 73 6 (.slice ca (m2 + i) ck) (m2 + i) (cvs (cardsF 0 (ds.take p) ++ owned p (d.take i)))) := by
                            have := (HK6.out.1.mono ((Up.refl W6).alloc (.cells #[.int .i64 ki, .int .i64 p, .int .i32 po, .int .i32 he, .int .i32 da, .int .i32 ma] 73))).c
                            unfold CO at this
                            rw [HT9.out] at this
                            exact this
                          have HAdd : Hid (∀ v' w7, w7.ownsRow w.heap.size 73 6 v' (m2 + i + 1) (cvs (cardsF 0 (ds.take p) ++ owned p (d.take i)) ++ [.int .i64 ki, .int .i64 p, .int .i32 po, .int .i32 he, .int .i32 da, .int .i32 ma]) → (W6.alloc (.cells #[.int .i64 ki, .int .i64 p, .int .i32 po, .int .i32 he, .int .i32 da, .int .i32 ma] 73)).grownBy w7 (Value.slice ca (m2 + i) ck).ownBlock → RN w (w7.setCell ⟨bs, 1, none⟩ v') bs gz n (.slice pa2 (p + 1) pk2) v' (zl.set (4 * p) (.slice (some ⟨g, 0, none⟩) (i + 1) cap)) (List.replicate (p + 1) ⟨li, en, false⟩) (cardsF 0 (ds.take p) ++ owned p (d.take (i + 1))) (fun z => if z = 4 * p then numsF m2 (i + 1) else zs z) ∧ w7.cell? ⟨bs, 1, none⟩ = some (.slice ca (m2 + i) ck) ∧ w7.frozen? ⟨bs, 1, none⟩ = false) := fun v' w7 a1 a2 => by
                            have hR := HK6.out.1.mono ((Up.refl W6).alloc (.cells #[.int .i64 ki, .int .i64 p, .int .i32 po, .int .i32 he, .int .i32 da, .int .i32 ma] 73))
                            have hk := BG.keep_grown hR.c a2 (by decide) bs _ hR.sb
                            refine ⟨hR.addC a2 ?_, (seven_cells hk).2.1, seven_f hk 1⟩
                            have e : cardsF 0 (ds.take p) ++ owned p (d.take (i + 1)) = (cardsF 0 (ds.take p) ++ owned p (d.take i)) ++ [⟨ki, p, po, he, da, ma⟩] := by
                              have hq9 := HQ.out
                              have hx9 := HXd.out
                              rw [List.getD_eq_getElem?_getD, List.getElem?_eq_getElem (by omega)] at hx9
                              rw [List.append_assoc, List.take_add_one, List.getElem?_eq_getElem (by omega)]
                              have : d[i]'(by omega) = ⟨ki, ow, po, he, da, ma⟩ := hx9.symm
                              rw [this]
                              simp [owned]
                            unfold CO
                            rw [e, List.length_append, HT9.out]
                            have e2 : cvs ((cardsF 0 (ds.take p) ++ owned p (d.take i)) ++ [⟨ki, p, po, he, da, ma⟩]) = cvs (cardsF 0 (ds.take p) ++ owned p (d.take i)) ++ [.int .i64 ki, .int .i64 p, .int .i32 po, .int .i32 he, .int .i32 da, .int .i32 ma] := by
                              rw [cvs, List.flatMap_append]; rfl
                            rw [e2]
                            exact a1
                          have HNw : Hid _ := BG.newCells W6 [.int .i64 ki, .int .i64 p, .int .i32 po, .int .i32 he, .int .i32 da, .int .i32 ma] 73
                          have HOn : Hid (∀ u ∈ [(.int .i64 ki : Value), .int .i64 p, .int .i32 po, .int .i32 he, .int .i32 da, .int .i32 ma], u.oneCell' = true) := by intro u hu; simp at hu; rcases hu with rfl | rfl | rfl | rfl | rfl | rfl <;> rfl
                          have HWs : Hid (w.heap.size ≤ (W6.alloc (.cells #[.int .i64 ki, .int .i64 p, .int .i32 po, .int .i32 he, .int .i32 da, .int .i32 ma] 73)).heap.size) := by have := HK6.out.1.up.size; unfold Hid; simp; omega
                          have HAL2 : Hid ((d.take (i + 1)).all crd0B = true) := by
                            unfold Hid
                            have hq9 := HQ.out
                            have hx9 := HXd.out
                            rw [List.getD_eq_getElem?_getD, List.getElem?_eq_getElem (by omega)] at hx9
                            rw [List.take_add_one, List.getElem?_eq_getElem (by omega)]
                            have : d[i]'(by omega) = ⟨ki, ow, po, he, da, ma⟩ := hx9.symm
                            rw [this, List.all_append, HAL.out]
                            simp [HCR.out]
                          clear HK6
                          go_wp2_with (at_builtin; (refine BG.wpList_append_apart _ (by rfl) (.tmp 106) (.tmp 108) 23 (by rfl) w.heap.size 73 iC _ 6 32 Tryd.underlying23 hiC ic0 ic1 ic2 (by rfl) (by decide) (.slice ca (m2 + i) ck) (m2 + i) (cvs (cardsF 0 (ds.take p) ++ owned p (d.take i))) (by rfl) HCo.out ⟨W6.heap.size, 0, none⟩ 1 [.int .i64 ki, .int .i64 p, .int .i32 po, .int .i32 he, .int .i32 da, .int .i32 ma] (by rfl) (by rfl) HNw.out HOn.out (by unfold maxLen; omega) (by omega) HWs.out ?_; intro v' w7 a1 a2 a3 a4 a5; obtain ⟨hR, d1, e1⟩ := HAdd.out v' w7 a1 a2; have HR7 : Hid _ := hR; obtain ⟨ca2, ck2, hx⟩ := row_val a1; subst hx; clear a1 a2 a3 a4 a5 hR y0 y1 y2 y3 y4 y5 y6 yf v0 v1 v2 v3 v4 v5))
                          go_roundw
                          case rel =>
                            refine ⟨i + 1, ca2, ck2, _, _, by omega, by go_num, HR7.out, fun z hz => ?_, HAL2.out⟩
                            by_cases e : z = 4 * p
                            · rw [if_pos e, if_pos e]
                            · rw [if_neg e, if_neg e, HZS.out z hz, if_neg e]
                          case measure => simp [intOf]; omega
                    · have hi10 : ¬ (i : Int) < (q : Int) := by omega
                      have hiq : i = q := by omega
                      subst hiq
                      have HF2 : Hid (RN w wr bs gz n (.slice pa2 (p + 1) pk2) (.slice ca (m2 + i) ck) zl (List.replicate (p + 1) ⟨li, en, false⟩) (cardsF 0 (ds.take (p + 1))) zs ∧ m2 + i = total (ds.take (p + 1)) ∧ (∀ z, z < 4 * n → zs z = (zonesF 0 (ds.take (p + 1))).getD z []) ∧ ∀ j, j < p + 1 → (ds.getD j []).all crd0B = true) := by
                        have htk : (ds.take p).length = p := by simp; rw [← HN.out]; omega
                        have hde : ds.take (p + 1) = ds.take p ++ [d] := by
                          rw [List.take_add_one, HDd.out, List.getD_eq_getElem?_getD, List.getElem?_eq_getElem (by rw [← HN.out]; exact hlt)]
                          rfl
                        have hdt : d.take i = d := List.take_of_length_le (by rw [HQ.out]; exact Nat.le_refl _)
                        refine ⟨?_, ?_, fun z hz => ?_, fun j hj => ?_⟩
                        · have := HRN.out
                          rw [hdt] at this
                          rw [hde, cardsF_more, Nat.zero_add, htk]
                          exact this
                        · rw [tot_next ds p (by rw [← HN.out]; exact hlt), ← HM2.out, ← HDd.out, ← HQ.out]
                        · rw [HZS.out z hz, hde, zonesF_more, Nat.zero_add, ← HM2.out, ← HQ.out]
                          have hzl : (zonesF 0 (ds.take p)).length = 4 * p := by rw [zonesF_len, htk]
                          by_cases e : z = 4 * p
                          · rw [if_pos e, e, List.getD_eq_getElem?_getD, List.getElem?_append_right (by omega), hzl, Nat.sub_self]; rfl
                          · rw [if_neg e, List.getD_eq_getElem?_getD, List.getD_eq_getElem?_getD]
                            by_cases e2 : z < 4 * p
                            · rw [List.getElem?_append_left (by omega)]
                            · rw [List.getElem?_eq_none (by omega), List.getElem?_append_right (by omega), hzl]
                              have e3 : z - 4 * p = 1 ∨ z - 4 * p = 2 ∨ z - 4 * p = 3 ∨ 4 ≤ z - 4 * p := by omega
                              rcases e3 with e3 | e3 | e3 | e3
                              · rw [e3]; rfl
                              · rw [e3]; rfl
                              · rw [e3]; rfl
                              · rw [List.getElem?_eq_none (by simpa using e3)]
                        · by_cases e : j = p
                          · have := HAL.out
                            rw [hdt] at this
                            rw [e, ← HDd.out]; exact this
                          · exact HALL.out j (by omega)
                      clear HRN HZS HAL
                      go_wp2_with fail
                      go_roundw
                      case rel => exact ⟨p + 1, m2 + i, pa2, ca, pk2, ck, zl, zs, by omega, by go_num, HF2.out.2.1, HF2.out.1, HF2.out.2.2.1, HF2.out.2.2.2⟩
                      case measure => simp [intOf]; omega
                · have hlt2 : ¬ (p : Int) < (n : Int) := by omega
                  have hpn : p = n := by omega
                  subst hpn
                  have htk : ds.take p = ds := List.take_of_length_le (by rw [HN.out]; exact Nat.le_refl _)
                  have hall9 : ds.all (fun d => d.all crd0B) = true := by
                    rw [List.all_eq_true]
                    intro d hd
                    obtain ⟨j, hj, rfl⟩ := List.mem_iff_getElem.1 hd
                    have := HALL.out j (by rw [HN.out]; exact hj)
                    rw [List.getD_eq_getElem?_getD, List.getElem?_eq_getElem hj] at this
                    exact this
                  have hnb : newB ds li en = true := by
                    obtain ⟨g1, g2, g3, g4⟩ := HG9.out
                    simp only [newB, decksB, ← HN.out, ← HMt.out, g1, g2, g3, g4, hall9, Bool.and_true]
                  have HNB : Hid (newR ds li en = newS ds li en ∧ newE ds li en = 0) := by
                    constructor
                    · rw [newR, hnb]; rfl
                    · rw [newE, hnb]; rfl
                  have hsm : Small (newS ds li en) := by
                    have hmt := HMt.out
                    refine ⟨?_, ?_, ?_, fun r hr => ?_⟩
                    · have := HN.out; simp only [newS, List.length_replicate]; omega
                    · simp only [newS, cardsF_len]; omega
                    · have := HN.out; simp only [newS, zonesF_len]; omega
                    · have h1 := zone_le (zonesF 0 ds) r
                      rw [zonesF_flat, numsF_len] at h1
                      show ((zonesF 0 ds).getD r []).length ≤ _
                      omega
                  have HST : Hid (StL wr (.agg #[.slice pa p pk, .slice ca m2 ck, .slice (some ⟨gz, 0, none⟩) (4 * p) (4 * p), .int .i32 1, .int .i64 0, .int .i8 0, .int .i64 0]) (newS ds li en)) := by
                    have hr := HRN.out
                    have hz := HZS.out
                    rw [htk] at hr hz
                    have hzl : (zonesF 0 ds).length = 4 * p := by rw [zonesF_len, ← HN.out]
                    refine ⟨.slice pa p pk, .slice ca m2 ck, .slice (some ⟨gz, 0, none⟩) (4 * p) (4 * p), rfl, ?_, own_lc hr.c, zl, ?_, fun j hj => ?_⟩
                    · have := own_lc hr.p
                      show LC wr _ 3 (newS ds li en).ps.length (pvs (newS ds li en).ps)
                      simp only [newS, ← HN.out]
                      exact this
                    · show LC wr _ 1 (zonesF 0 ds).length zl
                      rw [hzl]
                      have := own_made (base := 0) (n := 4 * p) (s := 1) hr.z.1 (by rw [hr.z.2.1]; omega) (Nat.zero_le _) (by unfold maxLen; omega)
                      exact own_lc this
                    · have hj9 : j < 4 * p := by rw [← hzl]; exact hj
                      have := hr.z.2.2.1 j hj9
                      rw [hz j hj9] at this
                      exact this.il
                  have HB6 : Hid (wr.heap[w.heap.size]? = some (.cells #[.slice none 0 0, .slice none 0 0, .slice none 0 0, .int .i32 0, .int .i64 0, .int .i8 0, .int .i64 0] 27 (0, 0)) ∧ Up w wr) := ⟨HRN.out.b6, HRN.out.up⟩
                  have HSm : Hid _ := hsm
                  obtain ⟨y0, y1, y2, y3, y4, y5, y6⟩ := seven_cells HRN.out.sb
                  clear HRN HZS HALL hsm htk hall9 hnb HBad
                  go_wp2_with fail
                  refine Calls.mono (copyState_ _ (newS ds li en) wr HST.out HSm.out) ?_
                  rintro e w8 ⟨x, rfl, hx, u8⟩
                  have HX8 : Hid (SO wr.heap.size w8 x (newS ds li en)) := hx
                  have HG : Hid (w8.heap[w.heap.size]? = some (.cells #[.slice none 0 0, .slice none 0 0, .slice none 0 0, .int .i32 0, .int .i64 0, .int .i8 0, .int .i64 0] 27 (0, 0))) := u8.heap HB6.out.1
                  have HU8 : Hid (Up w w8) := HB6.out.2.trans u8
                  have HWl : Hid (w.heap.size < wr.heap.size) := (Array.getElem?_eq_some_iff.1 HB6.out.1).1
                  obtain ⟨f1, f2, f3, hxv, k1, k2, vs9, k3, -⟩ := hx
                  obtain ⟨j1, jk1, rfl⟩ := row_val k1
                  obtain ⟨j2, jk2, rfl⟩ := row_val k2
                  obtain ⟨j3, jk3, rfl⟩ := row_val k3
                  unfold sv at hxv
                  obtain ⟨n1, hn1⟩ : ∃ k, k = (newS ds li en).ps.length := ⟨_, rfl⟩
                  obtain ⟨n2, hn2⟩ : ∃ k, k = (newS ds li en).cs.length := ⟨_, rfl⟩
                  obtain ⟨n3, hn3⟩ : ∃ k, k = (newS ds li en).zs.length := ⟨_, rfl⟩
                  rw [← hn1, ← hn2, ← hn3] at hxv
                  have hxv2 : x = .agg #[.slice j1 n1 jk1, .slice j2 n2 jk2, .slice j3 n3 jk3, .int .i32 1, .int .i64 0, .int .i8 0, .int .i64 0] := hxv
                  clear hxv hn1 hn2 hn3 k1 k2 k3 u8 y0 y1 y2 y3 y4 y5 y6 HST HB6
                  subst hxv2
                  have yf := seven_f HG.out
                  obtain ⟨y0, y1, y2, y3, y4, y5, y6⟩ := seven_cells HG.out
                  go_wp2_with fail
                  obtain ⟨p0, p1, p2, p3, p4, p5, p6⟩ := seven_cells (seven_set (x0 := .slice j1 n1 jk1) (x1 := .slice j2 n2 jk2) (x2 := .slice j3 n3 jk3) (x3 := .int .i32 1) (x4 := .int .i64 0) (x5 := .int .i8 0) (x6 := .int .i64 0) HG.out)
                  refine bodyPost_ret (v := .tuple #[.agg #[.slice j1 n1 jk1, .slice j2 n2 jk2, .slice j3 n3 jk3, .int .i32 1, .int .i64 0, .int .i8 0, .int .i64 0], .int .i64 0]) (by simp [results, Tryd.results18, go_sem, p0, p1, p2, p3, p4, p5, p6]) rfl ?_
                  rw [HP.out, HNB.out.1, HNB.out.2]
                  have hb : w.heap.size ≤ w.heap.size := Nat.le_refl _
                  have hs1 := HWl.out
                  exact ⟨_, rfl, (((((((HX8.out.set hs1).set hs1).set hs1).set hs1).set hs1).set hs1).set hs1).sl, Up.set (Up.set (Up.set (Up.set (Up.set (Up.set (Up.set HU8.out _ _ hb) _ _ hb) _ _ hb) _ _ hb) _ _ hb) _ _ hb) _ _ hb⟩
end ST
end Go.Proofs.YtndkpfkgcaebmaaDoor
