/-
  StateNews: the law's walk.
-/
import Derived.Test.YtndkpfkgcaebmaaDoorRnbQ
import Derived.Test.YtndkpfkgcaebmaaDoorBbToBks
import Derived.Test.YtndkpfkgcaebmaaDoorEqToWk
import Derived.Test.YtndkpfkgcaebmaaDoorBkmToNp
import Derived.Test.YtndkpfkgcaebmaaDoorSpToSq
import Derived.Test.YtndkpfkgcaebmaaDoorBxQ
namespace Go.Proofs.YtndkpfkgcaebmaaDoor
open Go.RowKit
attribute [local go_sem ↓] Go.wp_at_zero Go.wp_at_succ

namespace ST
def szC : List (List Crd) → Nat → Nat
  | [], n => n
  | l :: zs, n => if n ≤ 2147483647 then szC zs (n + l.length) else n
theorem szC_is : ∀ (zs : List (List Crd)) (n : Nat), szC zs n = n + total zs ∨ 2147483647 < szC zs n := by
  intro zs
  induction zs with
  | nil => intro n; left; simp [szC, total]
  | cons l zs ih =>
    intro n
    simp only [szC, total, List.flatten_cons, List.length_append]
    split
    · rcases ih (n + l.length) with h | h
      · left; unfold total at h; omega
      · right; omega
    · right; omega
theorem szC_le : ∀ (zs : List (List Crd)) (n : Nat), (∀ r, r < zs.length → (zs.getD r []).length ≤ 140737488355328) → n ≤ 281474976710656 → szC zs n ≤ 281474976710656 := by
  intro zs
  induction zs with
  | nil => intro n _ h; exact h
  | cons l zs ih =>
    intro n h hn
    simp only [szC]
    split
    · have := h 0 (by simp)
      simp at this
      exact ih _ (fun r hr => by have := h (r + 1) (by simpa using hr); simpa using this) (by omega)
    · exact hn
theorem infoD : (Tryd.prog.info? 23).map (fun i => (i.zero, i.size, i.bytes)) = some (some (.slice none 0 0), 1, 24) := by kernel_rfl
theorem new_small (ds : List (List Crd)) (li en : Int) (h : newB ds li en = true) : Small (newS ds li en) := by
  have hm := (ff_none _).1 (new_may ds li en h)
  have h1 := hm.1.1
  simp only [sizesB, npB, ncB, Bool.and_eq_true, decide_eq_true_eq] at h1
  refine ⟨by omega, by omega, by omega, fun r hr => ?_⟩
  have h2 := row_flat (newS ds li en).zs r hr
  have h3 : (newS ds li en).zs.flatten.length = (newS ds li en).cs.length := hm.2.2
  omega
theorem eqS_self9 (s : Stt) : eqS s s = true := by simp [eqS]
theorem noS_small : Small noS := ⟨by decide, by decide, by decide, fun r hr => by simp [noS] at hr⟩
theorem stIn_up9 {W W' : World} {lo hi : Nat} {v : Value} (h : BG.StIn W lo hi v) (hh : hi ≤ W.heap.size) (u : Up W W') : BG.StIn W' lo hi v := h.below (gb := W.heap.size) u hh
/- the first i decks, wide, each in a block of its own, and the list that holds them -/
def DW (base : Nat) (W : World) (v : Value) (i : Nat) (zs : List (List Crd)) (vs : List Value) : Prop := W.ownsRow base 23 1 v i vs ∧ (∀ j, j < i → WC base W (vs.getD j nl) (zs.getD j [])) ∧ RA i vs
theorem DW.up {base i : Nat} {W W' : World} {v : Value} {zs : List (List Crd)} {vs : List Value} (h : DW base W v i zs vs) (u : Up W W') : DW base W' v i zs vs := ⟨row_up h.1 u, fun j hj => (h.2.1 j hj).up u, h.2.2⟩
theorem wc_lt {base g : Nat} {W : World} {v : Value} {l : List Crd} (h : WC base W v l) (hg : v.ownBlock = some g) : base ≤ g ∧ g < W.heap.size := by
  obtain ⟨g', h1, rfl, h3⟩ := h
  have e : g' = g := by simpa [Value.ownBlock] using hg
  subst e
  exact ⟨h1, (Array.getElem?_eq_some_iff.1 h3).1⟩
theorem wc_kept {base b2 n2 : Nat} {W W2 : World} {v u : Value} {l : List Crd} {xs : List Value} (h : WC base W v l) (hu : W.ownsRow b2 23 1 u n2 xs) (hg : W.grownBy W2 u.ownBlock) : WC base W2 v l := by
  obtain ⟨g', h1, h2, h3⟩ := h
  exact ⟨g', h1, h2, BG.keep_grown hu hg (by decide) g' _ h3⟩
theorem dw_more {base i : Nat} {W W1 W2 : World} {v v' x : Value} {zs : List (List Crd)} {vs : List Value} (h : DW base W v i zs vs) (u : Up W W1) (hb : base ≤ W.heap.size) (hx : WC W.heap.size W1 x (zs.getD i [])) (hlen : W2.ownsRow base 23 1 v' (i + 1) (vs ++ [x])) (hg : W1.grownBy W2 v.ownBlock) : DW base W2 v' (i + 1) zs (vs ++ [x]) := by
  have hl : vs.length = i := by have := h.1.1; omega
  have e1 : (vs ++ [x]).getD i nl = x := by rw [List.getD_eq_getElem?_getD, List.getElem?_append_right (by omega), hl]; simp
  have e2 : ∀ j, j < i → (vs ++ [x]).getD j nl = vs.getD j nl := fun j hj => by rw [List.getD_eq_getElem?_getD, List.getElem?_append_left (by omega), ← List.getD_eq_getElem?_getD]
  have k1 := row_up h.1 u
  refine ⟨hlen, fun j hj => ?_, fun p q g hp hq hpq h1 h2 => ?_⟩
  · by_cases e : j = i
    · subst e; rw [e1]; exact (wc_kept hx k1 hg).less hb
    · rw [e2 j (by omega)]; exact wc_kept ((h.2.1 j (by omega)).up u) k1 hg
  · by_cases ep : p = i
    · subst ep
      rw [e1] at h1
      rw [e2 q (by omega)] at h2
      have a1 := (wc_lt hx h1).1
      have a2 := (wc_lt (h.2.1 q (by omega)) h2).2
      omega
    · rw [e2 p (by omega)] at h1
      by_cases eq : q = i
      · subst eq
        rw [e1] at h2
        have a1 := (wc_lt hx h2).1
        have a2 := (wc_lt (h.2.1 p (by omega)) h1).2
        omega
      · rw [e2 q (by omega)] at h2
        exact h.2.2 p q g (by omega) (by omega) hpq h1 h2
theorem DW.dl {base i : Nat} {W : World} {v : Value} {zs : List (List Crd)} {vs : List Value} (h : DW base W v i zs vs) (hi : i = zs.length) : DL W v zs := by
  subst hi
  exact ⟨vs, own_lc h.1, fun j hj => (h.2.1 j hj).il⟩
/- what stands in memory behind the three answers -/
structure NN (w W : World) (n : Nat) (ds : List (List Crd)) (li en : Int) (a3 : Option Addr) (k3 : Nat) (vin : Value) (vs : List Value) (B : Nat) (Aa Ab Aw : Array Value) (ba bb bw la ha lb hb : Nat) (s : Stt) : Prop where
  up : Up w W
  d1 : W.heap[w.heap.size]? = some (.cells #[.slice a3 n k3, .int .i32 li, .int .i32 en] 57 (0, 0))
  dl : DL W (.slice a3 n k3) ds
  dw : DW B W vin n ds vs
  a1 : W.heap[ba]? = some (.cells Aa 27 (0, 0))
  b1 : W.heap[bb]? = some (.cells Ab 27 (0, 0))
  w1 : W.heap[bw]? = some (.cells Aw 27 (0, 0))
  a2 : StL W (.agg Aa) s
  b2 : StL W (.agg Ab) s
  w2 : StL W (.agg Aw) s
  a3 : BG.StIn W la ha (.agg Aa)
  b3 : BG.StIn W lb hb (.agg Ab)
  ord : w.heap.size ≤ B ∧ la ≤ ha ∧ ha < lb ∧ lb ≤ hb ∧ hb ≤ W.heap.size ∧ B ≤ la ∧ ∀ j g, j < n → (vs.getD j nl).ownBlock = some g → g < la
theorem NN.mono {w W W' : World} {n : Nat} {ds : List (List Crd)} {li en : Int} {a3 : Option Addr} {k3 : Nat} {vin : Value} {vs : List Value} {B : Nat} {Aa Ab Aw : Array Value} {ba bb bw la ha lb hb : Nat} {s : Stt} (h : NN w W n ds li en a3 k3 vin vs B Aa Ab Aw ba bb bw la ha lb hb s) (u : Up W W') : NN w W' n ds li en a3 k3 vin vs B Aa Ab Aw ba bb bw la ha lb hb s :=
  ⟨h.up.trans u, u.heap h.d1, h.dl.up u, h.dw.up u, u.heap h.a1, u.heap h.b1, u.heap h.w1, h.a2.up u, h.b2.up u, h.w2.up u, stIn_up9 h.a3 (by have := h.ord; omega) u, stIn_up9 h.b3 (by have := h.ord; omega) u, by have h1 := h.ord; have h2 := u.size; exact ⟨h1.1, h1.2.1, h1.2.2.1, h1.2.2.2.1, by omega, h1.2.2.2.2.2⟩⟩
set_option maxRecDepth 100000 in
set_option maxHeartbeats 8000000 in
theorem news (vd : Value) (ds : List (List Crd)) (li en : Int) (w : World) (hv : DL w vd ds) (hn : ds.length ≤ 140737488355328) (hl : ∀ r, r < ds.length → (ds.getD r []).length ≤ 140737488355328) :
    Calls Tryd.prog 4 #[.agg #[vd, .int .i32 li, .int .i32 en]] w fun e w' => e = .returned (.bool true) ∧ Up w w' := by
  obtain ⟨iD, hiD, i0, i1, i2⟩ := info_parts infoD
  obtain ⟨Post, hPost⟩ : ∃ P : Ending → World → Prop, P = fun e w' => e = .returned (.bool true) ∧ Up w w' := ⟨_, rfl⟩
  rw [← hPost]
  have HP : Hid (Post = fun e w' => e = .returned (.bool true) ∧ Up w w') := hPost
  obtain ⟨a3, k3, rfl, -, c3⟩ := dl_at hv
  obtain ⟨n, hn0⟩ : ∃ n, n = ds.length := ⟨_, rfl⟩
  have HN : Hid (n = ds.length) := hn0
  obtain ⟨R, hR⟩ : ∃ R, R = szC ds ds.length := ⟨_, rfl⟩
  have HR : Hid (R = szC (ds.drop 0) ds.length) := hR
  have hRl : R ≤ 281474976710656 := by rw [hR]; exact szC_le ds ds.length hl (by omega)
  have HRt : Hid (R ≤ 2147483647 → R = ds.length + total ds) := fun h => by
    rcases szC_is ds ds.length with e | e
    · rw [hR, e]
    · rw [← hR] at e; omega
  have HBd : Hid (ds.length ≤ 140737488355328 ∧ ∀ r, r < ds.length → (ds.getD r []).length ≤ 140737488355328) := ⟨hn, hl⟩
  rw [← hn0] at hn hl c3 ⊢
  have HC : Hid _ := c3
  have HL : Hid _ := hl
  obtain ⟨W0, hW0⟩ : ∃ W, W = w.alloc (.cells #[.slice a3 n k3, .int .i32 li, .int .i32 en] 57) := ⟨_, rfl⟩
  have HW0 : Hid (Up w W0 ∧ W0.heap[w.heap.size]? = some (.cells #[.slice a3 n k3, .int .i32 li, .int .i32 en] 57 (0, 0)) ∧ W0.heap.size = w.heap.size + 1) := ⟨by rw [hW0]; exact (Up.refl _).alloc _, by rw [hW0]; exact heap_alloc_new w _, by rw [hW0]; simp⟩
  have HBx : Hid (∀ W, Up W0 W → W.cell? ⟨w.heap.size, 0, none⟩ = some (.slice a3 n k3) ∧ W.cell? ⟨w.heap.size, 1, none⟩ = some (.int .i32 li) ∧ W.cell? ⟨w.heap.size, 2, none⟩ = some (.int .i32 en)) := fun W u => by
    have h := u.heap HW0.out.2.1
    exact ⟨by simp [World.cell?, h], by simp [World.cell?, h], by simp [World.cell?, h]⟩
  have HDLs : Hid (∀ W, Up w W → DL W (.slice a3 n k3) ds) := fun W u => by rw [HN.out]; exact DL.up hv u
  clear hPost hv c3 hl hn0 hR
  go_enter Tryd.func4, Tryd.ntmps4
  go_wp2_with fail
  rw [← hW0]
  clear hW0
  go_loopw [3, 4] (fun s3 s4 W => ∃ i m : Nat, i ≤ n ∧ s4 = .int .i64 i ∧ s3 = .int .i64 m ∧ W = W0 ∧ R = szC (ds.drop i) m ∧ m ≤ 281474976710656) (fun _ s4 _ => n - (intOf s4).toNat)
  case atStart => exact ⟨0, n, Nat.zero_le _, rfl, rfl, rfl, by rw [HN.out]; exact HR.out, by omega⟩
  case round =>
    obtain ⟨i, m, hi, rfl, rfl, hwr, hr, hmR⟩ := hrel
    obtain rfl := hwr.symm
    clear HR
    have HR : Hid (R = szC (ds.drop i) m) := hr
    obtain ⟨y0, y1, y2⟩ := HBx.out W0 (Up.refl _)
    clear hr
    by_cases hlt : i < n
    · have hlt2 : (i : Int) < (n : Int) := by omega
      by_cases hb : m ≤ 2147483647
      · have hbd : decide ((2147483647 : Int) < (m : Int)) = false := decide_eq_false (by omega)
        obtain ⟨b3, o3, rfl, hrow⟩ := HC.out (by omega)
        obtain ⟨ra, rc, hcell, -⟩ := hrow i hlt
        have x1 := hcell _ HW0.out.1
        have hlen := HL.out i hlt
        have HF : Hid (R = szC (ds.drop (i + 1)) (m + (ds.getD i []).length)) := by
          unfold Hid
          have hz : i < ds.length := by rw [← HN.out]; exact hlt
          rw [HR.out, List.drop_eq_getElem_cons hz, szC, if_pos hb, List.getD_eq_getElem?_getD, List.getElem?_eq_getElem hz]
          rfl
        clear hcell hrow HR
        generalize (ds.getD i []).length = q at x1 hlen HF
        go_wp2_with fail
        refine Calls.mono (long1_ _ _) ?_
        rintro e w1 ⟨rfl, hw1⟩
        obtain rfl := hw1.symm
        rw [hbd]
        go_wp2_with fail
        go_roundw
        case rel => exact ⟨i + 1, m + q, by omega, by go_num, by go_num, by first | rfl | trivial, HF.out, by omega⟩
        case measure => simp [intOf]; omega
      · have hbd : decide ((2147483647 : Int) < (m : Int)) = true := decide_eq_true (by omega)
        have hbd2 : decide ((2147483647 : Int) < (m : Int)) = true := decide_eq_true (by omega)
        clear HR
        go_wp2_with fail
        refine Calls.mono (long1_ _ _) ?_
        rintro e w1 ⟨rfl, hw1⟩
        obtain rfl := hw1.symm
        rw [hbd]
        go_wp2_with fail
        refine Calls.mono (long1_ _ _) ?_
        rintro e w1 ⟨rfl, hw1⟩
        obtain rfl := hw1.symm
        rw [hbd2]
        go_wp2
        rw [HP.out]
        exact ⟨rfl, HW0.out.1⟩
    · have hlt2 : ¬ (i : Int) < (n : Int) := by omega
      have HF : Hid (R = m) := by
        unfold Hid
        rw [HR.out, List.drop_of_length_le (by rw [← HN.out]; omega)]
        rfl
      clear HR
      by_cases hb : 2147483647 < m
      · have hbd2 : decide ((2147483647 : Int) < (m : Int)) = true := decide_eq_true (by omega)
        go_wp2_with fail
        refine Calls.mono (long1_ _ _) ?_
        rintro e w1 ⟨rfl, hw1⟩
        obtain rfl := hw1.symm
        rw [hbd2]
        go_wp2
        rw [HP.out]
        exact ⟨rfl, HW0.out.1⟩
      · have hbd2 : decide ((2147483647 : Int) < (m : Int)) = false := decide_eq_false (by omega)
        have HT : Hid (m = ds.length + total ds) := by unfold Hid; rw [← HF.out]; exact HRt.out (by rw [HF.out]; omega)
        have HDl : Hid (∀ r, r < n → (ds.getD r []).length ≤ 4294967296) := fun r hr => by
          have h1 : (ds.getD r []).length ≤ total ds := by
            unfold total
            have hm : ds.getD r [] ∈ ds := by rw [List.getD_eq_getElem?_getD, List.getElem?_eq_getElem (by rw [← HN.out]; exact hr)]; exact List.getElem_mem _
            generalize ds.getD r [] = x at hm ⊢
            obtain ⟨p, q, hpq⟩ := List.append_of_mem hm
            rw [hpq, List.flatten_append, List.flatten_cons, List.length_append, List.length_append]
            omega
          have := HT.out
          omega
        have hn9 : n ≤ 2147483647 := by have h1 := HT.out; have h2 := HN.out; omega
        have hm9 : m ≤ 2147483647 := by omega
        clear HF HRt hb
        go_wp2_with fail
        refine Calls.mono (long1_ _ _) ?_
        rintro e w1 ⟨rfl, hw1⟩
        obtain rfl := hw1.symm
        rw [hbd2]
        go_wp2_with fail
        obtain ⟨B, hB⟩ : ∃ B, B = W0.heap.size := ⟨_, rfl⟩
        have HB : Hid (B = W0.heap.size) := hB
        clear hB
        go_loopw [5, 6] (fun s5 s6 W => ∃ (i : Nat) (va : Option Addr) (vc : Nat), i ≤ n ∧ s6 = .int .i64 i ∧ s5 = .slice va i vc ∧ (∃ vs, DW B W (.slice va i vc) i ds vs) ∧ Up W0 W) (fun _ s6 _ => n - (intOf s6).toNat)
        case atStart => exact ⟨0, none, 0, Nat.zero_le _, rfl, rfl, ⟨[], World.ownsRow_nil _ _ _ _, fun j hj => by omega, RA.nil _⟩, Up.refl _⟩
        case round =>
          clear hlt2 hlt hi y0 y1 y2
          obtain ⟨i, va, vc, hi, rfl, rfl, hz, hu⟩ := hrel
          have HZ : Hid (∃ vs, DW B wr (.slice va i vc) i ds vs) := hz
          have HU : Hid (Up W0 wr) := hu
          obtain ⟨y0, y1, y2⟩ := HBx.out wr hu
          clear hz hu
          by_cases hlt : i < n
          · have hlt2 : (i : Int) < (n : Int) := by omega
            obtain ⟨b3, o3, rfl, hrow⟩ := HC.out (by omega)
            obtain ⟨ra, rc, hcell, hil⟩ := hrow i hlt
            have x1 := hcell wr (HW0.out.1.trans HU.out)
            have HK : Hid _ := wideC_ _ (ds.getD i []) wr (hil.up (HW0.out.1.trans HU.out)) (HDl.out i hlt)
            clear hcell hrow hil
            go_wp2_with fail
            refine Calls.mono HK.out ?_
            rintro e w1 ⟨x, rfl, hx, u1⟩
            clear HK
            obtain ⟨xa, xc, hxa⟩ := WC.val hx
            have HX : Hid (WC wr.heap.size w1 x (ds.getD i [])) := hx
            have HU1 : Hid (Up wr w1) := u1
            clear hx u1
            subst hxa
            obtain ⟨vs, hdw⟩ := id HZ.out
            have HDW : Hid (DW B wr (.slice va i vc) i ds vs) := hdw
            have hz1 := hdw.1
            clear hdw
            have HV : Hid ((w1.alloc (.cells #[.slice xa (ds.getD i []).length xc] 23)).ownsRow B 23 1 (.slice va i vc) i vs) := row_up hz1 (HU1.out.alloc _)
            have HM : Hid (∀ j u, [Value.slice xa (ds.getD i []).length xc][j]? = some u → (w1.alloc (.cells #[.slice xa (ds.getD i []).length xc] 23)).cell? ((⟨w1.heap.size, 0, none⟩ : Addr).add j) = some u) := by
              intro j u hj
              cases j with
              | zero => simp at hj; subst hj; simp [Addr.add]
              | succ j => simp at hj
            have HO : Hid (∀ u ∈ [Value.slice xa (ds.getD i []).length xc], u.oneCell' = true) := by intro u hu; simp at hu; subst hu; rfl
            have HS : Hid (B ≤ (w1.alloc (.cells #[.slice xa (ds.getD i []).length xc] 23)).heap.size) := by have h1 := HU.out.size; have h2 := HU1.out.size; have h3 := HB.out; unfold Hid; simp; omega
            have HZ2 : Hid (∀ v' w2, w2.ownsRow B 23 1 v' (i + 1) (vs ++ [.slice xa (ds.getD i []).length xc]) → (w1.alloc (.cells #[.slice xa (ds.getD i []).length xc] 23)).grownBy w2 (Value.slice va i vc).ownBlock → (∃ vs, DW B w2 v' (i + 1) ds vs) ∧ Up W0 w2) := by
              intro v' w2 h1 h2
              refine ⟨⟨_, dw_more HDW.out (HU1.out.alloc _) (by have := HU.out.size; have := HB.out; omega) (HX.out.up ((Up.refl _).alloc _)) h1 h2⟩, ?_⟩
              refine Below.grown (HU.out.trans (HU1.out.alloc _)) h2 ?_ ?_
              · have := HS.out; have h3 := HB.out; omega
              · intro k hk
                have := hz1.lt k hk
                have h3 := HB.out; omega
            clear hz1
            go_wp2_with (at_builtin; go_loud (refine wpList_append_own _ (by rfl) (.tmp 48) (.tmp 55) 39 (by rfl) B 23 iD (.slice none 0 0) 1 24 Tryd.underlying39 hiD i0 i1 i2 (by rfl) (by decide) (.slice va i vc) i vs (by rfl) HV.out ⟨w1.heap.size, 0, none⟩ 1 1 [.slice xa (ds.getD i []).length xc] (by rfl) (by rfl) HM.out HO.out (by unfold maxLen; omega) (by omega) HS.out ?_); intro v' w2 hin hg1 _)
            obtain ⟨va', vc', hva⟩ := row_val hin
            have HF : Hid ((∃ vs, DW B w2 v' (i + 1) ds vs) ∧ Up W0 w2) := HZ2.out v' w2 hin hg1
            clear hin hg1 HZ2 HV HM HO HS HX HU1 HDW
            subst hva
            go_wp2_with fail
            go_roundw
            case rel => exact ⟨i + 1, va', vc', by omega, by go_num, rfl, HF.out.1, HF.out.2⟩
            case measure => simp [intOf]; omega
          · have hlt2 : ¬ (i : Int) < (n : Int) := by omega
            have hin : i = n := by omega
            subst hin
            obtain ⟨vs, hdw⟩ := HZ.out
            have HDW : Hid (DW B wr (.slice va i vc) i ds vs) := hdw
            clear hdw HZ
            obtain ⟨s, hs⟩ : ∃ s, s = newR ds li en := ⟨_, rfl⟩
            obtain ⟨ee, hee⟩ : ∃ k, k = newE ds li en := ⟨_, rfl⟩
            have HSm : Hid (Small s) := by
              unfold Hid
              rw [hs, newR]
              cases hnb : newB ds li en
              · exact noS_small
              · exact new_small ds li en hnb
            have hn32 : ds.length ≤ 4294967296 := by have := HN.out; omega
            have HK1 : Hid (∀ W, Up wr W → Calls Tryd.prog 17 #[.slice va i vc, .int .i32 li, .int .i32 en] W (NPostA W s ee)) := fun W u => by
              rw [hs, hee]; exact newA_ _ ds li en W ((HDW.out.up u).dl HN.out) HBd.out.1 HBd.out.2
            have HK2 : Hid (∀ W, Up w W → Calls Tryd.prog 18 #[.slice a3 i k3, .int .i32 li, .int .i32 en] W (RPost W s ee)) := fun W u => by
              rw [hs, hee]; exact rnew_ _ ds li en W (HDLs.out W u) hn32 (fun r hr => HDl.out r (by rw [HN.out]; exact hr))
            have HSV : Hid (∀ x y z, sv x y z s = .agg #[x, y, z, .int .i32 s.turn, .int .i64 s.whose, .int .i8 s.fin, .int .i64 s.winner]) := fun _ _ _ => rfl
            obtain ⟨n1, hn1⟩ : ∃ n, n = s.ps.length := ⟨_, rfl⟩
            obtain ⟨n2, hn2⟩ : ∃ n, n = s.cs.length := ⟨_, rfl⟩
            obtain ⟨n3, hn3⟩ : ∃ n, n = s.zs.length := ⟨_, rfl⟩
            have HN3 : Hid (n1 = s.ps.length ∧ n2 = s.cs.length ∧ n3 = s.zs.length) := ⟨hn1, hn2, hn3⟩
            clear hn1 hn2 hn3 hs hee hn32
            generalize s.turn = tu at HSV
            generalize s.whose = wo at HSV
            generalize s.fin = fi at HSV
            generalize s.winner = wi at HSV
            go_wp2_with fail
            refine Calls.mono (HK1.out _ (Up.refl _)) ?_
            rintro e w2 ⟨x, rfl, hx, u2⟩
            have HA : Hid (SOA wr.heap.size w2 x s) := hx
            have HU2 : Hid (Up wr w2) := u2
            obtain ⟨v1, v2, v3, hxv, h1, h2, vs9, h3, -⟩ := hx
            obtain ⟨x1, xk1, rfl⟩ := row_val h1
            obtain ⟨x2, xk2, rfl⟩ := row_val h2
            obtain ⟨x3, xk3, rfl⟩ := row_val h3
            rw [HSV.out, ← HN3.out.1, ← HN3.out.2.1, ← HN3.out.2.2] at hxv
            subst hxv
            clear h1 h2 h3
            clear u2 y0 y1 y2
            obtain ⟨W2, hW2⟩ : ∃ W, W = w2.alloc (.cells #[.slice x1 n1 xk1, .slice x2 n2 xk2, .slice x3 n3 xk3, .int .i32 tu, .int .i64 wo, .int .i8 fi, .int .i64 wi] 27) := ⟨_, rfl⟩
            have hb2 : W2.heap[w2.heap.size]? = some (.cells #[.slice x1 n1 xk1, .slice x2 n2 xk2, .slice x3 n3 xk3, .int .i32 tu, .int .i64 wo, .int .i8 fi, .int .i64 wi] 27 (0, 0)) := by rw [hW2]; exact heap_alloc_new w2 _
            have hu2 : Up w2 W2 := by rw [hW2]; exact (Up.refl _).alloc _
            have HB2 : Hid _ := hb2
            have HV2 : Hid (Up w2 W2) := hu2
            have HZ2 : Hid (W2.heap.size = w2.heap.size + 1) := by unfold Hid; rw [hW2]; simp
            obtain ⟨y0, y1, y2⟩ := HBx.out W2 (HU.out.trans (HU2.out.trans hu2))
            rw [hW2] at y0 y1 y2
            clear hb2 hu2
            go_wp2_with fail
            rw [← hW2]
            clear y0 y1 y2 hW2
            refine Calls.mono (HK1.out _ (HU2.out.trans HV2.out)) ?_
            rintro e w4 ⟨x, rfl, hx, u4⟩
            have HBs : Hid (SOA W2.heap.size w4 x s) := hx
            have HU4 : Hid (Up W2 w4) := u4
            obtain ⟨v1, v2, v3, hxv, h1, h2, vs9, h3, -⟩ := hx
            obtain ⟨y1, yk1, rfl⟩ := row_val h1
            obtain ⟨y2, yk2, rfl⟩ := row_val h2
            obtain ⟨y3, yk3, rfl⟩ := row_val h3
            rw [HSV.out, ← HN3.out.1, ← HN3.out.2.1, ← HN3.out.2.2] at hxv
            subst hxv
            clear h1 h2 h3
            clear u4
            obtain ⟨W4, hW4⟩ : ∃ W, W = w4.alloc (.cells #[.slice y1 n1 yk1, .slice y2 n2 yk2, .slice y3 n3 yk3, .int .i32 tu, .int .i64 wo, .int .i8 fi, .int .i64 wi] 27) := ⟨_, rfl⟩
            have hb4 : W4.heap[w4.heap.size]? = some (.cells #[.slice y1 n1 yk1, .slice y2 n2 yk2, .slice y3 n3 yk3, .int .i32 tu, .int .i64 wo, .int .i8 fi, .int .i64 wi] 27 (0, 0)) := by rw [hW4]; exact heap_alloc_new w4 _
            have hu4 : Up w4 W4 := by rw [hW4]; exact (Up.refl _).alloc _
            have HB4 : Hid _ := hb4
            have HV4 : Hid (Up w4 W4) := hu4
            have HZ4 : Hid (W4.heap.size = w4.heap.size + 1) := by unfold Hid; rw [hW4]; simp
            have HU0 : Hid (Up w W4) := HW0.out.1.trans (HU.out.trans (HU2.out.trans (HV2.out.trans (HU4.out.trans HV4.out))))
            obtain ⟨y0, y1, y2⟩ := HBx.out W4 (HU.out.trans (HU2.out.trans (HV2.out.trans (HU4.out.trans hu4))))
            rw [hW4] at y0 y1 y2
            clear hb4 hu4 HK1
            go_wp2_with fail
            rw [← hW4]
            clear y0 y1 y2 hW4
            refine Calls.mono (HK2.out _ HU0.out) ?_
            rintro e w6 ⟨x, rfl, hx, u6⟩
            have HWs : Hid (StL w6 x s) := hx
            have HU6 : Hid (Up W4 w6) := u6
            obtain ⟨v1, v2, v3, hxv, h1, h2, h3⟩ := hx
            obtain ⟨z1, zk1, rfl, -, -⟩ := lc_at h1
            obtain ⟨z2, zk2, rfl, -, -⟩ := lc_at h2
            obtain ⟨z3, zk3, rfl, -, -⟩ := zl_at h3
            rw [HSV.out, ← HN3.out.1, ← HN3.out.2.1, ← HN3.out.2.2] at hxv
            subst hxv
            clear h1 h2 h3 u6 HK2
            obtain ⟨W6, hW6⟩ : ∃ W, W = w6.alloc (.cells #[.slice z1 n1 zk1, .slice z2 n2 zk2, .slice z3 n3 zk3, .int .i32 tu, .int .i64 wo, .int .i8 fi, .int .i64 wi] 27) := ⟨_, rfl⟩
            have HC0 : Hid (NN w W6 i ds li en a3 k3 (.slice va i vc) vs B #[.slice x1 n1 xk1, .slice x2 n2 xk2, .slice x3 n3 xk3, .int .i32 tu, .int .i64 wo, .int .i8 fi, .int .i64 wi] #[.slice y1 n1 yk1, .slice y2 n2 yk2, .slice y3 n3 yk3, .int .i32 tu, .int .i64 wo, .int .i8 fi, .int .i64 wi] #[.slice z1 n1 zk1, .slice z2 n2 zk2, .slice z3 n3 zk3, .int .i32 tu, .int .i64 wo, .int .i8 fi, .int .i64 wi] w2.heap.size w4.heap.size w6.heap.size wr.heap.size w2.heap.size W2.heap.size w4.heap.size s) := by
              have u6 : Up w6 W6 := by rw [hW6]; exact (Up.refl _).alloc _
              have b6 : W6.heap[w6.heap.size]? = some (.cells #[.slice z1 n1 zk1, .slice z2 n2 zk2, .slice z3 n3 zk3, .int .i32 tu, .int .i64 wo, .int .i8 fi, .int .i64 wi] 27 (0, 0)) := by rw [hW6]; exact heap_alloc_new w6 _
              have u4 : Up w4 W6 := HV4.out.trans (HU6.out.trans u6)
              have u2 : Up w2 W6 := HV2.out.trans (HU4.out.trans u4)
              have ur : Up wr W6 := HU2.out.trans u2
              have u0 : Up W0 W6 := HU.out.trans ur
              have uw : Up w W6 := HW0.out.1.trans u0
              exact ⟨uw, u0.heap HW0.out.2.1, HDLs.out W6 uw, HDW.out.up ur, (HU4.out.trans u4).heap HB2.out, (HU6.out.trans u6).heap HB4.out, b6, (HA.out.up u2).so.sl, (HBs.out.up u4).so.sl, HWs.out.up u6, stIn_up9 (HA.out.stIn HSm.out) (Nat.le_refl _) u2, stIn_up9 (HBs.out.stIn HSm.out) (Nat.le_refl _) u4, by have := HB.out; have := HW0.out.2.2; omega, HU2.out.size, by have := HZ2.out; omega, HU4.out.size, u4.size, by have := HB.out; have := HU.out.size; omega, fun j g hj hg => (wc_lt (HDW.out.2.1 j hj) hg).2⟩
            obtain ⟨p0, p1, p2, p3, p4, p5, p6⟩ := seven_cells HC0.out.a1
            obtain ⟨q0, q1, q2, q3, q4, q5, q6⟩ := seven_cells HC0.out.w1
            rw [hW6] at p0 p1 p2 p3 p4 p5 p6 q0 q1 q2 q3 q4 q5 q6
            clear HA HBs HWs HU HU2 HU4 HU6 HV2 HV4 HB2 HB4 HZ2 HZ4 HU0 HDW HSV HDLs HBx
            go_wp2_with fail
            rw [← hW6]
            clear hW6 p0 q0 p1 q1 p2 q2 p3 q3 p4 q4 p5 q5 p6 q6
            generalize w2.heap.size = ba at HC0 ⊢
            generalize w4.heap.size = bb at HC0 ⊢
            generalize w6.heap.size = bw at HC0 ⊢
            generalize wr.heap.size = la at HC0
            generalize W2.heap.size = lb at HC0
            refine Calls.mono (eqState_ _ _ s s W6 HC0.out.a2 HC0.out.w2 HSm.out (eqS_self9 s)) ?_
            rintro e w7 ⟨rfl, u7⟩
            have HC7 : Hid (NN w w7 i ds li en a3 k3 (.slice va i vc) vs B #[.slice x1 n1 xk1, .slice x2 n2 xk2, .slice x3 n3 xk3, .int .i32 tu, .int .i64 wo, .int .i8 fi, .int .i64 wi] #[.slice y1 n1 yk1, .slice y2 n2 yk2, .slice y3 n3 yk3, .int .i32 tu, .int .i64 wo, .int .i8 fi, .int .i64 wi] #[.slice z1 n1 zk1, .slice z2 n2 zk2, .slice z3 n3 zk3, .int .i32 tu, .int .i64 wo, .int .i8 fi, .int .i64 wi] ba bb bw la ba lb bb s) := HC0.out.mono u7
            clear u7 HC0
            obtain ⟨p0, p1, p2, p3, p4, p5, p6⟩ := seven_cells HC7.out.b1
            obtain ⟨q0, q1, q2, q3, q4, q5, q6⟩ := seven_cells HC7.out.w1
            go_wp2_with fail
            clear p0 q0 p1 q1 p2 q2 p3 q3 p4 q4 p5 q5 p6 q6
            refine Calls.mono (eqState_ _ _ s s w7 HC7.out.b2 HC7.out.w2 HSm.out (eqS_self9 s)) ?_
            rintro e w8 ⟨rfl, u8⟩
            have HC8 : Hid (NN w w8 i ds li en a3 k3 (.slice va i vc) vs B #[.slice x1 n1 xk1, .slice x2 n2 xk2, .slice x3 n3 xk3, .int .i32 tu, .int .i64 wo, .int .i8 fi, .int .i64 wi] #[.slice y1 n1 yk1, .slice y2 n2 yk2, .slice y3 n3 yk3, .int .i32 tu, .int .i64 wo, .int .i8 fi, .int .i64 wi] #[.slice z1 n1 zk1, .slice z2 n2 zk2, .slice z3 n3 zk3, .int .i32 tu, .int .i64 wo, .int .i8 fi, .int .i64 wi] ba bb bw la ba lb bb s) := HC7.out.mono u8
            clear u8 HC7
            go_wp2_with fail
            go_loopw [13] (fun s13 W => ∃ j : Nat, j ≤ i ∧ s13 = .int .i64 j ∧ NN w W i ds li en a3 k3 (.slice va i vc) vs B #[.slice x1 n1 xk1, .slice x2 n2 xk2, .slice x3 n3 xk3, .int .i32 tu, .int .i64 wo, .int .i8 fi, .int .i64 wi] #[.slice y1 n1 yk1, .slice y2 n2 yk2, .slice y3 n3 yk3, .int .i32 tu, .int .i64 wo, .int .i8 fi, .int .i64 wi] #[.slice z1 n1 zk1, .slice z2 n2 zk2, .slice z3 n3 zk3, .int .i32 tu, .int .i64 wo, .int .i8 fi, .int .i64 wi] ba bb bw la ba lb bb s) (fun s13 _ => i - (intOf s13).toNat)
            case atStart => exact ⟨0, Nat.zero_le _, rfl, HC8.out⟩
            case round =>
              clear HC8
              obtain ⟨j, hj, rfl, hnn⟩ := hrel
              have HC : Hid (NN w wr i ds li en a3 k3 (.slice va i vc) vs B #[.slice x1 n1 xk1, .slice x2 n2 xk2, .slice x3 n3 xk3, .int .i32 tu, .int .i64 wo, .int .i8 fi, .int .i64 wi] #[.slice y1 n1 yk1, .slice y2 n2 yk2, .slice y3 n3 yk3, .int .i32 tu, .int .i64 wo, .int .i8 fi, .int .i64 wi] #[.slice z1 n1 zk1, .slice z2 n2 zk2, .slice z3 n3 zk3, .int .i32 tu, .int .i64 wo, .int .i8 fi, .int .i64 wi] ba bb bw la ba lb bb s) := hnn
              clear hnn
              by_cases hlt : j < i
              · have hlt2 : (j : Int) < (i : Int) := by omega
                obtain ⟨a9, k9, h9, -, c9⟩ := dl_at HC.out.dl
                have e9 : a3 = a9 := by simp only [Value.slice.injEq] at h9; exact h9.1
                clear h9
                subst e9
                obtain ⟨b3, o3, rfl, hrow⟩ := c9 (by have := HN.out; omega)
                obtain ⟨ra, rc, hcell, hcl⟩ := hrow j (by rw [← HN.out]; exact hlt)
                have x1 := hcell wr (Up.refl _)
                obtain ⟨gi, cap9, -, -, ev⟩ := row_some HC.out.dw.1 (by omega)
                simp only [Value.slice.injEq] at ev
                have hva := ev.1
                subst hva
                have hcellv := World.ownsRow.cellAt HC.out.dw.1 j (by omega)
                have hvl : vs.length = i := by have := HC.out.dw.1.1; omega
                obtain ⟨gx, hx1, hx2, hx3⟩ := id (HC.out.dw.2.1 j hlt)
                have x2 : wr.cell? ⟨gi, j, none⟩ = some (.slice (some ⟨gx, 0, none⟩) (ds.getD j []).length ((ds.getD j []).length + 64)) := by
                  rw [hcellv, ← hx2, List.getD_eq_getElem?_getD, List.getElem?_eq_getElem (by omega)]
                  rfl
                have hdl := HDl.out j hlt
                have HWC : Hid (WC B wr (.slice (some ⟨gx, 0, none⟩) (ds.getD j []).length ((ds.getD j []).length + 64)) (ds.getD j [])) := by
                  have := HC.out.dw.2.1 j hlt
                  rw [hx2] at this
                  exact this
                have HEq : Hid (∀ W, (W.cell? ⟨w.heap.size, 0, none⟩ = some (.slice (some ⟨b3, o3, none⟩) i k3) ∧ W.cell? ⟨b3, o3 + j, none⟩ = some (.slice ra (ds.getD j []).length rc) ∧ W.cell? ⟨gi, j, none⟩ = some (.slice (some ⟨gx, 0, none⟩) (ds.getD j []).length ((ds.getD j []).length + 64)) ∧ Hid (Up wr W)) → Calls Tryd.prog 19 #[.slice (some ⟨gx, 0, none⟩) (ds.getD j []).length ((ds.getD j []).length + 64), .slice ra (ds.getD j []).length rc] W fun e w' => e = .returned (.bool true) ∧ Up W w') := fun W h => by
                  have := eqCards_ _ _ (ds.getD j []) (ds.getD j []) W (HWC.out.up h.2.2.2.out).il (hcl.up h.2.2.2.out) hdl
                  rw [decide_eq_true rfl] at this
                  exact this.mono fun e w' ⟨h1, m, h2⟩ => ⟨h1, by rw [h2]; exact (Up.refl _).drewN m⟩
                have HSp : Hid (∀ W, (W.cell? ⟨w.heap.size, 0, none⟩ = some (.slice (some ⟨b3, o3, none⟩) i k3) ∧ W.cell? ⟨b3, o3 + j, none⟩ = some (.slice ra (ds.getD j []).length rc) ∧ W.cell? ⟨gi, j, none⟩ = some (.slice (some ⟨gx, 0, none⟩) (ds.getD j []).length ((ds.getD j []).length + 64)) ∧ Hid (Up wr W)) → Calls Tryd.prog 20 #[.slice (some ⟨gx, 0, none⟩) (ds.getD j []).length ((ds.getD j []).length + 64)] W fun e w' => e = .returned (.bool true) ∧ Up W w') := fun W h => spareC_ B _ (ds.getD j []) W (HWC.out.up h.2.2.2.out) hdl
                have y0 : wr.cell? ⟨w.heap.size, 0, none⟩ = some (.slice (some ⟨b3, o3, none⟩) i k3) := by simp [World.cell?, HC.out.d1]
                have HS0 : Hid (wr.drew.cell? ⟨w.heap.size, 0, none⟩ = some (.slice (some ⟨b3, o3, none⟩) i k3) ∧ wr.drew.cell? ⟨b3, o3 + j, none⟩ = some (.slice ra (ds.getD j []).length rc) ∧ wr.drew.cell? ⟨gi, j, none⟩ = some (.slice (some ⟨gx, 0, none⟩) (ds.getD j []).length ((ds.getD j []).length + 64)) ∧ Hid (Up wr wr.drew)) := ⟨y0, x1, x2, (Up.refl _).drew⟩
                have HKp : Hid (∀ W W', (W.cell? ⟨w.heap.size, 0, none⟩ = some (.slice (some ⟨b3, o3, none⟩) i k3) ∧ W.cell? ⟨b3, o3 + j, none⟩ = some (.slice ra (ds.getD j []).length rc) ∧ W.cell? ⟨gi, j, none⟩ = some (.slice (some ⟨gx, 0, none⟩) (ds.getD j []).length ((ds.getD j []).length + 64)) ∧ Hid (Up wr W)) → Up W W' → (W'.cell? ⟨w.heap.size, 0, none⟩ = some (.slice (some ⟨b3, o3, none⟩) i k3) ∧ W'.cell? ⟨b3, o3 + j, none⟩ = some (.slice ra (ds.getD j []).length rc) ∧ W'.cell? ⟨gi, j, none⟩ = some (.slice (some ⟨gx, 0, none⟩) (ds.getD j []).length ((ds.getD j []).length + 64)) ∧ Hid (Up wr W'))) := fun W W' h u => ⟨u.cell h.1, u.cell h.2.1, u.cell h.2.2.1, h.2.2.2.out.trans u⟩
                clear hrow hcell hcl c9 hcellv hx1 hx2 hx3 HWC hvl hdl ev
                generalize (ds.getD j []).length = q at x1 x2 HEq HSp HS0 HKp
                go_wp2_with fail
                go_region_held3 (fun W' => (W'.cell? ⟨w.heap.size, 0, none⟩ = some (.slice (some ⟨b3, o3, none⟩) i k3) ∧ W'.cell? ⟨b3, o3 + j, none⟩ = some (.slice ra q rc) ∧ W'.cell? ⟨gi, j, none⟩ = some (.slice (some ⟨gx, 0, none⟩) q (q + 64)) ∧ Hid (Up wr W')))
                  (first | exact HS0.out | (refine HKp.out _ _ ?_ hu9; assumption))
                  (first
                    | (go_at_call 19; with_reducible refine Calls.mono (HEq.out _ (by assumption)) ?_; rintro e w' ⟨rfl, hu9⟩)
                    | (go_at_call 20; with_reducible refine Calls.mono (HSp.out _ (by assumption)) ?_; rintro e w' ⟨rfl, hu9⟩))
                rename_i hZ
                have HC10 : Hid _ := HC.out.mono hZ.2.2.2.out
                clear hZ HS0 HKp HEq HSp HC hu9 x1 x2 y0
                go_wp2_with fail
                go_roundw
                case rel => exact ⟨j + 1, by omega, by go_num, HC10.out⟩
                case measure => simp [intOf]; omega
              · have hlt2 : ¬ (j : Int) < (i : Int) := by omega
                obtain ⟨gb, hgb⟩ : ∃ g, g = wr.heap.size := ⟨_, rfl⟩
                obtain ⟨V6, hV6⟩ : ∃ W, W = wr.alloc (.cells #[.slice none 0 0, .slice none 0 0, .slice none 0 0, .slice none 0 0, .slice none 0 0, .slice none 0 0, .slice none 0 0, .slice none 0 0, .slice none 0 0, .slice none 0 0, .slice none 0 0, .slice none 0 0, .slice none 0 0, .slice none 0 0, .slice none 0 0, .slice none 0 0, .slice none 0 0, .slice none 0 0, .slice none 0 0, .slice none 0 0, .slice none 0 0] 53) := ⟨_, rfl⟩
                have HB0 : Hid (BG.BagG V6 w.heap.size gb (gb + 1) (fun _ => .slice none 0 0) (fun _ => [])) := by
                  unfold Hid
                  rw [hgb, hV6]
                  exact BG.bagG_start _ _
                have hu6 : Up wr V6 := by rw [hV6]; exact (Up.refl _).alloc _
                have HC6 : Hid (NN w V6 i ds li en a3 k3 (.slice va i vc) vs B #[.slice x1 n1 xk1, .slice x2 n2 xk2, .slice x3 n3 xk3, .int .i32 tu, .int .i64 wo, .int .i8 fi, .int .i64 wi] #[.slice y1 n1 yk1, .slice y2 n2 yk2, .slice y3 n3 yk3, .int .i32 tu, .int .i64 wo, .int .i8 fi, .int .i64 wi] #[.slice z1 n1 zk1, .slice z2 n2 zk2, .slice z3 n3 zk3, .int .i32 tu, .int .i64 wo, .int .i8 fi, .int .i64 wi] ba bb bw la ba lb bb s) := HC.out.mono hu6
                have hord := HC.out.ord
                have hltb : w.heap.size ≤ gb ∧ ba < gb ∧ bb < gb ∧ V6.heap.size = gb + 1 ∧ bb ≤ gb := by
                  have l1 := (Array.getElem?_eq_some_iff.1 HC.out.a1).1
                  have l2 := (Array.getElem?_eq_some_iff.1 HC.out.b1).1
                  have l4 := HC.out.up.size
                  exact ⟨by omega, by omega, by omega, by rw [hV6, hgb]; simp, by omega⟩
                have HLT : Hid _ := hltb
                have HRB : Hid (∀ j, j < i → ∃ gi gx, va = some ⟨gi, 0, none⟩ ∧ gx < la ∧ (vs.getD j nl).ownBlock = some gx ∧ ∀ W, Below gb V6 W → W.cell? ⟨gi, j, none⟩ = some (.slice (some ⟨gx, 0, none⟩) (ds.getD j []).length ((ds.getD j []).length + 64)) ∧ ∃ xs, W.ownsRow w.heap.size 73 6 (.slice (some ⟨gx, 0, none⟩) (ds.getD j []).length ((ds.getD j []).length + 64)) (ds.getD j []).length xs) := fun j hj => by
                  obtain ⟨gi, cap9, -, -, ev⟩ := row_some HC.out.dw.1 (by omega)
                  simp only [Value.slice.injEq] at ev
                  have hrow := HC.out.dw.1
                  rw [ev.1] at hrow
                  have hcellv := World.ownsRow.cellAt hrow j (by omega)
                  have hvl : vs.length = i := by have := HC.out.dw.1.1; omega
                  obtain ⟨gx, hx1, hx2, hx3⟩ := id (HC.out.dw.2.1 j hj)
                  have hob : (vs.getD j nl).ownBlock = some gx := by rw [hx2]; rfl
                  have hgl := hord.2.2.2.2.2.2 j gx hj hob
                  have x2 : wr.cell? ⟨gi, j, none⟩ = some (.slice (some ⟨gx, 0, none⟩) (ds.getD j []).length ((ds.getD j []).length + 64)) := by
                    rw [hcellv, ← hx2, List.getD_eq_getElem?_getD, List.getElem?_eq_getElem (by omega)]
                    rfl
                  have hgi := World.block_lt_of_cell? _ _ x2
                  refine ⟨gi, gx, ev.1, hgl, hob, fun W b => ⟨?_, _, own_wide (s := 6) (n := (ds.getD j []).length) (by have := hord.1; omega) ((b.block gx (by have := hltb; omega)).trans (hu6.heap hx3)) (wCs_len _) (HDl.out j hj)⟩⟩
                  rw [World.cell?_of_block (w := V6) (w' := W) (a := ⟨gi, j, none⟩) (b.block gi (by rw [hgb]; exact hgi))]
                  exact hu6.cell x2
                have HRA : Hid (RA i vs) := HC.out.dw.2.2
                obtain ⟨p0, p1, p2, p3, p4, p5, p6⟩ := seven_cells HC6.out.a1
                rw [hV6] at p0 p1 p2 p3 p4 p5 p6
                clear hltb hu6 HC
                go_wp2_with fail
                rw [← hV6, ← hgb]
                clear hV6 hgb p0 p1 p2 p3 p4 p5 p6
                refine Calls.mono (BG.addState_ gb (gb + 1) w.heap.size la ba _ _ _ V6 HB0.out HC6.out.a3 (by omega) (by have := HLT.out; omega) (fun j g hg => by obtain ⟨p, hp, -⟩ := hg; exact absurd hp (Nat.not_lt_zero _))) ?_
                rintro e v7 ⟨rfl, f7, L7, d1, d2, d3, -, d5⟩
                have HB7 : Hid (BG.BagG v7 w.heap.size gb (gb + 1) f7 L7) := d1
                have HD7 : Hid (Below gb V6 v7) := d2
                have HK7 : Hid (∀ j g, BG.Blks (L7 j) g → la ≤ g ∧ g < ba) := fun j g hg => by
                  rcases d3 j g hg with h | h
                  · obtain ⟨p, hp, -⟩ := h; exact absurd hp (Nat.not_lt_zero _)
                  · exact h
                have HJ7 : Hid (∀ j, j ∉ [7, 8, 12, 1] → L7 j = []) := d5
                have hb7 : v7.heap[bb]? = some (.cells #[.slice y1 n1 yk1, .slice y2 n2 yk2, .slice y3 n3 yk3, .int .i32 tu, .int .i64 wo, .int .i8 fi, .int .i64 wi] 27 (0, 0)) := (d2.block bb HLT.out.2.2.1).trans HC6.out.b1
                obtain ⟨p0, p1, p2, p3, p4, p5, p6⟩ := seven_cells hb7
                clear d1 d2 d3 d5 hb7 HB0
                go_wp2_with fail
                clear p0 p1 p2 p3 p4 p5 p6
                refine Calls.mono (BG.addState_ gb (gb + 1) w.heap.size lb bb _ _ _ v7 HB7.out (HC6.out.b3.below HD7.out HLT.out.2.2.2.2) (by omega) HLT.out.2.2.2.2 (fun j g hg => by have := HK7.out j g hg; omega)) ?_
                rintro e v8 ⟨rfl, f8, L8, d1, d2, d3, -, d5⟩
                have HB8 : Hid (BG.BagG v8 w.heap.size gb (gb + 1) f8 L8) := d1
                have HD8 : Hid (Below gb V6 v8) := Below.trans HD7.out d2
                have HK8 : Hid (∀ j g, BG.Blks (L8 j) g → la ≤ g) := fun j g hg => by
                  rcases d3 j g hg with h | h
                  · exact (HK7.out j g h).1
                  · omega
                have HJ8 : Hid (∀ j, j ∉ [7, 8, 12, 1] → L8 j = []) := fun j hj => (d5 j hj).trans (HJ7.out j hj)
                have HUp : Hid (Up w V6) := HC6.out.up
                have hla : la ≤ gb := by have := HLT.out; omega
                have hws : w.heap.size ≤ la := by omega
                clear d1 d2 d3 d5 HB7 HD7 HK7 HJ7 HC6 hord hlt hlt2
                go_wp2_with fail
                go_loopw [15] (fun s15 W => ∃ (j : Nat) (f' : Nat → Value) (L' : Nat → BG.VL), j ≤ i ∧ s15 = .int .i64 j ∧ BG.BagG W w.heap.size gb (gb + 1) f' L' ∧ Below gb V6 W ∧ (∀ k g, BG.Blks (L' k) g → la ≤ g ∨ (k = 8 ∧ ∃ q, q < j ∧ (vs.getD q nl).ownBlock = some g)) ∧ ∀ k, k ∉ [7, 8, 12, 1] → L' k = []) (fun s15 _ => i - (intOf s15).toNat)
                case atStart => exact ⟨0, f8, L8, Nat.zero_le _, rfl, HB8.out, HD8.out, fun k g hg => .inl (HK8.out k g hg), HJ8.out⟩
                case round =>
                  clear HB8 HD8 HK8 HJ8
                  obtain ⟨j, f9, L9, hj, rfl, hb9, hd9, hk9, hj9⟩ := hrel
                  have HB9 : Hid (BG.BagG wr w.heap.size gb (gb + 1) f9 L9) := hb9
                  have HD9 : Hid (Below gb V6 wr) := hd9
                  have HK9 : Hid _ := hk9
                  have HJ9 : Hid (∀ k, k ∉ [7, 8, 12, 1] → L9 k = []) := hj9
                  clear hb9 hd9 hk9 hj9
                  by_cases hlt : j < i
                  · have hlt2 : (j : Int) < (i : Int) := by omega
                    obtain ⟨gi, gx, rfl, hgx, hob, hW⟩ := HRB.out j hlt
                    obtain ⟨x1, xs, hown⟩ := hW wr HD9.out
                    have hdl := HDl.out j hlt
                    have HAd : Hid (Calls Tryd.prog 21 #[.pointer (some ⟨gb, 0, none⟩), .slice (some ⟨gx, 0, none⟩) (ds.getD j []).length ((ds.getD j []).length + 64)] wr (BG.GPost gb w.heap.size (gb + 1) f9 L9 (fun k g => k = 8 ∧ (Value.slice (some ⟨gx, 0, none⟩) (ds.getD j []).length ((ds.getD j []).length + 64)).ownBlock = some g) [8] wr)) :=
                      BG.addCards_ gb (gb + 1) w.heap.size f9 L9 _ (ds.getD j []).length wr HB9.out ⟨⟨xs, hown⟩, hdl, fun g hg => by
                        have eg : gx = g := by simpa [Value.ownBlock] using hg
                        subst eg
                        refine ⟨by omega, fun hb => ?_⟩
                        rcases HK9.out 8 gx hb with h | ⟨-, q, hq, h⟩
                        · omega
                        · exact HRA.out q j gx (by omega) hlt (by omega) h hob⟩
                    have HOB : Hid ((vs.getD j nl).ownBlock = some gx) := hob
                    clear hW hown hob HB9 hdl
                    generalize (ds.getD j []).length = q at x1 HAd
                    go_wp2_with fail
                    refine Calls.mono HAd.out ?_
                    rintro e v10 ⟨rfl, f10, L10, d1, d2, d3, -, d5⟩
                    have HR10 : Hid (BG.BagG v10 w.heap.size gb (gb + 1) f10 L10 ∧ Below gb V6 v10 ∧ (∀ k g, BG.Blks (L10 k) g → la ≤ g ∨ (k = 8 ∧ ∃ q, q < j + 1 ∧ (vs.getD q nl).ownBlock = some g)) ∧ ∀ k, k ∉ [7, 8, 12, 1] → L10 k = []) := ⟨d1, Below.trans HD9.out d2, fun k g hg => by
                      rcases d3 k g hg with h | ⟨rfl, h⟩
                      · rcases HK9.out k g h with h | ⟨e, q9, hq, h⟩
                        · exact .inl h
                        · exact .inr ⟨e, q9, by omega, h⟩
                      · have eg : gx = g := by simpa [Value.ownBlock] using h
                        subst eg
                        exact .inr ⟨rfl, j, by omega, HOB.out⟩, fun k hk => (d5 k (by simp at hk ⊢; omega)).trans (HJ9.out k hk)⟩
                    clear d1 d2 d3 d5 HAd x1 HK9 HJ9 HD9 HOB
                    go_wp2_with fail
                    go_roundw
                    case rel => exact ⟨j + 1, f10, L10, by omega, by go_num, HR10.out⟩
                    case measure => simp [intOf]; omega
                  · have hlt2 : ¬ (j : Int) < (i : Int) := by omega
                    have HJ10 : Hid (∀ k, k < 21 → k ≠ 1 → k ≠ 7 → k ≠ 8 → k ≠ 12 → L9 k = []) := fun k _ h1 h7 h8 h12 => HJ9.out k (by simp; omega)
                    have HD10 : Hid (Below w.heap.size w wr) := Below.trans HUp.out (HD9.out.mono (by omega))
                    clear HJ9 HK9 HD9
                    go_wp2_with fail
                    refine Calls.mono (BG.apartS_ wr w.heap.size gb (gb + 1) f9 L9 HB9.out HLT.out.1 HJ10.out) ?_
                    rintro e v11 ⟨rfl, d1⟩
                    have HD11 : Hid (Below w.heap.size w v11) := Below.trans HD10.out d1
                    clear d1 HD10 HB9 HJ10
                    go_wp2_with fail
                    refine Calls.mono (works_ v11) ?_
                    rintro e v12 ⟨rfl, d1⟩
                    have HF : Hid (Post (.returned (.bool true)) v12) := by
                      unfold Hid
                      rw [HP.out]
                      exact ⟨rfl, Below.trans HD11.out (d1.mono HD11.out.size)⟩
                    clear d1 HD11
                    go_wp2
                    first | exact HF.out | (go_ret; exact HF.out)
end ST
end Go.Proofs.YtndkpfkgcaebmaaDoor
