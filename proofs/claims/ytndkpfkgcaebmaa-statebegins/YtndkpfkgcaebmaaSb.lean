/-
  StateBegins: the law's walk.
-/
import Derived.Test.YtndkpfkgcaebmaaCy
import Derived.Test.YtndkpfkgcaebmaaSa
import Derived.Test.YtndkpfkgcaebmaaNp
import Derived.Test.YtndkpfkgcaebmaaSz
import Derived.Test.YtndkpfkgcaebmaaWk
namespace Go.Proofs.Ytndkpfkgcaebmaa
open Go.RowKit
attribute [local go_sem ↓] Go.wp_at_zero Go.wp_at_succ

namespace ST
def szC : List (List Crd) → Nat → Nat
  | [], n => n
  | l :: zs, n => if n ≤ 2147483647 then szC zs (n + l.length) else n
theorem szC_is : ∀ (zs : List (List Crd)) (n : Nat), szC zs n = n + total zs ∨ 2147483647 < szC zs n := by
  intro zs
  induction zs with
  | nil => intro n; left; simp [szC, total]
  | cons l zs ih =>
    intro n
    simp only [szC, total, List.flatten_cons, List.length_append]
    split
    · rcases ih (n + l.length) with h | h
      · left; unfold total at h; omega
      · right; omega
    · right; omega
theorem szC_le : ∀ (zs : List (List Crd)) (n : Nat), (∀ r, r < zs.length → (zs.getD r []).length ≤ 140737488355328) → n ≤ 281474976710656 → szC zs n ≤ 281474976710656 := by
  intro zs
  induction zs with
  | nil => intro n _ h; exact h
  | cons l zs ih =>
    intro n h hn
    simp only [szC]
    split
    · have := h 0 (by simp)
      simp at this
      exact ih _ (fun r hr => by have := h (r + 1) (by simpa using hr); simpa using this) (by omega)
    · exact hn
theorem infoD : (Try.prog.info? 23).map (fun i => (i.zero, i.size, i.bytes)) = some (some (.slice none 0 0), 1, 24) := by kernel_rfl
/- the first i decks, and the list that holds them -/
def DM (base : Nat) (W : World) (v : Value) (i : Nat) (zs : List (List Crd)) : Prop := ∃ vs, W.ownsRow base 23 1 v i vs ∧ ∀ j, j < i → CO base W (vs.getD j nl) (zs.getD j [])
theorem dm_more {base i : Nat} {W W1 W2 : World} {v v' x : Value} {zs : List (List Crd)} (h : DM base W v i zs) (u : Up W W1) (hx : CO base W1 x (zs.getD i [])) (hlen : ∀ vs, W.ownsRow base 23 1 v i vs → W2.ownsRow base 23 1 v' (i + 1) (vs ++ [x])) (hg : W1.grownBy W2 v.ownBlock) : DM base W2 v' (i + 1) zs := by
  obtain ⟨vs, h1, h2⟩ := h
  have hl : vs.length = i := by have := h1.1; omega
  have k1 := row_up h1 u
  refine ⟨vs ++ [x], hlen vs h1, fun j hj => ?_⟩
  by_cases e : j = i
  · subst e
    rw [List.getD_eq_getElem?_getD, List.getElem?_append_right (by omega), hl]
    simp
    exact World.ownsRow.kept hx hg (row_apart hx k1 (by decide))
  · have hj' : j < i := by omega
    rw [List.getD_eq_getElem?_getD, List.getElem?_append_left (by omega), ← List.getD_eq_getElem?_getD]
    have := row_up (h2 j hj') u
    exact World.ownsRow.kept this hg (row_apart this k1 (by decide))
theorem DM.dl {base : Nat} {W : World} {v : Value} {zs : List (List Crd)} {i : Nat} (h : DM base W v i zs) (hi : i = zs.length) : DL W v zs := by
  subst hi
  obtain ⟨vs, h1, h2⟩ := h
  exact ⟨vs, own_lc h1, fun i hi => own_lc (h2 i hi)⟩
theorem cpSL (v : Value) (s : Stt) (w : World) (hs : StL w v s) (hsm : Small s) : Calls Try.prog 13 #[v] w fun e w' => ∃ v', e = .returned v' ∧ StL w' v' s ∧ Up w w' :=
  (copyState_ v s w hs hsm).mono fun _ _ ⟨v', he, h, u⟩ => ⟨v', he, h.sl, u⟩
theorem nil_state (W : World) : StL W (.agg #[.slice none 0 0, .slice none 0 0, .slice none 0 0, .int .i32 0, .int .i64 0, .int .i8 0, .int .i64 0]) noS := by
  refine ⟨.slice none 0 0, .slice none 0 0, .slice none 0 0, rfl, ⟨rfl, none, 0, rfl, Nat.le_refl _, fun h => absurd rfl h⟩, ⟨rfl, none, 0, rfl, Nat.le_refl _, fun h => absurd rfl h⟩, [], ⟨rfl, none, 0, rfl, Nat.le_refl _, fun h => absurd rfl h⟩, fun i hi => by simp [noS] at hi⟩
theorem new_small (ds : List (List Crd)) (li en : Int) (h : newB ds li en = true) : Small (newS ds li en) := by
  have hm := (ff_none _).1 (new_may ds li en h)
  have h1 := hm.1.1
  simp only [sizesB, npB, ncB, Bool.and_eq_true, decide_eq_true_eq] at h1
  refine ⟨by omega, by omega, by omega, fun r hr => ?_⟩
  have h2 := row_flat (newS ds li en).zs r hr
  have h3 : (newS ds li en).zs.flatten.length = (newS ds li en).cs.length := hm.2.2
  omega
set_option maxRecDepth 100000 in
set_option maxHeartbeats 8000000 in
theorem begins (vd : Value) (ds : List (List Crd)) (li en : Int) (w : World) (hv : DL w vd ds) (hn : ds.length ≤ 140737488355328) (hl : ∀ r, r < ds.length → (ds.getD r []).length ≤ 140737488355328) :
    Calls Try.prog 6 #[.agg #[vd, .int .i32 li, .int .i32 en]] w fun e w' => e = .returned (.bool true) ∧ Up w w' := by
  obtain ⟨iD, hiD, i0, i1, i2⟩ := info_parts infoD
  obtain ⟨Post, hPost⟩ : ∃ P : Ending → World → Prop, P = fun e w' => e = .returned (.bool true) ∧ Up w w' := ⟨_, rfl⟩
  rw [← hPost]
  have HP : Hid (Post = fun e w' => e = .returned (.bool true) ∧ Up w w') := hPost
  obtain ⟨a3, k3, rfl, -, c3⟩ := dl_at hv
  obtain ⟨n, hn0⟩ : ∃ n, n = ds.length := ⟨_, rfl⟩
  have HN : Hid (n = ds.length) := hn0
  obtain ⟨R, hR⟩ : ∃ R, R = szC ds 0 := ⟨_, rfl⟩
  have HR : Hid (R = szC (ds.drop 0) 0) := hR
  have hRl : R ≤ 281474976710656 := by rw [hR]; exact szC_le ds 0 hl (by omega)
  have HRt : Hid (R ≤ 2147483647 → R = total ds) := fun h => by
    rcases szC_is ds 0 with e | e
    · rw [hR, e]; omega
    · rw [← hR] at e; omega
  have HBd : Hid (ds.length ≤ 140737488355328 ∧ ∀ r, r < ds.length → (ds.getD r []).length ≤ 140737488355328) := ⟨hn, hl⟩
  rw [← hn0] at hn hl c3 ⊢
  have HC : Hid _ := c3
  have HL : Hid _ := hl
  obtain ⟨W0, hW0⟩ : ∃ W, W = w.alloc (.cells #[.slice a3 n k3, .int .i32 li, .int .i32 en] 48) := ⟨_, rfl⟩
  have HW0 : Hid (Up w W0 ∧ W0.heap[w.heap.size]? = some (.cells #[.slice a3 n k3, .int .i32 li, .int .i32 en] 48 (0, 0)) ∧ W0.heap.size = w.heap.size + 1) := ⟨by rw [hW0]; exact (Up.refl _).alloc _, by rw [hW0]; exact heap_alloc_new w _, by rw [hW0]; simp⟩
  have HBx : Hid (∀ W, Up W0 W → W.cell? ⟨w.heap.size, 0, none⟩ = some (.slice a3 n k3) ∧ W.cell? ⟨w.heap.size, 1, none⟩ = some (.int .i32 li) ∧ W.cell? ⟨w.heap.size, 2, none⟩ = some (.int .i32 en)) := fun W u => by
    have h := u.heap HW0.out.2.1
    exact ⟨by simp [World.cell?, h], by simp [World.cell?, h], by simp [World.cell?, h]⟩
  clear hPost hv c3 hl hn0 hR
  go_enter Try.func6, Try.ntmps6
  go_wp2_with fail
  rw [← hW0]
  clear hW0
  go_loopw [3, 4] (fun s3 s4 W => ∃ i m : Nat, i ≤ n ∧ s4 = .int .i64 i ∧ s3 = .int .i64 m ∧ W = W0 ∧ R = szC (ds.drop i) m ∧ m ≤ 281474976710656) (fun _ s4 _ => n - (intOf s4).toNat)
  case atStart => exact ⟨0, 0, Nat.zero_le _, rfl, rfl, rfl, HR.out, by omega⟩
  case round =>
    obtain ⟨i, m, hi, rfl, rfl, hwr, hr, hmR⟩ := hrel
    obtain rfl := hwr.symm
    clear HR
    have HR : Hid (R = szC (ds.drop i) m) := hr
    obtain ⟨y0, y1, y2⟩ := HBx.out W0 (Up.refl _)
    clear hr
    by_cases hlt : i < n
    · have hlt2 : (i : Int) < (n : Int) := by omega
      by_cases hb : m ≤ 2147483647
      · have hbd : decide ((2147483647 : Int) < (m : Int)) = false := decide_eq_false (by omega)
        obtain ⟨b3, o3, rfl, hrow⟩ := HC.out (by omega)
        obtain ⟨ra, rc, hcell, -⟩ := hrow i hlt
        have x1 := hcell _ HW0.out.1
        have hlen := HL.out i hlt
        have HF : Hid (R = szC (ds.drop (i + 1)) (m + (ds.getD i []).length)) := by
          unfold Hid
          have hz : i < ds.length := by rw [← HN.out]; exact hlt
          rw [HR.out, List.drop_eq_getElem_cons hz, szC, if_pos hb, List.getD_eq_getElem?_getD, List.getElem?_eq_getElem hz]
          rfl
        clear hcell hrow HR
        generalize (ds.getD i []).length = q at x1 hlen HF
        go_wp2_with fail
        refine Calls.mono (long1_ _ _) ?_
        rintro e w1 ⟨rfl, hw1⟩
        obtain rfl := hw1.symm
        rw [hbd]
        go_wp2_with fail
        go_roundw
        case rel => exact ⟨i + 1, m + q, by omega, by go_num, by go_num, by first | rfl | trivial, HF.out, by omega⟩
        case measure => simp [intOf]; omega
      · have hbd : decide ((2147483647 : Int) < (m : Int)) = true := decide_eq_true (by omega)
        have hbd2 : decide ((2147483647 : Int) < (m : Int) + (n : Int)) = true := decide_eq_true (by omega)
        clear HR
        go_wp2_with fail
        refine Calls.mono (long1_ _ _) ?_
        rintro e w1 ⟨rfl, hw1⟩
        obtain rfl := hw1.symm
        rw [hbd]
        go_wp2_with fail
        refine Calls.mono (long1_ _ _) ?_
        rintro e w1 ⟨rfl, hw1⟩
        obtain rfl := hw1.symm
        rw [hbd2]
        go_wp2
        rw [HP.out]
        exact ⟨rfl, HW0.out.1⟩
    · have hlt2 : ¬ (i : Int) < (n : Int) := by omega
      have HF : Hid (R = m) := by
        unfold Hid
        rw [HR.out, List.drop_of_length_le (by rw [← HN.out]; omega)]
        rfl
      clear HR
      by_cases hb : 2147483647 < m + n
      · have hbd2 : decide ((2147483647 : Int) < (m : Int) + (n : Int)) = true := decide_eq_true (by omega)
        go_wp2_with fail
        refine Calls.mono (long1_ _ _) ?_
        rintro e w1 ⟨rfl, hw1⟩
        obtain rfl := hw1.symm
        rw [hbd2]
        go_wp2
        rw [HP.out]
        exact ⟨rfl, HW0.out.1⟩
      · have hbd2 : decide ((2147483647 : Int) < (m : Int) + (n : Int)) = false := decide_eq_false (by omega)
        have HT : Hid (m = total ds) := by unfold Hid; rw [← HF.out]; exact HRt.out (by rw [HF.out]; omega)
        have HDl : Hid (∀ r, r < n → (ds.getD r []).length ≤ 4294967296) := fun r hr => by
          have h1 : (ds.getD r []).length ≤ total ds := by
            unfold total
            have hm : ds.getD r [] ∈ ds := by rw [List.getD_eq_getElem?_getD, List.getElem?_eq_getElem (by rw [← HN.out]; exact hr)]; exact List.getElem_mem _
            generalize ds.getD r [] = x at hm ⊢
            obtain ⟨p, q, hpq⟩ := List.append_of_mem hm
            rw [hpq, List.flatten_append, List.flatten_cons, List.length_append, List.length_append]
            omega
          have := HT.out
          omega
        have hn9 : n ≤ 2147483647 := by omega
        have hm9 : m ≤ 2147483647 := by omega
        clear HF HRt hb
        go_wp2_with fail
        refine Calls.mono (long1_ _ _) ?_
        rintro e w1 ⟨rfl, hw1⟩
        obtain rfl := hw1.symm
        rw [hbd2]
        go_wp2_with fail
        obtain ⟨B, hB⟩ : ∃ B, B = W0.heap.size := ⟨_, rfl⟩
        have HB : Hid (B = W0.heap.size) := hB
        clear hB
        go_loopw [5, 6] (fun s5 s6 W => ∃ (i : Nat) (va : Option Addr) (vc : Nat), i ≤ n ∧ s6 = .int .i64 i ∧ s5 = .slice va i vc ∧ DM B W (.slice va i vc) i ds ∧ Up W0 W) (fun _ s6 _ => n - (intOf s6).toNat)
        case atStart => exact ⟨0, none, 0, Nat.zero_le _, rfl, rfl, ⟨[], World.ownsRow_nil _ _ _ _, fun j hj => by omega⟩, Up.refl _⟩
        case round =>
          clear hlt2 hlt hi y0 y1 y2
          obtain ⟨i, va, vc, hi, rfl, rfl, hz, hu⟩ := hrel
          have HZ : Hid (DM B wr (.slice va i vc) i ds) := hz
          have HU : Hid (Up W0 wr) := hu
          obtain ⟨y0, y1, y2⟩ := HBx.out wr hu
          clear hz hu
          by_cases hlt : i < n
          · have hlt2 : (i : Int) < (n : Int) := by omega
            obtain ⟨b3, o3, rfl, hrow⟩ := HC.out (by omega)
            obtain ⟨ra, rc, hcell, hil⟩ := hrow i hlt
            have x1 := hcell wr (HW0.out.1.trans HU.out)
            have HK : Hid _ := copyCards_ _ (ds.getD i []) wr (hil.up (HW0.out.1.trans HU.out)) (HDl.out i hlt)
            clear hcell hrow hil
            go_wp2_with fail
            refine Calls.mono HK.out ?_
            rintro e w1 ⟨x, rfl, hx, u1⟩
            clear HK
            obtain ⟨xa, xc, hxa⟩ := row_val hx
            have HX : Hid (CO B w1 x (ds.getD i [])) := own_less hx (by have := HU.out.size; have := HB.out; omega)
            have HU1 : Hid (Up wr w1) := u1
            clear hx u1
            subst hxa
            obtain ⟨vs, hz1, -⟩ := id HZ.out
            have HV : Hid ((w1.alloc (.cells #[.slice xa (ds.getD i []).length xc] 23)).ownsRow B 23 1 (.slice va i vc) i vs) := row_up hz1 (HU1.out.alloc _)
            have HM : Hid (∀ j u, [Value.slice xa (ds.getD i []).length xc][j]? = some u → (w1.alloc (.cells #[.slice xa (ds.getD i []).length xc] 23)).cell? ((⟨w1.heap.size, 0, none⟩ : Addr).add j) = some u) := by
              intro j u hj
              cases j with
              | zero => simp at hj; subst hj; simp [Addr.add]
              | succ j => simp at hj
            have HO : Hid (∀ u ∈ [Value.slice xa (ds.getD i []).length xc], u.oneCell' = true) := by intro u hu; simp at hu; subst hu; rfl
            have HS : Hid (B ≤ (w1.alloc (.cells #[.slice xa (ds.getD i []).length xc] 23)).heap.size) := by have h1 := HU.out.size; have h2 := HU1.out.size; have h3 := HB.out; unfold Hid; simp; omega
            have HZ2 : Hid (∀ v' w2, w2.ownsRow B 23 1 v' (i + 1) (vs ++ [.slice xa (ds.getD i []).length xc]) → (w1.alloc (.cells #[.slice xa (ds.getD i []).length xc] 23)).grownBy w2 (Value.slice va i vc).ownBlock → DM B w2 v' (i + 1) ds ∧ Up W0 w2) := by
              intro v' w2 h1 h2
              have hvs : ∀ vs', wr.ownsRow B 23 1 (.slice va i vc) i vs' → vs' = vs := fun vs' h => row_same h hz1
              refine ⟨dm_more HZ.out (HU1.out.alloc _) (row_up HX.out ((Up.refl _).alloc _)) (fun vs' h => by rw [hvs vs' h]; exact h1) h2, ?_⟩
              refine Below.grown (HU.out.trans (HU1.out.alloc _)) h2 ?_ ?_
              · have := HS.out; have h3 := HB.out; omega
              · intro k hk
                have := hz1.lt k hk
                have h3 := HB.out; omega
            clear hz1
            go_wp2_with (at_builtin; go_loud (refine wpList_append_own _ (by rfl) (.tmp 51) (.tmp 58) 46 (by rfl) B 23 iD (.slice none 0 0) 1 24 Try.underlying46 hiD i0 i1 i2 (by rfl) (by decide) (.slice va i vc) i vs (by rfl) HV.out ⟨w1.heap.size, 0, none⟩ 1 1 [.slice xa (ds.getD i []).length xc] (by rfl) (by rfl) HM.out HO.out (by unfold maxLen; omega) (by omega) HS.out ?_); intro v' w2 hin hg1 _)
            obtain ⟨va', vc', hva⟩ := row_val hin
            have HF : Hid (DM B w2 v' (i + 1) ds ∧ Up W0 w2) := HZ2.out v' w2 hin hg1
            clear hin hg1 HZ2 HV HM HO HS HX HU1
            subst hva
            go_wp2_with fail
            go_roundw
            case rel => exact ⟨i + 1, va', vc', by omega, by go_num, rfl, HF.out.1, HF.out.2⟩
            case measure => simp [intOf]; omega
          · have hlt2 : ¬ (i : Int) < (n : Int) := by omega
            have hin : i = n := by omega
            subst hin
            have HK : Hid _ := new_ _ ds li en wr (DM.dl HZ.out HN.out) HBd.out.1 HBd.out.2
            clear HZ
            go_wp2_with fail
            refine Calls.mono HK.out ?_
            rintro e w2 ⟨v2, rfl, hso, u2⟩
            clear HK
            obtain ⟨s, hs⟩ : ∃ s, s = newR ds li en := ⟨_, rfl⟩
            rw [← hs] at hso
            have HS : Hid (StL w2 v2 s) := hso.sl
            obtain ⟨xp, xc, xz, rfl, hx1, hx2, ⟨zvs, hx3, -⟩⟩ := hso
            obtain ⟨xa1, xk1, rfl⟩ := row_val hx1
            obtain ⟨xa2, xk2, rfl⟩ := row_val hx2
            obtain ⟨xa3, xk3, rfl⟩ := row_val hx3
            clear hx1 hx2 hx3
            unfold sv at HS ⊢
            obtain ⟨n1, hn1⟩ : ∃ n, n = s.ps.length := ⟨_, rfl⟩
            obtain ⟨n2, hn2⟩ : ∃ n, n = s.cs.length := ⟨_, rfl⟩
            obtain ⟨n3, hn3⟩ : ∃ n, n = s.zs.length := ⟨_, rfl⟩
            rw [← hn1, ← hn2, ← hn3] at HS ⊢
            have HN3 : Hid (n1 = s.ps.length ∧ n2 = s.cs.length ∧ s = newR ds li en) := ⟨hn1, hn2, hs⟩
            clear hn1 hn2 hn3 hs
            generalize s.turn = tu at HS ⊢
            generalize s.whose = wo at HS ⊢
            generalize s.fin = fi at HS ⊢
            generalize s.winner = wi at HS ⊢
            have HU2 : Hid (Up W0 w2) := HU.out.trans u2
            clear u2 y0 y1 y2 HU
            cases hnb : newB ds li en
            · have HE : Hid (newE ds li en = 1 ∧ s = noS) := ⟨by rw [newE, hnb]; rfl, by rw [HN3.out.2.2, newR, hnb]; rfl⟩
              rw [HE.out.1]
              go_wp2_with fail
              refine Calls.mono (eqState_ _ _ s s _ (StL.up HS.out ((Up.refl _).alloc _)) (by rw [HE.out.2]; exact nil_state _) (by rw [HE.out.2]; exact ⟨by decide, by decide, by decide, fun r hr => by simp [noS] at hr⟩) (by simp [eqS])) ?_
              rintro e w3 ⟨rfl, u3⟩
              have HU3 : Hid (Up w w3) := HW0.out.1.trans (HU2.out.trans (((Up.refl _).alloc _).trans u3))
              clear u3
              go_wp2_with fail
              refine Calls.mono (works_ w3) ?_
              rintro e w4 ⟨rfl, u4⟩
              have HU4 : Hid (Up w w4) := HU3.out.trans u4
              clear u4 HU3
              go_wp2
              rw [HP.out]
              exact ⟨rfl, HU4.out⟩
            · have HE : Hid (newE ds li en = 0 ∧ s = newS ds li en) := ⟨by rw [newE, hnb]; rfl, by rw [HN3.out.2.2, newR, hnb]; rfl⟩
              have HSm : Hid (Small s ∧ ff s = none) := by
                unfold Hid
                rw [HE.out.2]
                exact ⟨new_small ds li en hnb, new_may ds li en hnb⟩
              have HWh : Hid (∀ i : Nat, i < m → ∃ z j : Nat, whV (whereOf s (i : Int)) = .tuple #[.int .i64 (4 * (z : Int)), .int .i64 (j : Int), .bool true] ∧ z ≤ 4 ∧ (s.cs.getD i dc).owner = (z : Int)) := fun i hi => by
                rw [HE.out.2]
                obtain ⟨z, j, h1, h2, h3⟩ := new_where ds li en hnb i (by rw [← HT.out]; exact hi)
                refine ⟨z, j, by rw [h1]; simp [whV], ?_, h3⟩
                have := hnb
                simp only [newB, decksB, npB, Bool.and_eq_true, decide_eq_true_eq] at this
                omega
              have hn1 : n1 = i := by rw [HN3.out.1, HE.out.2, HN.out]; simp [newS]
              have hn2 : n2 = m := by rw [HN3.out.2.1, HE.out.2, HT.out]; exact cardsF_len ds 0
              have hcl : n2 = s.cs.length := HN3.out.2.1
              have HCl : Hid (n2 = s.cs.length) := hcl
              clear hcl
              obtain ⟨-, hcell0⟩ : True ∧ ∃ (a : Option Addr) (k : Nat), Value.slice xa2 n2 xk2 = .slice a s.cs.length k ∧ (s.cs.length ≠ 0 → ∃ b off, a = some ⟨b, off, none⟩ ∧ ∀ W, Up w2 W → ∀ i, i < s.cs.length → W.cell? ⟨b, off + i * 6 + 1, none⟩ = some (.int .i64 (s.cs.getD i dc).owner)) := by
                obtain ⟨q1, q2, q3, e, -, h2, -⟩ := id HS.out
                simp only [sv, Value.agg.injEq, Array.mk.injEq, List.cons.injEq] at e
                obtain ⟨-, rfl, -⟩ := e
                obtain ⟨a, k, h3, -, h4⟩ := cl_at h2
                refine ⟨trivial, a, k, h3, fun hn => ?_⟩
                obtain ⟨b, off, h5, h6⟩ := h4 hn
                exact ⟨b, off, h5, fun W u i hi => (h6 W u i hi).2.1⟩
              have HOw : Hid (∀ j, j < n2 → ∃ b off, xa2 = some ⟨b, off, none⟩ ∧ ∀ W, Up w2 W → W.cell? ⟨b, off + j * 6 + 1, none⟩ = some (.int .i64 (s.cs.getD j dc).owner)) := fun j hj => by
                obtain ⟨a, k, e, h⟩ := hcell0
                simp only [Value.slice.injEq] at e
                obtain ⟨b, off, h1, h2⟩ := h (by rw [← HCl.out]; omega)
                exact ⟨b, off, by rw [e.1, h1], fun W u => h2 W u j (by rw [← HCl.out]; exact hj)⟩
              clear hcell0
              rw [HE.out.1, hn1, hn2]
              rw [hn1, hn2] at HS
              rw [hn2] at HOw
              clear hnb HE HN3 hn1 hn2 HCl n1 n2
              have hck : ckV (ff s) = .tuple #[.int .i64 0, .int .i64 0] := by rw [HSm.out.2]; rfl
              have HCk : Hid (∀ W v, StL W v s → Calls Try.prog 9 #[v] W fun e w' => e = .returned (.tuple #[.int .i64 0, .int .i64 0]) ∧ Up W w') := fun W v h => by rw [← hck]; exact check_ v s W h HSm.out.1
              clear hck
              go_wp2_with fail
              obtain ⟨W3, hW3⟩ : ∃ W, W = w2.alloc (.cells #[.slice xa1 i xk1, .slice xa2 m xk2, .slice xa3 n3 xk3, .int .i32 tu, .int .i64 wo, .int .i8 fi, .int .i64 wi] 27) := ⟨_, rfl⟩
              have HX : Hid (∀ W, Up W3 W → W.heap[w2.heap.size]? = some (.cells #[.slice xa1 i xk1, .slice xa2 m xk2, .slice xa3 n3 xk3, .int .i32 tu, .int .i64 wo, .int .i8 fi, .int .i64 wi] 27 (0, 0)) ∧ StL W (.agg #[.slice xa1 i xk1, .slice xa2 m xk2, .slice xa3 n3 xk3, .int .i32 tu, .int .i64 wo, .int .i8 fi, .int .i64 wi]) s ∧ W.cell? ⟨w.heap.size, 0, none⟩ = some (.slice a3 i k3) ∧ Up w2 W ∧ Up w W) := fun W u => by
                have u3 : Up w2 W := Up.trans (by rw [hW3]; exact (Up.refl _).alloc _) u
                exact ⟨u.heap (by rw [hW3]; exact heap_alloc_new w2 _), StL.up HS.out u3, (HBx.out W (HU2.out.trans u3)).1, u3, HW0.out.1.trans (HU2.out.trans u3)⟩
              rw [← hW3]
              clear hW3 HS
              refine Calls.mono (cpSL _ s W3 (HX.out W3 (Up.refl _)).2.1 HSm.out.1) ?_
              rintro e w4 ⟨v4, rfl, hv4, u4⟩
              have HV4 : Hid (StL w4 v4 s) := hv4
              have HU4 : Hid (Up W3 w4) := u4
              clear hv4 u4
              go_wp2_with fail
              refine Calls.mono (HCk.out _ _ HV4.out) ?_
              rintro e w5 ⟨rfl, u5⟩
              have HU5 : Hid (Up W3 w5) := HU4.out.trans u5
              obtain ⟨hk, -, y0, -, -⟩ := HX.out w5 HU5.out
              obtain ⟨x0, x1, x2, x3, x4, x5, x6⟩ := seven_cells hk
              clear hk u5 HV4 HU4
              go_wp2_with fail
              go_loopw [11, 12, 13, 14] (fun s11 s12 s13 s14 W => ∃ j : Nat, j ≤ m ∧ s11 = .int .i64 j ∧ Up W3 W) (fun s11 _ _ _ _ => m - (intOf s11).toNat)
              case atStart => exact ⟨0, Nat.zero_le _, rfl, HU5.out⟩
              case round =>
                clear HU5 x0 x1 x2 x3 x4 x5 x6 y0
                obtain ⟨j, hj, rfl, hu⟩ := hrel
                have HU : Hid (Up W3 wr) := hu
                obtain ⟨hk, -, y0, -, -⟩ := HX.out wr hu
                obtain ⟨x0, x1, x2, x3, x4, x5, x6⟩ := seven_cells hk
                clear hk hu
                by_cases hlt3 : j < m
                · have hlt4 : (j : Int) < (m : Int) := by omega
                  obtain ⟨z, q, hwv, hz4, how⟩ := HWh.out j hlt3
                  have HWw : Hid (∀ W v, StL W v s → Calls Try.prog 15 #[v, .int .i64 (j : Int)] W fun e w' => e = .returned (.tuple #[.int .i64 (4 * (z : Int)), .int .i64 (q : Int), .bool true]) ∧ Up W w') := fun W v h => by rw [← hwv]; exact where_ v s j W h HSm.out.1
                  obtain ⟨bc, oc, rfl, hown⟩ := HOw.out j hlt3
                  rw [how] at hown
                  have HOwn : Hid _ := hown
                  clear hwv hown how
                  go_wp2_with fail
                  refine Calls.mono (cpSL _ s wr (HX.out wr HU.out).2.1 HSm.out.1) ?_
                  rintro e w6 ⟨v6, rfl, hv6, u6⟩
                  have HV6 : Hid (StL w6 v6 s) := hv6
                  have HU6 : Hid (Up W3 w6) := HU.out.trans u6
                  clear hv6 u6
                  go_wp2_with fail
                  refine Calls.mono (HWw.out _ _ HV6.out) ?_
                  rintro e w7 ⟨rfl, u7⟩
                  have HU7 : Hid (Up W3 w7) := HU6.out.trans u7
                  clear u7 HU6 HV6 x0 x1 x2 x3 x4 x5 x6 y0 HU
                  obtain ⟨hk, -, y0, u9, -⟩ := HX.out w7 HU7.out
                  obtain ⟨x0, x1, x2, x3, x4, x5, x6⟩ := seven_cells hk
                  have y9 := HOwn.out w7 u9
                  clear hk u9
                  go_wp2_with fail
                  go_roundw
                  case rel => exact ⟨j + 1, by omega, by go_num, HU7.out⟩
                  case measure => simp [intOf]; omega
                · have hlt4 : ¬ (j : Int) < (m : Int) := by omega
                  go_wp2_with fail
                  refine Calls.mono (cpSL _ s wr (HX.out wr HU.out).2.1 HSm.out.1) ?_
                  rintro e w6 ⟨v6, rfl, hv6, u6⟩
                  have HV6 : Hid (StL w6 v6 s) := hv6
                  have HU6 : Hid (Up W3 w6) := HU.out.trans u6
                  clear hv6 u6 HU x0 x1 x2 x3 x4 x5 x6 y0
                  go_wp2_with fail
                  refine Calls.mono (copy_ _ s w6 HV6.out HSm.out.1) ?_
                  rintro e w7 ⟨v7, rfl, hso, u7⟩
                  have HU7 : Hid (Up W3 w7) := HU6.out.trans u7
                  have HS7 : Hid (StL w7 v7 s) := hso.sl
                  obtain ⟨xp, xc, xz, rfl, hx1, hx2, ⟨zvs, hx3, -⟩⟩ := hso
                  obtain ⟨va1, vk1, rfl⟩ := row_val hx1
                  obtain ⟨va2, vk2, rfl⟩ := row_val hx2
                  obtain ⟨va3, vk3, rfl⟩ := row_val hx3
                  clear hx1 hx2 hx3 u7 HU6 HV6
                  unfold sv at HS7 ⊢
                  generalize s.ps.length = p1 at HS7 ⊢
                  generalize s.cs.length = p2 at HS7 ⊢
                  generalize s.zs.length = p3 at HS7 ⊢
                  generalize s.turn = tu' at HS7 ⊢
                  generalize s.whose = wo' at HS7 ⊢
                  generalize s.fin = fi' at HS7 ⊢
                  generalize s.winner = wi' at HS7 ⊢
                  go_wp2_with fail
                  obtain ⟨W8, hW8⟩ : ∃ W, W = w7.alloc (.cells #[.slice va1 p1 vk1, .slice va2 p2 vk2, .slice va3 p3 vk3, .int .i32 tu', .int .i64 wo', .int .i8 fi', .int .i64 wi'] 27) := ⟨_, rfl⟩
                  have HC8 : Hid (∀ W, Up W8 W → W.heap[w7.heap.size]? = some (.cells #[.slice va1 p1 vk1, .slice va2 p2 vk2, .slice va3 p3 vk3, .int .i32 tu', .int .i64 wo', .int .i8 fi', .int .i64 wi'] 27 (0, 0)) ∧ StL W (.agg #[.slice va1 p1 vk1, .slice va2 p2 vk2, .slice va3 p3 vk3, .int .i32 tu', .int .i64 wo', .int .i8 fi', .int .i64 wi']) s ∧ Up W3 W) := fun W u => by
                    have u3 : Up w7 W := Up.trans (by rw [hW8]; exact (Up.refl _).alloc _) u
                    exact ⟨u.heap (by rw [hW8]; exact heap_alloc_new w7 _), StL.up HS7.out u3, HU7.out.trans u3⟩
                  rw [← hW8]
                  clear hW8 HS7 HU7
                  refine Calls.mono (cpSL _ s W8 (HC8.out W8 (Up.refl _)).2.1 HSm.out.1) ?_
                  rintro e w9 ⟨v9, rfl, hv9, u9⟩
                  have HV9 : Hid (StL w9 v9 s) := hv9
                  have HU9 : Hid (Up W8 w9) := u9
                  clear hv9 u9
                  go_wp2_with fail
                  refine Calls.mono (HCk.out _ _ HV9.out) ?_
                  rintro e w10 ⟨rfl, u10⟩
                  have HU10 : Hid (Up W8 w10) := HU9.out.trans u10
                  obtain ⟨hk, -, hu3⟩ := HC8.out w10 HU10.out
                  obtain ⟨y0, y1, y2, y3, y4, y5, y6⟩ := seven_cells hk
                  obtain ⟨hk2, -, -, -, -⟩ := HX.out w10 hu3
                  obtain ⟨x0, x1, x2, x3, x4, x5, x6⟩ := seven_cells hk2
                  clear hk hk2 hu3 u10 HV9 HU9
                  go_wp2_with fail
                  refine Calls.mono (same_ _ _ s s w10 (HC8.out w10 HU10.out).2.1 (HX.out w10 (HC8.out w10 HU10.out).2.2).2.1 HSm.out.1) ?_
                  rintro e w11 ⟨rfl, u11⟩
                  rw [show samB s s = true by simp [samB, hdB]]
                  have HU11 : Hid (Up w w11) := (HX.out w10 (HC8.out w10 HU10.out).2.2).2.2.2.2.trans u11
                  clear u11 HU10 x0 x1 x2 x3 x4 x5 x6 y0 y1 y2 y3 y4 y5 y6
                  go_wp2_with fail
                  refine Calls.mono (works_ w11) ?_
                  rintro e w12 ⟨rfl, u12⟩
                  have HU12 : Hid (Up w w12) := HU11.out.trans u12
                  clear u12 HU11
                  go_wp2
                  rw [HP.out]
                  exact ⟨rfl, HU12.out⟩
end ST
end Go.Proofs.Ytndkpfkgcaebmaa
