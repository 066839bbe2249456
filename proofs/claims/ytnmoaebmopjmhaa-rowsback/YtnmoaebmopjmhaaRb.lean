/-
  RowsBack: the law's walk.
-/
import Derived.Test.YtnmoaebmopjmhaaPc
import Derived.Test.YtnmoaebmopjmhaaTc
import Derived.Test.YtnmoaebmopjmhaaBkB
import Derived.Test.YtnmoaebmopjmhaaWorks
namespace Go.Proofs.Ytnmoaebmopjmhaa
open Go.RowKit
attribute [local go_sem ↓] Go.wp_at_zero Go.wp_at_succ

namespace PR
open IN AP CU OD
set_option maxRecDepth 100000 in
set_option maxHeartbeats 8000000 in
theorem backMain (v u : Value) (ps : List PX) (zs : List Int) (at_ : Int) (x : PX) (w : World) (hv : PL w v ps) (hu : LiesI w u zs) (hn : ps.length ≤ 140737488355328) (hm : zs.length ≤ 140737488355328) :
    Calls Try.prog 7 #[v, .int .i64 at_, .agg #[.int .i8 x.1, .string x.2], u] w fun e w' => e = .returned (.bool true) ∧ Up w w' := by
  obtain ⟨Post, hPost⟩ : ∃ P : Ending → World → Prop, P = fun e w' => e = .returned (.bool true) ∧ Up w w' := ⟨_, rfl⟩
  rw [← hPost]
  have HP : Hid (Post = fun e w' => e = .returned (.bool true) ∧ Up w w') := hPost
  have HPs : Hid (∀ W, Up w W → PL W v ps) := fun W uw => hv.up uw
  have HZs : Hid (∀ W, Up w W → LiesI W u zs) := fun W uw => hu.up uw
  obtain ⟨a1, k1, hve, hk1, h1⟩ := pl_at hv
  obtain ⟨a2, k2, hue, h2⟩ := lies_at hu
  obtain ⟨n, hn0⟩ : ∃ n, n = ps.length := ⟨_, rfl⟩
  obtain ⟨nz, hz0⟩ : ∃ n, n = zs.length := ⟨_, rfl⟩
  rw [← hn0] at hn hve hk1 h1
  rw [← hz0] at hm hue
  subst hve hue
  have HN : Hid (n = ps.length ∧ nz = zs.length) := ⟨hn0, hz0⟩
  clear hPost hv hu h1 h2 hn0 hz0
  obtain ⟨W0, hW0⟩ : ∃ W, W = w.alloc (.cells #[.int .i8 x.1, .string x.2] 82) := ⟨_, rfl⟩
  have HW0 : Hid (Up w W0 ∧ W0.heap[w.heap.size]? = some (.cells #[.int .i8 x.1, .string x.2] 82 (0, 0))) := ⟨by rw [hW0]; exact (Up.refl _).alloc _, by rw [hW0]; exact heap_alloc_new w _⟩
  have HX : Hid (∀ W, Up W0 W → W.cell? ⟨w.heap.size, 0, none⟩ = some (.int .i8 x.1) ∧ W.cell? ⟨w.heap.size, 1, none⟩ = some (.string x.2)) := fun W uw => by
    have h := uw.heap HW0.out.2
    exact ⟨by simp [World.cell?, h], by simp [World.cell?, h]⟩
  by_cases hlong : 4096 < n + nz
  · have hlong2 : (4096 : Int) < (n : Int) + (nz : Int) := by omega
    go_enter Try.func7, Try.ntmps7
    go_wp2_with fail
    rw [← hW0]
    refine Calls.mono (works W0) ?_
    rintro e w1 ⟨rfl, u1⟩
    have HU1 : Hid (Up w w1) := HW0.out.1.trans u1
    clear u1
    go_wp2
    rw [HP.out]
    exact ⟨rfl, HU1.out⟩
  · have hlong2 : ¬ (4096 : Int) < (n : Int) + (nz : Int) := by omega
    have HNn : Hid (n = ps.length ∧ nz = zs.length ∧ n ≤ 4096 ∧ nz ≤ 4096) := ⟨HN.out.1, HN.out.2, by omega, by omega⟩
    have hn9 : n ≤ 4096 := by omega
    have hz9 : nz ≤ 4096 := by omega
    clear hlong HN
    by_cases hin : 0 ≤ at_ ∧ at_ ≤ (n : Int)
    · obtain ⟨k, hk⟩ : ∃ k : Nat, at_ = (k : Int) := ⟨at_.toNat, by omega⟩
      subst hk
      have hkn : k ≤ n := by omega
      have hkn2 : (k : Int) ≤ (n : Int) := by omega
      clear hin
      go_enter Try.func7, Try.ntmps7
      go_wp2_with fail
      rw [← hW0]
      clear hW0
      refine Calls.mono (works W0) ?_
      rintro e w1 ⟨rfl, u1⟩
      have HU1 : Hid (Up W0 w1) := u1
      obtain ⟨y0, y1⟩ := HX.out w1 u1
      clear u1
      go_wp2_with fail
      refine Calls.mono (put_ok _ _ _ ps k x w1 (HPs.out _ (HW0.out.1.trans HU1.out)) HNn.out.1 hkn hn9) ?_
      rintro e w2 ⟨g, rfl, hg, u2⟩
      have HG : Hid (w2.heap[g]? = some (.cells (pcs (putL ps k x)).toArray 82 (0, 0))) := hg
      have HU2 : Hid (Up W0 w2) := HU1.out.trans u2
      clear hg u2 HU1 y0 y1
      go_wp2_with fail
      refine Calls.mono (cut_ok g ps k x w2 HG.out HNn.out.1 hkn hn9) ?_
      rintro e w3 ⟨g2, rfl, hg2, u3⟩
      have HG2 : Hid (∀ W, Up w3 W → PL W (.slice (some ⟨g2, 0, none⟩) n n) ps) := fun W uw => pl_of (uw.heap hg2) HNn.out.1 (Nat.le_refl _)
      have HM : Hid (∀ W, Up w3 W → PL W (.slice (some ⟨g, 0, none⟩) (n + 1) (n + 1)) (putL ps k x)) := fun W uw => pl_of ((u3.trans uw).heap HG.out) (by rw [putL_len ps k x (by rw [← HNn.out.1]; exact hkn), HNn.out.1]) (Nat.le_refl _)
      have HU3 : Hid (Up W0 w3) := HU2.out.trans u3
      clear hg2 u3 HU2 HG
      obtain ⟨W4, hW4⟩ : ∃ W, W = w3.alloc (.cells #[.int .i8 x.1, .string x.2] 82) := ⟨_, rfl⟩
      have HW4 : Hid (Up w3 W4 ∧ W4.heap[w3.heap.size]? = some (.cells #[.int .i8 x.1, .string x.2] 82 (0, 0))) := ⟨by rw [hW4]; exact (Up.refl _).alloc _, by rw [hW4]; exact heap_alloc_new w3 _⟩
      obtain ⟨y0, y1⟩ := HX.out W4 (HU3.out.trans HW4.out.1)
      rw [hW4] at y0 y1
      go_wp2_with fail
      rw [← hW4]
      clear hW4 y0 y1
      obtain ⟨q, hq1, hq2, hq3, hq4⟩ := put_find ps k x (by rw [← HNn.out.1]; exact hkn)
      have hpl : (putL ps k x).length = n + 1 := by rw [putL_len ps k x (by rw [← HNn.out.1]; exact hkn), HNn.out.1]
      have HFd := findP_ _ (putL ps k x) x W4 (HM.out _ HW4.out.1) (by rw [hpl]; omega)
      rw [hq1] at HFd
      refine Calls.mono HFd ?_
      rintro e w5 ⟨rfl, u5⟩
      clear HFd
      have HU5 : Hid (Up w3 w5) := HW4.out.1.trans u5
      have hqn : q ≤ n := by omega
      have e1 : ∀ U : UW w5, U.W.cell? ⟨w.heap.size, 0, none⟩ = some (.int .i8 x.1) := fun U => (HX.out _ (HU3.out.trans (HU5.out.trans U.up))).1
      have e2 : ∀ U : UW w5, U.W.cell? ⟨w.heap.size, 1, none⟩ = some (.string x.2) := fun U => (HX.out _ (HU3.out.trans (HU5.out.trans U.up))).2
      have e3 : ∀ U : UW w5, U.W.cell? ⟨w3.heap.size, 0, none⟩ = some (.int .i8 x.1) := fun U => by have h := (u5.trans U.up).heap HW4.out.2; simp [World.cell?, h]
      have e4 : ∀ U : UW w5, U.W.cell? ⟨w3.heap.size, 1, none⟩ = some (.string x.2) := fun U => by have h := (u5.trans U.up).heap HW4.out.2; simp [World.cell?, h]
      obtain ⟨y, hy⟩ : ∃ y, y = (putL ps k x).getD q pdx := ⟨_, rfl⟩
      rw [← hy] at hq3
      have hcell : ∀ U : UW w5, U.W.cell? ⟨g, q * 2, none⟩ = some (.int .i8 y.1) ∧ U.W.cell? ⟨g, q * 2 + 1, none⟩ = some (.string y.2) := fun U => by
        obtain ⟨a, c, e, -, h⟩ := HM.out U.W (HU5.out.trans U.up)
        rw [hpl] at e h
        cases e
        obtain ⟨b, off, e, hc⟩ := h (by omega)
        cases e
        have := hc q (by omega)
        rw [← hy, Nat.zero_add] at this
        exact this
      have e5 : ∀ U : UW w5, U.W.cell? ⟨g, q * 2, none⟩ = some (.int .i8 y.1) := fun U => (hcell U).1
      have e6 : ∀ U : UW w5, U.W.cell? ⟨g, q * 2 + 1, none⟩ = some (.string y.2) := fun U => (hcell U).2
      have HQ1 : Hid (∀ U : UW w5, Calls Try.prog 43 #[.slice (some ⟨g2, 0, none⟩) n n, .slice a1 n k1] U.W (fun e w' => e = .returned (.bool true) ∧ ∃ V : UW w5, w' = V.W)) := fun U => (sameP_ _ _ ps U.W (HG2.out _ (HU5.out.trans U.up)) (HPs.out _ (HW0.out.1.trans (HU3.out.trans (HU5.out.trans U.up)))) (by rw [← HNn.out.1]; omega)).mono fun e w' ⟨he, m, hm⟩ => ⟨he, ⟨w', by rw [hm]; exact U.up.drewN m⟩, rfl⟩
      have HQ2 : Hid (∀ U : UW w5, Calls Try.prog 42 #[.slice (some ⟨g, 0, none⟩) q (n + 1), .agg #[.int .i8 x.1, .string x.2]] U.W (fun e w' => e = .returned (.int .i64 (-1)) ∧ ∃ V : UW w5, w' = V.W)) := fun U => by
        have h := findP_ _ ((putL ps k x).take q) x U.W (PL.take (HM.out _ (HU5.out.trans U.up)) (by omega)) (by rw [List.length_take, hpl]; omega)
        rw [List.length_take, hpl, Nat.min_eq_left (by omega), hq4] at h
        exact h.mono fun e w' ⟨he, uw⟩ => ⟨he, ⟨w', U.up.trans uw⟩, rfl⟩
      have ne : Nonempty (UW w5) := ⟨⟨w5, Up.refl _⟩⟩
      have hs1 := fun W => pairNeq' x W
      have hs2 := fun W => pairNeqF y x hq3 W
      have f1 : ¬ (q : Int) < 0 := by omega
      have f2 : ¬ (k : Int) < (q : Int) := by omega
      have f3 : (q : Int) < (n : Int) + 1 := by omega
      have f4 : (q : Int) ≤ (n : Int) + 1 := by omega
      have g1 : decide ((q : Int) < 0) = false := decide_eq_false f1
      have g2' : decide ((k : Int) < (q : Int)) = false := decide_eq_false f2
      have g3' : decide (k < q) = false := decide_eq_false (by omega)
      have g4' : decide (q ≤ k) = true := decide_eq_true (by omega)
      have HU6 : Hid (Up w w5) := HW0.out.1.trans (HU3.out.trans HU5.out)
      clear hcell hy hq1 hq2 hq3 hq4 hpl u5 HU5 HW4 HM HG2 HU3
      go_wp2_with fail
      refine TailR.wp_region_seqC 37 (fun w' => ∃ U : UW w5, w' = U.W) ⟨⟨_, (Up.refl _).drewN 1⟩, rfl⟩ (by kernel_rfl) (by kernel_rfl) ?_
      simp only [List.take_succ_cons, List.take_zero, List.drop_succ_cons, List.drop_zero]
      repeat (go_big_quiet_step (first | with_reducible exact HQ1.out _ | with_reducible exact HQ2.out _))
      refine wpQuiet_nil ?_
      intro _ hw'
      obtain ⟨U, hw''⟩ := hw'
      subst hw''
      have HU7 : Hid (Up w U.W) := HU6.out.trans U.up
      clear e1 e2 e3 e4 e5 e6 HQ1 HQ2 hs1 hs2 f1 f2 f3 f4 g1 g2' g3' g4' HU6
      go_wp2_with fail
      refine Calls.mono (orderP_ _ _ ps zs _ (HPs.out _ HU7.out) (HZs.out _ HU7.out) (by have := HNn.out; omega) (by have := HNn.out; omega)) ?_
      rintro e wo ⟨ov, rfl, hov, uo⟩
      have HUo : Hid (Up w wo) := Up.trans HU7.out uo
      have HOv : Hid (PL wo ov (ordLP ps zs)) := hov
      obtain ⟨oa, ok, rfl, -, -⟩ := pl_at hov
      clear hov uo HU7
      go_wp2_with fail
      refine Calls.mono (back_ _ zs _ (HZs.out _ HUo.out) (by have := HNn.out; omega)) ?_
      rintro e wb ⟨bv, rfl, hbv, ub⟩
      have HUb : Hid (Up w wb) := HUo.out.trans ub
      have HBv : Hid (LiesI wb bv ((bk zs).getD [])) := hbv.lies
      have HOb : Hid (PL wb (.slice oa (ordLP ps zs).length ok) (ordLP ps zs)) := PL.up HOv.out ub
      obtain ⟨ba, bk9, rfl, -⟩ := lies_at HBv.out
      clear hbv ub HUo HOv
      cases hB : bk zs with
      | none =>
        have HB0 : Hid (((bk zs).getD []).length = 0 ∧ (ordLP ps zs).length = 0 ∧ ordOkP ps zs = false ∧ (bk zs).isSome = false) := by
          refine ⟨by rw [hB]; rfl, by rw [ordLP, if_neg (by rw [hB]; simp)]; rfl, by rw [ordOkP, decide_eq_false (by rw [hB]; simp)], by rw [hB]; rfl⟩
        have HIs : Hid _ := is_ _ zs _ (HZs.out _ HUb.out) (by have := HNn.out; omega)
        rw [HB0.out.2.2.2] at HIs
        simp only [Option.getD_none, List.length_nil, Option.isSome_none]
        rw [HB0.out.2.1, HB0.out.2.2.1]
        clear hB HBv HOb HB0
        go_wp2_with fail
        refine Calls.mono HIs.out ?_
        rintro e w9 ⟨rfl, u9⟩
        have HU9 : Hid (Up w w9) := HUb.out.trans u9
        clear u9 HUb HIs
        go_wp2
        rw [HP.out]
        exact ⟨rfl, HU9.out⟩
      | some b =>
        have hbl : b.length = zs.length := by have := bk_len zs _ _ _ _ hB; simpa using this
        have HBk : Hid (bk b = some zs ∧ b.length = zs.length ∧ bk zs = some b) := ⟨bk_back zs b hB, hbl, hB⟩
        have HIs : Hid (∀ W, Up w W → Calls Try.prog 20 #[.slice a2 nz k2] W fun e w' => e = .returned (.bool true) ∧ Up W w') := fun W uw => by
          have := is_ (.slice a2 nz k2) zs W (HZs.out W uw) (by have := HNn.out; omega)
          rw [hB] at this
          exact this
        rw [hB] at HBv
        simp only [Option.getD_some, Option.isSome_some] at HBv ⊢
        have HOk : Hid (ordOkP ps zs = decide (zs.length = ps.length)) := by
          unfold Hid
          rw [ordOkP, hB]
          simp
        rw [HOk.out]
        clear hB hbl
        go_wp2_with fail
        refine Calls.mono (HIs.out _ HUb.out) ?_
        rintro e w9 ⟨rfl, u9⟩
        have HU9 : Hid (Up w w9) := HUb.out.trans u9
        have HB9 : Hid (LiesI w9 (.slice ba b.length bk9) b) := LiesI.up HBv.out u9
        have HO9 : Hid (PL w9 (.slice oa (ordLP ps zs).length ok) (ordLP ps zs)) := PL.up HOb.out u9
        clear u9 HUb HBv HOb HIs
        by_cases hl : nz = n
        · have HL : Hid (zs.length = ps.length) := by unfold Hid; rw [← HNn.out.2.1, ← HNn.out.1]; exact hl
          rw [decide_eq_true HL.out]
          have hl1 : ((nz : Int) == (n : Int)) = true := by rw [beq_iff_eq]; omega
          have HOl : Hid (ordLP ps zs = olP ps zs) := by unfold Hid; rw [ordLP, if_pos ⟨HL.out, by rw [HBk.out.2.2]; rfl⟩]
          rw [HOl.out] at HO9 ⊢
          rw [olP_len] at HO9 ⊢
          clear hl
          rw [HBk.out.2.1] at HB9 ⊢
          rw [← HNn.out.2.1] at HO9 HB9 ⊢
          go_wp2_with fail
          refine Calls.mono (back_ _ b _ HB9.out (by rw [HBk.out.2.1, ← HNn.out.2.1]; have := HNn.out; omega)) ?_
          rintro e wc ⟨cv, rfl, hcv, uc⟩
          rw [HBk.out.1] at hcv ⊢
          simp only [Option.getD_some, Option.isSome_some] at hcv ⊢
          have HCv : Hid (LiesI wc cv zs) := hcv.lies
          have HUc : Hid (Up w9 wc) := uc
          obtain ⟨ca, ck, rfl, -⟩ := lies_at HCv.out
          clear hcv uc
          rw [← HNn.out.2.1] at HCv ⊢
          go_wp2_with fail
          refine Calls.mono (same_ _ _ zs wc HCv.out (HZs.out _ (HU9.out.trans HUc.out)) (by rw [← HNn.out.2.1]; have := HNn.out; omega)) ?_
          rintro e wd ⟨rfl, md, hwd⟩
          have HUd : Hid (Up w9 wd) := by unfold Hid; rw [hwd]; exact HUc.out.drewN md
          clear hwd HUc HCv
          go_wp2_with fail
          refine Calls.mono (is_ _ b _ (LiesI.up HB9.out HUd.out) (by rw [HBk.out.2.1, ← HNn.out.2.1]; have := HNn.out; omega)) ?_
          rintro e we ⟨rfl, ue⟩
          rw [HBk.out.1]
          simp only [Option.isSome_some]
          have HUe : Hid (Up w9 we) := HUd.out.trans ue
          clear ue HUd
          go_wp2_with fail
          refine Calls.mono (orderP_ _ _ (olP ps zs) b _ (PL.up HO9.out HUe.out) (LiesI.up HB9.out HUe.out) (by rw [olP_len, ← HNn.out.2.1]; have := HNn.out; omega) (by rw [HBk.out.2.1, ← HNn.out.2.1]; have := HNn.out; omega)) ?_
          rintro e wf ⟨fv, rfl, hfv, uf⟩
          have HF9 : Hid (ordOkP (olP ps zs) b = true ∧ ordLP (olP ps zs) b = ps) := by
            have hc : b.length = (olP ps zs).length ∧ (bk b).isSome = true := ⟨by rw [olP_len]; exact HBk.out.2.1, by rw [HBk.out.1]; rfl⟩
            exact ⟨by rw [ordOkP, decide_eq_true hc], by rw [ordLP, if_pos hc]; exact ol_back ps zs b HBk.out.2.2 HL.out⟩
          rw [HF9.out.2] at hfv
          rw [HF9.out.1]
          have HFv : Hid (PL wf fv ps) := hfv
          obtain ⟨fa, fk, rfl, -, -⟩ := pl_at hfv
          have HUf : Hid (Up w wf) := HU9.out.trans (HUe.out.trans uf)
          clear hfv uf HF9 HUe
          go_wp2_with fail
          refine Calls.mono (sameP_ _ _ ps wf HFv.out (HPs.out _ HUf.out) (by rw [← HNn.out.1]; have := HNn.out; omega)) ?_
          rintro e wg ⟨rfl, mg, hwg⟩
          have HUg : Hid (Up w wg) := by unfold Hid; rw [hwg]; exact HUf.out.drewN mg
          clear hwg HUf HFv
          go_wp2
          rw [HP.out]
          exact ⟨rfl, HUg.out⟩
        · have hl9 : ¬ zs.length = ps.length := by rw [← HNn.out.2.1, ← HNn.out.1]; exact hl
          rw [decide_eq_false hl9]
          have hl1 : ((nz : Int) == (n : Int)) = false := beq_eq_false_iff_ne.2 (by omega)
          have HOl : Hid ((ordLP ps zs).length = 0) := by unfold Hid; rw [ordLP, if_neg (fun h => hl9 h.1)]; rfl
          rw [HOl.out]
          clear hl9 hl HO9
          rw [HBk.out.2.1] at HB9 ⊢
          rw [← HNn.out.2.1] at HB9 ⊢
          go_wp2_with fail
          refine Calls.mono (back_ _ b _ HB9.out (by rw [HBk.out.2.1, ← HNn.out.2.1]; have := HNn.out; omega)) ?_
          rintro e wc ⟨cv, rfl, hcv, uc⟩
          rw [HBk.out.1] at hcv ⊢
          simp only [Option.getD_some, Option.isSome_some] at hcv ⊢
          have HCv : Hid (LiesI wc cv zs) := hcv.lies
          have HUc : Hid (Up w9 wc) := uc
          obtain ⟨ca, ck, rfl, -⟩ := lies_at HCv.out
          clear hcv uc
          rw [← HNn.out.2.1] at HCv ⊢
          go_wp2_with fail
          refine Calls.mono (same_ _ _ zs wc HCv.out (HZs.out _ (HU9.out.trans HUc.out)) (by rw [← HNn.out.2.1]; have := HNn.out; omega)) ?_
          rintro e wd ⟨rfl, md, hwd⟩
          have HUd : Hid (Up w9 wd) := by unfold Hid; rw [hwd]; exact HUc.out.drewN md
          clear hwd HUc HCv
          go_wp2_with fail
          refine Calls.mono (is_ _ b _ (LiesI.up HB9.out HUd.out) (by rw [HBk.out.2.1, ← HNn.out.2.1]; have := HNn.out; omega)) ?_
          rintro e we ⟨rfl, ue⟩
          rw [HBk.out.1]
          simp only [Option.isSome_some]
          have HUe : Hid (Up w we) := HU9.out.trans (HUd.out.trans ue)
          clear ue HUd
          go_wp2
          rw [HP.out]
          exact ⟨rfl, HUe.out⟩
    · go_enter Try.func7, Try.ntmps7
      go_wp2_with fail
      rw [← hW0]
      clear hW0
      refine Calls.mono (works W0) ?_
      rintro e w1 ⟨rfl, u1⟩
      have HU1 : Hid (Up W0 w1) := u1
      obtain ⟨y0, y1⟩ := HX.out w1 u1
      clear u1
      go_wp2_with fail
      refine Calls.mono (putP_bad _ _ _ _ x w1 (by omega)) ?_
      rintro e w2 ⟨rfl, u2⟩
      have HU7 : Hid (Up w w2) := HW0.out.1.trans (HU1.out.trans u2)
      clear u2 HU1 y0 y1
      by_cases h0 : 0 ≤ at_
      · have h3 : ¬ at_ ≤ (n : Int) := by omega
        clear hin
        go_wp2_with fail
        refine Calls.mono (orderP_ _ _ ps zs _ (HPs.out _ HU7.out) (HZs.out _ HU7.out) (by have := HNn.out; omega) (by have := HNn.out; omega)) ?_
        rintro e wo ⟨ov, rfl, hov, uo⟩
        have HUo : Hid (Up w wo) := Up.trans HU7.out uo
        have HOv : Hid (PL wo ov (ordLP ps zs)) := hov
        obtain ⟨oa, ok, rfl, -, -⟩ := pl_at hov
        clear hov uo HU7
        go_wp2_with fail
        refine Calls.mono (back_ _ zs _ (HZs.out _ HUo.out) (by have := HNn.out; omega)) ?_
        rintro e wb ⟨bv, rfl, hbv, ub⟩
        have HUb : Hid (Up w wb) := HUo.out.trans ub
        have HBv : Hid (LiesI wb bv ((bk zs).getD [])) := hbv.lies
        have HOb : Hid (PL wb (.slice oa (ordLP ps zs).length ok) (ordLP ps zs)) := PL.up HOv.out ub
        obtain ⟨ba, bk9, rfl, -⟩ := lies_at HBv.out
        clear hbv ub HUo HOv
        cases hB : bk zs with
        | none =>
          have HB0 : Hid (((bk zs).getD []).length = 0 ∧ (ordLP ps zs).length = 0 ∧ ordOkP ps zs = false ∧ (bk zs).isSome = false) := by
            refine ⟨by rw [hB]; rfl, by rw [ordLP, if_neg (by rw [hB]; simp)]; rfl, by rw [ordOkP, decide_eq_false (by rw [hB]; simp)], by rw [hB]; rfl⟩
          have HIs : Hid _ := is_ _ zs _ (HZs.out _ HUb.out) (by have := HNn.out; omega)
          rw [HB0.out.2.2.2] at HIs
          simp only [Option.getD_none, List.length_nil, Option.isSome_none]
          rw [HB0.out.2.1, HB0.out.2.2.1]
          clear hB HBv HOb HB0
          go_wp2_with fail
          refine Calls.mono HIs.out ?_
          rintro e w9 ⟨rfl, u9⟩
          have HU9 : Hid (Up w w9) := HUb.out.trans u9
          clear u9 HUb HIs
          go_wp2
          rw [HP.out]
          exact ⟨rfl, HU9.out⟩
        | some b =>
          have hbl : b.length = zs.length := by have := bk_len zs _ _ _ _ hB; simpa using this
          have HBk : Hid (bk b = some zs ∧ b.length = zs.length ∧ bk zs = some b) := ⟨bk_back zs b hB, hbl, hB⟩
          have HIs : Hid (∀ W, Up w W → Calls Try.prog 20 #[.slice a2 nz k2] W fun e w' => e = .returned (.bool true) ∧ Up W w') := fun W uw => by
            have := is_ (.slice a2 nz k2) zs W (HZs.out W uw) (by have := HNn.out; omega)
            rw [hB] at this
            exact this
          rw [hB] at HBv
          simp only [Option.getD_some, Option.isSome_some] at HBv ⊢
          have HOk : Hid (ordOkP ps zs = decide (zs.length = ps.length)) := by
            unfold Hid
            rw [ordOkP, hB]
            simp
          rw [HOk.out]
          clear hB hbl
          go_wp2_with fail
          refine Calls.mono (HIs.out _ HUb.out) ?_
          rintro e w9 ⟨rfl, u9⟩
          have HU9 : Hid (Up w w9) := HUb.out.trans u9
          have HB9 : Hid (LiesI w9 (.slice ba b.length bk9) b) := LiesI.up HBv.out u9
          have HO9 : Hid (PL w9 (.slice oa (ordLP ps zs).length ok) (ordLP ps zs)) := PL.up HOb.out u9
          clear u9 HUb HBv HOb HIs
          by_cases hl : nz = n
          · have HL : Hid (zs.length = ps.length) := by unfold Hid; rw [← HNn.out.2.1, ← HNn.out.1]; exact hl
            rw [decide_eq_true HL.out]
            have hl1 : ((nz : Int) == (n : Int)) = true := by rw [beq_iff_eq]; omega
            have HOl : Hid (ordLP ps zs = olP ps zs) := by unfold Hid; rw [ordLP, if_pos ⟨HL.out, by rw [HBk.out.2.2]; rfl⟩]
            rw [HOl.out] at HO9 ⊢
            rw [olP_len] at HO9 ⊢
            clear hl
            rw [HBk.out.2.1] at HB9 ⊢
            rw [← HNn.out.2.1] at HO9 HB9 ⊢
            go_wp2_with fail
            refine Calls.mono (back_ _ b _ HB9.out (by rw [HBk.out.2.1, ← HNn.out.2.1]; have := HNn.out; omega)) ?_
            rintro e wc ⟨cv, rfl, hcv, uc⟩
            rw [HBk.out.1] at hcv ⊢
            simp only [Option.getD_some, Option.isSome_some] at hcv ⊢
            have HCv : Hid (LiesI wc cv zs) := hcv.lies
            have HUc : Hid (Up w9 wc) := uc
            obtain ⟨ca, ck, rfl, -⟩ := lies_at HCv.out
            clear hcv uc
            rw [← HNn.out.2.1] at HCv ⊢
            go_wp2_with fail
            refine Calls.mono (same_ _ _ zs wc HCv.out (HZs.out _ (HU9.out.trans HUc.out)) (by rw [← HNn.out.2.1]; have := HNn.out; omega)) ?_
            rintro e wd ⟨rfl, md, hwd⟩
            have HUd : Hid (Up w9 wd) := by unfold Hid; rw [hwd]; exact HUc.out.drewN md
            clear hwd HUc HCv
            go_wp2_with fail
            refine Calls.mono (is_ _ b _ (LiesI.up HB9.out HUd.out) (by rw [HBk.out.2.1, ← HNn.out.2.1]; have := HNn.out; omega)) ?_
            rintro e we ⟨rfl, ue⟩
            rw [HBk.out.1]
            simp only [Option.isSome_some]
            have HUe : Hid (Up w9 we) := HUd.out.trans ue
            clear ue HUd
            go_wp2_with fail
            refine Calls.mono (orderP_ _ _ (olP ps zs) b _ (PL.up HO9.out HUe.out) (LiesI.up HB9.out HUe.out) (by rw [olP_len, ← HNn.out.2.1]; have := HNn.out; omega) (by rw [HBk.out.2.1, ← HNn.out.2.1]; have := HNn.out; omega)) ?_
            rintro e wf ⟨fv, rfl, hfv, uf⟩
            have HF9 : Hid (ordOkP (olP ps zs) b = true ∧ ordLP (olP ps zs) b = ps) := by
              have hc : b.length = (olP ps zs).length ∧ (bk b).isSome = true := ⟨by rw [olP_len]; exact HBk.out.2.1, by rw [HBk.out.1]; rfl⟩
              exact ⟨by rw [ordOkP, decide_eq_true hc], by rw [ordLP, if_pos hc]; exact ol_back ps zs b HBk.out.2.2 HL.out⟩
            rw [HF9.out.2] at hfv
            rw [HF9.out.1]
            have HFv : Hid (PL wf fv ps) := hfv
            obtain ⟨fa, fk, rfl, -, -⟩ := pl_at hfv
            have HUf : Hid (Up w wf) := HU9.out.trans (HUe.out.trans uf)
            clear hfv uf HF9 HUe
            go_wp2_with fail
            refine Calls.mono (sameP_ _ _ ps wf HFv.out (HPs.out _ HUf.out) (by rw [← HNn.out.1]; have := HNn.out; omega)) ?_
            rintro e wg ⟨rfl, mg, hwg⟩
            have HUg : Hid (Up w wg) := by unfold Hid; rw [hwg]; exact HUf.out.drewN mg
            clear hwg HUf HFv
            go_wp2
            rw [HP.out]
            exact ⟨rfl, HUg.out⟩
          · have hl9 : ¬ zs.length = ps.length := by rw [← HNn.out.2.1, ← HNn.out.1]; exact hl
            rw [decide_eq_false hl9]
            have hl1 : ((nz : Int) == (n : Int)) = false := beq_eq_false_iff_ne.2 (by omega)
            have HOl : Hid ((ordLP ps zs).length = 0) := by unfold Hid; rw [ordLP, if_neg (fun h => hl9 h.1)]; rfl
            rw [HOl.out]
            clear hl9 hl HO9
            rw [HBk.out.2.1] at HB9 ⊢
            rw [← HNn.out.2.1] at HB9 ⊢
            go_wp2_with fail
            refine Calls.mono (back_ _ b _ HB9.out (by rw [HBk.out.2.1, ← HNn.out.2.1]; have := HNn.out; omega)) ?_
            rintro e wc ⟨cv, rfl, hcv, uc⟩
            rw [HBk.out.1] at hcv ⊢
            simp only [Option.getD_some, Option.isSome_some] at hcv ⊢
            have HCv : Hid (LiesI wc cv zs) := hcv.lies
            have HUc : Hid (Up w9 wc) := uc
            obtain ⟨ca, ck, rfl, -⟩ := lies_at HCv.out
            clear hcv uc
            rw [← HNn.out.2.1] at HCv ⊢
            go_wp2_with fail
            refine Calls.mono (same_ _ _ zs wc HCv.out (HZs.out _ (HU9.out.trans HUc.out)) (by rw [← HNn.out.2.1]; have := HNn.out; omega)) ?_
            rintro e wd ⟨rfl, md, hwd⟩
            have HUd : Hid (Up w9 wd) := by unfold Hid; rw [hwd]; exact HUc.out.drewN md
            clear hwd HUc HCv
            go_wp2_with fail
            refine Calls.mono (is_ _ b _ (LiesI.up HB9.out HUd.out) (by rw [HBk.out.2.1, ← HNn.out.2.1]; have := HNn.out; omega)) ?_
            rintro e we ⟨rfl, ue⟩
            rw [HBk.out.1]
            simp only [Option.isSome_some]
            have HUe : Hid (Up w we) := HU9.out.trans (HUd.out.trans ue)
            clear ue HUd
            go_wp2
            rw [HP.out]
            exact ⟨rfl, HUe.out⟩
      · have h0' : ¬ (0 : Int) ≤ at_ := h0
        clear hin
        go_wp2_with fail
        refine Calls.mono (orderP_ _ _ ps zs _ (HPs.out _ HU7.out) (HZs.out _ HU7.out) (by have := HNn.out; omega) (by have := HNn.out; omega)) ?_
        rintro e wo ⟨ov, rfl, hov, uo⟩
        have HUo : Hid (Up w wo) := Up.trans HU7.out uo
        have HOv : Hid (PL wo ov (ordLP ps zs)) := hov
        obtain ⟨oa, ok, rfl, -, -⟩ := pl_at hov
        clear hov uo HU7
        go_wp2_with fail
        refine Calls.mono (back_ _ zs _ (HZs.out _ HUo.out) (by have := HNn.out; omega)) ?_
        rintro e wb ⟨bv, rfl, hbv, ub⟩
        have HUb : Hid (Up w wb) := HUo.out.trans ub
        have HBv : Hid (LiesI wb bv ((bk zs).getD [])) := hbv.lies
        have HOb : Hid (PL wb (.slice oa (ordLP ps zs).length ok) (ordLP ps zs)) := PL.up HOv.out ub
        obtain ⟨ba, bk9, rfl, -⟩ := lies_at HBv.out
        clear hbv ub HUo HOv
        cases hB : bk zs with
        | none =>
          have HB0 : Hid (((bk zs).getD []).length = 0 ∧ (ordLP ps zs).length = 0 ∧ ordOkP ps zs = false ∧ (bk zs).isSome = false) := by
            refine ⟨by rw [hB]; rfl, by rw [ordLP, if_neg (by rw [hB]; simp)]; rfl, by rw [ordOkP, decide_eq_false (by rw [hB]; simp)], by rw [hB]; rfl⟩
          have HIs : Hid _ := is_ _ zs _ (HZs.out _ HUb.out) (by have := HNn.out; omega)
          rw [HB0.out.2.2.2] at HIs
          simp only [Option.getD_none, List.length_nil, Option.isSome_none]
          rw [HB0.out.2.1, HB0.out.2.2.1]
          clear hB HBv HOb HB0
          go_wp2_with fail
          refine Calls.mono HIs.out ?_
          rintro e w9 ⟨rfl, u9⟩
          have HU9 : Hid (Up w w9) := HUb.out.trans u9
          clear u9 HUb HIs
          go_wp2
          rw [HP.out]
          exact ⟨rfl, HU9.out⟩
        | some b =>
          have hbl : b.length = zs.length := by have := bk_len zs _ _ _ _ hB; simpa using this
          have HBk : Hid (bk b = some zs ∧ b.length = zs.length ∧ bk zs = some b) := ⟨bk_back zs b hB, hbl, hB⟩
          have HIs : Hid (∀ W, Up w W → Calls Try.prog 20 #[.slice a2 nz k2] W fun e w' => e = .returned (.bool true) ∧ Up W w') := fun W uw => by
            have := is_ (.slice a2 nz k2) zs W (HZs.out W uw) (by have := HNn.out; omega)
            rw [hB] at this
            exact this
          rw [hB] at HBv
          simp only [Option.getD_some, Option.isSome_some] at HBv ⊢
          have HOk : Hid (ordOkP ps zs = decide (zs.length = ps.length)) := by
            unfold Hid
            rw [ordOkP, hB]
            simp
          rw [HOk.out]
          clear hB hbl
          go_wp2_with fail
          refine Calls.mono (HIs.out _ HUb.out) ?_
          rintro e w9 ⟨rfl, u9⟩
          have HU9 : Hid (Up w w9) := HUb.out.trans u9
          have HB9 : Hid (LiesI w9 (.slice ba b.length bk9) b) := LiesI.up HBv.out u9
          have HO9 : Hid (PL w9 (.slice oa (ordLP ps zs).length ok) (ordLP ps zs)) := PL.up HOb.out u9
          clear u9 HUb HBv HOb HIs
          by_cases hl : nz = n
          · have HL : Hid (zs.length = ps.length) := by unfold Hid; rw [← HNn.out.2.1, ← HNn.out.1]; exact hl
            rw [decide_eq_true HL.out]
            have hl1 : ((nz : Int) == (n : Int)) = true := by rw [beq_iff_eq]; omega
            have HOl : Hid (ordLP ps zs = olP ps zs) := by unfold Hid; rw [ordLP, if_pos ⟨HL.out, by rw [HBk.out.2.2]; rfl⟩]
            rw [HOl.out] at HO9 ⊢
            rw [olP_len] at HO9 ⊢
            clear hl
            rw [HBk.out.2.1] at HB9 ⊢
            rw [← HNn.out.2.1] at HO9 HB9 ⊢
            go_wp2_with fail
            refine Calls.mono (back_ _ b _ HB9.out (by rw [HBk.out.2.1, ← HNn.out.2.1]; have := HNn.out; omega)) ?_
            rintro e wc ⟨cv, rfl, hcv, uc⟩
            rw [HBk.out.1] at hcv ⊢
            simp only [Option.getD_some, Option.isSome_some] at hcv ⊢
            have HCv : Hid (LiesI wc cv zs) := hcv.lies
            have HUc : Hid (Up w9 wc) := uc
            obtain ⟨ca, ck, rfl, -⟩ := lies_at HCv.out
            clear hcv uc
            rw [← HNn.out.2.1] at HCv ⊢
            go_wp2_with fail
            refine Calls.mono (same_ _ _ zs wc HCv.out (HZs.out _ (HU9.out.trans HUc.out)) (by rw [← HNn.out.2.1]; have := HNn.out; omega)) ?_
            rintro e wd ⟨rfl, md, hwd⟩
            have HUd : Hid (Up w9 wd) := by unfold Hid; rw [hwd]; exact HUc.out.drewN md
            clear hwd HUc HCv
            go_wp2_with fail
            refine Calls.mono (is_ _ b _ (LiesI.up HB9.out HUd.out) (by rw [HBk.out.2.1, ← HNn.out.2.1]; have := HNn.out; omega)) ?_
            rintro e we ⟨rfl, ue⟩
            rw [HBk.out.1]
            simp only [Option.isSome_some]
            have HUe : Hid (Up w9 we) := HUd.out.trans ue
            clear ue HUd
            go_wp2_with fail
            refine Calls.mono (orderP_ _ _ (olP ps zs) b _ (PL.up HO9.out HUe.out) (LiesI.up HB9.out HUe.out) (by rw [olP_len, ← HNn.out.2.1]; have := HNn.out; omega) (by rw [HBk.out.2.1, ← HNn.out.2.1]; have := HNn.out; omega)) ?_
            rintro e wf ⟨fv, rfl, hfv, uf⟩
            have HF9 : Hid (ordOkP (olP ps zs) b = true ∧ ordLP (olP ps zs) b = ps) := by
              have hc : b.length = (olP ps zs).length ∧ (bk b).isSome = true := ⟨by rw [olP_len]; exact HBk.out.2.1, by rw [HBk.out.1]; rfl⟩
              exact ⟨by rw [ordOkP, decide_eq_true hc], by rw [ordLP, if_pos hc]; exact ol_back ps zs b HBk.out.2.2 HL.out⟩
            rw [HF9.out.2] at hfv
            rw [HF9.out.1]
            have HFv : Hid (PL wf fv ps) := hfv
            obtain ⟨fa, fk, rfl, -, -⟩ := pl_at hfv
            have HUf : Hid (Up w wf) := HU9.out.trans (HUe.out.trans uf)
            clear hfv uf HF9 HUe
            go_wp2_with fail
            refine Calls.mono (sameP_ _ _ ps wf HFv.out (HPs.out _ HUf.out) (by rw [← HNn.out.1]; have := HNn.out; omega)) ?_
            rintro e wg ⟨rfl, mg, hwg⟩
            have HUg : Hid (Up w wg) := by unfold Hid; rw [hwg]; exact HUf.out.drewN mg
            clear hwg HUf HFv
            go_wp2
            rw [HP.out]
            exact ⟨rfl, HUg.out⟩
          · have hl9 : ¬ zs.length = ps.length := by rw [← HNn.out.2.1, ← HNn.out.1]; exact hl
            rw [decide_eq_false hl9]
            have hl1 : ((nz : Int) == (n : Int)) = false := beq_eq_false_iff_ne.2 (by omega)
            have HOl : Hid ((ordLP ps zs).length = 0) := by unfold Hid; rw [ordLP, if_neg (fun h => hl9 h.1)]; rfl
            rw [HOl.out]
            clear hl9 hl HO9
            rw [HBk.out.2.1] at HB9 ⊢
            rw [← HNn.out.2.1] at HB9 ⊢
            go_wp2_with fail
            refine Calls.mono (back_ _ b _ HB9.out (by rw [HBk.out.2.1, ← HNn.out.2.1]; have := HNn.out; omega)) ?_
            rintro e wc ⟨cv, rfl, hcv, uc⟩
            rw [HBk.out.1] at hcv ⊢
            simp only [Option.getD_some, Option.isSome_some] at hcv ⊢
            have HCv : Hid (LiesI wc cv zs) := hcv.lies
            have HUc : Hid (Up w9 wc) := uc
            obtain ⟨ca, ck, rfl, -⟩ := lies_at HCv.out
            clear hcv uc
            rw [← HNn.out.2.1] at HCv ⊢
            go_wp2_with fail
            refine Calls.mono (same_ _ _ zs wc HCv.out (HZs.out _ (HU9.out.trans HUc.out)) (by rw [← HNn.out.2.1]; have := HNn.out; omega)) ?_
            rintro e wd ⟨rfl, md, hwd⟩
            have HUd : Hid (Up w9 wd) := by unfold Hid; rw [hwd]; exact HUc.out.drewN md
            clear hwd HUc HCv
            go_wp2_with fail
            refine Calls.mono (is_ _ b _ (LiesI.up HB9.out HUd.out) (by rw [HBk.out.2.1, ← HNn.out.2.1]; have := HNn.out; omega)) ?_
            rintro e we ⟨rfl, ue⟩
            rw [HBk.out.1]
            simp only [Option.isSome_some]
            have HUe : Hid (Up w we) := HU9.out.trans (HUd.out.trans ue)
            clear ue HUd
            go_wp2
            rw [HP.out]
            exact ⟨rfl, HUe.out⟩
end PR
end Go.Proofs.Ytnmoaebmopjmhaa
