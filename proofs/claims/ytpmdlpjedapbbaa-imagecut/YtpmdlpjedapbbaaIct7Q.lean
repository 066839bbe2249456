/-
  ImageCut: the law's walk.
-/
import Derived.Test.YtpmdlpjedapbbaaEgToOpenS
namespace Go.Proofs.Ytpmdlpjedapbbaa
open Go.RowKit
attribute [local go_sem ↓] Go.wp_at_zero Go.wp_at_succ

namespace IM
open Go.Proofs.Ytpmdlpjedapbbaa.ST
theorem de_cut {s : Stt} (h : ff s = none) (ht : R4 s.turn) {k : Nat} (hk : k < (img s).length) : deE ((img s).take k) = 12 ∧ ∃ p : Nat, deA ((img s).take k) = (p : Int) ∧ p ≤ k ∧ k ≤ p + 3 := by
  obtain ⟨r, h1, h2⟩ := dec_cut (rs_of h ht) k hk
  unfold deE deA
  rw [h1]
  refine ⟨rfl, ((img s).take k).length - r, rfl, ?_, ?_⟩
  · rw [List.length_take]; omega
  · rw [List.length_take]; omega
theorem de_more {s : Stt} (h : ff s = none) (ht : R4 s.turn) {l : List Int} (hl : l ≠ []) : deE (img s ++ l) = 12 ∧ deA (img s ++ l) = ((img s).length : Int) := by
  have h1 := dec_more (rs_of h ht) l hl
  unfold deE deA
  rw [h1]
  refine ⟨rfl, ?_⟩
  simp only [List.length_append]
  congr 1
  omega
theorem bl_take {W : World} {a : Option Addr} {n c : Nat} {B : List Int} (h : BL W (.slice a n c) B) {k : Nat} (hk : k ≤ B.length) : BL W (.slice a k c) (B.take k) := by
  obtain ⟨h1, a', c', h2, h3, h4⟩ := h
  cases h2
  have hl : (B.take k).length = k := by rw [List.length_take]; omega
  refine ⟨by simp [bvs], a, c, by rw [hl], by rw [hl]; omega, fun hn => ?_⟩
  obtain ⟨b, off, h5, h6⟩ := h4 (by omega)
  refine ⟨b, off, h5, fun j hj => ?_⟩
  rw [hl] at hj
  rw [h6 j (by omega), bvs_at (by omega), bvs_at (by rw [hl]; omega)]
  simp [List.getD, show j < k by omega]
theorem bts_bv {l : List Int} (hl : Byt l) : (bts l).map SM.bv = bvs l := by
  unfold bts bvs
  rw [List.map_map]
  refine List.map_congr_left fun z hz => ?_
  have := hl z hz
  show Value.int .u8 ((z.toNat : Nat) : Int) = _
  congr 1
  omega
theorem bl_cells {W : World} {v : Value} {B : List Int} (h : BL W v B) : ∃ a c, v = .slice a B.length c ∧ B.length ≤ c ∧ (B.length ≠ 0 → ∃ b off, a = some ⟨b, off, none⟩ ∧ ∀ W', Up W W' → ∀ j, j < B.length → W'.cell? ⟨b, off + j, none⟩ = (bvs B)[j]?) := by
  obtain ⟨-, a, c, h2, h3, h4⟩ := h
  refine ⟨a, c, h2, h3, fun hn => ?_⟩
  obtain ⟨b, off, h5, h6⟩ := h4 hn
  refine ⟨b, off, h5, fun W' u j hj => ?_⟩
  have h7 := h6 j (by omega)
  rw [bvs_at hj] at h7 ⊢
  exact u.cell h7
set_option maxRecDepth 100000 in
set_option maxHeartbeats 8000000 in
theorem icut (v : Value) (s : Stt) (c : Int) (vm : Value) (more : List Int) (w : World) (hv : StL w v s) (fs : Far s) (ts : R4 s.turn) (hm : BL w vm more) (hbm : Byt more) :
    Calls Try.prog 5 #[v, .int .i64 c, vm] w fun x w' => x = .returned (.bool true) ∧ Up w w' := by
  obtain ⟨Post, hPost⟩ : ∃ P : Ending → World → Prop, P = fun x w' => x = .returned (.bool true) ∧ Up w w' := ⟨_, rfl⟩
  rw [← hPost]
  have HPo : Hid (Post = fun x w' => x = .returned (.bool true) ∧ Up w w') := hPost
  clear hPost
  obtain ⟨i5, hi5, z0, z1, z2⟩ := info_parts SM.info5
  have HV : Hid (∀ W, Up w W → StL W v s) := fun W x => hv.up x
  obtain ⟨a1, k1, b1, l1, c1, m1, hvv⟩ := stl_val hv
  obtain ⟨ma, mc, hvm, hmc9, hmc⟩ := bl_cells hm
  obtain ⟨M, hM⟩ : ∃ M, M = more.length := ⟨_, rfl⟩
  rw [← hM] at hvm hmc9 hmc
  have HMC : Hid (M ≠ 0 → ∃ b off, ma = some ⟨b, off, none⟩ ∧ ∀ W', Up w W' → ∀ j, j < more.length → W'.cell? ⟨b, off + j, none⟩ = (bvs more)[j]?) := fun h => by
    obtain ⟨b, off, h1, h2⟩ := hmc h
    exact ⟨b, off, h1, fun W' u j hj => h2 W' u j (by omega)⟩
  have HBM : Hid (Byt more) := hbm
  have hls := szS_le fs
  have HSA : Hid (∀ W, Up w W → Calls Try.prog 7 #[v] W fun e w' => e = .returned (.int .i64 (szS s : Nat)) ∧ Up W w') := fun W x => sizeS_ _ s W (HV.out W x) fs
  have HSM : Hid (szS s ≤ 4194304 → Small s) := fun h => small_sz h
  have HMM : Hid (M = more.length) := hM
  obtain ⟨A, hA⟩ : ∃ A : Array Value, A = #[.slice a1 s.ps.length k1, .slice b1 s.cs.length l1, .slice c1 s.zs.length m1, .int .i32 s.turn, .int .i64 s.whose, .int .i8 s.fin, .int .i64 s.winner] := ⟨_, rfl⟩
  have hA1 : A.size = 7 := by rw [hA]; rfl
  rw [← hA] at hvv
  subst hvv hvm
  obtain ⟨W0, hW0⟩ : ∃ W0, w.alloc (.cells A 27) = W0 := ⟨_, rfl⟩
  have gA : W0.heap[w.heap.size]? = some (.cells A 27 (0, 0)) := by rw [← hW0]; exact heap_alloc_new _ _
  have u0 : Up w W0 := by rw [← hW0]; exact (Up.refl _).alloc _
  rw [hA] at hW0
  have HAA : Hid (Value.agg A = .agg #[.slice a1 s.ps.length k1, .slice b1 s.cs.length l1, .slice c1 s.zs.length m1, .int .i32 s.turn, .int .i64 s.whose, .int .i8 s.fin, .int .i64 s.winner]) := by unfold Hid; rw [hA]
  rw [HAA.out]
  clear hA hv hm hmc fs hM hbm
  generalize szS s = x at *
  go_enter Try.func5, Try.ntmps5
  go_wp2_with fail
  first | (refine calls_world hW0 (Calls.mono (works_ W0) ?_)) | (refine Calls.mono (works_ W0) ?_)
  rintro r W1 ⟨rfl, u1⟩
  have gA := u1.heap gA
  have HU : Hid (Up w W1) := u0.trans u1
  clear hW0 u0 u1
  go_wp2_with (first | (refine wpList_load_rowG (by rfl) 27 (.tmp 3) (by rfl) w.heap.size (by rfl) 27 A (0, 0) _ gA Try.underlying27 (by rfl) (by rw [hA1]; exact infoSt) ?_))
  refine Calls.mono (HSA.out _ HU.out) ?_
  rintro r W2 ⟨rfl, u2⟩
  have gA := u2.heap gA
  have HU : Hid (Up w W2) := HU.out.trans u2
  clear u2 HSA
  by_cases hbig : 4194304 < x
  · have e2 : (4194304 : Int) < (x : Int) := by omega
    go_wp2_with fail
    rw [HPo.out]
    exact ⟨rfl, HU.out⟩
  · have e2 : ¬ (4194304 : Int) < (x : Int) := by omega
    by_cases hbm : 1048576 < M
    · have e3 : (1048576 : Int) < (M : Int) := by omega
      go_wp2_with fail
      rw [HPo.out]
      exact ⟨rfl, HU.out⟩
    · have e3 : ¬ (1048576 : Int) < (M : Int) := by omega
      have HML : Hid (M ≤ 1048576 ∧ M = more.length) := ⟨by omega, HMM.out⟩
      have ss := HSM.out (by omega)
      have HEA : Hid (∀ W, Up w W → Calls Try.prog 9 #[.agg A] W fun x w' => ∃ vb, x = .returned (.tuple #[vb, .int .i64 (okI s)]) ∧ w'.ownsRow W.heap.size 5 1 vb (encB s).length (bvs (encB s)) ∧ Up W w') := fun W x => encode_ _ s W (HV.out W x) ss ts
      clear hbig hbm ss HSM HMM HV hls
      go_wp2_with (first | (refine wpList_load_rowG (by rfl) 27 (.tmp 3) (by rfl) w.heap.size (by rfl) 27 A (0, 0) _ gA Try.underlying27 (by rfl) (by rw [hA1]; exact infoSt) ?_))
      refine Calls.mono (HEA.out _ HU.out) ?_
      rintro r W3 ⟨vx, rfl, hx, u3⟩
      have HU : Hid (Up w W3) := HU.out.trans u3
      clear u3 gA HEA
      by_cases hs : ff s = none
      · rw [(enc_img hs).1] at hx
        rw [(enc_img hs).2]
        have HOK : Hid (ff s = none ∧ R4 s.turn) := ⟨hs, ts⟩
        have HIL : Hid ((img s).length ≤ 200000000) := img_le (rs_of hs ts)
        have HLX : Hid (∀ W, Up W3 W → SM.Lies W vx (bts (img s))) := fun W x => SM.Lies.up (own_lies hx (byt_img s)) x
        have HBX : Hid (BL W3 vx (img s)) := own_bl hx
        obtain ⟨xa, xc, hvx⟩ := row_val hx
        obtain ⟨nx, hnx⟩ : ∃ nx, nx = (img s).length := ⟨_, rfl⟩
        have HNX : Hid (nx = (img s).length) := hnx
        have hxc : nx ≤ xc := by
          obtain ⟨-, a', c', h2, h3, -⟩ := HBX.out
          rw [hvx] at h2
          cases h2
          omega
        rw [← hnx] at hvx
        subst hvx
        clear hx hnx hs ts
        by_cases hc0 : 0 ≤ c
        · by_cases hcn : c < (nx : Int)
          · obtain ⟨k, hk⟩ : ∃ k : Nat, c = (k : Int) := ⟨c.toNat, by omega⟩
            subst hk
            have hkn : k < nx := by omega
            have hkc : k ≤ xc := by omega
            have HDC : Hid (Calls Try.prog 11 #[.slice xa k xc] W3 (DeP W3 ((img s).take k))) := decode_ _ _ W3 (bl_take HBX.out (by rw [← HNX.out]; omega)) (fun c hc => byt_img s c (List.mem_of_mem_take hc)) (by rw [List.length_take]; have := HIL.out; omega)
            obtain ⟨hE, p, hAt, hp1, hp2⟩ := de_cut HOK.out.1 HOK.out.2 (k := k) (by rw [← HNX.out]; omega)
            go_wp2_with fail
            refine Calls.mono HDC.out ?_
            rintro r W4 ⟨vd, rfl, hS, u4⟩
            obtain ⟨p1, q1, p2, q2, p3, q3, hv⟩ := soa_val hS
            subst hv
            rw [hE, hAt]
            clear hS HDC hE hAt
            generalize deS ((img s).take k) = sd
            obtain ⟨W5, hW5⟩ : ∃ W5, W4.alloc (.cells #[.slice p1 sd.ps.length q1, .slice p2 sd.cs.length q2, .slice p3 sd.zs.length q3, .int .i32 sd.turn, .int .i64 sd.whose, .int .i8 sd.fin, .int .i64 sd.winner] 27) = W5 := ⟨_, rfl⟩
            have UX : Up W3 W5 := by rw [← hW5]; exact u4.alloc _
            have HU : Hid (Up w W5) := HU.out.trans UX
            have f1 : ¬ (k : Int) < (p : Int) := by omega
            have f2 : IntKind.i64.wrap ((k : Int) - 3) = (k : Int) - 3 := by rw [IntKind.wrap_i64]; have := HIL.out; have := HNX.out; omega
            have f3 : ¬ (p : Int) < (k : Int) - 3 := by omega
            clear u4 hp1 hp2
            by_cases hm : M = 0
            · have e9 : ((M : Int) == 0) = true := by simp [hm]
              clear hm
              go_wp2_with fail
              rw [HPo.out]
              exact ⟨rfl, HU.out⟩
            · have e9 : ((M : Int) == 0) = false := by simp; omega
              have HCB : Hid (Calls Try.prog 16 #[.slice xa nx xc] W5 fun e w' => ∃ u, e = .returned u ∧ SM.Owns w' W5.heap.size u (bts (img s)) ∧ Up W5 w') := SM.copyB _ _ W5 (HLX.out W5 UX) (by rw [bts_len]; have := HIL.out; omega)
              go_wp2_with fail
              refine Calls.mono HCB.out ?_
              rintro r Wc ⟨vc, rfl, hc, uc⟩
              have HO : Hid (Wc.ownsRow w.heap.size 5 1 vc (img s).length (bvs (img s))) := by
                have h9 := own_less hc HU.out.size
                rw [bts_len, bts_bv (byt_img s)] at h9
                exact h9
              have HU : Hid (Up w Wc) := HU.out.trans uc
              obtain ⟨ca, cc, hvc⟩ := row_val HO.out
              subst hvc
              obtain ⟨mb, mo, hma, hmc⟩ := HMC.out hm
              subst hma
              have HMN : Hid (∀ j u, (bvs more)[j]? = some u → Wc.cell? ((⟨mb, mo, none⟩ : Addr).add j) = some u) := fun j u hj => by
                have hjl : j < (bvs more).length := by
                  rcases Nat.lt_or_ge j (bvs more).length with h | h
                  · exact h
                  · rw [List.getElem?_eq_none h] at hj; cases hj
                rw [Addr.add_mid]
                exact (hmc Wc HU.out j (by simpa [bvs] using hjl)).trans hj
              have hnl := HIL.out
              have hML := HML.out
              have HDM : Hid (∀ v' V, V.ownsRow w.heap.size 5 1 v' ((img s).length + M) (bvs (img s) ++ bvs more) → Wc.grownBy V (Value.slice ca (img s).length cc).ownBlock → (Calls Try.prog 11 #[v'] V (DeP V (img s ++ more))) ∧ Up w V) := fun v' V h1 h2 => by
                have hU : Up w V := Below.grown HU.out h2 HU.out.size (fun k hk => (World.ownsRow.lt HO.out k hk).1)
                refine ⟨decode_ v' (img s ++ more) V ?_ (byt_app (byt_img s) HBM.out) (by rw [List.length_append, ← hML.2]; omega), hU⟩
                have h9 : V.ownsRow w.heap.size 5 1 v' (img s ++ more).length (bvs (img s ++ more)) := by
                  rw [List.length_append, ← hML.2, show bvs (img s ++ more) = bvs (img s) ++ bvs more by simp [bvs]]
                  exact h1
                exact own_bl h9
              have hm1 : (bvs more).length = M * 1 := by simp [bvs, hML.2]
              have hM20 := hML.1
              have HML2 : Hid (more ≠ []) := fun h => hm (by rw [hML.2, h]; rfl)
              clear HCB uc hc hmc hML
              go_wp2_with (at_builtin; go_loud (refine wpList_append_own _ (by rfl) (.tmp 70) (.tmp 71) 28 (by rfl) w.heap.size 5 i5 _ 1 1 Try.underlying28 hi5 z0 z1 z2 (by rfl) (by decide) (.slice ca (img s).length cc) (img s).length (bvs (img s)) (by rfl) HO.out ⟨mb, mo, none⟩ M mc (bvs more) (by rfl) hm1 HMN.out (by simp [bvs, Value.oneCell']) (by unfold maxLen; omega) (by omega) HU.out.size ?_; intro v' V hin hg1 _; obtain ⟨HD9, hU9⟩ := HDM.out v' V hin hg1; have HD : Hid _ := HD9; have HU9 : Hid (Up w V) := hU9; obtain ⟨fa, fc, hva⟩ : ∃ a c, v' = Value.slice a ((img s).length + M) c := row_val hin; subst hva; clear hin hg1 HD9 hU9))
              refine Calls.mono HD.out ?_
              rintro r Wd ⟨vd, rfl, hS, ud⟩
              obtain ⟨p1, q1, p2, q2, p3, q3, hv⟩ := soa_val hS
              subst hv
              have HU : Hid (Up w Wd) := HU9.out.trans ud
              obtain ⟨hE, hAt⟩ := de_more HOK.out.1 HOK.out.2 HML2.out
              rw [hE, hAt]
              have e10 : (((img s).length : Int) == (nx : Int)) = true := by rw [HNX.out]; simp
              clear hS ud HD HDM hE hAt
              generalize deS (img s ++ more) = sd
              generalize (img s).length = nl at *
              go_wp2_with fail
              rw [HPo.out]
              exact ⟨rfl, (HU.out.alloc _)⟩
          · have hc1 : ¬ c < (nx : Int) := hcn
            have UX : Up W3 W3 := Up.refl _
            by_cases hm : M = 0
            · have e9 : ((M : Int) == 0) = true := by simp [hm]
              clear hm
              go_wp2_with fail
              rw [HPo.out]
              exact ⟨rfl, HU.out⟩
            · have e9 : ((M : Int) == 0) = false := by simp; omega
              have HCB : Hid (Calls Try.prog 16 #[.slice xa nx xc] W3 fun e w' => ∃ u, e = .returned u ∧ SM.Owns w' W3.heap.size u (bts (img s)) ∧ Up W3 w') := SM.copyB _ _ W3 (HLX.out W3 UX) (by rw [bts_len]; have := HIL.out; omega)
              go_wp2_with fail
              refine Calls.mono HCB.out ?_
              rintro r Wc ⟨vc, rfl, hc, uc⟩
              have HO : Hid (Wc.ownsRow w.heap.size 5 1 vc (img s).length (bvs (img s))) := by
                have h9 := own_less hc HU.out.size
                rw [bts_len, bts_bv (byt_img s)] at h9
                exact h9
              have HU : Hid (Up w Wc) := HU.out.trans uc
              obtain ⟨ca, cc, hvc⟩ := row_val HO.out
              subst hvc
              obtain ⟨mb, mo, hma, hmc⟩ := HMC.out hm
              subst hma
              have HMN : Hid (∀ j u, (bvs more)[j]? = some u → Wc.cell? ((⟨mb, mo, none⟩ : Addr).add j) = some u) := fun j u hj => by
                have hjl : j < (bvs more).length := by
                  rcases Nat.lt_or_ge j (bvs more).length with h | h
                  · exact h
                  · rw [List.getElem?_eq_none h] at hj; cases hj
                rw [Addr.add_mid]
                exact (hmc Wc HU.out j (by simpa [bvs] using hjl)).trans hj
              have hnl := HIL.out
              have hML := HML.out
              have HDM : Hid (∀ v' V, V.ownsRow w.heap.size 5 1 v' ((img s).length + M) (bvs (img s) ++ bvs more) → Wc.grownBy V (Value.slice ca (img s).length cc).ownBlock → (Calls Try.prog 11 #[v'] V (DeP V (img s ++ more))) ∧ Up w V) := fun v' V h1 h2 => by
                have hU : Up w V := Below.grown HU.out h2 HU.out.size (fun k hk => (World.ownsRow.lt HO.out k hk).1)
                refine ⟨decode_ v' (img s ++ more) V ?_ (byt_app (byt_img s) HBM.out) (by rw [List.length_append, ← hML.2]; omega), hU⟩
                have h9 : V.ownsRow w.heap.size 5 1 v' (img s ++ more).length (bvs (img s ++ more)) := by
                  rw [List.length_append, ← hML.2, show bvs (img s ++ more) = bvs (img s) ++ bvs more by simp [bvs]]
                  exact h1
                exact own_bl h9
              have hm1 : (bvs more).length = M * 1 := by simp [bvs, hML.2]
              have hM20 := hML.1
              have HML2 : Hid (more ≠ []) := fun h => hm (by rw [hML.2, h]; rfl)
              clear HCB uc hc hmc hML
              go_wp2_with (at_builtin; go_loud (refine wpList_append_own _ (by rfl) (.tmp 70) (.tmp 71) 28 (by rfl) w.heap.size 5 i5 _ 1 1 Try.underlying28 hi5 z0 z1 z2 (by rfl) (by decide) (.slice ca (img s).length cc) (img s).length (bvs (img s)) (by rfl) HO.out ⟨mb, mo, none⟩ M mc (bvs more) (by rfl) hm1 HMN.out (by simp [bvs, Value.oneCell']) (by unfold maxLen; omega) (by omega) HU.out.size ?_; intro v' V hin hg1 _; obtain ⟨HD9, hU9⟩ := HDM.out v' V hin hg1; have HD : Hid _ := HD9; have HU9 : Hid (Up w V) := hU9; obtain ⟨fa, fc, hva⟩ : ∃ a c, v' = Value.slice a ((img s).length + M) c := row_val hin; subst hva; clear hin hg1 HD9 hU9))
              refine Calls.mono HD.out ?_
              rintro r Wd ⟨vd, rfl, hS, ud⟩
              obtain ⟨p1, q1, p2, q2, p3, q3, hv⟩ := soa_val hS
              subst hv
              have HU : Hid (Up w Wd) := HU9.out.trans ud
              obtain ⟨hE, hAt⟩ := de_more HOK.out.1 HOK.out.2 HML2.out
              rw [hE, hAt]
              have e10 : (((img s).length : Int) == (nx : Int)) = true := by rw [HNX.out]; simp
              clear hS ud HD HDM hE hAt
              generalize deS (img s ++ more) = sd
              generalize (img s).length = nl at *
              go_wp2_with fail
              rw [HPo.out]
              exact ⟨rfl, (HU.out.alloc _)⟩
        · have UX : Up W3 W3 := Up.refl _
          by_cases hm : M = 0
          · have e9 : ((M : Int) == 0) = true := by simp [hm]
            clear hm
            go_wp2_with fail
            rw [HPo.out]
            exact ⟨rfl, HU.out⟩
          · have e9 : ((M : Int) == 0) = false := by simp; omega
            have HCB : Hid (Calls Try.prog 16 #[.slice xa nx xc] W3 fun e w' => ∃ u, e = .returned u ∧ SM.Owns w' W3.heap.size u (bts (img s)) ∧ Up W3 w') := SM.copyB _ _ W3 (HLX.out W3 UX) (by rw [bts_len]; have := HIL.out; omega)
            go_wp2_with fail
            refine Calls.mono HCB.out ?_
            rintro r Wc ⟨vc, rfl, hc, uc⟩
            have HO : Hid (Wc.ownsRow w.heap.size 5 1 vc (img s).length (bvs (img s))) := by
              have h9 := own_less hc HU.out.size
              rw [bts_len, bts_bv (byt_img s)] at h9
              exact h9
            have HU : Hid (Up w Wc) := HU.out.trans uc
            obtain ⟨ca, cc, hvc⟩ := row_val HO.out
            subst hvc
            obtain ⟨mb, mo, hma, hmc⟩ := HMC.out hm
            subst hma
            have HMN : Hid (∀ j u, (bvs more)[j]? = some u → Wc.cell? ((⟨mb, mo, none⟩ : Addr).add j) = some u) := fun j u hj => by
              have hjl : j < (bvs more).length := by
                rcases Nat.lt_or_ge j (bvs more).length with h | h
                · exact h
                · rw [List.getElem?_eq_none h] at hj; cases hj
              rw [Addr.add_mid]
              exact (hmc Wc HU.out j (by simpa [bvs] using hjl)).trans hj
            have hnl := HIL.out
            have hML := HML.out
            have HDM : Hid (∀ v' V, V.ownsRow w.heap.size 5 1 v' ((img s).length + M) (bvs (img s) ++ bvs more) → Wc.grownBy V (Value.slice ca (img s).length cc).ownBlock → (Calls Try.prog 11 #[v'] V (DeP V (img s ++ more))) ∧ Up w V) := fun v' V h1 h2 => by
              have hU : Up w V := Below.grown HU.out h2 HU.out.size (fun k hk => (World.ownsRow.lt HO.out k hk).1)
              refine ⟨decode_ v' (img s ++ more) V ?_ (byt_app (byt_img s) HBM.out) (by rw [List.length_append, ← hML.2]; omega), hU⟩
              have h9 : V.ownsRow w.heap.size 5 1 v' (img s ++ more).length (bvs (img s ++ more)) := by
                rw [List.length_append, ← hML.2, show bvs (img s ++ more) = bvs (img s) ++ bvs more by simp [bvs]]
                exact h1
              exact own_bl h9
            have hm1 : (bvs more).length = M * 1 := by simp [bvs, hML.2]
            have hM20 := hML.1
            have HML2 : Hid (more ≠ []) := fun h => hm (by rw [hML.2, h]; rfl)
            clear HCB uc hc hmc hML
            go_wp2_with (at_builtin; go_loud (refine wpList_append_own _ (by rfl) (.tmp 70) (.tmp 71) 28 (by rfl) w.heap.size 5 i5 _ 1 1 Try.underlying28 hi5 z0 z1 z2 (by rfl) (by decide) (.slice ca (img s).length cc) (img s).length (bvs (img s)) (by rfl) HO.out ⟨mb, mo, none⟩ M mc (bvs more) (by rfl) hm1 HMN.out (by simp [bvs, Value.oneCell']) (by unfold maxLen; omega) (by omega) HU.out.size ?_; intro v' V hin hg1 _; obtain ⟨HD9, hU9⟩ := HDM.out v' V hin hg1; have HD : Hid _ := HD9; have HU9 : Hid (Up w V) := hU9; obtain ⟨fa, fc, hva⟩ : ∃ a c, v' = Value.slice a ((img s).length + M) c := row_val hin; subst hva; clear hin hg1 HD9 hU9))
            refine Calls.mono HD.out ?_
            rintro r Wd ⟨vd, rfl, hS, ud⟩
            obtain ⟨p1, q1, p2, q2, p3, q3, hv⟩ := soa_val hS
            subst hv
            have HU : Hid (Up w Wd) := HU9.out.trans ud
            obtain ⟨hE, hAt⟩ := de_more HOK.out.1 HOK.out.2 HML2.out
            rw [hE, hAt]
            have e10 : (((img s).length : Int) == (nx : Int)) = true := by rw [HNX.out]; simp
            clear hS ud HD HDM hE hAt
            generalize deS (img s ++ more) = sd
            generalize (img s).length = nl at *
            go_wp2_with fail
            rw [HPo.out]
            exact ⟨rfl, (HU.out.alloc _)⟩
      · rw [okI_no hs]
        obtain ⟨xa, xc, hvx⟩ := row_val hx
        subst hvx
        clear hx
        go_wp2_with fail
        rw [HPo.out]
        exact ⟨rfl, HU.out⟩
end IM
end Go.Proofs.Ytpmdlpjedapbbaa
