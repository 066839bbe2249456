/-
  The stage's theorem, walked to its end.
-/
import Derived.Test.YtilmkijbohjinaaEachW
namespace Go.Proofs.Ytilmkijbohjinaa
open Go.RowKit

set_option maxHeartbeats 1000000 in
theorem eachLong (v : Value) (zs : List Int) (x y : Int) (s : Nat) (w : World) (hv : LiesI w v zs) (hm : 4096 < zs.length) (hm2 : zs.length ≤ 9223372036854775807) :
    Calls Try.prog 4 #[v, .int .i64 x, .int .i64 y, .int .u64 s] w fun e w' => e = .returned (.bool true) ∧ Up w w' := by
  obtain ⟨a, cap, rfl, _⟩ := hv
  generalize zs.length = n at *
  have h1 : (4096 : Int) < (n : Int) := by omega
  go_enter Try.func4, Try.ntmps4
  go_wp2_with fail
  refine (lives _).mono ?_
  rintro e w5 ⟨rfl, u5⟩
  go_wp2
  go_ret
  exact ⟨rfl, u5⟩
set_option maxHeartbeats 1000000 in
theorem eachNot (v : Value) (zs : List Int) (x y : Int) (s : Nat) (w : World) (hv : LiesI w v zs) (hm : zs.length ≤ 4096) (ho : ¬ OrdZ zs) :
    Calls Try.prog 4 #[v, .int .i64 x, .int .i64 y, .int .u64 s] w fun e w' => e = .returned (.bool true) ∧ Up w w' := by
  have HV : Hid (LiesI w v zs) := hv
  obtain ⟨a, cap, rfl, _⟩ := hv
  have HO : Hid (¬ OrdZ zs) := ho
  have HM : Hid (zs.length ≤ 65536) := by unfold Hid; omega
  have h1 : ¬ (4096 : Int) < (zs.length : Int) := by omega
  clear ho
  go_enter Try.func4, Try.ntmps4
  go_wp2_with fail
  refine (isOrder _ zs w HV.out HM.out).mono ?_
  rintro e w1 ⟨r, rfl, hr, u1⟩
  have hr2 : r = false := by
    cases r
    · rfl
    · exact absurd (hr.1 rfl) HO.out
  subst hr2
  clear hr
  go_wp2_with fail
  refine (lives _).mono ?_
  rintro e w5 ⟨rfl, u5⟩
  go_wp2
  go_ret
  exact ⟨rfl, u1.trans u5⟩
set_option maxHeartbeats 4000000 in
theorem eachMain (v : Value) (t : List Nat) (x y : Int) (s : Nat) (w : World) (hv : LiesI w v (intsOf t)) (hm : t.length ≤ 4096) (h1 : Inj t) (h2 : ∀ a, a < t.length → t.getD a 0 < t.length) (hy1 : -9223372036854775808 ≤ x) (hy2 : x ≤ 9223372036854775807) :
    Calls Try.prog 4 #[v, .int .i64 x, .int .i64 y, .int .u64 s] w fun e w' => e = .returned (.bool true) ∧ Up w w' := by
  have HV : Hid (LiesI w v (intsOf t)) := hv
  obtain ⟨a0, cap0, rfl, _⟩ := hv
  rw [intsOf_len] at HV ⊢
  have HJ : Hid (Inj t) := h1
  have HB : Hid (∀ a, a < t.length → t.getD a 0 < t.length) := h2
  have HM : Hid (t.length ≤ 65536) := by unfold Hid; omega
  have hgt : ¬ (4096 : Int) < (t.length : Int) := by omega
  obtain ⟨n, hn⟩ : ∃ n, n = t.length := ⟨_, rfl⟩
  have HN : Hid (n = t.length) := hn
  rw [← hn] at hgt hm HV ⊢
  clear hn h1 h2
  go_enter Try.func4, Try.ntmps4
  go_wp2_with fail
  refine (isOrder _ (intsOf t) w HV.out (by rw [intsOf_len]; exact HM.out)).mono ?_
  rintro e w1 ⟨r, rfl, hr, u1⟩
  obtain rfl : r = true := hr.2 (OrdZ.of HJ.out HB.out)
  clear hr
  go_wp2_with fail
  refine (answersOf _ t w1 (HV.out.up u1) HM.out).mono ?_
  rintro e w2 ⟨lv, rfl, hrow, u2⟩
  have u12 := u1.trans u2
  have hrl := ansP_len (t.length - 1) (List.range t.length) t
  obtain ⟨rs, hrs⟩ : ∃ rs, rs = ansP (t.length - 1) (List.range t.length) t := ⟨_, rfl⟩
  have HRS : Hid (rs = ansP (t.length - 1) (List.range t.length) t) := hrs
  obtain ⟨n1, hn1⟩ : ∃ n1, n1 = t.length - 1 := ⟨_, rfl⟩
  have HN1 : Hid (n1 = t.length - 1) := hn1
  rw [← hrs] at hrow hrl
  rw [← hn1] at hrl
  rw [hrl] at hrow
  have hpl : rs.length = n1 := hrl
  obtain ⟨lad, lcap, rfl⟩ : ∃ lad lcap, lv = .slice lad n1 lcap := by
    rcases hrow.2 with ⟨rfl, h0⟩ | ⟨g, cap, cur, rfl, _⟩
    · exact ⟨none, 0, by rw [h0]⟩
    · exact ⟨_, cap, rfl⟩
  have HROW : Hid (w2.ownsRow w1.heap.size 43 2 (.slice lad n1 lcap) n1 (flatA rs)) := hrow
  have hz1 := u1.size
  have hz2 := u2.size
  clear hrow u2 hrl hrs hn1
  go_wp2_with fail
  have hb3 := heap_alloc_last w2 (.cells #[.slice lad n1 lcap, .slice none 0 0] 34)
  have hne3 : ∀ k, (Value.slice lad n1 lcap).ownBlock = some k → k ≠ w2.heap.size := fun k hk => by have := (HROW.out.lt k hk).2; omega
  have hr3 := HROW.out.alloc (.cells #[.slice lad n1 lcap, .slice none 0 0] 34)
  have u3 := u12.alloc (.cells #[.slice lad n1 lcap, .slice none 0 0] 34)
  have hl3 := ansL_row (a := w2.heap.size) (rs := rs) (by rw [hpl]; exact hr3) hne3
  rw [HRS.out] at hl3
  have HS := fstShuffle w2.heap.size _ t _ HM.out HJ.out HB.out hl3 hb3
  rw [← HN.out] at HS
  obtain ⟨W3, hW3⟩ : ∃ W, W = w2.alloc (.cells #[.slice lad n1 lcap, .slice none 0 0] 34) := ⟨_, rfl⟩
  rw [← hW3] at HS hr3 u3 ⊢
  have hz3 : w2.heap.size ≤ W3.heap.size := by rw [hW3]; simp
  clear hW3 hb3 hl3 HROW
  refine HS.mono ?_
  clear HS
  rintro e w4 ⟨g, ad4, cap4, hg, rfl, hr4, hb4, ho4⟩
  rw [← HN1.out] at hb4
  rw [← HN.out]
  have HR4 : Hid (w4.ownsRow w1.heap.size 43 2 (.slice lad n1 lcap) n1 (flatA rs)) := row_only hr3 ho4 hne3
  have u4 : Up w w4 := u3.trans' ho4 u12.size
  have hl4 := hr4.lies t.length
  rw [← HN.out] at hl4
  have HL4 : Hid (LiesI w4 (.slice (some ⟨g, 0, none⟩) n n) (intsOf t)) := hl4
  have HB4 : Hid (w4.heap[w2.heap.size]? = some (.cells #[.slice lad n1 lcap, .slice ad4 n1 cap4] 34 (0, 0))) := hb4
  clear hl4 hr4 hb4 ho4 hr3 u3 hg hne3
  go_wp2_with fail
  refine (equalI _ _ _ _ w4 HL4.out (HV.out.up u4) (by rw [intsOf_len]; have := HM.out; omega)).mono ?_
  rintro e w5 ⟨rfl, u5⟩
  rw [show decide (intsOf t = intsOf t) = true from decide_eq_true rfl]
  have u45 := u4.trans u5
  have HR5 : Hid (w5.ownsRow w1.heap.size 43 2 (.slice lad n1 lcap) n1 (flatA rs)) := row_up HR4.out u5
  obtain ⟨q0, q1, _⟩ := two_cells (u5.heap HB4.out)
  clear HR4 HB4 HL4 u5 u4
  have e0 : ((n1 : Int) == (n1 : Int)) = true := by simp
  go_wp2_with fail
  refine (new s w5).mono ?_
  rintro e w6 ⟨rfl, rfl⟩
  clear q0 q1
  have d6 := Die.new w5 s
  have u6 := u45.alloc (.cells #[.int .u64 s, .bool true] 55)
  have hz5 := u45.size
  have HR6 : Hid ((w5.alloc (.cells #[.int .u64 s, .bool true] 55)).ownsRow w1.heap.size 43 2 (.slice lad n1 lcap) n1 (flatA rs)) := HR5.out.alloc _
  have HNE6 : Hid (∀ k, (Value.slice lad n1 lcap).ownBlock = some k → k ≠ w5.heap.size) := fun k hk => by have := (HR5.out.lt k hk).2; omega
  clear HR5
  generalize w5.alloc (.cells #[.int .u64 s, .bool true] 55) = W6 at *
  unfold dieA
  go_wp2_with fail
  refine (order w5.heap.size n s W6 d6 (by have := HM.out; have := HN.out; omega)).mono ?_
  rintro e w7 ⟨g7, hg7, rfl, hr7, _, ho7⟩
  have u7 : Up w w7 := u6.trans' ho7 hz5
  have HR7 : Hid (w7.ownsRow w1.heap.size 43 2 (.slice lad n1 lcap) n1 (flatA rs)) := row_only HR6.out ho7 HNE6.out
  have hl7 := hr7.lies n
  rw [ordL_len] at hl7
  have HL7 : Hid (LiesI w7 (.slice (some ⟨g7, 0, none⟩) n n) (intsOf (ordL n s))) := hl7
  clear hl7 hr7 ho7 d6 u6 HR6 HNE6 hg7 hz5
  have e1 : ((n : Int) == (n : Int)) = true := by simp
  go_wp2_with fail
  refine (isOrder _ _ w7 HL7.out (by rw [intsOf_len, ordL_len]; have := HM.out; have := HN.out; omega)).mono ?_
  rintro e w8 ⟨r, rfl, hr, u8⟩
  obtain rfl : r = true := hr.2 (ordL_ord n s)
  have u78 := u7.trans u8
  have HR8 : Hid (w8.ownsRow w1.heap.size 43 2 (.slice lad n1 lcap) n1 (flatA rs)) := row_up HR7.out u8
  clear hr HL7 HR7 u7 u8 u45 u12 hz3
  by_cases hx0 : x < 0
  · clear HR8
    go_wp2_with fail
    refine (lives _).mono ?_
    rintro e w9 ⟨rfl, u9⟩
    go_wp2
    go_ret
    exact ⟨rfl, u78.trans u9⟩
  obtain ⟨k, rfl⟩ := Int.eq_ofNat_of_zero_le (Int.not_lt.1 hx0)
  by_cases hx1 : (n1 : Int) ≤ (k : Int)
  · clear HR8
    go_wp2_with fail
    refine (lives _).mono ?_
    rintro e w9 ⟨rfl, u9⟩
    go_wp2
    go_ret
    exact ⟨rfl, u78.trans u9⟩
  have hkn : k < n1 := by omega
  obtain ⟨lg, lc, hlg, hle⟩ := row_some HR8.out (by omega)
  simp only [Value.slice.injEq, true_and] at hle
  obtain ⟨rfl, rfl⟩ := hle
  have c8 := HR8.out.cellAt (k * 2) (by omega)
  rw [(flatA_get rs k (by omega)).1] at c8
  obtain ⟨z, hz⟩ : ∃ z, z = (rs.getD k (0, true)).1 := ⟨_, rfl⟩
  rw [← hz] at c8
  have HZ : Hid ((rs.getD k (0, true)).1 = z) := hz.symm
  clear hz
  have f8 := HR8.out.frozenAt (k * 2)
  by_cases hzy : z = y
  · subst hzy
    have ez : (z == z) = true := by simp
    clear HR8
    go_wp2_with fail
    refine (lives _).mono ?_
    rintro e w9 ⟨rfl, u9⟩
    go_wp2
    go_ret
    exact ⟨rfl, u78.trans u9⟩
  have ez : (z == y) = false := beq_eq_false_iff_ne.2 hzy
  have hst := (HR8.out.stored (k * 2) (.int .i64 y)).1
  rw [flatA_set rs k y (by omega) (by
    rw [HRS.out]
    refine ansP_false (t.length - 1) (List.range t.length) t _ ?_
    rw [List.getD_eq_getElem?_getD, List.getElem?_eq_getElem (by have := HRS.out; rw [← this]; omega), Option.getD_some]
    exact List.getElem_mem _)] at hst
  have u9 : Up w (w8.setCell ⟨lg, k * 2, none⟩ (.int .i64 y)) := Below.setCell u78 (by show w.heap.size ≤ lg; omega) _
  have HR9 : Hid ((w8.setCell ⟨lg, k * 2, none⟩ (.int .i64 y)).ownsRow w1.heap.size 43 2 (.slice (some ⟨lg, 0, none⟩) n1 lcap) n1 (flatA (rs.set k (y, false)))) := hst
  clear hst HR8 u78
  go_wp2_with fail
  obtain ⟨W9, hW9⟩ : ∃ W, W = w8.setCell ⟨lg, k * 2, none⟩ (.int .i64 y) := ⟨_, rfl⟩
  have hsz9 : w8.heap.size = W9.heap.size := by rw [hW9]; simp
  rw [← hW9] at HR9 u9 ⊢
  rw [hsz9]
  clear hW9 c8 f8
  have hb10 := heap_alloc_last W9 (.cells #[.slice (some ⟨lg, 0, none⟩) n1 lcap, .slice none 0 0] 34)
  have hne10 : ∀ k, (Value.slice (some ⟨lg, 0, none⟩) n1 lcap).ownBlock = some k → k ≠ W9.heap.size := fun k hk => by have := (HR9.out.lt k hk).2; omega
  have hr10 := HR9.out.alloc (.cells #[.slice (some ⟨lg, 0, none⟩) n1 lcap, .slice none 0 0] 34)
  have u10 := u9.alloc (.cells #[.slice (some ⟨lg, 0, none⟩) n1 lcap, .slice none 0 0] 34)
  have hl10 := ansL_row (a := W9.heap.size) (rs := rs.set k (y, false)) (by rw [List.length_set, hpl]; exact hr10) hne10
  have hz9 := u9.size
  rw [HRS.out] at hl10
  have HS := sndShuffle W9.heap.size k y _ t _ HM.out HJ.out HB.out (by rw [← HN1.out]; exact hkn) (by rw [← HRS.out, HZ.out]; exact hzy) hl10 hb10
  rw [← HN1.out, ← HN.out] at HS
  obtain ⟨W10, hW10⟩ : ∃ W, W = W9.alloc (.cells #[.slice (some ⟨lg, 0, none⟩) n1 lcap, .slice none 0 0] 34) := ⟨_, rfl⟩
  rw [← hW10] at HS u10 ⊢
  clear hW10 hb10 hl10 hr10 hne10 HR9 u9
  have hnk : n = n1 + 1 := by have := HN.out; have := HN1.out; omega
  refine HS.mono ?_
  clear HS
  rintro e w11 ⟨ho11, h11⟩
  have u11 : Up w w11 := u10.trans' ho11 hz9
  clear ho11 u10
  rcases h11 with ⟨hok, rfl⟩ | ⟨hok, g11, l, hg11, hlen, hlt, rfl, hr11⟩
  · have hbad : y < 0 ∨ (0 ≤ y ∧ ¬ y < (n : Int) - (k : Int)) := by
      rw [Bool.and_eq_false_iff, decide_eq_false_iff_not, decide_eq_false_iff_not] at hok
      by_cases h : y < 0
      · exact .inl h
      · rcases hok with h2 | h2
        · omega
        · exact .inr ⟨by omega, by omega⟩
    clear hok hnk
    rcases hbad with hb | ⟨hb, hb2⟩
    · go_wp2_with fail
      refine (lives _).mono ?_
      rintro e w9 ⟨rfl, u9⟩
      go_wp2
      go_ret
      exact ⟨rfl, u11.trans u9⟩
    · have HB2 : Hid (¬ y < (n : Int) - (k : Int)) := hb2
      go_wp2_with fail
      refine (lives _).mono ?_
      rintro e w9 ⟨rfl, u9⟩
      go_wp2
      go_ret
      exact ⟨by show Ending.returned (.bool (!decide (y < (n : Int) - (k : Int)))) = _; rw [decide_eq_false (by have := HB2.out; omega)]; rfl, u11.trans u9⟩
  · have hgood : 0 ≤ y ∧ y < (n : Int) - (k : Int) := by
      rw [Bool.and_eq_true, decide_eq_true_eq, decide_eq_true_eq] at hok
      omega
    obtain ⟨hb, hb2⟩ := hgood
    clear hnk
    rw [← HN.out]
    have hl11 := hr11.lies n
    rw [hlen, ← HN.out] at hl11
    have HL : Hid (LiesI w11 (.slice (some ⟨g11, 0, none⟩) n n) (intsOf l)) := hl11
    have HD : Hid (decide (intsOf l = intsOf t) = false) := by
      unfold Hid
      apply decide_eq_false
      intro e
      apply hlt
      have h5 : ∀ i, l.getD i 0 = t.getD i 0 := by
        intro i
        have := intsOf_getD l i
        rw [e, intsOf_getD] at this
        omega
      apply List.ext_getElem hlen
      intro i h6 h7
      have := h5 i
      simpa [List.getD, h6, h7] using this
    have hm2 : (intsOf l).length ≤ 4611686018427387904 := by rw [intsOf_len, hlen]; have := HM.out; omega
    have HM2 : Hid ((intsOf l).length ≤ 4611686018427387904) := hm2
    clear hl11 hr11 hok hlt hlen hg11 hm2
    go_wp2_with fail
    refine (equalI _ _ _ _ w11 HL.out (HV.out.up u11) HM2.out).mono ?_
    rintro e w12 ⟨rfl, u12⟩
    rw [HD.out]
    go_wp2_with fail
    refine (lives _).mono ?_
    rintro e w9 ⟨rfl, u9⟩
    go_wp2
    go_ret
    exact ⟨rfl, (u11.trans u12).trans u9⟩
end Go.Proofs.Ytilmkijbohjinaa
