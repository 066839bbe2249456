/-
  ParseStays: what the one or the other call tells, and the law's walk.
-/
import Derived.Test.YtkldllnnocdhbaaGreatDoorSr10
import Derived.Test.YtkldllnnocdhbaaGreatDoorBc8
namespace Go.Proofs.YtkldllnnocdhbaaGreatDoor
open Go.RowKit
attribute [local go_sem ↓] Go.wp_at_zero Go.wp_at_succ
namespace TP
open TR (Nd Byt nums_inj nums_nil)
open TK (Tok tex TabP TLs TokOk infoTok infoTs)
def QT2 (pk : Bool) (l : List Tok) (W : World) (e : Ending) (w' : World) : Prop := ∃ R, ans pk l (fuel l) = some R ∧ e = .returned (.tuple #[.int .i64 (told R).1, .int .i64 (told R).2]) ∧ Up W w'
def QT3 (pk : Bool) (l : List Tok) (W : World) (e : Ending) (w' : World) : Prop := ∃ R v, ans pk l (fuel l) = some R ∧ e = .returned (.tuple #[v, .int .i64 (told R).1, .int .i64 (told R).2]) ∧ Up W w'
theorem an_told {pk : Bool} {l : List Tok} {W : World} {e : Ending} {w' : World} (hm : MayT l) (h : AN l (part pk l (fuel l)) W e w') : QT3 pk l W e w' := by
  obtain ⟨u, ⟨h1, -⟩ | ⟨-, R, hR, h2⟩⟩ := h
  · exact absurd hm h1
  · have ha : ans pk l (fuel l) = bd (some R) (fun f j => if (tk l j).kind = 0 then okr f j else TP.bad (tk l j)) := by
      show bd (part pk l (fuel l)) _ = _
      rw [hR]
    cases R with
    | bad er pp => exact ⟨.bad er pp, _, ha, h2.2, u⟩
    | ok f j =>
      have h3 : (if (tk l j).kind = 0 then ∃ v, e = .returned (.tuple #[v, .int .i64 0, .int .i64 0]) ∧ OwN W.heap.size w' v (flF f) else e = .returned (.tuple #[.slice none 0 0, .int .i64 22, .int .i64 (tk l j).pos])) := h2.2
      have hb : ans pk l (fuel l) = (if (tk l j).kind = 0 then okr f j else TP.bad (tk l j)) := ha
      by_cases hk : (tk l j).kind = 0
      · rw [if_pos hk] at h3 hb
        obtain ⟨v, h4, -⟩ := h3
        exact ⟨.ok f j, v, hb, h4, u⟩
      · rw [if_neg hk] at h3 hb
        exact ⟨.bad 22 (tk l j).pos, _, hb, h3, u⟩
set_option maxRecDepth 100000 in
set_option maxHeartbeats 16000000 in
theorem told_ (W : World) (bt off n c : Nat) (l : List Tok) (pk : Bool) (h : TM W bt off n c l) (hm : MayT l) (hRT : W.cell? ⟨0, 0, none⟩ = some (.iface 181 (.agg #[.pointer (some ⟨4, 93, none⟩)]))) :
    Calls Tryz.prog 12 #[.slice (some ⟨bt, off, none⟩) n c, .bool pk] W (QT2 pk l W) := by
  obtain ⟨Post, hPost⟩ : ∃ P : Ending → World → Prop, P = QT2 pk l W := ⟨_, rfl⟩
  rw [← hPost]
  have HPo : Hid (Post = QT2 pk l W) := hPost
  clear hPost
  have HPK : Hid (pk = true → Calls Tryz.prog 14 #[.slice (some ⟨bt, off, none⟩) n c] W (QT3 true l W)) := fun _ => (pack_any W bt off n c l h hRT).mono fun e w' h9 => an_told (pk := true) hm h9
  have HEX : Hid (pk = false → Calls Tryz.prog 13 #[.slice (some ⟨bt, off, none⟩) n c] W (QT3 false l W)) := fun _ => (expr_any W bt off n c l h hRT).mono fun e w' h9 => an_told (pk := false) hm h9
  clear h hm hRT
  go_enter Tryz.func12, Tryz.ntmps12
  cases pk with
  | true =>
    have HC : Hid _ := HPK.out rfl
    clear HPK HEX
    go_wp2_with fail
    refine Calls.mono HC.out ?_
    rintro r w1 ⟨R, v, hR, rfl, u1⟩
    have HR : Hid (QT2 true l W (.returned (.tuple #[.int .i64 (told R).1, .int .i64 (told R).2])) w1) := ⟨R, hR, rfl, u1⟩
    clear hR u1 HC
    generalize (told R).1 = e0 at HR ⊢
    generalize (told R).2 = p0 at HR ⊢
    go_wp2_with fail
    rw [HPo.out]
    exact HR.out
  | false =>
    have HC : Hid _ := HEX.out rfl
    clear HPK HEX
    go_wp2_with fail
    refine Calls.mono HC.out ?_
    rintro r w1 ⟨R, v, hR, rfl, u1⟩
    have HR : Hid (QT2 false l W (.returned (.tuple #[.int .i64 (told R).1, .int .i64 (told R).2])) w1) := ⟨R, hR, rfl, u1⟩
    clear hR u1 HC
    generalize (told R).1 = e0 at HR ⊢
    generalize (told R).2 = p0 at HR ⊢
    go_wp2_with fail
    rw [HPo.out]
    exact HR.out
/- the made list may be parsed -/
theorem keep_tex {t : Tok} (hp : 0 ≤ t.pos) (h : keepT t = true) : tex t ≠ [] := by
  unfold keepT at h
  simp only [Bool.and_eq_true, Bool.not_eq_true', decide_eq_false_iff_not] at h
  obtain ⟨h1, h2⟩ := h
  obtain ⟨kd, tx, tn, tp⟩ := t
  have h3 : TK.mayB kd tx tn tp = true := by rw [may_at (t := ⟨kd, tx, tn, tp⟩) hp]; exact h1
  rw [TK.tex_may, if_pos h3]
  simp only at h2 h1 hp
  by_cases k2 : kd = 2
  · rw [if_pos k2]
    subst k2
    have h4 : 0 ≤ tn := by
      unfold TK.mayB at h1
      simp at h1
      exact h1.1
    exact (TK.dcm_all tn.toNat tn h4 (Nat.le_refl _)).2.2.1
  · rw [if_neg k2]
    by_cases k3 : kd = 3
    · rw [if_pos k3]
      unfold TK.quo
      simp
    · rw [if_neg k3]
      rintro rfl
      unfold TK.mayB at h1
      by_cases k1 : kd = 1
      · subst k1
        simp [TK.okN] at h1
      · by_cases k4 : kd = 4
        · subst k4
          simp [TK.mrk] at h1
        · simp [k1, k2, k3, k4, h2] at h1
theorem rt_may (l : List Tok) : MayT (rt keepT l) := by
  have h0 := rt_len keepT l
  refine ⟨fun i hi => ?_, ?_, ?_⟩
  · refine keep_tex ?_ (rt_keep keep_at l hi)
    rw [(rt_std keepT l).at10 i (by omega)]
    omega
  · rw [show (rt keepT l).length - 1 = (l.filter keepT).length by omega, rt_end]
    show (0 : Int) ≤ 10 * _
    omega
  · rw [show (rt keepT l).length - 1 = (l.filter keepT).length by omega, rt_end]
    rfl
theorem ent_ok (n : Nat) : TokOk (ent n) := ⟨fun c hc => (by cases hc), (by show 0 ≤ 281474976710656; omega), (by show -9223372036854775808 ≤ (0 : Int); omega), (by show (0 : Int) ≤ 9223372036854775807; omega)⟩
theorem rt_tm {W : World} {v : Value} {base : Nat} {l : List Tok} (h : W.ownsRow base 45 4 v (rt keepT l).length (TK.tvs (rt keepT l))) (hok : ∀ t ∈ l, TokOk t) (hs : l.length ≤ 1000000) (hT : TabP W) :
    ∃ bt off c, v = .slice (some ⟨bt, off, none⟩) (rt keepT l).length c ∧ TM W bt off (rt keepT l).length c (rt keepT l) := by
  have h0 := rt_len keepT l
  have h1 := List.length_filter_le keepT l
  have hq := rt_all (K := keepT) (Q := TokOk) (fun t p h => h) ent_ok l hok
  exact tm_row h (by omega) (by omega) (fun i hi => (hq i hi).1) (fun i hi => (hq i hi).2.1) (fun i hi => (hq i hi).2.2) hT
theorem rt_ok {l : List Tok} (hok : ∀ t ∈ l, TokOk t) : ∀ t ∈ rt keepT l, TokOk t := fun t ht => by
  have hq := rt_all (K := keepT) (Q := TokOk) (fun t p h => h) ent_ok l hok
  obtain ⟨i, hi, rfl⟩ := List.getElem_of_mem ht
  have h9 := hq i hi
  unfold tk at h9
  rw [List.getD_eq_getElem?_getD, List.getElem?_eq_getElem hi] at h9
  exact h9
/- its first k tokens, as a slice -/
theorem lc_take {W : World} {v : Value} {l : List Tok} {ad : Option Addr} {n c k : Nat} (h : TLs W v l) (hv : v = .slice ad n c) (hk : k ≤ n) : LC W (.slice ad k c) 4 k (TK.tvs (l.take k)) := by
  obtain ⟨h0, a, cap, hv2, hc, h1⟩ := h
  subst hv
  injection hv2 with e1 e2 e3
  subst e1 e3
  have hl : (TK.tvs (l.take k)).length = k * 4 := by rw [TK.tvs_len, List.length_take]; omega
  refine ⟨hl, ad, c, rfl, by omega, fun hk0 => ?_⟩
  obtain ⟨b, off, ha, hcell⟩ := h1 (by omega)
  refine ⟨b, off, ha, fun j hj => ?_⟩
  rw [hcell j (by omega)]
  have e : TK.tvs l = TK.tvs (l.take k) ++ TK.tvs (l.drop k) := by rw [← TK.tvs_app, List.take_append_drop]
  rw [e, List.getElem?_append_left (by omega)]
theorem tvs_one (l : List Tok) : ∀ u ∈ TK.tvs l, u.oneCell' = true := fun u hu => by
  unfold TK.tvs at hu
  obtain ⟨t, -, ht⟩ := List.mem_flatMap.1 hu
  simp only [TK.tvs1, List.mem_cons, List.not_mem_nil, or_false] at ht
  rcases ht with rfl | rfl | rfl | rfl <;> rfl

set_option maxRecDepth 100000 in
set_option maxHeartbeats 16000000 in
theorem stays_ (u v : Value) (l more : List Tok) (pk : Bool) (w : World) (hu : TLs w u l) (huk : ∀ t ∈ l, TokOk t) (hv : TLs w v more) (hvk : ∀ t ∈ more, TokOk t) (hT : TabP w) (hRT : w.cell? ⟨0, 0, none⟩ = some (.iface 181 (.agg #[.pointer (some ⟨4, 93, none⟩)]))) :
    Calls Tryz.prog 6 #[u, v, .bool pk] w fun e w' => e = .returned (.bool true) ∧ Up w w' := by
  obtain ⟨Post, hPost⟩ : ∃ P : Ending → World → Prop, P = fun e w' => e = .returned (.bool true) ∧ Up w w' := ⟨_, rfl⟩
  rw [← hPost]
  have HPo : Hid (Post = fun e w' => e = .returned (.bool true) ∧ Up w w') := hPost
  clear hPost
  obtain ⟨iT, hiT, y0, y1, y2⟩ := info_parts infoTok
  have HTB : Hid (TabP w) := hT
  have HRT : Hid _ := hRT
  have HU : Hid (TLs w u l) := hu
  have HV : Hid (TLs w v more) := hv
  have HOK : Hid (∀ t ∈ l, TokOk t) := huk
  have HVK : Hid (∀ t ∈ more, TokOk t) := hvk
  have HWK : Hid _ := works_ w hT hRT
  obtain ⟨ub, uc, rfl, -, -⟩ := TK.tl_at hu
  obtain ⟨mb, mc, rfl, -, -⟩ := TK.tl_at hv
  obtain ⟨n, hN⟩ : ∃ n, n = l.length := ⟨_, rfl⟩
  obtain ⟨ml, hM⟩ : ∃ n, n = more.length := ⟨_, rfl⟩
  have HNL : Hid (n = l.length) := hN
  have HML : Hid (ml = more.length) := hM
  rw [← hN] at HU ⊢
  rw [← hM] at HV ⊢
  clear hu huk hv hvk hT hRT hN hM
  go_enter Tryz.func6, Tryz.ntmps6
  go_wp2_with fail
  refine Calls.mono HWK.out ?_
  rintro r w1 ⟨rfl, u1⟩
  have HU1 : Hid (Up w w1) := u1
  clear u1 HWK
  by_cases hbig : 16384 < n
  · have hb2 : (16384 : Int) < (n : Int) := by omega
    go_wp2_with fail
    rw [HPo.out]
    exact ⟨rfl, HU1.out⟩
  by_cases hbig2 : 16384 < ml
  · have hb1 : ¬ (16384 : Int) < (n : Int) := by omega
    have hb2 : (16384 : Int) < (ml : Int) := by omega
    go_wp2_with fail
    rw [HPo.out]
    exact ⟨rfl, HU1.out⟩
  have hb1 : ¬ (16384 : Int) < (n : Int) := by omega
  have hb2 : ¬ (16384 : Int) < (ml : Int) := by omega
  have HRG : Hid _ := right_ (.slice ub n uc) l w1 (HU.out.up HU1.out) HOK.out (by have := HNL.out; omega)
  go_wp2_with fail
  refine Calls.mono HRG.out ?_
  rintro r w2 ⟨rv, rfl, hrow, u2⟩
  have HU2 : Hid (Up w w2) := HU1.out.trans u2
  obtain ⟨bt, off, c1, rfl, htm⟩ := rt_tm hrow HOK.out (by have := HNL.out; omega) (HTB.out.up HU2.out)
  have HTL : Hid (TLs w2 (.slice (some ⟨bt, off, none⟩) (rt keepT l).length c1) (rt keepT l)) := TK.own_tl hrow
  have HTD : Hid _ := told_ w2 bt off _ c1 (rt keepT l) pk htm (rt_may l) (HU2.out.cell HRT.out)
  have hcap := htm.cap
  have hlen := rt_len keepT l
  have hfl := List.length_filter_le keepT l
  obtain ⟨m, hm⟩ : ∃ m, m = (l.filter keepT).length := ⟨_, rfl⟩
  have HMF : Hid (m = (l.filter keepT).length) := hm
  rw [← hm] at hlen hfl
  obtain ⟨N, hN⟩ : ∃ N, N = (rt keepT l).length := ⟨_, rfl⟩
  have HRL : Hid (N = (rt keepT l).length) := hN
  rw [← hN] at HTD HTL hcap hlen ⊢
  have hmn0 : m ≤ 16384 := by have := HNL.out; omega
  subst hlen
  clear hrow u2 HRG htm hm hN hfl
  go_wp2_with fail
  refine Calls.mono HTD.out ?_
  rintro r w3 ⟨R, hR, rfl, u3⟩
  have HU3 : Hid (Up w w3) := HU2.out.trans u3
  have HU23 : Hid (Up w2 w3) := u3
  have HR : Hid (ans pk (rt keepT l) (fuel (rt keepT l)) = some R) := hR
  have hfit := ans_fit (rt_std keepT l) hR
  have HW : Hid (∀ V, Up w V → Calls Tryz.prog 8 #[] V fun e w' => e = .returned (.bool true) ∧ Up V w') := fun V h9 => works_ V (HTB.out.up h9) (h9.cell HRT.out)
  clear u3 HTD hR
  have e1 : IntKind.i64.wrap (((m + 1 : Nat) : Int) - 1) = (m : Int) := by rw [IntKind.wrap_i64]; omega
  have e1b : IntKind.i64.wrap ((m : Int) + 1 - 1) = (m : Int) := by rw [IntKind.wrap_i64]; omega
  have e2 : IntKind.i64.wrap ((m : Int) + 1) = (m : Int) + 1 := by rw [IntKind.wrap_i64]; omega
  have e3 : IntKind.i64.wrap (10 * (m : Int)) = 10 * (m : Int) := by rw [IntKind.wrap_i64]; omega
  have hok : (told R).1 = 0 ∨ ∃ q : Nat, q ≤ m ∧ idx R = q ∧ told R = ((told R).1, 10 * (q : Int)) ∧ ((told R).1 = 22 ∨ (told R).1 = 23) := by
    cases R with
    | ok f j => exact .inl rfl
    | bad er pp =>
      obtain ⟨h8, h9, h10⟩ := hfit
      refine .inr ⟨(pp / 10).toNat, ?_, rfl, ?_, h9⟩
      · have h11 : idx (.bad er pp) = (pp / 10).toNat := rfl
        rw [← HRL.out] at h8
        omega
      · show (er, pp) = (er, _)
        rw [← h10]
  clear hfit
  by_cases hz : (told R).1 = 0
  · /- it is no fault -/
    have HZ : Hid ((told R).1 = 0 ∨ (told R).2 = 10 * (m : Int)) := .inl hz
    rw [hz]
    generalize (told R).2 = p0
    clear hok hz
    go_upto_region 17 with fail
    skip
    have HLC : Hid (LC w3 (.slice (some ⟨bt, off, none⟩) m c1) 4 m (TK.tvs ((rt keepT l).take m))) := lc_take (HTL.out.up HU23.out) rfl (by omega)
    have hmn : (TK.tvs ((rt keepT l).take m)).length = m * 4 := HLC.out.1
    have HOW0 : Hid (w3.ownsRow w.heap.size 45 4 (.slice none 0 0) 0 []) := World.ownsRow_nil _ _ _ _
    have HLM : Hid (∀ V, Up w V → LC V (.slice mb ml mc) 4 ml (TK.tvs more)) := fun V hu => by have h9 := HV.out.up hu; unfold TLs at h9; rw [← HML.out] at h9; exact h9
    go_upto_region 18 with (first | (refine wpList_slice_h (by rfl) 22 (.tmp 73) (.tmp 74) (by rfl) 45 4 Tryz.underlying22 infoTs (some ⟨bt, off, none⟩) (m + 1) c1 m (by rfl) (by rfl) (by omega) ?_) | (at_builtin; go_loud (refine wpList_append_lc (by rfl) (.tmp 72) (.tmp 75) 22 (by rfl) w.heap.size 45 iT _ 4 40 Tryz.underlying22 hiT y0 y1 y2 (by rfl) (by decide) (.slice none 0 0) 0 [] (by rfl) HOW0.out (.slice (some ⟨bt, off, none⟩) m c1) m (TK.tvs ((rt keepT l).take m)) (by rfl) HLC.out (tvs_one _) (by unfold maxLen; omega) (by omega) HU3.out.size ?_; intro v' V hin hg1; have HOW1 : Hid (V.ownsRow w.heap.size 45 4 v' m (TK.tvs ((rt keepT l).take m))) := by { have h9 := hin; rw [Nat.zero_add, List.nil_append] at h9; exact h9 }; have HU4 : Hid (Up w V) := Below.grown HU3.out hg1 HU3.out.size (fun k9 hk => by cases hk); obtain ⟨fb, fd, hva⟩ : ∃ a c, v' = Value.slice a m c := row_val HOW1.out; subst hva; clear hin hg1 HOW0 HLC)))
    have HLM4 : Hid _ := HLM.out V HU4.out
    go_upto_region 19 with (at_builtin; go_loud (refine wpList_append_lc (by rfl) (.tmp 77) (.tmp 78) 22 (by rfl) w.heap.size 45 iT _ 4 40 Tryz.underlying22 hiT y0 y1 y2 (by rfl) (by decide) (.slice fb m fd) (m) (TK.tvs ((rt keepT l).take m)) (by rfl) HOW1.out (.slice mb ml mc) ml (TK.tvs more) (by rfl) HLM4.out (tvs_one _) (by unfold maxLen; omega) (by omega) HU4.out.size ?_; intro v' V2 hin hg1; have HOW2 : Hid (V2.ownsRow w.heap.size 45 4 v' (m + ml) (TK.tvs ((rt keepT l).take m ++ more))) := by { unfold Hid; rw [TK.tvs_app]; exact hin }; have HU5 : Hid (Up w V2) := Below.grown HU4.out hg1 HU4.out.size (fun k9 hk => (World.ownsRow.lt HOW1.out k9 hk).1); obtain ⟨fe, ff, hva⟩ : ∃ a c, v' = Value.slice a (m + ml) c := row_val hin; subst hva; clear hin hg1 HOW1 HLM HLM4))
    obtain ⟨ol, hol⟩ : ∃ o, o = (rt keepT l).take m ++ more := ⟨_, rfl⟩
    have HOL : Hid (ol = (rt keepT l).take m ++ more) := hol
    have holn : ol.length = m + ml := by rw [hol, List.length_append, List.length_take, ← HRL.out, ← HML.out]; omega
    have HOLN : Hid (ol.length = m + ml) := holn
    have HTL2 : Hid (TLs V2 (.slice fe (m + ml) ff) ol) := TK.own_tl (base := w.heap.size) (by rw [holn, hol]; exact HOW2.out)
    have HOK2 : Hid (∀ t ∈ ol, TokOk t) := fun t ht => by
      rw [hol] at ht
      rcases List.mem_append.1 ht with h9 | h9
      · exact rt_ok HOK.out t (List.mem_of_mem_take h9)
      · exact HVK.out t h9
    have HRG2 : Hid _ := right_ (.slice fe (m + ml) ff) ol V2 HTL2.out HOK2.out (by omega)
    clear hol holn HOW2 HTL2
    go_wp2_with fail
    refine Calls.mono HRG2.out ?_
    rintro r w5 ⟨rv, rfl, hrow2, u5⟩
    have HU6 : Hid (Up w w5) := HU5.out.trans u5
    obtain ⟨bt2, off2, c2, rfl, htm2⟩ := rt_tm hrow2 HOK2.out (by have := HOLN.out; omega) (HTB.out.up HU6.out)
    have HTD2 : Hid _ := told_ w5 bt2 off2 _ c2 (rt keepT ol) pk htm2 (rt_may ol) (HU6.out.cell HRT.out)
    clear hrow2 htm2 u5 HRG2
    generalize (rt keepT ol).length = N2 at HTD2 ⊢
    go_wp2_with fail
    refine Calls.mono HTD2.out ?_
    rintro r w6 ⟨Q, hQ, rfl, u6⟩
    have HU7 : Hid (Up w w6) := HU6.out.trans u6
    have hso := stays_ok (rt_std keepT ol) HR.out hQ HZ.out (k := m) (fun q9 hq9 => by rw [HOL.out]; exact rt_agree keep_at l more (by have := HMF.out; omega) hq9)
    clear hQ u6 HTD2
    generalize (told Q).1 = f0 at hso ⊢
    generalize (told Q).2 = t0 at hso ⊢
    by_cases hf : f0 = 0
    · subst hf
      clear hso
      go_wp2_with fail
      rw [HPo.out]
      exact ⟨rfl, HU7.out⟩
    · have hso2 := hso.resolve_left hf
      have hfb : (f0 == 0) = false := by simpa using hf
      clear hso
      go_wp2_with fail
      rw [HPo.out]
      exact ⟨rfl, HU7.out⟩
  · obtain ⟨q, hq, hix, ht, h22⟩ := hok.resolve_left hz
    obtain ⟨er, her⟩ : ∃ e, e = (told R).1 := ⟨_, rfl⟩
    rw [← her] at ht h22 hz
    have ht1 : (told R).2 = 10 * (q : Int) := by rw [ht]
    rw [← her, ht1]
    have hn1 : ¬ er = 1 := by omega
    have hn1b : (er == 1) = false := by simpa using hn1
    have hn0b : (er == 0) = false := by simpa using hz
    have d1 : (10 * (q : Int)).tdiv 10 = (q : Int) := by rw [Int.tdiv_eq_ediv_of_nonneg (by omega)]; omega
    have d2 : (10 * (q : Int)).tmod 10 = 0 := by rw [Int.tmod_eq_emod_of_nonneg (by omega)]; omega
    have d3 : IntKind.i64.wrap (q : Int) = (q : Int) := by rw [IntKind.wrap_i64]; omega
    have d4 : ¬ (q : Int) < 0 := by omega
    have d5 : ¬ (m : Int) + 1 ≤ (q : Int) := by omega
    have d6 : IntKind.i64.wrap ((q : Int) + 1) = (q : Int) + 1 := by rw [IntKind.wrap_i64]; omega
    have d7 : IntKind.i64.wrap (0 : Int) = 0 := by rw [IntKind.wrap_i64]; omega
    have HT : Hid (told R = (er, 10 * (q : Int)) ∧ idx R = q) := ⟨ht, hix⟩
    clear ht hix her hok h22 ht1
    obtain ⟨p0, hp0⟩ : ∃ p : Int, p = 10 * (q : Int) := ⟨_, rfl⟩
    have HP0 : Hid (p0 = 10 * (q : Int)) := hp0
    rw [← hp0] at d1 d2 ⊢
    clear hp0
    by_cases hqm : q < m
    · have hqm2 : (q : Int) < (m : Int) := by omega
      go_upto_region 17 with fail
      skip
      have HLC : Hid (LC w3 (.slice (some ⟨bt, off, none⟩) (q + 1) c1) 4 (q + 1) (TK.tvs ((rt keepT l).take (q + 1)))) := lc_take (HTL.out.up HU23.out) rfl (by omega)
      have hmn : (TK.tvs ((rt keepT l).take (q + 1))).length = (q + 1) * 4 := HLC.out.1
      have HOW0 : Hid (w3.ownsRow w.heap.size 45 4 (.slice none 0 0) 0 []) := World.ownsRow_nil _ _ _ _
      have HLM : Hid (∀ V, Up w V → LC V (.slice mb ml mc) 4 ml (TK.tvs more)) := fun V hu => by have h9 := HV.out.up hu; unfold TLs at h9; rw [← HML.out] at h9; exact h9
      go_upto_region 18 with (first | (refine wpList_slice_h (by rfl) 22 (.tmp 73) (.tmp 74) (by rfl) 45 4 Tryz.underlying22 infoTs (some ⟨bt, off, none⟩) (m + 1) c1 (q + 1) (by rfl) (by rfl) (by omega) ?_) | (at_builtin; go_loud (refine wpList_append_lc (by rfl) (.tmp 72) (.tmp 75) 22 (by rfl) w.heap.size 45 iT _ 4 40 Tryz.underlying22 hiT y0 y1 y2 (by rfl) (by decide) (.slice none 0 0) 0 [] (by rfl) HOW0.out (.slice (some ⟨bt, off, none⟩) (q + 1) c1) (q + 1) (TK.tvs ((rt keepT l).take (q + 1))) (by rfl) HLC.out (tvs_one _) (by unfold maxLen; omega) (by omega) HU3.out.size ?_; intro v' V hin hg1; have HOW1 : Hid (V.ownsRow w.heap.size 45 4 v' (q + 1) (TK.tvs ((rt keepT l).take (q + 1)))) := by { have h9 := hin; rw [Nat.zero_add, List.nil_append] at h9; exact h9 }; have HU4 : Hid (Up w V) := Below.grown HU3.out hg1 HU3.out.size (fun k9 hk => by cases hk); obtain ⟨fb, fd, hva⟩ : ∃ a c, v' = Value.slice a (q + 1) c := row_val HOW1.out; subst hva; clear hin hg1 HOW0 HLC)))
      have HLM4 : Hid _ := HLM.out V HU4.out
      go_upto_region 19 with (at_builtin; go_loud (refine wpList_append_lc (by rfl) (.tmp 77) (.tmp 78) 22 (by rfl) w.heap.size 45 iT _ 4 40 Tryz.underlying22 hiT y0 y1 y2 (by rfl) (by decide) (.slice fb (q + 1) fd) ((q + 1)) (TK.tvs ((rt keepT l).take (q + 1))) (by rfl) HOW1.out (.slice mb ml mc) ml (TK.tvs more) (by rfl) HLM4.out (tvs_one _) (by unfold maxLen; omega) (by omega) HU4.out.size ?_; intro v' V2 hin hg1; have HOW2 : Hid (V2.ownsRow w.heap.size 45 4 v' ((q + 1) + ml) (TK.tvs ((rt keepT l).take (q + 1) ++ more))) := by { unfold Hid; rw [TK.tvs_app]; exact hin }; have HU5 : Hid (Up w V2) := Below.grown HU4.out hg1 HU4.out.size (fun k9 hk => (World.ownsRow.lt HOW1.out k9 hk).1); obtain ⟨fe, ff, hva⟩ : ∃ a c, v' = Value.slice a ((q + 1) + ml) c := row_val hin; subst hva; clear hin hg1 HOW1 HLM HLM4))
      obtain ⟨ol, hol⟩ : ∃ o, o = (rt keepT l).take (q + 1) ++ more := ⟨_, rfl⟩
      have HOL : Hid (ol = (rt keepT l).take (q + 1) ++ more) := hol
      have holn : ol.length = (q + 1) + ml := by rw [hol, List.length_append, List.length_take, ← HRL.out, ← HML.out]; omega
      have HOLN : Hid (ol.length = (q + 1) + ml) := holn
      have HTL2 : Hid (TLs V2 (.slice fe ((q + 1) + ml) ff) ol) := TK.own_tl (base := w.heap.size) (by rw [holn, hol]; exact HOW2.out)
      have HOK2 : Hid (∀ t ∈ ol, TokOk t) := fun t ht => by
        rw [hol] at ht
        rcases List.mem_append.1 ht with h9 | h9
        · exact rt_ok HOK.out t (List.mem_of_mem_take h9)
        · exact HVK.out t h9
      have HRG2 : Hid _ := right_ (.slice fe ((q + 1) + ml) ff) ol V2 HTL2.out HOK2.out (by omega)
      clear hol holn HOW2 HTL2
      go_wp2_with fail
      refine Calls.mono HRG2.out ?_
      rintro r w5 ⟨rv, rfl, hrow2, u5⟩
      have HU6 : Hid (Up w w5) := HU5.out.trans u5
      obtain ⟨bt2, off2, c2, rfl, htm2⟩ := rt_tm hrow2 HOK2.out (by have := HOLN.out; omega) (HTB.out.up HU6.out)
      have HTD2 : Hid _ := told_ w5 bt2 off2 _ c2 (rt keepT ol) pk htm2 (rt_may ol) (HU6.out.cell HRT.out)
      clear hrow2 htm2 u5 HRG2
      generalize (rt keepT ol).length = N2 at HTD2 ⊢
      go_wp2_with fail
      refine Calls.mono HTD2.out ?_
      rintro r w6 ⟨Q, hQ, rfl, u6⟩
      have HU7 : Hid (Up w w6) := HU6.out.trans u6
      have hsb : told Q = told R := stays_bad (rt_std keepT l) HR.out hQ (fun q9 hq9 => by rw [HOL.out]; exact rt_agree keep_at l more (by have := HMF.out; omega) (by have := HT.out.2; omega))
      rw [HT.out.1] at hsb
      have hs1 : (told Q).1 = er := by rw [hsb]
      have hs2 : (told Q).2 = p0 := by rw [hsb, HP0.out]
      rw [hs1, hs2]
      clear hQ u6 HTD2 hsb hs1 hs2
      go_wp2_with fail
      rw [HPo.out]
      exact ⟨rfl, HU7.out⟩
    · have hqm2 : ¬ (q : Int) < (m : Int) := by omega
      obtain rfl : q = m := by omega
      have HZ : Hid ((told R).1 = 0 ∨ (told R).2 = 10 * (q : Int)) := .inr (by rw [HT.out.1])
      go_upto_region 17 with fail
      skip
      have HLC : Hid (LC w3 (.slice (some ⟨bt, off, none⟩) q c1) 4 q (TK.tvs ((rt keepT l).take q))) := lc_take (HTL.out.up HU23.out) rfl (by omega)
      have hmn : (TK.tvs ((rt keepT l).take q)).length = q * 4 := HLC.out.1
      have HOW0 : Hid (w3.ownsRow w.heap.size 45 4 (.slice none 0 0) 0 []) := World.ownsRow_nil _ _ _ _
      have HLM : Hid (∀ V, Up w V → LC V (.slice mb ml mc) 4 ml (TK.tvs more)) := fun V hu => by have h9 := HV.out.up hu; unfold TLs at h9; rw [← HML.out] at h9; exact h9
      go_upto_region 18 with (first | (refine wpList_slice_h (by rfl) 22 (.tmp 73) (.tmp 74) (by rfl) 45 4 Tryz.underlying22 infoTs (some ⟨bt, off, none⟩) (q + 1) c1 q (by rfl) (by rfl) (by omega) ?_) | (at_builtin; go_loud (refine wpList_append_lc (by rfl) (.tmp 72) (.tmp 75) 22 (by rfl) w.heap.size 45 iT _ 4 40 Tryz.underlying22 hiT y0 y1 y2 (by rfl) (by decide) (.slice none 0 0) 0 [] (by rfl) HOW0.out (.slice (some ⟨bt, off, none⟩) q c1) q (TK.tvs ((rt keepT l).take q)) (by rfl) HLC.out (tvs_one _) (by unfold maxLen; omega) (by omega) HU3.out.size ?_; intro v' V hin hg1; have HOW1 : Hid (V.ownsRow w.heap.size 45 4 v' q (TK.tvs ((rt keepT l).take q))) := by { have h9 := hin; rw [Nat.zero_add, List.nil_append] at h9; exact h9 }; have HU4 : Hid (Up w V) := Below.grown HU3.out hg1 HU3.out.size (fun k9 hk => by cases hk); obtain ⟨fb, fd, hva⟩ : ∃ a c, v' = Value.slice a q c := row_val HOW1.out; subst hva; clear hin hg1 HOW0 HLC)))
      have HLM4 : Hid _ := HLM.out V HU4.out
      go_upto_region 19 with (at_builtin; go_loud (refine wpList_append_lc (by rfl) (.tmp 77) (.tmp 78) 22 (by rfl) w.heap.size 45 iT _ 4 40 Tryz.underlying22 hiT y0 y1 y2 (by rfl) (by decide) (.slice fb q fd) (q) (TK.tvs ((rt keepT l).take q)) (by rfl) HOW1.out (.slice mb ml mc) ml (TK.tvs more) (by rfl) HLM4.out (tvs_one _) (by unfold maxLen; omega) (by omega) HU4.out.size ?_; intro v' V2 hin hg1; have HOW2 : Hid (V2.ownsRow w.heap.size 45 4 v' (q + ml) (TK.tvs ((rt keepT l).take q ++ more))) := by { unfold Hid; rw [TK.tvs_app]; exact hin }; have HU5 : Hid (Up w V2) := Below.grown HU4.out hg1 HU4.out.size (fun k9 hk => (World.ownsRow.lt HOW1.out k9 hk).1); obtain ⟨fe, ff, hva⟩ : ∃ a c, v' = Value.slice a (q + ml) c := row_val hin; subst hva; clear hin hg1 HOW1 HLM HLM4))
      obtain ⟨ol, hol⟩ : ∃ o, o = (rt keepT l).take q ++ more := ⟨_, rfl⟩
      have HOL : Hid (ol = (rt keepT l).take q ++ more) := hol
      have holn : ol.length = q + ml := by rw [hol, List.length_append, List.length_take, ← HRL.out, ← HML.out]; omega
      have HOLN : Hid (ol.length = q + ml) := holn
      have HTL2 : Hid (TLs V2 (.slice fe (q + ml) ff) ol) := TK.own_tl (base := w.heap.size) (by rw [holn, hol]; exact HOW2.out)
      have HOK2 : Hid (∀ t ∈ ol, TokOk t) := fun t ht => by
        rw [hol] at ht
        rcases List.mem_append.1 ht with h9 | h9
        · exact rt_ok HOK.out t (List.mem_of_mem_take h9)
        · exact HVK.out t h9
      have HRG2 : Hid _ := right_ (.slice fe (q + ml) ff) ol V2 HTL2.out HOK2.out (by omega)
      clear hol holn HOW2 HTL2
      go_wp2_with fail
      refine Calls.mono HRG2.out ?_
      rintro r w5 ⟨rv, rfl, hrow2, u5⟩
      have HU6 : Hid (Up w w5) := HU5.out.trans u5
      obtain ⟨bt2, off2, c2, rfl, htm2⟩ := rt_tm hrow2 HOK2.out (by have := HOLN.out; omega) (HTB.out.up HU6.out)
      have HTD2 : Hid _ := told_ w5 bt2 off2 _ c2 (rt keepT ol) pk htm2 (rt_may ol) (HU6.out.cell HRT.out)
      clear hrow2 htm2 u5 HRG2
      generalize (rt keepT ol).length = N2 at HTD2 ⊢
      go_wp2_with fail
      refine Calls.mono HTD2.out ?_
      rintro r w6 ⟨Q, hQ, rfl, u6⟩
      have HU7 : Hid (Up w w6) := HU6.out.trans u6
      have hso := stays_ok (rt_std keepT ol) HR.out hQ HZ.out (k := q) (fun q9 hq9 => by rw [HOL.out]; exact rt_agree keep_at l more (by have := HMF.out; omega) hq9)
      clear hQ u6 HTD2
      generalize (told Q).1 = f0 at hso ⊢
      generalize (told Q).2 = t0 at hso ⊢
      by_cases hf : f0 = 0
      · subst hf
        clear hso
        go_wp2_with fail
        rw [HPo.out]
        exact ⟨rfl, HU7.out⟩
      · have hso2 := hso.resolve_left hf
        have hfb : (f0 == 0) = false := by simpa using hf
        clear hso
        go_wp2_with fail
        rw [HPo.out]
        exact ⟨rfl, HU7.out⟩
end TP
end Go.Proofs.YtkldllnnocdhbaaGreatDoor
