/-
  Decode: a zone.
-/
import Derived.Test.YtmpamcdobhiipaaGreatDoorSr7ToWp
import Derived.Test.YtmpamcdobhiipaaGreatDoorWsToRa
namespace Go.Proofs.YtmpamcdobhiipaaGreatDoor
open Go.RowKit
attribute [local go_sem ↓] Go.wp_at_zero Go.wp_at_succ

namespace IM
open Go.Proofs.YtmpamcdobhiipaaGreatDoor.ST
theorem infoInt : (Tryz.prog.info? 3).map (fun i => (i.zero, i.size, i.bytes)) = some (some (.int .i64 0), 1, 8) := by kernel_rfl
theorem infoRow : (Tryz.prog.info? 84).map (fun i => (i.zero, i.size, i.bytes)) = some (some (.slice none 0 0), 1, 24) := by kernel_rfl
theorem rep_err {α : Type} {p : Rdr α} {l : List Int} {r : Nat} : ∀ {n : Nat} (k : Nat), rep p n l = .error r → rep p (n + k) l = .error r
  | n, 0, h => h
  | n, k + 1, h => by
    rw [← Nat.add_assoc, rep_snoc, bnd_no (rep_err k h)]
theorem _root_.Go.Proofs.YtmpamcdobhiipaaGreatDoor.ST.RA.snoc {n : Nat} {vs : List Value} {x : Value} (h : RA n vs) (hl : vs.length = n) (hx : ∀ p g, p < n → (vs.getD p nl).ownBlock = some g → x.ownBlock ≠ some g) : RA (n + 1) (vs ++ [x]) := by
  have e1 : (vs ++ [x]).getD n nl = x := by rw [List.getD_eq_getElem?_getD, List.getElem?_append_right (by omega), show n - vs.length = 0 by omega]; rfl
  have e2 : ∀ p, p < n → (vs ++ [x]).getD p nl = vs.getD p nl := fun p hp => by simp [List.getD, List.getElem?_append_left (show p < vs.length by omega)]
  intro p q g hp hq hpq h1 h2
  by_cases hpn : p = n
  · subst hpn
    rw [e1] at h1
    rw [e2 q (by omega)] at h2
    exact hx q g (by omega) h2 h1
  · rw [e2 p (by omega)] at h1
    by_cases hqn : q = n
    · subst hqn
      rw [e1] at h2
      exact hx p g (by omega) h1 h2
    · rw [e2 q (by omega)] at h2
      exact h p q g (by omega) (by omega) hpq h1 h2
def ZW (base : Nat) (W : World) (vz : Value) (zs : List (List Int)) : Prop := ∃ vs : List Value, vs.length = zs.length ∧ W.ownsRow base 84 1 vz zs.length vs ∧ (∀ i, i < zs.length → W.ownsRow base 3 1 (vs.getD i nl) (zs.getD i []).length (ivs (zs.getD i []))) ∧ RA zs.length vs
/- what zone leaves -/
def ZnP (w0 : World) (rb : Nat) (vb : Value) (B : List Int) (C : Array Value) (vz : Value) (zs : List (List Int)) (w : World) (r : Except Nat (List Int × List Int)) (x : Ending) (w' : World) : Prop := match r with
  | .ok (z, rest) => x = .returned (.bool true) ∧ ∃ C' vz', RD w0 rb vb B (B.length - rest.length) C' w' ∧ C'[4]? = some vz' ∧ (∀ j, 2 ≤ j → j ≠ 4 → C'[j]? = C[j]?) ∧ ZW w0.heap.size w' vz' (zs ++ [z]) ∧ Kb (fun x => x = rb ∨ vz.ownBlock = some x) w w'
  | .error r => x = .returned (.bool false) ∧ ∃ C', RD w0 rb vb B (B.length - r) C' w'
set_option maxRecDepth 100000 in
set_option maxHeartbeats 2000000 in
theorem zone_ (w0 : World) (rb : Nat) (vb : Value) (B : List Int) (at_ : Nat) (C : Array Value) (w : World) (h : RD w0 rb vb B at_ C w) (vz : Value) (zs : List (List Int)) (hvz : C[4]? = some vz) (hown : ZW w0.heap.size w vz zs) (hn : zs.length ≤ 100000) :
    Calls Tryz.prog 70 #[.pointer (some ⟨rb, 0, none⟩)] w (ZnP w0 rb vb B C vz zs w (rdZ (B.drop at_))) := by
  obtain ⟨iI, hiI, a0, a1, a2⟩ := info_parts infoInt
  obtain ⟨iR, hiR, b0, b1, b2⟩ := info_parts infoRow
  obtain ⟨Post, hPost⟩ : ∃ P : Ending → World → Prop, P = ZnP w0 rb vb B C vz zs w (rdZ (B.drop at_)) := ⟨_, rfl⟩
  rw [← hPost]
  have HPo : Hid (Post = _) := hPost
  clear hPost
  have hrl : rb < w.heap.size := (Array.getElem?_eq_some_iff.1 h.hp).1
  have hwl := h.up.size
  have hrv := rv_in B h.byt at_ 2 (by decide)
  have HNU : Hid _ := number_ rb vb B at_ 2 w h.rr (by decide) (by decide)
  have H : Hid _ := h
  have HOW : Hid _ := hown
  obtain ⟨va, vc, hv⟩ : ∃ a c, vz = .slice a zs.length c := by
    obtain ⟨vs, -, ho, -⟩ := hown
    exact row_val ho
  obtain ⟨n, hn9⟩ : ∃ n, n = zs.length := ⟨_, rfl⟩
  have HN : Hid (n = zs.length) := hn9
  rw [← hn9] at hn hv
  have HVZ : Hid (vz = .slice va n vc ∧ C[4]? = some vz) := ⟨hv, hvz⟩
  clear hown h hn9 hv hvz
  go_enter Tryz.func70, Tryz.ntmps70
  go_wp2_with fail
  refine Calls.mono HNU.out ?_
  rintro r W1 ⟨rfl, k, hW1⟩
  clear HNU
  unfold rok
  unfold rw_ at hW1
  by_cases hk : at_ + 2 ≤ B.length
  · rw [if_pos hk] at hW1
    rw [decide_eq_true hk]
    obtain ⟨M, hM⟩ : ∃ M : Nat, (M : Int) = rv B at_ 2 := ⟨(rv B at_ 2).toNat, by omega⟩
    have hM6 : M < 65536 := by
      have h1 := vl_lt 2 ((B.drop at_).take 2) (by rw [List.length_take, List.length_drop]; omega) (fun c hc => H.out.byt c (List.mem_of_mem_drop (List.mem_of_mem_take hc)))
      unfold rv at hM
      rw [if_pos hk] at hM
      have : (256 : Int) ^ 2 = 65536 := by decide
      omega
    have HRZ : Hid (rdZ (B.drop at_) = rep num2 M (B.drop (at_ + 2))) := by
      unfold Hid rdZ
      rw [bnd_go (x := rv B at_ 2) (l1 := B.drop (at_ + 2)) (by rw [num2_at, if_pos hk]), ← hM]
      rfl
    rw [← hM]
    have R1 : RD w0 rb vb B (at_ + 2) (C.setIfInBounds 1 (.int .i64 ((at_ + 2 : Nat) : Int))) W1 := by rw [hW1]; exact H.out.go k (at_ + 2) hk
    have K1 : Kb (fun x => x = rb ∨ w.heap.size ≤ x) w W1 := by rw [hW1]; exact Kb.set k (.inl rfl)
    have HRK : Hid _ := And.intro R1 K1
    clear hW1 hM hrv R1 K1
    go_wp2_with fail
    go_loopw [4, 5, 6] (fun s4 s5 s6 W => ∃ (l : List Int) (ea : Option Addr) (ec p x : Nat) (o : Bool), s5 = .slice ea l.length ec ∧ s4 = .bool o ∧ s6 = .int .i64 x ∧ x ≤ M ∧ l.length ≤ M ∧ W.ownsRow w.heap.size 3 1 (.slice ea l.length ec) l.length (ivs l) ∧ Kb (fun x => x = rb ∨ w.heap.size ≤ x) w W ∧ RD w0 rb vb B p (C.setIfInBounds 1 (.int .i64 ((p : Nat) : Int))) W ∧ (if o = true then p = at_ + 2 + 2 * l.length ∧ x + l.length = M ∧ rep num2 l.length (B.drop (at_ + 2)) = .ok (l, B.drop p) else rep num2 M (B.drop (at_ + 2)) = .error (B.length - p))) (fun _ _ s6 _ => (intOf s6).toNat)
    case atStart => exact ⟨[], none, 0, at_ + 2, M, true, rfl, rfl, rfl, Nat.le_refl _, Nat.zero_le _, World.ownsRow_nil _ _ _ _, HRK.out.2, HRK.out.1, by rw [if_pos rfl]; exact ⟨rfl, rfl, rfl⟩⟩
    case round =>
      obtain ⟨l, ea, ec, p, x, o, rfl, rfl, rfl, hx, hl, ho, hK, hR, hO⟩ := hrel
      clear HRK
      by_cases hgo : o = true ∧ 0 < x
      · obtain ⟨rfl, hx0⟩ := hgo
        rw [if_pos rfl] at hO
        obtain ⟨rfl, hxl, hrep⟩ := hO
        have hx1 : (0 : Int) < (x : Int) := by omega
        obtain ⟨V1, hV1⟩ : ∃ V1, wr.alloc (.cells #[.int .i64 0] 3) = V1 := ⟨_, rfl⟩
        have uV : Up wr V1 := by rw [← hV1]; exact (Up.refl _).alloc _
        have gV : V1.heap[wr.heap.size]? = some (.cells #[.int .i64 0] 3 (0, 0)) := by rw [← hV1]; exact heap_alloc_new _ _
        have RV : RD w0 rb vb B (at_ + 2 + 2 * l.length) (C.setIfInBounds 1 (.int .i64 ((at_ + 2 + 2 * l.length : Nat) : Int))) V1 := by rw [← hV1]; exact hR.alloc _
        have hrw : rb < wr.heap.size := (Array.getElem?_eq_some_iff.1 hR.hp).1
        have hww := hK.2
        have HIN : Hid _ := into_ rb vb B (at_ + 2 + 2 * l.length) 2 wr.heap.size 0 (.int .i64 0) V1 RV.rr (by decide) (by decide) (fun k => by
          have hh : (rw_ rb B (at_ + 2 + 2 * l.length) 2 k V1).heap[wr.heap.size]? = some (.cells #[.int .i64 0] 3 (0, 0)) := by
            unfold rw_
            split
            · exact set_other (W := V1.drewN k) gV (by omega)
            · exact gV
          exact ⟨by simp only [World.cell?, hh]; rfl, seven_f hh 0⟩)
        have KV : Kb (fun x => x = rb ∨ w.heap.size ≤ x) w V1 := Kb.trans hK (Kb.of_up uV)
        have HKE : Hid (∀ V, Kb (fun x => x = rb ∨ wr.heap.size ≤ x) V1 V → V.ownsRow w.heap.size 3 1 (.slice ea l.length ec) l.length (ivs l)) := fun V kk => row_keep ho (fun b o hb hbo => kk.1 b o (uV.heap hbo) (by
          rintro (e9 | e9)
          · exact ne_rb ho hR.hp (by decide) (by rw [hb, e9])
          · have := (Array.getElem?_eq_some_iff.1 hbo).1; omega))
        clear ho hK hR
        go_wp2_with fail
        first | (refine Calls.mono HIN.out ?_) | (refine calls_world hV1 (Calls.mono HIN.out ?_))
        rintro r V2 ⟨rfl, k2, hV2⟩
        clear HIN hV1
        unfold rok
        unfold rw_ at hV2
        obtain ⟨y, hy⟩ : ∃ y, y = rv B (at_ + 2 + 2 * l.length) 2 := ⟨_, rfl⟩
        rw [← hy] at hV2
        have HEN : Hid (∃ (o : Bool) (p : Nat), decide (at_ + 2 + 2 * l.length + 2 ≤ B.length) = o ∧ RD w0 rb vb B p (C.setIfInBounds 1 (.int .i64 ((p : Nat) : Int))) V2 ∧ Kb (fun x => x = rb ∨ wr.heap.size ≤ x) V1 V2 ∧ V2.heap[wr.heap.size]? = some (.cells #[.int .i64 y] 3 (0, 0)) ∧ (if o = true then p = at_ + 2 + 2 * (l.length + 1) ∧ rep num2 (l.length + 1) (B.drop (at_ + 2)) = .ok (l ++ [y], B.drop p) else rep num2 M (B.drop (at_ + 2)) = .error (B.length - p))) := by
          by_cases hk2 : at_ + 2 + 2 * l.length + 2 ≤ B.length
          · rw [if_pos hk2] at hV2
            refine ⟨true, at_ + 2 + 2 * l.length + 2, decide_eq_true hk2, ?_, ?_, ?_, ?_⟩
            · have h9 := (RV.go k2 (at_ + 2 + 2 * l.length + 2) hk2).other wr.heap.size 0 (.int .i64 y) (by omega) (by omega)
              rw [set_set] at h9
              rw [hV2]
              exact h9
            · rw [hV2]
              exact Kb.trans (Kb.set (w := V1) k2 (.inl rfl)) (Kb.set (w := (V1.drewN k2).setCell ⟨rb, 1, none⟩ _) 0 (.inr (Nat.le_refl _)))
            · rw [hV2]
              exact set_cells (set_other (W := V1.drewN k2) gV (by omega))
            · rw [if_pos rfl]
              refine ⟨by omega, ?_⟩
              rw [rep_snoc, bnd_go hrep, bnd_go (x := y) (l1 := B.drop (at_ + 2 + 2 * l.length + 2)) (by rw [num2_at, if_pos hk2, hy])]
              rfl
          · rw [if_neg hk2] at hV2
            refine ⟨false, at_ + 2 + 2 * l.length, decide_eq_false hk2, ?_, ?_, ?_, ?_⟩
            · rw [hV2]
              exact (RV.drew k2).other _ _ _ (by omega) (by omega)
            · rw [hV2]
              exact Kb.set (w := V1) k2 (.inr (Nat.le_refl _))
            · rw [hV2]
              exact set_cells (W := V1.drewN k2) gV
            · rw [if_neg (by decide)]
              have h9 : rep num2 (l.length + 1) (B.drop (at_ + 2)) = .error (B.length - (at_ + 2 + 2 * l.length)) := by
                rw [rep_snoc, bnd_go hrep, bnd_no (r := B.length - (at_ + 2 + 2 * l.length)) (by rw [num2_at, if_neg hk2])]
              have h8 := rep_err (M - (l.length + 1)) h9
              rw [show l.length + 1 + (M - (l.length + 1)) = M by omega] at h8
              exact h8
        obtain ⟨o2, p2, ho2, R2, K2, G2, hO2⟩ := HEN.out
        rw [ho2]
        have O2 := HKE.out V2 K2
        have e0 : V2.cell? ⟨wr.heap.size, 0, none⟩ = some (.int .i64 y) := by simp only [World.cell?, G2]; rfl
        have KW2 : Kb (fun x => x = rb ∨ w.heap.size ≤ x) w V2 := Kb.trans KV (K2.more (fun g hg => hg.imp id (fun h => Nat.le_trans hww h)))
        have ex : IntKind.i64.wrap ((x : Int) - 1) = ((x - 1 : Nat) : Int) := by rw [IntKind.wrap_i64]; omega
        have HV : Hid ((V2.alloc (.cells #[.int .i64 y] 3)).ownsRow w.heap.size 3 1 (.slice ea l.length ec) l.length (ivs l)) := O2.alloc _
        have HM : Hid (∀ j u, [Value.int .i64 y][j]? = some u → (V2.alloc (.cells #[.int .i64 y] 3)).cell? ((⟨V2.heap.size, 0, none⟩ : Addr).add j) = some u) := World.news_of_block (cs := #[.int .i64 y]) (t := 3) (fr := (0, 0)) (heap_alloc_new V2 _)
        have HS : Hid (w.heap.size ≤ (V2.alloc (.cells #[.int .i64 y] 3)).heap.size) := by have := KW2.2; unfold Hid; simp; omega
        have hl3 : l.length < M := by omega
        have HF : Hid (∀ v' V, V.ownsRow w.heap.size 3 1 v' (l.length + 1) (ivs l ++ [.int .i64 y]) → (V2.alloc (.cells #[.int .i64 y] 3)).grownBy V (Value.slice ea l.length ec).ownBlock → V.ownsRow w.heap.size 3 1 v' (l ++ [y]).length (ivs (l ++ [y])) ∧ Kb (fun x => x = rb ∨ w.heap.size ≤ x) w V ∧ RD w0 rb vb B p2 (C.setIfInBounds 1 (.int .i64 ((p2 : Nat) : Int))) V) := fun v' V h1 h2 => by
          have hU : Up V2 (V2.alloc (.cells #[.int .i64 y] 3)) := (Up.refl _).alloc _
          have hne := ne_rb HV.out (hU.heap R2.hp) (by decide)
          have hp9 : V.heap[rb]? = some (.cells (C.setIfInBounds 1 (.int .i64 ((p2 : Nat) : Int))) 69 (0, 0)) := by
            rw [h2.block rb (Array.getElem?_eq_some_iff.1 (hU.heap R2.hp)).1 (fun e => hne e.symm)]
            exact hU.heap R2.hp
          refine ⟨by rw [List.length_append, show ivs (l ++ [y]) = ivs l ++ [.int .i64 y] by simp [ivs]]; exact h1, ⟨fun g o hg hx => ?_, ?_⟩, ⟨hp9, R2.sz, R2.v0, R2.v1, Below.grown (R2.up.alloc _) h2 (Nat.le_trans hwl HS.out) (fun k hk => Nat.le_trans hwl (HV.out.lt k hk).1), R2.le, R2.bl, R2.byt, R2.len, R2.at_le⟩⟩
          · have q1 := hU.heap (KW2.1 g o hg hx)
            rw [h2.block g (Array.getElem?_eq_some_iff.1 q1).1 (fun e9 => hx (.inr ((HV.out.lt g e9.symm).1)))]
            exact q1
          · have q1 := KW2.2
            have q2 := h2.size
            have q3 := hU.size
            omega
        have HO2 : Hid _ := hO2
        clear hV2 HEN ho2 R2 K2 G2 hO2 O2 KW2 KV RV gV hrep HKE hy
        go_wp2_with (at_builtin; go_loud (refine wpList_append_own _ (by rfl) (.tmp 23) (.tmp 25) 84 (by rfl) w.heap.size 3 iI _ 1 8 Tryz.underlying84 hiI a0 a1 a2 (by rfl) (by decide) (.slice ea l.length ec) l.length (ivs l) (by rfl) HV.out ⟨V2.heap.size, 0, none⟩ 1 1 [.int .i64 y] (by rfl) (by rfl) HM.out (by simp [Value.oneCell']) (by unfold maxLen; omega) (by omega) HS.out ?_; intro v' V hin hg1 _; have HG : Hid _ := HF.out v' V hin hg1; obtain ⟨fa, fc, hva⟩ : ∃ a c, v' = Value.slice a (l.length + 1) c := row_val hin; subst hva; clear hin hg1))
        go_roundw
        case rel =>
          refine ⟨l ++ [y], fa, fc, p2, x - 1, o2, by simp, rfl, by go_num, by omega, by simp; omega, ?_, HG.out.2.1, HG.out.2.2, ?_⟩
          · have h9 := HG.out.1
            rw [List.length_append] at h9 ⊢
            exact h9
          · have h9 := HO2.out
            rw [List.length_append, List.length_singleton]
            cases o2 with
            | true =>
              rw [if_pos rfl]
              have h9 := (show _ ∧ _ from h9)
              exact ⟨h9.1, by omega, h9.2⟩
            | false =>
              rw [if_neg (by decide)]
              exact h9
        case measure => simp [intOf]; omega
      · by_cases ho1 : o = true
        · subst ho1
          rw [if_pos rfl] at hO
          obtain ⟨rfl, hxl, hrep⟩ := hO
          obtain rfl : x = 0 := by
            by_cases h0 : x = 0
            · exact h0
            · exact absurd ⟨rfl, by omega⟩ hgo
          have HRP : Hid (rdZ (B.drop at_) = .ok (l, B.drop (at_ + 2 + 2 * l.length))) := by
            unfold Hid
            rw [HRZ.out, ← hrep]
            congr 1
            omega
          clear hgo hrep
          have HC4 : Hid ((C.setIfInBounds 1 (.int .i64 ((at_ + 2 + 2 * l.length : Nat) : Int)))[4]? = some (.slice va n vc)) := by
            unfold Hid
            rw [Array.getElem?_setIfInBounds_ne (by decide), HVZ.out.2, HVZ.out.1]
          have d1 : wr.cell? ⟨rb, 4, none⟩ = some (.slice va n vc) := by simp only [World.cell?, hR.hp]; exact HC4.out
          have hlx : rb < wr.heap.size := (Array.getElem?_eq_some_iff.1 hR.hp).1
          obtain ⟨vs, hvs, hvo, hvr, hra⟩ := id HOW.out
          rw [← HN.out] at hvs hvo hvr hra
          have HOL : Hid (RA (n + 1) (vs ++ [Value.slice ea l.length ec])) := hra.snoc hvs (fun p g hp hg hx => by
            have h1 := ((hvr p hp).lt g hg).2
            have h2 := (World.ownsRow.lt ho g hx).1
            omega)
          clear hra
          have hkeep : ∀ {e m : Nat} {v : Value} {xs : List Value}, w.ownsRow w0.heap.size e 1 v m xs → 69 ≠ e → wr.ownsRow w0.heap.size e 1 v m xs := fun hh he => row_keep hh (fun g o hg ho => hK.1 g o ho (by
            rintro (e9 | e9)
            · exact ne_rb hh H.out.hp he (by rw [hg, e9])
            · have := (Array.getElem?_eq_some_iff.1 ho).1; omega))
          have hvo := hkeep hvo (by decide)
          have hvr : ∀ i, i < n → wr.ownsRow w0.heap.size 3 1 (vs.getD i nl) (zs.getD i []).length (ivs (zs.getD i [])) := fun i hi => hkeep (hvr i hi) (by decide)
          rw [HVZ.out.1] at hvo
          have HV : Hid ((wr.alloc (.cells #[Value.slice ea l.length ec] 84)).ownsRow w0.heap.size 84 1 (.slice va n vc) n vs) := hvo.alloc _
          have HM : Hid (∀ j u, [Value.slice ea l.length ec][j]? = some u → (wr.alloc (.cells #[Value.slice ea l.length ec] 84)).cell? ((⟨wr.heap.size, 0, none⟩ : Addr).add j) = some u) := World.news_of_block (cs := #[Value.slice ea l.length ec]) (t := 84) (fr := (0, 0)) (heap_alloc_new wr _)
          have HS : Hid (w0.heap.size ≤ (wr.alloc (.cells #[Value.slice ea l.length ec] 84)).heap.size) := by have := hR.up.size; unfold Hid; simp; omega
          have HZ2 : Hid (∀ v' V, V.ownsRow w0.heap.size 84 1 v' (n + 1) (vs ++ [Value.slice ea l.length ec]) → (wr.alloc (.cells #[Value.slice ea l.length ec] 84)).grownBy V (Value.slice va n vc).ownBlock → (V.cell? ⟨rb, 4, none⟩ = some (.slice va n vc) ∧ V.frozen? ⟨rb, 4, none⟩ = false) ∧ RD w0 rb vb B (at_ + 2 + 2 * l.length) ((C.setIfInBounds 1 (.int .i64 ((at_ + 2 + 2 * l.length : Nat) : Int))).setIfInBounds 4 v') (V.setCell ⟨rb, 4, none⟩ v') ∧ ZW w0.heap.size (V.setCell ⟨rb, 4, none⟩ v') v' (zs ++ [l]) ∧ Kb (fun x => x = rb ∨ vz.ownBlock = some x) w (V.setCell ⟨rb, 4, none⟩ v')) := fun v' V h1 h2 => by
            have hU : Up wr (wr.alloc (.cells #[Value.slice ea l.length ec] 84)) := (Up.refl _).alloc _
            have hne := ne_rb HV.out (hU.heap hR.hp) (by decide)
            have hp9 : V.heap[rb]? = some (.cells (C.setIfInBounds 1 (.int .i64 ((at_ + 2 + 2 * l.length : Nat) : Int))) 69 (0, 0)) := by
              rw [h2.block rb (Array.getElem?_eq_some_iff.1 (hU.heap hR.hp)).1 (fun e => hne e.symm)]
              exact hU.heap hR.hp
            have R9 : RD w0 rb vb B (at_ + 2 + 2 * l.length) (C.setIfInBounds 1 (.int .i64 ((at_ + 2 + 2 * l.length : Nat) : Int))) V := ⟨hp9, hR.sz, hR.v0, hR.v1, Below.grown (hR.up.alloc _) h2 HS.out (fun k hk => (HV.out.lt k hk).1), hR.le, hR.bl, hR.byt, hR.len, hR.at_le⟩
            have hint : ∀ {v : Value} {m : Nat} {xs : List Value}, wr.ownsRow w0.heap.size 3 1 v m xs → (V.setCell ⟨rb, 4, none⟩ v').ownsRow w0.heap.size 3 1 v m xs := fun hh =>
              own_rb (World.ownsRow.kept (row_up hh hU) h2 (row_apart (row_up hh hU) HV.out (by decide))) hp9 (by decide)
            refine ⟨⟨by simp only [World.cell?, hp9]; exact HC4.out, seven_f hp9 4⟩, R9.put 4 _ (by decide), ⟨vs ++ [Value.slice ea l.length ec], by simp [hvs, HN.out], ?_, fun i hi => ?_, ?_⟩, ⟨fun g o hg hx => ?_, ?_⟩⟩
            · rw [List.length_append, List.length_singleton, ← HN.out]
              exact own_rb h1 hp9 (by decide)
            · rw [List.length_append, List.length_singleton, ← HN.out] at hi
              by_cases hin : i < n
              · have q1 : (vs ++ [Value.slice ea l.length ec]).getD i nl = vs.getD i nl := by simp [List.getD, List.getElem?_append_left (show i < vs.length by omega)]
                have q2 : (zs ++ [l]).getD i [] = zs.getD i [] := by simp [List.getD, List.getElem?_append_left (show i < zs.length by rw [← HN.out]; exact hin)]
                rw [q1, q2]
                exact hint (hvr i hin)
              · obtain rfl : i = n := by omega
                have q1 : (vs ++ [Value.slice ea l.length ec]).getD i nl = Value.slice ea l.length ec := by rw [List.getD_eq_getElem?_getD, List.getElem?_append_right (show vs.length ≤ i by omega), show i - vs.length = 0 by omega]; rfl
                have q2 : (zs ++ [l]).getD i [] = l := by rw [List.getD_eq_getElem?_getD, List.getElem?_append_right (show zs.length ≤ i by rw [← HN.out]; exact Nat.le_refl _), show i - zs.length = 0 by rw [← HN.out]; omega]; rfl
                rw [q1, q2]
                exact hint (own_less ho hwl)
            · rw [List.length_append, List.length_singleton, ← HN.out]
              exact HOL.out
            · have hgl := (Array.getElem?_eq_some_iff.1 hg).1
              have q1 := hU.heap (hK.1 g o hg (by
                rintro (e9 | e9)
                · exact hx (.inl e9)
                · omega))
              refine set_other ?_ (fun e9 => hx (.inl e9))
              rw [h2.block g (Array.getElem?_eq_some_iff.1 q1).1 (fun e9 => hx (.inr (by rw [HVZ.out.1, e9])))]
              exact q1
            · have q1 := hK.2
              have q2 := h2.size
              have q3 := hU.size
              simp [World.setCell]
              omega
          have hnn := hn
          clear hvo hvr hkeep
          go_wp2_with (at_builtin; go_loud (refine wpList_append_own _ (by rfl) (.tmp 32) (.tmp 34) 27 (by rfl) w0.heap.size 84 iR _ 1 24 Tryz.underlying27 hiR b0 b1 b2 (by rfl) (by decide) (.slice va n vc) n vs (by rfl) HV.out ⟨wr.heap.size, 0, none⟩ 1 1 [Value.slice ea l.length ec] (by rfl) (by rfl) HM.out (by simp [Value.oneCell']) (by unfold maxLen; omega) (by omega) HS.out ?_; intro v' V hin hg1 _; obtain ⟨⟨q1, q2⟩, q3⟩ := HZ2.out v' V hin hg1; have HF : Hid _ := q3; obtain ⟨fa, fn, fc, hva⟩ : ∃ a n c, v' = Value.slice a n c := (by rcases hin.2 with ⟨hv, _⟩ | ⟨g, cap, cur, hv, _⟩ <;> exact ⟨_, _, _, hv⟩); subst hva; clear hin hg1 q3))
          rw [HPo.out, HRP.out]
          unfold ZnP
          refine ⟨rfl, (C.setIfInBounds 1 (.int .i64 ((at_ + 2 + 2 * l.length : Nat) : Int))).setIfInBounds 4 (Value.slice fa fn fc), Value.slice fa fn fc, ?_, ?_, ?_, HF.out.2.1, HF.out.2.2⟩
          · have h9 := HF.out.1
            rw [show B.length - (B.drop (at_ + 2 + 2 * l.length)).length = at_ + 2 + 2 * l.length by rw [List.length_drop]; have := h9.at_le; omega]
            exact h9
          · rw [Array.getElem?_setIfInBounds_self_of_lt (by simp [H.out.sz])]
          · intro j hj hj4
            rw [Array.getElem?_setIfInBounds_ne (by omega), Array.getElem?_setIfInBounds_ne (by omega)]
        · have ho1 : o = false := by simpa using ho1
          subst ho1
          rw [if_neg (by decide)] at hO
          have HRP : Hid (rdZ (B.drop at_) = .error (B.length - p)) := by
            unfold Hid
            rw [HRZ.out, hO]
          clear hgo hO
          have HC4 : Hid ((C.setIfInBounds 1 (.int .i64 ((p : Nat) : Int)))[4]? = some (.slice va n vc)) := by
            unfold Hid
            rw [Array.getElem?_setIfInBounds_ne (by decide), HVZ.out.2, HVZ.out.1]
          have d1 : wr.cell? ⟨rb, 4, none⟩ = some (.slice va n vc) := by simp only [World.cell?, hR.hp]; exact HC4.out
          have hlx : rb < wr.heap.size := (Array.getElem?_eq_some_iff.1 hR.hp).1
          obtain ⟨vs, hvs, hvo, hvr, hra⟩ := id HOW.out
          rw [← HN.out] at hvs hvo hvr hra
          have HOL : Hid (RA (n + 1) (vs ++ [Value.slice ea l.length ec])) := hra.snoc hvs (fun p g hp hg hx => by
            have h1 := ((hvr p hp).lt g hg).2
            have h2 := (World.ownsRow.lt ho g hx).1
            omega)
          clear hra
          have hkeep : ∀ {e m : Nat} {v : Value} {xs : List Value}, w.ownsRow w0.heap.size e 1 v m xs → 69 ≠ e → wr.ownsRow w0.heap.size e 1 v m xs := fun hh he => row_keep hh (fun g o hg ho => hK.1 g o ho (by
            rintro (e9 | e9)
            · exact ne_rb hh H.out.hp he (by rw [hg, e9])
            · have := (Array.getElem?_eq_some_iff.1 ho).1; omega))
          have hvo := hkeep hvo (by decide)
          have hvr : ∀ i, i < n → wr.ownsRow w0.heap.size 3 1 (vs.getD i nl) (zs.getD i []).length (ivs (zs.getD i [])) := fun i hi => hkeep (hvr i hi) (by decide)
          rw [HVZ.out.1] at hvo
          have HV : Hid ((wr.alloc (.cells #[Value.slice ea l.length ec] 84)).ownsRow w0.heap.size 84 1 (.slice va n vc) n vs) := hvo.alloc _
          have HM : Hid (∀ j u, [Value.slice ea l.length ec][j]? = some u → (wr.alloc (.cells #[Value.slice ea l.length ec] 84)).cell? ((⟨wr.heap.size, 0, none⟩ : Addr).add j) = some u) := World.news_of_block (cs := #[Value.slice ea l.length ec]) (t := 84) (fr := (0, 0)) (heap_alloc_new wr _)
          have HS : Hid (w0.heap.size ≤ (wr.alloc (.cells #[Value.slice ea l.length ec] 84)).heap.size) := by have := hR.up.size; unfold Hid; simp; omega
          have HZ2 : Hid (∀ v' V, V.ownsRow w0.heap.size 84 1 v' (n + 1) (vs ++ [Value.slice ea l.length ec]) → (wr.alloc (.cells #[Value.slice ea l.length ec] 84)).grownBy V (Value.slice va n vc).ownBlock → (V.cell? ⟨rb, 4, none⟩ = some (.slice va n vc) ∧ V.frozen? ⟨rb, 4, none⟩ = false) ∧ RD w0 rb vb B (p) ((C.setIfInBounds 1 (.int .i64 ((p : Nat) : Int))).setIfInBounds 4 v') (V.setCell ⟨rb, 4, none⟩ v') ∧ ZW w0.heap.size (V.setCell ⟨rb, 4, none⟩ v') v' (zs ++ [l]) ∧ Kb (fun x => x = rb ∨ vz.ownBlock = some x) w (V.setCell ⟨rb, 4, none⟩ v')) := fun v' V h1 h2 => by
            have hU : Up wr (wr.alloc (.cells #[Value.slice ea l.length ec] 84)) := (Up.refl _).alloc _
            have hne := ne_rb HV.out (hU.heap hR.hp) (by decide)
            have hp9 : V.heap[rb]? = some (.cells (C.setIfInBounds 1 (.int .i64 ((p : Nat) : Int))) 69 (0, 0)) := by
              rw [h2.block rb (Array.getElem?_eq_some_iff.1 (hU.heap hR.hp)).1 (fun e => hne e.symm)]
              exact hU.heap hR.hp
            have R9 : RD w0 rb vb B (p) (C.setIfInBounds 1 (.int .i64 ((p : Nat) : Int))) V := ⟨hp9, hR.sz, hR.v0, hR.v1, Below.grown (hR.up.alloc _) h2 HS.out (fun k hk => (HV.out.lt k hk).1), hR.le, hR.bl, hR.byt, hR.len, hR.at_le⟩
            have hint : ∀ {v : Value} {m : Nat} {xs : List Value}, wr.ownsRow w0.heap.size 3 1 v m xs → (V.setCell ⟨rb, 4, none⟩ v').ownsRow w0.heap.size 3 1 v m xs := fun hh =>
              own_rb (World.ownsRow.kept (row_up hh hU) h2 (row_apart (row_up hh hU) HV.out (by decide))) hp9 (by decide)
            refine ⟨⟨by simp only [World.cell?, hp9]; exact HC4.out, seven_f hp9 4⟩, R9.put 4 _ (by decide), ⟨vs ++ [Value.slice ea l.length ec], by simp [hvs, HN.out], ?_, fun i hi => ?_, ?_⟩, ⟨fun g o hg hx => ?_, ?_⟩⟩
            · rw [List.length_append, List.length_singleton, ← HN.out]
              exact own_rb h1 hp9 (by decide)
            · rw [List.length_append, List.length_singleton, ← HN.out] at hi
              by_cases hin : i < n
              · have q1 : (vs ++ [Value.slice ea l.length ec]).getD i nl = vs.getD i nl := by simp [List.getD, List.getElem?_append_left (show i < vs.length by omega)]
                have q2 : (zs ++ [l]).getD i [] = zs.getD i [] := by simp [List.getD, List.getElem?_append_left (show i < zs.length by rw [← HN.out]; exact hin)]
                rw [q1, q2]
                exact hint (hvr i hin)
              · obtain rfl : i = n := by omega
                have q1 : (vs ++ [Value.slice ea l.length ec]).getD i nl = Value.slice ea l.length ec := by rw [List.getD_eq_getElem?_getD, List.getElem?_append_right (show vs.length ≤ i by omega), show i - vs.length = 0 by omega]; rfl
                have q2 : (zs ++ [l]).getD i [] = l := by rw [List.getD_eq_getElem?_getD, List.getElem?_append_right (show zs.length ≤ i by rw [← HN.out]; exact Nat.le_refl _), show i - zs.length = 0 by rw [← HN.out]; omega]; rfl
                rw [q1, q2]
                exact hint (own_less ho hwl)
            · rw [List.length_append, List.length_singleton, ← HN.out]
              exact HOL.out
            · have hgl := (Array.getElem?_eq_some_iff.1 hg).1
              have q1 := hU.heap (hK.1 g o hg (by
                rintro (e9 | e9)
                · exact hx (.inl e9)
                · omega))
              refine set_other ?_ (fun e9 => hx (.inl e9))
              rw [h2.block g (Array.getElem?_eq_some_iff.1 q1).1 (fun e9 => hx (.inr (by rw [HVZ.out.1, e9])))]
              exact q1
            · have q1 := hK.2
              have q2 := h2.size
              have q3 := hU.size
              simp [World.setCell]
              omega
          have hnn := hn
          clear hvo hvr hkeep
          go_wp2_with (at_builtin; go_loud (refine wpList_append_own _ (by rfl) (.tmp 32) (.tmp 34) 27 (by rfl) w0.heap.size 84 iR _ 1 24 Tryz.underlying27 hiR b0 b1 b2 (by rfl) (by decide) (.slice va n vc) n vs (by rfl) HV.out ⟨wr.heap.size, 0, none⟩ 1 1 [Value.slice ea l.length ec] (by rfl) (by rfl) HM.out (by simp [Value.oneCell']) (by unfold maxLen; omega) (by omega) HS.out ?_; intro v' V hin hg1 _; obtain ⟨⟨q1, q2⟩, q3⟩ := HZ2.out v' V hin hg1; have HF : Hid _ := q3; obtain ⟨fa, fn, fc, hva⟩ : ∃ a n c, v' = Value.slice a n c := (by rcases hin.2 with ⟨hv, _⟩ | ⟨g, cap, cur, hv, _⟩ <;> exact ⟨_, _, _, hv⟩); subst hva; clear hin hg1 q3))
          rw [HPo.out, HRP.out]
          unfold ZnP
          refine ⟨rfl, ⟨?_, ?_⟩⟩
          rotate_left
          have h9 := HF.out.1.at_le
          rw [show B.length - (B.length - (p)) = p by omega]
          exact HF.out.1
  · rw [if_neg hk] at hW1
    rw [decide_eq_false hk]
    have HRP : Hid (rdZ (B.drop at_) = .error (B.length - at_)) := by
      unfold Hid rdZ
      rw [bnd_no (r := B.length - at_) (by rw [num2_at, if_neg hk])]
    have R1 : RD w0 rb vb B at_ (C.setIfInBounds 1 (.int .i64 ((at_ : Nat) : Int))) W1 := by rw [hW1, set_same H.out.v1]; exact H.out.drew k
    have K1 : Kb (fun x => x = rb ∨ w.heap.size ≤ x) w W1 := by rw [hW1]; exact Kb.of_up ((Up.refl _).drewN k)
    have O1 : W1.ownsRow w.heap.size 3 1 (.slice none 0 0) ([] : List Int).length (ivs []) := World.ownsRow_nil _ _ _ _
    clear hW1
    have HC4 : Hid ((C.setIfInBounds 1 (.int .i64 ((at_ : Nat) : Int)))[4]? = some (.slice va n vc)) := by
      unfold Hid
      rw [Array.getElem?_setIfInBounds_ne (by decide), HVZ.out.2, HVZ.out.1]
    have d1 : W1.cell? ⟨rb, 4, none⟩ = some (.slice va n vc) := by simp only [World.cell?, R1.hp]; exact HC4.out
    have hlx : rb < W1.heap.size := (Array.getElem?_eq_some_iff.1 R1.hp).1
    obtain ⟨vs, hvs, hvo, hvr, hra⟩ := id HOW.out
    rw [← HN.out] at hvs hvo hvr hra
    have HOL : Hid (RA (n + 1) (vs ++ [Value.slice none 0 0])) := hra.snoc hvs (fun p g hp hg hx => by
      have h1 := ((hvr p hp).lt g hg).2
      have h2 := (World.ownsRow.lt O1 g hx).1
      omega)
    clear hra
    have hkeep : ∀ {e m : Nat} {v : Value} {xs : List Value}, w.ownsRow w0.heap.size e 1 v m xs → 69 ≠ e → W1.ownsRow w0.heap.size e 1 v m xs := fun hh he => row_keep hh (fun g o hg ho => K1.1 g o ho (by
      rintro (e9 | e9)
      · exact ne_rb hh H.out.hp he (by rw [hg, e9])
      · have := (Array.getElem?_eq_some_iff.1 ho).1; omega))
    have hvo := hkeep hvo (by decide)
    have hvr : ∀ i, i < n → W1.ownsRow w0.heap.size 3 1 (vs.getD i nl) (zs.getD i []).length (ivs (zs.getD i [])) := fun i hi => hkeep (hvr i hi) (by decide)
    rw [HVZ.out.1] at hvo
    have HV : Hid ((W1.alloc (.cells #[Value.slice none 0 0] 84)).ownsRow w0.heap.size 84 1 (.slice va n vc) n vs) := hvo.alloc _
    have HM : Hid (∀ j u, [Value.slice none 0 0][j]? = some u → (W1.alloc (.cells #[Value.slice none 0 0] 84)).cell? ((⟨W1.heap.size, 0, none⟩ : Addr).add j) = some u) := World.news_of_block (cs := #[Value.slice none 0 0]) (t := 84) (fr := (0, 0)) (heap_alloc_new W1 _)
    have HS : Hid (w0.heap.size ≤ (W1.alloc (.cells #[Value.slice none 0 0] 84)).heap.size) := by have := R1.up.size; unfold Hid; simp; omega
    have HZ2 : Hid (∀ v' V, V.ownsRow w0.heap.size 84 1 v' (n + 1) (vs ++ [Value.slice none 0 0]) → (W1.alloc (.cells #[Value.slice none 0 0] 84)).grownBy V (Value.slice va n vc).ownBlock → (V.cell? ⟨rb, 4, none⟩ = some (.slice va n vc) ∧ V.frozen? ⟨rb, 4, none⟩ = false) ∧ RD w0 rb vb B (at_) ((C.setIfInBounds 1 (.int .i64 ((at_ : Nat) : Int))).setIfInBounds 4 v') (V.setCell ⟨rb, 4, none⟩ v') ∧ ZW w0.heap.size (V.setCell ⟨rb, 4, none⟩ v') v' (zs ++ [[]]) ∧ Kb (fun x => x = rb ∨ vz.ownBlock = some x) w (V.setCell ⟨rb, 4, none⟩ v')) := fun v' V h1 h2 => by
      have hU : Up W1 (W1.alloc (.cells #[Value.slice none 0 0] 84)) := (Up.refl _).alloc _
      have hne := ne_rb HV.out (hU.heap R1.hp) (by decide)
      have hp9 : V.heap[rb]? = some (.cells (C.setIfInBounds 1 (.int .i64 ((at_ : Nat) : Int))) 69 (0, 0)) := by
        rw [h2.block rb (Array.getElem?_eq_some_iff.1 (hU.heap R1.hp)).1 (fun e => hne e.symm)]
        exact hU.heap R1.hp
      have R9 : RD w0 rb vb B (at_) (C.setIfInBounds 1 (.int .i64 ((at_ : Nat) : Int))) V := ⟨hp9, R1.sz, R1.v0, R1.v1, Below.grown (R1.up.alloc _) h2 HS.out (fun k hk => (HV.out.lt k hk).1), R1.le, R1.bl, R1.byt, R1.len, R1.at_le⟩
      have hint : ∀ {v : Value} {m : Nat} {xs : List Value}, W1.ownsRow w0.heap.size 3 1 v m xs → (V.setCell ⟨rb, 4, none⟩ v').ownsRow w0.heap.size 3 1 v m xs := fun hh =>
        own_rb (World.ownsRow.kept (row_up hh hU) h2 (row_apart (row_up hh hU) HV.out (by decide))) hp9 (by decide)
      refine ⟨⟨by simp only [World.cell?, hp9]; exact HC4.out, seven_f hp9 4⟩, R9.put 4 _ (by decide), ⟨vs ++ [Value.slice none 0 0], by simp [hvs, HN.out], ?_, fun i hi => ?_, ?_⟩, ⟨fun g o hg hx => ?_, ?_⟩⟩
      · rw [List.length_append, List.length_singleton, ← HN.out]
        exact own_rb h1 hp9 (by decide)
      · rw [List.length_append, List.length_singleton, ← HN.out] at hi
        by_cases hin : i < n
        · have q1 : (vs ++ [Value.slice none 0 0]).getD i nl = vs.getD i nl := by simp [List.getD, List.getElem?_append_left (show i < vs.length by omega)]
          have q2 : (zs ++ [[]]).getD i [] = zs.getD i [] := by simp [List.getD, List.getElem?_append_left (show i < zs.length by rw [← HN.out]; exact hin)]
          rw [q1, q2]
          exact hint (hvr i hin)
        · obtain rfl : i = n := by omega
          have q1 : (vs ++ [Value.slice none 0 0]).getD i nl = Value.slice none 0 0 := by rw [List.getD_eq_getElem?_getD, List.getElem?_append_right (show vs.length ≤ i by omega), show i - vs.length = 0 by omega]; rfl
          have q2 : (zs ++ [[]]).getD i [] = [] := by rw [List.getD_eq_getElem?_getD, List.getElem?_append_right (show zs.length ≤ i by rw [← HN.out]; exact Nat.le_refl _), show i - zs.length = 0 by rw [← HN.out]; omega]; rfl
          rw [q1, q2]
          exact hint (own_less O1 hwl)
      · rw [List.length_append, List.length_singleton, ← HN.out]
        exact HOL.out
      · have hgl := (Array.getElem?_eq_some_iff.1 hg).1
        have q1 := hU.heap (K1.1 g o hg (by
          rintro (e9 | e9)
          · exact hx (.inl e9)
          · omega))
        refine set_other ?_ (fun e9 => hx (.inl e9))
        rw [h2.block g (Array.getElem?_eq_some_iff.1 q1).1 (fun e9 => hx (.inr (by rw [HVZ.out.1, e9])))]
        exact q1
      · have q1 := K1.2
        have q2 := h2.size
        have q3 := hU.size
        simp [World.setCell]
        omega
    have hnn := hn
    clear hvo hvr hkeep
    go_wp2_with fail
    refine wp_loop_rounds 1 ?_
    rw [rounds_succ]
    go_wp2_with (at_builtin; go_loud (refine wpList_append_own _ (by rfl) (.tmp 32) (.tmp 34) 27 (by rfl) w0.heap.size 84 iR _ 1 24 Tryz.underlying27 hiR b0 b1 b2 (by rfl) (by decide) (.slice va n vc) n vs (by rfl) HV.out ⟨W1.heap.size, 0, none⟩ 1 1 [Value.slice none 0 0] (by rfl) (by rfl) HM.out (by simp [Value.oneCell']) (by unfold maxLen; omega) (by omega) HS.out ?_; intro v' V hin hg1 _; obtain ⟨⟨q1, q2⟩, q3⟩ := HZ2.out v' V hin hg1; have HF : Hid _ := q3; obtain ⟨fa, fn, fc, hva⟩ : ∃ a n c, v' = Value.slice a n c := (by rcases hin.2 with ⟨hv, _⟩ | ⟨g, cap, cur, hv, _⟩ <;> exact ⟨_, _, _, hv⟩); subst hva; clear hin hg1 q3))
    rw [HPo.out, HRP.out]
    unfold ZnP
    refine ⟨rfl, ⟨?_, ?_⟩⟩
    rotate_left
    have h9 := HF.out.1.at_le
    rw [show B.length - (B.length - (at_)) = at_ by omega]
    exact HF.out.1
end IM
end Go.Proofs.YtmpamcdobhiipaaGreatDoor
