
/-
  The three lists: the law KindsLists.
-/
import Derived.Test.YtifabdnjdadkbaaDoorNm12
namespace Go.Proofs.YtifabdnjdadkbaaDoor
open Go.RowKit
open BG (SB Kp)
attribute [local go_sem ↓] Go.wp_at_zero Go.wp_at_succ
namespace KD
theorem SL.kp {W W' : World} {lo b : Nat} {l : List Sg} (h : SL W b l) (k : Kp lo W W') : SL W' b l := ⟨fun i s hi => k.2 _ _ _ _ (h.1 i s hi) (by decide) (by decide), k.2 _ _ _ _ h.2 (by decide) (by decide)⟩
theorem RL.kp {W W' : World} {lo b : Nat} {l : List Sg} (h : RL W b l) (k : Kp lo W W') : RL W' b l := ⟨fun i s hi => k.2 _ _ _ _ (h.1 i s hi) (by decide) (by decide), k.2 _ _ _ _ h.2 (by decide) (by decide)⟩
theorem SL.lt {W : World} {b : Nat} {l : List Sg} (h : SL W b l) : b + l.length < W.heap.size := (Array.getElem?_eq_some_iff.1 h.2).1
theorem lst_len {k : Nat} (hk : k < 3) : (lst k).length ≤ 13 ∧ 0 < (lst k).length := by
  match k, hk with
  | 0, _ => decide
  | 1, _ => decide
  | 2, _ => decide
theorem rows_len : ∀ (l : List Sg) (b : Nat), (rowsOf b l).length = l.length * 4
  | [], _ => rfl
  | s :: l, b => by
    show (sgc b s ++ rowsOf (b + 1) l).length = _
    rw [List.length_append, rows_len l (b + 1)]
    simp [sgc]
    omega
theorem set_grow' {W : World} {g j : Nat} {x : Value} {t : TypeId} {m : Nat} (h : ∃ cs : Array Value, W.heap[g]? = some (.cells cs t (0, 0)) ∧ cs.size = m) : ∃ cs : Array Value, (W.setCell ⟨g, j, none⟩ x).heap[g]? = some (.cells cs t (0, 0)) ∧ cs.size = m := by
  obtain ⟨cs, h1, h2⟩ := h
  refine ⟨cs.setIfInBounds j x, ?_, by simpa using h2⟩
  simp only [World.setCell, Array.getElem?_modify]; rw [h1]; simp
theorem set_grow {W : World} {g j : Nat} {x : Value} {t : TypeId} {m m' : Nat} (e : m = m') (h : ∃ cs : Array Value, W.heap[g]? = some (.cells cs t (0, 0)) ∧ cs.size = m) : ∃ cs : Array Value, (W.setCell ⟨g, j, none⟩ x).heap[g]? = some (.cells cs t (0, 0)) ∧ cs.size = m' := by
  rw [← e]
  exact set_grow' h
theorem infoSgA : (Tryd.prog.info? 55).map (fun i => (i.zero, i.size, i.bytes)) = some (some (.agg #[.string ByteArray.empty, .slice none 0 0, .int .i8 0, .nilFunc]), 4, 56) := by kernel_rfl
theorem own_sg {W : World} {lo g n : Nat} {cs : Array Value} (h : W.heap[g]? = some (.cells cs 55 (0, 0))) (hlo : lo ≤ g) (hn : n ≤ 13) (hc : cs.size = n * 4) : W.ownsRow lo 55 4 (.slice (some ⟨g, 0, none⟩) n n) n cs.toList :=
  ⟨by simpa using hc, .inr ⟨g, n, cs, rfl, hlo, h, Nat.le_refl _, by unfold maxLen; omega, by omega, by rw [List.take_of_length_le (by simp; omega)]⟩⟩
theorem new_four (W : World) (a b c d : Value) (t : TypeId) (j : Nat) (u : Value) (h : [a, b, c, d][j]? = some u) : (W.alloc (.cells #[a, b, c, d] t)).cell? ((⟨W.heap.size, 0, none⟩ : Addr).add j) = some u := by
  have h9 := heap_alloc_new W (.cells #[a, b, c, d] t)
  have e : (⟨W.heap.size, 0, none⟩ : Addr).add j = ⟨W.heap.size, j, none⟩ := by
    unfold Addr.add
    split <;> simp_all
  rw [e]
  simp only [World.cell?]
  rw [h9]
  simpa using h
/- up to sign i all lists are in the bag -/
def BI (w wr W : World) (ba bb i : Nat) : Prop := (∃ v L, SB W w.heap.size w.heap.size (w.heap.size + 1) v L ∧ ∀ g, BG.Blks L g → g < wr.heap.size ∨ (ba ≤ g ∧ g < ba + i) ∨ (bb ≤ g ∧ g < bb + i)) ∧ Up w W
theorem BI.up {w wr W W' : World} {ba bb i : Nat} (h : BI w wr W ba bb i) (u : Up W W') : BI w wr W' ba bb i := by
  obtain ⟨⟨v, L, h1, h2⟩, h3⟩ := h
  exact ⟨⟨v, L, h1.up u, h2⟩, h3.trans u⟩
set_option maxRecDepth 100000 in
set_option maxHeartbeats 16000000 in
theorem klists (z : Int) (w : World) (hz : -9223372036854775808 ≤ z ∧ z ≤ 9223372036854775807) : Calls Tryd.prog 3 #[.int .i64 z] w fun e w' => e = .returned (.bool true) ∧ Up w w' := by
  obtain ⟨Post, hPost⟩ : ∃ P : Ending → World → Prop, P = fun e w' => e = .returned (.bool true) ∧ Up w w' := ⟨_, rfl⟩
  rw [← hPost]
  have HP : Hid (∀ W, Up w W → Post (.returned (.bool true)) W) := fun W h => by rw [hPost]; exact ⟨rfl, h⟩
  clear hPost
  have HB0 : Hid (BN w (w.alloc (.cells #[.slice none 0 0, .slice none 0 0, .slice none 0 0, .slice none 0 0, .slice none 0 0, .slice none 0 0, .slice none 0 0, .slice none 0 0, .slice none 0 0, .slice none 0 0, .slice none 0 0, .slice none 0 0, .slice none 0 0, .slice none 0 0, .slice none 0 0, .slice none 0 0, .slice none 0 0, .slice none 0 0, .slice none 0 0, .slice none 0 0, .slice none 0 0] 45))) := ⟨⟨_, _, BG.sb_start w⟩, (Up.refl w).alloc _⟩
  go_enter Tryd.func3, Tryd.ntmps3
  go_wp2_with fail
  go_loopw [4] (fun s4 W => ∃ k : Nat, k ≤ 3 ∧ s4 = .int .i64 k ∧ BN w W) (fun s4 _ => 3 - (intOf s4).toNat)
  case atStart => exact ⟨0, by omega, rfl, HB0.out⟩
  case round =>
    clear HB0
    obtain ⟨k, hk, rfl, hbn⟩ := hrel
    obtain ⟨V0, rfl⟩ : ∃ V, V = wr := ⟨_, rfl⟩
    have HB : Hid (BN w V0) := hbn
    clear hbn
    by_cases hlt : k < 3
    · have hlt2 : (k : Int) < 3 := by omega
      have ek : IntKind.i64.wrap ((k : Int) + 1) = ((k + 1 : Nat) : Int) := by rw [IntKind.wrap_i64]; omega
      have HK : Hid (k < 3) := hlt
      have HLS : Hid (∀ W, Calls Tryd.prog 5 #[.int .i64 (k : Int)] W (LsR W k)) := fun W => list_ k W HK.out
      have HLR : Hid (∀ W, Calls Tryd.prog 6 #[.int .i64 (k : Int)] W (LrR W k)) := fun W => rlist_ k W HK.out
      go_wp2_with fail
      refine (HLS.out _).mono ?_
      rintro r W1 ⟨ba, rfl, hsa, u1, hb1⟩
      have HSA : Hid (SL W1 ba (lst k) ∧ Up V0 W1 ∧ V0.heap.size ≤ ba) := ⟨hsa, u1, hb1⟩
      clear hsa u1 hb1
      obtain ⟨n, hn⟩ : ∃ n, n = (lst k).length := ⟨_, rfl⟩
      have HN : Hid (n = (lst k).length) := hn
      obtain ⟨ga, hga⟩ : ∃ g, g = ba + (lst k).length := ⟨_, rfl⟩
      have HGA : Hid (ga = ba + (lst k).length) := hga
      rw [← hga, ← hn]
      have hn13 : n ≤ 13 := by rw [hn]; exact (lst_len HK.out).1
      have hn0 : 0 < n := by rw [hn]; exact (lst_len HK.out).2
      clear hga hn
      go_wp2_with fail
      refine (HLS.out _).mono ?_
      rintro r W2 ⟨bb, rfl, hsb, u2, hb2⟩
      have HSB : Hid (SL W2 bb (lst k) ∧ Up W1 W2 ∧ W1.heap.size ≤ bb) := ⟨hsb, u2, hb2⟩
      clear hsb u2 hb2
      obtain ⟨gb, hgb⟩ : ∃ g, g = bb + (lst k).length := ⟨_, rfl⟩
      have HGB : Hid (gb = bb + (lst k).length) := hgb
      rw [← hgb, ← HN.out]
      clear hgb
      go_wp2_with fail
      refine (HLR.out _).mono ?_
      rintro r W3 ⟨bw, rfl, hsw, u3, hb3⟩
      have HSW : Hid (RL W3 bw (lst k) ∧ Up W2 W3 ∧ W2.heap.size ≤ bw) := ⟨hsw, u3, hb3⟩
      clear hsw u3 hb3
      obtain ⟨gw, hgw⟩ : ∃ g, g = bw + (lst k).length := ⟨_, rfl⟩
      have HGW : Hid (gw = bw + (lst k).length) := hgw
      rw [← hgw, ← HN.out]
      clear hgw
      have HAL : Hid (SL W3 ba (lst k) ∧ SL W3 bb (lst k) ∧ RL W3 bw (lst k) ∧ V0.heap.size ≤ ba ∧ ba + (lst k).length < bb ∧ ba + (lst k).length < bw) := by
        have h1 := HSA.out.1.lt
        have h2 := HSB.out.2.2
        have h3 := HSA.out.2.1.size
        have h4 := HSB.out.2.1.size
        have h5 := HSW.out.2.2
        have h6 := HSB.out.1.lt
        exact ⟨(HSA.out.1.up HSB.out.2.1).up HSW.out.2.1, HSB.out.1.up HSW.out.2.1, HSW.out.1, HSA.out.2.2, by omega, by omega⟩
      have HBI : Hid (BI w V0 W3 ba bb 0) := by
        obtain ⟨⟨v, L, h1⟩, h2⟩ := HB.out
        have u := (HSA.out.2.1.trans HSB.out.2.1).trans HSW.out.2.1
        exact ⟨⟨v, L, h1.up u, fun g hg => .inl (h1.blks hg).2.1⟩, h2.trans u⟩
      have HWV : Hid (w.heap.size ≤ V0.heap.size) := HB.out.2.size
      clear HSA HSB HSW HB HLR
      go_wp2_with fail
      go_loopw [8] (fun s8 W => ∃ i : Nat, i ≤ n ∧ s8 = .int .i64 i ∧ BI w V0 W ba bb i ∧ SL W ba (lst k) ∧ SL W bb (lst k) ∧ RL W bw (lst k)) (fun s8 _ => n - (intOf s8).toNat)
      case atStart => exact ⟨0, by omega, rfl, HBI.out, HAL.out.1, HAL.out.2.1, HAL.out.2.2.1⟩
      case round =>
        clear HBI
        obtain ⟨i, hi, rfl, hbi, hl1, hl2, hl3⟩ := hrel
        by_cases hil : i < n
        · have hil2 : (i : Int) < (n : Int) := by omega
          have HIL : Hid (i < (lst k).length) := by unfold Hid; rw [← HN.out]; exact hil
          have ei : IntKind.i64.wrap ((i : Int) + 1) = ((i + 1 : Nat) : Int) := by rw [IntKind.wrap_i64]; omega
          have HBI : Hid (BI w V0 wr ba bb i) := hbi
          have HL3 : Hid (SL wr ba (lst k) ∧ SL wr bb (lst k) ∧ RL wr bw (lst k)) := ⟨hl1, hl2, hl3⟩
          clear hbi hl1 hl2 hl3
          have HXA : Hid (∀ W, SL W ba (lst k) → W.cell? ⟨ga, i * 4, none⟩ = some (.string ((lst k).getD i ds).name) ∧ W.cell? ⟨ga, i * 4 + 1, none⟩ = some (.slice (some ⟨ba + i, 0, none⟩) ((lst k).getD i ds).args.length ((lst k).getD i ds).args.length) ∧ W.cell? ⟨ga, i * 4 + 2, none⟩ = some (.int .i8 ((lst k).getD i ds).tell) ∧ W.cell? ⟨ga, i * 4 + 3, none⟩ = some (.func (.func (gi ((lst k).getD i ds).each)) #[] #[])) := fun W h => by
            rw [HGA.out]
            exact h.row HIL.out
          have HXB : Hid (∀ W, SL W bb (lst k) → W.cell? ⟨gb, i * 4, none⟩ = some (.string ((lst k).getD i ds).name) ∧ W.cell? ⟨gb, i * 4 + 1, none⟩ = some (.slice (some ⟨bb + i, 0, none⟩) ((lst k).getD i ds).args.length ((lst k).getD i ds).args.length) ∧ W.cell? ⟨gb, i * 4 + 2, none⟩ = some (.int .i8 ((lst k).getD i ds).tell) ∧ W.cell? ⟨gb, i * 4 + 3, none⟩ = some (.func (.func (gi ((lst k).getD i ds).each)) #[] #[])) := fun W h => by
            rw [HGB.out]
            exact h.row HIL.out
          have HXW : Hid (∀ W, RL W bw (lst k) → W.cell? ⟨gw, i * 3, none⟩ = some (.string ((lst k).getD i ds).name) ∧ W.cell? ⟨gw, i * 3 + 1, none⟩ = some (.slice (some ⟨bw + i, 0, none⟩) ((lst k).getD i ds).args.length ((lst k).getD i ds).args.length) ∧ W.cell? ⟨gw, i * 3 + 2, none⟩ = some (.int .i8 ((lst k).getD i ds).tell)) := fun W h => by
            rw [HGW.out]
            exact h.row HIL.out
          have HSG : Hid (∀ (W : World) (g g' : Nat), W.heap[g]? = some (argO ((lst k).getD i ds)) → W.heap[g']? = some (argO ((lst k).getD i ds)) → Calls Tryd.prog 7 #[.agg #[.string ((lst k).getD i ds).name, .slice (some ⟨g, 0, none⟩) ((lst k).getD i ds).args.length ((lst k).getD i ds).args.length, .int .i8 ((lst k).getD i ds).tell, .func (.func (gi ((lst k).getD i ds).each)) #[] #[]], .agg #[.string ((lst k).getD i ds).name, .slice (some ⟨g', 0, none⟩) ((lst k).getD i ds).args.length ((lst k).getD i ds).args.length, .int .i8 ((lst k).getD i ds).tell], .int .i64 (k : Int), .int .i64 (i : Int), .int .i64 z] W fun e w' => e = .returned (.bool true) ∧ Up W w') := fun W g g' h h' => sign_ k i z g g' W HK.out HIL.out hz h h'
          have HAG : Hid (wr.heap[ba + i]? = some (argO ((lst k).getD i ds)) ∧ wr.heap[bb + i]? = some (argO ((lst k).getD i ds)) ∧ wr.heap[bw + i]? = some (argO ((lst k).getD i ds))) := ⟨HL3.out.1.args HIL.out, HL3.out.2.1.args HIL.out, HL3.out.2.2.args HIL.out⟩
          have HAD : Hid (∀ (W : World) (v : Value) (L : BG.VL) (g : Nat), SB W w.heap.size w.heap.size (w.heap.size + 1) v L → W.heap[g]? = some (argO ((lst k).getD i ds)) → w.heap.size ≤ g → ¬ BG.Blks L g → Calls Tryd.prog 8 #[.pointer (some ⟨w.heap.size, 0, none⟩), .slice (some ⟨g, 0, none⟩) ((lst k).getD i ds).args.length ((lst k).getD i ds).args.length] W (BG.SbP w.heap.size w.heap.size (w.heap.size + 1) L (.slice (some ⟨g, 0, none⟩) ((lst k).getD i ds).args.length ((lst k).getD i ds).args.length, ((lst k).getD i ds).args.length) W)) := fun W v L g h1 h2 h3 h4 => BG.sb_add _ _ _ v L g _ (ivs ((lst k).getD i ds).args) W h1 h2 (Nat.le_trans (args_len HK.out HIL.out) (by decide)) (by simp [ivs]) h3 h4
          have HTY : Hid (∀ (W W' : World) (g : Nat), Kp w.heap.size W W' → W.heap[g]? = some (argO ((lst k).getD i ds)) → W'.heap[g]? = some (argO ((lst k).getD i ds))) := fun W W' g h1 h2 => h1.2 g _ _ _ h2 (by decide) (by decide)
          generalize hsg : (lst k).getD i ds = sg at *
          clear hsg
          obtain ⟨nm, ar, tl, ec⟩ := sg
          generalize hargo : argO ⟨nm, ar, tl, ec⟩ = ao at *
          clear hargo
          dsimp only at *
          generalize gi ec = gf at *
          generalize ar.length = q at *
          have HS0 : Hid ((wr.drew.cell? ⟨ga, i * 4, none⟩ = some (.string nm) ∧ wr.drew.cell? ⟨ga, i * 4 + 1, none⟩ = some (.slice (some ⟨ba + i, 0, none⟩) q q) ∧ wr.drew.cell? ⟨ga, i * 4 + 2, none⟩ = some (.int .i8 tl) ∧ wr.drew.cell? ⟨ga, i * 4 + 3, none⟩ = some (.func (.func gf) #[] #[])) ∧ (wr.drew.cell? ⟨gb, i * 4, none⟩ = some (.string nm) ∧ wr.drew.cell? ⟨gb, i * 4 + 1, none⟩ = some (.slice (some ⟨bb + i, 0, none⟩) q q) ∧ wr.drew.cell? ⟨gb, i * 4 + 2, none⟩ = some (.int .i8 tl) ∧ wr.drew.cell? ⟨gb, i * 4 + 3, none⟩ = some (.func (.func gf) #[] #[])) ∧ (wr.drew.cell? ⟨gw, i * 3, none⟩ = some (.string nm) ∧ wr.drew.cell? ⟨gw, i * 3 + 1, none⟩ = some (.slice (some ⟨bw + i, 0, none⟩) q q) ∧ wr.drew.cell? ⟨gw, i * 3 + 2, none⟩ = some (.int .i8 tl)) ∧ Hid (Up wr wr.drew)) := by
            obtain ⟨x0, x1, x2, x3⟩ := HXA.out wr HL3.out.1
            obtain ⟨y0, y1, y2, y3⟩ := HXB.out wr HL3.out.2.1
            obtain ⟨v0, v1, v2⟩ := HXW.out wr HL3.out.2.2
            exact ⟨⟨x0, x1, x2, x3⟩, ⟨y0, y1, y2, y3⟩, ⟨v0, v1, v2⟩, (Up.refl _).drew⟩
          have HKp : Hid (∀ W W', ((W.cell? ⟨ga, i * 4, none⟩ = some (.string nm) ∧ W.cell? ⟨ga, i * 4 + 1, none⟩ = some (.slice (some ⟨ba + i, 0, none⟩) q q) ∧ W.cell? ⟨ga, i * 4 + 2, none⟩ = some (.int .i8 tl) ∧ W.cell? ⟨ga, i * 4 + 3, none⟩ = some (.func (.func gf) #[] #[])) ∧ (W.cell? ⟨gb, i * 4, none⟩ = some (.string nm) ∧ W.cell? ⟨gb, i * 4 + 1, none⟩ = some (.slice (some ⟨bb + i, 0, none⟩) q q) ∧ W.cell? ⟨gb, i * 4 + 2, none⟩ = some (.int .i8 tl) ∧ W.cell? ⟨gb, i * 4 + 3, none⟩ = some (.func (.func gf) #[] #[])) ∧ (W.cell? ⟨gw, i * 3, none⟩ = some (.string nm) ∧ W.cell? ⟨gw, i * 3 + 1, none⟩ = some (.slice (some ⟨bw + i, 0, none⟩) q q) ∧ W.cell? ⟨gw, i * 3 + 2, none⟩ = some (.int .i8 tl)) ∧ Hid (Up wr W)) → Up W W' → ((W'.cell? ⟨ga, i * 4, none⟩ = some (.string nm) ∧ W'.cell? ⟨ga, i * 4 + 1, none⟩ = some (.slice (some ⟨ba + i, 0, none⟩) q q) ∧ W'.cell? ⟨ga, i * 4 + 2, none⟩ = some (.int .i8 tl) ∧ W'.cell? ⟨ga, i * 4 + 3, none⟩ = some (.func (.func gf) #[] #[])) ∧ (W'.cell? ⟨gb, i * 4, none⟩ = some (.string nm) ∧ W'.cell? ⟨gb, i * 4 + 1, none⟩ = some (.slice (some ⟨bb + i, 0, none⟩) q q) ∧ W'.cell? ⟨gb, i * 4 + 2, none⟩ = some (.int .i8 tl) ∧ W'.cell? ⟨gb, i * 4 + 3, none⟩ = some (.func (.func gf) #[] #[])) ∧ (W'.cell? ⟨gw, i * 3, none⟩ = some (.string nm) ∧ W'.cell? ⟨gw, i * 3 + 1, none⟩ = some (.slice (some ⟨bw + i, 0, none⟩) q q) ∧ W'.cell? ⟨gw, i * 3 + 2, none⟩ = some (.int .i8 tl)) ∧ Hid (Up wr W'))) := fun W W' h u => ⟨⟨u.cell h.1.1, u.cell h.1.2.1, u.cell h.1.2.2.1, u.cell h.1.2.2.2⟩, ⟨u.cell h.2.1.1, u.cell h.2.1.2.1, u.cell h.2.1.2.2.1, u.cell h.2.1.2.2.2⟩, ⟨u.cell h.2.2.1.1, u.cell h.2.2.1.2.1, u.cell h.2.2.1.2.2⟩, h.2.2.2.out.trans u⟩
          have HC1 : Hid (∀ W, ((W.cell? ⟨ga, i * 4, none⟩ = some (.string nm) ∧ W.cell? ⟨ga, i * 4 + 1, none⟩ = some (.slice (some ⟨ba + i, 0, none⟩) q q) ∧ W.cell? ⟨ga, i * 4 + 2, none⟩ = some (.int .i8 tl) ∧ W.cell? ⟨ga, i * 4 + 3, none⟩ = some (.func (.func gf) #[] #[])) ∧ (W.cell? ⟨gb, i * 4, none⟩ = some (.string nm) ∧ W.cell? ⟨gb, i * 4 + 1, none⟩ = some (.slice (some ⟨bb + i, 0, none⟩) q q) ∧ W.cell? ⟨gb, i * 4 + 2, none⟩ = some (.int .i8 tl) ∧ W.cell? ⟨gb, i * 4 + 3, none⟩ = some (.func (.func gf) #[] #[])) ∧ (W.cell? ⟨gw, i * 3, none⟩ = some (.string nm) ∧ W.cell? ⟨gw, i * 3 + 1, none⟩ = some (.slice (some ⟨bw + i, 0, none⟩) q q) ∧ W.cell? ⟨gw, i * 3 + 2, none⟩ = some (.int .i8 tl)) ∧ Hid (Up wr W)) → Calls Tryd.prog 7 #[.agg #[.string nm, .slice (some ⟨ba + i, 0, none⟩) q q, .int .i8 tl, .func (.func gf) #[] #[]], .agg #[.string nm, .slice (some ⟨bw + i, 0, none⟩) q q, .int .i8 tl], .int .i64 (k : Int), .int .i64 (i : Int), .int .i64 z] W fun e w' => e = .returned (.bool true) ∧ Up W w') := fun W h => HSG.out W _ _ (h.2.2.2.out.heap HAG.out.1) (h.2.2.2.out.heap HAG.out.2.2)
          have HC2 : Hid (∀ W, ((W.cell? ⟨ga, i * 4, none⟩ = some (.string nm) ∧ W.cell? ⟨ga, i * 4 + 1, none⟩ = some (.slice (some ⟨ba + i, 0, none⟩) q q) ∧ W.cell? ⟨ga, i * 4 + 2, none⟩ = some (.int .i8 tl) ∧ W.cell? ⟨ga, i * 4 + 3, none⟩ = some (.func (.func gf) #[] #[])) ∧ (W.cell? ⟨gb, i * 4, none⟩ = some (.string nm) ∧ W.cell? ⟨gb, i * 4 + 1, none⟩ = some (.slice (some ⟨bb + i, 0, none⟩) q q) ∧ W.cell? ⟨gb, i * 4 + 2, none⟩ = some (.int .i8 tl) ∧ W.cell? ⟨gb, i * 4 + 3, none⟩ = some (.func (.func gf) #[] #[])) ∧ (W.cell? ⟨gw, i * 3, none⟩ = some (.string nm) ∧ W.cell? ⟨gw, i * 3 + 1, none⟩ = some (.slice (some ⟨bw + i, 0, none⟩) q q) ∧ W.cell? ⟨gw, i * 3 + 2, none⟩ = some (.int .i8 tl)) ∧ Hid (Up wr W)) → Calls Tryd.prog 7 #[.agg #[.string nm, .slice (some ⟨bb + i, 0, none⟩) q q, .int .i8 tl, .func (.func gf) #[] #[]], .agg #[.string nm, .slice (some ⟨bw + i, 0, none⟩) q q, .int .i8 tl], .int .i64 (k : Int), .int .i64 (i : Int), .int .i64 z] W fun e w' => e = .returned (.bool true) ∧ Up W w') := fun W h => HSG.out W _ _ (h.2.2.2.out.heap HAG.out.2.1) (h.2.2.2.out.heap HAG.out.2.2)
          go_wp2_with fail
          go_region_held3 (fun W' => ((W'.cell? ⟨ga, i * 4, none⟩ = some (.string nm) ∧ W'.cell? ⟨ga, i * 4 + 1, none⟩ = some (.slice (some ⟨ba + i, 0, none⟩) q q) ∧ W'.cell? ⟨ga, i * 4 + 2, none⟩ = some (.int .i8 tl) ∧ W'.cell? ⟨ga, i * 4 + 3, none⟩ = some (.func (.func gf) #[] #[])) ∧ (W'.cell? ⟨gb, i * 4, none⟩ = some (.string nm) ∧ W'.cell? ⟨gb, i * 4 + 1, none⟩ = some (.slice (some ⟨bb + i, 0, none⟩) q q) ∧ W'.cell? ⟨gb, i * 4 + 2, none⟩ = some (.int .i8 tl) ∧ W'.cell? ⟨gb, i * 4 + 3, none⟩ = some (.func (.func gf) #[] #[])) ∧ (W'.cell? ⟨gw, i * 3, none⟩ = some (.string nm) ∧ W'.cell? ⟨gw, i * 3 + 1, none⟩ = some (.slice (some ⟨bw + i, 0, none⟩) q q) ∧ W'.cell? ⟨gw, i * 3 + 2, none⟩ = some (.int .i8 tl)) ∧ Hid (Up wr W')))
            (first | exact HS0.out | (refine HKp.out _ _ ?_ hu9; assumption))
            (first
              | (go_at_call 7; with_reducible refine Calls.mono (HC1.out _ (by assumption)) ?_; rintro e w' ⟨rfl, hu9⟩)
              | (go_at_call 7; with_reducible refine Calls.mono (HC2.out _ (by assumption)) ?_; rintro e w' ⟨rfl, hu9⟩))
          rename_i hZ
          obtain ⟨⟨x0, x1, x2, x3⟩, -, -, hu⟩ := hZ
          have HU4 : Hid (Up wr w') := hu.out
          have HLa : Hid (SL w' ba (lst k) ∧ SL w' bb (lst k) ∧ RL w' bw (lst k)) := ⟨HL3.out.1.up HU4.out, HL3.out.2.1.up HU4.out, HL3.out.2.2.up HU4.out⟩
          obtain ⟨⟨bv, BL, hsb, hbl⟩, hup⟩ := HBI.out.up HU4.out
          have HUW : Hid (Up w w') := hup
          have HV0 : Hid (w.heap.size ≤ V0.heap.size) := HWV.out
          have HBL : Hid (∀ g, BG.Blks BL g → g < V0.heap.size ∨ (ba ≤ g ∧ g < ba + i) ∨ (bb ≤ g ∧ g < bb + i)) := hbl
          have HIN : Hid (i < (lst k).length ∧ V0.heap.size ≤ ba ∧ ba + (lst k).length < bb) := ⟨HIL.out, HAL.out.2.2.2.1, HAL.out.2.2.2.2.1⟩
          have HAA : Hid (Calls Tryd.prog 8 #[.pointer (some ⟨w.heap.size, 0, none⟩), .slice (some ⟨ba + i, 0, none⟩) q q] w' (BG.SbP w.heap.size w.heap.size (w.heap.size + 1) BL (.slice (some ⟨ba + i, 0, none⟩) q q, q) w')) := HAD.out w' bv BL (ba + i) hsb (HU4.out.heap HAG.out.1) (by have := HV0.out; have := HIN.out; omega) (fun h => by have := HBL.out _ h; have := HIN.out; omega)
          clear hu hsb hbl hup HS0 HKp HC1 HC2 HSG hu9
          go_wp2_with fail
          refine HAA.out.mono ?_
          rintro r W5 ⟨rfl, bv2, BL2, hsb2, hl2, hkp⟩
          have HKP : Hid (Kp w.heap.size w' W5) := hkp
          have HLb : Hid (SL W5 ba (lst k) ∧ SL W5 bb (lst k) ∧ RL W5 bw (lst k)) := ⟨HLa.out.1.kp hkp, HLa.out.2.1.kp hkp, HLa.out.2.2.kp hkp⟩
          have HBL2 : Hid (∀ g, BG.Blks BL2 g → g < V0.heap.size ∨ (ba ≤ g ∧ g < ba + (i + 1)) ∨ (bb ≤ g ∧ g < bb + i)) := fun g hg => by
            rcases hl2 with rfl | rfl
            · have := HBL.out g hg; omega
            · rcases BG.blks_one hg with h9 | h9
              · have := HBL.out g h9; omega
              · have e9 : ba + i = g := by simpa [Value.ownBlock] using h9
                omega
          have HAB : Hid (Calls Tryd.prog 8 #[.pointer (some ⟨w.heap.size, 0, none⟩), .slice (some ⟨bb + i, 0, none⟩) q q] W5 (BG.SbP w.heap.size w.heap.size (w.heap.size + 1) BL2 (.slice (some ⟨bb + i, 0, none⟩) q q, q) W5)) := HAD.out W5 bv2 BL2 (bb + i) hsb2 (HTY.out _ _ _ hkp (HU4.out.heap HAG.out.2.1)) (by have := HV0.out; have := HIN.out; omega) (fun h => by have := HBL2.out _ h; have := HIN.out; omega)
          obtain ⟨y0, y1, y2, y3⟩ := HXB.out W5 HLb.out.2.1
          clear hkp hsb2 hl2 HAA x0 x1 x2 x3 HLa HAD HXA HXB HXW HTY HAG
          go_wp2_with fail
          refine HAB.out.mono ?_
          rintro r W6 ⟨rfl, bv3, BL3, hsb3, hl3, hkp⟩
          have HLc : Hid (SL W6 ba (lst k) ∧ SL W6 bb (lst k) ∧ RL W6 bw (lst k)) := ⟨HLb.out.1.kp hkp, HLb.out.2.1.kp hkp, HLb.out.2.2.kp hkp⟩
          have HEND : Hid (BI w V0 W6 ba bb (i + 1)) := ⟨⟨bv3, BL3, hsb3, fun g hg => by
            rcases hl3 with rfl | rfl
            · have := HBL2.out g hg; omega
            · rcases BG.blks_one hg with h9 | h9
              · have := HBL2.out g h9; omega
              · have e9 : bb + i = g := by simpa [Value.ownBlock] using h9
                omega⟩, Below.trans HUW.out (HKP.out.1.trans hkp.1)⟩
          clear hsb3 hkp hl3 HAB y0 y1 y2 y3 HLb HUW HKP
          go_wp2_with fail
          go_roundw
          case rel => exact ⟨i + 1, by omega, by go_num, HEND.out, HLc.out.1, HLc.out.2.1, HLc.out.2.2⟩
          case measure => simp [intOf]; omega
        · have hil2 : ¬ (i : Int) < (n : Int) := by omega
          have HBI : Hid (BN w wr) := by
            obtain ⟨⟨v, L, h1, -⟩, h2⟩ := hbi
            exact ⟨⟨v, L, h1⟩, h2⟩
          obtain ⟨V4, rfl⟩ : ∃ V, V = wr := ⟨_, rfl⟩
          have HL4 : Hid (SL V4 bb (lst k) ∧ RL V4 bw (lst k)) := ⟨hl2, hl3⟩
          have HGL : Hid (∃ cs : Array Value, V4.heap[ga]? = some (.cells cs 55 (0, 0)) ∧ cs.size = n * 4) := by
            have h9 := hl1.2
            rw [← HGA.out] at h9
            exact ⟨_, h9, by rw [HN.out]; simp [rows_len]⟩
          clear hbi hl1 hl2 hl3 hi
          go_wp2_with fail
          go_loopw [9] (fun s9 W => ∃ j : Nat, j ≤ n ∧ s9 = .int .i64 j ∧ (∃ cs : Array Value, W.heap[ga]? = some (.cells cs 55 (0, 0)) ∧ cs.size = n * 4) ∧ Only ga V4 W) (fun s9 _ => n - (intOf s9).toNat)
          case atStart => exact ⟨0, by omega, rfl, HGL.out, Only.refl _ _⟩
          case round =>
            obtain ⟨j, hj, rfl, ⟨cs, hcs, hsz⟩, hon⟩ := hrel
            have HON : Hid (Only ga V4 wr) := hon
            have HCS : Hid (wr.heap[ga]? = some (.cells cs 55 (0, 0))) := hcs
            clear hon hcs
            by_cases hjl : j < n
            · have hjl2 : (j : Int) < (n : Int) := by omega
              have ej : IntKind.i64.wrap ((j : Int) + 1) = ((j + 1 : Nat) : Int) := by rw [IntKind.wrap_i64]; omega
              obtain ⟨v0, x0⟩ : ∃ v, wr.cell? ⟨ga, j * 4, none⟩ = some v := ⟨_, by simp only [World.cell?, HCS.out]; exact Array.getElem?_eq_getElem (by omega)⟩
              obtain ⟨v1, x1⟩ : ∃ v, wr.cell? ⟨ga, j * 4 + 1, none⟩ = some v := ⟨_, by simp only [World.cell?, HCS.out]; exact Array.getElem?_eq_getElem (by omega)⟩
              obtain ⟨v2, x2⟩ : ∃ v, wr.cell? ⟨ga, j * 4 + 2, none⟩ = some v := ⟨_, by simp only [World.cell?, HCS.out]; exact Array.getElem?_eq_getElem (by omega)⟩
              obtain ⟨v3, x3⟩ : ∃ v, wr.cell? ⟨ga, j * 4 + 3, none⟩ = some v := ⟨_, by simp only [World.cell?, HCS.out]; exact Array.getElem?_eq_getElem (by omega)⟩
              obtain ⟨f0, f1, f2, f3⟩ : wr.frozen? ⟨ga, j * 4, none⟩ = false ∧ wr.frozen? ⟨ga, j * 4 + 1, none⟩ = false ∧ wr.frozen? ⟨ga, j * 4 + 2, none⟩ = false ∧ wr.frozen? ⟨ga, j * 4 + 3, none⟩ = false := ⟨by simp [World.frozen?, HCS.out], by simp [World.frozen?, HCS.out], by simp [World.frozen?, HCS.out], by simp [World.frozen?, HCS.out]⟩
              go_wp2_with fail
              go_roundw
              case rel => exact ⟨j + 1, by omega, by go_num, set_grow hsz (set_grow' (set_grow' (set_grow' ⟨cs, HCS.out, rfl⟩))), (((HON.out.set _ _).set _ _).set _ _).set _ _⟩
              case measure => simp [intOf]; omega
            · have hjl2 : ¬ (j : Int) < (n : Int) := by omega
              have HCN : Hid (cs.size = n * 4) := hsz
              have HGG : Hid (w.heap.size ≤ ga) := by
                have h1 := HWV.out
                have h2 := HAL.out.2.2.2.1
                have h3 := HGA.out
                unfold Hid
                omega
              obtain ⟨iI, hiI, z0, z1, z2⟩ := info_parts infoSgA
              have HOW : Hid ((wr.alloc (.cells #[.string ⟨#[109, 111, 114, 101]⟩, .slice none 0 0, .int .i8 0, .nilFunc] 55)).ownsRow w.heap.size 55 4 (.slice (some ⟨ga, 0, none⟩) n n) n cs.toList) := own_sg (((Up.refl wr).alloc _).heap HCS.out) HGG.out hn13 HCN.out
              have HNW : Hid (∀ j u, [Value.string ⟨#[109, 111, 114, 101]⟩, .slice none 0 0, .int .i8 0, .nilFunc][j]? = some u → (wr.alloc (.cells #[.string ⟨#[109, 111, 114, 101]⟩, .slice none 0 0, .int .i8 0, .nilFunc] 55)).cell? ((⟨wr.heap.size, 0, none⟩ : Addr).add j) = some u) := fun j u h => new_four wr _ _ _ _ _ j u h
              have HOG : Hid (∀ W, (wr.alloc (.cells #[.string ⟨#[109, 111, 114, 101]⟩, .slice none 0 0, .int .i8 0, .nilFunc] 55)).grownBy W (some ga) → Only ga V4 W) := fun W hg => HON.out.trans ((Only.up ((Up.refl wr).alloc _)).trans ⟨⟨hg.os, hg.tape, hg.output⟩, hg.size, fun g hl hb => hg.block g hl (fun e => hb (by simpa using e))⟩)
              have hbs : w.heap.size ≤ wr.heap.size := Nat.le_trans HBI.out.2.size HON.out.2.1
              clear hsz
              go_wp2_with (at_builtin; go_loud (refine BG.wpList_append_apart _ (by rfl) (.tmp 94) (.tmp 96) 46 (by rfl) w.heap.size 55 iI (.agg #[.string ByteArray.empty, .slice none 0 0, .int .i8 0, .nilFunc]) 4 56 Tryd.underlying46 hiI z0 z1 z2 (by rfl) (by decide) (.slice (some ⟨ga, 0, none⟩) n n) n cs.toList (by rfl) HOW.out ⟨wr.heap.size, 0, none⟩ 1 [.string ⟨#[109, 111, 114, 101]⟩, .slice none 0 0, .int .i8 0, .nilFunc] (by rfl) (by rfl) HNW.out (by simp [Value.oneCell']) (by unfold maxLen; omega) (by omega) (by simp; omega) ?_; intro v' W5 a1 a2 a3 a4 a5; have HO5 : Hid (Only ga V4 W5) := HOG.out W5 a2; obtain ⟨xa, xk, hx⟩ := row_val a1; subst hx; clear a1 a2 a3 a4 a5))
              have HL5 : Hid (SL W5 bb (lst k) ∧ RL W5 bw (lst k)) := by
                have h1 := HAL.out.2.2.2.2.1
                have h2 := HAL.out.2.2.2.2.2
                have h3 := HGA.out
                have ht : ∀ (g : Nat) (o : Obj), V4.heap[g]? = some o → g ≠ ga → W5.heap[g]? = some o := fun g o h h' => HO5.out.heap h h'
                exact ⟨⟨fun i s hi => ht _ _ (HL4.out.1.1 i s hi) (by omega), ht _ _ HL4.out.1.2 (by omega)⟩, ⟨fun i s hi => ht _ _ (HL4.out.2.1 i s hi) (by omega), ht _ _ HL4.out.2.2 (by omega)⟩⟩
              have HB5 : Hid (BN w W5) := by
                obtain ⟨⟨v, L, h1⟩, h2⟩ := HBI.out
                obtain ⟨cs9, h9, -⟩ := HGL.out
                refine ⟨⟨v, L, h1.same HO5.out.2.1 (fun g c t fr hg ht => HO5.out.heap hg ?_)⟩, h2.only HO5.out HGG.out⟩
                rintro rfl
                rw [h9] at hg
                simp only [Option.some.injEq, Obj.cells.injEq] at hg
                rw [← hg.2.1] at ht
                revert ht
                decide
              clear HOW HNW HOG HON HCS HCN HBI HL4 HGL HO5
              go_wp2_with fail
              refine (HLS.out _).mono ?_
              rintro r W6 ⟨bc, rfl, hsc, u6, -⟩
              have HL6 : Hid (SL W6 bb (lst k) ∧ SL W6 bc (lst k) ∧ RL W6 bw (lst k)) := ⟨HL5.out.1.up u6, hsc, HL5.out.2.up u6⟩
              have HB6 : Hid (BN w W6) := by
                obtain ⟨⟨v, L, h1⟩, h2⟩ := HB5.out
                exact ⟨⟨v, L, h1.up u6⟩, h2.trans u6⟩
              clear hsc u6 HL5 HB5
              obtain ⟨gc, hgc⟩ : ∃ g, g = bc + (lst k).length := ⟨_, rfl⟩
              have HGC : Hid (gc = bc + (lst k).length) := hgc
              rw [← hgc, ← HN.out]
              clear hgc
              have HI0 : Hid (0 < (lst k).length) := (lst_len HK.out).2
              have HXB : Hid (W6.cell? ⟨gb, 0, none⟩ = some (.string ((lst k).getD 0 ds).name) ∧ W6.cell? ⟨gb, 1, none⟩ = some (.slice (some ⟨bb, 0, none⟩) ((lst k).getD 0 ds).args.length ((lst k).getD 0 ds).args.length) ∧ W6.cell? ⟨gb, 2, none⟩ = some (.int .i8 ((lst k).getD 0 ds).tell) ∧ W6.cell? ⟨gb, 3, none⟩ = some (.func (.func (gi ((lst k).getD 0 ds).each)) #[] #[])) := by
                have h9 := HL6.out.1.row HI0.out
                rw [← HGB.out] at h9
                exact h9
              have HXC : Hid (W6.cell? ⟨gc, 0, none⟩ = some (.string ((lst k).getD 0 ds).name) ∧ W6.cell? ⟨gc, 1, none⟩ = some (.slice (some ⟨bc, 0, none⟩) ((lst k).getD 0 ds).args.length ((lst k).getD 0 ds).args.length) ∧ W6.cell? ⟨gc, 2, none⟩ = some (.int .i8 ((lst k).getD 0 ds).tell) ∧ W6.cell? ⟨gc, 3, none⟩ = some (.func (.func (gi ((lst k).getD 0 ds).each)) #[] #[])) := by
                have h9 := HL6.out.2.1.row HI0.out
                rw [← HGC.out] at h9
                exact h9
              have HXW : Hid (W6.cell? ⟨gw, 0, none⟩ = some (.string ((lst k).getD 0 ds).name) ∧ W6.cell? ⟨gw, 1, none⟩ = some (.slice (some ⟨bw, 0, none⟩) ((lst k).getD 0 ds).args.length ((lst k).getD 0 ds).args.length) ∧ W6.cell? ⟨gw, 2, none⟩ = some (.int .i8 ((lst k).getD 0 ds).tell)) := by
                have h9 := HL6.out.2.2.row HI0.out
                rw [← HGW.out] at h9
                exact h9
              have HSG : Hid (∀ (W : World) (g g' : Nat), W.heap[g]? = some (argO ((lst k).getD 0 ds)) → W.heap[g']? = some (argO ((lst k).getD 0 ds)) → Calls Tryd.prog 7 #[.agg #[.string ((lst k).getD 0 ds).name, .slice (some ⟨g, 0, none⟩) ((lst k).getD 0 ds).args.length ((lst k).getD 0 ds).args.length, .int .i8 ((lst k).getD 0 ds).tell, .func (.func (gi ((lst k).getD 0 ds).each)) #[] #[]], .agg #[.string ((lst k).getD 0 ds).name, .slice (some ⟨g', 0, none⟩) ((lst k).getD 0 ds).args.length ((lst k).getD 0 ds).args.length, .int .i8 ((lst k).getD 0 ds).tell], .int .i64 (k : Int), .int .i64 0, .int .i64 z] W fun e w' => e = .returned (.bool true) ∧ Up W w') := fun W g g' h h' => sign_ k 0 z g g' W HK.out HI0.out hz h h'
              have HAG : Hid (W6.heap[bb]? = some (argO ((lst k).getD 0 ds)) ∧ W6.heap[bc]? = some (argO ((lst k).getD 0 ds)) ∧ W6.heap[bw]? = some (argO ((lst k).getD 0 ds))) := ⟨HL6.out.1.args HI0.out, HL6.out.2.1.args HI0.out, HL6.out.2.2.args HI0.out⟩
              generalize hsg : (lst k).getD 0 ds = sg at *
              clear hsg
              obtain ⟨nm, ar, tl, ec⟩ := sg
              generalize hargo : argO ⟨nm, ar, tl, ec⟩ = ao at *
              clear hargo
              dsimp only at *
              generalize gi ec = gf at *
              generalize ar.length = q at *
              have HS0 : Hid ((W6.drew.cell? ⟨gb, 0, none⟩ = some (.string nm) ∧ W6.drew.cell? ⟨gb, 1, none⟩ = some (.slice (some ⟨bb, 0, none⟩) q q) ∧ W6.drew.cell? ⟨gb, 2, none⟩ = some (.int .i8 tl) ∧ W6.drew.cell? ⟨gb, 3, none⟩ = some (.func (.func gf) #[] #[])) ∧ (W6.drew.cell? ⟨gc, 0, none⟩ = some (.string nm) ∧ W6.drew.cell? ⟨gc, 1, none⟩ = some (.slice (some ⟨bc, 0, none⟩) q q) ∧ W6.drew.cell? ⟨gc, 2, none⟩ = some (.int .i8 tl) ∧ W6.drew.cell? ⟨gc, 3, none⟩ = some (.func (.func gf) #[] #[])) ∧ (W6.drew.cell? ⟨gw, 0, none⟩ = some (.string nm) ∧ W6.drew.cell? ⟨gw, 1, none⟩ = some (.slice (some ⟨bw, 0, none⟩) q q) ∧ W6.drew.cell? ⟨gw, 2, none⟩ = some (.int .i8 tl)) ∧ Hid (Up W6 W6.drew)) := ⟨HXB.out, HXC.out, HXW.out, (Up.refl _).drew⟩
              have HKp : Hid (∀ W W', ((W.cell? ⟨gb, 0, none⟩ = some (.string nm) ∧ W.cell? ⟨gb, 1, none⟩ = some (.slice (some ⟨bb, 0, none⟩) q q) ∧ W.cell? ⟨gb, 2, none⟩ = some (.int .i8 tl) ∧ W.cell? ⟨gb, 3, none⟩ = some (.func (.func gf) #[] #[])) ∧ (W.cell? ⟨gc, 0, none⟩ = some (.string nm) ∧ W.cell? ⟨gc, 1, none⟩ = some (.slice (some ⟨bc, 0, none⟩) q q) ∧ W.cell? ⟨gc, 2, none⟩ = some (.int .i8 tl) ∧ W.cell? ⟨gc, 3, none⟩ = some (.func (.func gf) #[] #[])) ∧ (W.cell? ⟨gw, 0, none⟩ = some (.string nm) ∧ W.cell? ⟨gw, 1, none⟩ = some (.slice (some ⟨bw, 0, none⟩) q q) ∧ W.cell? ⟨gw, 2, none⟩ = some (.int .i8 tl)) ∧ Hid (Up W6 W)) → Up W W' → ((W'.cell? ⟨gb, 0, none⟩ = some (.string nm) ∧ W'.cell? ⟨gb, 1, none⟩ = some (.slice (some ⟨bb, 0, none⟩) q q) ∧ W'.cell? ⟨gb, 2, none⟩ = some (.int .i8 tl) ∧ W'.cell? ⟨gb, 3, none⟩ = some (.func (.func gf) #[] #[])) ∧ (W'.cell? ⟨gc, 0, none⟩ = some (.string nm) ∧ W'.cell? ⟨gc, 1, none⟩ = some (.slice (some ⟨bc, 0, none⟩) q q) ∧ W'.cell? ⟨gc, 2, none⟩ = some (.int .i8 tl) ∧ W'.cell? ⟨gc, 3, none⟩ = some (.func (.func gf) #[] #[])) ∧ (W'.cell? ⟨gw, 0, none⟩ = some (.string nm) ∧ W'.cell? ⟨gw, 1, none⟩ = some (.slice (some ⟨bw, 0, none⟩) q q) ∧ W'.cell? ⟨gw, 2, none⟩ = some (.int .i8 tl)) ∧ Hid (Up W6 W'))) := fun W W' h u => ⟨⟨u.cell h.1.1, u.cell h.1.2.1, u.cell h.1.2.2.1, u.cell h.1.2.2.2⟩, ⟨u.cell h.2.1.1, u.cell h.2.1.2.1, u.cell h.2.1.2.2.1, u.cell h.2.1.2.2.2⟩, ⟨u.cell h.2.2.1.1, u.cell h.2.2.1.2.1, u.cell h.2.2.1.2.2⟩, h.2.2.2.out.trans u⟩
              have HC1 : Hid (∀ W, ((W.cell? ⟨gb, 0, none⟩ = some (.string nm) ∧ W.cell? ⟨gb, 1, none⟩ = some (.slice (some ⟨bb, 0, none⟩) q q) ∧ W.cell? ⟨gb, 2, none⟩ = some (.int .i8 tl) ∧ W.cell? ⟨gb, 3, none⟩ = some (.func (.func gf) #[] #[])) ∧ (W.cell? ⟨gc, 0, none⟩ = some (.string nm) ∧ W.cell? ⟨gc, 1, none⟩ = some (.slice (some ⟨bc, 0, none⟩) q q) ∧ W.cell? ⟨gc, 2, none⟩ = some (.int .i8 tl) ∧ W.cell? ⟨gc, 3, none⟩ = some (.func (.func gf) #[] #[])) ∧ (W.cell? ⟨gw, 0, none⟩ = some (.string nm) ∧ W.cell? ⟨gw, 1, none⟩ = some (.slice (some ⟨bw, 0, none⟩) q q) ∧ W.cell? ⟨gw, 2, none⟩ = some (.int .i8 tl)) ∧ Hid (Up W6 W)) → Calls Tryd.prog 7 #[.agg #[.string nm, .slice (some ⟨bb, 0, none⟩) q q, .int .i8 tl, .func (.func gf) #[] #[]], .agg #[.string nm, .slice (some ⟨bw, 0, none⟩) q q, .int .i8 tl], .int .i64 (k : Int), .int .i64 0, .int .i64 z] W fun e w' => e = .returned (.bool true) ∧ Up W w') := fun W h => HSG.out W _ _ (h.2.2.2.out.heap HAG.out.1) (h.2.2.2.out.heap HAG.out.2.2)
              have HC2 : Hid (∀ W, ((W.cell? ⟨gb, 0, none⟩ = some (.string nm) ∧ W.cell? ⟨gb, 1, none⟩ = some (.slice (some ⟨bb, 0, none⟩) q q) ∧ W.cell? ⟨gb, 2, none⟩ = some (.int .i8 tl) ∧ W.cell? ⟨gb, 3, none⟩ = some (.func (.func gf) #[] #[])) ∧ (W.cell? ⟨gc, 0, none⟩ = some (.string nm) ∧ W.cell? ⟨gc, 1, none⟩ = some (.slice (some ⟨bc, 0, none⟩) q q) ∧ W.cell? ⟨gc, 2, none⟩ = some (.int .i8 tl) ∧ W.cell? ⟨gc, 3, none⟩ = some (.func (.func gf) #[] #[])) ∧ (W.cell? ⟨gw, 0, none⟩ = some (.string nm) ∧ W.cell? ⟨gw, 1, none⟩ = some (.slice (some ⟨bw, 0, none⟩) q q) ∧ W.cell? ⟨gw, 2, none⟩ = some (.int .i8 tl)) ∧ Hid (Up W6 W)) → Calls Tryd.prog 7 #[.agg #[.string nm, .slice (some ⟨bc, 0, none⟩) q q, .int .i8 tl, .func (.func gf) #[] #[]], .agg #[.string nm, .slice (some ⟨bw, 0, none⟩) q q, .int .i8 tl], .int .i64 (k : Int), .int .i64 0, .int .i64 z] W fun e w' => e = .returned (.bool true) ∧ Up W w') := fun W h => HSG.out W _ _ (h.2.2.2.out.heap HAG.out.2.1) (h.2.2.2.out.heap HAG.out.2.2)
              have en : IntKind.i64.wrap ((n : Int) + 1) = ((n + 1 : Nat) : Int) := by rw [IntKind.wrap_i64]; omega
              have hn02 : (0 : Int) < (n : Int) := by omega
              go_wp2_with fail
              go_region_held3 (fun W' => ((W'.cell? ⟨gb, 0, none⟩ = some (.string nm) ∧ W'.cell? ⟨gb, 1, none⟩ = some (.slice (some ⟨bb, 0, none⟩) q q) ∧ W'.cell? ⟨gb, 2, none⟩ = some (.int .i8 tl) ∧ W'.cell? ⟨gb, 3, none⟩ = some (.func (.func gf) #[] #[])) ∧ (W'.cell? ⟨gc, 0, none⟩ = some (.string nm) ∧ W'.cell? ⟨gc, 1, none⟩ = some (.slice (some ⟨bc, 0, none⟩) q q) ∧ W'.cell? ⟨gc, 2, none⟩ = some (.int .i8 tl) ∧ W'.cell? ⟨gc, 3, none⟩ = some (.func (.func gf) #[] #[])) ∧ (W'.cell? ⟨gw, 0, none⟩ = some (.string nm) ∧ W'.cell? ⟨gw, 1, none⟩ = some (.slice (some ⟨bw, 0, none⟩) q q) ∧ W'.cell? ⟨gw, 2, none⟩ = some (.int .i8 tl)) ∧ Hid (Up W6 W')))
                (first | exact HS0.out | (refine HKp.out _ _ ?_ hu9; assumption))
                (first
                  | (go_at_call 7; with_reducible refine Calls.mono (HC1.out _ (by assumption)) ?_; rintro e w' ⟨rfl, hu9⟩)
                  | (go_at_call 7; with_reducible refine Calls.mono (HC2.out _ (by assumption)) ?_; rintro e w' ⟨rfl, hu9⟩))
              rename_i hZ
              have HB7 : Hid (BN w w') := by
                obtain ⟨⟨v, L, h1⟩, h2⟩ := HB6.out
                exact ⟨⟨v, L, h1.up hZ.2.2.2.out⟩, h2.trans hZ.2.2.2.out⟩
              clear hZ HS0 HKp HC1 HC2 HSG hu9 HXB HXC HXW HAG HL6 HB6
              go_wp2_with fail
              go_roundw
              case rel => exact ⟨k + 1, by omega, by go_num, HB7.out⟩
              case measure => simp [intOf]; omega
    · have hlt2 : ¬ (k : Int) < 3 := by omega
      have HLF : Hid (∀ W, Calls Tryd.prog 9 #[] W (LsR W 0)) := lst_0
      have HRF0 : Hid (∀ W, Calls Tryd.prog 11 #[] W (LrR W 0)) := rlst_0
      have HLV : Hid (∀ W, Calls Tryd.prog 12 #[] W fun e w' => e = .returned (.bool true) ∧ Up W w') := lives_
      go_wp2_with fail
      refine (HLF.out _).mono ?_
      rintro r W1 ⟨bl, rfl, hsl, u1, hb1⟩
      have HSL : Hid (SL W1 bl (lst 0) ∧ Up V0 W1 ∧ V0.heap.size ≤ bl) := ⟨hsl, u1, hb1⟩
      clear hsl u1 hb1 HLF
      have HI0 : Hid (0 < (lst 0).length) := by unfold Hid; decide
      obtain ⟨n, hn⟩ : ∃ n, n = (lst 0).length := ⟨_, rfl⟩
      have HN : Hid (n = (lst 0).length) := hn
      obtain ⟨gl, hgl⟩ : ∃ g, g = bl + (lst 0).length := ⟨_, rfl⟩
      have HGL : Hid (gl = bl + (lst 0).length) := hgl
      rw [← hgl, ← hn]
      have hn0 : (0 : Int) < (n : Int) := by rw [hn]; decide
      have hn1 : 0 < n := by omega
      clear hgl hn
      have HX : Hid (W1.cell? ⟨gl, 0, none⟩ = some (.string ((lst 0).getD 0 ds).name) ∧ W1.cell? ⟨gl, 1, none⟩ = some (.slice (some ⟨bl, 0, none⟩) ((lst 0).getD 0 ds).args.length ((lst 0).getD 0 ds).args.length) ∧ W1.cell? ⟨gl, 2, none⟩ = some (.int .i8 ((lst 0).getD 0 ds).tell) ∧ W1.cell? ⟨gl, 3, none⟩ = some (.func (.func (gi ((lst 0).getD 0 ds).each)) #[] #[])) := by
        have h9 := HSL.out.1.row HI0.out
        rw [← HGL.out] at h9
        exact h9
      have HAO : Hid (W1.heap[bl]? = some (argO ((lst 0).getD 0 ds))) := HSL.out.1.args HI0.out
      have HSG : Hid (∀ (W : World) (g g' : Nat), W.heap[g]? = some (argO ((lst 0).getD 0 ds)) → W.heap[g']? = some (argO ((lst 0).getD 0 ds)) → Calls Tryd.prog 7 #[.agg #[.string ((lst 0).getD 0 ds).name, .slice (some ⟨g, 0, none⟩) ((lst 0).getD 0 ds).args.length ((lst 0).getD 0 ds).args.length, .int .i8 ((lst 0).getD 0 ds).tell, .func (.func (gi ((lst 0).getD 0 ds).each)) #[] #[]], .agg #[.string ((lst 0).getD 0 ds).name, .slice (some ⟨g', 0, none⟩) ((lst 0).getD 0 ds).args.length ((lst 0).getD 0 ds).args.length, .int .i8 ((lst 0).getD 0 ds).tell], .int .i64 0, .int .i64 0, .int .i64 z] W fun e w' => e = .returned (.bool true) ∧ Up W w') := fun W g g' h h' => sign_ 0 0 z g g' W (by decide) HI0.out hz h h'
      have HRF : Hid (∀ W, Calls Tryd.prog 11 #[] W fun e w' => ∃ gw bw, e = .returned (.slice (some ⟨gw, 0, none⟩) n n) ∧ (w'.cell? ⟨gw, 0, none⟩ = some (.string ((lst 0).getD 0 ds).name) ∧ w'.cell? ⟨gw, 1, none⟩ = some (.slice (some ⟨bw, 0, none⟩) ((lst 0).getD 0 ds).args.length ((lst 0).getD 0 ds).args.length) ∧ w'.cell? ⟨gw, 2, none⟩ = some (.int .i8 ((lst 0).getD 0 ds).tell)) ∧ Hid (w'.heap[bw]? = some (argO ((lst 0).getD 0 ds))) ∧ Up W w') := fun W => (HRF0.out W).mono fun e w' ⟨b, h1, h2, h3, _⟩ => ⟨b + (lst 0).length, b, by rw [HN.out]; exact h1, h2.row HI0.out, h2.args HI0.out, h3⟩
      have HAP : Hid (Calls Tryd.prog 10 #[.pointer (some ⟨w.heap.size, 0, none⟩)] W1.drew fun e w' => e = .returned (.bool true) ∧ Up w w' ∧ ∀ g o, V0.heap.size ≤ g → W1.heap[g]? = some o → w'.heap[g]? = some o) := by
        obtain ⟨⟨v, L, h1⟩, h2⟩ := HB.out
        have h3 := h1.up HSL.out.2.1
        refine (BG.sb_apartX _ _ _ v L W1.drew (h3.up (Up.refl _).drew)).mono fun e w' ⟨h4, h5⟩ => ⟨h4, ?_, fun g o hg ho => ?_⟩
        · refine ⟨h5.1.1.trans (h2.trans HSL.out.2.1).os, h5.1.2.1.trans (h2.trans HSL.out.2.1).drew.tape, h5.1.2.2.trans (h2.trans HSL.out.2.1).output, Nat.le_trans (h2.trans HSL.out.2.1).size h5.2.1, fun g hg => ?_⟩
          rw [h5.2.2 g (Nat.lt_of_lt_of_le hg (h2.trans HSL.out.2.1).size) (fun h9 => by have := (h1.blks h9).1; omega)]
          exact (h2.trans HSL.out.2.1).block g hg
        · rw [h5.2.2 g (Array.getElem?_eq_some_iff.1 ho).1 (fun h9 => by have := (h1.blks h9).2.1; omega)]
          exact ho
      generalize hsg : (lst 0).getD 0 ds = sg at *
      clear hsg
      obtain ⟨nm, ar, tl, ec⟩ := sg
      generalize hargo : argO ⟨nm, ar, tl, ec⟩ = ao at *
      clear hargo
      dsimp only at *
      generalize gi ec = gf at *
      generalize ar.length = q at *
      have HS0 : Hid ((W1.drew.cell? ⟨gl, 0, none⟩ = some (.string nm) ∧ W1.drew.cell? ⟨gl, 1, none⟩ = some (.slice (some ⟨bl, 0, none⟩) q q) ∧ W1.drew.cell? ⟨gl, 2, none⟩ = some (.int .i8 tl) ∧ W1.drew.cell? ⟨gl, 3, none⟩ = some (.func (.func gf) #[] #[])) ∧ Hid (W1.drew.heap[bl]? = some ao ∧ Up w W1.drew)) := ⟨HX.out, HAO.out, (HB.out.2.trans HSL.out.2.1).drew⟩
      have HKp : Hid (∀ W W', ((W.cell? ⟨gl, 0, none⟩ = some (.string nm) ∧ W.cell? ⟨gl, 1, none⟩ = some (.slice (some ⟨bl, 0, none⟩) q q) ∧ W.cell? ⟨gl, 2, none⟩ = some (.int .i8 tl) ∧ W.cell? ⟨gl, 3, none⟩ = some (.func (.func gf) #[] #[])) ∧ Hid (W.heap[bl]? = some ao ∧ Up w W)) → Up W W' → ((W'.cell? ⟨gl, 0, none⟩ = some (.string nm) ∧ W'.cell? ⟨gl, 1, none⟩ = some (.slice (some ⟨bl, 0, none⟩) q q) ∧ W'.cell? ⟨gl, 2, none⟩ = some (.int .i8 tl) ∧ W'.cell? ⟨gl, 3, none⟩ = some (.func (.func gf) #[] #[])) ∧ Hid (W'.heap[bl]? = some ao ∧ Up w W'))) := fun W W' h u => ⟨⟨u.cell h.1.1, u.cell h.1.2.1, u.cell h.1.2.2.1, u.cell h.1.2.2.2⟩, u.heap h.2.out.1, h.2.out.2.trans u⟩
      have HAP2 : Hid (Calls Tryd.prog 10 #[.pointer (some ⟨w.heap.size, 0, none⟩)] W1.drew fun e w' => e = .returned (.bool true) ∧ ((w'.cell? ⟨gl, 0, none⟩ = some (.string nm) ∧ w'.cell? ⟨gl, 1, none⟩ = some (.slice (some ⟨bl, 0, none⟩) q q) ∧ w'.cell? ⟨gl, 2, none⟩ = some (.int .i8 tl) ∧ w'.cell? ⟨gl, 3, none⟩ = some (.func (.func gf) #[] #[])) ∧ Hid (w'.heap[bl]? = some ao ∧ Up w w'))) := HAP.out.mono fun e w' ⟨h1, h2, h3⟩ => by
        have hblk : ∀ j v, W1.cell? ⟨gl, j, none⟩ = some v → w'.cell? ⟨gl, j, none⟩ = some v := fun j v hv => by
          have hb : ∃ o, W1.heap[gl]? = some o := by
            cases ho : W1.heap[gl]? with
            | none => simp [World.cell?, ho] at hv
            | some o => exact ⟨o, rfl⟩
          obtain ⟨o, ho⟩ := hb
          have h9 := h3 gl o (by have := HSL.out.2.2; have := HGL.out; omega) ho
          simp only [World.cell?, ho] at hv
          simp only [World.cell?, h9]
          exact hv
        exact ⟨h1, ⟨hblk _ _ HX.out.1, hblk _ _ HX.out.2.1, hblk _ _ HX.out.2.2.1, hblk _ _ HX.out.2.2.2⟩, h3 bl _ HSL.out.2.2 HAO.out, h2⟩
      have HLV2 : Hid (∀ W, Calls Tryd.prog 12 #[] W fun e w' => e = .returned (.bool true) ∧ Up W w') := HLV.out
      have HRF2 : Hid (∀ W, Calls Tryd.prog 11 #[] W fun e w' => ∃ gw bw, e = .returned (.slice (some ⟨gw, 0, none⟩) n n) ∧ (w'.cell? ⟨gw, 0, none⟩ = some (.string nm) ∧ w'.cell? ⟨gw, 1, none⟩ = some (.slice (some ⟨bw, 0, none⟩) q q) ∧ w'.cell? ⟨gw, 2, none⟩ = some (.int .i8 tl)) ∧ Hid (w'.heap[bw]? = some ao) ∧ Up W w') := HRF.out
      have HSG2 : Hid (∀ (W : World) (bw : Nat), W.heap[bl]? = some ao → W.heap[bw]? = some ao → Calls Tryd.prog 7 #[.agg #[.string nm, .slice (some ⟨bl, 0, none⟩) q q, .int .i8 tl, .func (.func gf) #[] #[]], .agg #[.string nm, .slice (some ⟨bw, 0, none⟩) q q, .int .i8 tl], .int .i64 0, .int .i64 0, .int .i64 z] W fun e w' => e = .returned (.bool true) ∧ Up W w') := fun W bw h h' => HSG.out W bl bw h h'
      clear HAP HRF HRF0 HLV HSG
      go_wp2_with fail
      refine wp_region_noPanic ?_
      refine wp_region_held_drew (S := fun W9 => ((W9.cell? ⟨gl, 0, none⟩ = some (.string nm) ∧ W9.cell? ⟨gl, 1, none⟩ = some (.slice (some ⟨bl, 0, none⟩) q q) ∧ W9.cell? ⟨gl, 2, none⟩ = some (.int .i8 tl) ∧ W9.cell? ⟨gl, 3, none⟩ = some (.func (.func gf) #[] #[])) ∧ Hid (W9.heap[bl]? = some ao ∧ Up w W9))) (by kernel_rfl) HS0.out (fun hHeld => ?_)
      have hSS := HS0.out
      refine wpAnyH_take (i := 0) (v := ?_) rfl (by kernel_rfl) (by kernel_rfl) (by kernel_rfl) (fun _ _ _ h => h) (Or.inl ⟨by rfl, ?_⟩) hSS ?_
      rotate_left
      · intro w9 hSw
        go_simp
        try with_reducible rfl
      simp only [Act.put, List.setIfInBounds_toArray, List.set_cons_zero, List.set_cons_succ, List.getElem_toArray, List.getElem_cons_zero]
      refine wpAnyH_ready (rs := [1]) (by kernel_rfl) (by simp) ?_
      refine AllReadyH.cons rfl (fun K hK => ?_) AllReadyH.nil
      simp only [List.getElem_toArray, List.getElem_cons_zero, List.getElem_cons_succ]
      go_simp
      refine Calls.mono HAP2.out ?_
      rintro r9 W8 ⟨rfl, hS9⟩
      go_simp
      refine hK.out _ _ ?_ (fun hHeld => ?_)
      · exact hS9
      clear hK K
      try simp only [Act.put, List.setIfInBounds_toArray, List.set_cons_zero, List.set_cons_succ]
      have hSS := hS9
      refine wpAnyH_take (i := 2) (v := ?_) rfl (by kernel_rfl) (by kernel_rfl) (by kernel_rfl) (fun _ _ _ h => h) (Or.inl ⟨by rfl, ?_⟩) hSS ?_
      rotate_left
      · intro w9 hSw
        go_simp
        try with_reducible rfl
      simp only [Act.put, List.setIfInBounds_toArray, List.set_cons_zero, List.set_cons_succ, List.getElem_toArray, List.getElem_cons_zero, List.getElem_cons_succ]
      refine wpAnyH_take (i := 3) (v := ?_) rfl (by kernel_rfl) (by kernel_rfl) (by kernel_rfl) (fun _ _ _ h => h) (Or.inl ⟨by rfl, ?_⟩) hSS ?_
      rotate_left
      · intro w9 hSw
        go_simp
        try with_reducible rfl
      simp only [Act.put, List.setIfInBounds_toArray, List.set_cons_zero, List.set_cons_succ, List.getElem_toArray, List.getElem_cons_zero, List.getElem_cons_succ]
      refine wpAnyH_take (i := 4) (v := ?_) rfl (by kernel_rfl) (by kernel_rfl) (by kernel_rfl) (fun _ _ _ h => h) (Or.inl ⟨by rfl, ?_⟩) hSS ?_
      rotate_left
      · intro w9 hSw
        go_simp
        try with_reducible rfl
      simp only [Act.put, List.setIfInBounds_toArray, List.set_cons_zero, List.set_cons_succ, List.getElem_toArray, List.getElem_cons_zero, List.getElem_cons_succ]
      refine wpAnyH_take (i := 5) (v := ?_) rfl (by kernel_rfl) (by kernel_rfl) (by kernel_rfl) (fun _ _ _ h => h) (Or.inl ⟨by rfl, ?_⟩) hSS ?_
      rotate_left
      · intro w9 hSw
        go_simp
        try with_reducible rfl
      simp only [Act.put, List.setIfInBounds_toArray, List.set_cons_zero, List.set_cons_succ, List.getElem_toArray, List.getElem_cons_zero, List.getElem_cons_succ]
      refine wpAnyH_take (i := 6) (v := ?_) rfl (by kernel_rfl) (by kernel_rfl) (by kernel_rfl) (fun _ _ _ h => h) (Or.inl ⟨by rfl, ?_⟩) hSS ?_
      rotate_left
      · intro w9 hSw
        go_simp
        try with_reducible rfl
      simp only [Act.put, List.setIfInBounds_toArray, List.set_cons_zero, List.set_cons_succ, List.getElem_toArray, List.getElem_cons_zero, List.getElem_cons_succ]
      refine wpAnyH_take (i := 7) (v := ?_) rfl (by kernel_rfl) (by kernel_rfl) (by kernel_rfl) (fun _ _ _ h => h) (Or.inl ⟨by rfl, ?_⟩) hSS ?_
      rotate_left
      · intro w9 hSw
        go_simp
        try with_reducible rfl
      simp only [Act.put, List.setIfInBounds_toArray, List.set_cons_zero, List.set_cons_succ, List.getElem_toArray, List.getElem_cons_zero, List.getElem_cons_succ]
      refine wpAnyH_take (i := 8) (v := ?_) rfl (by kernel_rfl) (by kernel_rfl) (by kernel_rfl) (fun _ _ _ h => h) (Or.inl ⟨by rfl, ?_⟩) hSS ?_
      rotate_left
      · intro w9 hSw
        go_simp
        try with_reducible rfl
      simp only [Act.put, List.setIfInBounds_toArray, List.set_cons_zero, List.set_cons_succ, List.getElem_toArray, List.getElem_cons_zero, List.getElem_cons_succ]
      refine wpAnyH_take (i := 9) (v := ?_) rfl (by kernel_rfl) (by kernel_rfl) (by kernel_rfl) (fun _ _ _ h => h) (Or.inl ⟨by rfl, ?_⟩) hSS ?_
      rotate_left
      · intro w9 hSw
        go_simp
        try with_reducible rfl
      simp only [Act.put, List.setIfInBounds_toArray, List.set_cons_zero, List.set_cons_succ, List.getElem_toArray, List.getElem_cons_zero, List.getElem_cons_succ]
      refine wpAnyH_take (i := 10) (v := ?_) rfl (by kernel_rfl) (by kernel_rfl) (by kernel_rfl) (fun _ _ _ h => h) (Or.inl ⟨by rfl, ?_⟩) hSS ?_
      rotate_left
      · intro w9 hSw
        obtain ⟨⟨y0, y1, y2, y3⟩, -⟩ := hSw
        go_simp
        try with_reducible rfl
      simp only [Act.put, List.setIfInBounds_toArray, List.set_cons_zero, List.set_cons_succ, List.getElem_toArray, List.getElem_cons_zero, List.getElem_cons_succ]
      refine wpAnyH_take (i := 14) (v := ?_) rfl (by kernel_rfl) (by kernel_rfl) (by kernel_rfl) (fun _ _ _ h => h) (Or.inl ⟨by rfl, ?_⟩) hSS ?_
      rotate_left
      · intro w9 hSw
        go_simp
        try with_reducible rfl
      simp only [Act.put, List.setIfInBounds_toArray, List.set_cons_zero, List.set_cons_succ, List.getElem_toArray, List.getElem_cons_zero, List.getElem_cons_succ]
      refine wpAnyH_ready (rs := [11]) (by kernel_rfl) (by simp) ?_
      refine AllReadyH.cons rfl (fun K hK => ?_) AllReadyH.nil
      simp only [List.getElem_toArray, List.getElem_cons_zero, List.getElem_cons_succ]
      go_simp
      refine Calls.mono (HRF2.out _) ?_
      rintro r9 W9 ⟨gw, bw, rfl, ⟨z0, z1, z2⟩, hbw, u9⟩
      have hSa := HKp.out _ _ hSS u9
      go_simp
      refine hK.out _ _ ?_ (fun hHeld => ?_)
      · exact hSa
      clear hK K
      try simp only [Act.put, List.setIfInBounds_toArray, List.set_cons_zero, List.set_cons_succ]
      have hSS := hSa
      refine wpAnyH_take (i := 12) (v := ?_) rfl (by kernel_rfl) (by kernel_rfl) (by kernel_rfl) (fun _ _ _ h => h) (Or.inl ⟨by rfl, ?_⟩) hSS ?_
      rotate_left
      · intro w9 hSw
        go_simp
        try with_reducible rfl
      simp only [Act.put, List.setIfInBounds_toArray, List.set_cons_zero, List.set_cons_succ, List.getElem_toArray, List.getElem_cons_zero, List.getElem_cons_succ]
      refine wpAnyH_ready (rs := [13]) (by kernel_rfl) (by simp) ?_
      refine AllReadyH.cons rfl (fun K hK => ?_) AllReadyH.nil
      simp only [List.getElem_toArray, List.getElem_cons_zero, List.getElem_cons_succ]
      go_simp
      refine hK.out _ _ ?_ (fun hHeld => ?_)
      · exact hSS
      clear hK K
      try simp only [Act.put, List.setIfInBounds_toArray, List.set_cons_zero, List.set_cons_succ]
      refine wpAnyH_ready (rs := [15]) (by kernel_rfl) (by simp) ?_
      refine AllReadyH.cons rfl (fun K hK => ?_) AllReadyH.nil
      simp only [List.getElem_toArray, List.getElem_cons_zero, List.getElem_cons_succ]
      go_simp
      refine Calls.mono (HSG2.out _ bw hSS.2.out.1 hbw.out) ?_
      rintro r9 WA ⟨rfl, ua⟩
      have hSb := HKp.out _ _ hSS ua
      go_simp
      refine hK.out _ _ ?_ (fun hHeld => ?_)
      · exact hSb
      clear hK K
      try simp only [Act.put, List.setIfInBounds_toArray, List.set_cons_zero, List.set_cons_succ]
      have hSS := hSb
      refine wpAnyH_take (i := 16) (v := ?_) rfl (by kernel_rfl) (by kernel_rfl) (by kernel_rfl) (fun _ _ _ h => h) (Or.inl ⟨by rfl, ?_⟩) hSS ?_
      rotate_left
      · intro w9 hSw
        go_simp
        try with_reducible rfl
      simp only [Act.put, List.setIfInBounds_toArray, List.set_cons_zero, List.set_cons_succ, List.getElem_toArray, List.getElem_cons_zero, List.getElem_cons_succ]
      refine wpAnyH_take (i := 17) (v := ?_) rfl (by kernel_rfl) (by kernel_rfl) (by kernel_rfl) (fun _ _ _ h => h) (Or.inl ⟨by rfl, ?_⟩) hSS ?_
      rotate_left
      · intro w9 hSw
        go_simp
        try with_reducible rfl
      simp only [Act.put, List.setIfInBounds_toArray, List.set_cons_zero, List.set_cons_succ, List.getElem_toArray, List.getElem_cons_zero, List.getElem_cons_succ]
      refine wpAnyH_ready (rs := [18]) (by kernel_rfl) (by simp) ?_
      refine AllReadyH.cons rfl (fun K hK => ?_) AllReadyH.nil
      simp only [List.getElem_toArray, List.getElem_cons_zero, List.getElem_cons_succ]
      go_simp
      refine Calls.mono (HLV2.out _) ?_
      rintro r9 WB ⟨rfl, ub⟩
      have hSc := HKp.out _ _ hSS ub
      go_simp
      refine hK.out _ _ ?_ (fun hHeld => ?_)
      · exact hSc
      clear hK K
      try simp only [Act.put, List.setIfInBounds_toArray, List.set_cons_zero, List.set_cons_succ]
      have hSS := hSc
      refine wpAnyH_take (i := 19) (v := ?_) rfl (by kernel_rfl) (by kernel_rfl) (by kernel_rfl) (fun _ _ _ h => h) (Or.inl ⟨by rfl, ?_⟩) hSS ?_
      rotate_left
      · intro w9 hSw
        go_simp
        try with_reducible rfl
      simp only [Act.put, List.setIfInBounds_toArray, List.set_cons_zero, List.set_cons_succ, List.getElem_toArray, List.getElem_cons_zero, List.getElem_cons_succ]
      refine wpAnyH_take (i := 20) (v := ?_) rfl (by kernel_rfl) (by kernel_rfl) (by kernel_rfl) (fun _ _ _ h => h) (Or.inl ⟨by rfl, ?_⟩) hSS ?_
      rotate_left
      · intro w9 hSw
        go_simp
        try with_reducible rfl
      simp only [Act.put, List.setIfInBounds_toArray, List.set_cons_zero, List.set_cons_succ, List.getElem_toArray, List.getElem_cons_zero, List.getElem_cons_succ]
      refine wpAnyH_done (by kernel_rfl) ?_ _
      refine NoPanic.normal ?_
      have HFU : Hid (Up w WB) := hSS.2.out.2
      clear hSS hS9 hSa hSb hSc hHeld u9 ua ub z0 z1 z2 hbw
      go_wp2_with fail
      exact HP.out _ HFU.out
end KD
end Go.Proofs.YtifabdnjdadkbaaDoor
