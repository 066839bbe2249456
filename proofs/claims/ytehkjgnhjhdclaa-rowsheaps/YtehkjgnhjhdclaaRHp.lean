/-
  The document's heap: its things in the order in which they came; the first of the least ones is taken out.
-/
import Derived.Test.YtehkjgnhjhdclaaTakeT
import Derived.Test.YtehkjgnhjhdclaaSl
import Derived.Deep.Onto
namespace Go.Proofs.Ytehkjgnhjhdclaa
open Go.RowKit
attribute [local go_sem ↓] Go.wp_at_zero Go.wp_at_succ

namespace RH
abbrev X := HT.X
def fl (x : X) : List Value := [.int .i64 x.1, .int .i64 x.2]
def flX (xs : List X) : List Value := xs.flatMap fl
theorem fl_len (x : X) : (fl x).length = 2 := rfl
theorem flX_len (xs : List X) : (flX xs).length = xs.length * 2 := flat_len fl 2 fl_len xs
theorem infoT : (Try.prog.info? 66).map (fun i => (i.zero, i.size, i.bytes)) = some (some (.agg #[.int .i64 0, .int .i64 0]), 2, 16) := by kernel_rfl
theorem sizeT : (Try.prog.info? 66).map (·.size) = some 2 := by kernel_rfl
def Hd (W : World) (rb : Nat) (v : Value) : Prop := W.heap[rb]? = some (.cells #[v] 70 (0, 0))
theorem Hd.cells {W : World} {rb : Nat} {v : Value} (h : Hd W rb v) : W.cell? ⟨rb, 0, none⟩ = some v ∧ ∀ j, W.frozen? ⟨rb, j, none⟩ = false := ⟨by simp [World.cell?, show W.heap[rb]? = _ from h], fun j => by simp [World.frozen?, show W.heap[rb]? = _ from h]⟩
theorem Hd.put {W : World} {rb : Nat} {v : Value} (h : Hd W rb v) (v' : Value) : Hd (W.setCell ⟨rb, 0, none⟩ v') rb v' := by
  unfold Hd; simp only [World.setCell, Array.getElem?_modify]; rw [show W.heap[rb]? = _ from h]; simp
def RAt (W : World) (rb base : Nat) (v : Value) (L : List X) : Prop := Hd W rb v ∧ W.ownsRow base 66 2 v L.length (flX L) ∧ rb < base
theorem RAt.up {W W' : World} {rb base : Nat} {v : Value} {L : List X} (h : RAt W rb base v L) (u : Up W W') : RAt W' rb base v L := ⟨u.heap h.1, row_up h.2.1 u, h.2.2⟩
theorem RAt.cellsAt {W : World} {rb base g cap n : Nat} {L : List X} (h : RAt W rb base (.slice (some ⟨g, 0, none⟩) n cap) L) (hn : L.length = n) (i : Nat) (hi : i < n) (x : X) (hx : x = L.getD i HT.dx) : W.cell? ⟨g, i * 2, none⟩ = some (.int .i64 x.1) ∧ W.cell? ⟨g, i * 2 + 1, none⟩ = some (.int .i64 x.2) := by
  subst hx hn
  have hg : ∀ j, j < 2 → W.cell? ⟨g, i * 2 + j, none⟩ = (fl (L.getD i HT.dx))[j]? := fun j hj => by
    rw [h.2.1.cellAt _ (by omega)]; exact flat_get fl 2 fl_len HT.dx L i j hi hj
  exact ⟨hg 0 (by decide), hg 1 (by decide)⟩
theorem only_new {b p : Nat} {x y : World} (h : Only b x y) (hp : x.heap.size ≤ p) (j : Nat) (u : Value) : Only b x (y.setCell ⟨p, j, none⟩ u) :=
  ⟨h.1, by have := h.2.1; simpa using this, fun g hg hb => by rw [Below.heap_setCell _ _ _ _ (by show g ≠ p; omega)]; exact h.2.2 g hg hb⟩
theorem out_skip (L : List X) (k at_ : Nat) (hk : k < L.length) (h : k = at_) : (L.take (k + 1)).eraseIdx at_ = (L.take k).eraseIdx at_ := by
  subst h
  have hl : (L.take k).length = k := by rw [List.length_take]; omega
  rw [List.take_add_one, List.getElem?_eq_getElem hk, Option.toList_some, List.eraseIdx_append_of_length_le (by rw [hl]; exact Nat.le_refl _), hl, Nat.sub_self, List.eraseIdx_of_length_le (l := L.take k) (by rw [hl]; exact Nat.le_refl _)]
  simp
theorem out_step (L : List X) (k at_ : Nat) (hk : k < L.length) (h : k ≠ at_) : (L.take (k + 1)).eraseIdx at_ = (L.take k).eraseIdx at_ ++ [L.getD k HT.dx] := by
  have e : L.getD k HT.dx = L[k] := by rw [List.getD_eq_getElem?_getD, List.getElem?_eq_getElem hk]; rfl
  have hl : (L.take k).length = k := by rw [List.length_take]; omega
  rw [List.take_add_one, List.getElem?_eq_getElem hk, Option.toList_some, e]
  by_cases hlt : at_ < k
  · rw [List.eraseIdx_append_of_lt_length (by rw [hl]; exact hlt)]
  · rw [List.eraseIdx_append_of_length_le (by rw [hl]; omega), List.eraseIdx_of_length_le (l := L.take k) (by rw [hl]; omega), List.eraseIdx_of_length_le (by rw [hl, List.length_singleton]; omega)]
set_option maxHeartbeats 2000000 in
theorem take_none (rb base : Nat) (v : Value) (w : World) (h : RAt w rb base v []) :
    Calls Try.prog 38 #[.pointer (some ⟨rb, 0, none⟩)] w fun e w' => e = .returned (.tuple #[.agg #[.int .i64 0, .int .i64 0], .bool false]) ∧ Up w w' := by
  obtain ⟨va, vcap, rfl⟩ := row_val h.2.1
  obtain ⟨c0, ff⟩ := h.1.cells
  have hl : rb < w.heap.size := (Array.getElem?_eq_some_iff.1 h.1).1
  clear h
  go_enter Try.func38, Try.ntmps38
  go_wp2
  exact bodyPost_ret (v := .tuple #[.agg #[.int .i64 0, .int .i64 0], .bool false]) (by simp [results, Try.results38, go_sem]) rfl ⟨rfl, (Up.refl _).alloc _⟩
def TakePost (w : World) (rb base : Nat) (L : List X) (e : Ending) (w' : World) : Prop :=
  e = .returned (.tuple #[.agg #[.int .i64 (L.getD (least HT.rk HT.dx L) HT.dx).1, .int .i64 (L.getD (least HT.rk HT.dx L) HT.dx).2], .bool true]) ∧ ∃ v', RAt w' rb base v' (L.eraseIdx (least HT.rk HT.dx L)) ∧ Only rb w w'
set_option maxRecDepth 100000 in
set_option maxHeartbeats 4000000 in
theorem take_ (rb base : Nat) (v : Value) (L : List X) (w : World) (h : RAt w rb base v L) (hL : L ≠ []) (hbs : base ≤ w.heap.size) (hm : L.length ≤ 100000) :
    Calls Try.prog 38 #[.pointer (some ⟨rb, 0, none⟩)] w (TakePost w rb base L) := by
  obtain ⟨iT, hiT, z0, z1, z2⟩ := info_parts infoT
  obtain ⟨Post, hPost⟩ : ∃ P : Ending → World → Prop, P = TakePost w rb base L := ⟨_, rfl⟩
  rw [← hPost]
  have HPost : Hid (Post = TakePost w rb base L) := hPost
  have hlp : 0 < L.length := List.length_pos_iff.2 hL
  obtain ⟨g, cap, hg, hcap, rfl⟩ := row_some h.2.1 hlp
  obtain ⟨M, hM⟩ : ∃ M, M = least HT.rk HT.dx L := ⟨_, rfl⟩
  obtain ⟨m1, -, -⟩ := least_spec HT.rk HT.dx L hL
  rw [← hM] at m1
  have hl : rb < w.heap.size := (Array.getElem?_eq_some_iff.1 h.1).1
  have hne : rb ≠ g := by have := h.2.2; omega
  obtain ⟨n, hn⟩ : ∃ n, n = L.length := ⟨_, rfl⟩
  have HN : Hid (L.length = n) := hn.symm
  have HM : Hid (M = least HT.rk HT.dx L) := hM
  rw [← hn] at hm hlp hcap m1 h
  have HR : Hid (RAt w rb base (.slice (some ⟨g, 0, none⟩) n cap) L) := h
  have e0 : ((n : Int) == 0) = false := beq_eq_false_iff_ne.2 (by omega)
  obtain ⟨c0, ff⟩ := h.1.cells
  -- behind the result's cell
  have HR1 : Hid (RAt (w.alloc (.cells #[.int .i64 0, .int .i64 0] 66)) rb base (.slice (some ⟨g, 0, none⟩) n cap) L) := h.up ((Up.refl _).alloc _)
  clear h hPost hM hn
  go_enter Try.func38, Try.ntmps38
  go_wp2_with fail
  obtain ⟨W1, hW1⟩ : ∃ W, W = w.alloc (.cells #[.int .i64 0, .int .i64 0] 66) := ⟨_, rfl⟩
  have HU1 : Hid (Up w W1) := by unfold Hid; rw [hW1]; exact (Up.refl _).alloc _
  have HB1 : Hid (W1.heap[w.heap.size]? = some (.cells #[.int .i64 0, .int .i64 0] 66 (0, 0))) := by unfold Hid; rw [hW1]; exact heap_alloc_new w _
  rw [← hW1] at HR1 ⊢
  obtain ⟨nb, hnb⟩ : ∃ nb, nb = w.heap.size := ⟨_, rfl⟩
  have HNB : Hid (nb = w.heap.size) := hnb
  rw [← hnb] at HB1 ⊢
  clear hW1 hnb c0 ff
  go_loopw [4, 5] (fun s4 s5 wr => ∃ k b : Nat, b < k ∧ k ≤ n ∧ s4 = .int .i64 b ∧ s5 = .int .i64 k ∧ lst HT.rk HT.dx L (n - k) k b = M ∧ Up W1 wr) (fun _ s5 _ => n - (intOf s5).toNat)
  case atStart => exact ⟨1, 0, by omega, by omega, rfl, rfl, by rw [HM.out, least, HN.out], Up.refl _⟩
  case round =>
    obtain ⟨k, b, hbk, hkn, rfl, rfl, hls, hup⟩ := hrel
    have HLS : Hid (lst HT.rk HT.dx L (n - k) k b = M) := hls
    have HR2 : Hid (RAt wr rb base (.slice (some ⟨g, 0, none⟩) n cap) L) := HR1.out.up hup
    have HUP : Hid (Up W1 wr) := hup
    obtain ⟨c0, ff⟩ := HR2.out.1.cells
    clear hls hup
    by_cases hk : k < n
    · have hk1 : (k : Int) < (n : Int) := by omega
      have hb1 : (b : Int) < (n : Int) := by omega
      obtain ⟨x, hx⟩ : ∃ x, x = L.getD k HT.dx := ⟨_, rfl⟩
      obtain ⟨y, hy⟩ : ∃ y, y = L.getD b HT.dx := ⟨_, rfl⟩
      obtain ⟨x1, -⟩ := HR2.out.cellsAt HN.out k hk x hx
      obtain ⟨y1, -⟩ := HR2.out.cellsAt HN.out b (by omega) y hy
      have HL2 : Hid (lst HT.rk HT.dx L (n - (k + 1)) (k + 1) (if x.1 < y.1 then k else b) = M) := by
        unfold Hid
        rw [← HLS.out, show n - k = n - (k + 1) + 1 by omega, lst, hx, hy]
        rfl
      clear hx hy HLS
      generalize x.1 = xr at *
      generalize y.1 = yr at *
      by_cases hxy : xr < yr
      · rw [if_pos hxy] at HL2
        go_wp2_with fail
        go_quiet (fail)
        go_wp2
        go_roundw
        case rel => exact ⟨k + 1, k, by omega, by omega, rfl, by go_num, HL2.out, HUP.out.drewN _⟩
        case measure => simp [intOf]; omega
      · rw [if_neg hxy] at HL2
        go_wp2_with fail
        go_quiet (fail)
        go_wp2
        go_roundw
        case rel => exact ⟨k + 1, b, by omega, by omega, rfl, by go_num, HL2.out, HUP.out.drewN _⟩
        case measure => simp [intOf]; omega
    · obtain rfl : k = n := by omega
      rw [Nat.sub_self, lst] at HLS
      have hbM : b = M := HLS.out
      subst hbM
      obtain ⟨x, hx⟩ : ∃ x, x = L.getD b HT.dx := ⟨_, rfl⟩
      have HX : Hid (x = L.getD b HT.dx) := hx
      obtain ⟨x1, x2⟩ := HR2.out.cellsAt HN.out b m1 x hx
      have hb1 : (b : Int) < (k : Int) := by omega
      have hlr : rb < wr.heap.size := (Array.getElem?_eq_some_iff.1 HR2.out.1).1
      have hlg : g < wr.heap.size := World.block_lt_of_cell? wr _ x1
      clear HLS hx
      go_wp2_with fail
      obtain ⟨W2, hW2⟩ : ∃ W, W = wr.alloc (.cells #[.int .i64 x.1, .int .i64 x.2] 66) := ⟨_, rfl⟩
      have u2 : Up wr W2 := by rw [hW2]; exact (Up.refl _).alloc _
      have HX2 : Hid (W2.heap[wr.heap.size]? = some (.cells #[.int .i64 x.1, .int .i64 x.2] 66 (0, 0))) := by unfold Hid; rw [hW2]; exact heap_alloc_new wr _
      have HR3 : Hid (RAt W2 rb base (.slice (some ⟨g, 0, none⟩) k cap) L) := HR2.out.up u2
      have HU2 : Hid (Up W1 W2) := HUP.out.trans u2
      obtain ⟨xb, hxb⟩ : ∃ xb, xb = wr.heap.size := ⟨_, rfl⟩
      rw [← hW2]
      rw [← hxb] at HX2 ⊢
      have hrx : rb ≠ xb := by omega
      have hxn : xb ≠ nb := by
        have h8 := (Array.getElem?_eq_some_iff.1 HB1.out).1
        have h9 := HUP.out.size
        omega
      have hnW : nb < W2.heap.size := by
        have h8 := (Array.getElem?_eq_some_iff.1 HB1.out).1
        have h9 := HU2.out.size
        omega
      clear hW2 u2 hxb c0 ff x1 x2 HR2 HUP
      go_loopw [7, 8] (fun ov s8 wq => ∃ q : Nat, q ≤ k ∧ s8 = .int .i64 q ∧ wq.ownsRow W2.heap.size 66 2 ov ((L.take q).eraseIdx b).length (flX ((L.take q).eraseIdx b)) ∧ Up W2 wq) (fun _ s8 _ => k - (intOf s8).toNat)
      case atStart => exact ⟨0, Nat.zero_le _, rfl, World.ownsRow_nil _ _ _ _, Up.refl _⟩
      case round =>
        obtain ⟨q, hq, rfl, hrow, hup2⟩ := hrel
        have HR4 : Hid (RAt wr rb base (.slice (some ⟨g, 0, none⟩) k cap) L) := HR3.out.up hup2
        obtain ⟨c0, ff⟩ := HR4.out.1.cells
        have HUP2 : Hid (Up W2 wr) := hup2
        have HROW : Hid (wr.ownsRow W2.heap.size 66 2 u7 ((L.take q).eraseIdx b).length (flX ((L.take q).eraseIdx b))) := hrow
        have hol : ((L.take q).eraseIdx b).length ≤ 100000 := by
          have h1 := List.length_eraseIdx_le (l := L.take q) (i := b)
          rw [List.length_take] at h1
          omega
        have hz2 : W2.heap.size ≤ wr.heap.size := hup2.size
        obtain ⟨oad, ocap, hov⟩ := row_val hrow
        subst hov
        clear hrow hup2
        by_cases hqk : q < k
        · have hq1 : (q : Int) < (k : Int) := by omega
          by_cases hqb : q = b
          · subst hqb
            have e1 : ((q : Int) == (q : Int)) = true := by simp
            have HE := out_skip L q q (by have := HN.out; omega) rfl
            have HE2 : Hid _ := HE
            clear HE
            go_wp2
            go_roundw
            case rel => exact ⟨q + 1, by omega, by go_num, by rw [HE2.out]; exact HROW.out, HUP2.out⟩
            case measure => simp [intOf]; omega
          · have e1 : ((q : Int) == (b : Int)) = false := beq_eq_false_iff_ne.2 (by omega)
            obtain ⟨y, hy⟩ : ∃ y, y = L.getD q HT.dx := ⟨_, rfl⟩
            obtain ⟨y1, y2⟩ := HR4.out.cellsAt HN.out q hqk y hy
            have HE := out_step L q b (by have := HN.out; omega) hqb
            rw [← hy] at HE
            have HE2 : Hid _ := HE
            clear HE hy
            generalize hcn : ((L.take q).eraseIdx b).length = cn at *
            have HCN : Hid _ := hcn
            clear hcn
            have HOA : Hid ((wr.alloc (.cells #[.int .i64 y.1, .int .i64 y.2] 66)).ownsRow W2.heap.size 66 2 (.slice oad cn ocap) cn (flX ((L.take q).eraseIdx b))) := HROW.out.alloc _
            go_wp2_with (at_builtin; refine wpList_append_own _ rfl (.tmp 62) (.tmp 70) 60 rfl W2.heap.size 66 iT (.agg #[.int .i64 0, .int .i64 0]) 2 16 Try.underlying60 hiT z0 z1 z2 rfl (by decide) _ _ _ rfl HOA.out ⟨wr.heap.size, 0, none⟩ 1 1 [.int .i64 y.1, .int .i64 y.2] rfl rfl (World.news_of_block (cs := #[.int .i64 y.1, .int .i64 y.2]) (heap_alloc_new wr _)) (by simp [Value.oneCell']) (by unfold maxLen; omega) (by omega) (by simp; omega) ?_; intro v' W4 hown hgrow hkeep)
            have hU4 : Up W2 W4 := Below.grown (HUP2.out.alloc _) hgrow (Nat.le_trans hz2 (by simp)) (fun k hk => (HROW.out.lt k hk).1)
            have hR4 : W4.ownsRow W2.heap.size 66 2 v' ((L.take (q + 1)).eraseIdx b).length (flX ((L.take (q + 1)).eraseIdx b)) := by
              rw [HE2.out, List.length_append, HCN.out, show flX ((L.take q).eraseIdx b ++ [y]) = flX ((L.take q).eraseIdx b) ++ [.int .i64 y.1, .int .i64 y.2] by simp [flX, fl]]
              exact hown
            clear hown hgrow hkeep HOA c0 ff y1 y2
            go_wp2
            go_roundw
            case rel => exact ⟨q + 1, by omega, by go_num, hR4, hU4⟩
            case measure => simp [intOf]; omega
        · obtain rfl : q = k := by omega
          have htk : L.take q = L := List.take_of_length_le (by have := HN.out; omega)
          rw [htk] at HROW hol
          have hlr2 : rb < wr.heap.size := (Array.getElem?_eq_some_iff.1 HR4.out.1).1
          have u12 : Up W1 wr := HU2.out.trans HUP2.out
          have hxw := HUP2.out.heap HX2.out
          have hbw := u12.heap HB1.out
          have hrn : rb ≠ nb := by have := HNB.out; omega
          have s1 : wr.cell? ⟨xb, 0, none⟩ = some (.int .i64 x.1) := by simp [World.cell?, hxw]
          have s2 : wr.cell? ⟨xb, 1, none⟩ = some (.int .i64 x.2) := by simp [World.cell?, hxw]
          have t1 : wr.cell? ⟨nb, 0, none⟩ = some (.int .i64 0) := by simp [World.cell?, hbw]
          have t2 : wr.cell? ⟨nb, 1, none⟩ = some (.int .i64 0) := by simp [World.cell?, hbw]
          have tf : ∀ j, wr.frozen? ⟨nb, j, none⟩ = false := fun j => by simp [World.frozen?, hbw]
          have hrW : rb < W2.heap.size := (Array.getElem?_eq_some_iff.1 HR3.out.1).1
          have HFIN : Hid (TakePost w rb base L (.returned (.tuple #[.agg #[.int .i64 x.1, .int .i64 x.2], .bool true])) (((wr.setCell ⟨rb, 0, none⟩ (.slice oad (L.eraseIdx b).length ocap)).setCell ⟨nb, 0, none⟩ (.int .i64 x.1)).setCell ⟨nb, 1, none⟩ (.int .i64 x.2))) := by
            unfold Hid TakePost
            rw [← HM.out, ← HX.out]
            refine ⟨rfl, .slice oad (L.eraseIdx b).length ocap, ⟨?_, ?_, HR4.out.2.2⟩, ?_⟩
            · unfold Hd
              rw [Below.heap_setCell _ _ _ _ hrn, Below.heap_setCell _ _ _ _ hrn]
              exact HR4.out.1.put _
            · refine World.ownsRow.mono ?_ (Nat.le_trans hbs (Nat.le_trans HU1.out.size HU2.out.size))
              exact ownsRow_setCell_below (ownsRow_setCell_below (ownsRow_setCell_below HROW.out (a := ⟨rb, 0, none⟩) hrW _) (a := ⟨nb, 0, none⟩) hnW _) (a := ⟨nb, 1, none⟩) hnW _
            · exact only_new (only_new ((Only.up (HU1.out.trans u12)).set 0 _) (by have := HNB.out; omega) 0 _) (by have := HNB.out; omega) 1 _
          clear hxw hbw u12
          go_wp2
          refine bodyPost_ret (v := .tuple #[.agg #[.int .i64 x.1, .int .i64 x.2], .bool true]) (by simp [results, Try.results38, go_sem, t1, t2]) rfl ?_
          rw [HPost.out]
          exact HFIN.out
end RH
end Go.Proofs.Ytehkjgnhjhdclaa
