
/-
  What Put does to a heap of ints: the things are there, in the order in which they came.
-/
import Derived.Test.YtgonflnmkfgfhaaRiseI
import Derived.Test.YtgonflnmkfgfhaaFr
namespace Go.Proofs.Ytgonflnmkfgfhaa
open Go.RowKit
attribute [local go_sem ↓] Go.wp_at_zero Go.wp_at_succ

namespace HI
abbrev tE : Nat := 82
/- a list of things in memory, where the heap's calls do not reach -/
def Lst (hb base : Nat) (W : World) (v : Value) (xs : List X) : Prop := ∃ a cap, v = .slice a xs.length cap ∧ (xs.length ≠ 0 → ∃ b off, a = some ⟨b, off, none⟩ ∧ Safe tE hb base W b ∧ ∀ i, i < xs.length → W.cell? ⟨b, off + i, none⟩ = some (.int .i64 (xs.getD i dx)))
theorem Lst.fr {hb base : Nat} {W W' : World} {v : Value} {xs : List X} (h : Lst hb base W v xs) (k : Fr tE hb base W W') : Lst hb base W' v xs := by
  obtain ⟨a, cap, rfl, h⟩ := h
  refine ⟨a, cap, rfl, fun hn => ?_⟩
  obtain ⟨b, off, ha, hs, hc⟩ := h hn
  have hl : b < W.heap.size := by
    have := hc 0 (by omega)
    exact World.block_lt_of_cell? W _ this
  exact ⟨b, off, ha, hs.fr k hl, fun i hi => hs.cell k (hc i hi)⟩
theorem infoE : (Try.prog.info? 82).map (fun i => (i.zero, i.size, i.bytes)) = some (some (.agg #[.int .i64 0, .int .i64 0]), 2, 16) := by kernel_rfl
/- the heap holds the things L, that came in that order; t came so far -/
def HeapOf (W : World) (hb k base : Nat) (L : List X) (t : Nat) : Prop := ∃ v es, HeapAt W hb k base v es t ∧ Rep rk dx L t es
theorem HeapAt.next {W : World} {hb k base : Nat} {v : Value} {es : List (X × Nat)} {t : Nat} (h : HeapAt W hb k base v es t) : HeapAt (W.setCell ⟨hb, 2, none⟩ (.int .i64 ((t : Int) + 1))) hb k base v es (t + 1) :=
  ⟨set2 h.1 _, ownsRow_setCell_below h.2.1 (a := ⟨hb, 2, none⟩) h.2.2 _, h.2.2⟩
theorem HeapAt.app {W w1 : World} {hb k base : Nat} {v v' : Value} {es : List (X × Nat)} {t : Nat} {x : X} {o : Obj} (h : HeapAt W hb k base v es t) (hbs : base ≤ W.heap.size)
    (hown : w1.ownsRow base 82 2 v' (es.length + 1) (flE es ++ [.int .i64 x, .int .i64 t])) (hg : ((W.alloc o).drew).grownBy w1 v.ownBlock) :
    HeapAt (w1.setCell ⟨hb, 1, none⟩ v') hb k base v' (es ++ [(x, t)]) t ∧ Fr tE hb base W (w1.setCell ⟨hb, 1, none⟩ v') ∧ Hd w1 hb k v t := by
  have hne : ∀ k, v.ownBlock = some k → base ≤ k := fun k hk => (h.2.1.lt k hk).1
  have u : Up W (W.alloc o).drew := ((Up.refl _).alloc o).drew
  have hB : Below base W w1 := Below.grown (Below.mono u hbs) hg (Nat.le_trans hbs u.size) hne
  have h1 : Hd w1 hb k v t := by unfold Hd; rw [hB.block hb h.2.2]; exact h.1
  refine ⟨⟨set1 h1 v', ?_, h.2.2⟩, (Fr.grown (Fr.up u) (row_up h.2.1 u) hg).set 1 v', h1⟩
  have := ownsRow_setCell_below hown (a := ⟨hb, 1, none⟩) h.2.2 v'
  rw [List.length_append, List.length_singleton, show flE (es ++ [(x, t)]) = flE es ++ fl (x, t) by simp [flE]]
  exact this
def PutPost (w : World) (hb k base : Nat) (L xs : List X) (t : Nat) (e : Ending) (w' : World) : Prop := e = .returned (.bool true) ∧ HeapOf w' hb k base (L ++ xs) (t + xs.length) ∧ Fr tE hb base w w'
theorem appS {W : World} {base n : Nat} {v : Value} {xs ys : List Value} {P : Prop} (_h : W.ownsRow base 82 2 v n xs) (_h2 : ys = ys) (hp : P) : P := hp
set_option maxHeartbeats 8000000 in
theorem put_ (hb k base : Nat) (xv : Value) (L xs : List X) (t : Nat) (w : World) (h : HeapOf w hb k base L t) (hx : Lst hb base w xv xs) (hk : Less k) (hbs : base ≤ w.heap.size) (hm : L.length + xs.length ≤ 100000) (ht : t + xs.length ≤ 100000) :
    Calls Try.prog 29 #[.pointer (some ⟨hb, 0, none⟩), xv] w (PutPost w hb k base L xs t) := by
  obtain ⟨iE, hiE, z0, z1, z2⟩ := info_parts infoE
  have HX : Hid (Lst hb base w xv xs) := hx
  obtain ⟨xa, xcap, rfl, -⟩ := hx
  obtain ⟨Post, hPost⟩ : ∃ P : Ending → World → Prop, P = PutPost w hb k base L xs t := ⟨_, rfl⟩
  rw [← hPost]
  have HPost : Hid (Post = PutPost w hb k base L xs t) := hPost
  have HH : Hid (HeapOf w hb k base L t) := h
  obtain ⟨v0, es0, hat0, -⟩ := h
  have HHD : Hid (Hd w hb k v0 t) := hat0.1
  clear hat0 hPost
  obtain ⟨N, hN⟩ : ∃ N, N = xs.length := ⟨_, rfl⟩
  have HN : Hid (N = xs.length) := hN
  rw [← hN] at hm ht HX ⊢
  clear hN
  go_enter Try.func29, Try.ntmps29
  go_wp2_with fail
  refine (none_ hb k v0 t _ HHD.out).mono ?_
  rintro e w1 ⟨rfl, rfl⟩
  clear HHD
  go_wp2_with fail
  go_loopw [11] (fun i wr => ∃ j : Nat, j ≤ N ∧ i = .int .i64 j ∧ HeapOf wr hb k base (L ++ xs.take j) (t + j) ∧ Fr tE hb base w1 wr) (fun i _ => N - (intOf i).toNat)
  case atStart => exact ⟨0, Nat.zero_le _, rfl, by rw [List.take_zero, List.append_nil]; exact HH.out, Fr.refl _ _ _ _⟩
  case round =>
    obtain ⟨j, hj, rfl, hof, hfr⟩ := hrel
    clear HH
    by_cases hlt : j < N
    · have hji : (j : Int) < (N : Int) := by omega
      obtain ⟨v, es, hat, hrep⟩ := hof
      have hlen : es.length ≤ 100000 := by rw [hrep.len, List.length_append, List.length_take]; omega
      obtain ⟨a2, cap2, he, hc⟩ := HX.out.fr hfr
      simp only [Value.slice.injEq, HN.out, true_and] at he
      obtain ⟨rfl, rfl⟩ := he
      obtain ⟨xb, off, rfl, hsafe, hcell⟩ := hc (by have := HN.out; omega)
      have cx := hcell j (by have := HN.out; omega)
      obtain ⟨x, hx⟩ : ∃ x, x = xs.getD j dx := ⟨_, rfl⟩
      rw [← hx] at cx
      have HXJ : Hid (x = xs.getD j dx) := hx
      obtain ⟨c0, c1, c2, c3, ff⟩ := four_cells hat.1
      have hlh : hb < wr.heap.size := (Array.getElem?_eq_some_iff.1 hat.1).1
      have hbs2 : base ≤ wr.heap.size := Nat.le_trans hbs hfr.2.1
      have HSF : Hid (Safe tE hb base wr xb) := hsafe
      have HAT : Hid (HeapAt wr hb k base v es (t + j)) := hat
      have HREP : Hid (Rep rk dx (L ++ xs.take j) (t + j) es) := hrep
      have HFR : Hid (Fr tE hb base w1 wr) := hfr
      clear hx hsafe hat hrep hfr hcell hc c0 c3
      obtain ⟨va, vcap, hv⟩ := row_val HAT.out.2.1
      rw [hv] at c1 HAT
      obtain ⟨m, hm1⟩ : ∃ m, m = es.length := ⟨_, rfl⟩
      have HM : Hid (m = es.length) := hm1
      rw [← hm1] at hlen c1 HAT
      clear hv hm1
      obtain ⟨T, hT⟩ : ∃ T, T = t + j := ⟨_, rfl⟩
      have HT : Hid (T = t + j) := hT
      have hTl : T ≤ 100000 := by omega
      rw [← hT] at c2 HAT HREP
      clear hT
      go_wp2_with fail
      obtain ⟨Wx, hWx⟩ : ∃ W, W = wr := ⟨_, rfl⟩
      have ux : Up wr Wx := by rw [hWx]; exact Up.refl _
      have HAX : Hid (HeapAt Wx hb k base (.slice va m vcap) es T) := HAT.out.up ux
      have HFX : Hid (Fr tE hb base w1 Wx) := HFR.out.trans (Fr.up ux)
      have d1 := ux.cell c1
      have d2 := ux.cell c2
      have dz : Hid (Wx.heap.size = wr.heap.size) := by unfold Hid; rw [hWx]
      
      have hlx : hb < Wx.heap.size := Nat.lt_of_lt_of_le hlh ux.size
      have hbx : base ≤ Wx.heap.size := Nat.le_trans hbs2 ux.size
      obtain ⟨_, _, _, _, fx⟩ := four_cells HAX.out.1
      have HOWN : Hid (((Wx.alloc (.cells #[.int .i64 x, .int .i64 (T : Int)] 82)).drew).ownsRow base 82 2 (.slice va m vcap) m (flE es)) := by
        have := HAX.out.2.1
        rw [← HM.out] at this
        exact (this.alloc _).drew
      have HGO : Hid (∀ g cap W1, W1.ownsRow base 82 2 (.slice (some ⟨g, 0, none⟩) (m + 1) cap) (m + 1) (flE es ++ [.int .i64 x, .int .i64 (T : Int)]) → ((Wx.alloc (.cells #[.int .i64 x, .int .i64 (T : Int)] 82)).drew).grownBy W1 (Value.slice va m vcap).ownBlock → _) := fun g cap W1 h1 h2 => HAX.out.app (x := x) (v' := .slice (some ⟨g, 0, none⟩) (m + 1) cap) hbx (by rw [← HM.out]; exact h1) h2
      rw [← hWx]
      clear hWx c1 c2 ff cx ux hlh hbs2
      
      refine (fun key : ∀ g cap W1, W1.ownsRow base 82 2 (.slice (some ⟨g, 0, none⟩) (m + 1) cap) (m + 1) (flE es ++ [.int .i64 x, .int .i64 (T : Int)]) → ((Wx.alloc (.cells #[.int .i64 x, .int .i64 (T : Int)] 82)).drew).grownBy W1 (Value.slice va m vcap).ownBlock → (?G : Nat → Nat → World → Prop) g cap W1 => ?main) ?kp
      case main =>
        go_region_law ((refine step_append_lies _ (by rfl) _ _ _ (by rfl) base 82 iE _ 2 16 Try.underlying78 hiE z0 z1 z2 rfl (by omega) (.slice va m vcap) m (flE es) (by rfl) HOWN.out ⟨Wx.heap.size, 0, none⟩ 1 1 [.int .i64 x, .int .i64 (T : Int)] (by rfl) (by rfl) (World.news_of_block (cs := #[.int .i64 x, .int .i64 (T : Int)]) (t := 82) (fr := (0, 0)) (show ((Wx.alloc (.cells #[.int .i64 x, .int .i64 (T : Int)] 82)).drew).heap[Wx.heap.size]? = some (.cells #[.int .i64 x, .int .i64 (T : Int)] 82 (0, 0)) from heap_alloc_new Wx _)) (by simp [Value.oneCell']) (by omega) (by unfold maxLen; omega) (by omega) (by simp; omega) (Wx.heap.size + 1) (by simp) ?_; intro gg gcap W1 hown1 hgrow hat hlt; obtain ⟨_, q1, _, _, qf⟩ := four_cells (HGO.out gg gcap W1 hown1 hgrow).2.2))
        all_goals exact key _ _ _ hown1 hgrow
      case kp =>
        intro g cap W1 hown hgrow
        obtain ⟨hat2, hfr2, -⟩ := HGO.out g cap W1 hown hgrow
        have hg : base ≤ g := (hown.lt g rfl).1
        have hl1 : (es ++ [(x, T)]).length = m + 1 := by rw [List.length_append, ← HM.out]; rfl
        obtain ⟨c0, c1, c2, c3, ff⟩ := four_cells hat2.1
        have HN2 : Hid (HeapAt ((W1.setCell ⟨hb, 1, none⟩ (.slice (some ⟨g, 0, none⟩) (m + 1) cap)).setCell ⟨hb, 2, none⟩ (.int .i64 ((T : Int) + 1))) hb k base (.slice (some ⟨g, 0, none⟩) (m + 1) cap) (es ++ [(x, T)]) (T + 1)) := hat2.next
        have HF2 : Hid (Fr tE hb base w1 ((W1.setCell ⟨hb, 1, none⟩ (.slice (some ⟨g, 0, none⟩) (m + 1) cap)).setCell ⟨hb, 2, none⟩ (.int .i64 ((T : Int) + 1)))) := (HFX.out.trans hfr2).set 2 _
        clear hat2 hfr2 hown hgrow HGO HOWN c0 c3 d1 d2 fx 
        generalize W1.setCell ⟨hb, 1, none⟩ (.slice (some ⟨g, 0, none⟩) (m + 1) cap) = W2 at *
        have k1 : (W2.setCell ⟨hb, 2, none⟩ (.int .i64 ((T : Int) + 1))).cell? ⟨hb, 1, none⟩ = some (.slice (some ⟨g, 0, none⟩) (m + 1) cap) := (four_cells HN2.out.1).2.1
        go_wp2_with fail
        have HRI := rise_ hb k base g cap (es ++ [(x, T)]) (T + 1) m (W2.setCell ⟨hb, 2, none⟩ (.int .i64 ((T : Int) + 1))) (by rw [hl1]; exact HN2.out) hk (by omega) (by omega) hg
        rw [hl1] at HRI
        refine HRI.mono ?_
        clear HRI
        rintro e w3 ⟨rfl, hat3, hon3⟩
        have hof3 : HeapOf w3 hb k base (L ++ xs.take (j + 1)) (t + (j + 1)) := by
          refine ⟨.slice (some ⟨g, 0, none⟩) (m + 1) cap, rise de (ahd rk) m (es ++ [(x, T)]) m, ?_, ?_⟩
          · rw [← Nat.add_assoc, ← HT.out]; exact hat3
          · have := Rep.put rk HREP.out x
            rw [← HM.out] at this
            rw [← Nat.add_assoc, ← HT.out, show xs.take (j + 1) = xs.take j ++ [x] by
              rw [List.take_add_one, HXJ.out, List.getD_eq_getElem?_getD, List.getElem?_eq_getElem (by have := HN.out; omega)]; rfl, ← List.append_assoc]
            exact this
        have hfr3 : Fr tE hb base w1 w3 := HF2.out.only hon3 hg (row_type HN2.out.2.1)
        clear HN2 HF2 hat3 hon3 k1 c1 c2 ff HREP HAX HFX
        go_wp2
        go_roundw
        case rel => first | exact ⟨j + 1, by omega, by go_num, hof3, hfr3⟩ | ((repeat apply Exists.intro); exact ⟨⟨j + 1, by omega, by go_num, hof3, hfr3⟩, rfl⟩)
        case measure => simp [intOf]; omega
    · obtain rfl : j = N := by omega
      have HF : Hid (Post (.returned (.bool true)) wr) := by
        unfold Hid; rw [HPost.out]
        refine ⟨rfl, ?_, hfr⟩
        have e : xs.take j = xs := List.take_of_length_le (by have := HN.out; omega)
        rw [e] at hof
        rw [← HN.out]; exact hof
      clear hof hfr
      go_wp2
      exact HF.out
end HI
end Go.Proofs.Ytgonflnmkfgfhaa
