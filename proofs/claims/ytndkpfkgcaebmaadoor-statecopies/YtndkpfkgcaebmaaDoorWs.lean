/-
  WideRows, WideState.
-/
import Derived.Test.YtndkpfkgcaebmaaDoorWr
import Derived.Test.YtndkpfkgcaebmaaDoorNw
namespace Go.Proofs.YtndkpfkgcaebmaaDoor
open Go.RowKit
attribute [local go_sem ↓] Go.wp_at_zero Go.wp_at_succ

namespace ST
theorem WI.less {b b' : Nat} {W : World} {v : Value} {l : List Int} (h : WI b W v l) (hb : b' ≤ b) : WI b' W v l := by
  obtain ⟨g, h1, h2⟩ := h
  exact ⟨g, by omega, h2⟩
def WRs (base : Nat) (w W : World) (g n : Nat) (zs : List (List Int)) (i : Nat) (cs : List Value) : Prop := W.heap[g]? = some (.cells cs.toArray 74 (0, 0)) ∧ cs.length = n + 64 ∧ (∀ q, q < i → WRow base W (cs.getD q nl) zs q) ∧ Up w W
theorem WRs.put {base : Nat} {w W W1 : World} {g n : Nat} {zs : List (List Int)} {i : Nat} {cs : List Value} {x : Value} (h : WRs base w W g n zs i cs) (u : Up W W1) (hi : i < n + 64) (hx : WRow base W1 x zs i) (hg : w.heap.size ≤ g) : WRs base w (W1.setCell ⟨g, i, none⟩ x) g n zs (i + 1) (cs.set i x) := by
  obtain ⟨h1, h2, h3, h4⟩ := h
  have k1 := u.heap h1
  have kp : ∀ g' cs', base ≤ g' → W1.heap[g']? = some (.cells cs' 3 (0, 0)) → (W1.setCell ⟨g, i, none⟩ x).heap[g']? = some (.cells cs' 3 (0, 0)) := fun g' cs' _ h' => set_other h' (heap_ne h' k1 (by decide))
  refine ⟨?_, by simpa using h2, fun q hq => ?_, Up.set (h4.trans u) _ _ hg⟩
  · have := set_cells (j := i) (x := x) k1
    simpa using this
  · by_cases e : q = i
    · subst e
      rw [List.getD_eq_getElem?_getD, List.getElem?_set_self (by omega)]
      exact hx.keep kp
    · rw [List.getD_eq_getElem?_getD, List.getElem?_set_ne (fun h => e h.symm), ← List.getD_eq_getElem?_getD]
      exact ((h3 q (by omega)).keep (fun g' cs' _ h' => u.heap h')).keep kp
set_option maxRecDepth 100000 in
set_option maxHeartbeats 4000000 in
theorem wideRows_ (v : Value) (zs : List (List Int)) (w : World) (hv : ZL w v zs) (hn : zs.length ≤ 4294967296) (hl : ∀ r, r < zs.length → (zs.getD r []).length ≤ 4294967296) :
    Calls Tryd.prog 24 #[v] w (CpPost w fun W v' => WZ w.heap.size W v' zs) := by
  obtain ⟨iT, hiT, z0, z1, z2⟩ := info_parts infoR
  obtain ⟨Post, hPost⟩ : ∃ P : Ending → World → Prop, P = CpPost w fun W v' => WZ w.heap.size W v' zs := ⟨_, rfl⟩
  rw [← hPost]
  have HP : Hid (Post = CpPost w fun W v' => WZ w.heap.size W v' zs) := hPost
  obtain ⟨a1, k1, rfl, -, h1⟩ := zl_at hv
  obtain ⟨n, hn0⟩ : ∃ n, n = zs.length := ⟨_, rfl⟩
  have HN : Hid (n = zs.length) := hn0
  rw [← hn0] at hn h1 hl ⊢
  have H1 : Hid _ := h1
  have HL : Hid _ := hl
  obtain ⟨g, hg⟩ : ∃ g, g = w.heap.size := ⟨_, rfl⟩
  have HG : Hid (g = w.heap.size) := hg
  clear hPost hv h1 hn0 hl
  go_enter Tryd.func24, Tryd.ntmps24
  go_wp2_with (at_make; refine wpList_make_full _ rfl _ _ 24 rfl w.heap.size 74 iT _ 1 Tryd.underlying24 hiT z0 z1 .i64 .i64 _ _ (n + 64) rfl rfl rfl rfl (by rw [z2]; omega) (by unfold maxLen; omega) (Nat.le_refl _) ?_; intro w1 hin hg1)
  have HI : Hid (∃ cs, WRs g w w1 g n zs 0 cs) := ⟨_, by rw [hg]; exact row_made hin, by have := hin.1; omega, fun q hq => by omega, made_up hg1⟩
  rw [← hg]
  clear hin hg1 hg
  go_wp2_with fail
  go_loopw [4] (fun s4 W => ∃ (i : Nat) (cs : List Value), i ≤ n + 64 ∧ s4 = .int .i64 i ∧ WRs g w W g n zs i cs) (fun s4 _ => n + 64 - (intOf s4).toNat)
  case atStart => obtain ⟨cs, h⟩ := HI.out; exact ⟨0, cs, Nat.zero_le _, rfl, h⟩
  case round =>
    obtain ⟨i, cs, hi, rfl, hw⟩ := hrel
    clear HI
    have HW : Hid (WRs g w wr g n zs i cs) := hw
    have hgw : w.heap.size ≤ g := by rw [HG.out]; exact Nat.le_refl _
    have hgs : g ≤ wr.heap.size := by have := (Array.getElem?_eq_some_iff.1 hw.1).1; omega
    by_cases hlt : i < n + 64
    · have hlt2 : (i : Int) < (n : Int) + 64 := by omega
      have HCe : Hid (∀ W, Up wr W → (∃ z, W.cell? ⟨g, i, none⟩ = some z) ∧ W.frozen? ⟨g, i, none⟩ = false) := fun W u => by
        have h1 := u.heap hw.1
        have h2 := hw.2.1
        exact ⟨⟨cs[i]'(by omega), by simp [World.cell?, h1]⟩, seven_f h1 i⟩
      by_cases hin : i < n
      · have hin2 : (i : Int) < (n : Int) := by omega
        obtain ⟨b1, o1, rfl, c1⟩ := H1.out (by omega)
        obtain ⟨ra, rc, hcell, hil⟩ := c1 i hin
        have x1 := hcell wr hw.2.2.2
        have HK : Hid _ := wideInts_ _ (zs.getD i []) wr (hil.up hw.2.2.2) (HL.out i hin)
        clear c1 hcell hil hw
        go_wp2_with fail
        refine Calls.mono HK.out ?_
        rintro e w2 ⟨x, rfl, hx, u2⟩
        have HX : Hid (WI g w2 x (zs.getD i [])) := hx.less hgs
        have HU2 : Hid (Up wr w2) := u2
        obtain ⟨xg, -, hxv, -⟩ := id hx
        obtain ⟨⟨zc, zcell⟩, zf⟩ := HCe.out w2 u2
        have HF : Hid (WRs g w (w2.setCell ⟨g, i, none⟩ x) g n zs (i + 1) (cs.set i x)) := WRs.put HW.out u2 hlt (by rw [WRow, if_pos (by rw [← HN.out]; exact hin)]; exact HX.out) hgw
        clear hx u2 HK HX
        subst hxv
        go_wp2
        go_roundw
        case rel => exact ⟨i + 1, _, by omega, by go_num, HF.out⟩
        case measure => simp [intOf]; omega
      · have hin2 : ¬ (i : Int) < (n : Int) := by omega
        clear hw
        go_wp2_with fail
        refine Calls.mono (num_ i (by omega) _) ?_
        rintro e w2 ⟨rfl, rfl⟩
        have HF : Hid (WRs g w ((w2.alloc (.cells #[.int .i64 (numI i)] 3)).setCell ⟨g, i, none⟩ (.slice (some ⟨w2.heap.size, 0, none⟩) 1 1)) g n zs (i + 1) (cs.set i (.slice (some ⟨w2.heap.size, 0, none⟩) 1 1))) := WRs.put HW.out ((Up.refl _).alloc _) hlt (by rw [WRow, if_neg (by rw [← HN.out]; exact hin)]; exact ⟨w2.heap.size, hgs, rfl, heap_alloc_new w2 _⟩) hgw
        have zc : ∀ o, (w2.alloc o).frozen? ⟨g, i, none⟩ = false := fun o => (HCe.out _ ((Up.refl _).alloc o)).2
        obtain ⟨⟨z9, z8⟩, -⟩ := HCe.out w2 (Up.refl _)
        have zd : ∀ o, (w2.alloc o).cell? ⟨g, i, none⟩ = some z9 := fun o => ((Up.refl w2).alloc o).cell z8
        generalize numI i = z at HF ⊢
        go_wp2
        go_roundw
        case rel => exact ⟨i + 1, _, by omega, by go_num, HF.out⟩
        case measure => simp [intOf]; omega
    · have hlt2 : ¬ (i : Int) < (n : Int) + 64 := by omega
      have hn64 : (n : Int) ≤ (n : Int) + 64 := by omega
      clear hw
      go_wp2
      rw [HP.out]
      have hnn := HN.out
      exact ⟨_, rfl, ⟨g, cs, hgw, by rw [← HN.out], HW.out.1, by rw [← hnn]; exact HW.out.2.1, fun j hj => by rw [← HG.out]; exact HW.out.2.2.1 j (by omega)⟩, HW.out.2.2.2⟩
end ST
end Go.Proofs.YtndkpfkgcaebmaaDoor
