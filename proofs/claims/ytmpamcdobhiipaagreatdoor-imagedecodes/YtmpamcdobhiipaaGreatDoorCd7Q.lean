/-
  Decode: a card.
-/
import Derived.Test.YtmpamcdobhiipaaGreatDoorPy7Q
namespace Go.Proofs.YtmpamcdobhiipaaGreatDoor
open Go.RowKit
attribute [local go_sem ↓] Go.wp_at_zero Go.wp_at_succ

namespace IM
open Go.Proofs.YtmpamcdobhiipaaGreatDoor.ST
theorem infoCrd : (Tryz.prog.info? 83).map (fun i => (i.zero, i.size, i.bytes)) = some (some (.agg #[.int .i64 0, .int .i64 0, .int .i32 0, .int .i32 0, .int .i32 0, .int .i32 0]), 6, 32) := by kernel_rfl
theorem ds6 (a b : Value) (f : Nat → Value) (hf : ∀ i, ∃ z, f i = .int .i32 z) : ∀ i, i ≤ 4 → ∃ c d e g, ds #[a, b, .int .i32 0, .int .i32 0, .int .i32 0, .int .i32 0] 2 f i = #[a, b, .int .i32 c, .int .i32 d, .int .i32 e, .int .i32 g]
  | 0, _ => ⟨0, 0, 0, 0, rfl⟩
  | 1, _ => by
    obtain ⟨c, hc⟩ := hf 0
    exact ⟨c, 0, 0, 0, by simp [ds, hc]⟩
  | 2, _ => by
    obtain ⟨c, hc⟩ := hf 0
    obtain ⟨d, hd⟩ := hf 1
    exact ⟨c, d, 0, 0, by simp [ds, hc, hd]⟩
  | 3, _ => by
    obtain ⟨c, hc⟩ := hf 0
    obtain ⟨d, hd⟩ := hf 1
    obtain ⟨e, he⟩ := hf 2
    exact ⟨c, d, e, 0, by simp [ds, hc, hd, he]⟩
  | 4, _ => by
    obtain ⟨c, hc⟩ := hf 0
    obtain ⟨d, hd⟩ := hf 1
    obtain ⟨e, he⟩ := hf 2
    obtain ⟨g, hg⟩ := hf 3
    exact ⟨c, d, e, g, by simp [ds, hc, hd, he, hg]⟩
def four {α : Type} (k : Int → Int → Int → Int → α) : Rdr α := bnd sg4 fun c => bnd sg4 fun d => bnd sg4 fun e => bnd sg4 fun f => ret (k c d e f)
theorem four_err {α : Type} (k : Int → Int → Int → Int → α) (B : List Int) (at_ : Nat) : ∀ i, i < 4 → at_ + 4 * i ≤ B.length → B.length < at_ + 4 * i + 4 → four k (B.drop at_) = .error (B.length - (at_ + 4 * i))
  | 0, _, h1, h2 => by
    unfold four
    rw [bnd_no (r := B.length - at_) (by rw [sg4_at, if_neg (by omega)])]
    rfl
  | 1, _, h1, h2 => by
    unfold four
    rw [bnd_go (by rw [sg4_at, if_pos (by omega)]), bnd_no (r := B.length - (at_ + 4)) (by rw [sg4_at, if_neg (by omega)])]
  | 2, _, h1, h2 => by
    unfold four
    rw [bnd_go (by rw [sg4_at, if_pos (by omega)]), bnd_go (by rw [sg4_at, if_pos (by omega)]), bnd_no (r := B.length - (at_ + 4 + 4)) (by rw [sg4_at, if_neg (by omega)])]
  | 3, _, h1, h2 => by
    unfold four
    rw [bnd_go (by rw [sg4_at, if_pos (by omega)]), bnd_go (by rw [sg4_at, if_pos (by omega)]), bnd_go (by rw [sg4_at, if_pos (by omega)]), bnd_no (r := B.length - (at_ + 4 + 4 + 4)) (by rw [sg4_at, if_neg (by omega)])]
theorem four_ok {α : Type} (k : Int → Int → Int → Int → α) (B : List Int) (at_ : Nat) (h : at_ + 4 * 4 ≤ B.length) : four k (B.drop at_) = .ok (k (sg (rv B at_ 4)) (sg (rv B (at_ + 4) 4)) (sg (rv B (at_ + 4 + 4) 4)) (sg (rv B (at_ + 4 + 4 + 4) 4)), B.drop (at_ + 4 + 4 + 4 + 4)) := by
  unfold four
  rw [bnd_go (by rw [sg4_at, if_pos (by omega)]), bnd_go (by rw [sg4_at, if_pos (by omega)]), bnd_go (by rw [sg4_at, if_pos (by omega)]), bnd_go (by rw [sg4_at, if_pos (by omega)])]
  rfl
/- what card leaves -/
def CdP (w0 : World) (rb : Nat) (vb : Value) (B : List Int) (C : Array Value) (vp : Value) (ps : List Crd) (w : World) (r : Except Nat (Crd × List Int)) (x : Ending) (w' : World) : Prop := match r with
  | .ok (p, rest) => x = .returned (.bool true) ∧ ∃ C' vp', RD w0 rb vb B (B.length - rest.length) C' w' ∧ C'[3]? = some vp' ∧ (∀ j, 2 ≤ j → j ≠ 3 → C'[j]? = C[j]?) ∧ w'.ownsRow w0.heap.size 83 6 vp' (ps.length + 1) (cvs (ps ++ [p])) ∧ Kb (fun x => x = rb ∨ vp.ownBlock = some x) w w'
  | .error r => x = .returned (.bool false) ∧ ∃ C', RD w0 rb vb B (B.length - r) C' w'
set_option maxRecDepth 100000 in
set_option maxHeartbeats 2000000 in
theorem card_ (w0 : World) (rb : Nat) (vb : Value) (B : List Int) (at_ : Nat) (C : Array Value) (w : World) (h : RD w0 rb vb B at_ C w) (vp : Value) (ps : List Crd) (hvp : C[3]? = some vp) (hown : w.ownsRow w0.heap.size 83 6 vp ps.length (cvs ps)) (hn : ps.length ≤ 100000) :
    Calls Tryz.prog 68 #[.pointer (some ⟨rb, 0, none⟩)] w (CdP w0 rb vb B C vp ps w (rdC (B.drop at_))) := by
  obtain ⟨Post, hPost⟩ : ∃ P : Ending → World → Prop, P = CdP w0 rb vb B C vp ps w (rdC (B.drop at_)) := ⟨_, rfl⟩
  rw [← hPost]
  have HPo : Hid (Post = _) := hPost
  clear hPost
  obtain ⟨iP, hiP, z0, z1, z2⟩ := info_parts infoCrd
  obtain ⟨W1, hW1⟩ : ∃ W1, w.alloc (.cells #[.int .i64 0, .int .i64 0, .int .i32 0, .int .i32 0, .int .i32 0, .int .i32 0] 83) = W1 := ⟨_, rfl⟩
  have g1 : W1.heap[w.heap.size]? = some (.cells #[.int .i64 0, .int .i64 0, .int .i32 0, .int .i32 0, .int .i32 0, .int .i32 0] 83 (0, 0)) := by rw [← hW1]; exact heap_alloc_new _ _
  have u1 : Up w W1 := by rw [← hW1]; exact (Up.refl _).alloc _
  have R1 : RD w0 rb vb B at_ C W1 := by rw [← hW1]; exact h.alloc _
  have hrl : rb < w.heap.size := (Array.getElem?_eq_some_iff.1 h.hp).1
  have hwl := h.up.size
  obtain ⟨va, vc, hv⟩ : ∃ a c, vp = .slice a ps.length c := row_val hown
  have HOW : Hid _ := hown
  have H0 : Hid (∀ W, Kb (fun x => x = rb ∨ x = w.heap.size) W1 W → Kb (fun x => x = rb ∨ vp.ownBlock = some x) w W ∧ W.ownsRow w0.heap.size 83 6 vp ps.length (cvs ps)) := fun W k => by
    refine ⟨⟨fun g o hg hx => ?_, Nat.le_trans u1.size k.2⟩, ?_⟩
    · refine k.1 g o (u1.heap hg) ?_
      rintro (e | e)
      · exact hx (.inl e)
      · have := (Array.getElem?_eq_some_iff.1 hg).1; omega
    · refine row_keep hown (fun g o hg ho => k.1 g o (u1.heap ho) ?_)
      rintro (e | e)
      · exact ne_rb hown h.hp (by decide) (by rw [hg, e])
      · have := (Array.getElem?_eq_some_iff.1 ho).1; omega
  obtain ⟨n, hn9⟩ : ∃ n, n = ps.length := ⟨_, rfl⟩
  have HN : Hid (n = ps.length) := hn9
  rw [← hn9] at hn hv H0
  have HVP : Hid (vp = .slice va n vc ∧ C[3]? = some vp) := ⟨hv, hvp⟩
  have HC9 : Hid (C.size = 9) := h.sz
  clear hown h hn9 hv hvp
  have HIN : Hid _ := into_ rb vb B at_ 2 w.heap.size 0 (.int .i64 0) W1 R1.rr (by decide) (by decide) (fun k => by
    have hh : (rw_ rb B at_ 2 k W1).heap[w.heap.size]? = some (.cells #[.int .i64 0, .int .i64 0, .int .i32 0, .int .i32 0, .int .i32 0, .int .i32 0] 83 (0, 0)) := by
      unfold rw_
      split
      · exact set_other (W := W1.drewN k) g1 (by omega)
      · exact g1
    exact ⟨by simp only [World.cell?, hh]; rfl, seven_f hh 0⟩)
  go_enter Tryz.func68, Tryz.ntmps68
  go_wp2_with fail
  first | (refine Calls.mono HIN.out ?_) | (refine calls_world hW1 (Calls.mono HIN.out ?_))
  rintro r W2 ⟨rfl, k, hW2⟩
  clear HIN hW1 u1
  unfold rok
  unfold rw_ at hW2
  by_cases hk : at_ + 2 ≤ B.length
  · rw [if_pos hk] at hW2
    rw [decide_eq_true hk]
    obtain ⟨a0, ha0⟩ : ∃ a, a = rv B at_ 2 := ⟨_, rfl⟩
    rw [← ha0] at hW2
    have R2 : RD w0 rb vb B (at_ + 2) (C.setIfInBounds 1 (.int .i64 ((at_ + 2 : Nat) : Int))) W2 := by rw [hW2]; exact (R1.go k (at_ + 2) hk).other _ _ _ (by omega) (by omega)
    have K2 : Kb (fun x => x = rb ∨ x = w.heap.size) W1 W2 := by
      rw [hW2]
      exact Kb.trans (Kb.set (w := W1) k (.inl rfl)) (Kb.set (w := (W1.drewN k).setCell ⟨rb, 1, none⟩ _) 0 (.inr rfl))
    have G2 : W2.heap[w.heap.size]? = some (.cells #[.int .i64 a0, .int .i64 0, .int .i32 0, .int .i32 0, .int .i32 0, .int .i32 0] 83 (0, 0)) := by
      rw [hW2]
      exact set_cells (set_other (W := W1.drewN k) g1 (by omega))
    have HIN : Hid _ := into_ rb vb B (at_ + 2) 1 w.heap.size 1 (.int .i64 0) W2 R2.rr (by decide) (by decide) (fun k => by
      have hh : (rw_ rb B (at_ + 2) 1 k W2).heap[w.heap.size]? = some (.cells #[.int .i64 a0, .int .i64 0, .int .i32 0, .int .i32 0, .int .i32 0, .int .i32 0] 83 (0, 0)) := by
        unfold rw_
        split
        · exact set_other (W := W2.drewN k) G2 (by omega)
        · exact G2
      exact ⟨by simp only [World.cell?, hh]; rfl, seven_f hh 1⟩)
    clear hW2 R1 g1
    go_wp2_with fail
    refine Calls.mono HIN.out ?_
    rintro r W3 ⟨rfl, k3, hW3⟩
    clear HIN
    unfold rok
    unfold rw_ at hW3
    by_cases hk3 : at_ + 2 + 1 ≤ B.length
    · rw [if_pos hk3] at hW3
      rw [decide_eq_true hk3]
      obtain ⟨b0, hb0⟩ : ∃ a, a = rv B (at_ + 2) 1 := ⟨_, rfl⟩
      rw [← hb0] at hW3
      have R3 : RD w0 rb vb B (at_ + 3) (C.setIfInBounds 1 (.int .i64 ((at_ + 3 : Nat) : Int))) W3 := by
        have h9 := (R2.go k3 (at_ + 2 + 1) hk3).other w.heap.size 1 (.int .i64 b0) (by omega) (by omega)
        rw [set_set] at h9
        rw [hW3]
        exact h9
      have K3 : Kb (fun x => x = rb ∨ x = w.heap.size) W1 W3 := by
        rw [hW3]
        exact Kb.trans K2 (Kb.trans (Kb.set (w := W2) k3 (.inl rfl)) (Kb.set (w := (W2.drewN k3).setCell ⟨rb, 1, none⟩ _) 0 (.inr rfl)))
      have G3 : W3.heap[w.heap.size]? = some (.cells #[.int .i64 a0, .int .i64 b0, .int .i32 0, .int .i32 0, .int .i32 0, .int .i32 0] 83 (0, 0)) := by
        rw [hW3]
        exact set_cells (set_other (W := W2.drewN k3) G2 (by omega))
      have HRC : Hid (rdC (B.drop at_) = four (fun c d e f => (⟨a0, b0, c, d, e, f⟩ : Crd)) (B.drop (at_ + 3))) := by
        unfold Hid rdC
        rw [bnd_go (x := a0) (l1 := B.drop (at_ + 2)) (by rw [num2_at, if_pos hk, ha0]), bnd_go (x := b0) (l1 := B.drop (at_ + 3)) (by rw [num1_at, if_pos hk3, hb0])]
        rfl
      have hgl3 : w.heap.size < W3.heap.size := (Array.getElem?_eq_some_iff.1 G3).1
      obtain ⟨W4, hW4⟩ : ∃ W4, W3.alloc (.cells #[.pointer (some ⟨w.heap.size, 2, none⟩), .pointer (some ⟨w.heap.size, 3, none⟩), .pointer (some ⟨w.heap.size, 4, none⟩), .pointer (some ⟨w.heap.size, 5, none⟩)] 161) = W4 := ⟨_, rfl⟩
      have u4 : Up W3 W4 := by rw [← hW4]; exact (Up.refl _).alloc _
      have t4 : W4.heap[W3.heap.size]? = some (.cells #[.pointer (some ⟨w.heap.size, 2, none⟩), .pointer (some ⟨w.heap.size, 3, none⟩), .pointer (some ⟨w.heap.size, 4, none⟩), .pointer (some ⟨w.heap.size, 5, none⟩)] 161 (0, 0)) := by rw [← hW4]; exact heap_alloc_new _ _
      have hrb3 : rb < W3.heap.size := (Array.getElem?_eq_some_iff.1 R3.hp).1
      have HSG : Hid _ := signed_ w0 rb vb B (at_ + 3) _ W4 (by rw [← hW4]; exact R3.alloc _) W3.heap.size w.heap.size 2 4 _ _ _ _ (u4.heap G3) (by omega) (by omega) t4 (fun i hi => by
        match i, hi with
        | 0, _ => rfl
        | 1, _ => rfl
        | 2, _ => rfl
        | 3, _ => rfl) (by omega) (by omega) (fun i hi => by
        match i, hi with
        | 0, _ => exact ⟨_, rfl⟩
        | 1, _ => exact ⟨_, rfl⟩
        | 2, _ => exact ⟨_, rfl⟩
        | 3, _ => exact ⟨_, rfl⟩) (by decide)
      have HK4 : Hid (Kb (fun x => x = rb ∨ x = w.heap.size) W1 W4) := Kb.trans K3 (Kb.of_up u4)
      clear hW3 R2 K2 G2 t4 u4 ha0 hb0 R3 K3 G3
      go_wp2_with fail
      first | (refine Calls.mono HSG.out ?_) | (refine calls_world hW4 (Calls.mono HSG.out ?_))
      rintro r W5 ⟨i, hi, hle, rfl, hlt, R5, G5, K5⟩
      rw [set_set] at R5
      have K5 := Kb.trans HK4.out K5
      clear HSG hW4 HK4
      by_cases hi4 : i = 4
      · subst hi4
        obtain ⟨c0, hc0⟩ : ∃ x, x = sg (rv B (at_ + 3 + 4 * 0) 4) := ⟨_, rfl⟩
        obtain ⟨d0, hd0⟩ : ∃ x, x = sg (rv B (at_ + 3 + 4 * 1) 4) := ⟨_, rfl⟩
        obtain ⟨p0, hp0⟩ : ∃ x, x = sg (rv B (at_ + 3 + 4 * 2) 4) := ⟨_, rfl⟩
        obtain ⟨q0, hq0⟩ : ∃ x, x = sg (rv B (at_ + 3 + 4 * 3) 4) := ⟨_, rfl⟩
        have G5 : W5.heap[w.heap.size]? = some (.cells #[.int .i64 a0, .int .i64 b0, .int .i32 c0, .int .i32 d0, .int .i32 p0, .int .i32 q0] 83 (0, 0)) := by rw [hc0, hd0, hp0, hq0]; exact G5
        have HRP : Hid (rdC (B.drop at_) = .ok (⟨a0, b0, c0, d0, p0, q0⟩, B.drop (at_ + 3 + 4 * 4))) := by
          unfold Hid
          rw [HRC.out, four_ok _ B (at_ + 3) hle, hc0, hd0, hp0, hq0]
        clear hc0 hd0 hp0 hq0 HRC
        rw [decide_eq_true (rfl : (4 : Nat) = 4)]
        have e0 : W5.cell? ⟨w.heap.size, 0, none⟩ = some (.int .i64 a0) := by simp only [World.cell?, G5]; rfl
        have e1 : W5.cell? ⟨w.heap.size, 1, none⟩ = some (.int .i64 b0) := by simp only [World.cell?, G5]; rfl
        have e2 : W5.cell? ⟨w.heap.size, 2, none⟩ = some (.int .i32 c0) := by simp only [World.cell?, G5]; rfl
        have e3 : W5.cell? ⟨w.heap.size, 3, none⟩ = some (.int .i32 d0) := by simp only [World.cell?, G5]; rfl
        have e4 : W5.cell? ⟨w.heap.size, 4, none⟩ = some (.int .i32 p0) := by simp only [World.cell?, G5]; rfl
        have e5 : W5.cell? ⟨w.heap.size, 5, none⟩ = some (.int .i32 q0) := by simp only [World.cell?, G5]; rfl
        go_wp2_with fail
        have HC2 : Hid ((C.setIfInBounds 1 (.int .i64 ((at_ + 3 + 4 * 4 : Nat) : Int)))[3]? = some (.slice va n vc)) := by
          unfold Hid
          rw [Array.getElem?_setIfInBounds_ne (by decide), HVP.out.2, HVP.out.1]
        have d1 : W5.cell? ⟨rb, 3, none⟩ = some (.slice va n vc) := by
          simp only [World.cell?, R5.hp]
          exact HC2.out
        have HK0 : Hid _ := H0.out W5 K5
        have HOWN : Hid (((W5.alloc (.cells #[.int .i64 a0, .int .i64 b0, .int .i32 c0, .int .i32 d0, .int .i32 p0, .int .i32 q0] 83)).drew).ownsRow w0.heap.size 83 6 (.slice va n vc) n (cvs ps)) := by
          have h9 := HK0.out.2
          rw [HVP.out.1] at h9
          exact (h9.alloc _).drew
        have hbx : w0.heap.size ≤ W5.heap.size := R5.up.size
        have hlx : rb < W5.heap.size := (Array.getElem?_eq_some_iff.1 R5.hp).1
        have hgx : w.heap.size < W5.heap.size := by have := World.block_lt_of_cell? W5 _ e0; exact this
        have HR : Hid _ := R5
        have HGO : Hid (∀ g cap V, V.ownsRow w0.heap.size 83 6 (.slice (some ⟨g, 0, none⟩) (n + 1) cap) (n + 1) (cvs ps ++ [.int .i64 a0, .int .i64 b0, .int .i32 c0, .int .i32 d0, .int .i32 p0, .int .i32 q0]) → ((W5.alloc (.cells #[.int .i64 a0, .int .i64 b0, .int .i32 c0, .int .i32 d0, .int .i32 p0, .int .i32 q0] 83)).drew).grownBy V (Value.slice va n vc).ownBlock → (V.cell? ⟨rb, 3, none⟩ = some (.slice va n vc) ∧ V.frozen? ⟨rb, 3, none⟩ = false) ∧ RD w0 rb vb B (at_ + 3 + 4 * 4) (C.setIfInBounds 1 (.int .i64 ((at_ + 3 + 4 * 4 : Nat) : Int))) V ∧ Kb (fun x => x = rb ∨ vp.ownBlock = some x) w V) := fun g cap V h1 h2 => by
          have hne := ne_rb HOWN.out (show ((W5.alloc (.cells #[.int .i64 a0, .int .i64 b0, .int .i32 c0, .int .i32 d0, .int .i32 p0, .int .i32 q0] 83)).drew).heap[rb]? = _ from ((Up.refl W5).alloc _).heap HR.out.hp) (by decide)
          have hlt9 : rb < ((W5.alloc (.cells #[.int .i64 a0, .int .i64 b0, .int .i32 c0, .int .i32 d0, .int .i32 p0, .int .i32 q0] 83)).drew).heap.size := (Array.getElem?_eq_some_iff.1 (show ((W5.alloc (.cells #[.int .i64 a0, .int .i64 b0, .int .i32 c0, .int .i32 d0, .int .i32 p0, .int .i32 q0] 83)).drew).heap[rb]? = _ from ((Up.refl W5).alloc _).heap HR.out.hp)).1
          have hp9 : V.heap[rb]? = some (.cells (C.setIfInBounds 1 (.int .i64 ((at_ + 3 + 4 * 4 : Nat) : Int))) 69 (0, 0)) := by
            rw [h2.block rb hlt9 (fun e => hne e.symm)]
            exact ((Up.refl W5).alloc _).heap HR.out.hp
          refine ⟨⟨by simp only [World.cell?, hp9]; exact HC2.out, seven_f hp9 3⟩, ⟨hp9, HR.out.sz, HR.out.v0, HR.out.v1, ?_, HR.out.le, HR.out.bl, HR.out.byt, HR.out.len, HR.out.at_le⟩, ⟨fun g' o hg hx => ?_, ?_⟩⟩
          · exact Below.grown ((HR.out.up.alloc _).drew) h2 (by simp; omega) (fun k hk => (HOWN.out.lt k hk).1)
          · have h8 := ((Up.refl W5).alloc (.cells #[.int .i64 a0, .int .i64 b0, .int .i32 c0, .int .i32 d0, .int .i32 p0, .int .i32 q0] 83)).heap (HK0.out.1.1 g' o hg hx)
            rw [h2.block g' (Array.getElem?_eq_some_iff.1 h8).1 (fun e => hx (.inr (by rw [HVP.out.1, e])))]
            exact h8
          · have h7 := HK0.out.1.2
            have h8 := h2.size
            simp at h8
            omega
        refine (fun key : ∀ g cap V, V.ownsRow w0.heap.size 83 6 (.slice (some ⟨g, 0, none⟩) (n + 1) cap) (n + 1) (cvs ps ++ [.int .i64 a0, .int .i64 b0, .int .i32 c0, .int .i32 d0, .int .i32 p0, .int .i32 q0]) → ((W5.alloc (.cells #[.int .i64 a0, .int .i64 b0, .int .i32 c0, .int .i32 d0, .int .i32 p0, .int .i32 q0] 83)).drew).grownBy V (Value.slice va n vc).ownBlock → (?G1 : Nat → Nat → World → Prop) g cap V => ?main1) ?kp1
        case main1 =>
          go_region_law ((refine step_append_lies _ (by rfl) _ _ _ (by rfl) w0.heap.size 83 iP _ 6 32 Tryz.underlying26 hiP z0 z1 z2 rfl (by omega) (.slice va n vc) n (cvs ps) (by rfl) HOWN.out ⟨W5.heap.size, 0, none⟩ 1 1 [.int .i64 a0, .int .i64 b0, .int .i32 c0, .int .i32 d0, .int .i32 p0, .int .i32 q0] (by rfl) (by rfl) (World.news_of_block (cs := #[.int .i64 a0, .int .i64 b0, .int .i32 c0, .int .i32 d0, .int .i32 p0, .int .i32 q0]) (t := 83) (fr := (0, 0)) (show ((W5.alloc (.cells #[.int .i64 a0, .int .i64 b0, .int .i32 c0, .int .i32 d0, .int .i32 p0, .int .i32 q0] 83)).drew).heap[W5.heap.size]? = some (.cells #[.int .i64 a0, .int .i64 b0, .int .i32 c0, .int .i32 d0, .int .i32 p0, .int .i32 q0] 83 (0, 0)) from heap_alloc_new W5 _)) (by simp [Value.oneCell']) (by omega) (by unfold maxLen; omega) (by omega) (by simp; omega) (W5.heap.size + 1) (by simp) ?_; intro gg gcap V hown1 hgrow hat hlt9; obtain ⟨q1, q2⟩ := (HGO.out gg gcap V hown1 hgrow).1))
          all_goals exact key _ _ _ hown1 hgrow
        case kp1 =>
          intro g cap V hown1 hgrow
          obtain ⟨-, r9, k9⟩ := HGO.out g cap V hown1 hgrow
          have HF : Hid (RD w0 rb vb B (at_ + 3 + 4 * 4) ((C.setIfInBounds 1 (.int .i64 ((at_ + 3 + 4 * 4 : Nat) : Int))).setIfInBounds 3 (.slice (some ⟨g, 0, none⟩) (n + 1) cap)) (V.setCell ⟨rb, 3, none⟩ (.slice (some ⟨g, 0, none⟩) (n + 1) cap)) ∧ (V.setCell ⟨rb, 3, none⟩ (.slice (some ⟨g, 0, none⟩) (n + 1) cap)).ownsRow w0.heap.size 83 6 (.slice (some ⟨g, 0, none⟩) (n + 1) cap) (n + 1) (cvs ps ++ [.int .i64 a0, .int .i64 b0, .int .i32 c0, .int .i32 d0, .int .i32 p0, .int .i32 q0]) ∧ Kb (fun x => x = rb ∨ vp.ownBlock = some x) w (V.setCell ⟨rb, 3, none⟩ (.slice (some ⟨g, 0, none⟩) (n + 1) cap))) :=
            ⟨r9.put 3 _ (by decide), own_rb hown1 r9.hp (by decide), Kb.trans k9 (Kb.set (w := V) 0 (.inl rfl))⟩
          clear r9 k9 hown1 hgrow
          go_wp2
          rw [HPo.out, HRP.out]
          refine ⟨rfl, (C.setIfInBounds 1 (.int .i64 ((at_ + 3 + 4 * 4 : Nat) : Int))).setIfInBounds 3 (.slice (some ⟨g, 0, none⟩) (n + 1) cap), .slice (some ⟨g, 0, none⟩) (n + 1) cap, ?_, ?_, ?_, ?_, HF.out.2.2⟩
          · rw [show B.length - (B.drop (at_ + 3 + 4 * 4)).length = at_ + 3 + 4 * 4 by rw [List.length_drop]; omega]
            exact HF.out.1
          · rw [Array.getElem?_setIfInBounds_self_of_lt (by simp [HC9.out])]
          · intro j hj hj3
            rw [Array.getElem?_setIfInBounds_ne (by omega), Array.getElem?_setIfInBounds_ne (by omega)]
          · have h9 := HF.out.2.1
            rw [← HN.out, show cvs (ps ++ [⟨a0, b0, c0, d0, p0, q0⟩]) = cvs ps ++ [.int .i64 a0, .int .i64 b0, .int .i32 c0, .int .i32 d0, .int .i32 p0, .int .i32 q0] by simp [cvs, cv]]
            exact h9
      · have hi5 : i < 4 := by omega
        obtain ⟨c0, d0, p0, q0, hds⟩ := ds6 (.int .i64 a0) (.int .i64 b0) (sv4 B (at_ + 3)) (fun i => ⟨_, rfl⟩) i hi
        rw [hds] at G5
        have HRP : Hid (rdC (B.drop at_) = .error (B.length - (at_ + 3 + 4 * i))) := by
          unfold Hid
          rw [HRC.out, four_err _ B (at_ + 3) i hi5 hle (hlt hi5)]
        clear hds HRC
        rw [decide_eq_false hi4]
        have e0 : W5.cell? ⟨w.heap.size, 0, none⟩ = some (.int .i64 a0) := by simp only [World.cell?, G5]; rfl
        have e1 : W5.cell? ⟨w.heap.size, 1, none⟩ = some (.int .i64 b0) := by simp only [World.cell?, G5]; rfl
        have e2 : W5.cell? ⟨w.heap.size, 2, none⟩ = some (.int .i32 c0) := by simp only [World.cell?, G5]; rfl
        have e3 : W5.cell? ⟨w.heap.size, 3, none⟩ = some (.int .i32 d0) := by simp only [World.cell?, G5]; rfl
        have e4 : W5.cell? ⟨w.heap.size, 4, none⟩ = some (.int .i32 p0) := by simp only [World.cell?, G5]; rfl
        have e5 : W5.cell? ⟨w.heap.size, 5, none⟩ = some (.int .i32 q0) := by simp only [World.cell?, G5]; rfl
        go_wp2_with fail
        have HC2 : Hid ((C.setIfInBounds 1 (.int .i64 ((at_ + 3 + 4 * i : Nat) : Int)))[3]? = some (.slice va n vc)) := by
          unfold Hid
          rw [Array.getElem?_setIfInBounds_ne (by decide), HVP.out.2, HVP.out.1]
        have d1 : W5.cell? ⟨rb, 3, none⟩ = some (.slice va n vc) := by
          simp only [World.cell?, R5.hp]
          exact HC2.out
        have HK0 : Hid _ := H0.out W5 K5
        have HOWN : Hid (((W5.alloc (.cells #[.int .i64 a0, .int .i64 b0, .int .i32 c0, .int .i32 d0, .int .i32 p0, .int .i32 q0] 83)).drew).ownsRow w0.heap.size 83 6 (.slice va n vc) n (cvs ps)) := by
          have h9 := HK0.out.2
          rw [HVP.out.1] at h9
          exact (h9.alloc _).drew
        have hbx : w0.heap.size ≤ W5.heap.size := R5.up.size
        have hlx : rb < W5.heap.size := (Array.getElem?_eq_some_iff.1 R5.hp).1
        have hgx : w.heap.size < W5.heap.size := by have := World.block_lt_of_cell? W5 _ e0; exact this
        have HR : Hid _ := R5
        have HGO : Hid (∀ g cap V, V.ownsRow w0.heap.size 83 6 (.slice (some ⟨g, 0, none⟩) (n + 1) cap) (n + 1) (cvs ps ++ [.int .i64 a0, .int .i64 b0, .int .i32 c0, .int .i32 d0, .int .i32 p0, .int .i32 q0]) → ((W5.alloc (.cells #[.int .i64 a0, .int .i64 b0, .int .i32 c0, .int .i32 d0, .int .i32 p0, .int .i32 q0] 83)).drew).grownBy V (Value.slice va n vc).ownBlock → (V.cell? ⟨rb, 3, none⟩ = some (.slice va n vc) ∧ V.frozen? ⟨rb, 3, none⟩ = false) ∧ RD w0 rb vb B (at_ + 3 + 4 * i) (C.setIfInBounds 1 (.int .i64 ((at_ + 3 + 4 * i : Nat) : Int))) V ∧ Kb (fun x => x = rb ∨ vp.ownBlock = some x) w V) := fun g cap V h1 h2 => by
          have hne := ne_rb HOWN.out (show ((W5.alloc (.cells #[.int .i64 a0, .int .i64 b0, .int .i32 c0, .int .i32 d0, .int .i32 p0, .int .i32 q0] 83)).drew).heap[rb]? = _ from ((Up.refl W5).alloc _).heap HR.out.hp) (by decide)
          have hlt9 : rb < ((W5.alloc (.cells #[.int .i64 a0, .int .i64 b0, .int .i32 c0, .int .i32 d0, .int .i32 p0, .int .i32 q0] 83)).drew).heap.size := (Array.getElem?_eq_some_iff.1 (show ((W5.alloc (.cells #[.int .i64 a0, .int .i64 b0, .int .i32 c0, .int .i32 d0, .int .i32 p0, .int .i32 q0] 83)).drew).heap[rb]? = _ from ((Up.refl W5).alloc _).heap HR.out.hp)).1
          have hp9 : V.heap[rb]? = some (.cells (C.setIfInBounds 1 (.int .i64 ((at_ + 3 + 4 * i : Nat) : Int))) 69 (0, 0)) := by
            rw [h2.block rb hlt9 (fun e => hne e.symm)]
            exact ((Up.refl W5).alloc _).heap HR.out.hp
          refine ⟨⟨by simp only [World.cell?, hp9]; exact HC2.out, seven_f hp9 3⟩, ⟨hp9, HR.out.sz, HR.out.v0, HR.out.v1, ?_, HR.out.le, HR.out.bl, HR.out.byt, HR.out.len, HR.out.at_le⟩, ⟨fun g' o hg hx => ?_, ?_⟩⟩
          · exact Below.grown ((HR.out.up.alloc _).drew) h2 (by simp; omega) (fun k hk => (HOWN.out.lt k hk).1)
          · have h8 := ((Up.refl W5).alloc (.cells #[.int .i64 a0, .int .i64 b0, .int .i32 c0, .int .i32 d0, .int .i32 p0, .int .i32 q0] 83)).heap (HK0.out.1.1 g' o hg hx)
            rw [h2.block g' (Array.getElem?_eq_some_iff.1 h8).1 (fun e => hx (.inr (by rw [HVP.out.1, e])))]
            exact h8
          · have h7 := HK0.out.1.2
            have h8 := h2.size
            simp at h8
            omega
        refine (fun key : ∀ g cap V, V.ownsRow w0.heap.size 83 6 (.slice (some ⟨g, 0, none⟩) (n + 1) cap) (n + 1) (cvs ps ++ [.int .i64 a0, .int .i64 b0, .int .i32 c0, .int .i32 d0, .int .i32 p0, .int .i32 q0]) → ((W5.alloc (.cells #[.int .i64 a0, .int .i64 b0, .int .i32 c0, .int .i32 d0, .int .i32 p0, .int .i32 q0] 83)).drew).grownBy V (Value.slice va n vc).ownBlock → (?G2 : Nat → Nat → World → Prop) g cap V => ?main2) ?kp2
        case main2 =>
          go_region_law ((refine step_append_lies _ (by rfl) _ _ _ (by rfl) w0.heap.size 83 iP _ 6 32 Tryz.underlying26 hiP z0 z1 z2 rfl (by omega) (.slice va n vc) n (cvs ps) (by rfl) HOWN.out ⟨W5.heap.size, 0, none⟩ 1 1 [.int .i64 a0, .int .i64 b0, .int .i32 c0, .int .i32 d0, .int .i32 p0, .int .i32 q0] (by rfl) (by rfl) (World.news_of_block (cs := #[.int .i64 a0, .int .i64 b0, .int .i32 c0, .int .i32 d0, .int .i32 p0, .int .i32 q0]) (t := 83) (fr := (0, 0)) (show ((W5.alloc (.cells #[.int .i64 a0, .int .i64 b0, .int .i32 c0, .int .i32 d0, .int .i32 p0, .int .i32 q0] 83)).drew).heap[W5.heap.size]? = some (.cells #[.int .i64 a0, .int .i64 b0, .int .i32 c0, .int .i32 d0, .int .i32 p0, .int .i32 q0] 83 (0, 0)) from heap_alloc_new W5 _)) (by simp [Value.oneCell']) (by omega) (by unfold maxLen; omega) (by omega) (by simp; omega) (W5.heap.size + 1) (by simp) ?_; intro gg gcap V hown1 hgrow hat hlt9; obtain ⟨q1, q2⟩ := (HGO.out gg gcap V hown1 hgrow).1))
          all_goals exact key _ _ _ hown1 hgrow
        case kp2 =>
          intro g cap V hown1 hgrow
          obtain ⟨-, r9, k9⟩ := HGO.out g cap V hown1 hgrow
          have HF : Hid (RD w0 rb vb B (at_ + 3 + 4 * i) ((C.setIfInBounds 1 (.int .i64 ((at_ + 3 + 4 * i : Nat) : Int))).setIfInBounds 3 (.slice (some ⟨g, 0, none⟩) (n + 1) cap)) (V.setCell ⟨rb, 3, none⟩ (.slice (some ⟨g, 0, none⟩) (n + 1) cap)) ∧ (V.setCell ⟨rb, 3, none⟩ (.slice (some ⟨g, 0, none⟩) (n + 1) cap)).ownsRow w0.heap.size 83 6 (.slice (some ⟨g, 0, none⟩) (n + 1) cap) (n + 1) (cvs ps ++ [.int .i64 a0, .int .i64 b0, .int .i32 c0, .int .i32 d0, .int .i32 p0, .int .i32 q0]) ∧ Kb (fun x => x = rb ∨ vp.ownBlock = some x) w (V.setCell ⟨rb, 3, none⟩ (.slice (some ⟨g, 0, none⟩) (n + 1) cap))) :=
            ⟨r9.put 3 _ (by decide), own_rb hown1 r9.hp (by decide), Kb.trans k9 (Kb.set (w := V) 0 (.inl rfl))⟩
          clear r9 k9 hown1 hgrow
          go_wp2
          rw [HPo.out, HRP.out]
          refine ⟨rfl, (C.setIfInBounds 1 (.int .i64 ((at_ + 3 + 4 * i : Nat) : Int))).setIfInBounds 3 (.slice (some ⟨g, 0, none⟩) (n + 1) cap), ?_⟩
          have h8 := HF.out.1.at_le
          rw [show B.length - (B.length - (at_ + 3 + 4 * i)) = at_ + 3 + 4 * i by omega]
          exact HF.out.1
    · rw [if_neg hk3] at hW3
      rw [decide_eq_false hk3]
      generalize rv B (at_ + 2) 1 = b0 at *
      have R3 : RD w0 rb vb B (at_ + 2) (C.setIfInBounds 1 (.int .i64 ((at_ + 2 : Nat) : Int))) W3 := by rw [hW3]; exact (R2.drew k3).other _ _ _ (by omega) (by omega)
      have K3 : Kb (fun x => x = rb ∨ x = w.heap.size) W1 W3 := by rw [hW3]; exact Kb.trans K2 (Kb.set (w := W2) k3 (.inr rfl))
      have G3 : W3.heap[w.heap.size]? = some (.cells #[.int .i64 a0, .int .i64 b0, .int .i32 0, .int .i32 0, .int .i32 0, .int .i32 0] 83 (0, 0)) := by rw [hW3]; exact set_cells (W := W2.drewN k3) G2
      have HRP : Hid (rdC (B.drop at_) = .error (B.length - (at_ + 2))) := by
        unfold Hid rdC
        rw [bnd_go (x := rv B at_ 2) (l1 := B.drop (at_ + 2)) (by rw [num2_at, if_pos hk]), bnd_no (r := B.length - (at_ + 2)) (by rw [num1_at, if_neg hk3])]
      clear hW3 R2 K2 G2 ha0
      have e0 : W3.cell? ⟨w.heap.size, 0, none⟩ = some (.int .i64 a0) := by simp only [World.cell?, G3]; rfl
      have e1 : W3.cell? ⟨w.heap.size, 1, none⟩ = some (.int .i64 b0) := by simp only [World.cell?, G3]; rfl
      have e2 : W3.cell? ⟨w.heap.size, 2, none⟩ = some (.int .i32 0) := by simp only [World.cell?, G3]; rfl
      have e3 : W3.cell? ⟨w.heap.size, 3, none⟩ = some (.int .i32 0) := by simp only [World.cell?, G3]; rfl
      have e4 : W3.cell? ⟨w.heap.size, 4, none⟩ = some (.int .i32 0) := by simp only [World.cell?, G3]; rfl
      have e5 : W3.cell? ⟨w.heap.size, 5, none⟩ = some (.int .i32 0) := by simp only [World.cell?, G3]; rfl
      go_wp2_with fail
      have HC2 : Hid ((C.setIfInBounds 1 (.int .i64 ((at_ + 2 : Nat) : Int)))[3]? = some (.slice va n vc)) := by
        unfold Hid
        rw [Array.getElem?_setIfInBounds_ne (by decide), HVP.out.2, HVP.out.1]
      have d1 : W3.cell? ⟨rb, 3, none⟩ = some (.slice va n vc) := by
        simp only [World.cell?, R3.hp]
        exact HC2.out
      have HK0 : Hid _ := H0.out W3 K3
      have HOWN : Hid (((W3.alloc (.cells #[.int .i64 a0, .int .i64 b0, .int .i32 0, .int .i32 0, .int .i32 0, .int .i32 0] 83)).drew).ownsRow w0.heap.size 83 6 (.slice va n vc) n (cvs ps)) := by
        have h9 := HK0.out.2
        rw [HVP.out.1] at h9
        exact (h9.alloc _).drew
      have hbx : w0.heap.size ≤ W3.heap.size := R3.up.size
      have hlx : rb < W3.heap.size := (Array.getElem?_eq_some_iff.1 R3.hp).1
      have hgx : w.heap.size < W3.heap.size := by have := World.block_lt_of_cell? W3 _ e0; exact this
      have HR : Hid _ := R3
      have HGO : Hid (∀ g cap V, V.ownsRow w0.heap.size 83 6 (.slice (some ⟨g, 0, none⟩) (n + 1) cap) (n + 1) (cvs ps ++ [.int .i64 a0, .int .i64 b0, .int .i32 0, .int .i32 0, .int .i32 0, .int .i32 0]) → ((W3.alloc (.cells #[.int .i64 a0, .int .i64 b0, .int .i32 0, .int .i32 0, .int .i32 0, .int .i32 0] 83)).drew).grownBy V (Value.slice va n vc).ownBlock → (V.cell? ⟨rb, 3, none⟩ = some (.slice va n vc) ∧ V.frozen? ⟨rb, 3, none⟩ = false) ∧ RD w0 rb vb B (at_ + 2) (C.setIfInBounds 1 (.int .i64 ((at_ + 2 : Nat) : Int))) V ∧ Kb (fun x => x = rb ∨ vp.ownBlock = some x) w V) := fun g cap V h1 h2 => by
        have hne := ne_rb HOWN.out (show ((W3.alloc (.cells #[.int .i64 a0, .int .i64 b0, .int .i32 0, .int .i32 0, .int .i32 0, .int .i32 0] 83)).drew).heap[rb]? = _ from ((Up.refl W3).alloc _).heap HR.out.hp) (by decide)
        have hlt9 : rb < ((W3.alloc (.cells #[.int .i64 a0, .int .i64 b0, .int .i32 0, .int .i32 0, .int .i32 0, .int .i32 0] 83)).drew).heap.size := (Array.getElem?_eq_some_iff.1 (show ((W3.alloc (.cells #[.int .i64 a0, .int .i64 b0, .int .i32 0, .int .i32 0, .int .i32 0, .int .i32 0] 83)).drew).heap[rb]? = _ from ((Up.refl W3).alloc _).heap HR.out.hp)).1
        have hp9 : V.heap[rb]? = some (.cells (C.setIfInBounds 1 (.int .i64 ((at_ + 2 : Nat) : Int))) 69 (0, 0)) := by
          rw [h2.block rb hlt9 (fun e => hne e.symm)]
          exact ((Up.refl W3).alloc _).heap HR.out.hp
        refine ⟨⟨by simp only [World.cell?, hp9]; exact HC2.out, seven_f hp9 3⟩, ⟨hp9, HR.out.sz, HR.out.v0, HR.out.v1, ?_, HR.out.le, HR.out.bl, HR.out.byt, HR.out.len, HR.out.at_le⟩, ⟨fun g' o hg hx => ?_, ?_⟩⟩
        · exact Below.grown ((HR.out.up.alloc _).drew) h2 (by simp; omega) (fun k hk => (HOWN.out.lt k hk).1)
        · have h8 := ((Up.refl W3).alloc (.cells #[.int .i64 a0, .int .i64 b0, .int .i32 0, .int .i32 0, .int .i32 0, .int .i32 0] 83)).heap (HK0.out.1.1 g' o hg hx)
          rw [h2.block g' (Array.getElem?_eq_some_iff.1 h8).1 (fun e => hx (.inr (by rw [HVP.out.1, e])))]
          exact h8
        · have h7 := HK0.out.1.2
          have h8 := h2.size
          simp at h8
          omega
      refine (fun key : ∀ g cap V, V.ownsRow w0.heap.size 83 6 (.slice (some ⟨g, 0, none⟩) (n + 1) cap) (n + 1) (cvs ps ++ [.int .i64 a0, .int .i64 b0, .int .i32 0, .int .i32 0, .int .i32 0, .int .i32 0]) → ((W3.alloc (.cells #[.int .i64 a0, .int .i64 b0, .int .i32 0, .int .i32 0, .int .i32 0, .int .i32 0] 83)).drew).grownBy V (Value.slice va n vc).ownBlock → (?G3 : Nat → Nat → World → Prop) g cap V => ?main3) ?kp3
      case main3 =>
        go_region_law ((refine step_append_lies _ (by rfl) _ _ _ (by rfl) w0.heap.size 83 iP _ 6 32 Tryz.underlying26 hiP z0 z1 z2 rfl (by omega) (.slice va n vc) n (cvs ps) (by rfl) HOWN.out ⟨W3.heap.size, 0, none⟩ 1 1 [.int .i64 a0, .int .i64 b0, .int .i32 0, .int .i32 0, .int .i32 0, .int .i32 0] (by rfl) (by rfl) (World.news_of_block (cs := #[.int .i64 a0, .int .i64 b0, .int .i32 0, .int .i32 0, .int .i32 0, .int .i32 0]) (t := 83) (fr := (0, 0)) (show ((W3.alloc (.cells #[.int .i64 a0, .int .i64 b0, .int .i32 0, .int .i32 0, .int .i32 0, .int .i32 0] 83)).drew).heap[W3.heap.size]? = some (.cells #[.int .i64 a0, .int .i64 b0, .int .i32 0, .int .i32 0, .int .i32 0, .int .i32 0] 83 (0, 0)) from heap_alloc_new W3 _)) (by simp [Value.oneCell']) (by omega) (by unfold maxLen; omega) (by omega) (by simp; omega) (W3.heap.size + 1) (by simp) ?_; intro gg gcap V hown1 hgrow hat hlt9; obtain ⟨q1, q2⟩ := (HGO.out gg gcap V hown1 hgrow).1))
        all_goals exact key _ _ _ hown1 hgrow
      case kp3 =>
        intro g cap V hown1 hgrow
        obtain ⟨-, r9, k9⟩ := HGO.out g cap V hown1 hgrow
        have HF : Hid (RD w0 rb vb B (at_ + 2) ((C.setIfInBounds 1 (.int .i64 ((at_ + 2 : Nat) : Int))).setIfInBounds 3 (.slice (some ⟨g, 0, none⟩) (n + 1) cap)) (V.setCell ⟨rb, 3, none⟩ (.slice (some ⟨g, 0, none⟩) (n + 1) cap)) ∧ (V.setCell ⟨rb, 3, none⟩ (.slice (some ⟨g, 0, none⟩) (n + 1) cap)).ownsRow w0.heap.size 83 6 (.slice (some ⟨g, 0, none⟩) (n + 1) cap) (n + 1) (cvs ps ++ [.int .i64 a0, .int .i64 b0, .int .i32 0, .int .i32 0, .int .i32 0, .int .i32 0]) ∧ Kb (fun x => x = rb ∨ vp.ownBlock = some x) w (V.setCell ⟨rb, 3, none⟩ (.slice (some ⟨g, 0, none⟩) (n + 1) cap))) :=
          ⟨r9.put 3 _ (by decide), own_rb hown1 r9.hp (by decide), Kb.trans k9 (Kb.set (w := V) 0 (.inl rfl))⟩
        clear r9 k9 hown1 hgrow
        go_wp2
        rw [HPo.out, HRP.out]
        refine ⟨rfl, (C.setIfInBounds 1 (.int .i64 ((at_ + 2 : Nat) : Int))).setIfInBounds 3 (.slice (some ⟨g, 0, none⟩) (n + 1) cap), ?_⟩
        have h8 := HF.out.1.at_le
        rw [show B.length - (B.length - (at_ + 2)) = at_ + 2 by omega]
        exact HF.out.1
  · rw [if_neg hk] at hW2
    rw [decide_eq_false hk]
    generalize rv B at_ 2 = a0 at *
    have R2 : RD w0 rb vb B at_ (C.setIfInBounds 1 (.int .i64 ((at_ : Nat) : Int))) W2 := by
      rw [hW2, set_same R1.v1]
      exact (R1.drew k).other _ _ _ (by omega) (by omega)
    have K2 : Kb (fun x => x = rb ∨ x = w.heap.size) W1 W2 := by rw [hW2]; exact Kb.set (w := W1) k (.inr rfl)
    have G2 : W2.heap[w.heap.size]? = some (.cells #[.int .i64 a0, .int .i64 0, .int .i32 0, .int .i32 0, .int .i32 0, .int .i32 0] 83 (0, 0)) := by rw [hW2]; exact set_cells (W := W1.drewN k) g1
    have HRP : Hid (rdC (B.drop at_) = .error (B.length - at_)) := by
      unfold Hid rdC
      rw [bnd_no (r := B.length - at_) (by rw [num2_at, if_neg hk])]
    clear hW2 R1 g1
    have e0 : W2.cell? ⟨w.heap.size, 0, none⟩ = some (.int .i64 a0) := by simp only [World.cell?, G2]; rfl
    have e1 : W2.cell? ⟨w.heap.size, 1, none⟩ = some (.int .i64 0) := by simp only [World.cell?, G2]; rfl
    have e2 : W2.cell? ⟨w.heap.size, 2, none⟩ = some (.int .i32 0) := by simp only [World.cell?, G2]; rfl
    have e3 : W2.cell? ⟨w.heap.size, 3, none⟩ = some (.int .i32 0) := by simp only [World.cell?, G2]; rfl
    have e4 : W2.cell? ⟨w.heap.size, 4, none⟩ = some (.int .i32 0) := by simp only [World.cell?, G2]; rfl
    have e5 : W2.cell? ⟨w.heap.size, 5, none⟩ = some (.int .i32 0) := by simp only [World.cell?, G2]; rfl
    go_wp2_with fail
    have HC2 : Hid ((C.setIfInBounds 1 (.int .i64 ((at_ : Nat) : Int)))[3]? = some (.slice va n vc)) := by
      unfold Hid
      rw [Array.getElem?_setIfInBounds_ne (by decide), HVP.out.2, HVP.out.1]
    have d1 : W2.cell? ⟨rb, 3, none⟩ = some (.slice va n vc) := by
      simp only [World.cell?, R2.hp]
      exact HC2.out
    have HK0 : Hid _ := H0.out W2 K2
    have HOWN : Hid (((W2.alloc (.cells #[.int .i64 a0, .int .i64 0, .int .i32 0, .int .i32 0, .int .i32 0, .int .i32 0] 83)).drew).ownsRow w0.heap.size 83 6 (.slice va n vc) n (cvs ps)) := by
      have h9 := HK0.out.2
      rw [HVP.out.1] at h9
      exact (h9.alloc _).drew
    have hbx : w0.heap.size ≤ W2.heap.size := R2.up.size
    have hlx : rb < W2.heap.size := (Array.getElem?_eq_some_iff.1 R2.hp).1
    have hgx : w.heap.size < W2.heap.size := by have := World.block_lt_of_cell? W2 _ e0; exact this
    have HR : Hid _ := R2
    have HGO : Hid (∀ g cap V, V.ownsRow w0.heap.size 83 6 (.slice (some ⟨g, 0, none⟩) (n + 1) cap) (n + 1) (cvs ps ++ [.int .i64 a0, .int .i64 0, .int .i32 0, .int .i32 0, .int .i32 0, .int .i32 0]) → ((W2.alloc (.cells #[.int .i64 a0, .int .i64 0, .int .i32 0, .int .i32 0, .int .i32 0, .int .i32 0] 83)).drew).grownBy V (Value.slice va n vc).ownBlock → (V.cell? ⟨rb, 3, none⟩ = some (.slice va n vc) ∧ V.frozen? ⟨rb, 3, none⟩ = false) ∧ RD w0 rb vb B (at_) (C.setIfInBounds 1 (.int .i64 ((at_ : Nat) : Int))) V ∧ Kb (fun x => x = rb ∨ vp.ownBlock = some x) w V) := fun g cap V h1 h2 => by
      have hne := ne_rb HOWN.out (show ((W2.alloc (.cells #[.int .i64 a0, .int .i64 0, .int .i32 0, .int .i32 0, .int .i32 0, .int .i32 0] 83)).drew).heap[rb]? = _ from ((Up.refl W2).alloc _).heap HR.out.hp) (by decide)
      have hlt9 : rb < ((W2.alloc (.cells #[.int .i64 a0, .int .i64 0, .int .i32 0, .int .i32 0, .int .i32 0, .int .i32 0] 83)).drew).heap.size := (Array.getElem?_eq_some_iff.1 (show ((W2.alloc (.cells #[.int .i64 a0, .int .i64 0, .int .i32 0, .int .i32 0, .int .i32 0, .int .i32 0] 83)).drew).heap[rb]? = _ from ((Up.refl W2).alloc _).heap HR.out.hp)).1
      have hp9 : V.heap[rb]? = some (.cells (C.setIfInBounds 1 (.int .i64 ((at_ : Nat) : Int))) 69 (0, 0)) := by
        rw [h2.block rb hlt9 (fun e => hne e.symm)]
        exact ((Up.refl W2).alloc _).heap HR.out.hp
      refine ⟨⟨by simp only [World.cell?, hp9]; exact HC2.out, seven_f hp9 3⟩, ⟨hp9, HR.out.sz, HR.out.v0, HR.out.v1, ?_, HR.out.le, HR.out.bl, HR.out.byt, HR.out.len, HR.out.at_le⟩, ⟨fun g' o hg hx => ?_, ?_⟩⟩
      · exact Below.grown ((HR.out.up.alloc _).drew) h2 (by simp; omega) (fun k hk => (HOWN.out.lt k hk).1)
      · have h8 := ((Up.refl W2).alloc (.cells #[.int .i64 a0, .int .i64 0, .int .i32 0, .int .i32 0, .int .i32 0, .int .i32 0] 83)).heap (HK0.out.1.1 g' o hg hx)
        rw [h2.block g' (Array.getElem?_eq_some_iff.1 h8).1 (fun e => hx (.inr (by rw [HVP.out.1, e])))]
        exact h8
      · have h7 := HK0.out.1.2
        have h8 := h2.size
        simp at h8
        omega
    refine (fun key : ∀ g cap V, V.ownsRow w0.heap.size 83 6 (.slice (some ⟨g, 0, none⟩) (n + 1) cap) (n + 1) (cvs ps ++ [.int .i64 a0, .int .i64 0, .int .i32 0, .int .i32 0, .int .i32 0, .int .i32 0]) → ((W2.alloc (.cells #[.int .i64 a0, .int .i64 0, .int .i32 0, .int .i32 0, .int .i32 0, .int .i32 0] 83)).drew).grownBy V (Value.slice va n vc).ownBlock → (?G4 : Nat → Nat → World → Prop) g cap V => ?main4) ?kp4
    case main4 =>
      go_region_law ((refine step_append_lies _ (by rfl) _ _ _ (by rfl) w0.heap.size 83 iP _ 6 32 Tryz.underlying26 hiP z0 z1 z2 rfl (by omega) (.slice va n vc) n (cvs ps) (by rfl) HOWN.out ⟨W2.heap.size, 0, none⟩ 1 1 [.int .i64 a0, .int .i64 0, .int .i32 0, .int .i32 0, .int .i32 0, .int .i32 0] (by rfl) (by rfl) (World.news_of_block (cs := #[.int .i64 a0, .int .i64 0, .int .i32 0, .int .i32 0, .int .i32 0, .int .i32 0]) (t := 83) (fr := (0, 0)) (show ((W2.alloc (.cells #[.int .i64 a0, .int .i64 0, .int .i32 0, .int .i32 0, .int .i32 0, .int .i32 0] 83)).drew).heap[W2.heap.size]? = some (.cells #[.int .i64 a0, .int .i64 0, .int .i32 0, .int .i32 0, .int .i32 0, .int .i32 0] 83 (0, 0)) from heap_alloc_new W2 _)) (by simp [Value.oneCell']) (by omega) (by unfold maxLen; omega) (by omega) (by simp; omega) (W2.heap.size + 1) (by simp) ?_; intro gg gcap V hown1 hgrow hat hlt9; obtain ⟨q1, q2⟩ := (HGO.out gg gcap V hown1 hgrow).1))
      all_goals exact key _ _ _ hown1 hgrow
    case kp4 =>
      intro g cap V hown1 hgrow
      obtain ⟨-, r9, k9⟩ := HGO.out g cap V hown1 hgrow
      have HF : Hid (RD w0 rb vb B (at_) ((C.setIfInBounds 1 (.int .i64 ((at_ : Nat) : Int))).setIfInBounds 3 (.slice (some ⟨g, 0, none⟩) (n + 1) cap)) (V.setCell ⟨rb, 3, none⟩ (.slice (some ⟨g, 0, none⟩) (n + 1) cap)) ∧ (V.setCell ⟨rb, 3, none⟩ (.slice (some ⟨g, 0, none⟩) (n + 1) cap)).ownsRow w0.heap.size 83 6 (.slice (some ⟨g, 0, none⟩) (n + 1) cap) (n + 1) (cvs ps ++ [.int .i64 a0, .int .i64 0, .int .i32 0, .int .i32 0, .int .i32 0, .int .i32 0]) ∧ Kb (fun x => x = rb ∨ vp.ownBlock = some x) w (V.setCell ⟨rb, 3, none⟩ (.slice (some ⟨g, 0, none⟩) (n + 1) cap))) :=
        ⟨r9.put 3 _ (by decide), own_rb hown1 r9.hp (by decide), Kb.trans k9 (Kb.set (w := V) 0 (.inl rfl))⟩
      clear r9 k9 hown1 hgrow
      go_wp2
      rw [HPo.out, HRP.out]
      refine ⟨rfl, (C.setIfInBounds 1 (.int .i64 ((at_ : Nat) : Int))).setIfInBounds 3 (.slice (some ⟨g, 0, none⟩) (n + 1) cap), ?_⟩
      have h8 := HF.out.1.at_le
      rw [show B.length - (B.length - at_) = at_ by omega]
      exact HF.out.1
end IM
end Go.Proofs.YtmpamcdobhiipaaGreatDoor
