/-
  Decode: a player.
-/
import Derived.Test.YtmpamcdobhiipaaGreatDoorRd7ToPu7
import Derived.Deep.AppendLies
import Derived.Deep.RegionLaw
namespace Go.Proofs.YtmpamcdobhiipaaGreatDoor
open Go.RowKit
attribute [local go_sem ↓] Go.wp_at_zero Go.wp_at_succ

namespace IM
open Go.Proofs.YtmpamcdobhiipaaGreatDoor.ST
theorem infoPly : (Tryz.prog.info? 95).map (fun i => (i.zero, i.size, i.bytes)) = some (some (.agg #[.int .i32 0, .int .i32 0, .bool false]), 3, 12) := by kernel_rfl
theorem RD.put {w0 : World} {rb : Nat} {vb : Value} {B : List Int} {at_ : Nat} {C : Array Value} {W : World} (h : RD w0 rb vb B at_ C W) (j : Nat) (v : Value) (hj : 2 ≤ j) : RD w0 rb vb B at_ (C.setIfInBounds j v) (W.setCell ⟨rb, j, none⟩ v) :=
  ⟨set_cells h.hp, by simpa using h.sz, by rw [Array.getElem?_setIfInBounds_ne (by omega)]; exact h.v0, by rw [Array.getElem?_setIfInBounds_ne (by omega)]; exact h.v1, Up.set h.up _ _ h.le, h.le, h.bl, h.byt, h.len, h.at_le⟩
theorem RD.alloc {w0 : World} {rb : Nat} {vb : Value} {B : List Int} {at_ : Nat} {C : Array Value} {W : World} (h : RD w0 rb vb B at_ C W) (o : Obj) : RD w0 rb vb B at_ C (W.alloc o) :=
  ⟨((Up.refl W).alloc o).heap h.hp, h.sz, h.v0, h.v1, h.up.alloc o, h.le, h.bl, h.byt, h.len, h.at_le⟩
/- what player leaves -/
def PlP (w0 : World) (rb : Nat) (vb : Value) (B : List Int) (C : Array Value) (vp : Value) (ps : List Ply) (w : World) (r : Except Nat (Ply × List Int)) (x : Ending) (w' : World) : Prop := match r with
  | .ok (p, rest) => x = .returned (.bool true) ∧ ∃ C' vp', RD w0 rb vb B (B.length - rest.length) C' w' ∧ C'[2]? = some vp' ∧ (∀ j, 3 ≤ j → C'[j]? = C[j]?) ∧ w'.ownsRow w0.heap.size 95 3 vp' (ps.length + 1) (pvs (ps ++ [p])) ∧ Kb (fun x => x = rb ∨ vp.ownBlock = some x) w w'
  | .error r => x = .returned (.bool false) ∧ ∃ C', RD w0 rb vb B (B.length - r) C' w'
theorem own_rb {W : World} {base e s n rb j : Nat} {v x : Value} {xs : List Value} {C : Array Value} {t : TypeId} (h : W.ownsRow base e s v n xs) (hc : W.heap[rb]? = some (.cells C t (0, 0))) (ht : t ≠ e) : (W.setCell ⟨rb, j, none⟩ x).ownsRow base e s v n xs :=
  row_keep h (fun g o hg ho => set_other ho (fun e1 => by
    subst e1
    rcases h.2 with ⟨h0, -⟩ | ⟨g', cap, cur, h1, -, h3, -⟩
    · rw [h0] at hg; cases hg
    · rw [h1] at hg
      obtain rfl : g' = g := by simpa [Value.ownBlock] using hg
      rw [hc] at h3
      simp at h3
      exact ht h3.2))
theorem ne_rb {W : World} {base e s n rb : Nat} {v : Value} {xs : List Value} {C : Array Value} {t : TypeId} (h : W.ownsRow base e s v n xs) (hc : W.heap[rb]? = some (.cells C t (0, 0))) (ht : t ≠ e) : v.ownBlock ≠ some rb := fun hg => by
  rcases h.2 with ⟨h0, -⟩ | ⟨g', cap, cur, h1, -, h3, -⟩
  · rw [h0] at hg; cases hg
  · rw [h1] at hg
    obtain rfl : g' = rb := by simpa [Value.ownBlock] using hg
    rw [hc] at h3
    simp at h3
    exact ht h3.2
set_option maxRecDepth 100000 in
set_option maxHeartbeats 2000000 in
theorem player_ (w0 : World) (rb : Nat) (vb : Value) (B : List Int) (at_ : Nat) (C : Array Value) (w : World) (h : RD w0 rb vb B at_ C w) (vp : Value) (ps : List Ply) (hvp : C[2]? = some vp) (hown : w.ownsRow w0.heap.size 95 3 vp ps.length (pvs ps)) (hn : ps.length ≤ 100000) :
    Calls Tryz.prog 66 #[.pointer (some ⟨rb, 0, none⟩)] w (PlP w0 rb vb B C vp ps w (rdP (B.drop at_))) := by
  obtain ⟨Post, hPost⟩ : ∃ P : Ending → World → Prop, P = PlP w0 rb vb B C vp ps w (rdP (B.drop at_)) := ⟨_, rfl⟩
  rw [← hPost]
  have HPo : Hid (Post = _) := hPost
  clear hPost
  obtain ⟨iP, hiP, z0, z1, z2⟩ := info_parts infoPly
  obtain ⟨W1, hW1⟩ : ∃ W1, (w.alloc (.cells #[.int .i32 0, .int .i32 0, .bool false] 95)).alloc (.cells #[.pointer (some ⟨w.heap.size, 0, none⟩), .pointer (some ⟨w.heap.size, 1, none⟩)] 161) = W1 := ⟨_, rfl⟩
  have g1 : W1.heap[w.heap.size]? = some (.cells #[.int .i32 0, .int .i32 0, .bool false] 95 (0, 0)) := by rw [← hW1]; exact heap_alloc2_old _ _ _
  have t1 : W1.heap[w.heap.size + 1]? = some (.cells #[.pointer (some ⟨w.heap.size, 0, none⟩), .pointer (some ⟨w.heap.size, 1, none⟩)] 161 (0, 0)) := by rw [← hW1]; exact heap_alloc2_new _ _ _
  have u1 : Up w W1 := by rw [← hW1]; exact ((Up.refl _).alloc _).alloc _
  have R1 : RD w0 rb vb B at_ C W1 := by rw [← hW1]; exact (h.alloc _).alloc _
  have hrl : rb < w.heap.size := (Array.getElem?_eq_some_iff.1 h.hp).1
  have hwl := h.up.size
  have HSG : Hid _ := signed_ w0 rb vb B at_ C W1 R1 (w.heap.size + 1) w.heap.size 0 2 _ _ _ _ g1 (by omega) (by omega) t1 (fun i hi => by
    match i, hi with
    | 0, _ => rfl
    | 1, _ => rfl) (by omega) (by omega) (fun i hi => by
    match i, hi with
    | 0, _ => exact ⟨_, rfl⟩
    | 1, _ => exact ⟨_, rfl⟩) (by decide)
  obtain ⟨va, vc, hv⟩ : ∃ a c, vp = .slice a ps.length c := row_val hown
  have HOW : Hid _ := hown
  have H0 : Hid (∀ W, Kb (fun x => x = rb ∨ x = w.heap.size) W1 W → Kb (fun x => x = rb ∨ vp.ownBlock = some x) w W ∧ W.ownsRow w0.heap.size 95 3 vp ps.length (pvs ps)) := fun W k => by
    refine ⟨⟨fun g o hg hx => ?_, Nat.le_trans u1.size k.2⟩, ?_⟩
    · refine k.1 g o (u1.heap hg) ?_
      rintro (e | e)
      · exact hx (.inl e)
      · have := (Array.getElem?_eq_some_iff.1 hg).1; omega
    · refine row_keep hown (fun g o hg ho => k.1 g o (u1.heap ho) ?_)
      rintro (e | e)
      · exact ne_rb hown h.hp (by decide) (by rw [hg, e])
      · have := (Array.getElem?_eq_some_iff.1 ho).1; omega
  obtain ⟨n, hn9⟩ : ∃ n, n = ps.length := ⟨_, rfl⟩
  have HN : Hid (n = ps.length) := hn9
  rw [← hn9] at hn hv H0
  have HVP : Hid (vp = .slice va n vc ∧ C[2]? = some vp) := ⟨hv, hvp⟩
  have HC9 : Hid (C.size = 9) := h.sz
  clear hown h R1 g1 t1 hn9 hv hvp
  go_enter Tryz.func66, Tryz.ntmps66
  go_wp2_with fail
  first | (refine Calls.mono HSG.out ?_) | (refine calls_world hW1 (Calls.mono HSG.out ?_))
  rintro r W2 ⟨i, hi, hle, rfl, hlt, R2, G2, K2⟩
  clear HSG hW1 u1
  match i, hi, hle, hlt, R2, G2, K2 with
  | 0, _, hle, hlt, R2, G2, K2 =>
    have HRP : Hid (rdP (B.drop at_) = .error (B.length - at_)) := by
      have h9 := hlt (by decide)
      unfold Hid rdP
      rw [bnd_no (r := B.length - at_) (by rw [sg4_at, if_neg (by omega)])]
    have G2 : W2.heap[w.heap.size]? = some (.cells #[.int .i32 0, .int .i32 0, .bool false] 95 (0, 0)) := G2
    have e0 : W2.cell? ⟨w.heap.size, 0, none⟩ = some (.int .i32 0) := by simp only [World.cell?, G2]; rfl
    have e1 : W2.cell? ⟨w.heap.size, 1, none⟩ = some (.int .i32 0) := by simp only [World.cell?, G2]; rfl
    have e2 : W2.cell? ⟨w.heap.size, 2, none⟩ = some (.bool false) := by simp only [World.cell?, G2]; rfl
    have e9 : decide ((0 : Nat) = 2) = false := rfl
    rw [e9]
    go_wp2_with fail
    have HC2 : Hid ((C.setIfInBounds 1 (.int .i64 ((at_ + 4 * 0 : Nat) : Int)))[2]? = some (.slice va n vc)) := by
      unfold Hid
      rw [Array.getElem?_setIfInBounds_ne (by decide), HVP.out.2, HVP.out.1]
    have d1 : W2.cell? ⟨rb, 2, none⟩ = some (.slice va n vc) := by
      simp only [World.cell?, R2.hp]
      exact HC2.out
    have HK0 : Hid _ := H0.out W2 K2
    have HOWN : Hid (((W2.alloc (.cells #[.int .i32 0, .int .i32 0, .bool false] 95)).drew).ownsRow w0.heap.size 95 3 (.slice va n vc) n (pvs ps)) := by
      have h9 := HK0.out.2
      rw [HVP.out.1] at h9
      exact (h9.alloc _).drew
    have hbx : w0.heap.size ≤ W2.heap.size := R2.up.size
    have hlx : rb < W2.heap.size := (Array.getElem?_eq_some_iff.1 R2.hp).1
    have hgx : w.heap.size < W2.heap.size := by have := World.block_lt_of_cell? W2 _ e0; exact this
    have HR : Hid _ := R2
    have HGO : Hid (∀ g cap V, V.ownsRow w0.heap.size 95 3 (.slice (some ⟨g, 0, none⟩) (n + 1) cap) (n + 1) (pvs ps ++ [.int .i32 0, .int .i32 0, .bool false]) → ((W2.alloc (.cells #[.int .i32 0, .int .i32 0, .bool false] 95)).drew).grownBy V (Value.slice va n vc).ownBlock → (V.cell? ⟨rb, 2, none⟩ = some (.slice va n vc) ∧ V.frozen? ⟨rb, 2, none⟩ = false) ∧ RD w0 rb vb B (at_ + 4 * 0) (C.setIfInBounds 1 (.int .i64 ((at_ + 4 * 0 : Nat) : Int))) V ∧ Kb (fun x => x = rb ∨ vp.ownBlock = some x) w V) := fun g cap V h1 h2 => by
      have hne := ne_rb HOWN.out (show ((W2.alloc (.cells #[.int .i32 0, .int .i32 0, .bool false] 95)).drew).heap[rb]? = _ from ((Up.refl W2).alloc _).heap HR.out.hp) (by decide)
      have hlt9 : rb < ((W2.alloc (.cells #[.int .i32 0, .int .i32 0, .bool false] 95)).drew).heap.size := (Array.getElem?_eq_some_iff.1 (show ((W2.alloc (.cells #[.int .i32 0, .int .i32 0, .bool false] 95)).drew).heap[rb]? = _ from ((Up.refl W2).alloc _).heap HR.out.hp)).1
      have hp9 : V.heap[rb]? = some (.cells (C.setIfInBounds 1 (.int .i64 ((at_ + 4 * 0 : Nat) : Int))) 69 (0, 0)) := by
        rw [h2.block rb hlt9 (fun e => hne e.symm)]
        exact ((Up.refl W2).alloc _).heap HR.out.hp
      refine ⟨⟨by simp only [World.cell?, hp9]; exact HC2.out, seven_f hp9 2⟩, ⟨hp9, HR.out.sz, HR.out.v0, HR.out.v1, ?_, HR.out.le, HR.out.bl, HR.out.byt, HR.out.len, HR.out.at_le⟩, ⟨fun g' o hg hx => ?_, ?_⟩⟩
      · exact Below.grown ((HR.out.up.alloc _).drew) h2 (by simp; omega) (fun k hk => (HOWN.out.lt k hk).1)
      · have h8 := ((Up.refl W2).alloc (.cells #[.int .i32 0, .int .i32 0, .bool false] 95)).heap (HK0.out.1.1 g' o hg hx)
        rw [h2.block g' (Array.getElem?_eq_some_iff.1 h8).1 (fun e => hx (.inr (by rw [HVP.out.1, e])))]
        exact h8
      · have h7 := HK0.out.1.2
        have h8 := h2.size
        simp at h8
        omega
    refine (fun key : ∀ g cap V, V.ownsRow w0.heap.size 95 3 (.slice (some ⟨g, 0, none⟩) (n + 1) cap) (n + 1) (pvs ps ++ [.int .i32 0, .int .i32 0, .bool false]) → ((W2.alloc (.cells #[.int .i32 0, .int .i32 0, .bool false] 95)).drew).grownBy V (Value.slice va n vc).ownBlock → (?G1 : Nat → Nat → World → Prop) g cap V => ?main1) ?kp1
    case main1 =>
      go_region_law ((refine step_append_lies _ (by rfl) _ _ _ (by rfl) w0.heap.size 95 iP _ 3 12 Tryz.underlying25 hiP z0 z1 z2 rfl (by omega) (.slice va n vc) n (pvs ps) (by rfl) HOWN.out ⟨W2.heap.size, 0, none⟩ 1 1 [.int .i32 0, .int .i32 0, .bool false] (by rfl) (by rfl) (World.news_of_block (cs := #[.int .i32 0, .int .i32 0, .bool false]) (t := 95) (fr := (0, 0)) (show ((W2.alloc (.cells #[.int .i32 0, .int .i32 0, .bool false] 95)).drew).heap[W2.heap.size]? = some (.cells #[.int .i32 0, .int .i32 0, .bool false] 95 (0, 0)) from heap_alloc_new W2 _)) (by simp [Value.oneCell']) (by omega) (by unfold maxLen; omega) (by omega) (by simp; omega) (W2.heap.size + 1) (by simp) ?_; intro gg gcap V hown1 hgrow hat hlt9; obtain ⟨q1, q2⟩ := (HGO.out gg gcap V hown1 hgrow).1))
      all_goals exact key _ _ _ hown1 hgrow
    case kp1 =>
      intro g cap V hown1 hgrow
      obtain ⟨-, r9, k9⟩ := HGO.out g cap V hown1 hgrow
      have HF : Hid (RD w0 rb vb B (at_ + 4 * 0) ((C.setIfInBounds 1 (.int .i64 ((at_ + 4 * 0 : Nat) : Int))).setIfInBounds 2 (.slice (some ⟨g, 0, none⟩) (n + 1) cap)) (V.setCell ⟨rb, 2, none⟩ (.slice (some ⟨g, 0, none⟩) (n + 1) cap)) ∧ (V.setCell ⟨rb, 2, none⟩ (.slice (some ⟨g, 0, none⟩) (n + 1) cap)).ownsRow w0.heap.size 95 3 (.slice (some ⟨g, 0, none⟩) (n + 1) cap) (n + 1) (pvs ps ++ [.int .i32 0, .int .i32 0, .bool false]) ∧ Kb (fun x => x = rb ∨ vp.ownBlock = some x) w (V.setCell ⟨rb, 2, none⟩ (.slice (some ⟨g, 0, none⟩) (n + 1) cap))) :=
        ⟨r9.put 2 _ (by decide), own_rb hown1 r9.hp (by decide), Kb.trans k9 (Kb.set (w := V) 0 (.inl rfl))⟩
      clear r9 k9 hown1 hgrow
      go_wp2
      rw [HPo.out, HRP.out]
      refine ⟨rfl, (C.setIfInBounds 1 (.int .i64 ((at_ + 4 * 0 : Nat) : Int))).setIfInBounds 2 (.slice (some ⟨g, 0, none⟩) (n + 1) cap), ?_⟩
      have h8 := HF.out.1.at_le
      rw [show B.length - (B.length - at_) = at_ + 4 * 0 by omega]
      exact HF.out.1
  | 1, _, hle, hlt, R2, G2, K2 =>
    have HRP : Hid (rdP (B.drop at_) = .error (B.length - (at_ + 4))) := by
      have h9 := hlt (by decide)
      unfold Hid rdP
      rw [bnd_go (x := sg (rv B at_ 4)) (l1 := B.drop (at_ + 4)) (by rw [sg4_at, if_pos (by omega)]), bnd_no (r := B.length - (at_ + 4)) (by rw [sg4_at, if_neg (by omega)])]
    obtain ⟨x0, hx0⟩ : ∃ x, x = sg (rv B (at_ + 4 * 0) 4) := ⟨_, rfl⟩
    have G2 : W2.heap[w.heap.size]? = some (.cells #[.int .i32 x0, .int .i32 0, .bool false] 95 (0, 0)) := by rw [hx0]; exact G2
    have e0 : W2.cell? ⟨w.heap.size, 0, none⟩ = some (.int .i32 x0) := by simp only [World.cell?, G2]; rfl
    have e1 : W2.cell? ⟨w.heap.size, 1, none⟩ = some (.int .i32 0) := by simp only [World.cell?, G2]; rfl
    have e2 : W2.cell? ⟨w.heap.size, 2, none⟩ = some (.bool false) := by simp only [World.cell?, G2]; rfl
    have e9 : decide ((1 : Nat) = 2) = false := rfl
    rw [e9]
    clear hx0
    go_wp2_with fail
    have HC2 : Hid ((C.setIfInBounds 1 (.int .i64 ((at_ + 4 * 1 : Nat) : Int)))[2]? = some (.slice va n vc)) := by
      unfold Hid
      rw [Array.getElem?_setIfInBounds_ne (by decide), HVP.out.2, HVP.out.1]
    have d1 : W2.cell? ⟨rb, 2, none⟩ = some (.slice va n vc) := by
      simp only [World.cell?, R2.hp]
      exact HC2.out
    have HK0 : Hid _ := H0.out W2 K2
    have HOWN : Hid (((W2.alloc (.cells #[.int .i32 x0, .int .i32 0, .bool false] 95)).drew).ownsRow w0.heap.size 95 3 (.slice va n vc) n (pvs ps)) := by
      have h9 := HK0.out.2
      rw [HVP.out.1] at h9
      exact (h9.alloc _).drew
    have hbx : w0.heap.size ≤ W2.heap.size := R2.up.size
    have hlx : rb < W2.heap.size := (Array.getElem?_eq_some_iff.1 R2.hp).1
    have hgx : w.heap.size < W2.heap.size := by have := World.block_lt_of_cell? W2 _ e0; exact this
    have HR : Hid _ := R2
    have HGO : Hid (∀ g cap V, V.ownsRow w0.heap.size 95 3 (.slice (some ⟨g, 0, none⟩) (n + 1) cap) (n + 1) (pvs ps ++ [.int .i32 x0, .int .i32 0, .bool false]) → ((W2.alloc (.cells #[.int .i32 x0, .int .i32 0, .bool false] 95)).drew).grownBy V (Value.slice va n vc).ownBlock → (V.cell? ⟨rb, 2, none⟩ = some (.slice va n vc) ∧ V.frozen? ⟨rb, 2, none⟩ = false) ∧ RD w0 rb vb B (at_ + 4 * 1) (C.setIfInBounds 1 (.int .i64 ((at_ + 4 * 1 : Nat) : Int))) V ∧ Kb (fun x => x = rb ∨ vp.ownBlock = some x) w V) := fun g cap V h1 h2 => by
      have hne := ne_rb HOWN.out (show ((W2.alloc (.cells #[.int .i32 x0, .int .i32 0, .bool false] 95)).drew).heap[rb]? = _ from ((Up.refl W2).alloc _).heap HR.out.hp) (by decide)
      have hlt9 : rb < ((W2.alloc (.cells #[.int .i32 x0, .int .i32 0, .bool false] 95)).drew).heap.size := (Array.getElem?_eq_some_iff.1 (show ((W2.alloc (.cells #[.int .i32 x0, .int .i32 0, .bool false] 95)).drew).heap[rb]? = _ from ((Up.refl W2).alloc _).heap HR.out.hp)).1
      have hp9 : V.heap[rb]? = some (.cells (C.setIfInBounds 1 (.int .i64 ((at_ + 4 * 1 : Nat) : Int))) 69 (0, 0)) := by
        rw [h2.block rb hlt9 (fun e => hne e.symm)]
        exact ((Up.refl W2).alloc _).heap HR.out.hp
      refine ⟨⟨by simp only [World.cell?, hp9]; exact HC2.out, seven_f hp9 2⟩, ⟨hp9, HR.out.sz, HR.out.v0, HR.out.v1, ?_, HR.out.le, HR.out.bl, HR.out.byt, HR.out.len, HR.out.at_le⟩, ⟨fun g' o hg hx => ?_, ?_⟩⟩
      · exact Below.grown ((HR.out.up.alloc _).drew) h2 (by simp; omega) (fun k hk => (HOWN.out.lt k hk).1)
      · have h8 := ((Up.refl W2).alloc (.cells #[.int .i32 x0, .int .i32 0, .bool false] 95)).heap (HK0.out.1.1 g' o hg hx)
        rw [h2.block g' (Array.getElem?_eq_some_iff.1 h8).1 (fun e => hx (.inr (by rw [HVP.out.1, e])))]
        exact h8
      · have h7 := HK0.out.1.2
        have h8 := h2.size
        simp at h8
        omega
    refine (fun key : ∀ g cap V, V.ownsRow w0.heap.size 95 3 (.slice (some ⟨g, 0, none⟩) (n + 1) cap) (n + 1) (pvs ps ++ [.int .i32 x0, .int .i32 0, .bool false]) → ((W2.alloc (.cells #[.int .i32 x0, .int .i32 0, .bool false] 95)).drew).grownBy V (Value.slice va n vc).ownBlock → (?G2 : Nat → Nat → World → Prop) g cap V => ?main2) ?kp2
    case main2 =>
      go_region_law ((refine step_append_lies _ (by rfl) _ _ _ (by rfl) w0.heap.size 95 iP _ 3 12 Tryz.underlying25 hiP z0 z1 z2 rfl (by omega) (.slice va n vc) n (pvs ps) (by rfl) HOWN.out ⟨W2.heap.size, 0, none⟩ 1 1 [.int .i32 x0, .int .i32 0, .bool false] (by rfl) (by rfl) (World.news_of_block (cs := #[.int .i32 x0, .int .i32 0, .bool false]) (t := 95) (fr := (0, 0)) (show ((W2.alloc (.cells #[.int .i32 x0, .int .i32 0, .bool false] 95)).drew).heap[W2.heap.size]? = some (.cells #[.int .i32 x0, .int .i32 0, .bool false] 95 (0, 0)) from heap_alloc_new W2 _)) (by simp [Value.oneCell']) (by omega) (by unfold maxLen; omega) (by omega) (by simp; omega) (W2.heap.size + 1) (by simp) ?_; intro gg gcap V hown1 hgrow hat hlt9; obtain ⟨q1, q2⟩ := (HGO.out gg gcap V hown1 hgrow).1))
      all_goals exact key _ _ _ hown1 hgrow
    case kp2 =>
      intro g cap V hown1 hgrow
      obtain ⟨-, r9, k9⟩ := HGO.out g cap V hown1 hgrow
      have HF : Hid (RD w0 rb vb B (at_ + 4 * 1) ((C.setIfInBounds 1 (.int .i64 ((at_ + 4 * 1 : Nat) : Int))).setIfInBounds 2 (.slice (some ⟨g, 0, none⟩) (n + 1) cap)) (V.setCell ⟨rb, 2, none⟩ (.slice (some ⟨g, 0, none⟩) (n + 1) cap)) ∧ (V.setCell ⟨rb, 2, none⟩ (.slice (some ⟨g, 0, none⟩) (n + 1) cap)).ownsRow w0.heap.size 95 3 (.slice (some ⟨g, 0, none⟩) (n + 1) cap) (n + 1) (pvs ps ++ [.int .i32 x0, .int .i32 0, .bool false]) ∧ Kb (fun x => x = rb ∨ vp.ownBlock = some x) w (V.setCell ⟨rb, 2, none⟩ (.slice (some ⟨g, 0, none⟩) (n + 1) cap))) :=
        ⟨r9.put 2 _ (by decide), own_rb hown1 r9.hp (by decide), Kb.trans k9 (Kb.set (w := V) 0 (.inl rfl))⟩
      clear r9 k9 hown1 hgrow
      go_wp2
      rw [HPo.out, HRP.out]
      refine ⟨rfl, (C.setIfInBounds 1 (.int .i64 ((at_ + 4 * 1 : Nat) : Int))).setIfInBounds 2 (.slice (some ⟨g, 0, none⟩) (n + 1) cap), ?_⟩
      have h8 := HF.out.1.at_le
      rw [show B.length - (B.length - (at_ + 4)) = at_ + 4 * 1 by omega]
      exact HF.out.1
  | 2, _, hle, hlt, R2, G2, K2 =>
    obtain ⟨x0, hx0⟩ : ∃ x, x = sg (rv B (at_ + 4 * 0) 4) := ⟨_, rfl⟩
    obtain ⟨x1, hx1⟩ : ∃ x, x = sg (rv B (at_ + 4 * 1) 4) := ⟨_, rfl⟩
    have G2 : W2.heap[w.heap.size]? = some (.cells #[.int .i32 x0, .int .i32 x1, .bool false] 95 (0, 0)) := by rw [hx0, hx1]; exact G2
    have e2 : W2.cell? ⟨w.heap.size, 2, none⟩ = some (.bool false) := by simp only [World.cell?, G2]; rfl
    have HFL : Hid _ := flag_ rb vb B (at_ + 4 * 2) w.heap.size 2 false W2 R2.rr e2 (seven_f G2 2) (by omega)
    have HX : Hid (∀ r, flag (B.drop (at_ + 4 * 2)) = r → rdP (B.drop at_) = match r with
        | .error e => .error e
        | .ok (q, l) => .ok (⟨x0, x1, q⟩, l)) := fun r hr => by
      unfold rdP
      rw [bnd_go (x := x0) (l1 := B.drop (at_ + 4)) (by rw [sg4_at, if_pos (by omega), hx0]; try rfl), bnd_go (x := x1) (l1 := B.drop (at_ + 4 * 2)) (by rw [sg4_at, if_pos (by omega), hx1]; try rfl)]
      unfold bnd
      rw [hr]
      cases r with
      | error e => rfl
      | ok v => rfl
    have e9 : decide ((2 : Nat) = 2) = true := rfl
    rw [e9]
    clear hx0 hx1 e2
    go_wp2_with fail
    refine Calls.mono HFL.out ?_
    rintro r W3 ⟨rfl, k, hW3⟩
    clear HFL
    by_cases hf : fok B (at_ + 4 * 2) = true
    · rw [if_pos hf, show ((at_ + 4 * 2 : Nat) : Int) + 1 = ((at_ + 4 * 2 + 1 : Nat) : Int) by omega] at hW3
      have hfl : at_ + 4 * 2 + 1 ≤ B.length := by
        unfold fok at hf
        simp only [Bool.and_eq_true, decide_eq_true_eq] at hf
        omega
      obtain ⟨q, hq⟩ : ∃ q, q = (B.getD (at_ + 4 * 2) 0 == 1) := ⟨_, rfl⟩
      rw [← hq] at hW3
      have HRP : Hid (rdP (B.drop at_) = .ok (⟨x0, x1, q⟩, B.drop (at_ + 4 * 2 + 1))) := by
        unfold Hid
        rw [HX.out _ (flag_at B (at_ + 4 * 2) hle), if_pos hf, hq]
      have R3 : RD w0 rb vb B (at_ + 4 * 2 + 1) (C.setIfInBounds 1 (.int .i64 ((at_ + 4 * 2 + 1 : Nat) : Int))) W3 := by
        have := ((R2.drew k).other w.heap.size 2 (.bool q) (by omega) (by omega)).go 0 (at_ + 4 * 2 + 1) hfl
        rw [set_set] at this
        rw [hW3]
        exact this
      have K3 : Kb (fun x => x = rb ∨ x = w.heap.size) W1 W3 := by
        rw [hW3]
        exact Kb.trans K2 (Kb.trans (Kb.set (w := W2) k (.inr rfl)) (Kb.set (w := (W2.drewN k).setCell ⟨w.heap.size, 2, none⟩ (.bool q)) 0 (.inl rfl)))
      have G3 : W3.heap[w.heap.size]? = some (.cells #[.int .i32 x0, .int .i32 x1, .bool q] 95 (0, 0)) := by
        rw [hW3]
        exact set_other (set_cells (W := W2.drewN k) G2) (by omega)
      have e0 : W3.cell? ⟨w.heap.size, 0, none⟩ = some (.int .i32 x0) := by simp only [World.cell?, G3]; rfl
      have e1 : W3.cell? ⟨w.heap.size, 1, none⟩ = some (.int .i32 x1) := by simp only [World.cell?, G3]; rfl
      have e2 : W3.cell? ⟨w.heap.size, 2, none⟩ = some (.bool q) := by simp only [World.cell?, G3]; rfl
      rw [hf]
      clear hW3 hq HX
      go_wp2_with fail
      have HC2 : Hid ((C.setIfInBounds 1 (.int .i64 ((at_ + 4 * 2 + 1 : Nat) : Int)))[2]? = some (.slice va n vc)) := by
        unfold Hid
        rw [Array.getElem?_setIfInBounds_ne (by decide), HVP.out.2, HVP.out.1]
      have d1 : W3.cell? ⟨rb, 2, none⟩ = some (.slice va n vc) := by
        simp only [World.cell?, R3.hp]
        exact HC2.out
      have HK0 : Hid _ := H0.out W3 K3
      have HOWN : Hid (((W3.alloc (.cells #[.int .i32 x0, .int .i32 x1, .bool q] 95)).drew).ownsRow w0.heap.size 95 3 (.slice va n vc) n (pvs ps)) := by
        have h9 := HK0.out.2
        rw [HVP.out.1] at h9
        exact (h9.alloc _).drew
      have hbx : w0.heap.size ≤ W3.heap.size := R3.up.size
      have hlx : rb < W3.heap.size := (Array.getElem?_eq_some_iff.1 R3.hp).1
      have hgx : w.heap.size < W3.heap.size := by have := World.block_lt_of_cell? W3 _ e0; exact this
      have HR : Hid _ := R3
      have HGO : Hid (∀ g cap V, V.ownsRow w0.heap.size 95 3 (.slice (some ⟨g, 0, none⟩) (n + 1) cap) (n + 1) (pvs ps ++ [.int .i32 x0, .int .i32 x1, .bool q]) → ((W3.alloc (.cells #[.int .i32 x0, .int .i32 x1, .bool q] 95)).drew).grownBy V (Value.slice va n vc).ownBlock → (V.cell? ⟨rb, 2, none⟩ = some (.slice va n vc) ∧ V.frozen? ⟨rb, 2, none⟩ = false) ∧ RD w0 rb vb B (at_ + 4 * 2 + 1) (C.setIfInBounds 1 (.int .i64 ((at_ + 4 * 2 + 1 : Nat) : Int))) V ∧ Kb (fun x => x = rb ∨ vp.ownBlock = some x) w V) := fun g cap V h1 h2 => by
        have hne := ne_rb HOWN.out (show ((W3.alloc (.cells #[.int .i32 x0, .int .i32 x1, .bool q] 95)).drew).heap[rb]? = _ from ((Up.refl W3).alloc _).heap HR.out.hp) (by decide)
        have hlt9 : rb < ((W3.alloc (.cells #[.int .i32 x0, .int .i32 x1, .bool q] 95)).drew).heap.size := (Array.getElem?_eq_some_iff.1 (show ((W3.alloc (.cells #[.int .i32 x0, .int .i32 x1, .bool q] 95)).drew).heap[rb]? = _ from ((Up.refl W3).alloc _).heap HR.out.hp)).1
        have hp9 : V.heap[rb]? = some (.cells (C.setIfInBounds 1 (.int .i64 ((at_ + 4 * 2 + 1 : Nat) : Int))) 69 (0, 0)) := by
          rw [h2.block rb hlt9 (fun e => hne e.symm)]
          exact ((Up.refl W3).alloc _).heap HR.out.hp
        refine ⟨⟨by simp only [World.cell?, hp9]; exact HC2.out, seven_f hp9 2⟩, ⟨hp9, HR.out.sz, HR.out.v0, HR.out.v1, ?_, HR.out.le, HR.out.bl, HR.out.byt, HR.out.len, HR.out.at_le⟩, ⟨fun g' o hg hx => ?_, ?_⟩⟩
        · exact Below.grown ((HR.out.up.alloc _).drew) h2 (by simp; omega) (fun k hk => (HOWN.out.lt k hk).1)
        · have h8 := ((Up.refl W3).alloc (.cells #[.int .i32 x0, .int .i32 x1, .bool q] 95)).heap (HK0.out.1.1 g' o hg hx)
          rw [h2.block g' (Array.getElem?_eq_some_iff.1 h8).1 (fun e => hx (.inr (by rw [HVP.out.1, e])))]
          exact h8
        · have h7 := HK0.out.1.2
          have h8 := h2.size
          simp at h8
          omega
      refine (fun key : ∀ g cap V, V.ownsRow w0.heap.size 95 3 (.slice (some ⟨g, 0, none⟩) (n + 1) cap) (n + 1) (pvs ps ++ [.int .i32 x0, .int .i32 x1, .bool q]) → ((W3.alloc (.cells #[.int .i32 x0, .int .i32 x1, .bool q] 95)).drew).grownBy V (Value.slice va n vc).ownBlock → (?G3 : Nat → Nat → World → Prop) g cap V => ?main3) ?kp3
      case main3 =>
        go_region_law ((refine step_append_lies _ (by rfl) _ _ _ (by rfl) w0.heap.size 95 iP _ 3 12 Tryz.underlying25 hiP z0 z1 z2 rfl (by omega) (.slice va n vc) n (pvs ps) (by rfl) HOWN.out ⟨W3.heap.size, 0, none⟩ 1 1 [.int .i32 x0, .int .i32 x1, .bool q] (by rfl) (by rfl) (World.news_of_block (cs := #[.int .i32 x0, .int .i32 x1, .bool q]) (t := 95) (fr := (0, 0)) (show ((W3.alloc (.cells #[.int .i32 x0, .int .i32 x1, .bool q] 95)).drew).heap[W3.heap.size]? = some (.cells #[.int .i32 x0, .int .i32 x1, .bool q] 95 (0, 0)) from heap_alloc_new W3 _)) (by simp [Value.oneCell']) (by omega) (by unfold maxLen; omega) (by omega) (by simp; omega) (W3.heap.size + 1) (by simp) ?_; intro gg gcap V hown1 hgrow hat hlt9; obtain ⟨q1, q2⟩ := (HGO.out gg gcap V hown1 hgrow).1))
        all_goals exact key _ _ _ hown1 hgrow
      case kp3 =>
        intro g cap V hown1 hgrow
        obtain ⟨-, r9, k9⟩ := HGO.out g cap V hown1 hgrow
        have HF : Hid (RD w0 rb vb B (at_ + 4 * 2 + 1) ((C.setIfInBounds 1 (.int .i64 ((at_ + 4 * 2 + 1 : Nat) : Int))).setIfInBounds 2 (.slice (some ⟨g, 0, none⟩) (n + 1) cap)) (V.setCell ⟨rb, 2, none⟩ (.slice (some ⟨g, 0, none⟩) (n + 1) cap)) ∧ (V.setCell ⟨rb, 2, none⟩ (.slice (some ⟨g, 0, none⟩) (n + 1) cap)).ownsRow w0.heap.size 95 3 (.slice (some ⟨g, 0, none⟩) (n + 1) cap) (n + 1) (pvs ps ++ [.int .i32 x0, .int .i32 x1, .bool q]) ∧ Kb (fun x => x = rb ∨ vp.ownBlock = some x) w (V.setCell ⟨rb, 2, none⟩ (.slice (some ⟨g, 0, none⟩) (n + 1) cap))) :=
          ⟨r9.put 2 _ (by decide), own_rb hown1 r9.hp (by decide), Kb.trans k9 (Kb.set (w := V) 0 (.inl rfl))⟩
        clear r9 k9 hown1 hgrow
        go_wp2
        rw [HPo.out, HRP.out]
        refine ⟨rfl, (C.setIfInBounds 1 (.int .i64 ((at_ + 4 * 2 + 1 : Nat) : Int))).setIfInBounds 2 (.slice (some ⟨g, 0, none⟩) (n + 1) cap), .slice (some ⟨g, 0, none⟩) (n + 1) cap, ?_, ?_, ?_, ?_, HF.out.2.2⟩
        · rw [show B.length - (B.drop (at_ + 4 * 2 + 1)).length = at_ + 4 * 2 + 1 by rw [List.length_drop]; omega]
          exact HF.out.1
        · rw [Array.getElem?_setIfInBounds_self_of_lt (by simp [HC9.out])]
        · intro j hj
          rw [Array.getElem?_setIfInBounds_ne (by omega), Array.getElem?_setIfInBounds_ne (by omega)]
        · have h9 := HF.out.2.1
          rw [← HN.out, show pvs (ps ++ [⟨x0, x1, q⟩]) = pvs ps ++ [.int .i32 x0, .int .i32 x1, .bool q] by simp [pvs, pv]]
          exact h9
    · have hf' : fok B (at_ + 4 * 2) = false := by simpa using hf
      rw [if_neg hf] at hW3
      have HRP : Hid (rdP (B.drop at_) = .error (B.length - (at_ + 4 * 2))) := by
        unfold Hid
        rw [HX.out _ (flag_at B (at_ + 4 * 2) hle), if_neg hf]
      have R3 : RD w0 rb vb B (at_ + 4 * 2) (C.setIfInBounds 1 (.int .i64 ((at_ + 4 * 2 : Nat) : Int))) W3 := by rw [hW3]; exact R2.drew k
      have K3 : Kb (fun x => x = rb ∨ x = w.heap.size) W1 W3 := by rw [hW3]; exact Kb.trans K2 (Kb.of_up ((Up.refl _).drewN k))
      have G3 : W3.heap[w.heap.size]? = some (.cells #[.int .i32 x0, .int .i32 x1, .bool false] 95 (0, 0)) := by rw [hW3]; exact G2
      have e0 : W3.cell? ⟨w.heap.size, 0, none⟩ = some (.int .i32 x0) := by simp only [World.cell?, G3]; rfl
      have e1 : W3.cell? ⟨w.heap.size, 1, none⟩ = some (.int .i32 x1) := by simp only [World.cell?, G3]; rfl
      have e2 : W3.cell? ⟨w.heap.size, 2, none⟩ = some (.bool false) := by simp only [World.cell?, G3]; rfl
      rw [hf']
      clear hW3 HX
      go_wp2_with fail
      have HC2 : Hid ((C.setIfInBounds 1 (.int .i64 ((at_ + 4 * 2 : Nat) : Int)))[2]? = some (.slice va n vc)) := by
        unfold Hid
        rw [Array.getElem?_setIfInBounds_ne (by decide), HVP.out.2, HVP.out.1]
      have d1 : W3.cell? ⟨rb, 2, none⟩ = some (.slice va n vc) := by
        simp only [World.cell?, R3.hp]
        exact HC2.out
      have HK0 : Hid _ := H0.out W3 K3
      have HOWN : Hid (((W3.alloc (.cells #[.int .i32 x0, .int .i32 x1, .bool false] 95)).drew).ownsRow w0.heap.size 95 3 (.slice va n vc) n (pvs ps)) := by
        have h9 := HK0.out.2
        rw [HVP.out.1] at h9
        exact (h9.alloc _).drew
      have hbx : w0.heap.size ≤ W3.heap.size := R3.up.size
      have hlx : rb < W3.heap.size := (Array.getElem?_eq_some_iff.1 R3.hp).1
      have hgx : w.heap.size < W3.heap.size := by have := World.block_lt_of_cell? W3 _ e0; exact this
      have HR : Hid _ := R3
      have HGO : Hid (∀ g cap V, V.ownsRow w0.heap.size 95 3 (.slice (some ⟨g, 0, none⟩) (n + 1) cap) (n + 1) (pvs ps ++ [.int .i32 x0, .int .i32 x1, .bool false]) → ((W3.alloc (.cells #[.int .i32 x0, .int .i32 x1, .bool false] 95)).drew).grownBy V (Value.slice va n vc).ownBlock → (V.cell? ⟨rb, 2, none⟩ = some (.slice va n vc) ∧ V.frozen? ⟨rb, 2, none⟩ = false) ∧ RD w0 rb vb B (at_ + 4 * 2) (C.setIfInBounds 1 (.int .i64 ((at_ + 4 * 2 : Nat) : Int))) V ∧ Kb (fun x => x = rb ∨ vp.ownBlock = some x) w V) := fun g cap V h1 h2 => by
        have hne := ne_rb HOWN.out (show ((W3.alloc (.cells #[.int .i32 x0, .int .i32 x1, .bool false] 95)).drew).heap[rb]? = _ from ((Up.refl W3).alloc _).heap HR.out.hp) (by decide)
        have hlt9 : rb < ((W3.alloc (.cells #[.int .i32 x0, .int .i32 x1, .bool false] 95)).drew).heap.size := (Array.getElem?_eq_some_iff.1 (show ((W3.alloc (.cells #[.int .i32 x0, .int .i32 x1, .bool false] 95)).drew).heap[rb]? = _ from ((Up.refl W3).alloc _).heap HR.out.hp)).1
        have hp9 : V.heap[rb]? = some (.cells (C.setIfInBounds 1 (.int .i64 ((at_ + 4 * 2 : Nat) : Int))) 69 (0, 0)) := by
          rw [h2.block rb hlt9 (fun e => hne e.symm)]
          exact ((Up.refl W3).alloc _).heap HR.out.hp
        refine ⟨⟨by simp only [World.cell?, hp9]; exact HC2.out, seven_f hp9 2⟩, ⟨hp9, HR.out.sz, HR.out.v0, HR.out.v1, ?_, HR.out.le, HR.out.bl, HR.out.byt, HR.out.len, HR.out.at_le⟩, ⟨fun g' o hg hx => ?_, ?_⟩⟩
        · exact Below.grown ((HR.out.up.alloc _).drew) h2 (by simp; omega) (fun k hk => (HOWN.out.lt k hk).1)
        · have h8 := ((Up.refl W3).alloc (.cells #[.int .i32 x0, .int .i32 x1, .bool false] 95)).heap (HK0.out.1.1 g' o hg hx)
          rw [h2.block g' (Array.getElem?_eq_some_iff.1 h8).1 (fun e => hx (.inr (by rw [HVP.out.1, e])))]
          exact h8
        · have h7 := HK0.out.1.2
          have h8 := h2.size
          simp at h8
          omega
      refine (fun key : ∀ g cap V, V.ownsRow w0.heap.size 95 3 (.slice (some ⟨g, 0, none⟩) (n + 1) cap) (n + 1) (pvs ps ++ [.int .i32 x0, .int .i32 x1, .bool false]) → ((W3.alloc (.cells #[.int .i32 x0, .int .i32 x1, .bool false] 95)).drew).grownBy V (Value.slice va n vc).ownBlock → (?G4 : Nat → Nat → World → Prop) g cap V => ?main4) ?kp4
      case main4 =>
        go_region_law ((refine step_append_lies _ (by rfl) _ _ _ (by rfl) w0.heap.size 95 iP _ 3 12 Tryz.underlying25 hiP z0 z1 z2 rfl (by omega) (.slice va n vc) n (pvs ps) (by rfl) HOWN.out ⟨W3.heap.size, 0, none⟩ 1 1 [.int .i32 x0, .int .i32 x1, .bool false] (by rfl) (by rfl) (World.news_of_block (cs := #[.int .i32 x0, .int .i32 x1, .bool false]) (t := 95) (fr := (0, 0)) (show ((W3.alloc (.cells #[.int .i32 x0, .int .i32 x1, .bool false] 95)).drew).heap[W3.heap.size]? = some (.cells #[.int .i32 x0, .int .i32 x1, .bool false] 95 (0, 0)) from heap_alloc_new W3 _)) (by simp [Value.oneCell']) (by omega) (by unfold maxLen; omega) (by omega) (by simp; omega) (W3.heap.size + 1) (by simp) ?_; intro gg gcap V hown1 hgrow hat hlt9; obtain ⟨q1, q2⟩ := (HGO.out gg gcap V hown1 hgrow).1))
        all_goals exact key _ _ _ hown1 hgrow
      case kp4 =>
        intro g cap V hown1 hgrow
        obtain ⟨-, r9, k9⟩ := HGO.out g cap V hown1 hgrow
        have HF : Hid (RD w0 rb vb B (at_ + 4 * 2) ((C.setIfInBounds 1 (.int .i64 ((at_ + 4 * 2 : Nat) : Int))).setIfInBounds 2 (.slice (some ⟨g, 0, none⟩) (n + 1) cap)) (V.setCell ⟨rb, 2, none⟩ (.slice (some ⟨g, 0, none⟩) (n + 1) cap)) ∧ (V.setCell ⟨rb, 2, none⟩ (.slice (some ⟨g, 0, none⟩) (n + 1) cap)).ownsRow w0.heap.size 95 3 (.slice (some ⟨g, 0, none⟩) (n + 1) cap) (n + 1) (pvs ps ++ [.int .i32 x0, .int .i32 x1, .bool false]) ∧ Kb (fun x => x = rb ∨ vp.ownBlock = some x) w (V.setCell ⟨rb, 2, none⟩ (.slice (some ⟨g, 0, none⟩) (n + 1) cap))) :=
          ⟨r9.put 2 _ (by decide), own_rb hown1 r9.hp (by decide), Kb.trans k9 (Kb.set (w := V) 0 (.inl rfl))⟩
        clear r9 k9 hown1 hgrow
        go_wp2
        rw [HPo.out, HRP.out]
        refine ⟨rfl, (C.setIfInBounds 1 (.int .i64 ((at_ + 4 * 2 : Nat) : Int))).setIfInBounds 2 (.slice (some ⟨g, 0, none⟩) (n + 1) cap), ?_⟩
        have h8 := HF.out.1.at_le
        rw [show B.length - (B.length - (at_ + 4 * 2)) = at_ + 4 * 2 by omega]
        exact HF.out.1
end IM
end Go.Proofs.YtmpamcdobhiipaaGreatDoor
