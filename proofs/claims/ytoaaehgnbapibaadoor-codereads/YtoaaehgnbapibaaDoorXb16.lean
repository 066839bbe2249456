
/-
  One more list of instructions into the bag.
-/
import Derived.Test.YtoaaehgnbapibaaDoorBb
namespace Go.Proofs.YtoaaehgnbapibaaDoor.BG
open Go.RowKit
attribute [local go_sem ↓] Go.wp_at_zero Go.wp_at_succ

theorem newCell1 (W : World) (x : Value) (t : Nat) : ∀ j u, [x][j]? = some u → (W.alloc (.cells #[x] t)).cell? ((⟨W.heap.size, 0, none⟩ : Addr).add j) = some u := newCell W x t
theorem bag_frozen {W : World} {gb : Nat} {c : Array Value} {t : Nat} (h : W.heap[gb]? = some (.cells c t (0, 0))) (k : Nat) : W.frozen? ⟨gb, k, none⟩ = false := seven_f h k
theorem upd_same {A : Type} (f : Nat → A) (k : Nat) : upd f k (f k) = f := by
  funext i
  by_cases h : i = k
  · subst h; simp [upd]
  · simp [upd, h]
/- what the append and the store leave -/
theorem apost_of {w W1 : World} {gb B k t1 : Nat} {f : Nat → Value} {L : VL} {x v' : Value} {m : Nat} {o : Obj} (hk : k < 21) (hb : w.heap[gb]? = some (.cells (bagA f) tBag (0, 0))) (hr : w.ownsRow B t1 1 (f k) L.length (L.map (·.1))) (hbb : gb < B) (hbs : B ≤ w.heap.size) (hl : L.length < 400)
    (hown : W1.ownsRow B t1 1 v' (L.length + 1) (L.map (·.1) ++ [x])) (hg : (w.alloc o).grownBy W1 (f k).ownBlock) (hln : LiesNew (f k) v' (w.alloc o)) : APost gb B k t1 f L (x, m) w (.returned (.tuple #[])) (W1.setCell ⟨gb, k, none⟩ v') := by
  have hgl : gb < w.heap.size := by omega
  have h1 : W1.heap[gb]? = some (.cells (bagA f) tBag (0, 0)) := by
    rw [hg.block gb (by simp; omega) (fun e => by have := row_ge hr e.symm; omega), Below.heap_alloc _ _ _ hgl]
    exact hb
  refine ⟨rfl, v', L ++ [(x, m)], ?_, ?_, .inr ⟨rfl, hl⟩, ⟨⟨hg.os, hg.tape, hg.output⟩, by have := hg.size; simp at this ⊢; omega, fun g hg1 hg2 hg3 => ?_⟩, fun g hg => ?_⟩
  · rw [set_cells h1, bagA_set f k hk]
  · rw [List.length_append, List.map_append]
    have := hown
    refine own_block (W' := W1.setCell ⟨gb, k, none⟩ v') this fun g hg => ?_
    exact Below.heap_setCell _ _ _ _ (by show g ≠ gb; have := row_ge hown hg; omega)
  · rw [Below.heap_setCell _ _ _ _ hg2, hg.block g (by simp; omega) (fun e => hg3 e.symm), Below.heap_alloc _ _ _ hg1]
  · rcases hln with h9 | ⟨g9, h9, h8⟩
    · exact .inl (by rw [← h9]; exact hg)
    · rw [h9] at hg
      have e9 : g9 = g := by simpa using hg
      subst e9
      exact .inr (by simp at h8; omega)

theorem infoAInstrs : (Tryd.prog.info? 32).map (fun i => (i.zero, i.size, i.bytes)) = some (some (.slice none 0 0), 1, 24) := by kernel_rfl
set_option maxRecDepth 100000 in
set_option maxHeartbeats 1000000 in
theorem addInstrs0 (gb B : Nat) (f : Nat → Value) (L : VL) (ad : Option Addr) (m c : Nat) (w : World) (hb : w.heap[gb]? = some (.cells (bagA f) tBag (0, 0))) (hr : w.ownsRow B 32 1 (f 11) L.length (L.map (·.1))) (hbb : gb < B) (hbs : B ≤ w.heap.size) (hL : L.length ≤ 400) :
    Calls Tryd.prog 22 #[.pointer (some ⟨gb, 0, none⟩), .slice ad m c] w (APost gb B 11 32 f L (.slice ad m c, m) w) := by
  obtain ⟨iI, hiI, z0, z1, z2⟩ := info_parts infoAInstrs
  obtain ⟨Post, hPost⟩ : ∃ P : Ending → World → Prop, P = APost gb B 11 32 f L (.slice ad m c, m) w := ⟨_, rfl⟩
  rw [← hPost]
  have HPost : Hid (Post = APost gb B 11 32 f L (.slice ad m c, m) w) := hPost
  clear hPost
  obtain ⟨va, vcap, hv⟩ := row_val hr
  have c1 := bag_cell hb 11 (by decide)
  rw [hv] at c1
  have f1 := bag_frozen hb 11
  by_cases hl : L.length < 400
  · have hlt : (L.length : Int) < 400 := by omega
    have hrA : (w.alloc (.cells #[.slice ad m c] 32)).ownsRow B 32 1 (f 11) L.length (L.map (·.1)) := row_up hr ((Up.refl _).alloc _)
    rw [hv] at hrA
    have HF : Hid (∀ v' W1, W1.ownsRow B 32 1 v' (L.length + 1) (L.map (·.1) ++ [.slice ad m c]) → (w.alloc (.cells #[.slice ad m c] 32)).grownBy W1 (Value.slice va L.length vcap).ownBlock → LiesNew (.slice va L.length vcap) v' (w.alloc (.cells #[.slice ad m c] 32)) → Post (.returned (.tuple #[])) (W1.setCell ⟨gb, 11, none⟩ v') ∧ W1.cell? ⟨gb, 11, none⟩ = some (.slice va L.length vcap) ∧ W1.frozen? ⟨gb, 11, none⟩ = false) := fun v' W1 h1 h2 h8 => by
      rw [HPost.out]
      have hgl : gb < w.heap.size := by omega
      have h3 : W1.heap[gb]? = some (.cells (bagA f) tBag (0, 0)) := by
        rw [h2.block gb (by simp; omega) (fun e => by rw [← hv] at e; have := row_ge hr e.symm; omega), Below.heap_alloc _ _ _ hgl]
        exact hb
      exact ⟨apost_of (by decide) hb hr hbb hbs hl h1 (by rw [hv]; exact h2) (by rw [hv]; exact h8), by rw [← hv]; exact bag_cell h3 11 (by decide), bag_frozen h3 11⟩
    have HNw : Hid _ := newCell1 w (.slice ad m c) 32
    have HA : Hid _ := hrA
    clear hb hr hrA hv
    go_enter Tryd.func22, Tryd.ntmps22
    go_wp2_with (at_builtin; go_loud (refine wpList_append_apart _ (by rfl) (.tmp 14) (.tmp 16) 50 (by rfl) B 32 iI (.slice none 0 0) 1 24 Tryd.underlying50 hiI z0 z1 z2 (by rfl) (by decide) (.slice va L.length vcap) L.length (L.map fun y : Value × Nat => y.1) (by rfl) HA.out ⟨w.heap.size, 0, none⟩ 1 [.slice ad m c] (by rfl) (by rfl) HNw.out (oneSl _ _ _) (by unfold maxLen; omega) (by omega) (by simp; omega) ?_; intro v' W1 a1 a2 a3 a4 a5; obtain ⟨hF, d1, e1⟩ := HF.out v' W1 a1 a2 a4; have HF2 : Hid _ := hF; obtain ⟨xa, xk, hx⟩ := row_val a1; subst hx; clear a1 a2 a3 a4 a5 hF))
    first | exact HF2.out | (go_end0; exact HF2.out)
  · have hlt : ¬ (L.length : Int) < 400 := by omega
    have HF : Hid (Post (.returned (.tuple #[])) w) := by
      unfold Hid
      rw [HPost.out]
      exact ⟨rfl, f 11, L, by rw [upd_same]; exact hb, hr, .inl rfl, ⟨⟨rfl, rfl, rfl⟩, Nat.le_refl _, fun _ _ _ _ => rfl⟩, fun _ h => .inl h⟩
    clear hb hr hv
    go_enter Tryd.func22, Tryd.ntmps22
    go_wp2
    first | exact HF.out | (go_end0; exact HF.out)
theorem addInstrs_ (gb B lo : Nat) (f : Nat → Value) (L : Nat → VL) (v : Value) (m : Nat) (w : World) (h : BagG w lo gb B f L) (hx : (∃ xs, w.ownsRow lo 28 (sT 11) v m xs) ∧ m ≤ 4294967296 ∧ ∀ g, v.ownBlock = some g → g < gb ∧ ¬ Blks (L 11) g) :
    Calls Tryd.prog 22 #[.pointer (some ⟨gb, 0, none⟩), v] w (GPost gb lo B f L (fun j g => j = 11 ∧ v.ownBlock = some g) [11] w) := by
  obtain ⟨xs, hxs⟩ := hx.1
  obtain ⟨ad, c, rfl⟩ := row_val hxs
  exact (addInstrs0 gb B f (L 11) ad m c w h.blk (h.kinds 11 (by decide)).row h.lt.1 h.lt.2 (h.kinds 11 (by decide)).len).mono fun e w' hp => add_fin (x := (.slice ad m c, m)) h (by decide) hx hp

end Go.Proofs.YtoaaehgnbapibaaDoor.BG
