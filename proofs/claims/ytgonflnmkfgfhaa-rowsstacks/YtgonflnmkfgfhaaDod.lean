
/-
  Done at both stacks: what it answers is laid behind what is held.
-/
import Derived.Test.YtgonflnmkfgfhaaDol
import Derived.Test.YtgonflnmkfgfhaaApE
namespace Go.Proofs.Ytgonflnmkfgfhaa
open Go.RowKit
attribute [local go_sem ↓] Go.wp_at_zero Go.wp_at_succ

namespace DS
open IN
/- one more is held: what stands behind it -/
theorem heldFacts {w w1 W4 : World} {hb base m hcap : Nat} {ha : Option Addr} {xs : List Value} {x v4 : Value} (u : Up w w1) (hc : w.heap[hb]? = some (.cells #[.slice ha m hcap] 30 (0, 0))) (hrow : w.ownsRow base 37 1 (.slice ha m hcap) m xs) (hbb : hb < base)
    (k : (w1.alloc (.cells #[x] 37)).grownBy W4 (Value.slice ha m hcap).ownBlock) (ho : W4.ownsRow base 37 1 v4 (m + 1) (xs ++ [x])) :
    (W4.cell? ⟨hb, 0, none⟩ = some (.slice ha m hcap) ∧ W4.frozen? ⟨hb, 0, none⟩ = false) ∧ (W4.setCell ⟨hb, 0, none⟩ v4).heap[hb]? = some (.cells #[v4] 30 (0, 0)) ∧ (W4.setCell ⟨hb, 0, none⟩ v4).ownsRow base 37 1 v4 (m + 1) (xs ++ [x]) ∧ LIS.Two hb (.slice ha m hcap) w (W4.setCell ⟨hb, 0, none⟩ v4) := by
  have ua : Up w (w1.alloc (.cells #[x] 37)) := u.alloc _
  have hh := ua.heap hc
  have hl := (Array.getElem?_eq_some_iff.1 hh).1
  have h4 : W4.heap[hb]? = some (.cells #[.slice ha m hcap] 30 (0, 0)) := by
    rw [k.block hb hl (fun e => by have := (hrow.lt hb e.symm).1; omega)]; exact hh
  refine ⟨⟨by simp [World.cell?, h4], by simp [World.frozen?, h4]⟩, ?_, RS.row_setB ho hbb, LIS.two_set (LIS.two_grown (LIS.two_up ua) k rfl) 0 _⟩
  simp only [World.setCell, Array.getElem?_modify]; rw [h4]; simp
set_option maxRecDepth 100000 in
set_option maxHeartbeats 2000000 in
theorem does_done_nil (hb base m hcap : Nat) (ha : Option Addr) (xs : List Value) (on n : Int) (w : World) (hc : w.heap[hb]? = some (.cells #[.slice ha m hcap] 30 (0, 0))) (hrow : w.ownsRow base 37 1 (.slice ha m hcap) m xs) (hbb : hb < base) (hbs : base ≤ w.heap.size) (hm : m ≤ 100000) :
    Calls Try.prog 8 #[.pointer none, .pointer none, op 3 on n, .pointer (some ⟨hb, 0, none⟩)] w fun e w' => e = .returned (.bool true) ∧ ∃ ha' hcap', w'.heap[hb]? = some (.cells #[.slice ha' (m + 1) hcap'] 30 (0, 0)) ∧ w'.ownsRow base 37 1 (.slice ha' (m + 1) hcap') (m + 1) (xs ++ [.slice none 0 0]) ∧ LIS.Two hb (.slice ha m hcap) w w' := by
  obtain ⟨iS, hiS, y0, y1, y2⟩ := info_parts AE.infoS
  have HL : Hid _ := LIS.done_nil
  have HF : Hid (∀ w1 W4 v4, Up w w1 → (w1.alloc (.cells #[.slice none 0 0] 37)).grownBy W4 (Value.slice ha m hcap).ownBlock → W4.ownsRow base 37 1 v4 (m + 1) (xs ++ [.slice none 0 0]) → _) := fun w1 W4 v4 a1 a2 a3 => heldFacts a1 hc hrow hbb a2 a3
  have c0 : w.cell? ⟨hb, 0, none⟩ = some (.slice ha m hcap) := by simp [World.cell?, hc]
  unfold op
  go_enter Try.func8, Try.ntmps8
  go_wp2_with fail
  refine Calls.mono (HL.out _) ?_
  rintro e w1 ⟨rfl, u⟩
  have u1 : Up w w1 := Up.trans ((Up.refl _).alloc _) u
  have HU : Hid (Up w w1) := u1
  have d0 := u1.cell c0
  have d1 : w1.frozen? ⟨hb, 0, none⟩ = false := by simp [World.frozen?, u1.heap hc]
  have HR : Hid (w1.ownsRow base 37 1 (.slice ha m hcap) m xs) := row_up hrow u1
  have hz1 : base ≤ w1.heap.size := Nat.le_trans hbs u1.size
  clear u u1 c0 hc hrow
  go_wp2_with (at_builtin; refine wpList_append_own _ rfl (.tmp 82) (.tmp 84) 30 rfl base 37 iS (.slice none 0 0) 1 24 Try.underlying30 hiS y0 y1 y2 rfl (by decide) _ _ _ rfl (HR.out.alloc _) ⟨w1.heap.size, 0, none⟩ 1 1 [.slice none 0 0] rfl rfl (World.news_of_block (cs := #[.slice none 0 0]) (heap_alloc_new w1 _)) (by simp [Value.oneCell']) (by unfold maxLen; omega) (by omega) (by simp; omega) ?_; intro v4 W4 hown4 hgrow4 hkeep4; obtain ⟨a4, c4, hv4⟩ := row_val hown4; obtain ⟨⟨k0, kf⟩, kk⟩ := HF.out _ _ _ HU.out hgrow4 hown4; subst hv4; have HK : Hid _ := kk; clear hown4 hgrow4 hkeep4 kk)
  go_ret
  exact ⟨rfl, _, _, HK.out⟩
end DS
end Go.Proofs.Ytgonflnmkfgfhaa
