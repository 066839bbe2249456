/-
  One more list into the bag.
-/
import Derived.Test.YthnpdlbcdaodkaaDoorKeep
namespace Go.Proofs.YthnpdlbcdaodkaaDoor
open Go.RowKit

theorem infoInts : (Tryd.prog.info? 65).map (fun i => (i.zero, i.size, i.bytes)) = some (some (.slice none 0 0), 1, 24) := by kernel_rfl
/- what changes: the bag's block, the row of lists, new blocks -/
def Two (b : Nat) (v : Value) (w w' : World) : Prop := (w'.os = w.os ∧ w'.tape = w.tape ∧ w'.output = w.output) ∧ w.heap.size ≤ w'.heap.size ∧ ∀ g, g < w.heap.size → g ≠ b → v.ownBlock ≠ some g → w'.heap[g]? = w.heap[g]?
def AddPost (b base n : Nat) (v u : Value) (vs : List Value) (w : World) (e : Ending) (w' : World) : Prop :=
  e = .returned (.tuple #[]) ∧ ∃ v', BagAt w' b v' ∧ w'.ownsRow base 65 1 v' (n + 1) (vs ++ [u]) ∧ Two b v w w'
theorem BagAt.set {W : World} {b : Nat} {v : Value} (h : BagAt W b v) (u : Value) : BagAt (W.setCell ⟨b, 1, none⟩ u) b u := by
  unfold BagAt at h ⊢
  simp only [World.setCell, Array.getElem?_modify]
  rw [h]
  simp
set_option maxRecDepth 100000 in
set_option maxHeartbeats 1000000 in
theorem addInts (b base n : Nat) (v : Value) (ad : Option Addr) (m c : Nat) (vs : List Value) (w : World) (h : BagAt w b v) (hr : w.ownsRow base 65 1 v n vs) (hn : n < 400) (hbb : b < base) (hbs : base ≤ w.heap.size) :
    Calls Tryd.prog 16 #[.pointer (some ⟨b, 0, none⟩), .slice ad m c] w (AddPost b base n v (.slice ad m c) vs w) := by
  obtain ⟨iI, hiI, z0, z1, z2⟩ := info_parts infoInts
  obtain ⟨Post, hPost⟩ : ∃ P : Ending → World → Prop, P = AddPost b base n v (.slice ad m c) vs w := ⟨_, rfl⟩
  rw [← hPost]
  have HPost : Hid (Post = AddPost b base n v (.slice ad m c) vs w) := hPost
  clear hPost
  obtain ⟨va, vcap, rfl⟩ := row_valB hr
  obtain ⟨c1, f1⟩ := h.ints
  have hlt : (n : Int) < 400 := by omega
  have hrA := hr.alloc (.cells #[.slice ad m c] 65)
  have HB : Hid (BagAt w b (.slice va n vcap)) := h
  have HR : Hid (w.ownsRow base 65 1 (.slice va n vcap) n vs) := hr
  have hbl : b < w.heap.size := (Array.getElem?_eq_some_iff.1 h).1
  have hfresh : (w.alloc (.cells #[.slice ad m c] 65)).cell? ⟨w.heap.size, 0, none⟩ = some (.slice ad m c) := by simp
  clear h hr
  go_enter Tryd.func16, Tryd.ntmps16
  go_wp2_with (at_builtin; refine wpList_append_keep _ rfl (.tmp 14) (.tmp 16) 33 rfl base 65 iI (.slice none 0 0) 24 Tryd.underlying33 hiI z0 z1 z2 rfl _ _ _ rfl hrA ⟨w.heap.size, 0, none⟩ 1 (.slice ad m c) rfl hfresh rfl ?c3 ?c4 ?c5 ?_)
  case c3 => unfold maxLen; omega
  case c4 => omega
  case c5 => simp; omega
  intro v' W1 hown hgrow hkept
  have hne : ∀ k, (Value.slice va n vcap).ownBlock = some k → base ≤ k := fun k hk => (HR.out.lt k hk).1
  have hb1 : BagAt W1 b (.slice va n vcap) := by
    have hB : Below base w W1 := Below.grown ((Below.refl _ w).alloc hbs _) hgrow (Nat.le_trans hbs (by simp)) hne
    unfold BagAt; rw [hB.block b hbb]; exact HB.out
  obtain ⟨d1, e1⟩ := hb1.ints
  have hrow2 := ownsRow_setCell_below hown (a := ⟨b, 1, none⟩) hbb v'
  have htwo : Two b (.slice va n vcap) w (W1.setCell ⟨b, 1, none⟩ v') := by
    refine ⟨⟨hgrow.os, hgrow.tape, hgrow.output⟩, by have := hgrow.size; simp at this ⊢; omega, fun g hg hgb hgv => ?_⟩
    rw [Below.heap_setCell _ _ _ _ hgb, hgrow.block g (by simp; omega) (fun e => hgv e.symm), Below.heap_alloc _ _ _ hg]
  have HF : Hid (AddPost b base n (.slice va n vcap) (.slice ad m c) vs w (.returned (.tuple #[])) (W1.setCell ⟨b, 1, none⟩ v')) := ⟨rfl, v', hb1.set v', hrow2, htwo⟩
  obtain ⟨va', vcap', rfl⟩ := row_valB hown
  clear hb1 hrow2 htwo hown hgrow hkept hrA HB HR
  go_wp2
  first | (rw [HPost.out]; exact HF.out) | (go_end0; rw [HPost.out]; exact HF.out)
end Go.Proofs.YthnpdlbcdaodkaaDoor
