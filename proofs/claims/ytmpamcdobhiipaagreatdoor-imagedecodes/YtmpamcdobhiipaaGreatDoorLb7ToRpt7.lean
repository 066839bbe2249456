/-
  What the laws of images share, no program but sizes.
-/
import Derived.Test.YtmpamcdobhiipaaGreatDoorSm7ToLs7
import Derived.Test.YtmpamcdobhiipaaGreatDoorSzToEs
import Derived.Test.YtmpamcdobhiipaaGreatDoorSaQ
import Derived.Test.YtmpamcdobhiipaaGreatDoorEgQ
namespace Go.Proofs.YtmpamcdobhiipaaGreatDoor
open Go.RowKit

namespace IM
open Go.Proofs.YtmpamcdobhiipaaGreatDoor.ST
def szS (s : Stt) : Nat := s.ps.length + s.cs.length + szF s.zs s.zs.length
theorem szS_le {s : Stt} (h : Far s) : szS s ≤ 1000000000000000 := by
  have hle := szF_le s.zs s.zs.length h.2.2.2 (by have := h.2.2.1; omega)
  have := h.1
  have := h.2.1
  unfold szS
  omega
theorem small_sz {s : Stt} (h : szS s ≤ 4194304) : Small s := by
  refine small_of ?_
  have hsz := szF_is s.zs s.zs.length
  unfold szS at h
  unfold ST.lenS flat
  omega
theorem flatL_le {A : Type} (f : A → List Int) (K : Nat) : ∀ (l : List A), (∀ x ∈ l, (f x).length ≤ K) → (l.flatMap f).length ≤ l.length * K
  | [], _ => by simp
  | x :: l, h => by
    have h1 := flatL_le f K l (fun y hy => h y (List.mem_cons_of_mem _ hy))
    have h2 := h x List.mem_cons_self
    rw [List.flatMap_cons, List.length_append, List.length_cons, Nat.add_mul]
    omega
theorem img_le {s : Stt} (h : RS s) : (img s).length ≤ 200000000 := by
  have h1 := flatL_le plyI 9 s.ps (fun p _ => by simp [plyI, by4, by1])
  have h2 := flatL_le crdI 19 s.cs (fun c _ => by simp [crdI, by4, by1, by2])
  have h3 := flatL_le zonI 131074 s.zs (fun z hz => by
    have h4 := (h.zs z hz).1
    have h5 := flatL_le by2 2 z (fun _ _ => by simp [by2])
    unfold zonI
    rw [List.length_append]
    have : (by2 (z.length : Int)).length = 2 := by simp [by2]
    omega)
  have := h.nps
  have := h.ncs
  have := h.nzs
  unfold img
  simp only [List.length_append, mk, by1, by2, by4, List.length_cons, List.length_nil]
  omega
theorem enc_le {s : Stt} (ht : R4 s.turn) : (encB s).length ≤ 200000000 := by
  unfold encB
  split
  · exact img_le (rs_of (by assumption) ht)
  · simp
theorem byt_encB (s : Stt) : Byt (encB s) := by
  unfold encB
  split
  · exact byt_img s
  · intro c hc; cases hc
theorem bts_len (l : List Int) : (bts l).length = l.length := by simp [bts]
theorem bts_inj {a b : List Int} (ha : Byt a) (hb : Byt b) (h : bts a = bts b) : a = b := by
  have hl : a.length = b.length := by rw [← bts_len a, ← bts_len b, h]
  apply List.ext_getElem hl
  intro i h1 h2
  have e1 := bts_getD ha i h1
  have e2 := bts_getD hb i h2
  rw [h] at e1
  rw [e1] at e2
  simpa [List.getD, h1, h2] using e2
theorem eqS_iff (a b : Stt) : eqS a b = true ↔ a = b := by
  constructor
  · intro h
    simp only [eqS, Bool.and_eq_true, decide_eq_true_eq] at h
    obtain ⟨⟨⟨⟨⟨⟨h1, h2⟩, h3⟩, h4⟩, h5⟩, h6⟩, h7⟩ := h
    cases a; cases b
    simp_all
  · rintro rfl
    simp [eqS]
theorem samB_iff (a b : Stt) : samB a b = true ↔ a = b := by
  constructor
  · intro h
    simp only [samB, hdB, Bool.and_eq_true, decide_eq_true_eq] at h
    cases a; cases b
    simp_all
  · rintro rfl
    simp [samB, hdB]
/- two states that may be: their images and they are the same at once -/
theorem same_all {a b : Stt} (ha : ff a = none) (hb : ff b = none) (ta : R4 a.turn) (tb : R4 b.turn) : ∃ o : Bool, decide (bts (encB a) = bts (encB b)) = o ∧ eqS a b = o ∧ samB a b = o ∧ (o = true → sumN a = sumN b) := by
  by_cases h : a = b
  · subst h
    exact ⟨true, by simp, (eqS_iff _ _).2 rfl, (samB_iff _ _).2 rfl, fun _ => rfl⟩
  · refine ⟨false, ?_, ?_, ?_, fun h => by cases h⟩
    · rw [decide_eq_false_iff_not, (enc_img ha).1, (enc_img hb).1]
      intro h9
      exact h (img_inj (rs_of ha ta) (rs_of hb tb) (bts_inj (byt_img a) (byt_img b) h9))
    · rw [Bool.eq_false_iff]; exact fun h9 => h ((eqS_iff _ _).1 h9)
    · rw [Bool.eq_false_iff]; exact fun h9 => h ((samB_iff _ _).1 h9)
theorem okI_no {s : Stt} (h : ff s ≠ none) : okI s = 10 := by unfold okI; rw [if_neg h]
/- a state that was handed in, as a row of cells -/
theorem stl_val {W : World} {v : Value} {s : Stt} (h : StL W v s) : ∃ a1 k1 a2 k2 a3 k3, v = .agg #[.slice a1 s.ps.length k1, .slice a2 s.cs.length k2, .slice a3 s.zs.length k3, .int .i32 s.turn, .int .i64 s.whose, .int .i8 s.fin, .int .i64 s.winner] := by
  obtain ⟨vp, vc, vz, hv, h1, h2, h3⟩ := h
  obtain ⟨a1, k1, rfl, -, -⟩ := lc_at h1
  obtain ⟨a2, k2, rfl, -, -⟩ := lc_at h2
  obtain ⟨a3, k3, rfl, -, -⟩ := zl_at h3
  exact ⟨_, _, _, _, _, _, hv⟩
end IM
end Go.Proofs.YtmpamcdobhiipaaGreatDoor
/-
  The document's put.
-/
namespace Go.Proofs.YtmpamcdobhiipaaGreatDoor
open Go.RowKit
attribute [local go_sem ↓] Go.wp_at_zero Go.wp_at_succ

namespace IM
open Go.Proofs.YtmpamcdobhiipaaGreatDoor.ST
/- what is no list of bytes stays; what lies below base stays -/
structure Tk (base : Nat) (w w' : World) : Prop where
  ty : ∀ (g : Nat) cs t f, w.heap[g]? = some (.cells cs t f) → t ≠ 5 → w'.heap[g]? = some (.cells cs t f)
  sz : w.heap.size ≤ w'.heap.size
  up : ∀ w0 : World, Up w0 w → w0.heap.size ≤ base → Up w0 w'
theorem Tk.refl (base : Nat) (w : World) : Tk base w w := ⟨fun _ _ _ _ h _ => h, Nat.le_refl _, fun _ h _ => h⟩
theorem Tk.trans {base : Nat} {a b c : World} (h : Tk base a b) (k : Tk base b c) : Tk base a c := ⟨fun g cs t f h1 h2 => k.ty g cs t f (h.ty g cs t f h1 h2) h2, Nat.le_trans h.sz k.sz, fun w0 h1 h2 => k.up w0 (h.up w0 h1 h2) h2⟩
theorem Tk.of_up {base : Nat} {a b : World} (h : Up a b) : Tk base a b := ⟨fun _ _ _ _ h1 _ => h.heap h1, h.size, fun _ h1 _ => h1.trans h⟩
theorem Tk.less {b b' : Nat} {w w' : World} (h : Tk b w w') (hb : b' ≤ b) : Tk b' w w' := ⟨h.ty, h.sz, fun w0 h1 h2 => h.up w0 h1 (by omega)⟩
def byn (n : Nat) (x : Int) : List Int := (List.range n).map fun k => x / 256 ^ (n - 1 - k) % 256
theorem byn1 (x : Int) : byn 1 x = by1 x := by simp [byn, by1, List.range_succ]
theorem byn2 (x : Int) : byn 2 x = by2 x := by simp [byn, by2, List.range_succ]
theorem byn4 (x : Int) : byn 4 x = by4 x := by simp [byn, by4, List.range_succ]
theorem byn_take (n k : Nat) (x : Int) (h : k < n) : (byn n x).take (k + 1) = (byn n x).take k ++ [x / 256 ^ (n - 1 - k) % 256] := by
  rw [List.take_add_one]
  congr 1
  simp [byn, h]
/- a row of bytes grown by an append of this call -/
theorem tk_grown {base n : Nat} {W V : World} {v : Value} {xs : List Value} {o : Obj} (ho : W.ownsRow base 5 1 v n xs) (hb : base ≤ W.heap.size) (hg : (W.alloc o).grownBy V v.ownBlock) : Tk base W V := by
  have ho' := World.ownsRow.alloc ho o
  refine ⟨fun g cs t f h1 h2 => ?_, ?_, fun w0 h1 h2 => ?_⟩
  · have hU : Up W (W.alloc o) := (Up.refl _).alloc _
    have h3 := hU.heap h1
    rw [hg.block g (Array.getElem?_eq_some_iff.1 h3).1 (fun e => ?_)]
    · exact h3
    · rcases ho.2 with ⟨hv, -⟩ | ⟨g', cap, cur, hv, -, hc, -⟩
      · rw [hv] at e; cases e
      · rw [hv] at e
        have e' : g = g' := by simpa [Value.ownBlock] using e
        subst e'
        rw [hc] at h1
        cases h1
        exact h2 rfl
  · have := hg.size
    have : W.heap.size ≤ (W.alloc o).heap.size := by simp
    omega
  · exact Below.grown (h1.alloc o) hg (by simp; omega) (fun k hk => Nat.le_trans h2 (World.ownsRow.lt ho' k hk).1)
theorem shr_byte (x : Int) : ∀ m : Nat, m ≤ 3 → IntKind.u64.wrap x / 2 ^ (8 * m) % 256 = x / 256 ^ m % 256
  | 0, _ => by
    have : IntKind.u64.wrap x = x % 18446744073709551616 := by simp [IntKind.wrap, IntKind.bits, IntKind.signed]
    rw [this, show (2 : Int) ^ (8 * 0) = 1 by decide, show (256 : Int) ^ 0 = 1 by decide]; omega
  | 1, _ => by
    have : IntKind.u64.wrap x = x % 18446744073709551616 := by simp [IntKind.wrap, IntKind.bits, IntKind.signed]
    rw [this, show (2 : Int) ^ (8 * 1) = 256 by decide, show (256 : Int) ^ 1 = 256 by decide]; omega
  | 2, _ => by
    have : IntKind.u64.wrap x = x % 18446744073709551616 := by simp [IntKind.wrap, IntKind.bits, IntKind.signed]
    rw [this, show (2 : Int) ^ (8 * 2) = 65536 by decide, show (256 : Int) ^ 2 = 65536 by decide]; omega
  | 3, _ => by
    have : IntKind.u64.wrap x = x % 18446744073709551616 := by simp [IntKind.wrap, IntKind.bits, IntKind.signed]
    rw [this, show (2 : Int) ^ (8 * 3) = 16777216 by decide, show (256 : Int) ^ 3 = 16777216 by decide]; omega
def PutP (base : Nat) (B : List Int) (w : World) (x : Ending) (w' : World) : Prop := ∃ v, x = .returned v ∧ w'.ownsRow base 5 1 v B.length (bvs B) ∧ Tk base w w'
end IM
end Go.Proofs.YtmpamcdobhiipaaGreatDoor
