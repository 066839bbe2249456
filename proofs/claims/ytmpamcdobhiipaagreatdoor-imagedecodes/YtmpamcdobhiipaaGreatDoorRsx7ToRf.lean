/-
  The document's reader, no program: what is still to be read; what stands in memory while a state is read.
-/
import Derived.Test.YtmpamcdobhiipaaGreatDoorRhd7Q
import Derived.Deep.Cut
import Derived.Handy
import Derived.Test.YtmpamcdobhiipaaGreatDoorWhToCt
namespace Go.Proofs.YtmpamcdobhiipaaGreatDoor
open Go.RowKit

namespace IM
open Go.Proofs.YtmpamcdobhiipaaGreatDoor.ST
/- either a fault was found, or K is still to be read from the place p on -/
def Sx (B : List Int) (p : Nat) (bad : Bool) (K : Rdr Stt) : Prop := if bad = true then rdS B = .error (B.length - p) else rdS B = K (B.drop p)
theorem Sx.as {B : List Int} {p : Nat} {bad : Bool} {K K' : Rdr Stt} (h : Sx B p bad K) (hk : bad = false → K = K') : Sx B p bad K' := by
  unfold Sx at *
  cases bad with
  | true => exact h
  | false => rw [if_neg (by decide)] at *; rw [← hk rfl]; exact h
theorem bnd_assoc {α β γ : Type} (p : Rdr α) (f : α → Rdr β) (g : β → Rdr γ) : bnd (bnd p f) g = bnd p (fun x => bnd (f x) g) := by
  funext l
  unfold bnd
  cases p l with
  | error r => rfl
  | ok v => rfl
theorem bnd_ret {α β : Type} (x : α) (f : α → Rdr β) : bnd (ret x) f = f x := rfl
theorem sx_step {α : Type} {B : List Int} {p : Nat} {bad : Bool} {n : Nat} {q : Rdr α} {g : Int → α} {f : α → Rdr Stt} (hq : ∀ i, q (B.drop i) = if i + n ≤ B.length then .ok (g (rv B i n), B.drop (i + n)) else .error (B.length - i)) (h : Sx B p bad (bnd q f)) : Sx B (na B p bad n) (nb B p bad n) (f (g (nv B p bad n))) := by
  unfold Sx nv nb na at *
  cases bad with
  | true => simpa using h
  | false =>
    rw [if_neg (by decide)] at h
    simp only [Bool.false_eq_true, ↓reduceIte, Bool.false_or, Bool.not_eq_eq_eq_not, Bool.not_true, decide_eq_false_iff_not]
    by_cases hk : p + n ≤ B.length
    · rw [if_neg (by omega), if_pos hk, h, bnd_go (x := g (rv B p n)) (l1 := B.drop (p + n)) (by rw [hq, if_pos hk])]
    · rw [if_pos hk, if_neg hk, h, bnd_no (r := B.length - p) (by rw [hq, if_neg hk])]
theorem sx1 {B : List Int} {p : Nat} {bad : Bool} {f : Int → Rdr Stt} (h : Sx B p bad (bnd num1 f)) : Sx B (na B p bad 1) (nb B p bad 1) (f (nv B p bad 1)) := sx_step (g := id) (num1_at B) h
theorem sx2 {B : List Int} {p : Nat} {bad : Bool} {f : Int → Rdr Stt} (h : Sx B p bad (bnd num2 f)) : Sx B (na B p bad 2) (nb B p bad 2) (f (nv B p bad 2)) := sx_step (g := id) (num2_at B) h
theorem sx4 {B : List Int} {p : Nat} {bad : Bool} {f : Int → Rdr Stt} (h : Sx B p bad (bnd sg4 f)) : Sx B (na B p bad 4) (nb B p bad 4) (f (sg (nv B p bad 4))) := sx_step (g := sg) (sg4_at B) h
theorem sxf {B : List Int} {p : Nat} {bad : Bool} {f : Bool → Rdr Stt} (hp : p ≤ B.length) (h : Sx B p bad (bnd flag f)) : Sx B (na B p (ob B p bad) 1) (nb B p (ob B p bad) 1) (f (nv B p (ob B p bad) 1 == 1)) := by
  unfold Sx at *
  cases bad with
  | true =>
    have h1 : ob B p true = true := rfl
    rw [h1]
    unfold nb na
    simpa using h
  | false =>
    rw [if_neg (by decide)] at h
    have hf := flag_at B p hp
    unfold fok at hf
    by_cases hlt : p < B.length
    · rw [decide_eq_true hlt, Bool.true_and] at hf
      by_cases h1 : B.getD p 0 ≤ 1
      · rw [decide_eq_true h1, if_pos rfl] at hf
        have h2 : ob B p false = false := by unfold ob; rw [decide_eq_false (show ¬ 1 < B.getD p 0 by omega)]; simp
        have h3 : nb B p false 1 = false := by unfold nb; rw [decide_eq_true (show p + 1 ≤ B.length from hlt)]; rfl
        have h4 : na B p false 1 = p + 1 := by unfold na; rw [if_neg (by decide), if_pos (show p + 1 ≤ B.length from hlt)]
        have h5 : nv B p false 1 = B.getD p 0 := by
          unfold nv rv
          rw [if_neg (by decide), if_pos (show p + 1 ≤ B.length from hlt), drop_cons hlt]
          simp [vl]
        rw [h2, h3, h4, h5, if_neg (by decide), h, bnd_go hf]
      · rw [decide_eq_false h1, if_neg (by decide)] at hf
        have h2 : ob B p false = true := by unfold ob; rw [decide_eq_true hlt, decide_eq_true (show 1 < B.getD p 0 by omega)]; rfl
        have h3 : nb B p true 1 = true := rfl
        have h4 : na B p true 1 = p := rfl
        rw [h2, h3, h4, if_pos rfl, h, bnd_no hf]
    · rw [decide_eq_false hlt, Bool.false_and, if_neg (by decide)] at hf
      have h2 : ob B p false = false := by unfold ob; rw [decide_eq_false hlt]; rfl
      have h3 : nb B p false 1 = true := by unfold nb; rw [decide_eq_false (show ¬ p + 1 ≤ B.length from hlt)]; rfl
      have h4 : na B p false 1 = p := by unfold na; rw [if_neg (by decide), if_neg (show ¬ p + 1 ≤ B.length from hlt)]
      rw [h2, h3, h4, if_pos rfl, h, bnd_no hf]
theorem nv1_in {B : List Int} (hB : Byt B) (p : Nat) (bad : Bool) : 0 ≤ nv B p bad 1 ∧ nv B p bad 1 < 256 := by
  unfold nv
  split
  · omega
  · exact rv1_in B hB p
theorem nv2_in {B : List Int} (hB : Byt B) (p : Nat) (bad : Bool) : 0 ≤ nv B p bad 2 ∧ nv B p bad 2 < 65536 := by
  unfold nv
  split
  · omega
  · exact rv2_in B hB p
theorem nv4_in {B : List Int} (hB : Byt B) (p : Nat) (bad : Bool) : 0 ≤ nv B p bad 4 ∧ nv B p bad 4 < 4294967296 := by
  unfold nv
  split
  · omega
  · exact rv_in B hB p 4 (by decide)
theorem w32_sg {x : Int} (h : 0 ≤ x ∧ x < 4294967296) : IntKind.i32.wrap x = sg x := by
  unfold sg
  rw [IntKind.wrap_i32]
  split <;> omega
theorem nv_bad (B : List Int) (p n : Nat) : nv B p true n = 0 := rfl
theorem na_bad (B : List Int) (p n : Nat) : na B p true n = p := rfl
theorem nb_bad (B : List Int) (p n : Nat) : nb B p true n = true := rfl
/- one more of a row of things, and what is read behind it -/
theorem rep_more {α : Type} (q : Rdr α) (m : Nat) (f : List α → Rdr Stt) : bnd (rep q (m + 1)) f = bnd q fun x => bnd (rep q m) fun xs => f (x :: xs) := by
  show bnd (bnd q fun x => bnd (rep q m) fun xs => ret (x :: xs)) f = _
  rw [bnd_assoc]
  congr 1
  funext x
  rw [bnd_assoc]
  rfl
theorem rdP_more (m : Nat) (f : List Ply → Rdr Stt) : bnd (rep rdP (m + 1)) f = bnd sg4 fun a => bnd sg4 fun b => bnd flag fun c => bnd (rep rdP m) fun xs => f (⟨a, b, c⟩ :: xs) := by
  rw [rep_more]
  unfold rdP
  simp only [bnd_assoc, bnd_ret]
theorem rdC_more (m : Nat) (f : List Crd → Rdr Stt) : bnd (rep rdC (m + 1)) f = bnd num2 fun a => bnd num1 fun b => bnd sg4 fun c => bnd sg4 fun d => bnd sg4 fun e => bnd sg4 fun g => bnd (rep rdC m) fun xs => f (⟨a, b, c, d, e, g⟩ :: xs) := by
  rw [rep_more]
  unfold rdC
  simp only [bnd_assoc, bnd_ret]
theorem rdZ_more (m : Nat) (f : List (List Int) → Rdr Stt) : bnd (rep rdZ (m + 1)) f = bnd num2 fun n => bnd (rep num2 n.toNat) fun z => bnd (rep rdZ m) fun xs => f (z :: xs) := by
  rw [rep_more]
  unfold rdZ
  simp only [bnd_assoc]
theorem rep0 {α : Type} (q : Rdr α) (f : List α → Rdr Stt) : bnd (rep q 0) f = f [] := rfl
theorem rdT_all (ps : List Ply) (cs : List Crd) (zs : List (List Int)) : rdT ps cs zs = bnd sg4 fun a => bnd num1 fun b => bnd num1 fun c => bnd num1 fun d => ret ⟨ps, cs, zs, a, b, i8 c, d⟩ := rfl
/- the end -/
def FxP (B : List Int) (p : Nat) (bad : Bool) (s : Stt) : Prop := if bad = true then decR B = .error (B.length - p) else decR B = .ok s
theorem fx_bad {B : List Int} {p : Nat} {K : Rdr Stt} (s : Stt) (h : Sx B p true K) : FxP B p true s := by
  unfold Sx at h
  rw [if_pos rfl] at h
  unfold FxP decR
  rw [if_pos rfl, h]
theorem fx_more {B : List Int} {p : Nat} {s : Stt} (h : Sx B p false (ret s)) (hp : p < B.length) : FxP B p true s := by
  unfold Sx at h
  rw [if_neg (by decide)] at h
  unfold FxP decR
  rw [if_pos rfl, h, drop_cons hp]
  simp only [ret, List.length_cons, List.length_drop]
  congr 1
  omega
theorem fx_end {B : List Int} {p : Nat} {s : Stt} (h : Sx B p false (ret s)) (hp : ¬ p < B.length) : FxP B p false s := by
  unfold Sx at h
  rw [if_neg (by decide)] at h
  unfold FxP decR
  rw [if_neg (by decide), h, List.drop_eq_nil_of_le (by omega)]
  rfl
end IM
end Go.Proofs.YtmpamcdobhiipaaGreatDoor
/-
  The document's reader: what stands in memory while a state is read.
-/
namespace Go.Proofs.YtmpamcdobhiipaaGreatDoor
open Go.RowKit

namespace IM
open Go.Proofs.YtmpamcdobhiipaaGreatDoor.ST
/- the state so far lies at block sb -/
def SQ (w : World) (rb sb : Nat) (ps : List Ply) (cs : List Crd) (zs : List (List Int)) (x3 x4 x5 x6 : Value) (W : World) : Prop :=
  ∃ vp vc vz, W.heap[sb]? = some (.cells #[vp, vc, vz, x3, x4, x5, x6] 30 (0, 0)) ∧ W.ownsRow w.heap.size 95 3 vp ps.length (pvs ps) ∧ W.ownsRow w.heap.size 83 6 vc cs.length (cvs cs) ∧ ZW w.heap.size W vz zs ∧ W.heap[w.heap.size]? = some (.cells zA 30 (0, 0)) ∧ Kb (fun x => x = rb ∨ w.heap.size ≤ x) w W
theorem zw_up {base : Nat} {W W' : World} {vz : Value} {zs : List (List Int)} (h : ZW base W vz zs) (u : Up W W') : ZW base W' vz zs := by
  obtain ⟨vs, h1, h2, h3, h4⟩ := h
  exact ⟨vs, h1, row_up h2 u, fun i hi => row_up (h3 i hi) u, h4⟩
theorem SQ.up {w : World} {rb sb : Nat} {ps : List Ply} {cs : List Crd} {zs : List (List Int)} {x3 x4 x5 x6 : Value} {W W' : World} (h : SQ w rb sb ps cs zs x3 x4 x5 x6 W) (u : Up W W') : SQ w rb sb ps cs zs x3 x4 x5 x6 W' := by
  obtain ⟨vp, vc, vz, h1, h2, h3, h4, h5, h6⟩ := h
  exact ⟨vp, vc, vz, u.heap h1, row_up h2 u, row_up h3 u, zw_up h4 u, u.heap h5, h6.trans (Kb.of_up u)⟩
theorem keepT {base e s n rb : Nat} {v : Value} {xs : List Value} {W W' : World} {C : Array Value} {t : TypeId} (h : W.ownsRow base e s v n xs) (K : Kb (fun x => x = rb) W W') (hrb : W.heap[rb]? = some (.cells C t (0, 0))) (ht : t ≠ e) : W'.ownsRow base e s v n xs :=
  row_keep h (fun g o hg ho => K.1 g o ho (fun hx => ne_rb h hrb ht (by rw [← hx]; exact hg)))
theorem SQ.kb {w : World} {rb sb : Nat} {ps : List Ply} {cs : List Crd} {zs : List (List Int)} {x3 x4 x5 x6 : Value} {W W' : World} {C : Array Value} (h : SQ w rb sb ps cs zs x3 x4 x5 x6 W) (K : Kb (fun x => x = rb) W W') (hrb : W.heap[rb]? = some (.cells C 74 (0, 0))) : SQ w rb sb ps cs zs x3 x4 x5 x6 W' := by
  obtain ⟨vp, vc, vz, h1, h2, h3, ⟨vs, z1, z2, z3, z4⟩, h5, h6⟩ := h
  have hne : ∀ (g : Nat) (D : Array Value), W.heap[g]? = some (.cells D 30 (0, 0)) → W'.heap[g]? = some (.cells D 30 (0, 0)) := fun g D hg => K.1 g _ hg (fun hx => by rw [hx, hrb] at hg; simp only [Option.some.injEq, Obj.cells.injEq] at hg; exact absurd hg.2.1 (by decide))
  exact ⟨vp, vc, vz, hne _ _ h1, keepT h2 K hrb (by decide), keepT h3 K hrb (by decide), ⟨vs, z1, keepT z2 K hrb (by decide), fun i hi => keepT (z3 i hi) K hrb (by decide), z4⟩, hne _ _ h5, h6.trans (K.more (fun _ h => .inl h))⟩
theorem SQ.set {w : World} {rb sb : Nat} {ps : List Ply} {cs : List Crd} {zs : List (List Int)} {x3 x4 x5 x6 : Value} {W : World} (h : SQ w rb sb ps cs zs x3 x4 x5 x6 W) (hs : sb = w.heap.size + 1) (x : Value) :
    SQ w rb sb ps cs zs x x4 x5 x6 (W.setCell ⟨sb, 3, none⟩ x) ∧ SQ w rb sb ps cs zs x3 x x5 x6 (W.setCell ⟨sb, 4, none⟩ x) ∧ SQ w rb sb ps cs zs x3 x4 x x6 (W.setCell ⟨sb, 5, none⟩ x) ∧ SQ w rb sb ps cs zs x3 x4 x5 x (W.setCell ⟨sb, 6, none⟩ x) := by
  obtain ⟨vp, vc, vz, h1, h2, h3, ⟨vs, z1, z2, z3, z4⟩, h5, h6⟩ := h
  have hr : ∀ {e s n : Nat} {v : Value} {xs : List Value} (j : Nat), W.ownsRow w.heap.size e s v n xs → 30 ≠ e → (W.setCell ⟨sb, j, none⟩ x).ownsRow w.heap.size e s v n xs := fun j hh ht => own_rb hh h1 ht
  have hz : ∀ j, ZW w.heap.size (W.setCell ⟨sb, j, none⟩ x) vz zs := fun j => ⟨vs, z1, hr j z2 (by decide), fun i hi => hr j (z3 i hi) (by decide), z4⟩
  have ho : ∀ j, (W.setCell ⟨sb, j, none⟩ x).heap[w.heap.size]? = some (.cells zA 30 (0, 0)) := fun j => set_other h5 (by omega)
  have hk : ∀ j, Kb (fun x => x = rb ∨ w.heap.size ≤ x) w (W.setCell ⟨sb, j, none⟩ x) := fun j => h6.trans (Kb.set (w := W) 0 (.inr (by omega)))
  refine ⟨⟨vp, vc, vz, ?_, hr 3 h2 (by decide), hr 3 h3 (by decide), hz 3, ho 3, hk 3⟩, ⟨vp, vc, vz, ?_, hr 4 h2 (by decide), hr 4 h3 (by decide), hz 4, ho 4, hk 4⟩, ⟨vp, vc, vz, ?_, hr 5 h2 (by decide), hr 5 h3 (by decide), hz 5, ho 5, hk 5⟩, ⟨vp, vc, vz, ?_, hr 6 h2 (by decide), hr 6 h3 (by decide), hz 6, ho 6, hk 6⟩⟩ <;> (rw [set_cells h1]; simp)
theorem RX.other {w0 : World} {rb : Nat} {vb : Value} {B : List Int} {p : Nat} {bad : Bool} {W : World} (h : RX w0 rb vb B p bad W) (g j : Nat) (v : Value) (hg : g ≠ rb) (hl : w0.heap.size ≤ g) : RX w0 rb vb B p bad (W.setCell ⟨g, j, none⟩ v) := h.keep (set_other h.hp hg.symm) (Up.set h.up _ _ hl)
/- a row has grown, and the state's cell is set -/
theorem SQ.appP {w w0 : World} {rb sb : Nat} {vb : Value} {B : List Int} {ps : List Ply} {cs : List Crd} {zs : List (List Int)} {x3 x4 x5 x6 : Value} {W V : World} {o : Obj} {q : Ply} {vp vc vz v' : Value} (hs : sb = w.heap.size + 1) (hw : w0.heap.size ≤ w.heap.size) (hrl : rb < w.heap.size)
    (h1 : W.heap[sb]? = some (.cells #[vp, vc, vz, x3, x4, x5, x6] 30 (0, 0))) (h2 : W.ownsRow w.heap.size 95 3 vp ps.length (pvs ps)) (h3 : W.ownsRow w.heap.size 83 6 vc cs.length (cvs cs)) (h4 : ZW w.heap.size W vz zs) (h5 : W.heap[w.heap.size]? = some (.cells zA 30 (0, 0))) (h6 : Kb (fun x => x = rb ∨ w.heap.size ≤ x) w W)
    (hg : (W.alloc o).grownBy V vp.ownBlock) (hn : V.ownsRow w.heap.size 95 3 v' (ps.length + 1) (pvs (ps ++ [q]))) :
    SQ w rb sb (ps ++ [q]) cs zs x3 x4 x5 x6 (V.setCell ⟨sb, 0, none⟩ v') ∧ (V.cell? ⟨sb, 0, none⟩ = some vp ∧ V.frozen? ⟨sb, 0, none⟩ = false) ∧ ∀ p bad, RX w0 rb vb B p bad W → RX w0 rb vb B p bad (V.setCell ⟨sb, 0, none⟩ v') := by
  have hU : Up W (W.alloc o) := (Up.refl _).alloc _
  have hown := World.ownsRow.alloc h2 o
  have hsz := h6.2
  have hbl : ∀ (g : Nat) (ob : Obj), W.heap[g]? = some ob → vp.ownBlock ≠ some g → V.heap[g]? = some ob := fun g ob hgo hne => by
    have h9 := hU.heap hgo
    rw [hg.block g (Array.getElem?_eq_some_iff.1 h9).1 (fun e => hne e.symm)]
    exact h9
  have hty : ∀ (g : Nat) (D : Array Value) (t : TypeId), W.heap[g]? = some (.cells D t (0, 0)) → t ≠ 95 → V.heap[g]? = some (.cells D t (0, 0)) := fun g D t hgo ht => hbl g _ hgo (ne_rb h2 hgo ht)
  have hsb := hty sb _ _ h1 (by decide)
  have hrow : ∀ {e s n : Nat} {v : Value} {xs : List Value}, W.ownsRow w.heap.size e s v n xs → e ≠ 95 → 30 ≠ e → (V.setCell ⟨sb, 0, none⟩ v').ownsRow w.heap.size e s v n xs := fun hh he ht =>
    own_rb (World.ownsRow.kept (row_up hh hU) hg (row_apart (row_up hh hU) hown he)) hsb ht
  have hz : ZW w.heap.size (V.setCell ⟨sb, 0, none⟩ v') vz zs := by
    obtain ⟨vs, z1, z2, z3, z4⟩ := h4
    exact ⟨vs, z1, hrow z2 (by decide) (by decide), fun i hi => hrow (z3 i hi) (by decide) (by decide), z4⟩
  refine ⟨⟨v', vc, vz, by rw [set_cells hsb]; simp, by rw [List.length_append, List.length_singleton]; exact own_rb hn hsb (by decide), hrow h3 (by decide) (by decide), hz, set_other (hty _ _ _ h5 (by decide)) (by omega), ?_⟩, ⟨by simp only [World.cell?, hsb]; rfl, seven_f hsb _⟩, fun p bad h => ?_⟩
  · refine ⟨fun g ob hgo hx => ?_, ?_⟩
    · have h9 := h6.1 g ob hgo hx
      have hgl := (Array.getElem?_eq_some_iff.1 hgo).1
      refine set_other (hbl g ob h9 (fun e => ?_)) (by omega)
      have := (World.ownsRow.lt h2 g e).1
      omega
    · have h7 := hg.size
      have h8 := hU.size
      simp [World.setCell]
      omega
  · have hw1 : w0.heap.size ≤ W.heap.size := by omega
    refine h.keep (set_other (hty rb _ _ h.hp (by decide)) (by omega)) (Up.set (Below.grown (h.up.alloc o) hg (by simp; omega) (fun k hk => Nat.le_trans hw (World.ownsRow.lt hown k hk).1)) _ _ (by show w0.heap.size ≤ sb; omega))

theorem SQ.appC {w w0 : World} {rb sb : Nat} {vb : Value} {B : List Int} {ps : List Ply} {cs : List Crd} {zs : List (List Int)} {x3 x4 x5 x6 : Value} {W V : World} {o : Obj} {q : Crd} {vp vc vz v' : Value} (hs : sb = w.heap.size + 1) (hw : w0.heap.size ≤ w.heap.size) (hrl : rb < w.heap.size)
    (h1 : W.heap[sb]? = some (.cells #[vp, vc, vz, x3, x4, x5, x6] 30 (0, 0))) (h2 : W.ownsRow w.heap.size 95 3 vp ps.length (pvs ps)) (h3 : W.ownsRow w.heap.size 83 6 vc cs.length (cvs cs)) (h4 : ZW w.heap.size W vz zs) (h5 : W.heap[w.heap.size]? = some (.cells zA 30 (0, 0))) (h6 : Kb (fun x => x = rb ∨ w.heap.size ≤ x) w W)
    (hg : (W.alloc o).grownBy V vc.ownBlock) (hn : V.ownsRow w.heap.size 83 6 v' (cs.length + 1) (cvs (cs ++ [q]))) :
    SQ w rb sb ps (cs ++ [q]) zs x3 x4 x5 x6 (V.setCell ⟨sb, 1, none⟩ v') ∧ (V.cell? ⟨sb, 1, none⟩ = some vc ∧ V.frozen? ⟨sb, 1, none⟩ = false) ∧ ∀ p bad, RX w0 rb vb B p bad W → RX w0 rb vb B p bad (V.setCell ⟨sb, 1, none⟩ v') := by
  have hU : Up W (W.alloc o) := (Up.refl _).alloc _
  have hown := World.ownsRow.alloc h3 o
  have hsz := h6.2
  have hbl : ∀ (g : Nat) (ob : Obj), W.heap[g]? = some ob → vc.ownBlock ≠ some g → V.heap[g]? = some ob := fun g ob hgo hne => by
    have h9 := hU.heap hgo
    rw [hg.block g (Array.getElem?_eq_some_iff.1 h9).1 (fun e => hne e.symm)]
    exact h9
  have hty : ∀ (g : Nat) (D : Array Value) (t : TypeId), W.heap[g]? = some (.cells D t (0, 0)) → t ≠ 83 → V.heap[g]? = some (.cells D t (0, 0)) := fun g D t hgo ht => hbl g _ hgo (ne_rb h3 hgo ht)
  have hsb := hty sb _ _ h1 (by decide)
  have hrow : ∀ {e s n : Nat} {v : Value} {xs : List Value}, W.ownsRow w.heap.size e s v n xs → e ≠ 83 → 30 ≠ e → (V.setCell ⟨sb, 1, none⟩ v').ownsRow w.heap.size e s v n xs := fun hh he ht =>
    own_rb (World.ownsRow.kept (row_up hh hU) hg (row_apart (row_up hh hU) hown he)) hsb ht
  have hz : ZW w.heap.size (V.setCell ⟨sb, 1, none⟩ v') vz zs := by
    obtain ⟨vs, z1, z2, z3, z4⟩ := h4
    exact ⟨vs, z1, hrow z2 (by decide) (by decide), fun i hi => hrow (z3 i hi) (by decide) (by decide), z4⟩
  refine ⟨⟨vp, v', vz, by rw [set_cells hsb]; simp, hrow h2 (by decide) (by decide), by rw [List.length_append, List.length_singleton]; exact own_rb hn hsb (by decide), hz, set_other (hty _ _ _ h5 (by decide)) (by omega), ?_⟩, ⟨by simp only [World.cell?, hsb]; rfl, seven_f hsb _⟩, fun p bad h => ?_⟩
  · refine ⟨fun g ob hgo hx => ?_, ?_⟩
    · have h9 := h6.1 g ob hgo hx
      have hgl := (Array.getElem?_eq_some_iff.1 hgo).1
      refine set_other (hbl g ob h9 (fun e => ?_)) (by omega)
      have := (World.ownsRow.lt h3 g e).1
      omega
    · have h7 := hg.size
      have h8 := hU.size
      simp [World.setCell]
      omega
  · have hw1 : w0.heap.size ≤ W.heap.size := by omega
    refine h.keep (set_other (hty rb _ _ h.hp (by decide)) (by omega)) (Up.set (Below.grown (h.up.alloc o) hg (by simp; omega) (fun k hk => Nat.le_trans hw (World.ownsRow.lt hown k hk).1)) _ _ (by show w0.heap.size ≤ sb; omega))

theorem SQ.appZ {w w0 : World} {rb sb : Nat} {vb : Value} {B : List Int} {ps : List Ply} {cs : List Crd} {zs : List (List Int)} {x3 x4 x5 x6 : Value} {W V : World} {o : Obj} {q : List Int} {x : Value} {vp vc vz v' : Value} {vs : List Value} (hs : sb = w.heap.size + 1) (hw : w0.heap.size ≤ w.heap.size) (hrl : rb < w.heap.size)
    (h1 : W.heap[sb]? = some (.cells #[vp, vc, vz, x3, x4, x5, x6] 30 (0, 0))) (h2 : W.ownsRow w.heap.size 95 3 vp ps.length (pvs ps)) (h3 : W.ownsRow w.heap.size 83 6 vc cs.length (cvs cs)) (z1 : vs.length = zs.length) (z2 : W.ownsRow w.heap.size 84 1 vz zs.length vs) (z3 : ∀ i, i < zs.length → W.ownsRow w.heap.size 3 1 (vs.getD i nl) (zs.getD i []).length (ivs (zs.getD i []))) (z4 : RA zs.length vs) (h5 : W.heap[w.heap.size]? = some (.cells zA 30 (0, 0))) (h6 : Kb (fun x => x = rb ∨ w.heap.size ≤ x) w W)
    (hg : (W.alloc o).grownBy V vz.ownBlock) (hn : V.ownsRow w.heap.size 84 1 v' (zs.length + 1) (vs ++ [x])) (hx : W.ownsRow w.heap.size 3 1 x q.length (ivs q)) (hap : ∀ i g, i < zs.length → (vs.getD i nl).ownBlock = some g → x.ownBlock ≠ some g) :
    SQ w rb sb ps cs (zs ++ [q]) x3 x4 x5 x6 (V.setCell ⟨sb, 2, none⟩ v') ∧ (V.cell? ⟨sb, 2, none⟩ = some vz ∧ V.frozen? ⟨sb, 2, none⟩ = false) ∧ ∀ p bad, RX w0 rb vb B p bad W → RX w0 rb vb B p bad (V.setCell ⟨sb, 2, none⟩ v') := by
  have hU : Up W (W.alloc o) := (Up.refl _).alloc _
  have hown := World.ownsRow.alloc z2 o
  have hsz := h6.2
  have hbl : ∀ (g : Nat) (ob : Obj), W.heap[g]? = some ob → vz.ownBlock ≠ some g → V.heap[g]? = some ob := fun g ob hgo hne => by
    have h9 := hU.heap hgo
    rw [hg.block g (Array.getElem?_eq_some_iff.1 h9).1 (fun e => hne e.symm)]
    exact h9
  have hty : ∀ (g : Nat) (D : Array Value) (t : TypeId), W.heap[g]? = some (.cells D t (0, 0)) → t ≠ 84 → V.heap[g]? = some (.cells D t (0, 0)) := fun g D t hgo ht => hbl g _ hgo (ne_rb z2 hgo ht)
  have hsb := hty sb _ _ h1 (by decide)
  have hrow : ∀ {e s n : Nat} {v : Value} {xs : List Value}, W.ownsRow w.heap.size e s v n xs → e ≠ 84 → 30 ≠ e → (V.setCell ⟨sb, 2, none⟩ v').ownsRow w.heap.size e s v n xs := fun hh he ht =>
    own_rb (World.ownsRow.kept (row_up hh hU) hg (row_apart (row_up hh hU) hown he)) hsb ht
  have hz : ZW w.heap.size (V.setCell ⟨sb, 2, none⟩ v') v' (zs ++ [q]) := by
    refine ⟨vs ++ [x], by simp [z1], ?_, fun i hi => ?_, ?_⟩
    · rw [List.length_append, List.length_singleton]; exact own_rb hn hsb (by decide)
    · rw [List.length_append, List.length_singleton] at hi
      by_cases hin : i < zs.length
      · have q1 : (vs ++ [x]).getD i nl = vs.getD i nl := by simp [List.getD, List.getElem?_append_left (show i < vs.length by omega)]
        have q2 : (zs ++ [q]).getD i [] = zs.getD i [] := by simp [List.getD, List.getElem?_append_left hin]
        rw [q1, q2]
        exact hrow (z3 i hin) (by decide) (by decide)
      · obtain rfl : i = zs.length := by omega
        have q1 : (vs ++ [x]).getD zs.length nl = x := by rw [List.getD_eq_getElem?_getD, List.getElem?_append_right (by omega), show zs.length - vs.length = 0 by omega]; rfl
        have q2 : (zs ++ [q]).getD zs.length [] = q := by rw [List.getD_eq_getElem?_getD, List.getElem?_append_right (Nat.le_refl _), Nat.sub_self]; rfl
        rw [q1, q2]
        exact hrow hx (by decide) (by decide)
    · rw [List.length_append, List.length_singleton]
      exact z4.snoc z1 hap
  refine ⟨⟨vp, vc, v', by rw [set_cells hsb]; simp, hrow h2 (by decide) (by decide), hrow h3 (by decide) (by decide), hz, set_other (hty _ _ _ h5 (by decide)) (by omega), ?_⟩, ⟨by simp only [World.cell?, hsb]; rfl, seven_f hsb _⟩, fun p bad h => ?_⟩
  · refine ⟨fun g ob hgo hx => ?_, ?_⟩
    · have h9 := h6.1 g ob hgo hx
      have hgl := (Array.getElem?_eq_some_iff.1 hgo).1
      refine set_other (hbl g ob h9 (fun e => ?_)) (by omega)
      have := (World.ownsRow.lt z2 g e).1
      omega
    · have h7 := hg.size
      have h8 := hU.size
      simp [World.setCell]
      omega
  · have hw1 : w0.heap.size ≤ W.heap.size := by omega
    refine h.keep (set_other (hty rb _ _ h.hp (by decide)) (by omega)) (Up.set (Below.grown (h.up.alloc o) hg (by simp; omega) (fun k hk => Nat.le_trans hw (World.ownsRow.lt hown k hk).1)) _ _ (by show w0.heap.size ≤ sb; omega))
end IM
end Go.Proofs.YtmpamcdobhiipaaGreatDoor
/-
  The document's reader: what stands in memory while a whole state is read.
-/
namespace Go.Proofs.YtmpamcdobhiipaaGreatDoor
open Go.RowKit
attribute [local go_sem ↓] Go.wp_at_zero Go.wp_at_succ

namespace IM
open Go.Proofs.YtmpamcdobhiipaaGreatDoor.ST
theorem w32e (x : Int) : IntKind.i32.wrap x = wrap32 x := by rw [IntKind.wrap_i32, wrap32]
theorem SQ.kb2 {w : World} {rb sb n : Nat} {ps : List Ply} {cs : List Crd} {zs : List (List Int)} {x3 x4 x5 x6 : Value} {W W' : World} {C : Array Value} (h : SQ w rb sb ps cs zs x3 x4 x5 x6 W) (hn : n = W.heap.size) (K : Kb (fun x => x = rb ∨ n ≤ x) W W') (hrb : W.heap[rb]? = some (.cells C 74 (0, 0))) (hw : w.heap.size ≤ W.heap.size) : SQ w rb sb ps cs zs x3 x4 x5 x6 W' := by
  have hne : ∀ (g : Nat) (D : Array Value) (t : TypeId), W.heap[g]? = some (.cells D t (0, 0)) → 74 ≠ t → W'.heap[g]? = some (.cells D t (0, 0)) := fun g D t hg ht => K.1 g _ hg (by
    rintro (hx | hx)
    · rw [hx, hrb] at hg
      simp only [Option.some.injEq, Obj.cells.injEq] at hg
      exact ht hg.2.1
    · have := (Array.getElem?_eq_some_iff.1 hg).1
      omega)
  have hro : ∀ {e s m : Nat} {v : Value} {xs : List Value}, W.ownsRow w.heap.size e s v m xs → 74 ≠ e → W'.ownsRow w.heap.size e s v m xs := fun hh ht => row_keep hh (fun g o hg ho => K.1 g o ho (by
    rintro (hx | hx)
    · exact ne_rb hh hrb ht (by rw [← hx]; exact hg)
    · have := (Array.getElem?_eq_some_iff.1 ho).1
      omega))
  obtain ⟨vp, vc, vz, h1, h2, h3, ⟨vs, z1, z2, z3, z4⟩, h5, h6⟩ := h
  exact ⟨vp, vc, vz, hne _ _ _ h1 (by decide), hro h2 (by decide), hro h3 (by decide), ⟨vs, z1, hro z2 (by decide), fun i hi => hro (z3 i hi) (by decide), z4⟩, hne _ _ _ h5 (by decide), h6.trans (K.more (fun g hx => hx.imp id (fun hx => by omega)))⟩
theorem SQ.cell {w : World} {rb sb : Nat} {ps : List Ply} {cs : List Crd} {zs : List (List Int)} {x3 x4 x5 x6 : Value} {W : World} (h : SQ w rb sb ps cs zs x3 x4 x5 x6 W) : W.cell? ⟨sb, 3, none⟩ = some x3 ∧ W.cell? ⟨sb, 4, none⟩ = some x4 ∧ W.cell? ⟨sb, 5, none⟩ = some x5 ∧ W.cell? ⟨sb, 6, none⟩ = some x6 ∧ ∀ j, W.frozen? ⟨sb, j, none⟩ = false := by
  obtain ⟨vp, vc, vz, h1, h2, h3, h4, h5, h6⟩ := h
  refine ⟨?_, ?_, ?_, ?_, seven_f h1⟩ <;> simp only [World.cell?, h1] <;> rfl
theorem SQ.soa {w : World} {rb sb : Nat} {s : Stt} {W : World} (h : SQ w rb sb s.ps s.cs s.zs (.int .i32 s.turn) (.int .i64 s.whose) (.int .i8 s.fin) (.int .i64 s.winner) W) : ∃ S : Array Value, S.size = 7 ∧ S.all (·.oneCell') = true ∧ W.heap[sb]? = some (.cells S 30 (0, 0)) ∧ W.heap[w.heap.size]? = some (.cells zA 30 (0, 0)) ∧ SOA w.heap.size W (.agg S) s ∧ Kb (fun x => x = rb ∨ w.heap.size ≤ x) w W := by
  obtain ⟨vp, vc, vz, h1, h2, h3, ⟨vs, z1, z2, z3, z4⟩, h5, h6⟩ := h
  refine ⟨#[vp, vc, vz, .int .i32 s.turn, .int .i64 s.whose, .int .i8 s.fin, .int .i64 s.winner], rfl, ?_, h1, h5, ⟨vp, vc, vz, rfl, h2, h3, vs, z2, z3, z4⟩, h6⟩
  obtain ⟨a1, k1, rfl⟩ := row_val h2
  obtain ⟨a2, k2, rfl⟩ := row_val h3
  obtain ⟨a3, k3, rfl⟩ := row_val z2
  simp [Value.oneCell']
theorem SQ.kbz {w : World} {rb sb n : Nat} {ps : List Ply} {cs : List Crd} {zs : List (List Int)} {x3 x4 x5 x6 : Value} {W W' : World} {C : Array Value} (h : SQ w rb sb ps cs zs x3 x4 x5 x6 W) (hn : n = W.heap.size) (K : Kb (fun x => x = rb ∨ n ≤ x) W W') (hrb : W.heap[rb]? = some (.cells C 74 (0, 0))) (hw : w.heap.size ≤ W.heap.size) : ∃ vp vc vz vs, W'.heap[sb]? = some (.cells #[vp, vc, vz, x3, x4, x5, x6] 30 (0, 0)) ∧ W'.ownsRow w.heap.size 95 3 vp ps.length (pvs ps) ∧ W'.ownsRow w.heap.size 83 6 vc cs.length (cvs cs) ∧ (vs.length = zs.length ∧ W'.ownsRow w.heap.size 84 1 vz zs.length vs ∧ (∀ i, i < zs.length → W'.ownsRow w.heap.size 3 1 (vs.getD i nl) (zs.getD i []).length (ivs (zs.getD i []))) ∧ RA zs.length vs) ∧ W'.heap[w.heap.size]? = some (.cells zA 30 (0, 0)) ∧ Kb (fun x => x = rb ∨ w.heap.size ≤ x) w W' ∧ ∀ i g, i < zs.length → (vs.getD i nl).ownBlock = some g → g < n := by
  have hne : ∀ (g : Nat) (D : Array Value) (t : TypeId), W.heap[g]? = some (.cells D t (0, 0)) → 74 ≠ t → W'.heap[g]? = some (.cells D t (0, 0)) := fun g D t hg ht => K.1 g _ hg (by
    rintro (hx | hx)
    · rw [hx, hrb] at hg
      simp only [Option.some.injEq, Obj.cells.injEq] at hg
      exact ht hg.2.1
    · have := (Array.getElem?_eq_some_iff.1 hg).1
      omega)
  have hro : ∀ {e s m : Nat} {v : Value} {xs : List Value}, W.ownsRow w.heap.size e s v m xs → 74 ≠ e → W'.ownsRow w.heap.size e s v m xs := fun hh ht => row_keep hh (fun g o hg ho => K.1 g o ho (by
    rintro (hx | hx)
    · exact ne_rb hh hrb ht (by rw [← hx]; exact hg)
    · have := (Array.getElem?_eq_some_iff.1 ho).1
      omega))
  obtain ⟨vp, vc, vz, h1, h2, h3, ⟨vs, z1, z2, z3, z4⟩, h5, h6⟩ := h
  exact ⟨vp, vc, vz, vs, hne _ _ _ h1 (by decide), hro h2 (by decide), hro h3 (by decide), ⟨z1, hro z2 (by decide), fun i hi => hro (z3 i hi) (by decide), z4⟩, hne _ _ _ h5 (by decide), h6.trans (K.more (fun g hx => hx.imp id (fun hx => by omega))), fun i g hi hg => by have := ((z3 i hi).lt g hg).2; omega⟩
theorem rx_grown {w0 : World} {rb : Nat} {vb : Value} {B : List Int} {p : Nat} {bad : Bool} {W V : World} {o : Obj} {base e s n : Nat} {v : Value} {xs : List Value} (h : RX w0 rb vb B p bad W) (ho : W.ownsRow base e s v n xs) (ht : 74 ≠ e) (hb : w0.heap.size ≤ base) (hg : (W.alloc o).grownBy V v.ownBlock) : RX w0 rb vb B p bad V := by
  have hU : Up W (W.alloc o) := (Up.refl _).alloc _
  have h9 := hU.heap h.hp
  have hs := h.up.size
  refine h.keep ?_ (Below.grown (h.up.alloc o) hg (by simp; omega) (fun k hk => Nat.le_trans hb (World.ownsRow.lt (World.ownsRow.alloc ho o) k hk).1))
  rw [hg.block rb (Array.getElem?_eq_some_iff.1 h9).1 (fun e9 => ne_rb ho h.hp ht e9.symm)]
  exact h9
theorem kb_grown {rb pk : Nat} {Wb W V : World} {o : Obj} {e s n : Nat} {v : Value} {xs : List Value} (h : Kb (fun y => y = rb ∨ pk ≤ y) Wb W) (ho : W.ownsRow pk e s v n xs) (hg : (W.alloc o).grownBy V v.ownBlock) : Kb (fun y => y = rb ∨ pk ≤ y) Wb V := by
  have hU : Up W (W.alloc o) := (Up.refl _).alloc _
  refine ⟨fun g ob hgo hx => ?_, ?_⟩
  · have h9 := hU.heap (h.1 g ob hgo hx)
    rw [hg.block g (Array.getElem?_eq_some_iff.1 h9).1 (fun e9 => hx (.inr (World.ownsRow.lt ho g e9.symm).1))]
    exact h9
  · have h7 := hg.size
    have h8 := hU.size
    have h6 := h.2
    omega
theorem rep_num (m : Nat) (f : List Int → Rdr Stt) : bnd (rep num2 (m + 1)) f = bnd num2 fun x => bnd (rep num2 m) fun xs => f (x :: xs) := rep_more num2 m f
theorem SQ.kbsz {w : World} {rb sb : Nat} {ps : List Ply} {cs : List Crd} {zs : List (List Int)} {x3 x4 x5 x6 : Value} {W : World} (h : SQ w rb sb ps cs zs x3 x4 x5 x6 W) : w.heap.size ≤ W.heap.size := by
  obtain ⟨vp, vc, vz, h1, h2, h3, h4, h5, h6⟩ := h
  exact h6.2
def RsQ (w0 : World) (rb : Nat) (vb : Value) (B : List Int) (w : World) (x : Ending) (w' : World) : Prop := ∃ v p bad s, x = .returned v ∧ RX w0 rb vb B p bad w' ∧ FxP B p bad s ∧ SOA w.heap.size w' v s ∧ Kb (fun x => x = rb ∨ w.heap.size ≤ x) w w'
theorem rsq_end {w0 : World} {rb : Nat} {vb : Value} {B : List Int} {w W : World} {p : Nat} {bad : Bool} {s : Stt} {S : Array Value} (hrl : rb < w.heap.size) (hl : w0.heap.size ≤ w.heap.size) (hr : RX w0 rb vb B p bad W) (hf : FxP B p bad s) (h5 : W.heap[w.heap.size]? = some (.cells zA 30 (0, 0))) (hs : SOA w.heap.size W (.agg S) s) (hk : Kb (fun x => x = rb ∨ w.heap.size ≤ x) w W) : RsQ w0 rb vb B w (.returned (.agg S)) (W.setRow w.heap.size S) := by
  refine ⟨.agg S, p, bad, s, rfl, hr.keep ?_ (up_setRow hr.up hl _), hf, soa_setRow hs h5, ⟨fun g o hg hx => ?_, ?_⟩⟩
  · rw [setRow_other _ _ _ _ (by omega)]; exact hr.hp
  · have := (Array.getElem?_eq_some_iff.1 hg).1
    rw [setRow_other _ _ _ _ (by omega)]
    exact hk.1 g o hg hx
  · have := hk.2
    simpa [World.setRow] using this
def RstOk : Prop := ∀ (w0 : World) (rb : Nat) (vb : Value) (B : List Int) (w : World), RX w0 rb vb B 0 false w → Calls Tryz.prog 18 #[.pointer (some ⟨rb, 0, none⟩)] w (RsQ w0 rb vb B w)
end IM
end Go.Proofs.YtmpamcdobhiipaaGreatDoor
/-
  The document's small questions, and its entries.
-/
namespace Go.Proofs.YtmpamcdobhiipaaGreatDoor
open Go.RowKit
attribute [local go_sem ↓] Go.wp_at_zero Go.wp_at_succ

namespace ST
def fromB (x lo hi : Int) : Bool := decide (lo ≤ x) && decide (x ≤ hi)
theorem from_num (x : Int) (n : Nat) : fromB x 0 ((n : Int) - 1) = numB x n := by
  simp only [fromB, numB]
  congr 1
  apply decide_eq_decide.2
  omega
set_option maxHeartbeats 1000000 in
theorem rfrom_ (x lo hi : Int) (w : World) : Calls Tryz.prog 80 #[.int .i64 x, .int .i64 lo, .int .i64 hi] w fun e w' => e = .returned (.bool (fromB x lo hi)) ∧ w' = w := by
  by_cases h1 : lo ≤ x
  · by_cases h2 : x ≤ hi
    · go_enter Tryz.func80, Tryz.ntmps80
      go_wp2
      go_ret
      exact ⟨by simp [fromB, h1, h2], rfl⟩
    · go_enter Tryz.func80, Tryz.ntmps80
      go_wp2
      go_ret
      exact ⟨by simp [fromB]; omega, rfl⟩
  · go_enter Tryz.func80, Tryz.ntmps80
    go_wp2
    go_ret
    exact ⟨by simp [fromB]; omega, rfl⟩
theorem rfromB (x lo hi : Int) (b : Bool) (h : fromB x lo hi = b) (w : World) : Calls Tryz.prog 80 #[.int .i64 x, .int .i64 lo, .int .i64 hi] w fun e w' => e = .returned (.bool b) ∧ w' = w := by subst h; exact rfrom_ x lo hi w
set_option maxHeartbeats 1000000 in
theorem rStat_ (n : Int) (w : World) : Calls Tryz.prog 81 #[.int .i32 n] w fun e w' => e = .returned (.bool (statB n)) ∧ w' = w := by
  by_cases h1 : -1000000000 ≤ n
  · by_cases h2 : n ≤ 1000000000
    · go_enter Tryz.func81, Tryz.ntmps81
      go_wp2
      go_ret
      exact ⟨by simp [statB, h1, h2], rfl⟩
    · go_enter Tryz.func81, Tryz.ntmps81
      go_wp2
      go_ret
      exact ⟨by simp [statB]; omega, rfl⟩
  · go_enter Tryz.func81, Tryz.ntmps81
    go_wp2
    go_ret
    exact ⟨by simp [statB]; omega, rfl⟩
theorem rStatB (n : Int) (b : Bool) (h : statB n = b) (w : World) : Calls Tryz.prog 81 #[.int .i32 n] w fun e w' => e = .returned (.bool b) ∧ w' = w := by subst h; exact rStat_ n w
theorem crd_ref (c : Crd) (n : Nat) : crdB n c = (fromB c.kind 0 255 && fromB c.owner 0 ((n : Int) - 1) && statB c.power && statB c.health && statB c.damage && statB c.marks) := by
  rw [from_num]
  have e : fromB c.kind 0 255 = numB c.kind 256 := from_num c.kind 256
  rw [e, crdB, crd0B]
  cases numB c.kind 256 <;> cases numB c.owner n <;> cases statB c.power <;> cases statB c.health <;> cases statB c.damage <;> cases statB c.marks <;> rfl
set_option maxHeartbeats 4000000 in
theorem rcard_ (c : Crd) (n : Nat) (hn : n ≤ 4294967296) (w : World) : Calls Tryz.prog 82 #[cag c, .int .i64 n] w fun e w' => e = .returned (.bool (crdB n c)) ∧ Up w w' := by
  obtain ⟨R, hR⟩ : ∃ R, R = crdB n c := ⟨_, rfl⟩
  rw [← hR]
  have HR : Hid (R = (fromB c.kind 0 255 && fromB c.owner 0 ((n : Int) - 1) && statB c.power && statB c.health && statB c.damage && statB c.marks)) := by unfold Hid; rw [hR, crd_ref]
  clear hR
  unfold cag
  cases h0 : fromB c.kind 0 255
  · go_enter Tryz.func82, Tryz.ntmps82
    go_wp2_with fail
    refine Calls.mono (rfromB _ 0 255 false h0 _) ?_
    rintro e w1 ⟨rfl, rfl⟩
    go_wp2
    go_ret
    exact ⟨by rw [HR.out]; simp [h0], (Up.refl _).alloc _⟩
  · cases h1 : fromB c.owner 0 ((n : Int) - 1)
    · go_enter Tryz.func82, Tryz.ntmps82
      go_wp2_with fail
      refine Calls.mono (rfromB _ 0 255 true h0 _) ?_
      rintro e w1 ⟨rfl, rfl⟩
      go_wp2_with fail
      refine Calls.mono (rfromB _ 0 _ false h1 _) ?_
      rintro e w2 ⟨rfl, rfl⟩
      go_wp2
      go_ret
      exact ⟨by rw [HR.out]; simp [h1], (Up.refl _).alloc _⟩
    · cases h2 : statB c.power
      · go_enter Tryz.func82, Tryz.ntmps82
        go_wp2_with fail
        refine Calls.mono (rfromB _ 0 255 true h0 _) ?_
        rintro e w1 ⟨rfl, rfl⟩
        go_wp2_with fail
        refine Calls.mono (rfromB _ 0 _ true h1 _) ?_
        rintro e w2 ⟨rfl, rfl⟩
        go_wp2_with fail
        refine Calls.mono (rStatB _ false h2 _) ?_
        rintro e w3 ⟨rfl, rfl⟩
        go_wp2
        go_ret
        exact ⟨by rw [HR.out]; simp [h2], (Up.refl _).alloc _⟩
      · cases h3 : statB c.health
        · go_enter Tryz.func82, Tryz.ntmps82
          go_wp2_with fail
          refine Calls.mono (rfromB _ 0 255 true h0 _) ?_
          rintro e w1 ⟨rfl, rfl⟩
          go_wp2_with fail
          refine Calls.mono (rfromB _ 0 _ true h1 _) ?_
          rintro e w2 ⟨rfl, rfl⟩
          go_wp2_with fail
          refine Calls.mono (rStatB _ true h2 _) ?_
          rintro e w3 ⟨rfl, rfl⟩
          go_wp2_with fail
          refine Calls.mono (rStatB _ false h3 _) ?_
          rintro e w4 ⟨rfl, rfl⟩
          go_wp2
          go_ret
          exact ⟨by rw [HR.out]; simp [h3], (Up.refl _).alloc _⟩
        · cases h4 : statB c.damage
          · go_enter Tryz.func82, Tryz.ntmps82
            go_wp2_with fail
            refine Calls.mono (rfromB _ 0 255 true h0 _) ?_
            rintro e w1 ⟨rfl, rfl⟩
            go_wp2_with fail
            refine Calls.mono (rfromB _ 0 _ true h1 _) ?_
            rintro e w2 ⟨rfl, rfl⟩
            go_wp2_with fail
            refine Calls.mono (rStatB _ true h2 _) ?_
            rintro e w3 ⟨rfl, rfl⟩
            go_wp2_with fail
            refine Calls.mono (rStatB _ true h3 _) ?_
            rintro e w4 ⟨rfl, rfl⟩
            go_wp2_with fail
            refine Calls.mono (rStatB _ false h4 _) ?_
            rintro e w5 ⟨rfl, rfl⟩
            go_wp2
            go_ret
            exact ⟨by rw [HR.out]; simp [h4], (Up.refl _).alloc _⟩
          · cases h5 : statB c.marks
            · go_enter Tryz.func82, Tryz.ntmps82
              go_wp2_with fail
              refine Calls.mono (rfromB _ 0 255 true h0 _) ?_
              rintro e w1 ⟨rfl, rfl⟩
              go_wp2_with fail
              refine Calls.mono (rfromB _ 0 _ true h1 _) ?_
              rintro e w2 ⟨rfl, rfl⟩
              go_wp2_with fail
              refine Calls.mono (rStatB _ true h2 _) ?_
              rintro e w3 ⟨rfl, rfl⟩
              go_wp2_with fail
              refine Calls.mono (rStatB _ true h3 _) ?_
              rintro e w4 ⟨rfl, rfl⟩
              go_wp2_with fail
              refine Calls.mono (rStatB _ true h4 _) ?_
              rintro e w5 ⟨rfl, rfl⟩
              go_wp2_with fail
              refine Calls.mono (rStatB _ false h5 _) ?_
              rintro e w6 ⟨rfl, rfl⟩
              go_wp2
              go_ret
              exact ⟨by rw [HR.out]; simp [h5], (Up.refl _).alloc _⟩
            · go_enter Tryz.func82, Tryz.ntmps82
              go_wp2_with fail
              refine Calls.mono (rfromB _ 0 255 true h0 _) ?_
              rintro e w1 ⟨rfl, rfl⟩
              go_wp2_with fail
              refine Calls.mono (rfromB _ 0 _ true h1 _) ?_
              rintro e w2 ⟨rfl, rfl⟩
              go_wp2_with fail
              refine Calls.mono (rStatB _ true h2 _) ?_
              rintro e w3 ⟨rfl, rfl⟩
              go_wp2_with fail
              refine Calls.mono (rStatB _ true h3 _) ?_
              rintro e w4 ⟨rfl, rfl⟩
              go_wp2_with fail
              refine Calls.mono (rStatB _ true h4 _) ?_
              rintro e w5 ⟨rfl, rfl⟩
              go_wp2_with fail
              refine Calls.mono (rStatB _ true h5 _) ?_
              rintro e w6 ⟨rfl, rfl⟩
              go_wp2
              go_ret
              exact ⟨by rw [HR.out]; simp [h0, h1, h2, h3, h4, h5], (Up.refl _).alloc _⟩
/- the entries -/
theorem off_le9 (zs : List (List Int)) (z : Nat) : (zs.take z).flatten.length ≤ zs.flatten.length := by
  have : zs.flatten = (zs.take z).flatten ++ (zs.drop z).flatten := by rw [← List.flatten_append, List.take_append_drop]
  rw [this, List.length_append]
  omega
theorem ivs_app9 (a b : List Int) : ivs (a ++ b) = ivs a ++ ivs b := by simp [ivs]
theorem off_flat (zs : List (List Int)) (i : Nat) (hi : i < zs.length) : (zs.take (i + 1)).flatten = (zs.take i).flatten ++ zs.getD i [] := by
  rw [List.take_add_one, List.getElem?_eq_getElem hi, List.flatten_append, List.getD_eq_getElem?_getD, List.getElem?_eq_getElem hi]
  simp
set_option maxRecDepth 100000 in
set_option maxHeartbeats 4000000 in
theorem entries_ (v : Value) (s : Stt) (w : World) (hs : StL w v s) (hz : s.zs.length ≤ 4294967296) (hfl : (flat s).length ≤ 4294967296) (hl : ∀ r, r < s.zs.length → (s.zs.getD r []).length ≤ 4294967296) :
    Calls Tryz.prog 83 #[v] w (CpPost w fun W v' => IRow w.heap.size W v' (flat s)) := by
  obtain ⟨iT, hiT, i0, i1, i2⟩ := info_parts infoI
  obtain ⟨Post, hPost⟩ : ∃ P : Ending → World → Prop, P = CpPost w fun W v' => IRow w.heap.size W v' (flat s) := ⟨_, rfl⟩
  rw [← hPost]
  have HP : Hid (Post = CpPost w fun W v' => IRow w.heap.size W v' (flat s)) := hPost
  obtain ⟨vp, vc, vz, rfl, -, -, h3⟩ := hs
  obtain ⟨a3, k3, rfl, -, c3⟩ := zl_at h3
  have HC : Hid _ := c3
  have HL : Hid _ := hl
  have HFl : Hid (∀ i, i < s.zs.length → (s.zs.take i).flatten.length + (s.zs.getD i []).length ≤ 4294967296) := fun i hi => by
    have h1 := flat_next s.zs i hi
    have h2 := off_le9 s.zs (i + 1)
    unfold flat at hfl
    omega
  obtain ⟨n, hn0⟩ : ∃ n, n = s.zs.length := ⟨_, rfl⟩
  have HN : Hid (n = s.zs.length) := hn0
  rw [← hn0] at hz HC HL HFl ⊢
  clear hPost h3 c3 hl hfl hn0
  unfold sv
  obtain ⟨W0, hW0⟩ : ∃ W, W = w.alloc (.cells #[vp, vc, .slice a3 n k3, .int .i32 s.turn, .int .i64 s.whose, .int .i8 s.fin, .int .i64 s.winner] 30) := ⟨_, rfl⟩
  have HW0 : Hid (Up w W0 ∧ W0.heap[w.heap.size]? = some (.cells #[vp, vc, .slice a3 n k3, .int .i32 s.turn, .int .i64 s.whose, .int .i8 s.fin, .int .i64 s.winner] 30 (0, 0)) ∧ W0.heap.size = w.heap.size + 1) := ⟨by rw [hW0]; exact (Up.refl _).alloc _, by rw [hW0]; exact heap_alloc_new w _, by rw [hW0]; simp⟩
  go_enter Tryz.func83, Tryz.ntmps83
  go_wp2_with fail
  rw [← hW0]
  clear hW0
  go_loopw [3, 4] (fun s3 s4 W => ∃ (i : Nat) (va : Option Addr) (vk : Nat), i ≤ n ∧ s4 = .int .i64 i ∧ s3 = .slice va (s.zs.take i).flatten.length vk ∧ W.ownsRow W0.heap.size 3 1 (.slice va (s.zs.take i).flatten.length vk) (s.zs.take i).flatten.length (ivs (s.zs.take i).flatten) ∧ Up W0 W) (fun _ s4 _ => n - (intOf s4).toNat)
  case atStart => exact ⟨0, none, 0, Nat.zero_le _, rfl, rfl, World.ownsRow_nil _ _ _ _, Up.refl _⟩
  case round =>
    obtain ⟨i, va, vk, hi, rfl, rfl, hz9, hu⟩ := hrel
    have HZ : Hid _ := hz9
    have HU : Hid (Up W0 wr) := hu
    clear hz9 hu
    have y2 : wr.cell? ⟨w.heap.size, 2, none⟩ = some (.slice a3 n k3) := HU.out.cell (seven_cells HW0.out.2.1).2.2.1
    by_cases hlt : i < n
    · have hlt2 : (i : Int) < (n : Int) := by omega
      obtain ⟨b3, o3, rfl, hrow⟩ := HC.out (by omega)
      obtain ⟨ra, rc, hcell, hil⟩ := hrow i hlt
      have x1 := hcell wr (HW0.out.1.trans HU.out)
      have hb := HFl.out i hlt
      have HIL : Hid (LC wr (.slice ra (s.zs.getD i []).length rc) 1 (s.zs.getD i []).length (ivs (s.zs.getD i []))) := hil.up (HW0.out.1.trans HU.out)
      have HOf : Hid ((s.zs.take (i + 1)).flatten = (s.zs.take i).flatten ++ s.zs.getD i []) := off_flat s.zs i (by rw [← HN.out]; exact hlt)
      clear hcell hrow hil
      generalize s.zs.getD i [] = r at x1 hb HIL HOf
      generalize (s.zs.take i).flatten = p at hb HOf HZ ⊢
      have HSz : Hid (W0.heap.size ≤ wr.heap.size) := HU.out.size
      go_wp2_with (at_builtin; (refine wpList_append_lc (by rfl) (.tmp 12) (.tmp 17) 84 (by rfl) W0.heap.size 3 iT (.int .i64 0) 1 8 Tryz.underlying84 hiT i0 i1 i2 (by rfl) (by decide) (.slice va p.length vk) p.length (ivs p) (by rfl) HZ.out (.slice ra r.length rc) r.length (ivs r) (by rfl) HIL.out (ivs_one _) (by unfold maxLen; omega) (by omega) HSz.out ?_; intro v5 w5 hin hg1; have u5 : Up W0 w5 := (by refine Below.grown HU.out hg1 HSz.out ?_; intro k hk; exact (World.ownsRow.lt HZ.out k hk).1); obtain ⟨xa5, xk5, hx5⟩ := row_val hin; have HI5 : Hid (w5.ownsRow W0.heap.size 3 1 v5 (p.length + r.length) (ivs (p ++ r)) ∧ Up W0 w5) := (by refine ⟨?_, u5⟩; rw [ivs_app9]; exact hin); subst hx5; clear hin hg1 u5))
      go_roundw
      case rel =>
        refine ⟨i + 1, xa5, xk5, by omega, by go_num, ?_, ?_, HI5.out.2⟩
        · rw [HOf.out, List.length_append]
        · rw [HOf.out, List.length_append]; exact HI5.out.1
      case measure => simp [intOf]; omega
    · have hlt2 : ¬ (i : Int) < (n : Int) := by omega
      have hfl : (s.zs.take i).flatten = flat s := by rw [List.take_of_length_le (by rw [← HN.out]; omega)]; rfl
      rw [hfl] at HZ ⊢
      clear hfl
      go_wp2
      rw [HP.out]
      exact ⟨_, rfl, own_less HZ.out (by rw [HW0.out.2.2]; omega), HW0.out.1.trans HU.out⟩
end ST
end Go.Proofs.YtmpamcdobhiipaaGreatDoor
