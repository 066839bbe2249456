
/-
  The document's cutter in memory; whether a text stands at its place.
-/
import Derived.Test.YtjjikeehifndhaaDoorRv8
import Derived.Test.YtjjikeehifndhaaDoorRy8
namespace Go.Proofs.YtjjikeehifndhaaDoor
open Go.RowKit
attribute [local go_sem ↓] Go.wp_at_zero Go.wp_at_succ
namespace TK
/- the cutter at block g: its source, its place, its fault -/
structure RC (w0 : World) (g : Nat) (vb : Value) (B : List Int) (p : Nat) (bad : Int) (W : World) : Prop where
  hp : W.heap[g]? = some (.cells #[vb, .int .i64 p, .int .i64 bad] 77 (0, 0))
  up : Up w0 W
  le : w0.heap.size ≤ g
  bl : BL w0 vb B
  byt : Byt B
  len : B.length ≤ 65536
  at_le : p ≤ B.length
theorem RC.kb {w0 : World} {g : Nat} {vb : Value} {B : List Int} {p : Nat} {bad : Int} {W W' : World} (h : RC w0 g vb B p bad W) (u : Up W W') : RC w0 g vb B p bad W' := ⟨u.heap h.hp, h.up.trans u, h.le, h.bl, h.byt, h.len, h.at_le⟩
theorem RC.cells {w0 : World} {g : Nat} {vb : Value} {B : List Int} {p : Nat} {bad : Int} {W : World} (h : RC w0 g vb B p bad W) : W.cell? ⟨g, 0, none⟩ = some vb ∧ W.cell? ⟨g, 1, none⟩ = some (.int .i64 p) ∧ W.cell? ⟨g, 2, none⟩ = some (.int .i64 bad) := by
  refine ⟨?_, ?_, ?_⟩ <;> simp only [World.cell?, h.hp] <;> rfl
theorem RC.go {w0 : World} {g : Nat} {vb : Value} {B : List Int} {p : Nat} {bad : Int} {W : World} (h : RC w0 g vb B p bad W) (q : Nat) (hq : q ≤ B.length) : RC w0 g vb B q bad (W.setCell ⟨g, 1, none⟩ (.int .i64 (q : Int))) :=
  ⟨by rw [set_cells h.hp]; simp, Below.setCell h.up h.le _, h.le, h.bl, h.byt, h.len, hq⟩
theorem RC.fault {w0 : World} {g : Nat} {vb : Value} {B : List Int} {p : Nat} {bad : Int} {W : World} (h : RC w0 g vb B p bad W) (q : Int) : RC w0 g vb B p q (W.setCell ⟨g, 2, none⟩ (.int .i64 q)) :=
  ⟨by rw [set_cells h.hp]; simp, Below.setCell h.up h.le _, h.le, h.bl, h.byt, h.len, h.at_le⟩
theorem nums_inj {a b : List Int} (ha : Byt a) (hb : Byt b) : (strOfNums a).toList = (strOfNums b).toList ↔ a = b := by
  constructor
  · intro h
    rw [nums_list, nums_list] at h
    have k : ∀ l : List Int, Byt l → (l.map fun n => UInt8.ofNat n.toNat).map (fun b => (b.toNat : Int)) = l := by
      intro l hl
      rw [List.map_map]
      conv => rhs; rw [← List.map_id l]
      refine List.map_congr_left fun c hc => ?_
      have := hl c hc
      simp only [Function.comp, UInt8.toNat_ofNat', id]
      omega
    rw [← k a ha, ← k b hb, h]
  · intro h
    rw [h]
/- whether l stands at the place p -/
def isB (B : List Int) (p : Nat) (l : List Int) : Bool := decide (p + l.length ≤ B.length) && decide (sub B p (p + l.length) = l)
set_option maxRecDepth 100000 in
set_option maxHeartbeats 8000000 in
theorem ris_ (w0 : World) (g : Nat) (vb : Value) (B : List Int) (p : Nat) (bad : Int) (l : List Int) (w : World) (h : RC w0 g vb B p bad w) (hl : Byt l) (hl0 : l.length ≠ 0) (hl9 : l.length ≤ 65536) :
    Calls Tryd.prog 73 #[.pointer (some ⟨g, 0, none⟩), .string (strOfNums l)] w fun e w' => e = .returned (.bool (isB B p l)) ∧ Up w w' := by
  obtain ⟨Post, hPost⟩ : ∃ P : Ending → World → Prop, P = fun e w' => e = .returned (.bool (isB B p l)) ∧ Up w w' := ⟨_, rfl⟩
  rw [← hPost]
  have HPo : Hid (Post = fun e w' => e = .returned (.bool (isB B p l)) ∧ Up w w') := hPost
  clear hPost
  obtain ⟨x0, x1, x2⟩ := h.cells
  obtain ⟨a, c, hvb, hc, hce⟩ := bl_cells (h.bl.up h.up)
  have hlen := h.len
  have hle := h.at_le
  have HBY : Hid (Byt B) := h.byt
  have hsz : (strOfNums l).size = l.length := strOfNums_size _
  obtain ⟨n, hN⟩ : ∃ n, n = B.length := ⟨_, rfl⟩
  have HN : Hid (n = B.length) := hN
  rw [← hN] at hvb hc hce hlen hle
  subst hvb
  have e1 : IntKind.i64.wrap ((p : Int) + ((strOfNums l).size : Int)) = (p : Int) + ((strOfNums l).size : Int) := by rw [IntKind.wrap_i64]; omega
  by_cases hin : p + l.length ≤ n
  · obtain ⟨b, off, rfl, hba⟩ := hce (by omega)
    have hq1 : ((p : Int) + ((strOfNums l).size : Int)) ≤ (n : Int) := by omega
    have hq2 : p + (strOfNums l).size ≤ n := by omega
    have hpc : p < c := by omega
    have hs0 : (0 : Int) ≤ (p : Int) + ((strOfNums l).size : Int) := by omega
    have hs1 : (p : Int) + ((strOfNums l).size : Int) ≤ (c : Int) := by omega
    have hs2 : ((p : Int) + ((strOfNums l).size : Int)).toNat = p + (strOfNums l).size := by omega
    have hs3 : p ≤ c := by omega
    have hs4 : p + (strOfNums l).size ≤ c := by omega
    have hs5 : ¬ c = p := by omega
    have hBA : BA w b off B := fun W u j hj => hba W u j (by omega)
    have hcv : ∀ k, (convert 22 9 (.slice (some ⟨b, off + p, none⟩) (strOfNums l).size (c - p))).run Tryd.prog (w.drewN k) = .ok (.string (strOfNums (sub B p (p + (strOfNums l).size)))) (w.drewN k) := fun k => by
      have h9 := conv_sub (hBA.up ((Up.refl w).drewN k)) (p := p) (e := p + l.length) (by omega) (c - p)
      rw [Nat.add_sub_cancel_left, ← hsz] at h9
      exact h9
    have HE : Hid (isB B p l = decide ((strOfNums (sub B p (p + (strOfNums l).size))).toList = (strOfNums l).toList)) := by
      unfold Hid isB
      rw [decide_eq_true (show p + l.length ≤ B.length by omega), Bool.true_and, hsz]
      exact decide_eq_decide.2 (nums_inj (byt_sub HBY.out (by omega)) hl).symm
    clear hba hBA hsz hN hin hl h hl0 hl9
    generalize strOfNums (sub B p (p + (strOfNums l).size)) = y at *
    generalize strOfNums l = s at *
    by_cases hy : y.toList = s.toList
    · have HE2 : Hid (isB B p l = true) := by unfold Hid; rw [HE.out]; exact decide_eq_true hy
      clear HE
      have hy2 : (y.toList == s.toList) = true := by simpa using hy
      go_enter Tryd.func73, Tryd.ntmps73
      go_wp2_with fail
      go_quiet (fail)
      go_wp2
      rw [HPo.out, HE2.out]
      exact ⟨rfl, (Up.refl _).drewN nq⟩
    · have HE2 : Hid (isB B p l = false) := by unfold Hid; rw [HE.out]; exact decide_eq_false hy
      clear HE
      have hy2 : (y.toList == s.toList) = false := by simpa using hy
      go_enter Tryd.func73, Tryd.ntmps73
      go_wp2_with fail
      go_quiet (fail)
      go_wp2
      rw [HPo.out, HE2.out]
      exact ⟨rfl, (Up.refl _).drewN nq⟩
  · have hq1 : ¬ ((p : Int) + ((strOfNums l).size : Int)) ≤ (n : Int) := by omega
    have HE2 : Hid (isB B p l = false) := by
      unfold Hid isB
      rw [decide_eq_false (by omega), Bool.false_and]
    have hq2 : decide ((p : Int) + ((strOfNums l).size : Int) ≤ (n : Int)) = false := decide_eq_false hq1
    clear hce hsz hN hin hl h hl0 hl9
    generalize strOfNums l = s at *
    go_enter Tryd.func73, Tryd.ntmps73
    go_wp2_with fail
    go_quiet (fail)
    go_wp2
    rw [HPo.out, HE2.out]
    exact ⟨rfl, (Up.refl _).drewN nq⟩
end TK
end Go.Proofs.YtjjikeehifndhaaDoor
