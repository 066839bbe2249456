
/-
  Numbers as texts, and a builder of texts, as this program has them.
-/
import Derived.Test.YtoaaehgnbapibaaDoorWk16
import Derived.Test.YtoaaehgnbapibaaDoorSh7
import Derived.Lib.ItoaLen
import Derived.Lib.FrozenHead2
namespace Go.Proofs.YtoaaehgnbapibaaDoor
open Go.RowKit
attribute [local go_sem ↓] Go.wp_at_zero Go.wp_at_succ
namespace CD
theorem seven_f {W : World} {a : Nat} {cs : Array Value} {t : TypeId} (h : W.heap[a]? = some (.cells cs t (0, 0))) : ∀ j, W.frozen? ⟨a, j, none⟩ = false := fun j => by simp [World.frozen?, h]
theorem set_cells {W : World} {a j : Nat} {cs : Array Value} {t : TypeId} {x : Value} (h : W.heap[a]? = some (.cells cs t (0, 0))) : (W.setCell ⟨a, j, none⟩ x).heap[a]? = some (.cells (cs.setIfInBounds j x) t (0, 0)) := by
  simp only [World.setCell, Array.getElem?_modify]; rw [h]; simp
theorem set_other {W : World} {a b j : Nat} {o : Obj} {x : Value} (h : W.heap[a]? = some o) (hn : a ≠ b) : (W.setCell ⟨b, j, none⟩ x).heap[a]? = some o := by
  rw [Below.heap_setCell _ _ _ _ hn]; exact h
def TabP (W : World) : Prop := Lib.TabIs Tryd.prog W "internal/strconv.uint64pow10" .u64 Lib.pow10Tab
theorem gPow : Tryd.prog.globalNamed "internal/strconv.uint64pow10" = some 1 := by kernel_rfl
theorem TabP.up {w W : World} (h : TabP w) (u : Up w W) : TabP W := by
  unfold TabP Lib.TabIs World.var? at h ⊢
  rw [gPow] at h ⊢
  simp only [Option.bind_some] at h ⊢
  have hlt : 1 < w.heap.size := by
    rcases Nat.lt_or_ge 1 w.heap.size with h' | h'
    · exact h'
    · rw [Array.getElem?_eq_none h'] at h; cases h
  rw [u.block 1 hlt]
  exact h
def I64 (n : Int) : Prop := -9223372036854775808 ≤ n ∧ n ≤ 9223372036854775807
theorem grow_up (w : World) (k : Nat) (os : Array Obj) : Up w (Go.Sort.grow (w.drewN k) os) :=
  ⟨rfl, rfl, rfl, by show w.heap.size ≤ (w.heap ++ os).size; simp, fun g hg => by show (w.heap ++ os)[g]? = _; rw [Array.getElem?_append_left hg]⟩
theorem itoa_ (n : Int) (h : I64 n) (w : World) (hT : TabP w) : Calls Tryd.prog 63 #[.int .i64 n] w fun e w' => e = .returned (.string ⟨(Lib.itoa n).toArray⟩) ∧ Up w w' := by
  refine (Tryd.strconv_Itoa n h.1 h.2 w hT).mono ?_
  rintro e w' ⟨rfl, k, os, rfl⟩
  exact ⟨rfl, grow_up w k os⟩
abbrev BAt (B b : Nat) (p : Value) (bs : List Value) (w : World) : Prop := Lib.BuilderAtF 93 5 B b p bs w
abbrev IsB (B b : Nat) (bs : List Value) (w : World) : Prop := Lib.IsBuilderF 93 5 B b bs w
/- what is no byte, and not the builder, stays -/
def Kp (b : Nat) (w w' : World) : Prop := ∀ (g : Nat) (C : Array Value) (t : TypeId) (fr : Nat × Nat), w.heap[g]? = some (.cells C t fr) → t ≠ 5 → g ≠ b → w'.heap[g]? = some (.cells C t fr)
theorem Kp.trans {b : Nat} {x y z : World} (h : Kp b x y) (k : Kp b y z) : Kp b x z := fun g C t fr h1 h2 h3 => k g C t fr (h g C t fr h1 h2 h3) h2 h3
theorem ownF_keep {W W' : World} {base e s n : Nat} {v : Value} {xs : List Value} (h : W.ownsRowF base e s v n xs) (k : ∀ g o, v.ownBlock = some g → W.heap[g]? = some o → W'.heap[g]? = some o) : W'.ownsRowF base e s v n xs := by
  refine ⟨h.1, ?_⟩
  rcases h.2 with h0 | ⟨g, cap, cur, fz, e1, e2, e3, e4⟩
  · exact .inl h0
  · exact .inr ⟨g, cap, cur, fz, e1, e2, k _ _ (by rw [e1]; rfl) e3, e4⟩
theorem bat_up {B b : Nat} {p : Value} {bs : List Value} {w W : World} (h : BAt B b p bs w) (u : Up w W) : BAt B b p bs W := by
  obtain ⟨h1, v, h2, h3, h4⟩ := h
  exact ⟨h1, v, u.heap h2, ownF_keep h3 (fun g o _ hg => u.heap hg), h4⟩
theorem isb_up {B b : Nat} {bs : List Value} {w W : World} (h : IsB B b bs w) (u : Up w W) : IsB B b bs W := h.imp (fun x => bat_up x u) (fun x => bat_up x u)
set_option maxRecDepth 100000 in
set_option maxHeartbeats 2000000 in
theorem copyCheck_ (B b : Nat) (bs : List Value) (w : World) (h : IsB B b bs w) : Calls Tryd.prog 79 #[.pointer (some ⟨b, 0, none⟩)] w fun e w' => e = .returned (.tuple #[]) ∧ BAt B b (.pointer (some ⟨b, 0, none⟩)) bs w' ∧ Below B w w' ∧ Kp b w w' := by
  rcases h with h | h
  · obtain ⟨h1, v, h2, h3, h4⟩ := h
    have c0 : w.cell? ⟨b, 0, none⟩ = some (.pointer none) := by simp [World.cell?, h2]
    have cf := seven_f h2 0
    have HF : Hid (BAt B b (.pointer (some ⟨b, 0, none⟩)) bs (w.setCell ⟨b, 0, none⟩ (.pointer (some ⟨b, 0, none⟩))) ∧ Below B w (w.setCell ⟨b, 0, none⟩ (.pointer (some ⟨b, 0, none⟩))) ∧ Kp b w (w.setCell ⟨b, 0, none⟩ (.pointer (some ⟨b, 0, none⟩)))) := by
      refine ⟨⟨h1, v, ?_, ownF_keep h3 (fun g o hg ho => set_other ho (fun e => h4 (by rw [← e]; exact hg))), h4⟩, Below.setCell (Below.refl _ _) h1 _, fun g C t fr h _ hn => set_other h hn⟩
      rw [set_cells h2]
      rfl
    have hsh : w.shape? b = some (93, 2) := by simp [World.shape?, h2]
    obtain ⟨j, hj, hjs⟩ := Option.map_eq_some_iff.1 Tryd.Builder_Extra_169.sizeBuilder
    clear h1 h2 h3 h4
    go_enter Tryd.func79, Tryd.ntmps79
    go_wp2
    rw [Lib.run_to_unsafe w ⟨b, 0, none⟩ Tryd.underlying91 Tryd.underlying164 hj (by rw [hjs]; decide) hsh (Nat.zero_lt_succ 1)]
    simp only [Result.andThen]
    rw [Oper.upon_value]
    go_wp2
    rw [run_callFunc_extern Tryd.func92 (by kernel_rfl) (by kernel_rfl) (by kernel_rfl) (e := Extern.AbiNoEscape.same) (by kernel_rfl)]
    rw [Lib.run_noEscape]
    simp only [Result.andThen]
    rw [Oper.upon_value]
    go_wp2
    rw [Lib.run_from_unsafe w ⟨b, 0, none⟩ Tryd.underlying164 Tryd.underlying91 hj hsh Tryd.Builder_Extra_169.liesBuilder]
    simp only [Result.andThen]
    rw [Oper.upon_value]
    go_wp2
    first | exact ⟨rfl, HF.out⟩ | (go_end0; exact ⟨rfl, HF.out⟩)
  · have HF : Hid (BAt B b (.pointer (some ⟨b, 0, none⟩)) bs w) := h
    obtain ⟨h1, v, h2, h3, h4⟩ := h
    have c0 : w.cell? ⟨b, 0, none⟩ = some (.pointer (some ⟨b, 0, none⟩)) := by simp [World.cell?, h2]
    obtain ⟨j, hj, hjs⟩ := Option.map_eq_some_iff.1 Tryd.Builder_Extra_169.sizeBuilder
    clear h1 h2 h3 h4
    go_enter Tryd.func79, Tryd.ntmps79
    go_wp2
    rw [Lib.run_neq_ptr_same w _ Tryd.underlying91 hj]
    go_wp2
    first | exact ⟨rfl, HF.out, Below.refl _ _, fun _ _ _ _ h _ _ => h⟩ | (go_end0; exact ⟨rfl, HF.out, Below.refl _ _, fun _ _ _ _ h _ _ => h⟩)
theorem infoByte9 : (Tryd.prog.info? 5).map (fun i => (i.zero, i.size, i.bytes)) = some (some (.int .u8 0), 1, 1) := by kernel_rfl
set_option maxRecDepth 100000 in
set_option maxHeartbeats 2000000 in
theorem wstr_ (B b : Nat) (l s : List UInt8) (w : World) (h : IsB B b (Lib.byteCells l) w) (hlen : l.length + s.length ≤ 140737488355328) (hBw : B ≤ w.heap.size) : Calls Tryd.prog 62 #[.pointer (some ⟨b, 0, none⟩), .string ⟨s.toArray⟩] w fun e w' => e = .returned (.tuple #[.int .i64 (s.length : Nat), .nilIface]) ∧ IsB B b (Lib.byteCells (l ++ s)) w' ∧ Below B w w' ∧ Kp b w w' := by
  obtain ⟨i0, hi, hz0, hz1, hz2⟩ := info_parts infoByte9
  have HC : Hid _ := copyCheck_ B b _ w h
  have hbl : (Lib.byteCells l).length = l.length := Lib.byteCells_length l
  have hss : (⟨s.toArray⟩ : ByteArray).size = s.length := by simp [ByteArray.size]
  clear h
  go_enter Tryd.func62, Tryd.ntmps62
  go_wp2_with fail
  refine Calls.mono HC.out ?_
  rintro e w1 ⟨rfl, ⟨hB, v, hbk, hown, hne⟩, hb1, hk1⟩
  have c1 : w1.cell? ⟨b, 1, none⟩ = some v := by simp [World.cell?, hbk]
  have hlt : b < w1.heap.size := (Array.getElem?_eq_some_iff.1 hbk).1
  have HF : Hid (∀ v' w2, w2.ownsRowF B 5 1 v' ((Lib.byteCells l).length + s.length) (Lib.byteCells l ++ Lib.strCells ⟨s.toArray⟩) → w1.grownBy w2 v.ownBlock → w2.cell? ⟨b, 1, none⟩ = some v ∧ w2.frozen? ⟨b, 1, none⟩ = false ∧ IsB B b (Lib.byteCells (l ++ s)) (w2.setCell ⟨b, 1, none⟩ v') ∧ Below B w (w2.setCell ⟨b, 1, none⟩ v') ∧ Kp b w (w2.setCell ⟨b, 1, none⟩ v')) := fun v' w2 ho hg => by
    have hb2 : w2.heap[b]? = some (.cells #[.pointer (some ⟨b, 0, none⟩), v] 93 (0, 0)) := by
      rw [hg.block b hlt (fun e => hne e.symm)]
      exact hbk
    have e1 : Lib.byteCells l ++ Lib.strCells ⟨s.toArray⟩ = Lib.byteCells (l ++ s) := by simp [Lib.byteCells, Lib.strCells]
    rw [e1] at ho
    refine ⟨by simp [World.cell?, hb2], seven_f hb2 1, .inr ?_, (hb1.grown hg (by have := hb1.size; omega) (fun k hk => (hown.lt k hk).1)).setCell (p := ⟨b, 1, none⟩) hB _, fun g C t fr h1 h2 h3 => ?_⟩
    rotate_left
    · refine set_other ?_ h3
      have h4 := hk1 g C t fr h1 h2 h3
      rw [hg.block g (Array.getElem?_eq_some_iff.1 h4).1 ?_]
      · exact h4
      · rcases hown.2 with ⟨rfl, -⟩ | ⟨g1, cap1, cur1, fz1, rfl, -, h5, -⟩
        · simp [Value.ownBlock]
        · intro e
          have e : g = g1 := by simpa [Value.ownBlock] using e
          subst e
          rw [h5] at h4
          injection h4 with h6
          injection h6 with _ h7
          exact h2 h7.symm
    exact Lib.BuilderAtF.put (T := 93) (e := 5) hB hb2 (bs' := Lib.byteCells (l ++ s)) (by rw [Lib.byteCells_length] at ho ⊢; rw [List.length_append]; exact ho) (by decide)
  have HO : Hid _ := hown
  have hsz := hb1.size
  have HSZ : Hid (B ≤ w1.heap.size) := by unfold Hid; omega
  obtain ⟨va, vn, vc, hv⟩ : ∃ a n c, v = .slice a n c := by
    rcases hown.2 with ⟨hv, _⟩ | ⟨g, cap, cur, fz, hv, _⟩
    · exact ⟨_, _, _, hv⟩
    · exact ⟨_, _, _, hv⟩
  clear hb1 hbk hne hown hlt hB HC hsz hk1
  subst hv
  go_wp2_with (at_builtin; go_loud (refine Lib.wpList_append_own_stringF _ rfl _ _ 25 9 rfl B 5 i0 Tryd.underlying25 Tryd.underlying9 hi hz0 hz1 hz2 _ _ _ rfl HO.out ⟨s.toArray⟩ rfl (by unfold maxLen; rw [hbl, hss]; omega) (by rw [hbl, hss]; omega) HSZ.out ?_; intro v' w2 a1 a2 _; obtain ⟨d1, d2, d3⟩ := HF.out v' w2 (by rw [hss] at a1; exact a1) a2; have HZ : Hid _ := d3; obtain ⟨ao, n', cap, hx⟩ : ∃ a n c, v' = .slice a n c := (by rcases a1.2 with ⟨hv, _⟩ | ⟨g, cap, cur, fz, hv, _⟩ <;> exact ⟨_, _, _, hv⟩); subst hx; clear a1 a2 d3))
  go_wp2
  go_ret2
  exact ⟨rfl, HZ.out⟩

end CD
end Go.Proofs.YtoaaehgnbapibaaDoor
