/-
  Nodes in memory; whether a row goes on, and how often.
-/
import Derived.Test.YtgahdppcdeefaaaKk9
import Derived.Test.YtgahdppcdeefaaaKr9
import Derived.Test.YtgahdppcdeefaaaLc
namespace Go.Proofs.Ytgahdppcdeefaaa
open Go.RowKit
attribute [local go_sem ↓] Go.wp_at_zero Go.wp_at_succ
namespace TR
def ndc (x : Nd) : List Value := [.int .i8 x.op, .int .i8 x.kind, .int .i64 x.n, .int .i64 x.m, .string (strOfNums x.text), .int .i64 x.pos, .int .i64 x.kids]
def nvs (l : List Nd) : List Value := l.flatMap ndc
def NLs (W : World) (v : Value) (l : List Nd) : Prop := LC W v 7 l.length (nvs l)
theorem NLs.up {W W' : World} {v : Value} {l : List Nd} (h : NLs W v l) (u : Up W W') : NLs W' v l := LC.up h u
theorem nvs_get : ∀ (l : List Nd) (i j : Nat), i < l.length → j < 7 → (nvs l)[i * 7 + j]? = (ndc (l.getD i dn))[j]? := fun l i j hi hj => flat_get ndc 7 (fun _ => rfl) dn l i j hi hj
theorem nl_at {w : World} {v : Value} {l : List Nd} (h : NLs w v l) : ∃ a cap, v = .slice a l.length cap ∧ l.length ≤ cap ∧ (l.length ≠ 0 → ∃ b off, a = some ⟨b, off, none⟩ ∧ ∀ W, Up w W → ∀ i, i < l.length → ∀ j x, (ndc (l.getD i dn))[j]? = some x → W.cell? ⟨b, off + i * 7 + j, none⟩ = some x) := by
  obtain ⟨h0, a, cap, hv, hc, h⟩ := h
  refine ⟨a, cap, hv, hc, fun hn => ?_⟩
  obtain ⟨b, off, ha, hcell⟩ := h hn
  refine ⟨b, off, ha, fun W hu i hi j x hx => ?_⟩
  have hj : j < 7 := by
    have := (List.getElem?_eq_some_iff.1 hx).1
    simpa [ndc] using this
  have h9 := hcell (i * 7 + j) (by omega)
  rw [nvs_get l i j hi hj, hx] at h9
  rw [Nat.add_assoc]
  exact hu.cell h9
def kvc (k : Kd) (f u : Value) : Array Value := #[.int .i64 k.is, .int .i64 k.rank, .bool k.row, .int .i64 k.opens, .int .i64 k.most, f, .int .i64 k.each, u]
theorem kvc_one (k : Kd) (f u : Value) (hf : f.oneCell' = true) (hu : u.oneCell' = true) : (kvc k f u).all (·.oneCell') = true := by
  unfold kvc
  simp [Value.oneCell'] at hf hu ⊢
  exact ⟨hf, hu⟩
theorem infoKd : (Try.prog.info? 76).map (·.size) = some 8 := by kernel_rfl
def zK : Array Value := #[.int .i64 0, .int .i64 0, .bool false, .int .i64 0, .int .i64 0, .nilFunc, .int .i64 0, .slice none 0 0]
theorem tx_one {W : World} {x : Tx} {f : Value} (h : TxR W x f) : f.oneCell' = true := by
  cases x with
  | none => obtain rfl : f = .nilFunc := h; rfl
  | txt => obtain rfl : f = .func (.func 47) #[] #[] := h; rfl
  | nam => obtain rfl : f = .func (.func 60) #[] #[] := h; rfl
  | free also => obtain ⟨g, u, rfl, -⟩ := h; rfl
theorem wy_val {W : World} {u : Value} {l : List (List Plc)} (h : WY W u l) : u.oneCell' = true := by
  obtain ⟨a, rfl, -⟩ := h
  rfl
theorem run_kdU {W : World} {m : Nat} (h : TP W m tab) (op : Int) : ∃ f u, TxR W (kd op).text f ∧ WY W u (kd op).ways ∧ ∀ W', Up W W' → (Instr.lookup 46 (.map (some m)) (.int .i8 op) false).run Try.prog W' = .ok (.agg (kvc (kd op) f u)) W' := by
  obtain ⟨l, h1, h2, h3⟩ := h
  have hr := fun W' (x : Up W W') => run_look uMap uI8 (h1.up x) op (zkind W')
  rcases lk_rel tab l h2 h3 op with ⟨h4, h5⟩ | ⟨k, v, h4, h5, h6⟩
  · have e : kd op = k0 := by unfold kd; rw [h4]; rfl
    rw [e]
    exact ⟨.nilFunc, .slice none 0 0, rfl, wy_nil _, fun W' x => by rw [hr W' x, h5]; rfl⟩
  · have e : kd op = k := by unfold kd; rw [h4]; rfl
    rw [e]
    obtain ⟨f, u, rfl, h7, h8⟩ := h6
    exact ⟨f, u, h7, h8, fun W' x => by rw [hr W' x, h5]; rfl⟩
/- the walker -/
def wkc (m : Nat) (v : Value) (p : Nat) (wv : Value) (d : Nat) : Array Value := #[.map (some m), v, .int .i64 (p : Int), wv, .int .i64 (d : Int)]
def WK (W : World) (g m : Nat) (v : Value) (p : Nat) (wv : Value) (d : Nat) : Prop := W.heap[g]? = some (.cells (wkc m v p wv d) 50 (0, 0))
theorem WK.up {W W' : World} {g m p d : Nat} {v wv : Value} (h : WK W g m v p wv d) (u : Up W W') : WK W' g m v p wv d := u.heap h
theorem WK.cells {W : World} {g m p d : Nat} {v wv : Value} (h : WK W g m v p wv d) : W.cell? ⟨g, 0, none⟩ = some (.map (some m)) ∧ W.cell? ⟨g, 1, none⟩ = some v ∧ W.cell? ⟨g, 2, none⟩ = some (.int .i64 (p : Int)) ∧ W.cell? ⟨g, 3, none⟩ = some wv ∧ W.cell? ⟨g, 4, none⟩ = some (.int .i64 (d : Int)) := by
  unfold WK at h
  refine ⟨?_, ?_, ?_, ?_, ?_⟩ <;> (simp only [World.cell?, h]; rfl)
theorem gos_drop {l : List Nd} {p : Nat} (h : p + 1 < l.length) : gos (l.drop p) = ((kd (l.getD p dn).op).row && ((kd (l.getD (p + 1) dn).op).row && (kd (l.getD p dn).op).rank == (kd (l.getD (p + 1) dn).op).rank)) := by
  rw [List.drop_eq_getElem_cons (by omega), List.drop_eq_getElem_cons h]
  simp only [List.getD_eq_getElem?_getD, List.getElem?_eq_getElem h, List.getElem?_eq_getElem (show p < l.length by omega), Option.getD_some]
  rfl
theorem gos_end {l : List Nd} {p : Nat} (h : ¬ p + 1 < l.length) : gos (l.drop p) = false := by
  rcases hd : l.drop p with _ | ⟨a, _ | ⟨b, r⟩⟩
  · rfl
  · rfl
  · have := congrArg List.length hd
    simp at this
    omega
set_option maxRecDepth 100000 in
set_option maxHeartbeats 8000000 in
theorem goesOn_ (g m : Nat) (v wv : Value) (q d p : Nat) (l : List Nd) (w : World) (hk : WK w g m v q wv d) (ht : TP w m tab) (hl : NLs w v l) (hp : p ≤ 4611686018427387904) : Calls Try.prog 54 #[.pointer (some ⟨g, 0, none⟩), .int .i64 (p : Int)] w fun e w' => e = .returned (.bool (gos (l.drop p))) ∧ Up w w' := by
  obtain ⟨Post, hPost⟩ : ∃ P : Ending → World → Prop, P = fun e w' => e = .returned (.bool (gos (l.drop p))) ∧ Up w w' := ⟨_, rfl⟩
  rw [← hPost]
  have HPo : Hid (Post = fun e w' => e = .returned (.bool (gos (l.drop p))) ∧ Up w w') := hPost
  clear hPost
  obtain ⟨a, c, rfl, hc, hcell⟩ := nl_at hl
  obtain ⟨c0, c1, -⟩ := hk.cells
  have e1 : IntKind.i64.wrap ((p : Int) + 1) = ((p + 1 : Nat) : Int) := by rw [IntKind.wrap_i64]; omega
  by_cases hlt : p + 1 < l.length
  · have HG : Hid (gos (l.drop p) = ((kd (l.getD p dn).op).row && ((kd (l.getD (p + 1) dn).op).row && (kd (l.getD p dn).op).rank == (kd (l.getD (p + 1) dn).op).rank))) := gos_drop hlt
    obtain ⟨b, off, rfl, hce⟩ := hcell (by omega)
    have x0 : w.cell? ⟨b, off + p * 7, none⟩ = some (.int .i8 (l.getD p dn).op) := hce w (Up.refl _) p (by omega) 0 _ rfl
    have x1 : w.cell? ⟨b, off + (p + 1) * 7, none⟩ = some (.int .i8 (l.getD (p + 1) dn).op) := hce w (Up.refl _) (p + 1) hlt 0 _ rfl
    obtain ⟨n, hN⟩ : ∃ n, n = l.length := ⟨_, rfl⟩
    rw [← hN] at c1 hlt hc
    generalize (l.getD p dn).op = o0 at *
    generalize (l.getD (p + 1) dn).op = o1 at *
    obtain ⟨f0, y0, t0, s0, hl0⟩ := run_kdU ht o0
    obtain ⟨f1, y1, t1, s1, hl1⟩ := run_kdU ht o1
    have hf0 := tx_one t0
    have hf1 := tx_one t1
    have hy0 := wy_val s0
    have hy1 := wy_val s1
    have HL0 : Hid (∀ W', Up w W' → (Instr.lookup 46 (.map (some m)) (.int .i8 o0) false).run Try.prog W' = .ok (.agg (kvc (kd o0) f0 y0)) W') := hl0
    have HL1 : Hid (∀ W', Up w W' → (Instr.lookup 46 (.map (some m)) (.int .i8 o1) false).run Try.prog W' = .ok (.agg (kvc (kd o1) f1 y1)) W') := hl1
    have hl2 : ¬ (n : Int) ≤ ((p + 1 : Nat) : Int) := by omega
    have hl3 : ¬ (n : Int) ≤ (p : Int) + 1 := by omega
    have hpn : p < n := by omega
    have hpn1 : 0 ≤ (p : Int) + 1 ∧ (p : Int) + 1 < (n : Int) := by omega
    have htn : ((p : Int) + 1).toNat = p + 1 := by omega
    clear hl0 hl1 t0 t1 s0 s1 hce hcell hN hl ht hk
    go_enter Try.func54, Try.ntmps54
    go_upto_region 3 with fail
    refine (fun key3 : ∀ (W9 : World) (pa pb : Nat), Up w W9 → W9.heap[pa]? = some (.cells (kvc (kd o0) f0 y0) 76 (0, 0)) → W9.heap[pb]? = some (.cells (kvc (kd o1) f1 y1) 76 (0, 0)) → (?G3 : World → Nat → Nat → Prop) W9 pa pb => ?main3) ?kp3
    case main3 =>
      refine wp_region_held_drew (S := fun W9 => Up w W9) (by kernel_rfl) (Up.drew (Up.refl _)) (fun hHeld => ?_)
      have Ua0 : Up w w.drew := Up.drew (Up.refl _)
      refine wpAnyH_take (i := 0) (v := ?_) rfl (by kernel_rfl) (by kernel_rfl) (by kernel_rfl) (fun _ _ _ h => h) (Or.inl ⟨by rfl, ?_⟩) (by assumption) ?_
      rotate_left
      · intro w9 hSw
        go_simp
        try with_reducible rfl
      simp only [Act.put, List.setIfInBounds_toArray, List.set_cons_zero, List.set_cons_succ, List.getElem_toArray, List.getElem_cons_zero]
      refine wpAnyH_take (i := 1) (v := ?_) rfl (by kernel_rfl) (by kernel_rfl) (by kernel_rfl) (fun _ _ _ h => h) (Or.inl ⟨by rfl, ?_⟩) (by assumption) ?_
      rotate_left
      · intro w9 hSw
        go_simp
        try with_reducible rfl
      simp only [Act.put, List.setIfInBounds_toArray, List.set_cons_zero, List.set_cons_succ, List.getElem_toArray, List.getElem_cons_zero, List.getElem_cons_succ]
      refine wpAnyH_take (i := 2) (v := ?_) rfl (by kernel_rfl) (by kernel_rfl) (by kernel_rfl) (fun _ _ _ h => h) (Or.inl ⟨by rfl, ?_⟩) (by assumption) ?_
      rotate_left
      · intro w9 hSw
        go_simp
        try with_reducible rfl
      simp only [Act.put, List.setIfInBounds_toArray, List.set_cons_zero, List.set_cons_succ, List.getElem_toArray, List.getElem_cons_zero, List.getElem_cons_succ]
      refine wpAnyH_take (i := 3) (v := ?_) rfl (by kernel_rfl) (by kernel_rfl) (by kernel_rfl) (fun _ _ _ h => h) (Or.inl ⟨by rfl, ?_⟩) (by assumption) ?_
      rotate_left
      · intro w9 hSw
        have c2 := hSw.cell c0
        go_simp
        try with_reducible rfl
      simp only [Act.put, List.setIfInBounds_toArray, List.set_cons_zero, List.set_cons_succ, List.getElem_toArray, List.getElem_cons_zero, List.getElem_cons_succ]
      refine wpAnyH_take (i := 4) (v := ?_) rfl (by kernel_rfl) (by kernel_rfl) (by kernel_rfl) (fun _ _ _ h => h) (Or.inl ⟨by rfl, ?_⟩) (by assumption) ?_
      rotate_left
      · intro w9 hSw
        go_simp
        try with_reducible rfl
      simp only [Act.put, List.setIfInBounds_toArray, List.set_cons_zero, List.set_cons_succ, List.getElem_toArray, List.getElem_cons_zero, List.getElem_cons_succ]
      refine wpAnyH_take (i := 5) (v := ?_) rfl (by kernel_rfl) (by kernel_rfl) (by kernel_rfl) (fun _ _ _ h => h) (Or.inl ⟨by rfl, ?_⟩) (by assumption) ?_
      rotate_left
      · intro w9 hSw
        go_simp
        try with_reducible rfl
      simp only [Act.put, List.setIfInBounds_toArray, List.set_cons_zero, List.set_cons_succ, List.getElem_toArray, List.getElem_cons_zero, List.getElem_cons_succ]
      refine wpAnyH_take (i := 6) (v := ?_) rfl (by kernel_rfl) (by kernel_rfl) (by kernel_rfl) (fun _ _ _ h => h) (Or.inl ⟨by rfl, ?_⟩) (by assumption) ?_
      rotate_left
      · intro w9 hSw
        go_simp
        try with_reducible rfl
      simp only [Act.put, List.setIfInBounds_toArray, List.set_cons_zero, List.set_cons_succ, List.getElem_toArray, List.getElem_cons_zero, List.getElem_cons_succ]
      refine wpAnyH_take (i := 7) (v := ?_) rfl (by kernel_rfl) (by kernel_rfl) (by kernel_rfl) (fun _ _ _ h => h) (Or.inl ⟨by rfl, ?_⟩) (by assumption) ?_
      rotate_left
      · intro w9 hSw
        have c2 := hSw.cell c1
        go_simp
        try with_reducible rfl
      simp only [Act.put, List.setIfInBounds_toArray, List.set_cons_zero, List.set_cons_succ, List.getElem_toArray, List.getElem_cons_zero, List.getElem_cons_succ]
      refine wpAnyH_take (i := 8) (v := ?_) rfl (by kernel_rfl) (by kernel_rfl) (by kernel_rfl) (fun _ _ _ h => h) (Or.inl ⟨by rfl, ?_⟩) (by assumption) ?_
      rotate_left
      · intro w9 hSw
        go_simp
        try with_reducible rfl
      simp only [Act.put, List.setIfInBounds_toArray, List.set_cons_zero, List.set_cons_succ, List.getElem_toArray, List.getElem_cons_zero, List.getElem_cons_succ]
      refine wpAnyH_take (i := 9) (v := ?_) rfl (by kernel_rfl) (by kernel_rfl) (by kernel_rfl) (fun _ _ _ h => h) (Or.inl ⟨by rfl, ?_⟩) (by assumption) ?_
      rotate_left
      · intro w9 hSw
        go_simp
        try with_reducible rfl
      simp only [Act.put, List.setIfInBounds_toArray, List.set_cons_zero, List.set_cons_succ, List.getElem_toArray, List.getElem_cons_zero, List.getElem_cons_succ]
      refine wpAnyH_take (i := 10) (v := ?_) rfl (by kernel_rfl) (by kernel_rfl) (by kernel_rfl) (fun _ _ _ h => h) (Or.inl ⟨by rfl, ?_⟩) (by assumption) ?_
      rotate_left
      · intro w9 hSw
        go_simp
        try with_reducible rfl
      simp only [Act.put, List.setIfInBounds_toArray, List.set_cons_zero, List.set_cons_succ, List.getElem_toArray, List.getElem_cons_zero, List.getElem_cons_succ]
      refine wpAnyH_take (i := 11) (v := ?_) rfl (by kernel_rfl) (by kernel_rfl) (by kernel_rfl) (fun _ _ _ h => h) (Or.inl ⟨by rfl, ?_⟩) (by assumption) ?_
      rotate_left
      · intro w9 hSw
        have c2 := hSw.cell x0
        go_simp
        try with_reducible rfl
      simp only [Act.put, List.setIfInBounds_toArray, List.set_cons_zero, List.set_cons_succ, List.getElem_toArray, List.getElem_cons_zero, List.getElem_cons_succ]
      refine wpAnyH_take (i := 12) (v := ?_) rfl (by kernel_rfl) (by kernel_rfl) (by kernel_rfl) (fun _ _ _ h => h) (Or.inl ⟨by rfl, ?_⟩) (by assumption) ?_
      rotate_left
      · intro w9 hSw
        have c2 := HL0.out w9 hSw
        go_simp
        try with_reducible rfl
      simp only [Act.put, List.setIfInBounds_toArray, List.set_cons_zero, List.set_cons_succ, List.getElem_toArray, List.getElem_cons_zero, List.getElem_cons_succ]
      refine wpAnyH_take (i := 13) (v := ?_) rfl (by kernel_rfl) (by kernel_rfl) (by kernel_rfl) (fun _ _ _ h => h) (Or.inl ⟨by rfl, ?_⟩) (by assumption) ?_
      rotate_left
      · intro w9 hSw
        go_simp
        try with_reducible rfl
      simp only [Act.put, List.setIfInBounds_toArray, List.set_cons_zero, List.set_cons_succ, List.getElem_toArray, List.getElem_cons_zero, List.getElem_cons_succ]
      refine wpAnyH_take (i := 14) (v := ?_) rfl (by kernel_rfl) (by kernel_rfl) (by kernel_rfl) (fun _ _ _ h => h) (Or.inl ⟨by rfl, ?_⟩) (by assumption) ?_
      rotate_left
      · intro w9 hSw
        go_simp
        try with_reducible rfl
      simp only [Act.put, List.setIfInBounds_toArray, List.set_cons_zero, List.set_cons_succ, List.getElem_toArray, List.getElem_cons_zero, List.getElem_cons_succ]
      refine wpAnyH_take (i := 15) (v := ?_) rfl (by kernel_rfl) (by kernel_rfl) (by kernel_rfl) (fun _ _ _ h => h) (Or.inl ⟨by rfl, ?_⟩) (by assumption) ?_
      rotate_left
      · intro w9 hSw
        go_simp
        try with_reducible rfl
      simp only [Act.put, List.setIfInBounds_toArray, List.set_cons_zero, List.set_cons_succ, List.getElem_toArray, List.getElem_cons_zero, List.getElem_cons_succ]
      refine wpAnyH_take (i := 16) (v := ?_) rfl (by kernel_rfl) (by kernel_rfl) (by kernel_rfl) (fun _ _ _ h => h) (Or.inl ⟨by rfl, ?_⟩) (by assumption) ?_
      rotate_left
      · intro w9 hSw
        have c2 := hSw.cell c0
        go_simp
        try with_reducible rfl
      simp only [Act.put, List.setIfInBounds_toArray, List.set_cons_zero, List.set_cons_succ, List.getElem_toArray, List.getElem_cons_zero, List.getElem_cons_succ]
      refine wpAnyH_take (i := 17) (v := ?_) rfl (by kernel_rfl) (by kernel_rfl) (by kernel_rfl) (fun _ _ _ h => h) (Or.inl ⟨by rfl, ?_⟩) (by assumption) ?_
      rotate_left
      · intro w9 hSw
        go_simp
        try with_reducible rfl
      simp only [Act.put, List.setIfInBounds_toArray, List.set_cons_zero, List.set_cons_succ, List.getElem_toArray, List.getElem_cons_zero, List.getElem_cons_succ]
      refine wpAnyH_take (i := 18) (v := ?_) rfl (by kernel_rfl) (by kernel_rfl) (by kernel_rfl) (fun _ _ _ h => h) (Or.inl ⟨by rfl, ?_⟩) (by assumption) ?_
      rotate_left
      · intro w9 hSw
        go_simp
        try with_reducible rfl
      simp only [Act.put, List.setIfInBounds_toArray, List.set_cons_zero, List.set_cons_succ, List.getElem_toArray, List.getElem_cons_zero, List.getElem_cons_succ]
      refine wpAnyH_take (i := 19) (v := ?_) rfl (by kernel_rfl) (by kernel_rfl) (by kernel_rfl) (fun _ _ _ h => h) (Or.inl ⟨by rfl, ?_⟩) (by assumption) ?_
      rotate_left
      · intro w9 hSw
        go_simp
        try with_reducible rfl
      simp only [Act.put, List.setIfInBounds_toArray, List.set_cons_zero, List.set_cons_succ, List.getElem_toArray, List.getElem_cons_zero, List.getElem_cons_succ]
      refine wpAnyH_take (i := 20) (v := ?_) rfl (by kernel_rfl) (by kernel_rfl) (by kernel_rfl) (fun _ _ _ h => h) (Or.inl ⟨by rfl, ?_⟩) (by assumption) ?_
      rotate_left
      · intro w9 hSw
        have c2 := hSw.cell c1
        go_simp
        try with_reducible rfl
      simp only [Act.put, List.setIfInBounds_toArray, List.set_cons_zero, List.set_cons_succ, List.getElem_toArray, List.getElem_cons_zero, List.getElem_cons_succ]
      refine wpAnyH_take (i := 21) (v := ?_) rfl (by kernel_rfl) (by kernel_rfl) (by kernel_rfl) (fun _ _ _ h => h) (Or.inl ⟨by rfl, ?_⟩) (by assumption) ?_
      rotate_left
      · intro w9 hSw
        go_simp
        try with_reducible rfl
      simp only [Act.put, List.setIfInBounds_toArray, List.set_cons_zero, List.set_cons_succ, List.getElem_toArray, List.getElem_cons_zero, List.getElem_cons_succ]
      refine wpAnyH_take (i := 22) (v := ?_) rfl (by kernel_rfl) (by kernel_rfl) (by kernel_rfl) (fun _ _ _ h => h) (Or.inl ⟨by rfl, ?_⟩) (by assumption) ?_
      rotate_left
      · intro w9 hSw
        go_simp
        try with_reducible rfl
      simp only [Act.put, List.setIfInBounds_toArray, List.set_cons_zero, List.set_cons_succ, List.getElem_toArray, List.getElem_cons_zero, List.getElem_cons_succ]
      refine wpAnyH_take (i := 23) (v := ?_) rfl (by kernel_rfl) (by kernel_rfl) (by kernel_rfl) (fun _ _ _ h => h) (Or.inl ⟨by rfl, ?_⟩) (by assumption) ?_
      rotate_left
      · intro w9 hSw
        go_simp
        try with_reducible rfl
      simp only [Act.put, List.setIfInBounds_toArray, List.set_cons_zero, List.set_cons_succ, List.getElem_toArray, List.getElem_cons_zero, List.getElem_cons_succ]
      refine wpAnyH_take (i := 24) (v := ?_) rfl (by kernel_rfl) (by kernel_rfl) (by kernel_rfl) (fun _ _ _ h => h) (Or.inl ⟨by rfl, ?_⟩) (by assumption) ?_
      rotate_left
      · intro w9 hSw
        go_simp
        try with_reducible rfl
      simp only [Act.put, List.setIfInBounds_toArray, List.set_cons_zero, List.set_cons_succ, List.getElem_toArray, List.getElem_cons_zero, List.getElem_cons_succ]
      refine wpAnyH_take (i := 25) (v := ?_) rfl (by kernel_rfl) (by kernel_rfl) (by kernel_rfl) (fun _ _ _ h => h) (Or.inl ⟨by rfl, ?_⟩) (by assumption) ?_
      rotate_left
      · intro w9 hSw
        have c2 := hSw.cell x1
        go_simp
        try with_reducible rfl
      simp only [Act.put, List.setIfInBounds_toArray, List.set_cons_zero, List.set_cons_succ, List.getElem_toArray, List.getElem_cons_zero, List.getElem_cons_succ]
      refine wpAnyH_take (i := 26) (v := ?_) rfl (by kernel_rfl) (by kernel_rfl) (by kernel_rfl) (fun _ _ _ h => h) (Or.inl ⟨by rfl, ?_⟩) (by assumption) ?_
      rotate_left
      · intro w9 hSw
        have c2 := HL1.out w9 hSw
        go_simp
        try with_reducible rfl
      simp only [Act.put, List.setIfInBounds_toArray, List.set_cons_zero, List.set_cons_succ, List.getElem_toArray, List.getElem_cons_zero, List.getElem_cons_succ]
      refine wpAnyH_ready (rs := [27, 28]) (by kernel_rfl) (by simp) ?_
      refine AllReadyH.cons rfl (fun K hK => ?_) (AllReadyH.cons rfl (fun K hK => ?_) AllReadyH.nil)
      · simp only [List.getElem_toArray, List.getElem_cons_zero, List.getElem_cons_succ]
        go_simp
        refine hK.out _ _ ?_ (fun hHeld => ?_)
        · exact Ua0.alloc _
        clear hK K
        try simp only [Act.put, List.setIfInBounds_toArray, List.set_cons_zero, List.set_cons_succ]
        obtain ⟨pa, hpa⟩ : ∃ p, p = (w.drew).heap.size := ⟨_, rfl⟩
        obtain ⟨Wa1, hW1⟩ : ∃ W1, (w.drew).alloc (.cells zK 76) = W1 := ⟨_, rfl⟩
        refine wpAnyH_world hW1 ?_
        have h9 : w.heap.size = pa := hpa.symm
        simp only [h9]
        clear h9
        have ua1 : Up (w.drew) Wa1 := by rw [← hW1]; exact (Up.refl _).alloc _
        have epa : Wa1.heap[pa]? = some (.cells zK 76 (0, 0)) := by rw [hpa, ← hW1]; exact heap_alloc_new _ _
        have lpa : w.heap.size ≤ pa := by rw [hpa]; exact Ua0.size
        have Ua1 := Ua0.trans ua1
        clear hHeld hW1 hpa
        have hSS := Ua1
        refine wpAnyH_ready (rs := [28]) (by kernel_rfl) (by simp) ?_
        refine AllReadyH.cons rfl (fun K hK => ?_) AllReadyH.nil
        simp only [List.getElem_toArray, List.getElem_cons_zero, List.getElem_cons_succ]
        go_simp
        refine hK.out _ _ ?_ (fun hHeld => ?_)
        · exact Ua1.alloc _
        clear hK K
        try simp only [Act.put, List.setIfInBounds_toArray, List.set_cons_zero, List.set_cons_succ]
        obtain ⟨pb, hpb⟩ : ∃ p, p = (Wa1).heap.size := ⟨_, rfl⟩
        have npa_pb : pa ≠ pb := by
          have h8 := (Array.getElem?_eq_some_iff.1 epa).1
          omega
        obtain ⟨Wa2, hW1⟩ : ∃ W1, (Wa1).alloc (.cells zK 76) = W1 := ⟨_, rfl⟩
        refine wpAnyH_world hW1 ?_
        have h9 : Wa1.heap.size = pb := hpb.symm
        simp only [h9]
        clear h9
        have ua2 : Up (Wa1) Wa2 := by rw [← hW1]; exact (Up.refl _).alloc _
        have epb : Wa2.heap[pb]? = some (.cells zK 76 (0, 0)) := by rw [hpb, ← hW1]; exact heap_alloc_new _ _
        have lpb : w.heap.size ≤ pb := by rw [hpb]; exact Ua1.size
        have Ua2 := Ua1.trans ua2
        have epa := ua2.heap epa
        clear hHeld hW1 hpb
        have hSS := Ua2
        refine wpAnyH_ready (rs := [29]) (by kernel_rfl) (by simp) ?_
        refine AllReadyH.cons rfl (fun K hK => ?_) AllReadyH.nil
        simp only [List.getElem_toArray, List.getElem_cons_zero, List.getElem_cons_succ]
        refine stepH_store (by rfl) 76 (.tmp 5) (.tmp 27) (by rfl) pa (kvc (kd o0) f0 y0) (by rfl) (by rfl) 76 zK epa (infoKd) (rfl) (kvc_one _ _ _ hf0 hy0) ?_
        refine hK.out _ _ ?_ (fun hHeld => ?_)
        · exact up_setRow Ua2 lpa _
        clear hK K
        simp only [Act.put]
        obtain ⟨Wa3, hW1⟩ : ∃ W1, (Wa2).setRow pa (kvc (kd o0) f0 y0) = W1 := ⟨_, rfl⟩
        refine wpAnyH_world hW1 ?_
        have Ua3 : Up w Wa3 := by rw [← hW1]; exact up_setRow Ua2 lpa _
        have epb := (setRow_other _ _ _ (kvc (kd o0) f0 y0) (by first | exact npb_pa | exact npa_pb.symm)).trans epb
        rw [hW1] at epb
        have epa : Wa3.heap[pa]? = some (.cells (kvc (kd o0) f0 y0) 76 (0, 0)) := by rw [← hW1]; exact setRow_heap _ _ _ _ _ _ epa
        clear hHeld hW1
        have hSS := Ua3
        refine wpAnyH_ready (rs := [30]) (by kernel_rfl) (by simp) ?_
        refine AllReadyH.cons rfl (fun K hK => ?_) AllReadyH.nil
        simp only [List.getElem_toArray, List.getElem_cons_zero, List.getElem_cons_succ]
        refine stepH_store (by rfl) 76 (.tmp 6) (.tmp 41) (by rfl) pb (kvc (kd o1) f1 y1) (by rfl) (by rfl) 76 zK epb (infoKd) (rfl) (kvc_one _ _ _ hf1 hy1) ?_
        refine hK.out _ _ ?_ (fun hHeld => ?_)
        · exact up_setRow Ua3 lpb _
        clear hK K
        simp only [Act.put]
        obtain ⟨Wa4, hW1⟩ : ∃ W1, (Wa3).setRow pb (kvc (kd o1) f1 y1) = W1 := ⟨_, rfl⟩
        refine wpAnyH_world hW1 ?_
        have Ua4 : Up w Wa4 := by rw [← hW1]; exact up_setRow Ua3 lpb _
        have epa := (setRow_other _ _ _ (kvc (kd o1) f1 y1) (by first | exact npa_pb | exact npb_pa.symm)).trans epa
        rw [hW1] at epa
        have epb : Wa4.heap[pb]? = some (.cells (kvc (kd o1) f1 y1) 76 (0, 0)) := by rw [← hW1]; exact setRow_heap _ _ _ _ _ _ epb
        clear hHeld hW1
        have hSS := Ua4
        refine wpAnyH_done (by kernel_rfl) ?_ _
        exact key3 Wa4 pa pb Ua4 epa epb
      · simp only [List.getElem_toArray, List.getElem_cons_zero, List.getElem_cons_succ]
        go_simp
        refine hK.out _ _ ?_ (fun hHeld => ?_)
        · exact Ua0.alloc _
        clear hK K
        try simp only [Act.put, List.setIfInBounds_toArray, List.set_cons_zero, List.set_cons_succ]
        obtain ⟨pb, hpb⟩ : ∃ p, p = (w.drew).heap.size := ⟨_, rfl⟩
        obtain ⟨Wa1, hW1⟩ : ∃ W1, (w.drew).alloc (.cells zK 76) = W1 := ⟨_, rfl⟩
        refine wpAnyH_world hW1 ?_
        have h9 : w.heap.size = pb := hpb.symm
        simp only [h9]
        clear h9
        have ua1 : Up (w.drew) Wa1 := by rw [← hW1]; exact (Up.refl _).alloc _
        have epb : Wa1.heap[pb]? = some (.cells zK 76 (0, 0)) := by rw [hpb, ← hW1]; exact heap_alloc_new _ _
        have lpb : w.heap.size ≤ pb := by rw [hpb]; exact Ua0.size
        have Ua1 := Ua0.trans ua1
        clear hHeld hW1 hpb
        have hSS := Ua1
        refine wpAnyH_ready (rs := [27]) (by kernel_rfl) (by simp) ?_
        refine AllReadyH.cons rfl (fun K hK => ?_) AllReadyH.nil
        simp only [List.getElem_toArray, List.getElem_cons_zero, List.getElem_cons_succ]
        go_simp
        refine hK.out _ _ ?_ (fun hHeld => ?_)
        · exact Ua1.alloc _
        clear hK K
        try simp only [Act.put, List.setIfInBounds_toArray, List.set_cons_zero, List.set_cons_succ]
        obtain ⟨pa, hpa⟩ : ∃ p, p = (Wa1).heap.size := ⟨_, rfl⟩
        have npb_pa : pb ≠ pa := by
          have h8 := (Array.getElem?_eq_some_iff.1 epb).1
          omega
        obtain ⟨Wa2, hW1⟩ : ∃ W1, (Wa1).alloc (.cells zK 76) = W1 := ⟨_, rfl⟩
        refine wpAnyH_world hW1 ?_
        have h9 : Wa1.heap.size = pa := hpa.symm
        simp only [h9]
        clear h9
        have ua2 : Up (Wa1) Wa2 := by rw [← hW1]; exact (Up.refl _).alloc _
        have epa : Wa2.heap[pa]? = some (.cells zK 76 (0, 0)) := by rw [hpa, ← hW1]; exact heap_alloc_new _ _
        have lpa : w.heap.size ≤ pa := by rw [hpa]; exact Ua1.size
        have Ua2 := Ua1.trans ua2
        have epb := ua2.heap epb
        clear hHeld hW1 hpa
        have hSS := Ua2
        refine wpAnyH_ready (rs := [29]) (by kernel_rfl) (by simp) ?_
        refine AllReadyH.cons rfl (fun K hK => ?_) AllReadyH.nil
        simp only [List.getElem_toArray, List.getElem_cons_zero, List.getElem_cons_succ]
        refine stepH_store (by rfl) 76 (.tmp 5) (.tmp 27) (by rfl) pa (kvc (kd o0) f0 y0) (by rfl) (by rfl) 76 zK epa (infoKd) (rfl) (kvc_one _ _ _ hf0 hy0) ?_
        refine hK.out _ _ ?_ (fun hHeld => ?_)
        · exact up_setRow Ua2 lpa _
        clear hK K
        simp only [Act.put]
        obtain ⟨Wa3, hW1⟩ : ∃ W1, (Wa2).setRow pa (kvc (kd o0) f0 y0) = W1 := ⟨_, rfl⟩
        refine wpAnyH_world hW1 ?_
        have Ua3 : Up w Wa3 := by rw [← hW1]; exact up_setRow Ua2 lpa _
        have epb := (setRow_other _ _ _ (kvc (kd o0) f0 y0) (by first | exact npb_pa | exact npa_pb.symm)).trans epb
        rw [hW1] at epb
        have epa : Wa3.heap[pa]? = some (.cells (kvc (kd o0) f0 y0) 76 (0, 0)) := by rw [← hW1]; exact setRow_heap _ _ _ _ _ _ epa
        clear hHeld hW1
        have hSS := Ua3
        refine wpAnyH_ready (rs := [30]) (by kernel_rfl) (by simp) ?_
        refine AllReadyH.cons rfl (fun K hK => ?_) AllReadyH.nil
        simp only [List.getElem_toArray, List.getElem_cons_zero, List.getElem_cons_succ]
        refine stepH_store (by rfl) 76 (.tmp 6) (.tmp 41) (by rfl) pb (kvc (kd o1) f1 y1) (by rfl) (by rfl) 76 zK epb (infoKd) (rfl) (kvc_one _ _ _ hf1 hy1) ?_
        refine hK.out _ _ ?_ (fun hHeld => ?_)
        · exact up_setRow Ua3 lpb _
        clear hK K
        simp only [Act.put]
        obtain ⟨Wa4, hW1⟩ : ∃ W1, (Wa3).setRow pb (kvc (kd o1) f1 y1) = W1 := ⟨_, rfl⟩
        refine wpAnyH_world hW1 ?_
        have Ua4 : Up w Wa4 := by rw [← hW1]; exact up_setRow Ua3 lpb _
        have epa := (setRow_other _ _ _ (kvc (kd o1) f1 y1) (by first | exact npa_pb | exact npb_pa.symm)).trans epa
        rw [hW1] at epa
        have epb : Wa4.heap[pb]? = some (.cells (kvc (kd o1) f1 y1) 76 (0, 0)) := by rw [← hW1]; exact setRow_heap _ _ _ _ _ _ epb
        clear hHeld hW1
        have hSS := Ua4
        refine wpAnyH_done (by kernel_rfl) ?_ _
        exact key3 Wa4 pa pb Ua4 epa epb
    case kp3 =>
      intro W9 pa pb U9 ea eb
      have a1 : W9.cell? ⟨pa, 1, none⟩ = some (.int .i64 ((kd o0).rank : Int)) := by simp only [World.cell?, ea]; rfl
      have a2 : W9.cell? ⟨pa, 2, none⟩ = some (.bool (kd o0).row) := by simp only [World.cell?, ea]; rfl
      have b1 : W9.cell? ⟨pb, 1, none⟩ = some (.int .i64 ((kd o1).rank : Int)) := by simp only [World.cell?, eb]; rfl
      have b2 : W9.cell? ⟨pb, 2, none⟩ = some (.bool (kd o1).row) := by simp only [World.cell?, eb]; rfl
      have HU9 : Hid (Up w W9) := U9
      clear ea eb HL0 HL1 U9
      generalize (kd o0).row = k1 at *
      generalize (kd o1).row = k2 at *
      generalize (kd o0).rank = k3 at *
      generalize (kd o1).rank = k4 at *
      have HEQ : Hid (((k3 : Int) == (k4 : Int)) = (k3 == k4)) := by
        unfold Hid
        rw [Bool.eq_iff_iff, beq_iff_eq, beq_iff_eq]
        omega
      cases k1 with
      | false =>
        go_wp2_with fail
        rw [HPo.out, HG.out]
        exact ⟨rfl, HU9.out⟩
      | true =>
        cases k2 with
        | false =>
          go_wp2_with fail
          rw [HPo.out, HG.out]
          exact ⟨rfl, HU9.out⟩
        | true =>
          go_wp2_with fail
          rw [HPo.out, HG.out, ← HEQ.out]
          exact ⟨rfl, HU9.out⟩
  · have HG : Hid (gos (l.drop p) = false) := gos_end hlt
    obtain ⟨n, hN⟩ : ∃ n, n = l.length := ⟨_, rfl⟩
    rw [← hN] at c1 hlt
    have hl2 : (n : Int) ≤ ((p + 1 : Nat) : Int) := by omega
    have hl3 : (n : Int) ≤ (p : Int) + 1 := by omega
    clear hcell hN hl ht hk
    go_enter Try.func54, Try.ntmps54
    go_wp2_with fail
    rw [HPo.out, HG.out]
    exact ⟨rfl, Up.refl _⟩
end TR
end Go.Proofs.Ytgahdppcdeefaaa
