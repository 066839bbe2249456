/-
  The program's small questions: stats, numbers, sizes.
-/
import Derived.Test.YtndkpfkgcaebmaaDoorBaseToMem
import Derived.Deep.WholeRow
namespace Go.Proofs.YtndkpfkgcaebmaaDoor
open Go.RowKit
attribute [local go_sem ↓] Go.wp_at_zero Go.wp_at_succ

namespace ST
set_option maxHeartbeats 1000000 in
theorem isStat_ (n : Int) (w : World) : Calls Tryd.prog 67 #[.int .i32 n] w fun e w' => e = .returned (.bool (statB n)) ∧ w' = w := by
  by_cases h1 : -1000000000 ≤ n
  · by_cases h2 : n ≤ 1000000000
    · go_enter Tryd.func67, Tryd.ntmps67
      go_wp2
      go_ret
      exact ⟨by simp [statB, h1, h2], rfl⟩
    · go_enter Tryd.func67, Tryd.ntmps67
      go_wp2
      go_ret
      exact ⟨by simp [statB, h2], rfl⟩
  · go_enter Tryd.func67, Tryd.ntmps67
    go_wp2
    go_ret
    exact ⟨by simp [statB]; omega, rfl⟩
set_option maxHeartbeats 1000000 in
theorem isNumber_ (x : Int) (n : Nat) (w : World) : Calls Tryd.prog 85 #[.int .i64 x, .int .i64 n] w fun e w' => e = .returned (.bool (numB x n)) ∧ w' = w := by
  by_cases h1 : 0 ≤ x
  · by_cases h2 : x < (n : Int)
    · go_enter Tryd.func85, Tryd.ntmps85
      go_wp2
      go_ret
      exact ⟨by simp [numB, h1, h2], rfl⟩
    · go_enter Tryd.func85, Tryd.ntmps85
      go_wp2
      go_ret
      exact ⟨by simp [numB, h2], rfl⟩
  · go_enter Tryd.func85, Tryd.ntmps85
    go_wp2
    go_ret
    exact ⟨by simp [numB]; omega, rfl⟩
set_option maxHeartbeats 1000000 in
theorem playersFit_ (n : Nat) (w : World) : Calls Tryd.prog 80 #[.int .i64 n] w fun e w' => e = .returned (.bool (npB n)) ∧ w' = w := by
  by_cases h1 : 2 ≤ n
  · have h1' : (2 : Int) ≤ (n : Int) := by omega
    by_cases h2 : n ≤ 4
    · have h2' : (n : Int) ≤ 4 := by omega
      go_enter Tryd.func80, Tryd.ntmps80
      go_wp2
      go_ret
      exact ⟨by simp [npB, h1, h2], rfl⟩
    · have h2' : ¬ (n : Int) ≤ 4 := by omega
      go_enter Tryd.func80, Tryd.ntmps80
      go_wp2
      go_ret
      exact ⟨by simp [npB, h2], rfl⟩
  · have h1' : ¬ (2 : Int) ≤ (n : Int) := by omega
    go_enter Tryd.func80, Tryd.ntmps80
    go_wp2
    go_ret
    exact ⟨by simp [npB, h1], rfl⟩
set_option maxHeartbeats 1000000 in
theorem cardsFit_ (n : Nat) (w : World) : Calls Tryd.prog 81 #[.int .i64 n] w fun e w' => e = .returned (.bool (ncB n)) ∧ w' = w := by
  by_cases h1 : 1 ≤ n
  · have h1' : (1 : Int) ≤ (n : Int) := by omega
    by_cases h2 : n ≤ 256
    · have h2' : (n : Int) ≤ 256 := by omega
      go_enter Tryd.func81, Tryd.ntmps81
      go_wp2
      go_ret
      exact ⟨by simp [ncB, h1, h2], rfl⟩
    · have h2' : ¬ (n : Int) ≤ 256 := by omega
      go_enter Tryd.func81, Tryd.ntmps81
      go_wp2
      go_ret
      exact ⟨by simp [ncB, h2], rfl⟩
  · have h1' : ¬ (1 : Int) ≤ (n : Int) := by omega
    go_enter Tryd.func81, Tryd.ntmps81
    go_wp2
    go_ret
    exact ⟨by simp [ncB, h1], rfl⟩
theorem isStatB (n : Int) (b : Bool) (h : statB n = b) (w : World) : Calls Tryd.prog 67 #[.int .i32 n] w fun e w' => e = .returned (.bool b) ∧ w' = w := by subst h; exact isStat_ n w
theorem isNumberB (x : Int) (n : Nat) (b : Bool) (h : numB x n = b) (w : World) : Calls Tryd.prog 85 #[.int .i64 x, .int .i64 n] w fun e w' => e = .returned (.bool b) ∧ w' = w := by subst h; exact isNumber_ x n w
theorem isNumberC (x : Int) (b : Bool) (h : numB x 256 = b) (w : World) : Calls Tryd.prog 85 #[.int .i64 x, .int .i64 256] w fun e w' => e = .returned (.bool b) ∧ w' = w := by subst h; exact isNumber_ x 256 w
theorem playersFitB (n : Nat) (b : Bool) (h : npB n = b) (w : World) : Calls Tryd.prog 80 #[.int .i64 n] w fun e w' => e = .returned (.bool b) ∧ w' = w := by subst h; exact playersFit_ n w
theorem cardsFitB (n : Nat) (b : Bool) (h : ncB n = b) (w : World) : Calls Tryd.prog 81 #[.int .i64 n] w fun e w' => e = .returned (.bool b) ∧ w' = w := by subst h; exact cardsFit_ n w
def cag (c : Crd) : Value := .agg #[.int .i64 c.kind, .int .i64 c.owner, .int .i32 c.power, .int .i32 c.health, .int .i32 c.damage, .int .i32 c.marks]
set_option maxHeartbeats 2000000 in
theorem cardFits_ (c : Crd) (w : World) : Calls Tryd.prog 82 #[cag c] w fun e w' => e = .returned (.bool (crd0B c)) ∧ Up w w' := by
  unfold cag
  cases h0 : numB c.kind 256
  · go_enter Tryd.func82, Tryd.ntmps82
    go_wp2_with fail
    refine Calls.mono (isNumberC _ false h0 _) ?_
    rintro e w1 ⟨rfl, rfl⟩
    go_wp2
    go_ret
    exact ⟨by simp [crd0B, h0], (Up.refl _).alloc _⟩
  · cases h1 : statB c.power
    · go_enter Tryd.func82, Tryd.ntmps82
      go_wp2_with fail
      refine Calls.mono (isNumberC _ true h0 _) ?_
      rintro e w1 ⟨rfl, rfl⟩
      go_wp2_with fail
      refine Calls.mono (isStatB _ false h1 _) ?_
      rintro e w2 ⟨rfl, rfl⟩
      go_wp2
      go_ret
      exact ⟨by simp [crd0B, h1], (Up.refl _).alloc _⟩
    · cases h2 : statB c.health
      · go_enter Tryd.func82, Tryd.ntmps82
        go_wp2_with fail
        refine Calls.mono (isNumberC _ true h0 _) ?_
        rintro e w1 ⟨rfl, rfl⟩
        go_wp2_with fail
        refine Calls.mono (isStatB _ true h1 _) ?_
        rintro e w2 ⟨rfl, rfl⟩
        go_wp2_with fail
        refine Calls.mono (isStatB _ false h2 _) ?_
        rintro e w3 ⟨rfl, rfl⟩
        go_wp2
        go_ret
        exact ⟨by simp [crd0B, h2], (Up.refl _).alloc _⟩
      · cases h3 : statB c.damage
        · go_enter Tryd.func82, Tryd.ntmps82
          go_wp2_with fail
          refine Calls.mono (isNumberC _ true h0 _) ?_
          rintro e w1 ⟨rfl, rfl⟩
          go_wp2_with fail
          refine Calls.mono (isStatB _ true h1 _) ?_
          rintro e w2 ⟨rfl, rfl⟩
          go_wp2_with fail
          refine Calls.mono (isStatB _ true h2 _) ?_
          rintro e w3 ⟨rfl, rfl⟩
          go_wp2_with fail
          refine Calls.mono (isStatB _ false h3 _) ?_
          rintro e w4 ⟨rfl, rfl⟩
          go_wp2
          go_ret
          exact ⟨by simp [crd0B, h3], (Up.refl _).alloc _⟩
        · cases h4 : statB c.marks
          · go_enter Tryd.func82, Tryd.ntmps82
            go_wp2_with fail
            refine Calls.mono (isNumberC _ true h0 _) ?_
            rintro e w1 ⟨rfl, rfl⟩
            go_wp2_with fail
            refine Calls.mono (isStatB _ true h1 _) ?_
            rintro e w2 ⟨rfl, rfl⟩
            go_wp2_with fail
            refine Calls.mono (isStatB _ true h2 _) ?_
            rintro e w3 ⟨rfl, rfl⟩
            go_wp2_with fail
            refine Calls.mono (isStatB _ true h3 _) ?_
            rintro e w4 ⟨rfl, rfl⟩
            go_wp2_with fail
            refine Calls.mono (isStatB _ false h4 _) ?_
            rintro e w5 ⟨rfl, rfl⟩
            go_wp2
            go_ret
            exact ⟨by simp [crd0B, h4], (Up.refl _).alloc _⟩
          · go_enter Tryd.func82, Tryd.ntmps82
            go_wp2_with fail
            refine Calls.mono (isNumberC _ true h0 _) ?_
            rintro e w1 ⟨rfl, rfl⟩
            go_wp2_with fail
            refine Calls.mono (isStatB _ true h1 _) ?_
            rintro e w2 ⟨rfl, rfl⟩
            go_wp2_with fail
            refine Calls.mono (isStatB _ true h2 _) ?_
            rintro e w3 ⟨rfl, rfl⟩
            go_wp2_with fail
            refine Calls.mono (isStatB _ true h3 _) ?_
            rintro e w4 ⟨rfl, rfl⟩
            go_wp2_with fail
            refine Calls.mono (isStatB _ true h4 _) ?_
            rintro e w5 ⟨rfl, rfl⟩
            go_wp2
            go_ret
            exact ⟨by simp [crd0B, h0, h1, h2, h3, h4], (Up.refl _).alloc _⟩
theorem cardFitsB (c : Crd) (b : Bool) (h : crd0B c = b) (w : World) : Calls Tryd.prog 82 #[cag c] w fun e w' => e = .returned (.bool b) ∧ Up w w' := by subst h; exact cardFits_ c w
set_option maxHeartbeats 2000000 in
theorem sizesFit_ (v : Value) (s : Stt) (w : World) (hs : StL w v s) (hn : s.ps.length ≤ 4294967296) : Calls Tryd.prog 84 #[v] w fun e w' => e = .returned (.bool (sizesB s)) ∧ Up w w' := by
  obtain ⟨vp, vc, vz, rfl, h1, h2, h3⟩ := hs
  obtain ⟨a1, k1, rfl, -, -⟩ := lc_at h1
  obtain ⟨a2, k2, rfl, -, -⟩ := lc_at h2
  obtain ⟨vs, h3, -⟩ := h3
  obtain ⟨a3, k3, rfl, -, -⟩ := lc_at h3
  clear h1 h2 h3
  unfold sv
  obtain ⟨np, hnp⟩ : ∃ n, n = s.ps.length := ⟨_, rfl⟩
  obtain ⟨nc, hnc⟩ : ∃ n, n = s.cs.length := ⟨_, rfl⟩
  obtain ⟨nz, hnz⟩ : ∃ n, n = s.zs.length := ⟨_, rfl⟩
  have HR : Hid (sizesB s = (npB np && ncB nc && decide (nz = 4 * np))) := by unfold Hid; rw [hnp, hnc, hnz]; rfl
  rw [← hnp] at hn ⊢
  rw [← hnc, ← hnz]
  generalize sizesB s = R at HR ⊢
  clear hnp hnc hnz
  cases e1 : npB np
  · go_enter Tryd.func84, Tryd.ntmps84
    go_wp2_with fail
    go_quiet (fail)
    go_wp2_with fail
    refine Calls.mono (playersFitB _ false e1 _) ?_
    rintro e w1 ⟨rfl, rfl⟩
    go_wp2
    go_ret
    exact ⟨by rw [HR.out, e1]; rfl, ((Up.refl _).alloc _).drewN _⟩
  · cases e2 : ncB nc
    · go_enter Tryd.func84, Tryd.ntmps84
      go_wp2_with fail
      go_quiet (fail)
      go_wp2_with fail
      refine Calls.mono (playersFitB _ true e1 _) ?_
      rintro e w1 ⟨rfl, rfl⟩
      go_wp2_with fail
      refine Calls.mono (cardsFitB _ false e2 _) ?_
      rintro e w1 ⟨rfl, rfl⟩
      go_wp2
      go_ret
      exact ⟨by rw [HR.out, e1, e2]; rfl, ((Up.refl _).alloc _).drewN _⟩
    · by_cases e3 : nz = 4 * np
      · have e3' : ((nz : Int) == 4 * (np : Int)) = true := by simp; omega
        go_enter Tryd.func84, Tryd.ntmps84
        go_wp2_with fail
        go_quiet (fail)
        go_wp2_with fail
        refine Calls.mono (playersFitB _ true e1 _) ?_
        rintro e w1 ⟨rfl, rfl⟩
        go_wp2_with fail
        refine Calls.mono (cardsFitB _ true e2 _) ?_
        rintro e w1 ⟨rfl, rfl⟩
        go_wp2
        go_ret
        exact ⟨by rw [HR.out, e1, e2]; simp [e3], ((Up.refl _).alloc _).drewN _⟩
      · have e3' : ((nz : Int) == 4 * (np : Int)) = false := by simp; omega
        go_enter Tryd.func84, Tryd.ntmps84
        go_wp2_with fail
        go_quiet (fail)
        go_wp2_with fail
        refine Calls.mono (playersFitB _ true e1 _) ?_
        rintro e w1 ⟨rfl, rfl⟩
        go_wp2_with fail
        refine Calls.mono (cardsFitB _ true e2 _) ?_
        rintro e w1 ⟨rfl, rfl⟩
        go_wp2
        go_ret
        exact ⟨by rw [HR.out, e1, e2]; simp [e3], ((Up.refl _).alloc _).drewN _⟩
end ST
end Go.Proofs.YtndkpfkgcaebmaaDoor
/-
  How many entries are good.
-/
namespace Go.Proofs.YtndkpfkgcaebmaaDoor
open Go.RowKit
attribute [local go_sem ↓] Go.wp_at_zero Go.wp_at_succ

theorem Up.set {a w : World} (h : Up a w) (p : Addr) (v : Value) (hb : a.heap.size ≤ p.block) : Up a (w.setCell p v) := Below.setCell h hb v
theorem seven_cells {W : World} {a : Nat} {x0 x1 x2 x3 x4 x5 x6 : Value} {t : TypeId} (h : W.heap[a]? = some (.cells #[x0, x1, x2, x3, x4, x5, x6] t (0, 0))) : W.cell? ⟨a, 0, none⟩ = some x0 ∧ W.cell? ⟨a, 1, none⟩ = some x1 ∧ W.cell? ⟨a, 2, none⟩ = some x2 ∧ W.cell? ⟨a, 3, none⟩ = some x3 ∧ W.cell? ⟨a, 4, none⟩ = some x4 ∧ W.cell? ⟨a, 5, none⟩ = some x5 ∧ W.cell? ⟨a, 6, none⟩ = some x6 := by
  refine ⟨by simp [World.cell?, h], by simp [World.cell?, h], by simp [World.cell?, h], by simp [World.cell?, h], by simp [World.cell?, h], by simp [World.cell?, h], by simp [World.cell?, h]⟩
namespace ST
theorem info87 : (Tryd.prog.info? 144).map (fun i => (i.zero, i.size)) = some (some (.agg (Array.replicate 256 (.bool false))), 256) := by kernel_rfl
def seenA (l : List Int) (k : Nat) : Array Value := ((List.range 256).map fun j : Nat => Value.bool (decide ((j : Int) ∈ l.take k))).toArray
theorem seen_zero (l : List Int) : Array.replicate 256 (Value.bool false) = seenA l 0 := by
  apply Array.ext
  · simp [seenA]
  · intro i h1 h2
    simp [seenA]
theorem seen_cell {W : World} {g : Nat} {l : List Int} {k : Nat} {t : TypeId} (h : W.heap[g]? = some (.cells (seenA l k) t (0, 0))) (e : Nat) (he : e < 256) : W.cell? ⟨g, e, none⟩ = some (.bool (decide ((e : Int) ∈ l.take k))) ∧ W.frozen? ⟨g, e, none⟩ = false := by
  refine ⟨?_, by simp [World.frozen?, h]⟩
  simp only [World.cell?, h]
  simp [seenA, he]
theorem seenA_set (l : List Int) (k e : Nat) (he : l[k]? = some (e : Int)) : (seenA l k).setIfInBounds e (.bool true) = seenA l (k + 1) := by
  apply Array.ext
  · simp [seenA]
  · intro i h1 h2
    simp only [seenA, List.setIfInBounds_toArray, List.getElem_toArray, List.getElem_set, List.getElem_map, List.getElem_range]
    have ht : l.take (k + 1) = l.take k ++ [(e : Int)] := by rw [List.take_add_one, he]; rfl
    rw [ht]
    by_cases c : e = i
    · subst c; simp
    · rw [if_neg c]
      have : ¬ (i : Int) = (e : Int) := by omega
      simp [this]
theorem seen_set {W : World} {g : Nat} {l : List Int} {k : Nat} {t : TypeId} (h : W.heap[g]? = some (.cells (seenA l k) t (0, 0))) (e : Nat) (he : l[k]? = some (e : Int)) : (W.setCell ⟨g, e, none⟩ (.bool true)).heap[g]? = some (.cells (seenA l (k + 1)) t (0, 0)) := by
  rw [← seenA_set l k e he]
  simp only [World.setCell, Array.getElem?_modify]
  rw [h]
  simp
theorem flat_at (zs : List (List Int)) : ∀ (z i : Nat), z < zs.length → i < (zs.getD z []).length → zs.flatten[(zs.take z).flatten.length + i]? = some ((zs.getD z []).getD i 0) := by
  induction zs with
  | nil => intro z i h; simp at h
  | cons l zs ih =>
    intro z i hz hi
    cases z with
    | zero =>
      simp at hi
      rw [List.take_zero, List.flatten_nil, List.length_nil, Nat.zero_add, List.flatten_cons, List.getElem?_append_left hi, List.getElem?_eq_getElem hi]
      simp [List.getElem?_eq_getElem hi]
    | succ z =>
      simp only [List.take_succ_cons, List.flatten_cons, List.length_append, List.getD_cons_succ] at hi ⊢
      rw [Nat.add_assoc, List.getElem?_append_right (by omega), Nat.add_sub_cancel_left]
      exact ih z i (by simpa using hz) hi
theorem flat_next (zs : List (List Int)) : ∀ (z : Nat), z < zs.length → (zs.take (z + 1)).flatten.length = (zs.take z).flatten.length + (zs.getD z []).length := by
  intro z hz
  rw [List.take_add_one, List.getElem?_eq_getElem hz, List.flatten_append, List.length_append, List.getD_eq_getElem?_getD, List.getElem?_eq_getElem hz]
  simp
def off (zs : List (List Int)) (z : Nat) : Nat := (zs.take z).flatten.length
def GI (w W : World) (g b0 : Nat) (box : Array Value) (m : Nat) (l : List Int) (k : Nat) : Prop := W.heap[b0]? = some (.cells box 27 (0, 0)) ∧ W.heap[g]? = some (.cells (seenA l k) 144 (0, 0)) ∧ Up w W ∧ ∀ j, j < k → okAt m l j = true
def GPost (w : World) (m : Nat) (l : List Int) (e : Ending) (w' : World) : Prop := e = .returned (.tuple #[.int .i64 (good m l), .bool (decide (good m l = l.length))]) ∧ Up w w'
set_option maxRecDepth 100000 in
set_option maxHeartbeats 4000000 in
theorem goodEntries_ (v : Value) (s : Stt) (w : World) (hs : StL w v s) (hm : s.cs.length ≤ 256) (hz : s.zs.length ≤ 4294967296) (hl : ∀ r, r < s.zs.length → (s.zs.getD r []).length ≤ 4294967296) :
    Calls Tryd.prog 86 #[v] w (GPost w s.cs.length (flat s)) := by
  obtain ⟨vp, vc, vz, rfl, -, h2, h3⟩ := hs
  obtain ⟨a2, k2, rfl, -, -⟩ := lc_at h2
  obtain ⟨a3, k3, rfl, -, c3⟩ := zl_at h3
  clear h2 h3
  unfold sv
  obtain ⟨hv87, hi87⟩ := zero_of_info (P := Tryd.prog) info87
  obtain ⟨m, hm0⟩ : ∃ n, n = s.cs.length := ⟨_, rfl⟩
  obtain ⟨zs, hzs⟩ : ∃ n, n = s.zs := ⟨_, rfl⟩
  obtain ⟨n, hn0⟩ : ∃ n, n = zs.length := ⟨_, rfl⟩
  rw [show flat s = zs.flatten by rw [hzs]; rfl]
  rw [← hm0] at hm ⊢
  rw [← hzs] at hz hl c3 ⊢
  rw [← hn0] at hz hl c3 ⊢
  obtain ⟨Post, hPost⟩ : ∃ P : Ending → World → Prop, P = GPost w m zs.flatten := ⟨_, rfl⟩
  rw [← hPost]
  have HP : Hid (Post = GPost w m zs.flatten) := hPost
  have HC : Hid _ := c3
  have HL : Hid _ := hl
  have HN : Hid (n = zs.length) := hn0
  obtain ⟨g, hg⟩ : ∃ g, g = w.heap.size + 1 := ⟨_, rfl⟩
  obtain ⟨b0, hb0⟩ : ∃ g, g = w.heap.size := ⟨_, rfl⟩
  have HG : Hid (g = w.heap.size + 1 ∧ b0 = w.heap.size) := ⟨hg, hb0⟩
  clear hPost c3 hl hn0 hm0 hzs
  generalize s.turn = tu
  generalize s.whose = wo
  generalize s.fin = fi
  generalize s.winner = wi
  go_enter Tryd.func86, Tryd.ntmps86
  go_wp2_with fail
  go_step3
  go_wp2_with fail
  rw [seen_zero zs.flatten]
  clear hv87 hi87
  go_step3
  go_wp2_with fail
  obtain ⟨box, hbox⟩ : ∃ b : Array Value, b = #[vp, .slice a2 m k2, .slice a3 n k3, .int .i32 tu, .int .i64 wo, .int .i8 fi, .int .i64 wi] := ⟨_, rfl⟩
  have HI : Hid (GI w ((w.alloc (.cells #[vp, .slice a2 m k2, .slice a3 n k3, .int .i32 tu, .int .i64 wo, .int .i8 fi, .int .i64 wi] 27)).alloc (.cells (seenA zs.flatten 0) 144)) g b0 box m zs.flatten 0) := by
    refine ⟨?_, ?_, ((Up.refl _).alloc _).alloc _, fun j hj => by omega⟩
    · rw [hb0, hbox, Below.heap_alloc _ _ _ (by simp)]; exact heap_alloc_new w _
    · rw [hg]
      have := heap_alloc_new (w.alloc (.cells #[vp, .slice a2 m k2, .slice a3 n k3, .int .i32 tu, .int .i64 wo, .int .i8 fi, .int .i64 wi] 27)) (.cells (seenA zs.flatten 0) 144)
      simpa using this
  have HB : Hid _ := hbox
  rw [← hg, ← hb0]
  clear hbox hg hb0
  go_loopw [2, 3, 12] (fun s2 s3 s12 W => ∃ z k : Nat, z ≤ n ∧ s12 = .int .i64 z ∧ s2 = .int .i64 k ∧ s3 = .bool true ∧ k = off zs z ∧ GI w W g b0 box m zs.flatten k) (fun _ _ s12 _ => n - (intOf s12).toNat)
  case atStart => exact ⟨0, 0, Nat.zero_le _, rfl, rfl, rfl, rfl, HI.out⟩
  case round =>
    obtain ⟨z, k, hzn, rfl, rfl, rfl, hk, hi⟩ := hrel
    clear HI
    obtain ⟨i1, i2, i3, i4⟩ := hi
    have HK : Hid (k = off zs z) := hk
    have HX : Hid (wr.heap[b0]? = some (.cells box 27 (0, 0)) ∧ wr.heap[g]? = some (.cells (seenA zs.flatten k) 144 (0, 0)) ∧ Up w wr ∧ ∀ j, j < k → okAt m zs.flatten j = true) := ⟨i1, i2, i3, i4⟩
    clear hk i1 i2 i3 i4
    by_cases hlt : z < n
    · have hlt2 : (z : Int) < (n : Int) := by omega
      obtain ⟨b3, o3, rfl, hrow⟩ := HC.out (by omega)
      obtain ⟨ra, rc, hcell, hil⟩ := hrow z hlt
      have hlen := HL.out z hlt
      obtain ⟨_, _, hra, -, hin⟩ := il_at hil
      cases hra
      have x1 := hcell wr HX.out.2.2.1
      have HRow : Hid (∀ i, i < (zs.getD z []).length → zs.flatten[k + i]? = some ((zs.getD z []).getD i 0)) := fun i hi => by rw [HK.out]; exact flat_at zs z i (by rw [← HN.out]; exact hlt) hi
      have HNx : Hid (k + (zs.getD z []).length = off zs (z + 1)) := by unfold Hid; rw [HK.out]; exact (flat_next zs z (by rw [← HN.out]; exact hlt)).symm
      clear hcell hrow hil
      obtain ⟨r, hr⟩ : ∃ r, r = zs.getD z [] := ⟨_, rfl⟩
      rw [← hr] at x1 hlen hin HRow HNx
      obtain ⟨q, hq⟩ : ∃ q, q = r.length := ⟨_, rfl⟩
      rw [← hq] at x1 hlen hin HRow HNx
      have HIn : Hid _ := hin
      clear hr hq hin
      go_wp2_with fail
      go_loopw [2, 3, 18] (fun s2 s3 s18 W => ∃ i : Nat, i ≤ q ∧ s18 = .int .i64 i ∧ s2 = .int .i64 ((k + i : Nat) : Int) ∧ s3 = .bool true ∧ GI w W g b0 box m zs.flatten (k + i)) (fun _ _ s18 _ => q - (intOf s18).toNat)
      case atStart => exact ⟨0, Nat.zero_le _, rfl, rfl, rfl, HX.out⟩
      case round =>
        obtain ⟨i, hiq, rfl, rfl, rfl, hgi⟩ := hrel
        clear HX x1
        obtain ⟨i1, i2, i3, i4⟩ := hgi
        by_cases hlt3 : i < q
        · have hlt4 : (i : Int) < (q : Int) := by omega
          obtain ⟨b4, o4, rfl, hc4⟩ := HIn.out (by omega)
          have x1 := hc4 _ i3 i hlt3
          have hent := HRow.out i hlt3
          have HE : Hid (zs.flatten[k + i]? = some (r.getD i 0)) := hent
          have hb := i1
          rw [HB.out] at hb
          obtain ⟨-, y1, -, -, -, -, -⟩ := seven_cells hb
          have HO : Hid (okAt m zs.flatten (k + i) = (numB (r.getD i 0) m && !(zs.flatten.take (k + i)).contains (r.getD i 0))) := by unfold Hid; rw [okAt, hent]
          have HI2 : Hid (wr.heap[b0]? = some (.cells box 27 (0, 0)) ∧ Up w wr ∧ ∀ j, j < k + i → okAt m zs.flatten j = true) := ⟨i1, i3, i4⟩
          have HI3 : Hid _ := i2
          clear hent hc4 hb i1 i2 i3 i4
          generalize r.getD i 0 = x at *
          cases hnb : numB x m
          · clear HI3
            have HF : Hid (good m zs.flatten = k + i ∧ k + i < zs.flatten.length) := by
              have hlt9 : k + i < zs.flatten.length := (List.getElem?_eq_some_iff.1 HE.out).1
              exact ⟨good_at m _ _ (by omega) HI2.out.2.2 (fun _ => by rw [HO.out, hnb]; rfl), hlt9⟩
            have HU : Hid (Up w wr) := HI2.out.2.1
            clear HI2 HO HE
            go_wp2_with fail
            refine Calls.mono (isNumberB _ _ false hnb _) ?_
            rintro e9 w9 ⟨rfl, rfl⟩
            go_wp2
            rw [HP.out]
            refine ⟨?_, HU.out⟩
            rw [HF.out.1, decide_eq_false (by have := HF.out.2; omega), Int.natCast_add]
            rfl
          · obtain ⟨e, rfl, hem⟩ : ∃ e : Nat, x = (e : Int) ∧ e < m := by
              simp only [numB, Bool.and_eq_true, decide_eq_true_eq] at hnb
              exact ⟨x.toNat, by omega, by omega⟩
            obtain ⟨y2, y3⟩ := seen_cell HI3.out e (by omega)
            have he256 : e < 256 := by omega
            have he256' : (e : Int) < 256 := by omega
            by_cases hin : (e : Int) ∈ zs.flatten.take (k + i)
            · have hcn : (zs.flatten.take (k + i)).contains (e : Int) = true := List.contains_iff_mem.2 hin
              rw [decide_eq_true hin] at y2
              have HF : Hid (good m zs.flatten = k + i ∧ k + i < zs.flatten.length) := by
                have hlt9 : k + i < zs.flatten.length := (List.getElem?_eq_some_iff.1 HE.out).1
                exact ⟨good_at m _ _ (by omega) HI2.out.2.2 (fun _ => by rw [HO.out, hnb, hcn]; rfl), hlt9⟩
              have HU : Hid (Up w wr) := HI2.out.2.1
              clear HI2 HO HE hin hcn
              go_wp2_with fail
              refine Calls.mono (isNumberB _ _ true hnb _) ?_
              rintro e9 w9 ⟨rfl, rfl⟩
              go_wp2
              rw [HP.out]
              refine ⟨?_, HU.out⟩
              rw [HF.out.1, decide_eq_false (by have := HF.out.2; omega), Int.natCast_add]
              rfl
            · have hcn : (zs.flatten.take (k + i)).contains (e : Int) = false := by
                rw [Bool.eq_false_iff]; intro hc; exact hin (List.contains_iff_mem.1 hc)
              rw [decide_eq_false hin] at y2
              have HR : Hid (GI w (wr.setCell ⟨g, e, none⟩ (.bool true)) g b0 box m zs.flatten (k + i + 1)) := by
                refine ⟨?_, seen_set HI3.out e HE.out, Up.set HI2.out.2.1 _ _ (by show w.heap.size ≤ g; have := HG.out.1; omega), fun j hj => ?_⟩
                · rw [Below.heap_setCell _ _ _ _ (by have h1 := HG.out.1; have h2 := HG.out.2; show b0 ≠ g; omega)]; exact HI2.out.1
                · by_cases ej : j = k + i
                  · subst ej; rw [HO.out, hnb, hcn]; rfl
                  · exact HI2.out.2.2 j (by omega)
              have hsm : k + i ≤ m := good_small m zs.flatten (k + i) (by have := (List.getElem?_eq_some_iff.1 HE.out).1; omega) HI2.out.2.2
              clear HI2 HO HE hin hcn HI3
              go_wp2_with fail
              refine Calls.mono (isNumberB _ _ true hnb _) ?_
              rintro e9 w9 ⟨rfl, rfl⟩
              go_wp2_with fail
              go_roundw
              case rel => exact ⟨i + 1, by omega, by go_num, by go_num, rfl, HR.out⟩
              case measure => simp [intOf]; omega
        · have hlt4 : ¬ (i : Int) < (q : Int) := by omega
          have hiq2 : i = q := by omega
          subst hiq2
          have HX2 : Hid (GI w wr g b0 box m zs.flatten (k + i)) := ⟨i1, i2, i3, i4⟩
          clear i1 i2 i3 i4
          go_wp2_with fail
          go_roundw
          case rel => exact ⟨z + 1, k + i, by omega, by go_num, rfl, rfl, HNx.out, HX2.out⟩
          case measure => simp [intOf]; omega
    · have hlt2 : ¬ (z : Int) < (n : Int) := by omega
      have HF : Hid (good m zs.flatten = k ∧ zs.flatten.length = k) := by
        have hzz : z = zs.length := by have := HN.out; omega
        have hkk : zs.flatten.length = k := by rw [HK.out, off, hzz, List.take_length]
        exact ⟨good_at m _ k (by omega) HX.out.2.2.2 (by omega), hkk⟩
      go_wp2
      rw [HP.out]
      refine ⟨?_, HX.out.2.2.1⟩
      rw [HF.out.1, HF.out.2]
      simp
end ST
end Go.Proofs.YtndkpfkgcaebmaaDoor
/-
  A region that draws its order, all of whose operations are quiet but the last one, which waits for all others: one walk of the lexical order, and the last operation behind it.
-/
namespace Go.Proofs.YtndkpfkgcaebmaaDoor
open Go

section
variable {P : Program} {ops : Array Oper} {md : Region.Mode} {C : World → Prop}
def wpAnyT (P : Program) (md : Region.Mode) (ops : Array Oper) (n : Nat) (C : World → Prop) (R : Act → Prop) : Nat → Array Bool → Act → Prop
  | 0, listed, a => Region.ready md ops listed = [n] ∧ Region.ready md ops (listed.setIfInBounds n true) = [] ∧ R a
  | fuel + 1, listed, a => Region.ready md ops listed ≠ [] ∧ n ∉ Region.ready md ops listed ∧ ∀ i ∈ Region.ready md ops listed, qOp P ops C i (wpAnyT P md ops n C R fuel (listed.setIfInBounds i true)) a
def waitsB (md : Region.Mode) (ops : Array Oper) (n : Nat) : Bool := ((ops[n]?).map fun o => (List.range n).all fun i => o.after.any fun e => Region.binds md e && e.on == i).getD false && decide (ops.size = n + 1)
theorem waits_spec {n : Nat} (h : waitsB md ops n = true) {i : Nat} (hi : i < n) {listed : Array Bool} (hr : i ∈ Region.ready md ops listed) : n ∉ Region.ready md ops listed := by
  intro hn
  obtain ⟨_, o, ho, hall⟩ := mem_ready.1 hn
  have h0 := (mem_ready.1 hr).1
  simp only [waitsB, ho, Option.map_some, Option.getD_some, Bool.and_eq_true] at h
  have h1 := List.all_eq_true.1 h.1 i (List.mem_range.2 hi)
  obtain ⟨e, he, hb⟩ := Array.any_eq_true'.1 h1
  simp only [Bool.and_eq_true, beq_iff_eq] at hb
  have h2 := hall e he hb.1
  rw [hb.2] at h2
  rcases Nat.lt_or_ge i listed.size with h' | h'
  · simp [h'] at h0 h2; rw [h0] at h2; cases h2
  · simp [Array.getElem?_eq_none h'] at h2
theorem ready_lt {n : Nat} (h : waitsB md ops n = true) {i : Nat} {listed : Array Bool} (hr : i ∈ Region.ready md ops listed) (hi : i ≠ n) : i < n := by
  obtain ⟨_, o, ho, _⟩ := mem_ready.1 hr
  have hlt : i < ops.size := (Array.getElem?_eq_some_iff.1 ho).1
  simp only [waitsB, Bool.and_eq_true, decide_eq_true_eq] at h
  omega
theorem wpAnyT_first {n : Nat} (hW : waitsB md ops n = true) {R : Act → Prop} {i : Nat} (hin : i < n) {oi : Oper} {v : Value} (hi : ops[i]? = some oi) (hsel : ∀ (j : Nat) (o : Oper) cs b, ops[j]? = some o → o.op ≠ .select cs b) :
    ∀ (fuel : Nat) (listed : Array Bool) (a : Act),
      (∀ j oj, ops[j]? = some oj → j ≠ i → listed.getD j true = false → (∀ e ∈ oj.after, Region.binds md e = true → e.on ≠ i) → oi.apart ops oj = true) →
      i ∈ Region.ready md ops listed → YieldsIn P ops C oi v a →
      wpAnyT P md ops n C R fuel (listed.setIfInBounds i true) (a.put oi.dst v) → wpAnyT P md ops n C R (fuel + 1) listed a := by
  intro fuel
  induction fuel with
  | zero =>
    intro listed a _ hr hy H
    have hnn := waits_spec hW hin hr
    refine ⟨fun h => (by rw [h] at hr; cases hr), hnn, fun j hj => ?_⟩
    by_cases hji : j = i
    · subst hji; exact hy.qOp hi H
    · have := ready_mono hj hji
      rw [H.1] at this
      simp at this
      subst this
      exact (hnn hj).elim
  | succ fuel ih =>
    intro listed a hfree hr hy H
    refine ⟨fun h => (by rw [h] at hr; cases hr), waits_spec hW hin hr, fun j hj => ?_⟩
    by_cases hji : j = i
    · subst hji; exact hy.qOp hi H
    · have h1 := H.2.2 j (ready_mono hj hji)
      obtain ⟨hjun, oj, hoj, hall⟩ := mem_ready.1 hj
      have hnot : ∀ e ∈ oj.after, Region.binds md e = true → e.on ≠ i := fun e he hb heq => by
        have h1 := hall e he hb
        have h0 := (mem_ready.1 hr).1
        rw [heq] at h1
        rcases Nat.lt_or_ge i listed.size with h' | h'
        · simp [h'] at h0 h1; rw [h0] at h1; cases h1
        · simp [Array.getElem?_eq_none h'] at h1
      have h2 := qOp_put hoj (hfree j oj hoj hji hjun hnot) (fun cs b => hsel i oi cs b hi) (fun cs b => hsel j oj cs b hoj) hy h1
      have hfree' : ∀ k ok, ops[k]? = some ok → k ≠ i → (listed.setIfInBounds j true).getD k true = false →
          (∀ e ∈ ok.after, Region.binds md e = true → e.on ≠ i) → oi.apart ops ok = true := fun k ok hk hki hun hno => by
        refine hfree k ok hk hki ?_ hno
        by_cases hjk : j = k
        · subst hjk; exact hjun
        · rw [getD_set_ne true hjk] at hun; exact hun
      refine qOp_mono (fun a' h3 => ih (listed.setIfInBounds j true) a' hfree' (ready_mono hr (Ne.symm hji)) h3.1 ?_) h2
      rw [Array.setIfInBounds_comm _ _ hji]
      exact h3.2
def lexT (md : Region.Mode) (ops : Array Oper) (n : Nat) : Nat → Nat → Array Bool → Bool
  | 0, _, listed => (Region.ready md ops listed == [n]) && (Region.ready md ops (listed.setIfInBounds n true)).isEmpty
  | fuel + 1, k, listed => (Region.ready md ops listed).contains k && decide (k < n) && Region.free md ops listed k && lexT md ops n fuel (k + 1) (listed.setIfInBounds k true)
def lastB (md : Region.Mode) (ops : Array Oper) (n : Nat) : Bool := Region.noSelect ops && waitsB md ops n && lexT md ops n n 0 (Array.replicate ops.size false)
theorem wpAnyT_lex {n : Nat} (hW : waitsB md ops n = true) {R : Act → Prop} (hs : Region.noSelect ops = true) : ∀ (l : List Oper) (k : Nat) (listed : Array Bool) (a : Act), (∀ j o, l[j]? = some o → ops[k + j]? = some o) →
    lexT md ops n l.length k listed = true → wpQuiet P ops C R l a → wpAnyT P md ops n C R l.length listed a
  | [], _, _, _, _, hB, h => by
    simp only [List.length_nil, lexT, Bool.and_eq_true, beq_iff_eq, List.isEmpty_iff] at hB
    exact ⟨hB.1, hB.2, h⟩
  | o :: l, k, listed, a, hl, hB, h => by
    have h0 : ops[k]? = some o := hl 0 o rfl
    simp only [List.length_cons, lexT, Bool.and_eq_true, decide_eq_true_eq] at hB
    obtain ⟨⟨⟨hr, hk⟩, hf⟩, hB'⟩ := hB
    have hst : qOp P ops C k (wpQuiet P ops C R l) a := by unfold qOp; simp only [h0]; exact h
    obtain ⟨v, hy, hK⟩ := yieldsIn_of_qOp h0 hst
    exact wpAnyT_first hW hk h0 (Region.noSelect_spec hs) l.length listed a (Region.free_spec h0 hf) (by simpa using hr) hy
      (wpAnyT_lex hW hs l (k + 1) _ _ (fun j o' hj => by have := hl (j + 1) o' (by simpa using hj); simpa [Nat.add_assoc, Nat.add_comm 1 j] using this) hB' hK)
theorem wpAny_of_T {n : Nat} {Q : Exit → Act → World → Prop} : ∀ (fuel : Nat) (listed : Array Bool) (a : Act) (w : World), C w →
    wpAnyT P md ops n C (fun a' => ∀ w', C w' → wpOp P ops Q n (fun a w => Q .normal a w) a' w') fuel listed a → wpAny P md ops Q (fuel + 1) listed a w
  | 0, _, _, _, hw, ⟨h1, h2, h3⟩ => ⟨fun h0 => (by rw [h1] at h0; cases h0), fun i hi => by
      rw [h1] at hi
      simp at hi
      subst hi
      exact wpOp_mono (fun a w h => ⟨h2, h⟩) (h3 _ hw)⟩
  | fuel + 1, _, _, _, hw, ⟨h1, _, h3⟩ => ⟨fun h0 => (h1 h0).elim, fun i hi => wpOp_of_qOp hw (fun a' w' hw' h => wpAny_of_T fuel _ a' w' hw' h) (h3 i hi)⟩
theorem wp_region_last {id : Nat} {Q : Exit → Act → World → Prop} {a : Act} {w : World} {l : List Oper} (n : Nat) (hm : P.follows .mixedOrders = true) (hB : lastB .any l.toArray n = true)
    (h : wpQuiet P l.toArray (fun w' => ∃ n, w' = w.drewN n) (fun a' => ∀ w', (∃ n, w' = w.drewN n) → wpList P l.toArray Q (l.drop n) a' w') (l.take n) a) : (Code.region id l.toArray true).wp P Q a w := by
  simp only [lastB, Bool.and_eq_true] at hB
  obtain ⟨⟨hs, hW⟩, hL⟩ := hB
  have hsz : l.length = n + 1 := by
    simp only [waitsB, Bool.and_eq_true, decide_eq_true_eq] at hW
    simpa using hW.2
  refine wp_region_any hm ?_
  rw [show l.toArray.size = n + 1 by simpa using hsz]
  refine wpAny_of_T (C := fun w' => ∃ n, w' = w.drewN n) (n := n) n _ a _ ⟨1, rfl⟩ ?_
  have hl : (l.take n).length = n := by simp; omega
  have hd : l.drop n = [l[n]'(by omega)] := by
    rw [List.drop_eq_getElem_cons (by omega), List.drop_of_length_le (by omega)]
  have key := wpAnyT_lex (P := P) (md := .any) (C := fun w' => ∃ n, w' = w.drewN n) hW (R := fun a' => ∀ w', (∃ n, w' = w.drewN n) → wpOp P l.toArray Q n (fun a w => Q .normal a w) a' w') hs (l.take n) 0 (Array.replicate (n + 1) false) a
    (fun j o hj => by
      rw [List.getElem?_take] at hj
      split at hj
      · simpa using hj
      · cases hj)
    (by rw [hl]; simpa [hsz] using hL)
    (by
      rw [hd] at h
      have e : ∀ a' w', wpList P l.toArray Q [l[n]'(by omega)] a' w' → wpOp P l.toArray Q n (fun a w => Q .normal a w) a' w' := by
        intro a' w' hh
        unfold wpOp
        rw [show l.toArray[n]? = some (l[n]'(by omega)) by simp [List.getElem?_eq_getElem (show n < l.length by omega)]]
        simpa [wpList] using hh
      have mono : ∀ (r : List Oper) (a : Act), wpQuiet P l.toArray (fun w' => ∃ n, w' = w.drewN n) (fun a' => ∀ w', (∃ n, w' = w.drewN n) → wpList P l.toArray Q [l[n]'(by omega)] a' w') r a → wpQuiet P l.toArray (fun w' => ∃ n, w' = w.drewN n) (fun a' => ∀ w', (∃ n, w' = w.drewN n) → wpOp P l.toArray Q n (fun a w => Q .normal a w) a' w') r a := by
        intro r
        induction r with
        | nil => intro a h w' hw'; exact e _ _ (h w' hw')
        | cons o r ih =>
          intro a h
          unfold wpQuiet at h ⊢
          split
          · rename_i hw
            rw [if_pos hw] at h
            exact Oper.quiet_mono ih h
          · rename_i hw
            rw [if_neg hw] at h
            exact ih _ h
      exact mono _ _ h)
  rw [hl] at key
  exact key
end
end Go.Proofs.YtndkpfkgcaebmaaDoor
/-
  The last four things.
-/
namespace Go.Proofs.YtndkpfkgcaebmaaDoor
open Go.RowKit
attribute [local go_sem ↓] Go.wp_at_zero Go.wp_at_succ


namespace ST
def LaPost (w : World) (R : Value) (e : Ending) (w' : World) : Prop := e = .returned R ∧ Up w w'
def last4 (s : Stt) : Value := .agg #[.bool (decide (1 ≤ s.turn)), .bool (numB s.whose s.ps.length), .bool (finB s), .bool (winB s)]
set_option maxRecDepth 100000 in
set_option maxHeartbeats 2000000 in
theorem lastThings_ (v : Value) (s : Stt) (w : World) (hs : StL w v s) : Calls Tryd.prog 87 #[v] w fun e w' => LaPost w (last4 s) e w' := by
  obtain ⟨vp, vc, vz, rfl, h1, -, -⟩ := hs
  obtain ⟨a1, k1, rfl, -, -⟩ := lc_at h1
  clear h1
  unfold sv
  obtain ⟨np, hnp⟩ : ∃ n, n = s.ps.length := ⟨_, rfl⟩
  obtain ⟨B, hB⟩ : ∃ b, numB s.whose s.ps.length = b := ⟨_, rfl⟩
  obtain ⟨fin, hfin⟩ : ∃ z, z = s.fin := ⟨_, rfl⟩
  have HR : Hid (last4 s = .agg #[.bool (decide (1 ≤ s.turn)), .bool B, .bool (finB s), .bool (winB s)]) := by unfold Hid; rw [← hB]; rfl
  generalize last4 s = R at HR ⊢
  have HB : Hid (numB s.whose np = B) := by unfold Hid; rw [hnp]; exact hB
  have HF : Hid (fin = s.fin) := hfin
  have HN : Hid (np = s.ps.length) := hnp
  rw [← hnp, ← hfin]
  generalize s.whose = whose at *
  by_cases f1 : fin = 1
  · subst f1
    obtain ⟨C, hC⟩ : ∃ b, numB s.winner np = b := ⟨_, rfl⟩
    have HC : Hid (numB s.winner np = C) := hC
    have HW : Hid (winB s = C) := by unfold Hid; rw [winB, ← HF.out, if_pos rfl, ← HN.out]; exact hC
    have HE : Hid (finB s = true) := by unfold Hid; rw [finB, ← HF.out]; rfl
    clear hB hnp hfin hC HF HN
    generalize s.winner = winner at *
    generalize s.turn = turn at *
    go_enter Tryd.func87, Tryd.ntmps87
    go_wp2_with fail
    refine Calls.mono (isNumberB _ _ C HC.out _) ?_
    rintro e w1 ⟨rfl, rfl⟩
    go_wp2_with fail
    refine wp_region_last 22 (by kernel_rfl) (by kernel_rfl) ?_
    simp only [List.take_succ_cons, List.take_zero, List.drop_succ_cons, List.drop_zero]
    repeat (go_big_quiet_step (exact Calls.quiet_of_same (isNumberB _ _ B HB.out _)))
    refine wpQuiet_nil ?_
    intro _ hw'
    obtain ⟨nq, hw''⟩ := hw'
    subst hw''
    go_wp2
    refine bodyPost_ret (v := .agg #[.bool (decide (1 ≤ turn)), .bool B, .bool true, .bool C]) (by simp [results, Tryd.results87, go_sem]) rfl ?_
    refine ⟨?_, ?_⟩
    · rw [HR.out, HW.out, HE.out]
    · repeat (first | with_reducible exact Up.refl _ | with_reducible apply Up.alloc | with_reducible apply Up.drewN | with_reducible apply Up.drew | with_reducible refine Up.set ?_ _ _ (by first | exact Nat.le_refl _ | exact Nat.le_succ _ | (simp; omega)))
  · have HW : Hid (winB s = decide (s.winner = 0)) := by unfold Hid; rw [winB, ← HF.out, if_neg f1]
    have HE : Hid (finB s = (decide (fin = 0) || decide (fin = 2))) := by unfold Hid; rw [finB, ← HF.out]; simp [f1]
    have b1 : (fin == 1) = false := by simpa using f1
    clear hB hnp hfin HF HN
    generalize s.winner = winner at *
    generalize s.turn = turn at *
    by_cases f0 : fin = 0
    · subst f0
      go_enter Tryd.func87, Tryd.ntmps87
      go_wp2_with fail
      refine wp_region_last 22 (by kernel_rfl) (by kernel_rfl) ?_
      simp only [List.take_succ_cons, List.take_zero, List.drop_succ_cons, List.drop_zero]
      repeat (go_big_quiet_step (exact Calls.quiet_of_same (isNumberB _ _ B HB.out _)))
      refine wpQuiet_nil ?_
      intro _ hw'
      obtain ⟨nq, hw''⟩ := hw'
      subst hw''
      go_wp2
      refine bodyPost_ret (v := .agg #[.bool (decide (1 ≤ turn)), .bool B, .bool true, .bool (winner == 0)]) (by simp [results, Tryd.results87, go_sem]) rfl ?_
      refine ⟨?_, ?_⟩
      · rw [HR.out, HW.out, HE.out]; rfl
      · repeat (first | with_reducible exact Up.refl _ | with_reducible apply Up.alloc | with_reducible apply Up.drewN | with_reducible apply Up.drew | with_reducible refine Up.set ?_ _ _ (by first | exact Nat.le_refl _ | exact Nat.le_succ _ | (simp; omega)))
    · have b0 : (fin == 0) = false := by simpa using f0
      by_cases f2 : fin = 2
      · subst f2
        go_enter Tryd.func87, Tryd.ntmps87
        go_wp2_with fail
        refine wp_region_last 22 (by kernel_rfl) (by kernel_rfl) ?_
        simp only [List.take_succ_cons, List.take_zero, List.drop_succ_cons, List.drop_zero]
        repeat (go_big_quiet_step (exact Calls.quiet_of_same (isNumberB _ _ B HB.out _)))
        refine wpQuiet_nil ?_
        intro _ hw'
        obtain ⟨nq, hw''⟩ := hw'
        subst hw''
        go_wp2
        refine bodyPost_ret (v := .agg #[.bool (decide (1 ≤ turn)), .bool B, .bool true, .bool (winner == 0)]) (by simp [results, Tryd.results87, go_sem]) rfl ?_
        refine ⟨?_, ?_⟩
        · rw [HR.out, HW.out, HE.out]; rfl
        · repeat (first | with_reducible exact Up.refl _ | with_reducible apply Up.alloc | with_reducible apply Up.drewN | with_reducible apply Up.drew | with_reducible refine Up.set ?_ _ _ (by first | exact Nat.le_refl _ | exact Nat.le_succ _ | (simp; omega)))
      · have b2 : (fin == 2) = false := by simpa using f2
        go_enter Tryd.func87, Tryd.ntmps87
        go_wp2_with fail
        refine wp_region_last 22 (by kernel_rfl) (by kernel_rfl) ?_
        simp only [List.take_succ_cons, List.take_zero, List.drop_succ_cons, List.drop_zero]
        repeat (go_big_quiet_step (exact Calls.quiet_of_same (isNumberB _ _ B HB.out _)))
        refine wpQuiet_nil ?_
        intro _ hw'
        obtain ⟨nq, hw''⟩ := hw'
        subst hw''
        go_wp2
        refine bodyPost_ret (v := .agg #[.bool (decide (1 ≤ turn)), .bool B, .bool false, .bool (winner == 0)]) (by simp [results, Tryd.results87, go_sem]) rfl ?_
        refine ⟨?_, ?_⟩
        · rw [HR.out, HW.out, HE.out]; simp [f0, f2]; rfl
        · repeat (first | with_reducible exact Up.refl _ | with_reducible apply Up.alloc | with_reducible apply Up.drewN | with_reducible apply Up.drew | with_reducible refine Up.set ?_ _ _ (by first | exact Nat.le_refl _ | exact Nat.le_succ _ | (simp; omega)))
end ST
end Go.Proofs.YtndkpfkgcaebmaaDoor
/-
  The first thing that is not so.
-/
namespace Go.Proofs.YtndkpfkgcaebmaaDoor
open Go.RowKit
attribute [local go_sem ↓] Go.wp_at_zero Go.wp_at_succ

namespace ST
theorem idx0 (b0 b1 b2 b3 : Bool) : ∀ w, (Instr.index 142 (.agg #[.bool b0, .bool b1, .bool b2, .bool b3]) (.int .i64 0)).run Tryd.prog w = .ok (.bool b0) w := fun w => by kernel_rfl
theorem idx1 (b0 b1 b2 b3 : Bool) : ∀ w, (Instr.index 142 (.agg #[.bool b0, .bool b1, .bool b2, .bool b3]) (.int .i64 1)).run Tryd.prog w = .ok (.bool b1) w := fun w => by kernel_rfl
theorem idx2 (b0 b1 b2 b3 : Bool) : ∀ w, (Instr.index 142 (.agg #[.bool b0, .bool b1, .bool b2, .bool b3]) (.int .i64 2)).run Tryd.prog w = .ok (.bool b2) w := fun w => by kernel_rfl
theorem idx3 (b0 b1 b2 b3 : Bool) : ∀ w, (Instr.index 142 (.agg #[.bool b0, .bool b1, .bool b2, .bool b3]) (.int .i64 3)).run Tryd.prog w = .ok (.bool b3) w := fun w => by kernel_rfl
theorem findIdx_at {A : Type} (l : List A) (f : A → Bool) (d : A) (i : Nat) (hi : i < l.length) (h1 : ∀ j, j < i → f (l.getD j d) = true) (h2 : f (l.getD i d) = false) : l.findIdx? (fun x => !f x) = some i := by
  have g : ∀ j (hj : j < l.length), l.getD j d = l[j] := fun j hj => by rw [List.getD_eq_getElem?_getD, List.getElem?_eq_getElem hj]; rfl
  rw [List.findIdx?_eq_some_iff_getElem]
  refine ⟨hi, by rw [← g i hi, h2]; rfl, fun j hj => ?_⟩
  have := h1 j hj
  rw [g j (by omega)] at this
  simp [this]
theorem findIdx_no {A : Type} (l : List A) (f : A → Bool) (d : A) (h : ∀ j, j < l.length → f (l.getD j d) = true) : l.findIdx? (fun x => !f x) = none := by
  rw [findIdx_none]
  intro x hx
  obtain ⟨j, hj, rfl⟩ := List.getElem_of_mem hx
  have := h j hj
  rwa [List.getD_eq_getElem?_getD, List.getElem?_eq_getElem hj] at this
def lastF (s : Stt) : Option Nat :=
      if ¬ 1 ≤ s.turn then some (2 + s.ps.length + 2 * s.cs.length) else
      if numB s.whose s.ps.length = false then some (3 + s.ps.length + 2 * s.cs.length) else
      if finB s = false then some (4 + s.ps.length + 2 * s.cs.length) else
      if winB s = false then some (5 + s.ps.length + 2 * s.cs.length) else none
theorem ff_sizes {s : Stt} (h : sizesB s = false) : ff s = some 0 := by unfold ff; rw [if_pos h]
theorem ff_ply {s : Stt} (h : sizesB s = true) {i : Nat} (h1 : s.ps.findIdx? (fun p => !plyB p) = some i) : ff s = some (1 + i) := by unfold ff; rw [if_neg (by simp [h]), h1]
theorem ff_crd {s : Stt} (h : sizesB s = true) (h1 : s.ps.findIdx? (fun p => !plyB p) = none) {i : Nat} (h2 : s.cs.findIdx? (fun c => !crdB s.ps.length c) = some i) : ff s = some (1 + s.ps.length + i) := by unfold ff; rw [if_neg (by simp [h]), h1, h2]
theorem ff_ent {s : Stt} (h : sizesB s = true) (h1 : s.ps.findIdx? (fun p => !plyB p) = none) (h2 : s.cs.findIdx? (fun c => !crdB s.ps.length c) = none) (h3 : good s.cs.length (flat s) < (flat s).length ∨ good s.cs.length (flat s) < s.cs.length) : ff s = some (1 + s.ps.length + s.cs.length + good s.cs.length (flat s)) := by
  unfold ff; rw [if_neg (by simp [h]), h1, h2]; dsimp only; rw [if_pos h3]
theorem ff_last {s : Stt} (h : sizesB s = true) (h1 : s.ps.findIdx? (fun p => !plyB p) = none) (h2 : s.cs.findIdx? (fun c => !crdB s.ps.length c) = none) (h3 : ¬ (good s.cs.length (flat s) < (flat s).length ∨ good s.cs.length (flat s) < s.cs.length)) : ff s = lastF s := by
  unfold ff; rw [if_neg (by simp [h]), h1, h2]; dsimp only; rw [if_neg h3]; rfl
def FPost (w : World) (r : Option Nat) (e : Ending) (w' : World) : Prop := e = .returned (.tuple #[.int .i64 (r.getD 0 : Nat), .bool r.isSome]) ∧ Up w w'
/- what lies in memory is not beyond reach -/
def Small (s : Stt) : Prop := s.ps.length ≤ 4294967296 ∧ s.cs.length ≤ 4294967296 ∧ s.zs.length ≤ 4294967296 ∧ ∀ r, r < s.zs.length → (s.zs.getD r []).length ≤ 4294967296
set_option maxRecDepth 100000 in
set_option maxHeartbeats 4000000 in
theorem firstFault_ (v : Value) (s : Stt) (w : World) (hs : StL w v s) (hsm : Small s) :
    Calls Tryd.prog 79 #[v] w (FPost w (ff s)) := by
  obtain ⟨vp, vc, vz, rfl, h1, h2, h3⟩ := hs
  have hsl : StL w (sv vp vc vz s) s := ⟨vp, vc, vz, rfl, h1, h2, h3⟩
  obtain ⟨a1, k1, rfl, -, c1⟩ := pl_at h1
  obtain ⟨a2, k2, rfl, -, c2⟩ := cl_at h2
  obtain ⟨a3, k3, rfl, -, -⟩ := zl_at h3
  clear h1 h2 h3
  obtain ⟨Post, hPost⟩ : ∃ P : Ending → World → Prop, P = FPost w (ff s) := ⟨_, rfl⟩
  rw [← hPost]
  have HP : Hid (Post = FPost w (ff s)) := hPost
  obtain ⟨np, hnp⟩ : ∃ n, n = s.ps.length := ⟨_, rfl⟩
  obtain ⟨nc, hnc⟩ : ∃ n, n = s.cs.length := ⟨_, rfl⟩
  obtain ⟨nz, hnz⟩ : ∃ n, n = s.zs.length := ⟨_, rfl⟩
  have HN : Hid (np = s.ps.length ∧ nc = s.cs.length ∧ nz = s.zs.length) := ⟨hnp, hnc, hnz⟩
  have HSL : Hid (StL w (sv (.slice a1 np k1) (.slice a2 nc k2) (.slice a3 nz k3) s) s) := by unfold Hid; rw [hnp, hnc, hnz]; exact hsl
  have HSM : Hid (Small s) := hsm
  have hs1 : np ≤ 4294967296 := by rw [hnp]; exact hsm.1
  have hs2 : nc ≤ 4294967296 := by rw [hnc]; exact hsm.2.1
  rw [← hnp] at c1 ⊢
  rw [← hnc] at c2 ⊢
  rw [← hnz]
  have H1 : Hid _ := c1
  have H2 : Hid _ := c2
  unfold sv at HSL ⊢
  obtain ⟨tu, htu⟩ : ∃ z, z = s.turn := ⟨_, rfl⟩
  obtain ⟨wo, hwo⟩ : ∃ z, z = s.whose := ⟨_, rfl⟩
  obtain ⟨fi, hfi⟩ : ∃ z, z = s.fin := ⟨_, rfl⟩
  obtain ⟨wi, hwi⟩ : ∃ z, z = s.winner := ⟨_, rfl⟩
  rw [← htu, ← hwo, ← hfi, ← hwi] at HSL ⊢
  obtain ⟨w0, hw0⟩ : ∃ W, W = w.alloc (.cells #[.slice a1 np k1, .slice a2 nc k2, .slice a3 nz k3, .int .i32 tu, .int .i64 wo, .int .i8 fi, .int .i64 wi] 27) := ⟨_, rfl⟩
  obtain ⟨b0, hb0⟩ : ∃ g, g = w.heap.size := ⟨_, rfl⟩
  have HW : Hid (Up w w0 ∧ w0.heap[b0]? = some (.cells #[.slice a1 np k1, .slice a2 nc k2, .slice a3 nz k3, .int .i32 tu, .int .i64 wo, .int .i8 fi, .int .i64 wi] 27 (0, 0))) := ⟨by rw [hw0]; exact (Up.refl _).alloc _, by rw [hw0, hb0]; exact heap_alloc_new w _⟩
  obtain ⟨y0, y1, y2, y3, y4, y5, y6⟩ := seven_cells HW.out.2
  clear hPost hnp hnc hnz hsl hsm c1 c2 htu hwo hfi hwi
  go_enter Tryd.func79, Tryd.ntmps79
  go_wp2_with fail
  rw [← hw0, ← hb0]
  clear hw0 hb0
  cases hsz : sizesB s
  · have hc := sizesFit_ _ s _ (HSL.out.up HW.out.1) HSM.out.1
    rw [hsz] at hc
    refine Calls.mono hc ?_
    rintro e w1 ⟨rfl, u1⟩
    have hu := HW.out.1.trans u1
    clear hc
    go_wp2
    rw [HP.out, ff_sizes hsz]
    exact ⟨rfl, hu⟩
  · have hc := sizesFit_ _ s _ (HSL.out.up HW.out.1) HSM.out.1
    rw [hsz] at hc
    refine Calls.mono hc ?_
    rintro e w1 ⟨rfl, u1⟩
    clear hc
    obtain ⟨B, hB⟩ : ∃ B : World → Prop, B = fun W => Up w W ∧ W.heap[b0]? = some (.cells #[.slice a1 np k1, .slice a2 nc k2, .slice a3 nz k3, .int .i32 tu, .int .i64 wo, .int .i8 fi, .int .i64 wi] 27 (0, 0)) := ⟨_, rfl⟩
    have HBu : Hid (∀ W W', B W → Up W W' → B W') := fun W W' h u => by rw [hB] at h ⊢; exact ⟨h.1.trans u, u.heap h.2⟩
    have HBc : Hid (∀ W, B W → Up w W ∧ W.cell? ⟨b0, 0, none⟩ = some (.slice a1 np k1) ∧ W.cell? ⟨b0, 1, none⟩ = some (.slice a2 nc k2) ∧ W.cell? ⟨b0, 2, none⟩ = some (.slice a3 nz k3) ∧ W.cell? ⟨b0, 3, none⟩ = some (.int .i32 tu) ∧ W.cell? ⟨b0, 4, none⟩ = some (.int .i64 wo) ∧ W.cell? ⟨b0, 5, none⟩ = some (.int .i8 fi) ∧ W.cell? ⟨b0, 6, none⟩ = some (.int .i64 wi)) := fun W h => by rw [hB] at h; exact ⟨h.1, seven_cells h.2⟩
    have HB0 : Hid (B w1) := HBu.out w0 w1 (by rw [hB]; exact HW.out) u1
    clear hB y0 y1 y2 y3 y4 y5 y6 HW u1
    obtain ⟨-, y0, -, -, -, -, -, -⟩ := HBc.out w1 HB0.out
    have HZ : Hid (sizesB s = true) := hsz
    clear hsz
    go_wp2_with fail
    go_loopw [2, 3, 18] (fun s2 s3 s18 W => ∃ i : Nat, i ≤ np ∧ s18 = .int .i64 i ∧ s2 = .int .i64 ((1 + i : Nat) : Int) ∧ s3 = .bool false ∧ B W ∧ ∀ j, j < i → plyB (s.ps.getD j dp) = true) (fun _ _ s18 _ => np - (intOf s18).toNat)
    case atStart => exact ⟨0, Nat.zero_le _, rfl, rfl, rfl, HB0.out, fun j hj => by omega⟩
    case round =>
      obtain ⟨i, hi, rfl, rfl, rfl, hb, hj⟩ := hrel
      clear HB0 y0
      have HBw : Hid (B wr) := hb
      have HJ : Hid (∀ j, j < i → plyB (s.ps.getD j dp) = true) := hj
      clear hb hj
      by_cases hlt : i < np
      · have hlt2 : (i : Int) < (np : Int) := by omega
        obtain ⟨b1, o1, rfl, hc1⟩ := H1.out (by omega)
        obtain ⟨x1, x2, x3⟩ := hc1 wr (HBc.out wr HBw.out).1 i hlt
        clear hc1
        have HX : Hid (plyB (s.ps.getD i dp) = (statB (s.ps.getD i dp).life && statB (s.ps.getD i dp).energy)) := rfl
        have HBad : Hid (plyB (s.ps.getD i dp) = false → ff s = some (1 + i)) := fun h => ff_ply HZ.out (findIdx_at _ plyB dp i (by rw [← HN.out.1]; exact hlt) HJ.out h)
        have HGood : Hid (plyB (s.ps.getD i dp) = true → ∀ j, j < i + 1 → plyB (s.ps.getD j dp) = true) := fun h j hj => by
          by_cases e : j = i
          · subst e; exact h
          · exact HJ.out j (by omega)
        clear HJ
        generalize s.ps.getD i dp = p at *
        obtain ⟨li, en, ou⟩ := p
        simp only at x1 x2 x3
        cases q1 : statB li
        · have HF : Hid (ff s = some (1 + i)) := HBad.out (by rw [HX.out]; simp only [q1, Bool.false_and])
          clear HX HBad HGood
          go_wp2_with fail
          refine Calls.mono (isStatB _ false q1 _) ?_
          rintro e9 w9 ⟨rfl, rfl⟩
          go_wp2
          rw [HP.out, HF.out]
          refine ⟨by simp, (HBc.out wr HBw.out).1.trans ?_⟩
          repeat (first | with_reducible exact Up.refl _ | with_reducible apply Up.alloc | with_reducible apply Up.drewN | with_reducible apply Up.drew | with_reducible refine Up.set ?_ _ _ (by first | exact Nat.le_refl _ | exact Nat.le_succ _ | (simp; omega)))
        · cases q2 : statB en
          · have HF : Hid (ff s = some (1 + i)) := HBad.out (by rw [HX.out]; simp only [q1, q2, Bool.and_false])
            clear HX HBad HGood
            go_wp2_with fail
            refine Calls.mono (isStatB _ true q1 _) ?_
            rintro e9 w9 ⟨rfl, rfl⟩
            go_wp2_with fail
            refine Calls.mono (isStatB _ false q2 _) ?_
            rintro e9 w9 ⟨rfl, rfl⟩
            go_wp2
            rw [HP.out, HF.out]
            refine ⟨by simp, (HBc.out wr HBw.out).1.trans ?_⟩
            repeat (first | with_reducible exact Up.refl _ | with_reducible apply Up.alloc | with_reducible apply Up.drewN | with_reducible apply Up.drew | with_reducible refine Up.set ?_ _ _ (by first | exact Nat.le_refl _ | exact Nat.le_succ _ | (simp; omega)))
          · have HF : Hid (∀ j, j < i + 1 → plyB (s.ps.getD j dp) = true) := HGood.out (by rw [HX.out]; simp only [q1, q2, Bool.and_true])
            clear HX HBad HGood
            go_wp2_with fail
            refine Calls.mono (isStatB _ true q1 _) ?_
            rintro e9 w9 ⟨rfl, rfl⟩
            go_wp2_with fail
            refine Calls.mono (isStatB _ true q2 _) ?_
            rintro e9 w9 ⟨rfl, rfl⟩
            go_wp2_with fail
            go_roundw
            case rel =>
              refine ⟨i + 1, by omega, by go_num, by go_num, rfl, HBu.out _ _ HBw.out ?_, HF.out⟩
              repeat (first | with_reducible exact Up.refl _ | with_reducible apply Up.alloc | with_reducible apply Up.drewN | with_reducible apply Up.drew | with_reducible refine Up.set ?_ _ _ (by first | exact Nat.le_refl _ | exact Nat.le_succ _ | (simp; omega)))
            case measure => simp [intOf]; omega
      · have hlt2 : ¬ (i : Int) < (np : Int) := by omega
        have hip : i = np := by omega
        subst hip
        have HPs : Hid (s.ps.findIdx? (fun p => !plyB p) = none) := findIdx_no _ plyB dp (by rw [← HN.out.1]; exact HJ.out)
        clear HJ
        obtain ⟨hu, y0, y1, -, -, -, -, -⟩ := HBc.out wr HBw.out
        clear hu
        go_wp2_with fail
        go_loopw [2, 3, 39] (fun s2 s3 s39 W => ∃ q : Nat, q ≤ nc ∧ s39 = .int .i64 q ∧ s2 = .int .i64 ((1 + i + q : Nat) : Int) ∧ s3 = .bool false ∧ B W ∧ ∀ j, j < q → crdB i (s.cs.getD j dc) = true) (fun _ _ s39 _ => nc - (intOf s39).toNat)
        case atStart => exact ⟨0, Nat.zero_le _, rfl, rfl, rfl, HBw.out, fun j hj => by omega⟩
        case round =>
          obtain ⟨q, hq, rfl, rfl, rfl, hb, hj⟩ := hrel
          clear HBw y0 y1
          have HBw : Hid (B wr) := hb
          have HJ : Hid (∀ j, j < q → crdB i (s.cs.getD j dc) = true) := hj
          clear hb hj
          by_cases hlt3 : q < nc
          · have hlt4 : (q : Int) < (nc : Int) := by omega
            obtain ⟨b1, o1, rfl, hc1⟩ := H2.out (by omega)
            obtain ⟨x1, x2, x3, x4, x5, x6⟩ := hc1 wr (HBc.out wr HBw.out).1 q hlt3
            obtain ⟨-, y0, -, -, -, -, -, -⟩ := HBc.out wr HBw.out
            clear hc1
            have HX : Hid (crdB i (s.cs.getD q dc) = (crd0B (s.cs.getD q dc) && numB (s.cs.getD q dc).owner i)) := rfl
            have HBad : Hid (crdB i (s.cs.getD q dc) = false → ff s = some (1 + i + q)) := fun h => by
              have h1 := HN.out.1
              rw [h1]
              exact ff_crd HZ.out HPs.out (findIdx_at _ (crdB s.ps.length) dc q (by rw [← HN.out.2.1]; exact hlt3) (by rw [← h1]; exact HJ.out) (by rw [← h1]; exact h))
            have HGood : Hid (crdB i (s.cs.getD q dc) = true → ∀ j, j < q + 1 → crdB i (s.cs.getD j dc) = true) := fun h j hj => by
              by_cases e : j = q
              · subst e; exact h
              · exact HJ.out j (by omega)
            clear HJ
            generalize s.cs.getD q dc = c at *
            obtain ⟨ki, ow, po, he, da, ma⟩ := c
            simp only at x1 x2 x3 x4 x5 x6
            cases q1 : crd0B ⟨ki, ow, po, he, da, ma⟩
            · have HF : Hid (ff s = some (1 + i + q)) := HBad.out (by rw [HX.out]; simp only [q1, Bool.false_and])
              have HC : Hid _ := cardFitsB _ false q1
              clear HX HBad HGood q1
              unfold cag at HC
              go_wp2_with fail
              refine Calls.mono (HC.out _) ?_
              rintro e9 w9 ⟨rfl, u9⟩
              have HU : Hid (Up w w9) := by
                refine Up.trans ((HBc.out wr HBw.out).1.trans ?_) u9
                repeat (first | with_reducible exact Up.refl _ | with_reducible apply Up.alloc | with_reducible apply Up.drewN | with_reducible apply Up.drew | with_reducible refine Up.set ?_ _ _ (by first | exact Nat.le_refl _ | exact Nat.le_succ _ | (simp; omega)))
              clear u9
              go_wp2
              rw [HP.out, HF.out]
              exact ⟨by simp [Int.natCast_add], HU.out⟩
            · have HC : Hid _ := cardFitsB _ true q1
              unfold cag at HC
              cases q2 : numB ow i
              · have HF : Hid (ff s = some (1 + i + q)) := HBad.out (by rw [HX.out]; simp only [q1, q2, Bool.and_false])
                clear HX HBad HGood q1
                go_wp2_with fail
                refine Calls.mono (HC.out _) ?_
                rintro e9 w9 ⟨rfl, u9⟩
                have HW9 : Hid (B w9) := by
                  refine HBu.out _ _ (HBu.out _ _ HBw.out ?_) u9
                  repeat (first | with_reducible exact Up.refl _ | with_reducible apply Up.alloc | with_reducible apply Up.drewN | with_reducible apply Up.drew | with_reducible refine Up.set ?_ _ _ (by first | exact Nat.le_refl _ | exact Nat.le_succ _ | (simp; omega)))
                obtain ⟨-, y0, -, -, -, -, -, -⟩ := HBc.out w9 HW9.out
                have z1 : w9.cell? ⟨wr.heap.size, 1, none⟩ = some (.int .i64 ow) := u9.cell (by simp)
                clear u9
                go_wp2_with fail
                refine Calls.mono (isNumberB _ _ false q2 _) ?_
                rintro e9 w9 ⟨rfl, rfl⟩
                go_wp2
                rw [HP.out, HF.out]
                exact ⟨by simp [Int.natCast_add], (HBc.out _ HW9.out).1⟩
              · have HF : Hid (∀ j, j < q + 1 → crdB i (s.cs.getD j dc) = true) := HGood.out (by rw [HX.out]; simp only [q1, q2, Bool.and_true])
                clear HX HBad HGood q1
                go_wp2_with fail
                refine Calls.mono (HC.out _) ?_
                rintro e9 w9 ⟨rfl, u9⟩
                have HW9 : Hid (B w9) := by
                  refine HBu.out _ _ (HBu.out _ _ HBw.out ?_) u9
                  repeat (first | with_reducible exact Up.refl _ | with_reducible apply Up.alloc | with_reducible apply Up.drewN | with_reducible apply Up.drew | with_reducible refine Up.set ?_ _ _ (by first | exact Nat.le_refl _ | exact Nat.le_succ _ | (simp; omega)))
                obtain ⟨-, y0, -, -, -, -, -, -⟩ := HBc.out w9 HW9.out
                have z1 : w9.cell? ⟨wr.heap.size, 1, none⟩ = some (.int .i64 ow) := u9.cell (by simp)
                clear u9
                go_wp2_with fail
                refine Calls.mono (isNumberB _ _ true q2 _) ?_
                rintro e9 w9 ⟨rfl, rfl⟩
                go_wp2_with fail
                go_roundw
                case rel => exact ⟨q + 1, by omega, by go_num, by go_num, rfl, HW9.out, HF.out⟩
                case measure => simp [intOf]; omega
          · have hlt4 : ¬ (q : Int) < (nc : Int) := by omega
            have hqc : q = nc := by omega
            subst hqc
            have HCs : Hid (s.cs.findIdx? (fun c => !crdB s.ps.length c) = none) := findIdx_no _ (crdB s.ps.length) dc (by rw [← HN.out.1, ← HN.out.2.1]; exact HJ.out)
            clear HJ
            obtain ⟨hu, y0, y1, y2, y3, y4, y5, y6⟩ := HBc.out wr HBw.out
            have hm256 : q ≤ 256 ∧ i ≤ 4 := by
              have := HZ.out
              simp only [sizesB, npB, ncB, Bool.and_eq_true, decide_eq_true_eq] at this
              have h1 := HN.out
              omega
            have HGe : Hid (Calls Tryd.prog 86 #[.agg #[.slice a1 i k1, .slice a2 s.cs.length k2, .slice a3 nz k3, .int .i32 tu, .int .i64 wo, .int .i8 fi, .int .i64 wi]] wr fun e w' => e = .returned (.tuple #[.int .i64 (good s.cs.length (flat s)), .bool (decide (good s.cs.length (flat s) = (flat s).length))]) ∧ Up wr w') := goodEntries_ _ s wr (by rw [← HN.out.2.1]; exact HSL.out.up hu) (by rw [← HN.out.2.1]; exact hm256.1) HSM.out.2.2.1 HSM.out.2.2.2
            clear hu
            rw [← HN.out.2.1] at HGe
            have HGL : Hid (good q (flat s) ≤ (flat s).length ∧ good q (flat s) ≤ q) := ⟨good_le _ _, good_small q _ _ (good_le _ _) (fun j hj => good_ok _ _ j hj)⟩
            have HE : Hid ((good q (flat s) < (flat s).length ∨ good q (flat s) < q) → ff s = some (1 + i + q + good q (flat s))) := fun h => by
              have e := ff_ent HZ.out HPs.out HCs.out (by rw [← HN.out.2.1]; exact h)
              rw [← HN.out.1, ← HN.out.2.1] at e
              exact e
            have HLa : Hid (¬ (good q (flat s) < (flat s).length ∨ good q (flat s) < q) → ff s = lastF s) := fun h => ff_last HZ.out HPs.out HCs.out (by rw [← HN.out.2.1]; exact h)
            generalize (flat s).length = L at HGL HE HLa HGe
            generalize good q (flat s) = k at HGL HE HLa HGe
            go_wp2_with fail
            refine Calls.mono HGe.out ?_
            rintro e9 w9 ⟨rfl, u9⟩
            have HB9 : Hid (B w9) := HBu.out _ _ HBw.out u9
            have HU9 : Hid (Up wr w9) := u9
            have HSv : Hid (∀ W, Up wr W → Up w W) := fun W u => (HBc.out wr HBw.out).1.trans u
            clear HGe u9 y0 y1 y2 y3 y4 y5 y6 HBw
            obtain ⟨-, y0, y1, y2, y3, y4, y5, y6⟩ := HBc.out w9 HB9.out
            have hk := HGL.out
            have hkb : k ≤ 256 := by omega
            by_cases hkL : k = L
            · rw [decide_eq_true hkL]
              by_cases hkq : k < q
              · have hkq2 : (k : Int) < (q : Int) := by omega
                have HF : Hid (ff s = some (1 + i + q + k)) := HE.out (.inr hkq)
                clear hkL HGL HE HLa hk
                go_wp2
                rw [HP.out, HF.out]
                exact ⟨by simp [Int.natCast_add], (HBc.out _ HB9.out).1⟩
              · have hkq2 : ¬ (k : Int) < (q : Int) := by omega
                have hkq3 : k = q := by omega
                have HF : Hid (ff s = lastF s) := HLa.out (by omega)
                clear HE HLa HGL hkL hk
                subst hkq3
                obtain ⟨A, hA⟩ : ∃ b, decide (1 ≤ s.turn) = b := ⟨_, rfl⟩
                obtain ⟨N2, h2⟩ : ∃ b, numB s.whose s.ps.length = b := ⟨_, rfl⟩
                obtain ⟨N3, h3⟩ : ∃ b, finB s = b := ⟨_, rfl⟩
                obtain ⟨N4, h4⟩ : ∃ b, winB s = b := ⟨_, rfl⟩
                have HLs : Hid (∀ W, Up wr W → Calls Tryd.prog 87 #[.agg #[.slice a1 i k1, .slice a2 k k2, .slice a3 nz k3, .int .i32 tu, .int .i64 wo, .int .i8 fi, .int .i64 wi]] W fun e w' => e = .returned (.agg #[.bool A, .bool N2, .bool N3, .bool N4]) ∧ Up W w') := fun W u => by
                  have e : last4 s = .agg #[.bool A, .bool N2, .bool N3, .bool N4] := by rw [← hA, ← h2, ← h3, ← h4]; rfl
                  rw [← e]
                  exact lastThings_ _ s W (HSL.out.up (HSv.out W u))
                have HNl : Hid (lastF s = if A = false then some (2 + i + 2 * k) else if N2 = false then some (3 + i + 2 * k) else if N3 = false then some (4 + i + 2 * k) else if N4 = false then some (5 + i + 2 * k) else none) := by
                  unfold Hid
                  rw [lastF, h2, h3, h4, ← HN.out.1, ← HN.out.2.1]
                  by_cases ht : 1 ≤ s.turn
                  · rw [decide_eq_true ht] at hA; subst hA; simp [ht]
                  · rw [decide_eq_false ht] at hA; subst hA; simp [ht]
                clear hA h2 h3 h4
                cases A
                · have HR : Hid (lastF s = some (2 + i + 2 * k)) := HNl.out
                  clear HNl
                  go_wp2_with fail
                  refine Calls.mono (HLs.out _ HU9.out) ?_
                  rintro e8 w8 ⟨rfl, u8⟩
                  have HU8 : Hid (Up w w8) := (HBc.out _ HB9.out).1.trans u8
                  clear u8
                  go_wp2_with fail
                  have ix0 := idx0
                  have ix1 := idx1
                  have ix2 := idx2
                  have ix3 := idx3
                  go_rounds 1
                  rw [HP.out, HF.out, HR.out]
                  exact ⟨by simp [Int.natCast_add, Int.natCast_mul]; omega, HU8.out⟩
                · cases N2
                  · have HR : Hid (lastF s = some (3 + i + 2 * k)) := HNl.out
                    clear HNl
                    go_wp2_with fail
                    refine Calls.mono (HLs.out _ HU9.out) ?_
                    rintro e8 w8 ⟨rfl, u8⟩
                    have HU8 : Hid (Up w w8) := (HBc.out _ HB9.out).1.trans u8
                    clear u8
                    go_wp2_with fail
                    have ix0 := idx0
                    have ix1 := idx1
                    have ix2 := idx2
                    have ix3 := idx3
                    go_rounds 2
                    rw [HP.out, HF.out, HR.out]
                    exact ⟨by simp [Int.natCast_add, Int.natCast_mul]; omega, HU8.out⟩
                  · cases N3
                    · have HR : Hid (lastF s = some (4 + i + 2 * k)) := HNl.out
                      clear HNl
                      go_wp2_with fail
                      refine Calls.mono (HLs.out _ HU9.out) ?_
                      rintro e8 w8 ⟨rfl, u8⟩
                      have HU8 : Hid (Up w w8) := (HBc.out _ HB9.out).1.trans u8
                      clear u8
                      go_wp2_with fail
                      have ix0 := idx0
                      have ix1 := idx1
                      have ix2 := idx2
                      have ix3 := idx3
                      go_rounds 3
                      rw [HP.out, HF.out, HR.out]
                      exact ⟨by simp [Int.natCast_add, Int.natCast_mul]; omega, HU8.out⟩
                    · cases N4
                      · have HR : Hid (lastF s = some (5 + i + 2 * k)) := HNl.out
                        clear HNl
                        go_wp2_with fail
                        refine Calls.mono (HLs.out _ HU9.out) ?_
                        rintro e8 w8 ⟨rfl, u8⟩
                        have HU8 : Hid (Up w w8) := (HBc.out _ HB9.out).1.trans u8
                        clear u8
                        go_wp2_with fail
                        have ix0 := idx0
                        have ix1 := idx1
                        have ix2 := idx2
                        have ix3 := idx3
                        go_rounds 4
                        rw [HP.out, HF.out, HR.out]
                        exact ⟨by simp [Int.natCast_add, Int.natCast_mul]; omega, HU8.out⟩
                      · have HR : Hid (lastF s = none) := HNl.out
                        clear HNl
                        go_wp2_with fail
                        refine Calls.mono (HLs.out _ HU9.out) ?_
                        rintro e8 w8 ⟨rfl, u8⟩
                        have HU8 : Hid (Up w w8) := (HBc.out _ HB9.out).1.trans u8
                        clear u8
                        go_wp2_with fail
                        have ix0 := idx0
                        have ix1 := idx1
                        have ix2 := idx2
                        have ix3 := idx3
                        go_rounds 5
                        rw [HP.out, HF.out, HR.out]
                        exact ⟨rfl, HU8.out⟩
            · rw [decide_eq_false hkL]
              have HF : Hid (ff s = some (1 + i + q + k)) := HE.out (.inl (by omega))
              clear hkL HGL HE HLa hk
              go_wp2
              rw [HP.out, HF.out]
              exact ⟨by simp [Int.natCast_add], (HBc.out _ HB9.out).1⟩
end ST
end Go.Proofs.YtndkpfkgcaebmaaDoor
/-
  Check and Where.
-/
namespace Go.Proofs.YtndkpfkgcaebmaaDoor
open Go.RowKit
attribute [local go_sem ↓] Go.wp_at_zero Go.wp_at_succ

namespace ST
def ckV (r : Option Nat) : Value := .tuple #[.int .i64 (if r = none then 0 else 10), .int .i64 (r.getD 0 : Nat)]
set_option maxHeartbeats 2000000 in
theorem check_ (v : Value) (s : Stt) (w : World) (hs : StL w v s) (hsm : Small s) :
    Calls Tryd.prog 63 #[v] w fun e w' => e = .returned (ckV (ff s)) ∧ Up w w' := by
  have hc := firstFault_ v s _ (hs.up ((Up.refl w).alloc (.cells v.cells 27))) hsm
  obtain ⟨vp, vc, vz, rfl, -, -, -⟩ := hs
  cases hff : ff s with
  | none =>
    rw [hff] at hc
    unfold FPost sv at hc
    have HC : Hid _ := hc
    clear hc hff hsm
    unfold sv
    go_enter Tryd.func63, Tryd.ntmps63
    go_wp2_with fail
    refine Calls.mono HC.out ?_
    rintro e w1 ⟨rfl, u1⟩
    clear HC
    have HU : Hid (Up w w1) := ((Up.refl w).alloc _).trans u1
    clear u1
    go_wp2
    go_ret2
    exact ⟨rfl, HU.out⟩
  | some k =>
    rw [hff] at hc
    unfold FPost sv at hc
    have HC : Hid _ := hc
    clear hc hff hsm
    unfold sv
    go_enter Tryd.func63, Tryd.ntmps63
    go_wp2_with fail
    refine Calls.mono HC.out ?_
    rintro e w1 ⟨rfl, u1⟩
    clear HC
    have HU : Hid (Up w w1) := ((Up.refl w).alloc _).trans u1
    clear u1
    go_wp2
    go_ret2
    exact ⟨rfl, HU.out⟩
theorem wh_hit {c : Int} {zs : List (List Int)} {z i : Nat} (hz : z < zs.length) (hi : i < (zs.getD z []).length) (h1 : ∀ j, j < i → (zs.getD z []).getD j 0 ≠ c) (h2 : (zs.getD z []).getD i 0 = c) : wh c (zs.drop z) z = some (z, i) := by
  have e : zs.drop z = zs.getD z [] :: zs.drop (z + 1) := by rw [List.drop_eq_getElem_cons hz, List.getD_eq_getElem?_getD, List.getElem?_eq_getElem hz]; rfl
  rw [e]
  unfold wh
  have : (zs.getD z []).findIdx? (fun x => decide (x = c)) = some i := by
    have := findIdx_at (zs.getD z []) (fun x => !decide (x = c)) 0 i hi (fun j hj => by simpa using h1 j hj) (by simpa using h2)
    simpa using this
  rw [this]
theorem wh_miss {c : Int} {zs : List (List Int)} {z : Nat} (hz : z < zs.length) (h1 : ∀ j, j < (zs.getD z []).length → (zs.getD z []).getD j 0 ≠ c) : wh c (zs.drop z) z = wh c (zs.drop (z + 1)) (z + 1) := by
  have e : zs.drop z = zs.getD z [] :: zs.drop (z + 1) := by rw [List.drop_eq_getElem_cons hz, List.getD_eq_getElem?_getD, List.getElem?_eq_getElem hz]; rfl
  rw [e, wh]
  have : (zs.getD z []).findIdx? (fun x => decide (x = c)) = none := by
    have := findIdx_no (zs.getD z []) (fun x => !decide (x = c)) 0 (fun j hj => by simpa using h1 j hj)
    simpa using this
  rw [this]
def whV (r : Option (Nat × Nat)) : Value := .tuple #[.int .i64 ((r.map (·.1)).getD 0 : Nat), .int .i64 ((r.map (·.2)).getD 0 : Nat), .bool r.isSome]
def WPost (w : World) (r : Option (Nat × Nat)) (e : Ending) (w' : World) : Prop := e = .returned (whV r) ∧ Up w w'
set_option maxRecDepth 100000 in
set_option maxHeartbeats 4000000 in
theorem where_ (v : Value) (s : Stt) (c : Int) (w : World) (hs : StL w v s) (hsm : Small s) :
    Calls Tryd.prog 64 #[v, .int .i64 c] w (WPost w (whereOf s c)) := by
  have hc := firstFault_ v s _ (hs.up ((Up.refl w).alloc (.cells v.cells 27))) hsm
  obtain ⟨vp, vc, vz, rfl, -, -, h3⟩ := hs
  obtain ⟨Post, hPost⟩ : ∃ P : Ending → World → Prop, P = WPost w (whereOf s c) := ⟨_, rfl⟩
  rw [← hPost]
  have HP : Hid (Post = WPost w (whereOf s c)) := hPost
  clear hPost
  cases hff : ff s with
  | some k =>
    rw [hff] at hc
    unfold FPost sv at hc
    have HC : Hid _ := hc
    have HR : Hid (whereOf s c = none) := by unfold Hid; rw [whereOf, hff]; simp
    clear hc hff hsm h3
    unfold sv
    go_enter Tryd.func64, Tryd.ntmps64
    go_wp2_with fail
    go_step3
    go_wp2_with fail
    refine Calls.mono HC.out ?_
    rintro e w1 ⟨rfl, u1⟩
    clear HC
    have HU : Hid (Up w w1) := ((Up.refl w).alloc _).trans u1
    clear u1
    go_wp2
    rw [HP.out, HR.out]
    exact ⟨rfl, HU.out⟩
  | none =>
    rw [hff] at hc
    unfold FPost sv at hc
    obtain ⟨a3, k3, rfl, -, c3⟩ := zl_at h3
    have HC : Hid _ := hc
    have HR : Hid (whereOf s c = wh c (s.zs.drop 0) 0) := by unfold Hid; rw [whereOf, if_pos hff]; rfl
    obtain ⟨zs, hzs⟩ : ∃ n, n = s.zs := ⟨_, rfl⟩
    obtain ⟨n, hn0⟩ : ∃ n, n = zs.length := ⟨_, rfl⟩
    have hz := hsm.2.2.1
    have hl := hsm.2.2.2
    rw [← hzs] at hz hl c3 HC HR ⊢
    rw [← hn0] at hz hl c3 HC ⊢
    have HCs : Hid _ := c3
    have HL : Hid _ := hl
    have HN : Hid (n = zs.length) := hn0
    clear hc hff hsm h3 c3 hl hn0 hzs
    unfold sv
    go_enter Tryd.func64, Tryd.ntmps64
    go_wp2_with fail
    go_step3
    go_wp2_with fail
    refine Calls.mono HC.out ?_
    rintro e w1 ⟨rfl, u1⟩
    clear HC
    have HU : Hid (Up w w1) := ((Up.refl w).alloc _).trans u1
    have y2 : w1.cell? ⟨w.heap.size, 2, none⟩ = some (.slice a3 n k3) := u1.cell (by simp [Value.cells])
    clear u1
    go_wp2_with fail
    go_step3
    go_wp2_with fail
    go_loopw [4, 5, 6, 22] (fun s4 s5 s6 s22 W => ∃ z : Nat, z ≤ n ∧ s22 = .int .i64 z ∧ s4 = .int .i64 0 ∧ s5 = .int .i64 0 ∧ s6 = .bool false ∧ W = w1 ∧ whereOf s c = wh c (zs.drop z) z) (fun _ _ _ s22 _ => n - (intOf s22).toNat)
    case atStart => exact ⟨0, Nat.zero_le _, rfl, rfl, rfl, rfl, rfl, HR.out⟩
    case round =>
      obtain ⟨z, hzn, rfl, rfl, rfl, rfl, rfl, hR⟩ := hrel
      clear HR
      have HR : Hid (whereOf s c = wh c (zs.drop z) z) := hR
      clear hR
      by_cases hlt : z < n
      · have hlt2 : (z : Int) < (n : Int) := by omega
        obtain ⟨b3, o3, rfl, hrow⟩ := HCs.out (by omega)
        obtain ⟨ra, rc, hcell, hil⟩ := hrow z hlt
        have hlen := HL.out z hlt
        obtain ⟨_, _, hra, -, hin⟩ := il_at hil
        cases hra
        have x1 := hcell _ HU.out
        have HHit : Hid (∀ i, i < (zs.getD z []).length → (∀ j, j < i → (zs.getD z []).getD j 0 ≠ c) → (zs.getD z []).getD i 0 = c → whereOf s c = some (z, i)) := fun i hi h1 h2 => by rw [HR.out]; exact wh_hit (by rw [← HN.out]; exact hlt) hi h1 h2
        have HMiss : Hid ((∀ j, j < (zs.getD z []).length → (zs.getD z []).getD j 0 ≠ c) → whereOf s c = wh c (zs.drop (z + 1)) (z + 1)) := fun h1 => by rw [HR.out]; exact wh_miss (by rw [← HN.out]; exact hlt) h1
        clear hcell hrow hil HR
        obtain ⟨r, hr⟩ : ∃ r, r = zs.getD z [] := ⟨_, rfl⟩
        rw [← hr] at x1 hlen hin HHit HMiss
        obtain ⟨q, hq⟩ : ∃ q, q = r.length := ⟨_, rfl⟩
        rw [← hq] at x1 hlen hin HHit HMiss
        have HIn : Hid _ := hin
        clear hr hq hin
        go_wp2_with fail
        go_loopw [4, 5, 6, 29] (fun s4 s5 s6 s29 W => ∃ i : Nat, i ≤ q ∧ s29 = .int .i64 i ∧ s4 = .int .i64 0 ∧ s5 = .int .i64 0 ∧ s6 = .bool false ∧ W = wr ∧ ∀ j, j < i → r.getD j 0 ≠ c) (fun _ _ _ s29 _ => q - (intOf s29).toNat)
        case atStart => exact ⟨0, Nat.zero_le _, rfl, rfl, rfl, rfl, rfl, fun j hj => by omega⟩
        case round =>
          obtain ⟨i, hiq, rfl, rfl, rfl, rfl, rfl, hj⟩ := hrel
          have HJ : Hid (∀ j, j < i → r.getD j 0 ≠ c) := hj
          clear hj
          by_cases hlt3 : i < q
          · have hlt4 : (i : Int) < (q : Int) := by omega
            obtain ⟨b4, o4, rfl, hc4⟩ := HIn.out (by omega)
            have x2 := hc4 _ HU.out i hlt3
            clear hc4
            have HY : Hid (∀ z', z' = r.getD i 0 → (z' = c → whereOf s c = some (z, i)) ∧ (z' ≠ c → ∀ j, j < i + 1 → r.getD j 0 ≠ c)) := fun z' hz' => ⟨fun e => HHit.out i hlt3 HJ.out (by rw [← hz']; exact e), fun e j hj => by
              by_cases ej : j = i
              · subst ej; rw [← hz']; exact e
              · exact HJ.out j (by omega)⟩
            have HY2 := HY.out _ rfl
            have HY3 : Hid _ := HY2
            clear HY HY2 HJ
            generalize r.getD i 0 = y at x2 HY3
            by_cases hyc : y = c
            · subst hyc
              have hb : (y == y) = true := by simp
              have HF : Hid (whereOf s y = some (z, i)) := HY3.out.1 rfl
              clear HY3
              go_wp2
              rw [HP.out, HF.out]
              exact ⟨rfl, HU.out⟩
            · have hb : (y == c) = false := beq_eq_false_iff_ne.2 hyc
              have HF : Hid (∀ j, j < i + 1 → r.getD j 0 ≠ c) := HY3.out.2 hyc
              clear HY3
              go_wp2_with fail
              go_roundw
              case rel => exact ⟨i + 1, by omega, by go_num, rfl, rfl, rfl, by first | rfl | trivial, HF.out⟩
              case measure => simp [intOf]; omega
          · have hlt4 : ¬ (i : Int) < (q : Int) := by omega
            have hiq2 : i = q := by omega
            subst hiq2
            have HF : Hid (whereOf s c = wh c (zs.drop (z + 1)) (z + 1)) := HMiss.out HJ.out
            clear HJ
            go_wp2_with fail
            go_roundw
            case rel => exact ⟨z + 1, by omega, by go_num, rfl, rfl, rfl, by first | rfl | trivial, HF.out⟩
            case measure => simp [intOf]; omega
      · have hlt2 : ¬ (z : Int) < (n : Int) := by omega
        have HF : Hid (whereOf s c = none) := by
          unfold Hid
          rw [HR.out, List.drop_of_length_le (by have := HN.out; omega)]
          rfl
        clear HR
        go_wp2
        rw [HP.out, HF.out]
        exact ⟨rfl, HU.out⟩
end ST
end Go.Proofs.YtndkpfkgcaebmaaDoor
/-
  Copies in memory of their own: lists of ints, players, cards, lists of lists, states.
-/
namespace Go.Proofs.YtndkpfkgcaebmaaDoor
open Go.RowKit
attribute [local go_sem ↓] Go.wp_at_zero Go.wp_at_succ

theorem run_append_lc {P : Program} (w : World) (base : Nat) (t ty e : TypeId) (i : TypeInfo) (z : Value) (size bytes : Nat) (ht : P.underlying t = some (.slice e)) (hi : P.info? e = some i) (hz : i.zero = some z)
    (hsize : i.size = size) (hby : i.bytes = bytes) (hzs : z.cells.size = size) (hsz : 0 < size)
    (v : Value) (n : Nat) (xs : List Value) (hown : w.ownsRow base e size v n xs) (u : Value) (m : Nat) (cs : List Value) (hu : LC w u size m cs) (h1 : ∀ u ∈ cs, u.oneCell' = true)
    (h63 : n + m ≤ maxLen) (hbytes : (n + m) * bytes ≤ 140737488355328) (hbase : base ≤ w.heap.size) :
    ∃ v' w', (Builtin.append_ #[t, t] ty #[v, u]).run P w = .ok v' w' ∧ w'.ownsRow base e size v' (n + m) (xs ++ cs) ∧ w.grownBy w' v.ownBlock := by
  obtain ⟨hl, a, cap, rfl, -, hc⟩ := hu
  by_cases hm : m = 0
  · subst hm
    have hcs : cs = [] := List.eq_nil_of_length_eq_zero (by omega)
    subst hcs
    cases a with
    | some ad =>
      obtain ⟨v', w', h2, h3, h4, -⟩ := run_append_own (P := P) w base t ty e i z size bytes ht hi hz hsize hby hzs hsz v n xs hown ad 0 cap [] (by simp) (by simp) (by simp) h63 hbytes hbase
      exact ⟨v', w', h2, h3, h4⟩
    | none =>
      refine ⟨v, w, ?_, by simpa using hown, ⟨rfl, rfl, rfl, Nat.le_refl _, fun _ _ _ => rfl⟩⟩
      rcases hown.2 with ⟨rfl, rfl⟩ | ⟨g, cap, cur, rfl, _, _, hnc, _⟩
      · simp [Builtin.append_, run_underlying ht, sizeOf, typeInfo, hi, Builtin.lenOf, Builtin.firstCells]
      · simp [Builtin.append_, run_underlying ht, sizeOf, typeInfo, hi, Builtin.lenOf, Builtin.firstCells, hnc, storeCells]
  · obtain ⟨b, off, rfl, hcell⟩ := hc hm
    obtain ⟨v', w', h2, h3, h4, -⟩ := run_append_own (P := P) w base t ty e i z size bytes ht hi hz hsize hby hzs hsz v n xs hown ⟨b, off, none⟩ m cap cs hl (fun j u hj => by
      rw [Addr.add_mid]
      have : j < cs.length := (List.getElem?_eq_some_iff.1 hj).1
      rw [hcell j (by omega)]; exact hj) h1 h63 hbytes hbase
    exact ⟨v', w', h2, h3, h4⟩
theorem wpList_append_lc {P : Program} {w : World} {ops : Array Oper} {rest : List Oper} {o : Oper} {a : Act} {Q : Exit → Act → World → Prop} (hgd : o.guard = none) (s x : Operand) (t : TypeId)
    (ho : o.op = .call { callee := .builtin .append, args := #[s, x], argTypes := #[t, t] })
    (base : Nat) (e : TypeId) (i : TypeInfo) (z : Value) (size bytes : Nat) (ht : P.underlying t = some (.slice e)) (hi : P.info? e = some i) (hz : i.zero = some z)
    (hsize : i.size = size) (hby : i.bytes = bytes) (hzs : z.cells.size = size) (hsz : 0 < size)
    (v : Value) (n : Nat) (xs : List Value) (hs : a.eval s = v) (hown : w.ownsRow base e size v n xs) (u : Value) (m : Nat) (cs : List Value) (hx : a.eval x = u) (hu : LC w u size m cs) (h1 : ∀ u ∈ cs, u.oneCell' = true)
    (h63 : n + m ≤ maxLen) (hbytes : (n + m) * bytes ≤ 140737488355328) (hbase : base ≤ w.heap.size)
    (h : ∀ v' w', w'.ownsRow base e size v' (n + m) (xs ++ cs) → w.grownBy w' v.ownBlock → wpList P ops Q rest (a.put o.dst v') w') : wpList P ops Q (o :: rest) a w := by
  refine wpList_plain hgd fun K hK => ?_
  obtain ⟨v', w', hr, h2, h3⟩ := run_append_lc (P := P) w base t o.type e i z size bytes ht hi hz hsize hby hzs hsz v n xs hown u m cs hu h1 h63 hbytes hbase
  unfold Oper.wp execOp
  simp only [ho, resolve, invoke, builtin, Sem.run_bind, Sem.run_pure, Result.andThen_ok, List.map_toArray, List.map_cons, List.map_nil, hs, hx, hr]
  exact hK _ _ (h v' w' h2 h3)
theorem own_lc {W : World} {base e s n : Nat} {v : Value} {xs : List Value} (h : W.ownsRow base e s v n xs) : LC W v s n xs := by
  refine ⟨h.1, ?_⟩
  rcases h.2 with ⟨rfl, rfl⟩ | ⟨g, cap, cur, rfl, _, _, hnc, _⟩
  · exact ⟨none, 0, rfl, Nat.le_refl _, fun h => absurd rfl h⟩
  · exact ⟨some ⟨g, 0, none⟩, cap, rfl, hnc, fun _ => ⟨g, 0, rfl, fun j hj => by rw [Nat.zero_add]; exact h.cellAt j hj⟩⟩
theorem row_set {w : World} {base e s n b j : Nat} {v u : Value} {xs : List Value} (h : w.ownsRow base e s v n xs) (hb : b < base) : (w.setCell ⟨b, j, none⟩ u).ownsRow base e s v n xs := by
  refine ⟨h.1, ?_⟩
  rcases h.2 with h | ⟨g, cap, cur, e1, e2, e3, e4⟩
  · exact .inl h
  · exact .inr ⟨g, cap, cur, e1, e2, by rw [Below.heap_setCell _ _ _ _ (by show g ≠ b; omega)]; exact e3, e4⟩
theorem row_apart {w : World} {b1 b2 e1 e2 s1 s2 n1 n2 : Nat} {v1 v2 : Value} {x1 x2 : List Value} (h1 : w.ownsRow b1 e1 s1 v1 n1 x1) (h2 : w.ownsRow b2 e2 s2 v2 n2 x2) (he : e1 ≠ e2) : v1.ownBlock = none ∨ v1.ownBlock ≠ v2.ownBlock := by
  rcases h1.2 with ⟨rfl, -⟩ | ⟨g1, c1, k1, rfl, -, hg1, -⟩
  · exact .inl rfl
  · refine .inr ?_
    rcases h2.2 with ⟨rfl, -⟩ | ⟨g2, c2, k2, rfl, -, hg2, -⟩
    · simp [Value.ownBlock]
    · simp only [Value.ownBlock, ne_eq, Option.some.injEq]
      intro e
      subst e
      rw [hg1] at hg2
      cases hg2
      exact he rfl
namespace ST
theorem infoI : (Tryd.prog.info? 3).map (fun i => (i.zero, i.size, i.bytes)) = some (some (.int .i64 0), 1, 8) := by kernel_rfl
theorem infoP : (Tryd.prog.info? 71).map (fun i => (i.zero, i.size, i.bytes)) = some (some (.agg #[.int .i32 0, .int .i32 0, .bool false]), 3, 12) := by kernel_rfl
theorem infoC : (Tryd.prog.info? 73).map (fun i => (i.zero, i.size, i.bytes)) = some (some (.agg #[.int .i64 0, .int .i64 0, .int .i32 0, .int .i32 0, .int .i32 0, .int .i32 0]), 6, 32) := by kernel_rfl
theorem infoR : (Tryd.prog.info? 74).map (fun i => (i.zero, i.size, i.bytes)) = some (some (.slice none 0 0), 1, 24) := by kernel_rfl
theorem ivs_one (l : List Int) : ∀ u ∈ ivs l, u.oneCell' = true := by
  intro u hu
  simp only [ivs, List.mem_map] at hu
  obtain ⟨z, _, rfl⟩ := hu
  rfl
theorem pvs_one (l : List Ply) : ∀ u ∈ pvs l, u.oneCell' = true := by
  intro u hu
  simp only [pvs, List.mem_flatMap, pv, List.mem_cons, List.not_mem_nil, or_false] at hu
  obtain ⟨z, _, rfl | rfl | rfl⟩ := hu <;> rfl
theorem cvs_one (l : List Crd) : ∀ u ∈ cvs l, u.oneCell' = true := by
  intro u hu
  simp only [cvs, List.mem_flatMap, cv, List.mem_cons, List.not_mem_nil, or_false] at hu
  obtain ⟨z, _, rfl | rfl | rfl | rfl | rfl | rfl⟩ := hu <;> rfl
/- own lists -/
def IRow (base : Nat) (W : World) (v : Value) (l : List Int) : Prop := W.ownsRow base 3 1 v l.length (ivs l)
def PO (base : Nat) (W : World) (v : Value) (l : List Ply) : Prop := W.ownsRow base 71 3 v l.length (pvs l)
def CO (base : Nat) (W : World) (v : Value) (l : List Crd) : Prop := W.ownsRow base 73 6 v l.length (cvs l)
def ZO (base : Nat) (W : World) (v : Value) (zs : List (List Int)) : Prop := ∃ vs, W.ownsRow base 74 1 v zs.length vs ∧ ∀ i, i < zs.length → IRow base W (vs.getD i nl) (zs.getD i [])
def SO (base : Nat) (W : World) (v : Value) (s : Stt) : Prop := ∃ vp vc vz, v = sv vp vc vz s ∧ PO base W vp s.ps ∧ CO base W vc s.cs ∧ ZO base W vz s.zs
theorem IRow.il {base : Nat} {W : World} {v : Value} {l : List Int} (h : IRow base W v l) : IL W v l := own_lc h
theorem ZO.zl {base : Nat} {W : World} {v : Value} {zs : List (List Int)} (h : ZO base W v zs) : ZL W v zs := by
  obtain ⟨vs, h1, h2⟩ := h
  exact ⟨vs, own_lc h1, fun i hi => (h2 i hi).il⟩
theorem SO.sl {base : Nat} {W : World} {v : Value} {s : Stt} (h : SO base W v s) : StL W v s := by
  obtain ⟨vp, vc, vz, hv, h1, h2, h3⟩ := h
  exact ⟨vp, vc, vz, hv, own_lc h1, own_lc h2, h3.zl⟩
theorem own_less {W : World} {b b' e s n : Nat} {v : Value} {xs : List Value} (h : W.ownsRow b e s v n xs) (hb : b' ≤ b) : W.ownsRow b' e s v n xs := by
  refine ⟨h.1, ?_⟩
  rcases h.2 with h | ⟨g, cap, cur, e1, e2, e3⟩
  · exact .inl h
  · exact .inr ⟨g, cap, cur, e1, Nat.le_trans hb e2, e3⟩
theorem ZO.less {b b' : Nat} {W : World} {v : Value} {zs : List (List Int)} (h : ZO b W v zs) (hb : b' ≤ b) : ZO b' W v zs := by
  obtain ⟨vs, h1, h2⟩ := h
  exact ⟨vs, own_less h1 hb, fun i hi => own_less (h2 i hi) hb⟩
theorem ZO.up {b : Nat} {W W' : World} {v : Value} {zs : List (List Int)} (h : ZO b W v zs) (u : Up W W') : ZO b W' v zs := by
  obtain ⟨vs, h1, h2⟩ := h
  exact ⟨vs, row_up h1 u, fun i hi => row_up (h2 i hi) u⟩
theorem ZO.set {b k j : Nat} {W : World} {v u : Value} {zs : List (List Int)} (h : ZO b W v zs) (hk : k < b) : ZO b (W.setCell ⟨k, j, none⟩ u) v zs := by
  obtain ⟨vs, h1, h2⟩ := h
  exact ⟨vs, row_set h1 hk, fun i hi => row_set (h2 i hi) hk⟩
def CpPost (w : World) (D : World → Value → Prop) (e : Ending) (w' : World) : Prop := ∃ v', e = .returned v' ∧ D w' v' ∧ Up w w'
set_option maxHeartbeats 1000000 in
theorem copyInts_ (v : Value) (l : List Int) (w : World) (hv : IL w v l) (hn : l.length ≤ 4294967296) :
    Calls Tryd.prog 76 #[v] w (CpPost w fun W v' => IRow w.heap.size W v' l) := by
  obtain ⟨iT, hiT, z0, z1, z2⟩ := info_parts infoI
  obtain ⟨Post, hPost⟩ : ∃ P : Ending → World → Prop, P = CpPost w fun W v' => IRow w.heap.size W v' l := ⟨_, rfl⟩
  rw [← hPost]
  have HP : Hid (Post = CpPost w fun W v' => IRow w.heap.size W v' l) := hPost
  have HV : Hid _ := hv
  obtain ⟨a, c, rfl, -, -⟩ := lc_at hv
  clear hPost hv
  go_enter Tryd.func76, Tryd.ntmps76
  go_wp2_with (at_builtin; refine wpList_append_lc (by rfl) _ _ 74 (by rfl) w.heap.size 3 iT (.int .i64 0) 1 8 Tryd.underlying74 hiT z0 z1 z2 (by rfl) (by decide) (.slice none 0 0) 0 [] (by rfl) (World.ownsRow_nil _ _ _ _) _ l.length (ivs l) (by rfl) HV.out (ivs_one l) (by unfold maxLen; omega) (by omega) (Nat.le_refl _) ?_; intro v' w1 hin hg1)
  have HF : Hid (IRow w.heap.size w1 v' l ∧ Up w w1) := ⟨by simpa [IRow] using hin, made_up hg1⟩
  clear hin hg1
  go_wp2
  rw [HP.out]
  exact ⟨v', rfl, HF.out.1, HF.out.2⟩
set_option maxHeartbeats 1000000 in
theorem copyPlayers_ (v : Value) (l : List Ply) (w : World) (hv : PLs w v l) (hn : l.length ≤ 4294967296) :
    Calls Tryd.prog 37 #[v] w (CpPost w fun W v' => PO w.heap.size W v' l) := by
  obtain ⟨iT, hiT, z0, z1, z2⟩ := info_parts infoP
  obtain ⟨Post, hPost⟩ : ∃ P : Ending → World → Prop, P = CpPost w fun W v' => PO w.heap.size W v' l := ⟨_, rfl⟩
  rw [← hPost]
  have HP : Hid (Post = CpPost w fun W v' => PO w.heap.size W v' l) := hPost
  have HV : Hid _ := hv
  obtain ⟨a, c, rfl, -, -⟩ := lc_at hv
  clear hPost hv
  go_enter Tryd.func37, Tryd.ntmps37
  go_wp2_with (at_builtin; refine wpList_append_lc (by rfl) _ _ 22 (by rfl) w.heap.size 71 iT _ 3 12 Tryd.underlying22 hiT z0 z1 z2 (by rfl) (by decide) (.slice none 0 0) 0 [] (by rfl) (World.ownsRow_nil _ _ _ _) _ l.length (pvs l) (by rfl) HV.out (pvs_one l) (by unfold maxLen; omega) (by omega) (Nat.le_refl _) ?_; intro v' w1 hin hg1)
  have HF : Hid (PO w.heap.size w1 v' l ∧ Up w w1) := ⟨by simpa [PO] using hin, made_up hg1⟩
  clear hin hg1
  go_wp2
  rw [HP.out]
  exact ⟨v', rfl, HF.out.1, HF.out.2⟩
set_option maxHeartbeats 1000000 in
theorem copyCards_ (v : Value) (l : List Crd) (w : World) (hv : CLs w v l) (hn : l.length ≤ 4294967296) :
    Calls Tryd.prog 38 #[v] w (CpPost w fun W v' => CO w.heap.size W v' l) := by
  obtain ⟨iT, hiT, z0, z1, z2⟩ := info_parts infoC
  obtain ⟨Post, hPost⟩ : ∃ P : Ending → World → Prop, P = CpPost w fun W v' => CO w.heap.size W v' l := ⟨_, rfl⟩
  rw [← hPost]
  have HP : Hid (Post = CpPost w fun W v' => CO w.heap.size W v' l) := hPost
  have HV : Hid _ := hv
  obtain ⟨a, c, rfl, -, -⟩ := lc_at hv
  clear hPost hv
  go_enter Tryd.func38, Tryd.ntmps38
  go_wp2_with (at_builtin; refine wpList_append_lc (by rfl) _ _ 23 (by rfl) w.heap.size 73 iT _ 6 32 Tryd.underlying23 hiT z0 z1 z2 (by rfl) (by decide) (.slice none 0 0) 0 [] (by rfl) (World.ownsRow_nil _ _ _ _) _ l.length (cvs l) (by rfl) HV.out (cvs_one l) (by unfold maxLen; omega) (by omega) (Nat.le_refl _) ?_; intro v' w1 hin hg1)
  have HF : Hid (CO w.heap.size w1 v' l ∧ Up w w1) := ⟨by simpa [CO] using hin, made_up hg1⟩
  clear hin hg1
  go_wp2
  rw [HP.out]
  exact ⟨v', rfl, HF.out.1, HF.out.2⟩
end ST
end Go.Proofs.YtndkpfkgcaebmaaDoor
