/-
  Whether two lists of nodes are the same.
-/
import Derived.Test.YtgahdppcdeefaaaNb9
namespace Go.Proofs.Ytgahdppcdeefaaa
open Go.RowKit
attribute [local go_sem ↓] Go.wp_at_zero Go.wp_at_succ
namespace TR
theorem byt_at {l : List Nd} (h : ∀ x ∈ l, Byt x.text) {i : Nat} (hi : i < l.length) : Byt (l.getD i dn).text := by
  rw [List.getD_eq_getElem?_getD, List.getElem?_eq_getElem hi]
  exact h _ (List.getElem_mem hi)
theorem nop_iff {x y : Nd} (hx : Byt x.text) (hy : Byt y.text) : nop x = nop y ↔ (x.op = y.op ∧ x.kind = y.kind ∧ x.n = y.n ∧ x.m = y.m ∧ (strOfNums x.text).toList = (strOfNums y.text).toList ∧ y.pos = y.pos ∧ x.kids = y.kids) := by
  unfold nop
  rw [Nd.mk.injEq]
  constructor
  · rintro ⟨h1, h2, h3, h4, h5, -, h7⟩
    exact ⟨h1, h2, h3, h4, by rw [h5], rfl, h7⟩
  · rintro ⟨h1, h2, h3, h4, h5, -, h7⟩
    exact ⟨h1, h2, h3, h4, nums_inj hx hy h5, rfl, h7⟩
theorem sam_len {a b : List Nd} (h : a.length ≠ b.length) : sam a b = false := by
  unfold sam
  rw [decide_eq_false]
  intro h2
  have := congrArg List.length h2
  simp at this
  exact h this
theorem map_at {a : List Nd} {j : Nat} (h : j < a.length) : (a.map nop)[j]? = some (nop (a.getD j dn)) := by
  rw [List.getElem?_map, List.getD_eq_getElem?_getD, List.getElem?_eq_getElem h]
  rfl
theorem sam_no {a b : List Nd} {i : Nat} (h1 : i < a.length) (h2 : i < b.length) (h : ¬ nop (a.getD i dn) = nop (b.getD i dn)) : sam a b = false := by
  unfold sam
  rw [decide_eq_false]
  intro h3
  have h4 : (a.map nop)[i]? = (b.map nop)[i]? := by rw [h3]
  rw [map_at h1, map_at h2] at h4
  exact h (Option.some.inj h4)
theorem sam_yes {a b : List Nd} (hl : a.length = b.length) (h : ∀ j, j < a.length → nop (a.getD j dn) = nop (b.getD j dn)) : sam a b = true := by
  unfold sam
  rw [decide_eq_true_eq]
  apply List.ext_getElem?
  intro j
  by_cases hj : j < a.length
  · rw [map_at hj, map_at (by omega), h j hj]
  · rw [List.getElem?_eq_none (by simpa using hj), List.getElem?_eq_none (by simp; omega)]
set_option maxRecDepth 100000 in
set_option maxHeartbeats 8000000 in
theorem same_ (v u : Value) (a b : List Nd) (w : World) (hv : NLs w v a) (hu : NLs w u b) (hn : a.length ≤ 4294967296) (hm : b.length ≤ 4294967296) (hba : ∀ x ∈ a, Byt x.text) (hbb : ∀ x ∈ b, Byt x.text) :
    Calls Try.prog 20 #[v, u] w fun e w' => e = .returned (.bool (sam a b)) ∧ Up w w' := by
  obtain ⟨Post, hPost⟩ : ∃ P : Ending → World → Prop, P = fun e w' => e = .returned (.bool (sam a b)) ∧ Up w w' := ⟨_, rfl⟩
  rw [← hPost]
  have HPo : Hid (Post = fun e w' => e = .returned (.bool (sam a b)) ∧ Up w w') := hPost
  clear hPost
  obtain ⟨a1, k1, rfl, -, h1⟩ := nl_at hv
  obtain ⟨a2, k2, rfl, -, h2⟩ := nl_at hu
  obtain ⟨n, hn0⟩ : ∃ n, n = a.length := ⟨_, rfl⟩
  obtain ⟨m, hm0⟩ : ∃ m, m = b.length := ⟨_, rfl⟩
  have HN : Hid (n = a.length ∧ m = b.length) := ⟨hn0, hm0⟩
  have HBA : Hid (∀ i, i < a.length → Byt (a.getD i dn).text) := fun i hi => byt_at hba hi
  have HBB : Hid (∀ i, i < b.length → Byt (b.getD i dn).text) := fun i hi => byt_at hbb hi
  rw [← hn0] at hn h1
  rw [← hm0] at hm h2
  rw [← hn0, ← hm0]
  have H1 : Hid (n ≠ 0 → ∃ b off, a1 = some ⟨b, off, none⟩ ∧ ∀ W, Up w W → ∀ i, i < n → ∀ j x, (ndc (a.getD i dn))[j]? = some x → W.cell? ⟨b, off + i * 7 + j, none⟩ = some x) := h1
  have H2 : Hid (m ≠ 0 → ∃ bb off, a2 = some ⟨bb, off, none⟩ ∧ ∀ W, Up w W → ∀ i, i < m → ∀ j x, (ndc (b.getD i dn))[j]? = some x → W.cell? ⟨bb, off + i * 7 + j, none⟩ = some x) := h2
  clear hv hu h1 h2 hn0 hm0 hba hbb
  by_cases hl : n = m
  · subst hl
    go_enter Try.func20, Try.ntmps20
    go_wp2_with fail
    go_loopw [14] (fun s wr => ∃ i : Nat, i ≤ n ∧ s = .int .i64 i ∧ (∀ j, j < i → nop (a.getD j dn) = nop (b.getD j dn)) ∧ Up w wr) (fun s _ => n - (intOf s).toNat)
    case atStart => exact ⟨0, Nat.zero_le _, rfl, fun j hj => by omega, Up.refl _⟩
    case round =>
      obtain ⟨i, hi, rfl, hj, hu⟩ := hrel
      have HU : Hid (Up w wr) := hu
      have HJ : Hid (∀ j, j < i → nop (a.getD j dn) = nop (b.getD j dn)) := hj
      clear hj
      by_cases hlt : i < n
      · have hlt2 : (i : Int) < (n : Int) := by omega
        obtain ⟨b1, o1, rfl, c1⟩ := H1.out (by omega)
        obtain ⟨b2, o2, rfl, c2⟩ := H2.out (by omega)
        have ei : IntKind.i64.wrap ((i : Int) + 1) = ((i + 1 : Nat) : Int) := by rw [IntKind.wrap_i64]; omega
        have x0 : wr.cell? ⟨b1, o1 + i * 7, none⟩ = some (.int .i8 (a.getD i dn).op) := c1 wr hu i hlt 0 _ rfl
        have x1 : wr.cell? ⟨b1, o1 + i * 7 + 1, none⟩ = some (.int .i8 (a.getD i dn).kind) := c1 wr hu i hlt 1 _ rfl
        have x2 : wr.cell? ⟨b1, o1 + i * 7 + 2, none⟩ = some (.int .i64 (a.getD i dn).n) := c1 wr hu i hlt 2 _ rfl
        have x3 : wr.cell? ⟨b1, o1 + i * 7 + 3, none⟩ = some (.int .i64 (a.getD i dn).m) := c1 wr hu i hlt 3 _ rfl
        have x4 : wr.cell? ⟨b1, o1 + i * 7 + 4, none⟩ = some (.string (strOfNums (a.getD i dn).text)) := c1 wr hu i hlt 4 _ rfl
        have x5 : wr.cell? ⟨b1, o1 + i * 7 + 5, none⟩ = some (.int .i64 (a.getD i dn).pos) := c1 wr hu i hlt 5 _ rfl
        have x6 : wr.cell? ⟨b1, o1 + i * 7 + 6, none⟩ = some (.int .i64 (a.getD i dn).kids) := c1 wr hu i hlt 6 _ rfl
        have hbx := HBA.out i (by rw [← HN.out.1]; exact hlt)
        have hby := HBB.out i (by rw [← HN.out.2]; exact hlt)
        obtain ⟨W9, hW9⟩ : ∃ W9, (wr.alloc (.cells zN 33)).setRow wr.heap.size (ndA (a.getD i dn)) = W9 := ⟨_, rfl⟩
        have r9 : W9.heap[wr.heap.size]? = some (.cells (ndA (a.getD i dn)) 33 (0, 0)) := by rw [← hW9]; exact setRow_heap _ _ _ _ _ _ (heap_alloc_new _ _)
        have u9 : Up wr W9 := by rw [← hW9]; exact up_setRow ((Up.refl _).alloc _) (Nat.le_refl _) _
        obtain ⟨W8, hW8⟩ : ∃ W8, W9.setCell ⟨wr.heap.size, 5, none⟩ (.int .i64 (b.getD i dn).pos) = W8 := ⟨_, rfl⟩
        have r8 : W8.heap[wr.heap.size]? = some (.cells (ndA { a.getD i dn with pos := (b.getD i dn).pos }) 33 (0, 0)) := by rw [← hW8, set_cellsN r9]; rfl
        have u8 : Up wr W8 := by rw [← hW8]; exact up_setN u9 _ _ (Nat.le_refl _)
        have HU8 : Hid (Up w W8) := hu.trans u8
        have hone : (ndA (a.getD i dn)).all (·.oneCell') = true := ndA_one _
        have y5 : W9.cell? ⟨b2, o2 + i * 7 + 5, none⟩ = some (.int .i64 (b.getD i dn).pos) := c2 W9 (hu.trans u9) i hlt 5 _ rfl
        have z0 : W8.cell? ⟨b2, o2 + i * 7, none⟩ = some (.int .i8 (b.getD i dn).op) := c2 W8 (hu.trans u8) i hlt 0 _ rfl
        have z1 : W8.cell? ⟨b2, o2 + i * 7 + 1, none⟩ = some (.int .i8 (b.getD i dn).kind) := c2 W8 (hu.trans u8) i hlt 1 _ rfl
        have z2 : W8.cell? ⟨b2, o2 + i * 7 + 2, none⟩ = some (.int .i64 (b.getD i dn).n) := c2 W8 (hu.trans u8) i hlt 2 _ rfl
        have z3 : W8.cell? ⟨b2, o2 + i * 7 + 3, none⟩ = some (.int .i64 (b.getD i dn).m) := c2 W8 (hu.trans u8) i hlt 3 _ rfl
        have z4 : W8.cell? ⟨b2, o2 + i * 7 + 4, none⟩ = some (.string (strOfNums (b.getD i dn).text)) := c2 W8 (hu.trans u8) i hlt 4 _ rfl
        have z5 : W8.cell? ⟨b2, o2 + i * 7 + 5, none⟩ = some (.int .i64 (b.getD i dn).pos) := c2 W8 (hu.trans u8) i hlt 5 _ rfl
        have z6 : W8.cell? ⟨b2, o2 + i * 7 + 6, none⟩ = some (.int .i64 (b.getD i dn).kids) := c2 W8 (hu.trans u8) i hlt 6 _ rfl
        have f9 := froz_f r9
        have q0 : W8.cell? ⟨wr.heap.size, 0, none⟩ = some (.int .i8 (a.getD i dn).op) := by simp only [World.cell?, r8]; rfl
        have q1 : W8.cell? ⟨wr.heap.size, 1, none⟩ = some (.int .i8 (a.getD i dn).kind) := by simp only [World.cell?, r8]; rfl
        have q2 : W8.cell? ⟨wr.heap.size, 2, none⟩ = some (.int .i64 (a.getD i dn).n) := by simp only [World.cell?, r8]; rfl
        have q3 : W8.cell? ⟨wr.heap.size, 3, none⟩ = some (.int .i64 (a.getD i dn).m) := by simp only [World.cell?, r8]; rfl
        have q4 : W8.cell? ⟨wr.heap.size, 4, none⟩ = some (.string (strOfNums (a.getD i dn).text)) := by simp only [World.cell?, r8]; rfl
        have q5 : W8.cell? ⟨wr.heap.size, 5, none⟩ = some (.int .i64 (b.getD i dn).pos) := by simp only [World.cell?, r8]; rfl
        have q6 : W8.cell? ⟨wr.heap.size, 6, none⟩ = some (.int .i64 (a.getD i dn).kids) := by simp only [World.cell?, r8]; rfl
        have g9 : ∃ c9, W9.cell? ⟨wr.heap.size, 5, none⟩ = some c9 := ⟨_, by simp only [World.cell?, r9]; rfl⟩
        obtain ⟨c9, g9⟩ := g9
        have HW9 : Hid ((wr.alloc (.cells zN 33)).setRow wr.heap.size (ndA (a.getD i dn)) = W9) := hW9
        have hq := nop_iff hbx hby
        clear c1 c2 hu u9 u8 r8 hbx hby
        by_cases hs : nop (a.getD i dn) = nop (b.getD i dn)
        · have HS : Hid (∀ j, j < i + 1 → nop (a.getD j dn) = nop (b.getD j dn)) := fun j hj => by
            by_cases h9 : j = i
            · rw [h9]; exact hs
            · exact HJ.out j (by omega)
          have hx := nodIs _ _ _ _ _ _ _ _ _ _ _ _ _ _ (hq.1 hs)
          generalize a.getD i dn = ex at *
          generalize b.getD i dn = ey at *
          clear hq hs
          go_wp2_with (first | (refine wpList_store_row rfl 33 (.tmp 6) (.tmp 18) rfl wr.heap.size (ndA ex) rfl rfl 33 zN (heap_alloc_new wr _) infoNd rfl hone ?_; refine wpList_world HW9.out ?_))
          go_quiet (fail)
          go_wp2_with fail
          go_roundw
          case rel => exact ⟨i + 1, by omega, by go_num, HS.out, HU8.out.drewN _⟩
          case measure => simp [intOf]; omega
        · have HF : Hid (sam a b = false) := sam_no (by rw [← HN.out.1]; exact hlt) (by rw [← HN.out.2]; exact hlt) hs
          have hx := nodNot _ _ _ _ _ _ _ _ _ _ _ _ _ _ (fun h9 => hs (hq.2 h9))
          generalize a.getD i dn = ex at *
          generalize b.getD i dn = ey at *
          clear hq hs
          go_wp2_with (first | (refine wpList_store_row rfl 33 (.tmp 6) (.tmp 18) rfl wr.heap.size (ndA ex) rfl rfl 33 zN (heap_alloc_new wr _) infoNd rfl hone ?_; refine wpList_world HW9.out ?_))
          go_quiet (fail)
          go_wp2_with fail
          rw [HPo.out, HF.out]
          exact ⟨rfl, HU8.out.drewN _⟩
      · have hlt2 : ¬ (i : Int) < (n : Int) := by omega
        have HF : Hid (sam a b = true) := sam_yes (by rw [← HN.out.1, ← HN.out.2]) (fun j hj => HJ.out j (by have := HN.out.1; omega))
        clear hu
        go_wp2_with fail
        rw [HPo.out, HF.out]
        exact ⟨rfl, HU.out⟩
  · have hl2 : ((n : Int) != (m : Int)) = true := by simp; omega
    have HF : Hid (sam a b = false) := sam_len (by rw [← HN.out.1, ← HN.out.2]; exact hl)
    go_enter Try.func20, Try.ntmps20
    go_wp2_with fail
    rw [HPo.out, HF.out]
    exact ⟨rfl, Up.refl _⟩
set_option maxRecDepth 100000 in
set_option maxHeartbeats 8000000 in
theorem rsame_ (v u : Value) (a b : List Nd) (w : World) (hv : NLs w v a) (hu : NLs w u b) (hn : a.length ≤ 4294967296) (hm : b.length ≤ 4294967296) (hba : ∀ x ∈ a, Byt x.text) (hbb : ∀ x ∈ b, Byt x.text) :
    Calls Try.prog 21 #[v, u] w fun e w' => e = .returned (.bool (sam a b)) ∧ Up w w' := by
  obtain ⟨Post, hPost⟩ : ∃ P : Ending → World → Prop, P = fun e w' => e = .returned (.bool (sam a b)) ∧ Up w w' := ⟨_, rfl⟩
  rw [← hPost]
  have HPo : Hid (Post = fun e w' => e = .returned (.bool (sam a b)) ∧ Up w w') := hPost
  clear hPost
  obtain ⟨a1, k1, rfl, -, h1⟩ := nl_at hv
  obtain ⟨a2, k2, rfl, -, h2⟩ := nl_at hu
  obtain ⟨n, hn0⟩ : ∃ n, n = a.length := ⟨_, rfl⟩
  obtain ⟨m, hm0⟩ : ∃ m, m = b.length := ⟨_, rfl⟩
  have HN : Hid (n = a.length ∧ m = b.length) := ⟨hn0, hm0⟩
  have HBA : Hid (∀ i, i < a.length → Byt (a.getD i dn).text) := fun i hi => byt_at hba hi
  have HBB : Hid (∀ i, i < b.length → Byt (b.getD i dn).text) := fun i hi => byt_at hbb hi
  rw [← hn0] at hn h1
  rw [← hm0] at hm h2
  rw [← hn0, ← hm0]
  have H1 : Hid (n ≠ 0 → ∃ b off, a1 = some ⟨b, off, none⟩ ∧ ∀ W, Up w W → ∀ i, i < n → ∀ j x, (ndc (a.getD i dn))[j]? = some x → W.cell? ⟨b, off + i * 7 + j, none⟩ = some x) := h1
  have H2 : Hid (m ≠ 0 → ∃ bb off, a2 = some ⟨bb, off, none⟩ ∧ ∀ W, Up w W → ∀ i, i < m → ∀ j x, (ndc (b.getD i dn))[j]? = some x → W.cell? ⟨bb, off + i * 7 + j, none⟩ = some x) := h2
  clear hv hu h1 h2 hn0 hm0 hba hbb
  by_cases hl : n = m
  · subst hl
    go_enter Try.func21, Try.ntmps21
    go_wp2_with fail
    go_loopw [5] (fun s wr => ∃ i : Nat, i ≤ n ∧ s = .int .i64 i ∧ (∀ j, j < i → nop (a.getD j dn) = nop (b.getD j dn)) ∧ Up w wr) (fun s _ => n - (intOf s).toNat)
    case atStart => exact ⟨0, Nat.zero_le _, rfl, fun j hj => by omega, Up.refl _⟩
    case round =>
      obtain ⟨i, hi, rfl, hj, hu⟩ := hrel
      have HU : Hid (Up w wr) := hu
      have HJ : Hid (∀ j, j < i → nop (a.getD j dn) = nop (b.getD j dn)) := hj
      clear hj
      by_cases hlt : i < n
      · have hlt2 : (i : Int) < (n : Int) := by omega
        obtain ⟨b1, o1, rfl, c1⟩ := H1.out (by omega)
        obtain ⟨b2, o2, rfl, c2⟩ := H2.out (by omega)
        have ei : IntKind.i64.wrap ((i : Int) + 1) = ((i + 1 : Nat) : Int) := by rw [IntKind.wrap_i64]; omega
        have x0 : wr.cell? ⟨b1, o1 + i * 7, none⟩ = some (.int .i8 (a.getD i dn).op) := c1 wr hu i hlt 0 _ rfl
        have x1 : wr.cell? ⟨b1, o1 + i * 7 + 1, none⟩ = some (.int .i8 (a.getD i dn).kind) := c1 wr hu i hlt 1 _ rfl
        have x2 : wr.cell? ⟨b1, o1 + i * 7 + 2, none⟩ = some (.int .i64 (a.getD i dn).n) := c1 wr hu i hlt 2 _ rfl
        have x3 : wr.cell? ⟨b1, o1 + i * 7 + 3, none⟩ = some (.int .i64 (a.getD i dn).m) := c1 wr hu i hlt 3 _ rfl
        have x4 : wr.cell? ⟨b1, o1 + i * 7 + 4, none⟩ = some (.string (strOfNums (a.getD i dn).text)) := c1 wr hu i hlt 4 _ rfl
        have x5 : wr.cell? ⟨b1, o1 + i * 7 + 5, none⟩ = some (.int .i64 (a.getD i dn).pos) := c1 wr hu i hlt 5 _ rfl
        have x6 : wr.cell? ⟨b1, o1 + i * 7 + 6, none⟩ = some (.int .i64 (a.getD i dn).kids) := c1 wr hu i hlt 6 _ rfl
        have hbx := HBA.out i (by rw [← HN.out.1]; exact hlt)
        have hby := HBB.out i (by rw [← HN.out.2]; exact hlt)
        obtain ⟨W9, hW9⟩ : ∃ W9, (wr.alloc (.cells zN 33)).setRow wr.heap.size (ndA (a.getD i dn)) = W9 := ⟨_, rfl⟩
        have r9 : W9.heap[wr.heap.size]? = some (.cells (ndA (a.getD i dn)) 33 (0, 0)) := by rw [← hW9]; exact setRow_heap _ _ _ _ _ _ (heap_alloc_new _ _)
        have u9 : Up wr W9 := by rw [← hW9]; exact up_setRow ((Up.refl _).alloc _) (Nat.le_refl _) _
        obtain ⟨W8, hW8⟩ : ∃ W8, W9.setCell ⟨wr.heap.size, 5, none⟩ (.int .i64 (b.getD i dn).pos) = W8 := ⟨_, rfl⟩
        have r8 : W8.heap[wr.heap.size]? = some (.cells (ndA { a.getD i dn with pos := (b.getD i dn).pos }) 33 (0, 0)) := by rw [← hW8, set_cellsN r9]; rfl
        have u8 : Up wr W8 := by rw [← hW8]; exact up_setN u9 _ _ (Nat.le_refl _)
        have HU8 : Hid (Up w W8) := hu.trans u8
        have hone : (ndA (a.getD i dn)).all (·.oneCell') = true := ndA_one _
        have y5 : W9.cell? ⟨b2, o2 + i * 7 + 5, none⟩ = some (.int .i64 (b.getD i dn).pos) := c2 W9 (hu.trans u9) i hlt 5 _ rfl
        have z0 : W8.cell? ⟨b2, o2 + i * 7, none⟩ = some (.int .i8 (b.getD i dn).op) := c2 W8 (hu.trans u8) i hlt 0 _ rfl
        have z1 : W8.cell? ⟨b2, o2 + i * 7 + 1, none⟩ = some (.int .i8 (b.getD i dn).kind) := c2 W8 (hu.trans u8) i hlt 1 _ rfl
        have z2 : W8.cell? ⟨b2, o2 + i * 7 + 2, none⟩ = some (.int .i64 (b.getD i dn).n) := c2 W8 (hu.trans u8) i hlt 2 _ rfl
        have z3 : W8.cell? ⟨b2, o2 + i * 7 + 3, none⟩ = some (.int .i64 (b.getD i dn).m) := c2 W8 (hu.trans u8) i hlt 3 _ rfl
        have z4 : W8.cell? ⟨b2, o2 + i * 7 + 4, none⟩ = some (.string (strOfNums (b.getD i dn).text)) := c2 W8 (hu.trans u8) i hlt 4 _ rfl
        have z5 : W8.cell? ⟨b2, o2 + i * 7 + 5, none⟩ = some (.int .i64 (b.getD i dn).pos) := c2 W8 (hu.trans u8) i hlt 5 _ rfl
        have z6 : W8.cell? ⟨b2, o2 + i * 7 + 6, none⟩ = some (.int .i64 (b.getD i dn).kids) := c2 W8 (hu.trans u8) i hlt 6 _ rfl
        have f9 := froz_f r9
        have q0 : W8.cell? ⟨wr.heap.size, 0, none⟩ = some (.int .i8 (a.getD i dn).op) := by simp only [World.cell?, r8]; rfl
        have q1 : W8.cell? ⟨wr.heap.size, 1, none⟩ = some (.int .i8 (a.getD i dn).kind) := by simp only [World.cell?, r8]; rfl
        have q2 : W8.cell? ⟨wr.heap.size, 2, none⟩ = some (.int .i64 (a.getD i dn).n) := by simp only [World.cell?, r8]; rfl
        have q3 : W8.cell? ⟨wr.heap.size, 3, none⟩ = some (.int .i64 (a.getD i dn).m) := by simp only [World.cell?, r8]; rfl
        have q4 : W8.cell? ⟨wr.heap.size, 4, none⟩ = some (.string (strOfNums (a.getD i dn).text)) := by simp only [World.cell?, r8]; rfl
        have q5 : W8.cell? ⟨wr.heap.size, 5, none⟩ = some (.int .i64 (b.getD i dn).pos) := by simp only [World.cell?, r8]; rfl
        have q6 : W8.cell? ⟨wr.heap.size, 6, none⟩ = some (.int .i64 (a.getD i dn).kids) := by simp only [World.cell?, r8]; rfl
        have g9 : ∃ c9, W9.cell? ⟨wr.heap.size, 5, none⟩ = some c9 := ⟨_, by simp only [World.cell?, r9]; rfl⟩
        obtain ⟨c9, g9⟩ := g9
        have HW9 : Hid ((wr.alloc (.cells zN 33)).setRow wr.heap.size (ndA (a.getD i dn)) = W9) := hW9
        have hq := nop_iff hbx hby
        clear c1 c2 hu u9 u8 r8 hbx hby
        by_cases hs : nop (a.getD i dn) = nop (b.getD i dn)
        · have HS : Hid (∀ j, j < i + 1 → nop (a.getD j dn) = nop (b.getD j dn)) := fun j hj => by
            by_cases h9 : j = i
            · rw [h9]; exact hs
            · exact HJ.out j (by omega)
          have hx := nodIs _ _ _ _ _ _ _ _ _ _ _ _ _ _ (hq.1 hs)
          generalize a.getD i dn = ex at *
          generalize b.getD i dn = ey at *
          clear hq hs
          go_wp2_with (first | (refine wpList_store_row rfl 33 (.tmp 6) (.tmp 21) rfl wr.heap.size (ndA ex) rfl rfl 33 zN (heap_alloc_new wr _) infoNd rfl hone ?_; refine wpList_world HW9.out ?_))
          go_quiet (fail)
          go_wp2_with fail
          go_roundw
          case rel => exact ⟨i + 1, by omega, by go_num, HS.out, HU8.out.drewN _⟩
          case measure => simp [intOf]; omega
        · have HF : Hid (sam a b = false) := sam_no (by rw [← HN.out.1]; exact hlt) (by rw [← HN.out.2]; exact hlt) hs
          have hx := nodNot _ _ _ _ _ _ _ _ _ _ _ _ _ _ (fun h9 => hs (hq.2 h9))
          generalize a.getD i dn = ex at *
          generalize b.getD i dn = ey at *
          clear hq hs
          go_wp2_with (first | (refine wpList_store_row rfl 33 (.tmp 6) (.tmp 21) rfl wr.heap.size (ndA ex) rfl rfl 33 zN (heap_alloc_new wr _) infoNd rfl hone ?_; refine wpList_world HW9.out ?_))
          go_quiet (fail)
          go_wp2_with fail
          rw [HPo.out, HF.out]
          exact ⟨rfl, HU8.out.drewN _⟩
      · have hlt2 : ¬ (i : Int) < (n : Int) := by omega
        have HF : Hid (sam a b = true) := sam_yes (by rw [← HN.out.1, ← HN.out.2]) (fun j hj => HJ.out j (by have := HN.out.1; omega))
        clear hu
        go_wp2_with fail
        rw [HPo.out, HF.out]
        exact ⟨rfl, HU.out⟩
  · have hl2 : ((n : Int) != (m : Int)) = true := by simp; omega
    have HF : Hid (sam a b = false) := sam_len (by rw [← HN.out.1, ← HN.out.2]; exact hl)
    go_enter Try.func21, Try.ntmps21
    go_wp2_with fail
    rw [HPo.out, HF.out]
    exact ⟨rfl, Up.refl _⟩
end TR
end Go.Proofs.Ytgahdppcdeefaaa
