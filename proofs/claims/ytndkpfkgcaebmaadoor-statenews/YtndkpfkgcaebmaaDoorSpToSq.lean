/-
  Do the marks behind a list stand?
-/
import Derived.Test.YtndkpfkgcaebmaaDoorWiToRa
namespace Go.Proofs.YtndkpfkgcaebmaaDoor
open Go.RowKit
attribute [local go_sem ↓] Go.wp_at_zero Go.wp_at_succ

namespace ST
set_option maxRecDepth 100000 in
set_option maxHeartbeats 4000000 in
theorem spareInts_ (base : Nat) (v : Value) (l : List Int) (w : World) (hv : WI base w v l) (hn : l.length ≤ 4294967296) :
    Calls Tryd.prog 75 #[v] w fun e w' => e = .returned (.bool true) ∧ w' = w := by
  obtain ⟨g, -, rfl, h3⟩ := hv
  obtain ⟨n, hn0⟩ : ∃ n, n = l.length := ⟨_, rfl⟩
  have HC : Hid (∀ i, n ≤ i → i < n + 64 → w.cell? ⟨g, i, none⟩ = some (.int .i64 (numI i))) := fun i h1 h2 => by
    have : w.cell? ⟨g, i, none⟩ = (wIs l)[i]? := by simp [World.cell?, h3]
    rw [this, wIs_get l i (by omega), wI, if_neg (by omega)]
  rw [← hn0] at hn ⊢
  clear h3 hn0
  have e1 : (n : Int) + 64 ≤ (n : Int) + 64 := by omega
  have e2 : (0 : Int) ≤ (n : Int) + 64 := by omega
  have e3 : ((n : Int) + 64).toNat = n + 64 := by omega
  go_enter Tryd.func75, Tryd.ntmps75
  go_wp2_with fail
  go_loopw [2, 4] (fun s2 s4 wr => ∃ i : Nat, n ≤ i ∧ i ≤ n + 64 ∧ s2 = .bool false ∧ s4 = .int .i64 i ∧ wr = w) (fun _ s4 _ => n + 64 - (intOf s4).toNat)
  case atStart => exact ⟨n, Nat.le_refl _, by omega, rfl, rfl, rfl⟩
  case round =>
    obtain ⟨i, hi1, hi2, rfl, rfl, rfl⟩ := hrel
    by_cases hlt : i < n + 64
    · have hlt2 : (i : Int) < (n : Int) + 64 := by omega
      have x1 := HC.out i hi1 hlt
      have HNm : Hid _ := num_ i (by omega)
      generalize numI i = z at x1 HNm
      go_wp2_with fail
      refine Calls.mono (HNm.out _) ?_
      rintro e w2 ⟨rfl, rfl⟩
      go_wp2
      go_roundw
      case rel => exact ⟨i + 1, by omega, by omega, rfl, by go_num, by first | rfl | trivial⟩
      case measure => simp [intOf]; omega
    · have hlt2 : ¬ (i : Int) < (n : Int) + 64 := by omega
      go_wp2
      go_ret
      exact ⟨rfl, rfl⟩
end ST
end Go.Proofs.YtndkpfkgcaebmaaDoor
/-
  Do the marks behind players, cards, rows, states stand?
-/
namespace Go.Proofs.YtndkpfkgcaebmaaDoor
open Go.RowKit
attribute [local go_sem ↓] Go.wp_at_zero Go.wp_at_succ

theorem wrapEq32 (x : Int) : IntKind.i32.wrap x = wrap32 x := by rw [IntKind.wrap_i32, wrap32]
namespace ST
set_option maxRecDepth 100000 in
set_option maxHeartbeats 4000000 in
theorem spareP_ (base : Nat) (v : Value) (l : List Ply) (w : World) (hv : WP base w v l) (hn : l.length ≤ 4294967296) :
    Calls Tryd.prog 30 #[v] w fun e w' => e = .returned (.bool true) ∧ Up w w' := by
  obtain ⟨g, -, rfl, h3⟩ := hv
  obtain ⟨n, hn0⟩ : ∃ n, n = l.length := ⟨_, rfl⟩
  have HC : Hid (∀ i, n ≤ i → i < n + 64 → w.cell? ⟨g, i * 3, none⟩ = some (.int .i32 (wrap32 (numI i))) ∧ w.cell? ⟨g, i * 3 + 1, none⟩ = some (.int .i32 0) ∧ w.cell? ⟨g, i * 3 + 2, none⟩ = some (.bool false)) := fun i h1 h2 => by
    have c : ∀ j, j < 3 → w.cell? ⟨g, i * 3 + j, none⟩ = (wP l i)[j]? := fun j hj => by
      have : w.cell? ⟨g, i * 3 + j, none⟩ = (wPs l)[i * 3 + j]? := by simp [World.cell?, h3]
      rw [this, wPs_get l i j (by omega) hj]
    rw [wP, if_neg (by omega)] at c
    exact ⟨c 0 (by decide), c 1 (by decide), c 2 (by decide)⟩
  rw [← hn0] at hn ⊢
  clear h3 hn0
  have e1 : (n : Int) + 64 ≤ (n : Int) + 64 := by omega
  have e2 : (0 : Int) ≤ (n : Int) + 64 := by omega
  have e3 : ((n : Int) + 64).toNat = n + 64 := by omega
  go_enter Tryd.func30, Tryd.ntmps30
  go_wp2_with fail
  go_loopw [2, 4] (fun s2 s4 wr => ∃ i : Nat, n ≤ i ∧ i ≤ n + 64 ∧ s2 = .bool false ∧ s4 = .int .i64 i ∧ Up w wr) (fun _ s4 _ => n + 64 - (intOf s4).toNat)
  case atStart => exact ⟨n, Nat.le_refl _, by omega, rfl, rfl, Up.refl _⟩
  case round =>
    obtain ⟨i, hi1, hi2, rfl, rfl, u9⟩ := hrel
    have HU : Hid (Up w wr) := u9
    by_cases hlt : i < n + 64
    · have hlt2 : (i : Int) < (n : Int) + 64 := by omega
      obtain ⟨x0, x1, x2⟩ := HC.out i hi1 hlt
      obtain ⟨x0, x1, x2⟩ := (show wr.cell? ⟨g, i * 3, none⟩ = some (.int .i32 (wrap32 (numI i))) ∧ wr.cell? ⟨g, i * 3 + 1, none⟩ = some (.int .i32 0) ∧ wr.cell? ⟨g, i * 3 + 2, none⟩ = some (.bool false) from ⟨u9.cell x0, u9.cell x1, u9.cell x2⟩)
      clear u9
      obtain ⟨y, hy⟩ : ∃ y, y = wrap32 (numI i) := ⟨_, rfl⟩
      rw [← hy] at x0
      have ew : IntKind.i32.wrap (numI i) = y := by rw [hy]; exact wrapEq32 _
      have HNm : Hid _ := num_ i (by omega)
      clear hy
      generalize numI i = z at ew HNm
      go_wp2_with fail
      go_quiet (exact Calls.quiet_of_same (HNm.out _))
      go_wp2
      go_roundw
      case rel =>
        refine ⟨i + 1, by omega, by omega, rfl, by go_num, HU.out.trans ?_⟩
        repeat (first | with_reducible exact Up.refl _ | with_reducible apply Up.alloc | with_reducible apply Up.drewN | with_reducible apply Up.drew | with_reducible refine Up.set ?_ _ _ (by first | exact Nat.le_refl _ | exact Nat.le_succ _ | (simp; omega)))
      case measure => simp [intOf]; omega
    · have hlt2 : ¬ (i : Int) < (n : Int) + 64 := by omega
      clear u9
      go_wp2
      go_ret
      exact ⟨rfl, HU.out⟩
set_option maxRecDepth 100000 in
set_option maxHeartbeats 4000000 in
theorem spareC_ (base : Nat) (v : Value) (l : List Crd) (w : World) (hv : WC base w v l) (hn : l.length ≤ 4294967296) :
    Calls Tryd.prog 20 #[v] w fun e w' => e = .returned (.bool true) ∧ Up w w' := by
  obtain ⟨g, -, rfl, h3⟩ := hv
  obtain ⟨n, hn0⟩ : ∃ n, n = l.length := ⟨_, rfl⟩
  have HC : Hid (∀ i, n ≤ i → i < n + 64 → w.cell? ⟨g, i * 6, none⟩ = some (.int .i64 (numI i)) ∧ w.cell? ⟨g, i * 6 + 1, none⟩ = some (.int .i64 0) ∧ w.cell? ⟨g, i * 6 + 2, none⟩ = some (.int .i32 0) ∧ w.cell? ⟨g, i * 6 + 3, none⟩ = some (.int .i32 0) ∧ w.cell? ⟨g, i * 6 + 4, none⟩ = some (.int .i32 0) ∧ w.cell? ⟨g, i * 6 + 5, none⟩ = some (.int .i32 0)) := fun i h1 h2 => by
    have c : ∀ j, j < 6 → w.cell? ⟨g, i * 6 + j, none⟩ = (wC l i)[j]? := fun j hj => by
      have : w.cell? ⟨g, i * 6 + j, none⟩ = (wCs l)[i * 6 + j]? := by simp [World.cell?, h3]
      rw [this, wCs_get l i j (by omega) hj]
    rw [wC, if_neg (by omega)] at c
    exact ⟨c 0 (by decide), c 1 (by decide), c 2 (by decide), c 3 (by decide), c 4 (by decide), c 5 (by decide)⟩
  rw [← hn0] at hn ⊢
  clear h3 hn0
  have e1 : (n : Int) + 64 ≤ (n : Int) + 64 := by omega
  have e2 : (0 : Int) ≤ (n : Int) + 64 := by omega
  have e3 : ((n : Int) + 64).toNat = n + 64 := by omega
  go_enter Tryd.func20, Tryd.ntmps20
  go_wp2_with fail
  go_loopw [2, 4] (fun s2 s4 wr => ∃ i : Nat, n ≤ i ∧ i ≤ n + 64 ∧ s2 = .bool false ∧ s4 = .int .i64 i ∧ Up w wr) (fun _ s4 _ => n + 64 - (intOf s4).toNat)
  case atStart => exact ⟨n, Nat.le_refl _, by omega, rfl, rfl, Up.refl _⟩
  case round =>
    obtain ⟨i, hi1, hi2, rfl, rfl, u9⟩ := hrel
    have HU : Hid (Up w wr) := u9
    by_cases hlt : i < n + 64
    · have hlt2 : (i : Int) < (n : Int) + 64 := by omega
      obtain ⟨x0, x1, x2, x3, x4, x5⟩ := HC.out i hi1 hlt
      obtain ⟨x0, x1, x2, x3, x4, x5⟩ := (show wr.cell? ⟨g, i * 6, none⟩ = some (.int .i64 (numI i)) ∧ wr.cell? ⟨g, i * 6 + 1, none⟩ = some (.int .i64 0) ∧ wr.cell? ⟨g, i * 6 + 2, none⟩ = some (.int .i32 0) ∧ wr.cell? ⟨g, i * 6 + 3, none⟩ = some (.int .i32 0) ∧ wr.cell? ⟨g, i * 6 + 4, none⟩ = some (.int .i32 0) ∧ wr.cell? ⟨g, i * 6 + 5, none⟩ = some (.int .i32 0) from ⟨u9.cell x0, u9.cell x1, u9.cell x2, u9.cell x3, u9.cell x4, u9.cell x5⟩)
      clear u9
      have HNm : Hid _ := num_ i (by omega)
      generalize numI i = z at x0 HNm
      go_wp2_with fail
      go_quiet (exact Calls.quiet_of_same (HNm.out _))
      go_wp2
      go_roundw
      case rel =>
        refine ⟨i + 1, by omega, by omega, rfl, by go_num, HU.out.trans ?_⟩
        repeat (first | with_reducible exact Up.refl _ | with_reducible apply Up.alloc | with_reducible apply Up.drewN | with_reducible apply Up.drew | with_reducible refine Up.set ?_ _ _ (by first | exact Nat.le_refl _ | exact Nat.le_succ _ | (simp; omega)))
      case measure => simp [intOf]; omega
    · have hlt2 : ¬ (i : Int) < (n : Int) + 64 := by omega
      clear u9
      go_wp2
      go_ret
      exact ⟨rfl, HU.out⟩
set_option maxRecDepth 100000 in
set_option maxHeartbeats 4000000 in
theorem spareRows_ (base : Nat) (v : Value) (zs : List (List Int)) (w : World) (hv : WZ base w v zs) (hn : zs.length ≤ 4294967296) (hl : ∀ r, r < zs.length → (zs.getD r []).length ≤ 4294967296) :
    Calls Tryd.prog 31 #[v] w fun e w' => e = .returned (.bool true) ∧ Up w w' := by
  obtain ⟨g, vs, -, rfl, h3, h4, h5⟩ := hv
  obtain ⟨n, hn0⟩ : ∃ n, n = zs.length := ⟨_, rfl⟩
  have hcc : ∀ i, i < zs.length + 64 → w.cell? ⟨g, i, none⟩ = some (vs.getD i nl) := fun i hi => by
    have : w.cell? ⟨g, i, none⟩ = vs[i]? := by simp [World.cell?, h3]
    rw [this, List.getD_eq_getElem?_getD, List.getElem?_eq_getElem (by omega)]
    rfl
  have HC : Hid (∀ i, n ≤ i → i < n + 64 → ∃ gx, ∀ W, Up w W → W.cell? ⟨g, i, none⟩ = some (.slice (some ⟨gx, 0, none⟩) 1 1) ∧ W.cell? ⟨gx, 0, none⟩ = some (.int .i64 (numI i))) := fun i h1 h2 => by
    have h6 := h5 i (by omega)
    rw [WRow, if_neg (by omega)] at h6
    obtain ⟨gx, -, h7, h8⟩ := h6
    have h9 := hcc i (by omega)
    rw [h7] at h9
    exact ⟨gx, fun W u => ⟨u.cell h9, u.cell (by simp [World.cell?, h8])⟩⟩
  have HR : Hid (∀ i, i < n → ∃ x, (∃ a b c, x = .slice a b c) ∧ ∀ W, Up w W → W.cell? ⟨g, i, none⟩ = some x ∧ Calls Tryd.prog 75 #[x] W fun e w' => e = .returned (.bool true) ∧ w' = W) := fun i h1 => by
    have h6 := h5 i (by omega)
    rw [WRow, if_pos (by omega)] at h6
    obtain ⟨g9, -, e9, -⟩ := id h6
    exact ⟨_, ⟨_, _, _, e9⟩, fun W u => ⟨u.cell (hcc i (by omega)), spareInts_ base _ _ W (h6.up u) (hl i (by omega))⟩⟩
  rw [← hn0] at hn ⊢
  clear h3 h4 h5 hcc hl hn0
  have e1 : (n : Int) + 64 ≤ (n : Int) + 64 := by omega
  have e2 : (0 : Int) ≤ (n : Int) + 64 := by omega
  have e3 : ((n : Int) + 64).toNat = n + 64 := by omega
  go_enter Tryd.func31, Tryd.ntmps31
  go_wp2_with fail
  go_loopw [2, 4] (fun s2 s4 wr => ∃ i : Nat, n ≤ i ∧ i ≤ n + 64 ∧ s2 = .bool false ∧ s4 = .int .i64 i ∧ Up w wr) (fun _ s4 _ => n + 64 - (intOf s4).toNat)
  case atStart => exact ⟨n, Nat.le_refl _, by omega, rfl, rfl, Up.refl _⟩
  case round =>
    obtain ⟨i, hi1, hi2, rfl, rfl, u9⟩ := hrel
    have HU : Hid (Up w wr) := u9
    by_cases hlt : i < n + 64
    · have hlt2 : (i : Int) < (n : Int) + 64 := by omega
      obtain ⟨gx, hgx⟩ := HC.out i hi1 hlt
      obtain ⟨x0, x1⟩ := hgx wr u9
      have HNm : Hid _ := num_ i (by omega)
      clear u9 hgx
      generalize numI i = z at x1 HNm
      go_wp2_with fail
      go_quiet (exact Calls.quiet_of_same (HNm.out _))
      go_wp2
      go_roundw
      case rel => exact ⟨i + 1, by omega, by omega, rfl, by go_num, HU.out.drewN _⟩
      case measure => simp [intOf]; omega
    · have hlt2 : ¬ (i : Int) < (n : Int) + 64 := by omega
      clear u9
      go_wp2_with fail
      go_loopw [2, 6] (fun s2 s6 W => ∃ i : Nat, i ≤ n ∧ s2 = .bool false ∧ s6 = .int .i64 i ∧ Up w W) (fun _ s6 _ => n - (intOf s6).toNat)
      case atStart => exact ⟨0, Nat.zero_le _, rfl, rfl, HU.out⟩
      case round =>
        obtain ⟨i, hi, rfl, rfl, u9⟩ := hrel
        clear HU
        have HU : Hid (Up w wr) := u9
        by_cases hlt5 : i < n
        · have hlt6 : (i : Int) < (n : Int) := by omega
          obtain ⟨x, ⟨xa, xb, xc, rfl⟩, hx⟩ := HR.out i hlt5
          obtain ⟨x0, hcall⟩ := hx wr u9
          have HCa : Hid _ := hcall
          clear u9 hx hcall
          go_wp2_with fail
          refine Calls.mono HCa.out ?_
          rintro e w2 ⟨rfl, rfl⟩
          go_wp2
          go_roundw
          case rel => exact ⟨i + 1, by omega, rfl, by go_num, HU.out⟩
          case measure => simp [intOf]; omega
        · have hlt6 : ¬ (i : Int) < (n : Int) := by omega
          clear u9
          go_wp2
          go_ret
          exact ⟨rfl, HU.out⟩
set_option maxHeartbeats 2000000 in
theorem spareState_ (base : Nat) (v : Value) (s : Stt) (w : World) (hv : WS base w v s) (hsm : Small s) :
    Calls Tryd.prog 9 #[v] w fun e w' => e = .returned (.bool true) ∧ Up w w' := by
  obtain ⟨vp, vc, vz, rfl, h1, h2, h3⟩ := hv
  have HP : Hid (∀ W, Up w W → _) := fun W u => spareP_ base vp s.ps W (h1.up u) hsm.1
  have HC : Hid (∀ W, Up w W → _) := fun W u => spareC_ base vc s.cs W (h2.up u) hsm.2.1
  have HZ : Hid (∀ W, Up w W → _) := fun W u => spareRows_ base vz s.zs W (h3.up u) hsm.2.2.1 hsm.2.2.2
  obtain ⟨a1, k1, rfl⟩ := WP.val h1
  obtain ⟨a2, k2, rfl⟩ := WC.val h2
  obtain ⟨a3, k3, rfl⟩ := WZ.val h3
  clear h1 h2 h3
  unfold sv
  obtain ⟨W0, hW0⟩ : ∃ W, W = w.alloc (.cells #[.slice a1 s.ps.length k1, .slice a2 s.cs.length k2, .slice a3 s.zs.length k3, .int .i32 s.turn, .int .i64 s.whose, .int .i8 s.fin, .int .i64 s.winner] 27) := ⟨_, rfl⟩
  have HW0 : Hid (Up w W0 ∧ W0.heap[w.heap.size]? = some (.cells #[.slice a1 s.ps.length k1, .slice a2 s.cs.length k2, .slice a3 s.zs.length k3, .int .i32 s.turn, .int .i64 s.whose, .int .i8 s.fin, .int .i64 s.winner] 27 (0, 0))) := ⟨by rw [hW0]; exact (Up.refl _).alloc _, by rw [hW0]; exact heap_alloc_new w _⟩
  go_enter Tryd.func9, Tryd.ntmps9
  go_wp2_with fail
  rw [← hW0]
  clear hW0
  refine Calls.mono (HP.out _ HW0.out.1) ?_
  rintro e w1 ⟨rfl, u1⟩
  obtain ⟨y0, y1, y2, -, -, -, -⟩ := seven_cells (u1.heap HW0.out.2)
  have HU1 : Hid (Up W0 w1) := u1
  clear u1
  go_wp2_with fail
  refine Calls.mono (HC.out _ (HW0.out.1.trans HU1.out)) ?_
  rintro e w2 ⟨rfl, u2⟩
  have HU2 : Hid (Up W0 w2) := HU1.out.trans u2
  clear u2 y0 y1 y2
  obtain ⟨y0, y1, y2, -, -, -, -⟩ := seven_cells (HU2.out.heap HW0.out.2)
  go_wp2_with fail
  refine Calls.mono (HZ.out _ (HW0.out.1.trans HU2.out)) ?_
  rintro e w3 ⟨rfl, u3⟩
  have HU3 : Hid (Up w w3) := (HW0.out.1.trans HU2.out).trans u3
  clear u3
  go_wp2
  go_ret
  exact ⟨rfl, HU3.out⟩
end ST
end Go.Proofs.YtndkpfkgcaebmaaDoor
