/-
  A state with marks behind it whose players' flags and cards' powers are written over.
-/
import Derived.Test.YtpmdlpjedapbbaaGreatDoorRwToWn
import Derived.Test.YtpmdlpjedapbbaaGreatDoorWsToRa
import Derived.Test.YtpmdlpjedapbbaaGreatDoorProg
import Derived.WalkSpells
import Derived.WalkLawsBesides
import Derived.Handy
import Derived.Below
import Derived.OwnWalk
import Derived.Deep.QuietTactic
import Derived.BigQuiet
import Derived.BigRegion
import Derived.WalkSmall
import Derived.Laws.AppendOwnNone
import Derived.Deep.MidRow
import Derived.Deep.RegionHeld3
import Derived.Deep.DrawnRows
namespace Go.Proofs.YtpmdlpjedapbbaaGreatDoor
open Go.RowKit

namespace ST
theorem cvs_pow (cs : List Crd) (i : Nat) (hi : i < cs.length) (y : Int) (j : Nat) (hj : j < cs.length * 6) : (cvs (cs.set i { cs.getD i dc with power := y }))[j]? = if i * 6 + 2 = j then some (.int .i32 y) else (cvs cs)[j]? := by
  obtain ⟨a, b, rfl, hb⟩ := six_parts j
  have ha : a < cs.length := by omega
  rw [cvs_get _ a b (by simpa using ha) hb, cvs_get cs a b ha hb]
  by_cases e : a = i
  · subst e
    rw [List.getD_eq_getElem?_getD (l := cs.set a _), List.getElem?_set_self ha]
    simp only [Option.getD_some]
    by_cases e1 : b = 2
    · subst e1
      rw [if_pos rfl]; rfl
    · rw [if_neg (by omega)]
      match b, hb, e1 with
      | 0, _, _ => rfl
      | 1, _, _ => rfl
      | 3, _, _ => rfl
      | 4, _, _ => rfl
      | 5, _, _ => rfl
  · rw [List.getD_eq_getElem?_getD (l := cs.set i _), List.getElem?_set_ne (fun h => e h.symm), ← List.getD_eq_getElem?_getD, if_neg (by omega)]
theorem ck_pow {W : World} {g n : Nat} {cs : List Crd} (h : CK W g n cs) (i : Nat) (hi : i < n) (y : Int) : CK (W.setCell ⟨g, i * 6 + 2, none⟩ (.int .i32 y)) g n (cs.set i { cs.getD i dc with power := y }) := by
  obtain ⟨h1, cc, h2, h3⟩ := h
  refine ⟨by simpa using h1, _, set_cells h2, fun j hj => ?_⟩
  rw [cvs_pow cs i (by omega) y j (by omega), Array.getElem?_setIfInBounds]
  have hs : i * 6 + 2 < cc.size := by
    have := h3 (i * 6 + 2) (by omega)
    rw [List.getElem?_eq_getElem (by rw [cvs_len]; omega)] at this
    exact (Array.getElem?_eq_some_iff.1 this).1
  by_cases e : i * 6 + 2 = j
  · rw [if_pos e, if_pos e]
    subst e
    rw [if_pos hs]
  · rw [if_neg e, if_neg e]
    exact h3 j hj
theorem ck_at {W : World} {g n : Nat} {cs : List Crd} (h : CK W g n cs) (i : Nat) (hi : i < n) : W.cell? ⟨g, i * 6 + 2, none⟩ = some (.int .i32 (cs.getD i dc).power) ∧ W.frozen? ⟨g, i * 6 + 2, none⟩ = false := by
  obtain ⟨h1, cc, h2, h3⟩ := h
  refine ⟨?_, seven_f h2 _⟩
  have h4 := h3 (i * 6 + 2) (by omega)
  rw [cvs_get cs i 2 (by omega) (by decide)] at h4
  simp only [World.cell?, h2]
  exact h4
def PK (W : World) (g n : Nat) (cs : List Ply) : Prop := cs.length = n ∧ ∃ cc : Array Value, W.heap[g]? = some (.cells cc 44 (0, 0)) ∧ ∀ j, j < n * 3 → cc[j]? = (pvs cs)[j]?
theorem three_parts (j : Nat) : ∃ a b, j = a * 3 + b ∧ b < 3 := ⟨j / 3, j % 3, by have := Nat.div_add_mod j 3; omega, Nat.mod_lt _ (by decide)⟩
theorem pvs_out (cs : List Ply) (i : Nat) (hi : i < cs.length) (y : Bool) (j : Nat) (hj : j < cs.length * 3) : (pvs (cs.set i { cs.getD i dp with out := y }))[j]? = if i * 3 + 2 = j then some (.bool y) else (pvs cs)[j]? := by
  obtain ⟨a, b, rfl, hb⟩ := three_parts j
  have ha : a < cs.length := by omega
  rw [pvs_get _ a b (by simpa using ha) hb, pvs_get cs a b ha hb]
  by_cases e : a = i
  · subst e
    rw [List.getD_eq_getElem?_getD (l := cs.set a _), List.getElem?_set_self ha]
    simp only [Option.getD_some]
    by_cases e1 : b = 2
    · subst e1
      rw [if_pos rfl]; rfl
    · rw [if_neg (by omega)]
      match b, hb, e1 with
      | 0, _, _ => rfl
      | 1, _, _ => rfl
      | 2, _, h => exact absurd rfl h
  · rw [List.getD_eq_getElem?_getD (l := cs.set i _), List.getElem?_set_ne (fun h => e h.symm), ← List.getD_eq_getElem?_getD, if_neg (by omega)]
theorem PK.put {W : World} {g n : Nat} {cs : List Ply} (h : PK W g n cs) (i : Nat) (hi : i < n) (y : Bool) : PK (W.setCell ⟨g, i * 3 + 2, none⟩ (.bool y)) g n (cs.set i { cs.getD i dp with out := y }) := by
  obtain ⟨h1, cc, h2, h3⟩ := h
  refine ⟨by simpa using h1, _, set_cells h2, fun j hj => ?_⟩
  rw [pvs_out cs i (by omega) y j (by omega), Array.getElem?_setIfInBounds]
  have hs : i * 3 + 2 < cc.size := by
    have := h3 (i * 3 + 2) (by omega)
    rw [List.getElem?_eq_getElem (by rw [pvs_len]; omega)] at this
    exact (Array.getElem?_eq_some_iff.1 this).1
  by_cases e : i * 3 + 2 = j
  · rw [if_pos e, if_pos e]
    subst e
    rw [if_pos hs]
  · rw [if_neg e, if_neg e]
    exact h3 j hj
theorem PK.keep {W W' : World} {g n : Nat} {cs : List Ply} (h : PK W g n cs) (k : ∀ cc, W.heap[g]? = some (.cells cc 44 (0, 0)) → W'.heap[g]? = some (.cells cc 44 (0, 0))) : PK W' g n cs := by
  obtain ⟨h1, cc, h2, h3⟩ := h
  exact ⟨h1, cc, k cc h2, h3⟩
theorem PK.own {W : World} {g n : Nat} {cs : List Ply} (h : PK W g n cs) (i : Nat) (hi : i < n) : W.cell? ⟨g, i * 3 + 2, none⟩ = some (.bool (cs.getD i dp).out) ∧ W.frozen? ⟨g, i * 3 + 2, none⟩ = false := by
  obtain ⟨h1, cc, h2, h3⟩ := h
  refine ⟨?_, seven_f h2 _⟩
  have h4 := h3 (i * 3 + 2) (by omega)
  rw [pvs_get cs i 2 (by omega) (by decide)] at h4
  simp only [World.cell?, h2]
  exact h4
theorem PK.pls {W : World} {g n k : Nat} {cs : List Ply} (h : PK W g n cs) (hk : n ≤ k) : PLs W (.slice (some ⟨g, 0, none⟩) n k) cs := by
  obtain ⟨rfl, cc, h2, h3⟩ := h
  refine ⟨by rw [pvs_len], some ⟨g, 0, none⟩, k, rfl, hk, fun _ => ⟨g, 0, rfl, fun j hj => ?_⟩⟩
  rw [Nat.zero_add, ← h3 j hj]
  simp [World.cell?, h2]
def KT (w W : World) (b : Nat) (box : Array Value) (gP gC gZ : Nat) (vs : List Value) (s : Stt) : Prop :=
  W.heap[b]? = some (.cells box 27 (0, 0)) ∧ (w.heap.size ≤ gP ∧ ∃ ps, PK W gP s.ps.length ps) ∧ (∃ cs, CK W gC s.cs.length cs) ∧ (W.heap[gZ]? = some (.cells vs.toArray 98 (0, 0)) ∧ vs.length = s.zs.length + 64) ∧ KR W w.heap.size vs s.zs ∧ Up w W ∧ w.heap.size ≤ gC
theorem KT.up {w W W' : World} {b : Nat} {box : Array Value} {gP gC gZ : Nat} {vs : List Value} {s : Stt} (h : KT w W b box gP gC gZ vs s) (u : Up W W') : KT w W' b box gP gC gZ vs s := by
  obtain ⟨h1, ⟨h20, ps, h2⟩, ⟨cs, h3⟩, h4, h5, h6, h7⟩ := h
  exact ⟨u.heap h1, ⟨h20, ps, h2.keep (fun _ h => u.heap h)⟩, ⟨cs, h3.keep (fun _ h => u.heap h)⟩, ⟨u.heap h4.1, h4.2⟩, fun i hi => by
    obtain ⟨g, a, b, c⟩ := h5 i hi
    exact ⟨g, a, b, c.keep (fun _ h => u.heap h)⟩, h6.trans u, h7⟩
theorem KT.card {w W : World} {b : Nat} {box : Array Value} {gP gC gZ : Nat} {vs : List Value} {s : Stt} (h : KT w W b box gP gC gZ vs s) (i : Nat) (hi : i < s.cs.length) (y : Int) : KT w (W.setCell ⟨gC, i * 6 + 2, none⟩ (.int .i32 y)) b box gP gC gZ vs s := by
  obtain ⟨h1, ⟨h20, ps, h2⟩, ⟨cs, h3⟩, h4, h5, h6, h7⟩ := h
  obtain ⟨-, cc, hc, -⟩ := id h3
  exact ⟨set_other h1 (heap_ne h1 hc (by decide)), ⟨h20, ps, h2.keep (fun _ h => set_other h (heap_ne h hc (by decide)))⟩, ⟨_, ck_pow h3 i hi y⟩, ⟨set_other h4.1 (heap_ne h4.1 hc (by decide)), h4.2⟩, fun i hi => by
    obtain ⟨g, a, b, c⟩ := h5 i hi
    exact ⟨g, a, b, c.keep (fun _ h => set_other h (heap_ne h hc (by decide)))⟩, Up.set h6 _ _ h7, h7⟩
theorem KT.ply {w W : World} {b : Nat} {box : Array Value} {gP gC gZ : Nat} {vs : List Value} {s : Stt} (h : KT w W b box gP gC gZ vs s) (i : Nat) (hi : i < s.ps.length) (y : Bool) : KT w (W.setCell ⟨gP, i * 3 + 2, none⟩ (.bool y)) b box gP gC gZ vs s := by
  obtain ⟨h1, ⟨h20, ps, h2⟩, ⟨cs, h3⟩, h4, h5, h6, h7⟩ := h
  obtain ⟨-, cc, hc, -⟩ := id h2
  exact ⟨set_other h1 (heap_ne h1 hc (by decide)), ⟨h20, _, h2.put i hi y⟩, ⟨cs, h3.keep (fun _ h => set_other h (heap_ne h hc (by decide)))⟩, ⟨set_other h4.1 (heap_ne h4.1 hc (by decide)), h4.2⟩, fun i hi => by
    obtain ⟨g, a, b, c⟩ := h5 i hi
    exact ⟨g, a, b, c.keep (fun _ h => set_other h (heap_ne h hc (by decide)))⟩, Up.set h6 _ _ h20, h7⟩
/- what stands there is a state -/
theorem KT.state {w W : World} {b : Nat} {box : Array Value} {gP gC gZ : Nat} {vs : List Value} {s : Stt} (h : KT w W b box gP gC gZ vs s) (hsm : Small s) : ∃ s2, s2.turn = s.turn ∧ StL W (sv (.slice (some ⟨gP, 0, none⟩) s.ps.length (s.ps.length + 64)) (.slice (some ⟨gC, 0, none⟩) s.cs.length (s.cs.length + 64)) (.slice (some ⟨gZ, 0, none⟩) s.zs.length (s.zs.length + 64)) s) s2 ∧ Small s2 ∧ (flat s2).length = (flat s).length := by
  obtain ⟨h1, ⟨h20, ps, h2⟩, ⟨cs, h3⟩, h4, h5, h6, h7⟩ := h
  have hc : ∀ i, ∃ l : List Int, i < s.zs.length → l.length = (s.zs.getD i []).length ∧ IL W (vs.getD i nl) l := fun i => by
    by_cases hi : i < s.zs.length
    · obtain ⟨g, -, hv, ha⟩ := h5 i hi
      obtain ⟨l, hl, hil⟩ := ha.il (k := (s.zs.getD i []).length + 64) (by omega)
      exact ⟨l, fun _ => ⟨hl, by rw [hv]; exact hil⟩⟩
    · exact ⟨[], fun h => absurd h hi⟩
  obtain ⟨zs, hzs⟩ : ∃ zs : List (List Int), zs = (List.range s.zs.length).map fun i => Classical.choose (hc i) := ⟨_, rfl⟩
  have hzl : zs.length = s.zs.length := by rw [hzs]; simp
  have hz : ∀ i, i < s.zs.length → (zs.getD i []).length = (s.zs.getD i []).length ∧ IL W (vs.getD i nl) (zs.getD i []) := fun i hi => by
    have := Classical.choose_spec (hc i) hi
    have e : zs.getD i [] = Classical.choose (hc i) := by rw [hzs]; simp [List.getD_eq_getElem?_getD, hi]
    rw [e]; exact this
  refine ⟨{ s with ps := ps, cs := cs, zs := zs }, rfl, ⟨_, _, _, rfl, h2.pls (by omega), h3.cls (by omega), ?_⟩, ⟨by show ps.length ≤ _; rw [h2.1]; exact hsm.1, by show cs.length ≤ _; rw [h3.1]; exact hsm.2.1, by show zs.length ≤ _; rw [hzl]; exact hsm.2.2.1, fun r hr => ?_⟩, ?_⟩
  · show ZL W _ zs
    refine ⟨vs.take s.zs.length, ⟨by rw [List.length_take]; omega, some ⟨gZ, 0, none⟩, s.zs.length + 64, by rw [hzl], by omega, fun hn => ⟨gZ, 0, rfl, fun j hj => ?_⟩⟩, fun i hi => ?_⟩
    · rw [Nat.zero_add, List.getElem?_take, if_pos (by omega)]
      simp [World.cell?, h4.1]
    · have hi' : i < s.zs.length := by omega
      have e : (vs.take s.zs.length).getD i nl = vs.getD i nl := by rw [List.getD_eq_getElem?_getD, List.getElem?_take, if_pos hi', ← List.getD_eq_getElem?_getD]
      rw [e]
      exact (hz i hi').2
  · have hr' : r < s.zs.length := by rw [← hzl]; exact hr
    show (zs.getD r []).length ≤ _
    rw [(hz r hr').1]
    exact hsm.2.2.2 r hr'
  · exact flat_len_of zs s.zs hzl (fun i hi => (hz i (by omega)).1)
theorem kt_of {w W : World} {base b : Nat} {v : Value} {s : Stt} {box : Array Value} (h : WS base W v s) (hb : W.heap[b]? = some (.cells box 27 (0, 0))) (u : Up w W) (hw : w.heap.size ≤ base) : ∃ gP gC gZ vs, v = sv (.slice (some ⟨gP, 0, none⟩) s.ps.length (s.ps.length + 64)) (.slice (some ⟨gC, 0, none⟩) s.cs.length (s.cs.length + 64)) (.slice (some ⟨gZ, 0, none⟩) s.zs.length (s.zs.length + 64)) s ∧ KT w W b box gP gC gZ vs s := by
  obtain ⟨vp, vc, vz, rfl, hp, hc, ⟨gZ, vs, -, rfl, z2, z3, z4⟩⟩ := h
  have hcl := hc.il
  have hpl := hp.il
  obtain ⟨gP, p0, rfl, p2⟩ := hp
  obtain ⟨gC, c0, rfl, c2⟩ := hc
  refine ⟨gP, gC, gZ, vs, rfl, hb, ⟨by omega, s.ps, rfl, _, p2, fun j hj => ?_⟩, ⟨s.cs, rfl, _, c2, fun j hj => ?_⟩, ⟨z2, z3⟩, fun i hi => ?_, u, by omega⟩
  · obtain ⟨-, a, k, e, -, hc⟩ := hpl
    cases e
    obtain ⟨b', off, e, hcell⟩ := hc (by omega)
    cases e
    have := hcell j hj
    rw [← this, Nat.zero_add]
    simp [World.cell?, p2]
  · obtain ⟨-, a, k, e, -, hc⟩ := hcl
    cases e
    obtain ⟨b', off, e, hcell⟩ := hc (by omega)
    cases e
    have := hcell j hj
    rw [← this, Nat.zero_add]
    simp [World.cell?, c2]
  · have := z4 i (by omega)
    rw [WRow, if_pos hi] at this
    obtain ⟨g, g1, g2, g3⟩ := this
    refine ⟨g, by omega, g2, _, g3, fun j hj => ?_⟩
    have := wIs_get (s.zs.getD i []) j (by omega)
    rw [wI, if_pos hj] at this
    exact ⟨_, by simpa using this⟩
end ST
end Go.Proofs.YtpmdlpjedapbbaaGreatDoor
/-
  Do the marks behind a list stand?
-/
namespace Go.Proofs.YtpmdlpjedapbbaaGreatDoor
open Go.RowKit
attribute [local go_sem ↓] Go.wp_at_zero Go.wp_at_succ

namespace ST
set_option maxRecDepth 100000 in
set_option maxHeartbeats 4000000 in
theorem spareInts_ (base : Nat) (v : Value) (l : List Int) (w : World) (hv : WI base w v l) (hn : l.length ≤ 4294967296) :
    Calls Tryz.prog 80 #[v] w fun e w' => e = .returned (.bool true) ∧ w' = w := by
  obtain ⟨g, -, rfl, h3⟩ := hv
  obtain ⟨n, hn0⟩ : ∃ n, n = l.length := ⟨_, rfl⟩
  have HC : Hid (∀ i, n ≤ i → i < n + 64 → w.cell? ⟨g, i, none⟩ = some (.int .i64 (numI i))) := fun i h1 h2 => by
    have : w.cell? ⟨g, i, none⟩ = (wIs l)[i]? := by simp [World.cell?, h3]
    rw [this, wIs_get l i (by omega), wI, if_neg (by omega)]
  rw [← hn0] at hn ⊢
  clear h3 hn0
  have e1 : (n : Int) + 64 ≤ (n : Int) + 64 := by omega
  have e2 : (0 : Int) ≤ (n : Int) + 64 := by omega
  have e3 : ((n : Int) + 64).toNat = n + 64 := by omega
  go_enter Tryz.func80, Tryz.ntmps80
  go_wp2_with fail
  go_loopw [2, 4] (fun s2 s4 wr => ∃ i : Nat, n ≤ i ∧ i ≤ n + 64 ∧ s2 = .bool false ∧ s4 = .int .i64 i ∧ wr = w) (fun _ s4 _ => n + 64 - (intOf s4).toNat)
  case atStart => exact ⟨n, Nat.le_refl _, by omega, rfl, rfl, rfl⟩
  case round =>
    obtain ⟨i, hi1, hi2, rfl, rfl, rfl⟩ := hrel
    by_cases hlt : i < n + 64
    · have hlt2 : (i : Int) < (n : Int) + 64 := by omega
      have x1 := HC.out i hi1 hlt
      have HNm : Hid _ := num_ i (by omega)
      generalize numI i = z at x1 HNm
      go_wp2_with fail
      refine Calls.mono (HNm.out _) ?_
      rintro e w2 ⟨rfl, rfl⟩
      go_wp2
      go_roundw
      case rel => exact ⟨i + 1, by omega, by omega, rfl, by go_num, by first | rfl | trivial⟩
      case measure => simp [intOf]; omega
    · have hlt2 : ¬ (i : Int) < (n : Int) + 64 := by omega
      go_wp2
      go_ret
      exact ⟨rfl, rfl⟩
end ST
end Go.Proofs.YtpmdlpjedapbbaaGreatDoor
/-
  Do the marks behind players, cards, rows, states stand?
-/
namespace Go.Proofs.YtpmdlpjedapbbaaGreatDoor
open Go.RowKit
attribute [local go_sem ↓] Go.wp_at_zero Go.wp_at_succ

theorem wrapEq32 (x : Int) : IntKind.i32.wrap x = wrap32 x := by rw [IntKind.wrap_i32, wrap32]
namespace ST
set_option maxRecDepth 100000 in
set_option maxHeartbeats 4000000 in
theorem spareP_ (base : Nat) (v : Value) (l : List Ply) (w : World) (hv : WP base w v l) (hn : l.length ≤ 4294967296) :
    Calls Tryz.prog 37 #[v] w fun e w' => e = .returned (.bool true) ∧ Up w w' := by
  obtain ⟨g, -, rfl, h3⟩ := hv
  obtain ⟨n, hn0⟩ : ∃ n, n = l.length := ⟨_, rfl⟩
  have HC : Hid (∀ i, n ≤ i → i < n + 64 → w.cell? ⟨g, i * 3, none⟩ = some (.int .i32 (wrap32 (numI i))) ∧ w.cell? ⟨g, i * 3 + 1, none⟩ = some (.int .i32 0) ∧ w.cell? ⟨g, i * 3 + 2, none⟩ = some (.bool false)) := fun i h1 h2 => by
    have c : ∀ j, j < 3 → w.cell? ⟨g, i * 3 + j, none⟩ = (wP l i)[j]? := fun j hj => by
      have : w.cell? ⟨g, i * 3 + j, none⟩ = (wPs l)[i * 3 + j]? := by simp [World.cell?, h3]
      rw [this, wPs_get l i j (by omega) hj]
    rw [wP, if_neg (by omega)] at c
    exact ⟨c 0 (by decide), c 1 (by decide), c 2 (by decide)⟩
  rw [← hn0] at hn ⊢
  clear h3 hn0
  have e1 : (n : Int) + 64 ≤ (n : Int) + 64 := by omega
  have e2 : (0 : Int) ≤ (n : Int) + 64 := by omega
  have e3 : ((n : Int) + 64).toNat = n + 64 := by omega
  go_enter Tryz.func37, Tryz.ntmps37
  go_wp2_with fail
  go_loopw [2, 4] (fun s2 s4 wr => ∃ i : Nat, n ≤ i ∧ i ≤ n + 64 ∧ s2 = .bool false ∧ s4 = .int .i64 i ∧ Up w wr) (fun _ s4 _ => n + 64 - (intOf s4).toNat)
  case atStart => exact ⟨n, Nat.le_refl _, by omega, rfl, rfl, Up.refl _⟩
  case round =>
    obtain ⟨i, hi1, hi2, rfl, rfl, u9⟩ := hrel
    have HU : Hid (Up w wr) := u9
    by_cases hlt : i < n + 64
    · have hlt2 : (i : Int) < (n : Int) + 64 := by omega
      obtain ⟨x0, x1, x2⟩ := HC.out i hi1 hlt
      obtain ⟨x0, x1, x2⟩ := (show wr.cell? ⟨g, i * 3, none⟩ = some (.int .i32 (wrap32 (numI i))) ∧ wr.cell? ⟨g, i * 3 + 1, none⟩ = some (.int .i32 0) ∧ wr.cell? ⟨g, i * 3 + 2, none⟩ = some (.bool false) from ⟨u9.cell x0, u9.cell x1, u9.cell x2⟩)
      clear u9
      obtain ⟨y, hy⟩ : ∃ y, y = wrap32 (numI i) := ⟨_, rfl⟩
      rw [← hy] at x0
      have ew : IntKind.i32.wrap (numI i) = y := by rw [hy]; exact wrapEq32 _
      have HNm : Hid _ := num_ i (by omega)
      clear hy
      generalize numI i = z at ew HNm
      go_wp2_with fail
      go_quiet (exact Calls.quiet_of_same (HNm.out _))
      go_wp2
      go_roundw
      case rel =>
        refine ⟨i + 1, by omega, by omega, rfl, by go_num, HU.out.trans ?_⟩
        repeat (first | with_reducible exact Up.refl _ | with_reducible apply Up.alloc | with_reducible apply Up.drewN | with_reducible apply Up.drew | with_reducible refine Up.set ?_ _ _ (by first | exact Nat.le_refl _ | exact Nat.le_succ _ | (simp; omega)))
      case measure => simp [intOf]; omega
    · have hlt2 : ¬ (i : Int) < (n : Int) + 64 := by omega
      clear u9
      go_wp2
      go_ret
      exact ⟨rfl, HU.out⟩
set_option maxRecDepth 100000 in
set_option maxHeartbeats 4000000 in
theorem spareC_ (base : Nat) (v : Value) (l : List Crd) (w : World) (hv : WC base w v l) (hn : l.length ≤ 4294967296) :
    Calls Tryz.prog 38 #[v] w fun e w' => e = .returned (.bool true) ∧ Up w w' := by
  obtain ⟨g, -, rfl, h3⟩ := hv
  obtain ⟨n, hn0⟩ : ∃ n, n = l.length := ⟨_, rfl⟩
  have HC : Hid (∀ i, n ≤ i → i < n + 64 → w.cell? ⟨g, i * 6, none⟩ = some (.int .i64 (numI i)) ∧ w.cell? ⟨g, i * 6 + 1, none⟩ = some (.int .i64 0) ∧ w.cell? ⟨g, i * 6 + 2, none⟩ = some (.int .i32 0) ∧ w.cell? ⟨g, i * 6 + 3, none⟩ = some (.int .i32 0) ∧ w.cell? ⟨g, i * 6 + 4, none⟩ = some (.int .i32 0) ∧ w.cell? ⟨g, i * 6 + 5, none⟩ = some (.int .i32 0)) := fun i h1 h2 => by
    have c : ∀ j, j < 6 → w.cell? ⟨g, i * 6 + j, none⟩ = (wC l i)[j]? := fun j hj => by
      have : w.cell? ⟨g, i * 6 + j, none⟩ = (wCs l)[i * 6 + j]? := by simp [World.cell?, h3]
      rw [this, wCs_get l i j (by omega) hj]
    rw [wC, if_neg (by omega)] at c
    exact ⟨c 0 (by decide), c 1 (by decide), c 2 (by decide), c 3 (by decide), c 4 (by decide), c 5 (by decide)⟩
  rw [← hn0] at hn ⊢
  clear h3 hn0
  have e1 : (n : Int) + 64 ≤ (n : Int) + 64 := by omega
  have e2 : (0 : Int) ≤ (n : Int) + 64 := by omega
  have e3 : ((n : Int) + 64).toNat = n + 64 := by omega
  go_enter Tryz.func38, Tryz.ntmps38
  go_wp2_with fail
  go_loopw [2, 4] (fun s2 s4 wr => ∃ i : Nat, n ≤ i ∧ i ≤ n + 64 ∧ s2 = .bool false ∧ s4 = .int .i64 i ∧ Up w wr) (fun _ s4 _ => n + 64 - (intOf s4).toNat)
  case atStart => exact ⟨n, Nat.le_refl _, by omega, rfl, rfl, Up.refl _⟩
  case round =>
    obtain ⟨i, hi1, hi2, rfl, rfl, u9⟩ := hrel
    have HU : Hid (Up w wr) := u9
    by_cases hlt : i < n + 64
    · have hlt2 : (i : Int) < (n : Int) + 64 := by omega
      obtain ⟨x0, x1, x2, x3, x4, x5⟩ := HC.out i hi1 hlt
      obtain ⟨x0, x1, x2, x3, x4, x5⟩ := (show wr.cell? ⟨g, i * 6, none⟩ = some (.int .i64 (numI i)) ∧ wr.cell? ⟨g, i * 6 + 1, none⟩ = some (.int .i64 0) ∧ wr.cell? ⟨g, i * 6 + 2, none⟩ = some (.int .i32 0) ∧ wr.cell? ⟨g, i * 6 + 3, none⟩ = some (.int .i32 0) ∧ wr.cell? ⟨g, i * 6 + 4, none⟩ = some (.int .i32 0) ∧ wr.cell? ⟨g, i * 6 + 5, none⟩ = some (.int .i32 0) from ⟨u9.cell x0, u9.cell x1, u9.cell x2, u9.cell x3, u9.cell x4, u9.cell x5⟩)
      clear u9
      have HNm : Hid _ := num_ i (by omega)
      generalize numI i = z at x0 HNm
      go_wp2_with fail
      go_quiet (exact Calls.quiet_of_same (HNm.out _))
      go_wp2
      go_roundw
      case rel =>
        refine ⟨i + 1, by omega, by omega, rfl, by go_num, HU.out.trans ?_⟩
        repeat (first | with_reducible exact Up.refl _ | with_reducible apply Up.alloc | with_reducible apply Up.drewN | with_reducible apply Up.drew | with_reducible refine Up.set ?_ _ _ (by first | exact Nat.le_refl _ | exact Nat.le_succ _ | (simp; omega)))
      case measure => simp [intOf]; omega
    · have hlt2 : ¬ (i : Int) < (n : Int) + 64 := by omega
      clear u9
      go_wp2
      go_ret
      exact ⟨rfl, HU.out⟩
set_option maxRecDepth 100000 in
set_option maxHeartbeats 4000000 in
theorem spareRows_ (base : Nat) (v : Value) (zs : List (List Int)) (w : World) (hv : WZ base w v zs) (hn : zs.length ≤ 4294967296) (hl : ∀ r, r < zs.length → (zs.getD r []).length ≤ 4294967296) :
    Calls Tryz.prog 39 #[v] w fun e w' => e = .returned (.bool true) ∧ Up w w' := by
  obtain ⟨g, vs, -, rfl, h3, h4, h5⟩ := hv
  obtain ⟨n, hn0⟩ : ∃ n, n = zs.length := ⟨_, rfl⟩
  have hcc : ∀ i, i < zs.length + 64 → w.cell? ⟨g, i, none⟩ = some (vs.getD i nl) := fun i hi => by
    have : w.cell? ⟨g, i, none⟩ = vs[i]? := by simp [World.cell?, h3]
    rw [this, List.getD_eq_getElem?_getD, List.getElem?_eq_getElem (by omega)]
    rfl
  have HC : Hid (∀ i, n ≤ i → i < n + 64 → ∃ gx, ∀ W, Up w W → W.cell? ⟨g, i, none⟩ = some (.slice (some ⟨gx, 0, none⟩) 1 1) ∧ W.cell? ⟨gx, 0, none⟩ = some (.int .i64 (numI i))) := fun i h1 h2 => by
    have h6 := h5 i (by omega)
    rw [WRow, if_neg (by omega)] at h6
    obtain ⟨gx, -, h7, h8⟩ := h6
    have h9 := hcc i (by omega)
    rw [h7] at h9
    exact ⟨gx, fun W u => ⟨u.cell h9, u.cell (by simp [World.cell?, h8])⟩⟩
  have HR : Hid (∀ i, i < n → ∃ x, (∃ a b c, x = .slice a b c) ∧ ∀ W, Up w W → W.cell? ⟨g, i, none⟩ = some x ∧ Calls Tryz.prog 80 #[x] W fun e w' => e = .returned (.bool true) ∧ w' = W) := fun i h1 => by
    have h6 := h5 i (by omega)
    rw [WRow, if_pos (by omega)] at h6
    obtain ⟨g9, -, e9, -⟩ := id h6
    exact ⟨_, ⟨_, _, _, e9⟩, fun W u => ⟨u.cell (hcc i (by omega)), spareInts_ base _ _ W (h6.up u) (hl i (by omega))⟩⟩
  rw [← hn0] at hn ⊢
  clear h3 h4 h5 hcc hl hn0
  have e1 : (n : Int) + 64 ≤ (n : Int) + 64 := by omega
  have e2 : (0 : Int) ≤ (n : Int) + 64 := by omega
  have e3 : ((n : Int) + 64).toNat = n + 64 := by omega
  go_enter Tryz.func39, Tryz.ntmps39
  go_wp2_with fail
  go_loopw [2, 4] (fun s2 s4 wr => ∃ i : Nat, n ≤ i ∧ i ≤ n + 64 ∧ s2 = .bool false ∧ s4 = .int .i64 i ∧ Up w wr) (fun _ s4 _ => n + 64 - (intOf s4).toNat)
  case atStart => exact ⟨n, Nat.le_refl _, by omega, rfl, rfl, Up.refl _⟩
  case round =>
    obtain ⟨i, hi1, hi2, rfl, rfl, u9⟩ := hrel
    have HU : Hid (Up w wr) := u9
    by_cases hlt : i < n + 64
    · have hlt2 : (i : Int) < (n : Int) + 64 := by omega
      obtain ⟨gx, hgx⟩ := HC.out i hi1 hlt
      obtain ⟨x0, x1⟩ := hgx wr u9
      have HNm : Hid _ := num_ i (by omega)
      clear u9 hgx
      generalize numI i = z at x1 HNm
      go_wp2_with fail
      go_quiet (exact Calls.quiet_of_same (HNm.out _))
      go_wp2
      go_roundw
      case rel => exact ⟨i + 1, by omega, by omega, rfl, by go_num, HU.out.drewN _⟩
      case measure => simp [intOf]; omega
    · have hlt2 : ¬ (i : Int) < (n : Int) + 64 := by omega
      clear u9
      go_wp2_with fail
      go_loopw [2, 6] (fun s2 s6 W => ∃ i : Nat, i ≤ n ∧ s2 = .bool false ∧ s6 = .int .i64 i ∧ Up w W) (fun _ s6 _ => n - (intOf s6).toNat)
      case atStart => exact ⟨0, Nat.zero_le _, rfl, rfl, HU.out⟩
      case round =>
        obtain ⟨i, hi, rfl, rfl, u9⟩ := hrel
        clear HU
        have HU : Hid (Up w wr) := u9
        by_cases hlt5 : i < n
        · have hlt6 : (i : Int) < (n : Int) := by omega
          obtain ⟨x, ⟨xa, xb, xc, rfl⟩, hx⟩ := HR.out i hlt5
          obtain ⟨x0, hcall⟩ := hx wr u9
          have HCa : Hid _ := hcall
          clear u9 hx hcall
          go_wp2_with fail
          refine Calls.mono HCa.out ?_
          rintro e w2 ⟨rfl, rfl⟩
          go_wp2
          go_roundw
          case rel => exact ⟨i + 1, by omega, rfl, by go_num, HU.out⟩
          case measure => simp [intOf]; omega
        · have hlt6 : ¬ (i : Int) < (n : Int) := by omega
          clear u9
          go_wp2
          go_ret
          exact ⟨rfl, HU.out⟩
set_option maxHeartbeats 2000000 in
theorem spareState_ (base : Nat) (v : Value) (s : Stt) (w : World) (hv : WS base w v s) (hsm : Small s) :
    Calls Tryz.prog 13 #[v] w fun e w' => e = .returned (.bool true) ∧ Up w w' := by
  obtain ⟨vp, vc, vz, rfl, h1, h2, h3⟩ := hv
  have HP : Hid (∀ W, Up w W → _) := fun W u => spareP_ base vp s.ps W (h1.up u) hsm.1
  have HC : Hid (∀ W, Up w W → _) := fun W u => spareC_ base vc s.cs W (h2.up u) hsm.2.1
  have HZ : Hid (∀ W, Up w W → _) := fun W u => spareRows_ base vz s.zs W (h3.up u) hsm.2.2.1 hsm.2.2.2
  obtain ⟨a1, k1, rfl⟩ := WP.val h1
  obtain ⟨a2, k2, rfl⟩ := WC.val h2
  obtain ⟨a3, k3, rfl⟩ := WZ.val h3
  clear h1 h2 h3
  unfold sv
  obtain ⟨W0, hW0⟩ : ∃ W, W = w.alloc (.cells #[.slice a1 s.ps.length k1, .slice a2 s.cs.length k2, .slice a3 s.zs.length k3, .int .i32 s.turn, .int .i64 s.whose, .int .i8 s.fin, .int .i64 s.winner] 27) := ⟨_, rfl⟩
  have HW0 : Hid (Up w W0 ∧ W0.heap[w.heap.size]? = some (.cells #[.slice a1 s.ps.length k1, .slice a2 s.cs.length k2, .slice a3 s.zs.length k3, .int .i32 s.turn, .int .i64 s.whose, .int .i8 s.fin, .int .i64 s.winner] 27 (0, 0))) := ⟨by rw [hW0]; exact (Up.refl _).alloc _, by rw [hW0]; exact heap_alloc_new w _⟩
  go_enter Tryz.func13, Tryz.ntmps13
  go_wp2_with fail
  rw [← hW0]
  clear hW0
  refine Calls.mono (HP.out _ HW0.out.1) ?_
  rintro e w1 ⟨rfl, u1⟩
  obtain ⟨y0, y1, y2, -, -, -, -⟩ := seven_cells (u1.heap HW0.out.2)
  have HU1 : Hid (Up W0 w1) := u1
  clear u1
  go_wp2_with fail
  refine Calls.mono (HC.out _ (HW0.out.1.trans HU1.out)) ?_
  rintro e w2 ⟨rfl, u2⟩
  have HU2 : Hid (Up W0 w2) := HU1.out.trans u2
  clear u2 y0 y1 y2
  obtain ⟨y0, y1, y2, -, -, -, -⟩ := seven_cells (HU2.out.heap HW0.out.2)
  go_wp2_with fail
  refine Calls.mono (HZ.out _ (HW0.out.1.trans HU2.out)) ?_
  rintro e w3 ⟨rfl, u3⟩
  have HU3 : Hid (Up w w3) := (HW0.out.1.trans HU2.out).trans u3
  clear u3
  go_wp2
  go_ret
  exact ⟨rfl, HU3.out⟩
end ST
end Go.Proofs.YtpmdlpjedapbbaaGreatDoor
/-
  Words for what a call leaves alone, for the bag's texts.
-/
namespace Go.Proofs.YtpmdlpjedapbbaaGreatDoor.BG
open Go.RowKit

theorem ret_int {k : IntKind} {a b : Int} (h : a = b) : Ending.returned (.int k a) = .returned (.int k b) := by rw [h]
def Up (w w' : World) : Prop := Below w.heap.size w w'
theorem Up.refl (w : World) : Up w w := Below.refl _ _
theorem Up.trans {a b c : World} (h : Up a b) (k : Up b c) : Up a c := Below.trans h (Below.mono k h.size)
theorem Up.alloc {a w : World} (h : Up a w) (o : Obj) : Up a (w.alloc o) := Below.alloc h h.size o
theorem Up.drew {a w : World} (h : Up a w) : Up a w.drew := Below.drew h
theorem Up.drewN {a w : World} (h : Up a w) (n : Nat) : Up a (w.drewN n) := ⟨h.os, h.tape, h.output, h.size, h.block⟩
theorem Up.cell {w w' : World} (h : Up w w') {p : Addr} {v : Value} (hc : w.cell? p = some v) : w'.cell? p = some v := by
  rw [Below.cell h (World.block_lt_of_cell? w p hc)]; exact hc
theorem Up.heap {w w' : World} (h : Up w w') {g : Nat} {o : Obj} (hg : w.heap[g]? = some o) : w'.heap[g]? = some o := by
  rw [h.block g (Array.getElem?_eq_some_iff.1 hg).1]; exact hg
/- at most block b and new ones -/
theorem row_up {w w' : World} {b e s n : Nat} {v : Value} {xs : List Value} (h : w.ownsRow b e s v n xs) (u : Up w w') : w'.ownsRow b e s v n xs := by
  refine ⟨h.1, ?_⟩
  rcases h.2 with h | ⟨g, cap, cur, e1, e2, e3, e4⟩
  · exact .inl h
  · exact .inr ⟨g, cap, cur, e1, e2, u.heap e3, e4⟩
theorem row_some {w : World} {b e s n : Nat} {v : Value} {xs : List Value} (h : w.ownsRow b e s v n xs) (hn : 0 < n) : ∃ g cap, b ≤ g ∧ n ≤ cap ∧ v = .slice (some ⟨g, 0, none⟩) n cap := by
  rcases h.2 with ⟨rfl, h0⟩ | ⟨g, cap, cur, rfl, hb, _, hc, _⟩
  · omega
  · exact ⟨g, cap, hb, hc, rfl⟩
theorem row_val {w : World} {base e s n : Nat} {v : Value} {xs : List Value} (h : w.ownsRow base e s v n xs) : ∃ ad cap, v = .slice ad n cap := by
  rcases h.2 with ⟨rfl, hn⟩ | ⟨g, cap, cur, rfl, _⟩
  · exact ⟨none, 0, by rw [hn]⟩
  · exact ⟨_, cap, rfl⟩
/- a flag that was set and set back: nothing has turned -/
theorem flat_len {E : Type} (f : E → List Value) (s : Nat) (hf : ∀ e, (f e).length = s) (l : List E) : (l.flatMap f).length = l.length * s := by
  induction l with
  | nil => simp
  | cons x l ih => rw [List.flatMap_cons, List.length_append, ih, hf, List.length_cons, Nat.succ_mul]; omega
theorem flat_get {E : Type} (f : E → List Value) (s : Nat) (hf : ∀ e, (f e).length = s) (d : E) (l : List E) : ∀ i j, i < l.length → j < s → (l.flatMap f)[i * s + j]? = (f (l.getD i d))[j]? := by
  induction l with
  | nil => intro i j h; simp at h
  | cons x l ih =>
    intro i j hi hj
    rw [List.flatMap_cons]
    cases i with
    | zero => rw [Nat.zero_mul, Nat.zero_add, List.getElem?_append_left (by rw [hf]; exact hj)]; rfl
    | succ i =>
      rw [List.getElem?_append_right (by rw [hf, Nat.succ_mul]; omega), hf, show (i + 1) * s + j - s = i * s + j by rw [Nat.succ_mul]; omega, ih i j (by simpa using hi) hj]
      rfl
theorem seven_f {W : World} {a : Nat} {cs : Array Value} {t : TypeId} (h : W.heap[a]? = some (.cells cs t (0, 0))) : ∀ j, W.frozen? ⟨a, j, none⟩ = false := fun j => by simp [World.frozen?, h]
theorem set_cells {W : World} {a j : Nat} {cs : Array Value} {t : TypeId} {x : Value} (h : W.heap[a]? = some (.cells cs t (0, 0))) : (W.setCell ⟨a, j, none⟩ x).heap[a]? = some (.cells (cs.setIfInBounds j x) t (0, 0)) := by
  simp only [World.setCell, Array.getElem?_modify]; rw [h]; simp
end Go.Proofs.YtpmdlpjedapbbaaGreatDoor.BG
