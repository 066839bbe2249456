/-
  How a game begins.
-/
import Derived.Test.YtndkpfkgcaebmaaDoorCsToNf
import Derived.Deep.RegionWith
import Derived.Test.YtndkpfkgcaebmaaDoorProg
import Derived.WalkSpells
import Derived.WalkLawsBesides
import Derived.Handy
import Derived.Below
import Derived.OwnWalk
import Derived.Deep.QuietTactic
import Derived.BigQuiet
import Derived.BigRegion
import Derived.WalkSmall
import Derived.Laws.AppendOwnNone
import Derived.Deep.MidRow
import Derived.Deep.RegionHeld3
import Derived.Deep.DrawnRows
namespace Go.Proofs.YtndkpfkgcaebmaaDoor
open Go.RowKit
attribute [local go_sem ↓] Go.wp_at_zero Go.wp_at_succ

namespace ST
def stZ : Array Value := #[.slice none 0 0, .slice none 0 0, .slice none 0 0, .int .i32 0, .int .i64 0, .int .i8 0, .int .i64 0]
theorem noS_own (base : Nat) (W : World) : SO base W (.agg stZ) noS := ⟨.slice none 0 0, .slice none 0 0, .slice none 0 0, rfl, World.ownsRow_nil _ _ _ _, World.ownsRow_nil _ _ _ _, [], World.ownsRow_nil _ _ _ _, fun i hi => by simp [noS] at hi⟩
def newR (ds : List (List Crd)) (li en : Int) : Stt := if newB ds li en then newS ds li en else noS
def newE (ds : List (List Crd)) (li en : Int) : Int := if newB ds li en then 0 else 1
def NPost (w : World) (s : Stt) (k : Int) (e : Ending) (w' : World) : Prop := ∃ v', e = .returned (.tuple #[v', .int .i64 k]) ∧ SO w.heap.size w' v' s ∧ Up w w'
theorem heap_ne {W : World} {a b t1 t2 : Nat} {c1 c2 : Array Value} (h1 : W.heap[a]? = some (.cells c1 t1 (0, 0))) (h2 : W.heap[b]? = some (.cells c2 t2 (0, 0))) (ht : t1 ≠ t2) : a ≠ b := by
  rintro rfl
  rw [h1] at h2
  cases h2
  exact ht rfl
/- the new state as far as it is made -/
def NW (w W : World) (B b6 gs gp gz n : Nat) (li en : Int) (vc : Value) (cards : List Crd) (p : Nat) (zs : List (List Int)) : Prop :=
  W.heap[gs]? = some (.cells #[.slice (some ⟨gp, 0, none⟩) n n, vc, .slice (some ⟨gz, 0, none⟩) (4 * n) (4 * n), .int .i32 1, .int .i64 0, .int .i8 0, .int .i64 0] 27 (0, 0)) ∧
  (∃ pl : List Value, W.heap[gp]? = some (.cells pl.toArray 71 (0, 0)) ∧ pl.length = n * 3 ∧ ∀ q, q < p * 3 → pl[q]? = (pvs (List.replicate n ⟨li, en, false⟩))[q]?) ∧
  (∃ zl : List Value, W.heap[gz]? = some (.cells zl.toArray 74 (0, 0)) ∧ zl.length = 4 * n ∧ ∀ q, q < 4 * n → IRow B W (zl.getD q nl) (zs.getD q [])) ∧
  CO B W vc cards ∧ W.heap[b6]? = some (.cells stZ 27 (0, 0)) ∧ Up w W ∧ B ≤ W.heap.size
def Fix (w : World) (B b6 gs gp gz : Nat) : Prop := b6 = w.heap.size ∧ b6 < gs ∧ b6 < gp ∧ b6 < gz ∧ gs < B ∧ gp < B ∧ gz < B
theorem NW.up {w W W' : World} {B b6 gs gp gz n : Nat} {li en : Int} {vc : Value} {cards : List Crd} {p : Nat} {zs : List (List Int)} (h : NW w W B b6 gs gp gz n li en vc cards p zs) (u : Up W W') : NW w W' B b6 gs gp gz n li en vc cards p zs := by
  obtain ⟨h1, ⟨pl, h2, h3⟩, ⟨zl, h4, h5, h6⟩, h7, h8, h9, h10⟩ := h
  exact ⟨u.heap h1, ⟨pl, u.heap h2, h3⟩, ⟨zl, u.heap h4, h5, fun q hq => row_up (h6 q hq) u⟩, row_up h7 u, u.heap h8, h9.trans u, Nat.le_trans h10 u.size⟩
/- a player's three cells -/
theorem NW.ply {w W : World} {B b6 gs gp gz n : Nat} {li en : Int} {vc : Value} {cards : List Crd} {p : Nat} {zs : List (List Int)} (hf : Fix w B b6 gs gp gz) (h : NW w W B b6 gs gp gz n li en vc cards p zs) (hp : p < n) :
    NW w (((W.setCell ⟨gp, p * 3, none⟩ (.int .i32 li)).setCell ⟨gp, p * 3 + 1, none⟩ (.int .i32 en)).setCell ⟨gp, p * 3 + 2, none⟩ (.bool false)) B b6 gs gp gz n li en vc cards (p + 1) zs := by
  obtain ⟨h1, ⟨pl, h2, h3, h3'⟩, ⟨zl, h4, h5, h6⟩, h7, h8, h9, h10⟩ := h
  obtain ⟨f1, f2, f3, f4, f5, f6, f7⟩ := hf
  have n1 : gs ≠ gp := heap_ne h1 h2 (by decide)
  have n2 : gz ≠ gp := heap_ne h4 h2 (by decide)
  have n3 : b6 ≠ gp := by omega
  have hs : w.heap.size ≤ gp := by omega
  refine ⟨set_other (set_other (set_other h1 n1) n1) n1, ⟨((pl.set (p * 3) (.int .i32 li)).set (p * 3 + 1) (.int .i32 en)).set (p * 3 + 2) (.bool false), ?_, by simpa using h3, fun q hq => ?_⟩, ⟨zl, set_other (set_other (set_other h4 n2) n2) n2, h5, fun q hq => row_set (row_set (row_set (h6 q hq) f6) f6) f6⟩, row_set (row_set (row_set h7 f6) f6) f6, set_other (set_other (set_other h8 n3) n3) n3, Up.set (Up.set (Up.set h9 _ _ hs) _ _ hs) _ _ hs, by simpa using h10⟩
  · have e1 := set_cells (j := p * 3) (x := .int .i32 li) h2
    have e2 := set_cells (j := p * 3 + 1) (x := .int .i32 en) e1
    have e3 := set_cells (j := p * 3 + 2) (x := .bool false) e2
    simpa using e3
  · have g : ∀ j, j < 3 → (pvs (List.replicate n ⟨li, en, false⟩))[p * 3 + j]? = (pv ⟨li, en, false⟩)[j]? := fun j hj => by
      rw [pvs_get _ p j (by simpa using hp) hj]
      congr 2
      simp [List.getD_eq_getElem?_getD, hp]
    by_cases q2 : q = p * 3 + 2
    · subst q2; rw [List.getElem?_set_self (by simp; omega), g 2 (by decide)]; rfl
    · rw [List.getElem?_set_ne (by omega)]
      by_cases q1 : q = p * 3 + 1
      · subst q1; rw [List.getElem?_set_self (by simp; omega), g 1 (by decide)]; rfl
      · rw [List.getElem?_set_ne (by omega)]
        by_cases q0 : q = p * 3
        · subst q0; rw [List.getElem?_set_self (by omega)]; exact (g 0 (by decide)).symm
        · rw [List.getElem?_set_ne (by omega)]; exact h3' q (by omega)
/- a zone -/
theorem NW.zone {w W : World} {B b6 gs gp gz n : Nat} {li en : Int} {vc x : Value} {cards : List Crd} {p : Nat} {zs zs' : List (List Int)} (hf : Fix w B b6 gs gp gz) (h : NW w W B b6 gs gp gz n li en vc cards p zs) (k : Nat) (hk : k < 4 * n) (hx : IRow B W x (zs'.getD k [])) (hz : ∀ q, q ≠ k → zs'.getD q [] = zs.getD q []) :
    NW w (W.setCell ⟨gz, k, none⟩ x) B b6 gs gp gz n li en vc cards p zs' := by
  obtain ⟨h1, ⟨pl, h2, h3⟩, ⟨zl, h4, h5, h6⟩, h7, h8, h9, h10⟩ := h
  obtain ⟨f1, f2, f3, f4, f5, f6, f7⟩ := hf
  have n1 : gs ≠ gz := heap_ne h1 h4 (by decide)
  have n2 : gp ≠ gz := heap_ne h2 h4 (by decide)
  refine ⟨set_other h1 n1, ⟨pl, set_other h2 n2, h3⟩, ⟨zl.set k x, ?_, by simpa using h5, fun q hq => ?_⟩, row_set h7 f7, set_other h8 (by omega), Up.set h9 _ _ (by show w.heap.size ≤ gz; omega), by simpa using h10⟩
  · have := set_cells (j := k) (x := x) h4
    simpa using this
  · by_cases e : q = k
    · subst e
      rw [List.getD_eq_getElem?_getD, List.getElem?_set_self (by omega)]
      exact row_set hx f7
    · rw [List.getD_eq_getElem?_getD, List.getElem?_set_ne (fun h => e h.symm), ← List.getD_eq_getElem?_getD, hz q e]
      exact row_set (h6 q hq) f7
/- a card more -/
theorem NW.card {w W W2 : World} {B b6 gs gp gz n : Nat} {li en : Int} {vc vc' : Value} {cards cards' : List Crd} {p : Nat} {zs : List (List Int)} (hf : Fix w B b6 gs gp gz) (h : NW w W B b6 gs gp gz n li en vc cards p zs) (hg : W.grownBy W2 vc.ownBlock) (hc : CO B W2 vc' cards') :
    NW w (W2.setCell ⟨gs, 1, none⟩ vc') B b6 gs gp gz n li en vc' cards' p zs := by
  obtain ⟨h1, ⟨pl, h2, h3⟩, ⟨zl, h4, h5, h6⟩, h7, h8, h9, h10⟩ := h
  obtain ⟨f1, f2, f3, f4, f5, f6, f7⟩ := hf
  have keep : ∀ g o, g < B → W.heap[g]? = some o → W2.heap[g]? = some o := fun g o hgB hgo => by
    rw [hg.block g (Array.getElem?_eq_some_iff.1 hgo).1 (fun e => by have := h7.lt g e.symm; omega)]
    exact hgo
  have n1 : gp ≠ gs := heap_ne h2 h1 (by decide)
  have n2 : gz ≠ gs := heap_ne h4 h1 (by decide)
  refine ⟨set_cells (keep _ _ f5 h1), ⟨pl, set_other (keep _ _ f6 h2) n1, h3⟩, ⟨zl, set_other (keep _ _ f7 h4) n2, h5, fun q hq => row_set (World.ownsRow.kept (h6 q hq) hg (row_apart (h6 q hq) h7 (by decide))) f5⟩, row_set hc f5, set_other (keep _ _ (by omega) h8) (by omega), Up.set (Below.grown h9 hg (by omega) (fun k hk => by have := h7.lt k hk; omega)) _ _ (by show w.heap.size ≤ gs; omega), ?_⟩
  have := hg.size
  simp; omega
def Start (w : World) (n : Nat) (li en : Int) (gs gp gz : Nat) (W : World) : Prop := ∃ B, Fix w B w.heap.size gs gp gz ∧ NW w W B w.heap.size gs gp gz n li en nl [] 0 []
theorem three_blocks (w : World) (c0 c1 c2 : Array Value) (t0 t1 t2 : Nat) :
    ((((w.alloc (.cells c0 t0)).alloc (.cells c1 t1)).alloc (.cells c2 t2)).drew.heap[w.heap.size]? = some (.cells c0 t0 (0, 0))) ∧
    ((((w.alloc (.cells c0 t0)).alloc (.cells c1 t1)).alloc (.cells c2 t2)).drew.heap[w.heap.size + 1]? = some (.cells c1 t1 (0, 0))) ∧
    ((((w.alloc (.cells c0 t0)).alloc (.cells c1 t1)).alloc (.cells c2 t2)).drew.heap[w.heap.size + 1 + 1]? = some (.cells c2 t2 (0, 0))) := by
  have d : (((w.alloc (.cells c0 t0)).alloc (.cells c1 t1)).alloc (.cells c2 t2)).drew.heap = (((w.alloc (.cells c0 t0)).alloc (.cells c1 t1)).alloc (.cells c2 t2)).heap := rfl
  rw [d]
  refine ⟨?_, ?_, ?_⟩
  · rw [Below.heap_alloc _ _ _ (by simp; omega), Below.heap_alloc _ _ _ (by simp)]; exact heap_alloc_new w _
  · rw [Below.heap_alloc _ _ _ (by simp)]
    have := heap_alloc_new (w.alloc (.cells c0 t0)) (.cells c1 t1)
    simpa using this
  · have := heap_alloc_new ((w.alloc (.cells c0 t0)).alloc (.cells c1 t1)) (.cells c2 t2)
    simpa using this
theorem start_of {w W : World} {n : Nat} {li en : Int} {gs gp gz B : Nat} {MP MZ : List Value} (hM : MP.length = n * 3 ∧ MZ = List.replicate (4 * n) (.slice none 0 0)) (f : Fix w B w.heap.size gs gp gz) (hB : B ≤ W.heap.size) (u : Up w W) (h6 : W.heap[w.heap.size]? = some (.cells stZ 27 (0, 0)))
    (hs : W.heap[gs]? = some (.cells #[.slice (some ⟨gp, 0, none⟩) n n, .slice none 0 0, .slice (some ⟨gz, 0, none⟩) (4 * n) (4 * n), .int .i32 1, .int .i64 0, .int .i8 0, .int .i64 0] 27 (0, 0)))
    (hp : W.heap[gp]? = some (.cells MP.toArray 71 (0, 0))) (hz : W.heap[gz]? = some (.cells MZ.toArray 74 (0, 0))) : Start w n li en gs gp gz W := by
  refine ⟨B, f, hs, ⟨MP, hp, hM.1, fun q hq => by omega⟩, ⟨MZ, hz, by rw [hM.2]; simp, fun q hq => ?_⟩, World.ownsRow_nil _ _ _ _, h6, u, hB⟩
  have : MZ.getD q nl = .slice none 0 0 := by rw [hM.2, List.getD_eq_getElem?_getD]; simp [hq]
  rw [this]
  exact World.ownsRow_nil _ _ _ _
theorem NW.done {w W : World} {B b6 gs gp gz n : Nat} {li en : Int} {vc : Value} {cards : List Crd} {zs : List (List Int)} (hf : Fix w B b6 gs gp gz) (h : NW w W B b6 gs gp gz n li en vc cards n zs) (hz : zs.length = 4 * n) (hn : n ≤ 4) :
    SO (b6 + 1) W (.agg #[.slice (some ⟨gp, 0, none⟩) n n, vc, .slice (some ⟨gz, 0, none⟩) (4 * n) (4 * n), .int .i32 1, .int .i64 0, .int .i8 0, .int .i64 0]) ⟨List.replicate n ⟨li, en, false⟩, cards, zs, 1, 0, 0, 0⟩ := by
  obtain ⟨h1, ⟨pl, h2, h3, h3'⟩, ⟨zl, h4, h5, h6⟩, h7, h8, h9, h10⟩ := h
  obtain ⟨f1, f2, f3, f4, f5, f6, f7⟩ := hf
  have hpl : pl = pvs (List.replicate n ⟨li, en, false⟩) := by
    apply List.ext_getElem?
    intro q
    by_cases hq : q < n * 3
    · exact h3' q hq
    · rw [List.getElem?_eq_none (by omega), List.getElem?_eq_none (by rw [pvs_len, List.length_replicate]; omega)]
  refine ⟨_, _, _, rfl, ?_, own_less h7 (by omega), zl, ?_, fun i hi => own_less (h6 i (by simp only at hi; omega)) (by omega)⟩
  · subst hpl
    refine ⟨by rw [pvs_len], .inr ⟨gp, n, _, by simp, by omega, h2, by simp, by unfold maxLen; omega, by simp [pvs_len], ?_⟩⟩
    simp
    exact List.take_of_length_le (by rw [pvs_len, List.length_replicate]; exact Nat.le_refl _)
  · refine ⟨by rw [h5, hz, Nat.mul_one], .inr ⟨gz, 4 * n, zl.toArray, by rw [hz], by omega, h4, by rw [hz]; exact Nat.le_refl _, by unfold maxLen; omega, by simp [h5], ?_⟩⟩
    simp
    exact List.take_of_length_le (by rw [h5, hz]; exact Nat.le_refl _)
end ST
end Go.Proofs.YtndkpfkgcaebmaaDoor
/-
  WideRows, WideState.
-/
namespace Go.Proofs.YtndkpfkgcaebmaaDoor
open Go.RowKit
attribute [local go_sem ↓] Go.wp_at_zero Go.wp_at_succ

namespace ST
theorem WI.less {b b' : Nat} {W : World} {v : Value} {l : List Int} (h : WI b W v l) (hb : b' ≤ b) : WI b' W v l := by
  obtain ⟨g, h1, h2⟩ := h
  exact ⟨g, by omega, h2⟩
def WRs (base : Nat) (w W : World) (g n : Nat) (zs : List (List Int)) (i : Nat) (cs : List Value) : Prop := W.heap[g]? = some (.cells cs.toArray 74 (0, 0)) ∧ cs.length = n + 64 ∧ (∀ q, q < i → WRow base W (cs.getD q nl) zs q) ∧ Up w W
theorem WRs.put {base : Nat} {w W W1 : World} {g n : Nat} {zs : List (List Int)} {i : Nat} {cs : List Value} {x : Value} (h : WRs base w W g n zs i cs) (u : Up W W1) (hi : i < n + 64) (hx : WRow base W1 x zs i) (hg : w.heap.size ≤ g) : WRs base w (W1.setCell ⟨g, i, none⟩ x) g n zs (i + 1) (cs.set i x) := by
  obtain ⟨h1, h2, h3, h4⟩ := h
  have k1 := u.heap h1
  have kp : ∀ g' cs', base ≤ g' → W1.heap[g']? = some (.cells cs' 3 (0, 0)) → (W1.setCell ⟨g, i, none⟩ x).heap[g']? = some (.cells cs' 3 (0, 0)) := fun g' cs' _ h' => set_other h' (heap_ne h' k1 (by decide))
  refine ⟨?_, by simpa using h2, fun q hq => ?_, Up.set (h4.trans u) _ _ hg⟩
  · have := set_cells (j := i) (x := x) k1
    simpa using this
  · by_cases e : q = i
    · subst e
      rw [List.getD_eq_getElem?_getD, List.getElem?_set_self (by omega)]
      exact hx.keep kp
    · rw [List.getD_eq_getElem?_getD, List.getElem?_set_ne (fun h => e h.symm), ← List.getD_eq_getElem?_getD]
      exact ((h3 q (by omega)).keep (fun g' cs' _ h' => u.heap h')).keep kp
set_option maxRecDepth 100000 in
set_option maxHeartbeats 4000000 in
theorem wideRows_ (v : Value) (zs : List (List Int)) (w : World) (hv : ZL w v zs) (hn : zs.length ≤ 4294967296) (hl : ∀ r, r < zs.length → (zs.getD r []).length ≤ 4294967296) :
    Calls Tryd.prog 24 #[v] w (CpPost w fun W v' => WZ w.heap.size W v' zs) := by
  obtain ⟨iT, hiT, z0, z1, z2⟩ := info_parts infoR
  obtain ⟨Post, hPost⟩ : ∃ P : Ending → World → Prop, P = CpPost w fun W v' => WZ w.heap.size W v' zs := ⟨_, rfl⟩
  rw [← hPost]
  have HP : Hid (Post = CpPost w fun W v' => WZ w.heap.size W v' zs) := hPost
  obtain ⟨a1, k1, rfl, -, h1⟩ := zl_at hv
  obtain ⟨n, hn0⟩ : ∃ n, n = zs.length := ⟨_, rfl⟩
  have HN : Hid (n = zs.length) := hn0
  rw [← hn0] at hn h1 hl ⊢
  have H1 : Hid _ := h1
  have HL : Hid _ := hl
  obtain ⟨g, hg⟩ : ∃ g, g = w.heap.size := ⟨_, rfl⟩
  have HG : Hid (g = w.heap.size) := hg
  clear hPost hv h1 hn0 hl
  go_enter Tryd.func24, Tryd.ntmps24
  go_wp2_with (at_make; refine wpList_make_full _ rfl _ _ 24 rfl w.heap.size 74 iT _ 1 Tryd.underlying24 hiT z0 z1 .i64 .i64 _ _ (n + 64) rfl rfl rfl rfl (by rw [z2]; omega) (by unfold maxLen; omega) (Nat.le_refl _) ?_; intro w1 hin hg1)
  have HI : Hid (∃ cs, WRs g w w1 g n zs 0 cs) := ⟨_, by rw [hg]; exact row_made hin, by have := hin.1; omega, fun q hq => by omega, made_up hg1⟩
  rw [← hg]
  clear hin hg1 hg
  go_wp2_with fail
  go_loopw [4] (fun s4 W => ∃ (i : Nat) (cs : List Value), i ≤ n + 64 ∧ s4 = .int .i64 i ∧ WRs g w W g n zs i cs) (fun s4 _ => n + 64 - (intOf s4).toNat)
  case atStart => obtain ⟨cs, h⟩ := HI.out; exact ⟨0, cs, Nat.zero_le _, rfl, h⟩
  case round =>
    obtain ⟨i, cs, hi, rfl, hw⟩ := hrel
    clear HI
    have HW : Hid (WRs g w wr g n zs i cs) := hw
    have hgw : w.heap.size ≤ g := by rw [HG.out]; exact Nat.le_refl _
    have hgs : g ≤ wr.heap.size := by have := (Array.getElem?_eq_some_iff.1 hw.1).1; omega
    by_cases hlt : i < n + 64
    · have hlt2 : (i : Int) < (n : Int) + 64 := by omega
      have HCe : Hid (∀ W, Up wr W → (∃ z, W.cell? ⟨g, i, none⟩ = some z) ∧ W.frozen? ⟨g, i, none⟩ = false) := fun W u => by
        have h1 := u.heap hw.1
        have h2 := hw.2.1
        exact ⟨⟨cs[i]'(by omega), by simp [World.cell?, h1]⟩, seven_f h1 i⟩
      by_cases hin : i < n
      · have hin2 : (i : Int) < (n : Int) := by omega
        obtain ⟨b1, o1, rfl, c1⟩ := H1.out (by omega)
        obtain ⟨ra, rc, hcell, hil⟩ := c1 i hin
        have x1 := hcell wr hw.2.2.2
        have HK : Hid _ := wideInts_ _ (zs.getD i []) wr (hil.up hw.2.2.2) (HL.out i hin)
        clear c1 hcell hil hw
        go_wp2_with fail
        refine Calls.mono HK.out ?_
        rintro e w2 ⟨x, rfl, hx, u2⟩
        have HX : Hid (WI g w2 x (zs.getD i [])) := hx.less hgs
        have HU2 : Hid (Up wr w2) := u2
        obtain ⟨xg, -, hxv, -⟩ := id hx
        obtain ⟨⟨zc, zcell⟩, zf⟩ := HCe.out w2 u2
        have HF : Hid (WRs g w (w2.setCell ⟨g, i, none⟩ x) g n zs (i + 1) (cs.set i x)) := WRs.put HW.out u2 hlt (by rw [WRow, if_pos (by rw [← HN.out]; exact hin)]; exact HX.out) hgw
        clear hx u2 HK HX
        subst hxv
        go_wp2
        go_roundw
        case rel => exact ⟨i + 1, _, by omega, by go_num, HF.out⟩
        case measure => simp [intOf]; omega
      · have hin2 : ¬ (i : Int) < (n : Int) := by omega
        clear hw
        go_wp2_with fail
        refine Calls.mono (num_ i (by omega) _) ?_
        rintro e w2 ⟨rfl, rfl⟩
        have HF : Hid (WRs g w ((w2.alloc (.cells #[.int .i64 (numI i)] 3)).setCell ⟨g, i, none⟩ (.slice (some ⟨w2.heap.size, 0, none⟩) 1 1)) g n zs (i + 1) (cs.set i (.slice (some ⟨w2.heap.size, 0, none⟩) 1 1))) := WRs.put HW.out ((Up.refl _).alloc _) hlt (by rw [WRow, if_neg (by rw [← HN.out]; exact hin)]; exact ⟨w2.heap.size, hgs, rfl, heap_alloc_new w2 _⟩) hgw
        have zc : ∀ o, (w2.alloc o).frozen? ⟨g, i, none⟩ = false := fun o => (HCe.out _ ((Up.refl _).alloc o)).2
        obtain ⟨⟨z9, z8⟩, -⟩ := HCe.out w2 (Up.refl _)
        have zd : ∀ o, (w2.alloc o).cell? ⟨g, i, none⟩ = some z9 := fun o => ((Up.refl w2).alloc o).cell z8
        generalize numI i = z at HF ⊢
        go_wp2
        go_roundw
        case rel => exact ⟨i + 1, _, by omega, by go_num, HF.out⟩
        case measure => simp [intOf]; omega
    · have hlt2 : ¬ (i : Int) < (n : Int) + 64 := by omega
      have hn64 : (n : Int) ≤ (n : Int) + 64 := by omega
      clear hw
      go_wp2
      rw [HP.out]
      have hnn := HN.out
      exact ⟨_, rfl, ⟨g, cs, hgw, by rw [← HN.out], HW.out.1, by rw [← hnn]; exact HW.out.2.1, fun j hj => by rw [← HG.out]; exact HW.out.2.2.1 j (by omega)⟩, HW.out.2.2.2⟩
end ST
end Go.Proofs.YtndkpfkgcaebmaaDoor
/-
  WideState.
-/
namespace Go.Proofs.YtndkpfkgcaebmaaDoor
open Go.RowKit
attribute [local go_sem ↓] Go.wp_at_zero Go.wp_at_succ

namespace ST
theorem WP.less {b b' : Nat} {W : World} {v : Value} {l : List Ply} (h : WP b W v l) (hb : b' ≤ b) : WP b' W v l := by
  obtain ⟨g, h1, h2⟩ := h
  exact ⟨g, by omega, h2⟩
theorem WP.val {b : Nat} {W : World} {v : Value} {l : List Ply} (h : WP b W v l) : ∃ a c, v = .slice a l.length c := by
  obtain ⟨g, h1, h2, -⟩ := h
  exact ⟨_, _, h2⟩
theorem WP.set {b k j : Nat} {W : World} {v u : Value} {l : List Ply} (h : WP b W v l) (hk : k < b) : WP b (W.setCell ⟨k, j, none⟩ u) v l := by
  obtain ⟨g, h1, h2, h3⟩ := h
  exact ⟨g, h1, h2, set_other h3 (by omega)⟩
theorem WC.less {b b' : Nat} {W : World} {v : Value} {l : List Crd} (h : WC b W v l) (hb : b' ≤ b) : WC b' W v l := by
  obtain ⟨g, h1, h2⟩ := h
  exact ⟨g, by omega, h2⟩
theorem WC.val {b : Nat} {W : World} {v : Value} {l : List Crd} (h : WC b W v l) : ∃ a c, v = .slice a l.length c := by
  obtain ⟨g, h1, h2, -⟩ := h
  exact ⟨_, _, h2⟩
theorem WC.set {b k j : Nat} {W : World} {v u : Value} {l : List Crd} (h : WC b W v l) (hk : k < b) : WC b (W.setCell ⟨k, j, none⟩ u) v l := by
  obtain ⟨g, h1, h2, h3⟩ := h
  exact ⟨g, h1, h2, set_other h3 (by omega)⟩
theorem WRow.less {b b' : Nat} {W : World} {x : Value} {zs : List (List Int)} {i : Nat} (h : WRow b W x zs i) (hb : b' ≤ b) : WRow b' W x zs i := by
  unfold WRow at h ⊢
  split
  · rename_i hi
    rw [if_pos hi] at h
    exact h.less hb
  · rename_i hi
    rw [if_neg hi] at h
    obtain ⟨g, h1, h2⟩ := h
    exact ⟨g, by omega, h2⟩
theorem WZ.less {b b' : Nat} {W : World} {v : Value} {l : List (List Int)} (h : WZ b W v l) (hb : b' ≤ b) : WZ b' W v l := by
  obtain ⟨g, vs, h1, h2, h3, h4, h5⟩ := h
  exact ⟨g, vs, by omega, h2, h3, h4, fun i hi => (h5 i hi).less hb⟩
theorem WZ.val {b : Nat} {W : World} {v : Value} {l : List (List Int)} (h : WZ b W v l) : ∃ a c, v = .slice a l.length c := by
  obtain ⟨g, vs, h1, h2, -⟩ := h
  exact ⟨_, _, h2⟩
theorem WZ.set {b k j : Nat} {W : World} {v u : Value} {l : List (List Int)} (h : WZ b W v l) (hk : k < b) : WZ b (W.setCell ⟨k, j, none⟩ u) v l := by
  obtain ⟨g, vs, h1, h2, h3, h4, h5⟩ := h
  exact ⟨g, vs, h1, h2, set_other h3 (by omega), h4, fun i hi => (h5 i hi).keep (fun g' cs' hb h' => set_other h' (by omega))⟩
theorem WS.set {b k j : Nat} {W : World} {v u : Value} {s : Stt} (h : WS b W v s) (hk : k < b) : WS b (W.setCell ⟨k, j, none⟩ u) v s := by
  obtain ⟨vp, vc, vz, hv, h1, h2, h3⟩ := h
  exact ⟨vp, vc, vz, hv, h1.set hk, h2.set hk, h3.set hk⟩
theorem WS.less {b b' : Nat} {W : World} {v : Value} {s : Stt} (h : WS b W v s) (hb : b' ≤ b) : WS b' W v s := by
  obtain ⟨vp, vc, vz, hv, h1, h2, h3⟩ := h
  exact ⟨vp, vc, vz, hv, h1.less hb, h2.less hb, h3.less hb⟩
set_option maxRecDepth 100000 in
set_option maxHeartbeats 4000000 in
theorem wideState_ (v : Value) (s : Stt) (w : World) (hs : StL w v s) (hsm : Small s) :
    Calls Tryd.prog 6 #[v] w (CpPost w fun W v' => WS w.heap.size W v' s) := by
  obtain ⟨Post, hPost⟩ : ∃ P : Ending → World → Prop, P = CpPost w fun W v' => WS w.heap.size W v' s := ⟨_, rfl⟩
  rw [← hPost]
  have HP : Hid (Post = CpPost w fun W v' => WS w.heap.size W v' s) := hPost
  obtain ⟨vp, vc, vz, rfl, h1, h2, h3⟩ := hs
  have H1 : Hid _ := h1
  have H2 : Hid _ := h2
  have H3 : Hid _ := h3
  obtain ⟨a1, k1, rfl, -, -⟩ := lc_at h1
  obtain ⟨a2, k2, rfl, -, -⟩ := lc_at h2
  obtain ⟨a3, k3, rfl, -, -⟩ := zl_at h3
  have HM : Hid (Small s) := hsm
  clear hPost h1 h2 h3 hsm
  have HSV : Hid (∀ x y z, sv x y z s = .agg #[x, y, z, .int .i32 s.turn, .int .i64 s.whose, .int .i8 s.fin, .int .i64 s.winner]) := fun _ _ _ => rfl
  unfold sv
  generalize s.turn = tu at HSV ⊢
  generalize s.whose = wo at HSV ⊢
  generalize s.fin = fi at HSV ⊢
  generalize s.winner = wi at HSV ⊢
  go_enter Tryd.func6, Tryd.ntmps6
  go_wp2_with fail
  obtain ⟨W1, hW1⟩ : ∃ W, W = (w.alloc (.cells #[.slice a1 s.ps.length k1, .slice a2 s.cs.length k2, .slice a3 s.zs.length k3, .int .i32 tu, .int .i64 wo, .int .i8 fi, .int .i64 wi] 27)).alloc (.cells #[.slice none 0 0, .slice none 0 0, .slice none 0 0, .int .i32 0, .int .i64 0, .int .i8 0, .int .i64 0] 27) := ⟨_, rfl⟩
  rw [← hW1]
  obtain ⟨b0, hb0⟩ : ∃ b, b = w.heap.size := ⟨_, rfl⟩
  rw [← hb0]
  obtain ⟨g0, g1, gs, gu⟩ := two_blocks w #[.slice a1 s.ps.length k1, .slice a2 s.cs.length k2, .slice a3 s.zs.length k3, .int .i32 tu, .int .i64 wo, .int .i8 fi, .int .i64 wi] #[.slice none 0 0, .slice none 0 0, .slice none 0 0, .int .i32 0, .int .i64 0, .int .i8 0, .int .i64 0] 27
  rw [← hW1] at g0 g1 gs gu
  rw [← hb0] at g0 g1 gs
  have HB : Hid (b0 = w.heap.size) := hb0
  clear hW1 hb0
  refine Calls.mono (wideP_ _ s.ps W1 (PLs.up H1.out gu) HM.out.1) ?_
  rintro e w1 ⟨x1, rfl, d1, u1⟩
  have HG : Hid (w1.heap[b0]? = _ ∧ w1.heap[b0 + 1]? = _ ∧ b0 + 2 ≤ w1.heap.size ∧ Up w w1 ∧ WP (b0 + 2) w1 x1 s.ps) := ⟨u1.heap g0, u1.heap g1, by have := u1.size; omega, gu.trans u1, by rw [gs] at d1; exact d1⟩
  obtain ⟨xa, xc, hx1⟩ := WP.val d1
  subst hx1
  clear d1 u1 g0 g1 gs gu
  obtain ⟨y0, y1, y2, y3, y4, y5, y6⟩ := seven_cells HG.out.1
  have yf := seven_f HG.out.1
  have HG2 : Hid ((w1.setCell ⟨b0, 0, none⟩ (.slice xa s.ps.length xc)).heap[b0]? = some (.cells #[.slice xa s.ps.length xc, .slice a2 s.cs.length k2, .slice a3 s.zs.length k3, .int .i32 tu, .int .i64 wo, .int .i8 fi, .int .i64 wi] 27 (0, 0)) ∧ (w1.setCell ⟨b0, 0, none⟩ (.slice xa s.ps.length xc)).heap[b0 + 1]? = some (.cells #[.slice none 0 0, .slice none 0 0, .slice none 0 0, .int .i32 0, .int .i64 0, .int .i8 0, .int .i64 0] 27 (0, 0)) ∧ b0 + 2 ≤ (w1.setCell ⟨b0, 0, none⟩ (.slice xa s.ps.length xc)).heap.size ∧ Up w (w1.setCell ⟨b0, 0, none⟩ (.slice xa s.ps.length xc)) ∧ WP (b0 + 2) (w1.setCell ⟨b0, 0, none⟩ (.slice xa s.ps.length xc)) (.slice xa s.ps.length xc) s.ps) :=
    ⟨set_cells HG.out.1, set_other HG.out.2.1 (by omega), by simpa using HG.out.2.2.1, Up.set HG.out.2.2.2.1 _ _ (by rw [← HB.out]; exact Nat.le_refl _), (HG.out.2.2.2.2).set (by omega)⟩
  clear HG
  go_wp2_with fail
  obtain ⟨W3, hW3⟩ : ∃ W, W = w1.setCell ⟨b0, 0, none⟩ (.slice xa s.ps.length xc) := ⟨_, rfl⟩
  rw [← hW3] at HG2 ⊢
  clear hW3
  refine Calls.mono (wideC_ _ s.cs W3 (CLs.up H2.out HG2.out.2.2.2.1) HM.out.2.1) ?_
  rintro e w4 ⟨x2, rfl, d2, u2⟩
  have HG : Hid (w4.heap[b0]? = _ ∧ w4.heap[b0 + 1]? = _ ∧ b0 + 2 ≤ w4.heap.size ∧ Up w w4 ∧ WP (b0 + 2) w4 (.slice xa s.ps.length xc) s.ps ∧ WC (b0 + 2) w4 x2 s.cs) := ⟨u2.heap HG2.out.1, u2.heap HG2.out.2.1, by have := u2.size; have := HG2.out.2.2.1; omega, HG2.out.2.2.2.1.trans u2, (HG2.out.2.2.2.2).up u2, d2.less HG2.out.2.2.1⟩
  obtain ⟨xa2, xc2, hx2⟩ := WC.val d2
  subst hx2
  clear d2 u2 HG2 y0 y1 y2 y3 y4 y5 y6 yf
  obtain ⟨y0, y1, y2, y3, y4, y5, y6⟩ := seven_cells HG.out.1
  have yf := seven_f HG.out.1
  have HG2 : Hid ((w4.setCell ⟨b0, 1, none⟩ (.slice xa2 s.cs.length xc2)).heap[b0]? = some (.cells #[.slice xa s.ps.length xc, .slice xa2 s.cs.length xc2, .slice a3 s.zs.length k3, .int .i32 tu, .int .i64 wo, .int .i8 fi, .int .i64 wi] 27 (0, 0)) ∧ (w4.setCell ⟨b0, 1, none⟩ (.slice xa2 s.cs.length xc2)).heap[b0 + 1]? = some (.cells #[.slice none 0 0, .slice none 0 0, .slice none 0 0, .int .i32 0, .int .i64 0, .int .i8 0, .int .i64 0] 27 (0, 0)) ∧ b0 + 2 ≤ (w4.setCell ⟨b0, 1, none⟩ (.slice xa2 s.cs.length xc2)).heap.size ∧ Up w (w4.setCell ⟨b0, 1, none⟩ (.slice xa2 s.cs.length xc2)) ∧ WP (b0 + 2) (w4.setCell ⟨b0, 1, none⟩ (.slice xa2 s.cs.length xc2)) (.slice xa s.ps.length xc) s.ps ∧ WC (b0 + 2) (w4.setCell ⟨b0, 1, none⟩ (.slice xa2 s.cs.length xc2)) (.slice xa2 s.cs.length xc2) s.cs) :=
    ⟨set_cells HG.out.1, set_other HG.out.2.1 (by omega), by simpa using HG.out.2.2.1, Up.set HG.out.2.2.2.1 _ _ (by rw [← HB.out]; exact Nat.le_refl _), (HG.out.2.2.2.2.1).set (by omega), (HG.out.2.2.2.2.2).set (by omega)⟩
  clear HG
  go_wp2_with fail
  obtain ⟨W5, hW5⟩ : ∃ W, W = w4.setCell ⟨b0, 1, none⟩ (.slice xa2 s.cs.length xc2) := ⟨_, rfl⟩
  rw [← hW5] at HG2 ⊢
  clear hW5
  refine Calls.mono (wideRows_ _ s.zs W5 (ZL.up H3.out HG2.out.2.2.2.1) HM.out.2.2.1 HM.out.2.2.2) ?_
  rintro e w6 ⟨x3, rfl, d3, u3⟩
  have HG : Hid (w6.heap[b0]? = _ ∧ w6.heap[b0 + 1]? = _ ∧ b0 + 2 ≤ w6.heap.size ∧ Up w w6 ∧ WP (b0 + 2) w6 (.slice xa s.ps.length xc) s.ps ∧ WC (b0 + 2) w6 (.slice xa2 s.cs.length xc2) s.cs ∧ WZ (b0 + 2) w6 x3 s.zs) := ⟨u3.heap HG2.out.1, u3.heap HG2.out.2.1, by have := u3.size; have := HG2.out.2.2.1; omega, HG2.out.2.2.2.1.trans u3, (HG2.out.2.2.2.2.1).up u3, (HG2.out.2.2.2.2.2).up u3, d3.less HG2.out.2.2.1⟩
  obtain ⟨xa3, xc3, hx3⟩ : ∃ p q, x3 = .slice p s.zs.length q := by
    exact WZ.val d3
  subst hx3
  clear d3 u3 HG2 y0 y1 y2 y3 y4 y5 y6 yf
  obtain ⟨y0, y1, y2, y3, y4, y5, y6⟩ := seven_cells HG.out.1
  have yf := seven_f HG.out.1
  have HG2 : Hid ((w6.setCell ⟨b0, 2, none⟩ (.slice xa3 s.zs.length xc3)).heap[b0]? = some (.cells #[.slice xa s.ps.length xc, .slice xa2 s.cs.length xc2, .slice xa3 s.zs.length xc3, .int .i32 tu, .int .i64 wo, .int .i8 fi, .int .i64 wi] 27 (0, 0)) ∧ (w6.setCell ⟨b0, 2, none⟩ (.slice xa3 s.zs.length xc3)).heap[b0 + 1]? = some (.cells #[.slice none 0 0, .slice none 0 0, .slice none 0 0, .int .i32 0, .int .i64 0, .int .i8 0, .int .i64 0] 27 (0, 0)) ∧ Up w (w6.setCell ⟨b0, 2, none⟩ (.slice xa3 s.zs.length xc3)) ∧ WS (b0 + 2) (w6.setCell ⟨b0, 2, none⟩ (.slice xa3 s.zs.length xc3)) (.agg #[.slice xa s.ps.length xc, .slice xa2 s.cs.length xc2, .slice xa3 s.zs.length xc3, .int .i32 tu, .int .i64 wo, .int .i8 fi, .int .i64 wi]) s) :=
    ⟨set_cells HG.out.1, set_other HG.out.2.1 (by omega), Up.set HG.out.2.2.2.1 _ _ (by rw [← HB.out]; exact Nat.le_refl _), _, _, _, (HSV.out _ _ _).symm, (HG.out.2.2.2.2.1).set (by omega), (HG.out.2.2.2.2.2.1).set (by omega), HG.out.2.2.2.2.2.2.set (by omega)⟩
  clear HG
  obtain ⟨W7, hW7⟩ : ∃ W, W = w6.setCell ⟨b0, 2, none⟩ (.slice xa3 s.zs.length xc3) := ⟨_, rfl⟩
  rw [← hW7] at HG2
  have HW7 : Hid (W7 = _) := hW7
  obtain ⟨q0, q1, q2, q3, q4, q5, q6⟩ := seven_cells HG2.out.1
  obtain ⟨r0, r1, r2, r3, r4, r5, r6⟩ := seven_cells HG2.out.2.1
  have rf := seven_f HG2.out.2.1
  rw [hW7] at q0 q1 q2 q3 q4 q5 q6 r0 r1 r2 r3 r4 r5 r6 rf
  clear hW7
  go_wp2_with fail
  rw [← HW7.out]
  obtain ⟨p0, p1, p2, p3, p4, p5, p6⟩ := seven_cells (seven_set (x0 := .slice xa s.ps.length xc) (x1 := .slice xa2 s.cs.length xc2) (x2 := .slice xa3 s.zs.length xc3) (x3 := .int .i32 tu) (x4 := .int .i64 wo) (x5 := .int .i8 fi) (x6 := .int .i64 wi) HG2.out.2.1)
  have hs1 : b0 + 1 < b0 + 2 := by omega
  have hb1 : w.heap.size ≤ b0 + 1 := by rw [← HB.out]; omega
  refine bodyPost_ret (v := .agg #[.slice xa s.ps.length xc, .slice xa2 s.cs.length xc2, .slice xa3 s.zs.length xc3, .int .i32 tu, .int .i64 wo, .int .i8 fi, .int .i64 wi]) (by simp [results, Tryd.results6, go_sem, p0, p1, p2, p3, p4, p5, p6]) rfl ?_
  rw [HP.out]
  refine ⟨_, rfl, ?_, ?_⟩
  · exact ((((((((HG2.out.2.2.2.set hs1).set hs1).set hs1).set hs1).set hs1).set hs1).set hs1)).less (by rw [HB.out]; omega)
  · exact ((((((((HG2.out.2.2.1.set _ _ hb1).set _ _ hb1).set _ _ hb1).set _ _ hb1).set _ _ hb1).set _ _ hb1).set _ _ hb1))
end ST
end Go.Proofs.YtndkpfkgcaebmaaDoor
/-
  States of whose lists each lies in a block of its own.
-/
namespace Go.Proofs.YtndkpfkgcaebmaaDoor
open Go.RowKit
namespace ST

def RA (n : Nat) (vs : List Value) : Prop := ∀ p q g, p < n → q < n → p ≠ q → (vs.getD p nl).ownBlock = some g → (vs.getD q nl).ownBlock ≠ some g
theorem RA.nil (vs : List Value) : RA 0 vs := fun p _ _ hp => absurd hp (Nat.not_lt_zero p)
/- one more: its block is none of those before -/
theorem RA.put {i : Nat} {vs : List Value} {x : Value} (h : RA i vs) (hi : i < vs.length) (hx : ∀ p g, p < i → (vs.getD p nl).ownBlock = some g → x.ownBlock ≠ some g) : RA (i + 1) (vs.set i x) := by
  have e1 : (vs.set i x).getD i nl = x := by rw [List.getD_eq_getElem?_getD, List.getElem?_set_self hi]; rfl
  have e2 : ∀ p, p ≠ i → (vs.set i x).getD p nl = vs.getD p nl := fun p hp => by rw [List.getD_eq_getElem?_getD, List.getElem?_set_ne (fun h => hp h.symm), ← List.getD_eq_getElem?_getD]
  intro p q g hp hq hpq h1 h2
  by_cases ep : p = i
  · subst ep
    rw [e1] at h1
    rw [e2 q (fun h => hpq h.symm)] at h2
    exact hx q g (by omega) h2 h1
  · rw [e2 p ep] at h1
    by_cases eq : q = i
    · subst eq
      rw [e1] at h2
      exact hx p g (by omega) h1 h2
    · rw [e2 q eq] at h2
      exact h p q g (by omega) (by omega) hpq h1 h2
def SOA (base : Nat) (W : World) (v : Value) (s : Stt) : Prop := ∃ vp vc vz, v = sv vp vc vz s ∧ PO base W vp s.ps ∧ CO base W vc s.cs ∧ ∃ vs, W.ownsRow base 74 1 vz s.zs.length vs ∧ (∀ i, i < s.zs.length → IRow base W (vs.getD i nl) (s.zs.getD i [])) ∧ RA s.zs.length vs
theorem SOA.so {base : Nat} {W : World} {v : Value} {s : Stt} (h : SOA base W v s) : SO base W v s := by
  obtain ⟨vp, vc, vz, hv, h1, h2, vs, h3, h4, -⟩ := h
  exact ⟨vp, vc, vz, hv, h1, h2, vs, h3, h4⟩
theorem SOA.up {base : Nat} {W W' : World} {v : Value} {s : Stt} (h : SOA base W v s) (u : Up W W') : SOA base W' v s := by
  obtain ⟨vp, vc, vz, hv, h1, h2, vs, h3, h4, h5⟩ := h
  exact ⟨vp, vc, vz, hv, row_up h1 u, row_up h2 u, vs, row_up h3 u, fun i hi => row_up (h4 i hi) u, h5⟩
def WZA (base : Nat) (W : World) (v : Value) (zs : List (List Int)) : Prop := ∃ g vs, base ≤ g ∧ v = .slice (some ⟨g, 0, none⟩) zs.length (zs.length + 64) ∧ W.heap[g]? = some (.cells (vs : List Value).toArray 74 (0, 0)) ∧ vs.length = zs.length + 64 ∧ (∀ i, i < zs.length + 64 → WRow base W (vs.getD i nl) zs i) ∧ RA zs.length vs
theorem WZA.wz {base : Nat} {W : World} {v : Value} {zs : List (List Int)} (h : WZA base W v zs) : WZ base W v zs := by
  obtain ⟨g, vs, h1, h2, h3, h4, h5, -⟩ := h
  exact ⟨g, vs, h1, h2, h3, h4, h5⟩
theorem WZA.up {base : Nat} {W W' : World} {v : Value} {zs : List (List Int)} (h : WZA base W v zs) (u : Up W W') : WZA base W' v zs := by
  obtain ⟨g, vs, h1, h2, h3, h4, h5, h6⟩ := h
  exact ⟨g, vs, h1, h2, u.heap h3, h4, fun i hi => (h5 i hi).keep (fun _ _ _ hg => u.heap hg), h6⟩
theorem WZA.less {b b' : Nat} {W : World} {v : Value} {l : List (List Int)} (h : WZA b W v l) (hb : b' ≤ b) : WZA b' W v l := by
  obtain ⟨g, vs, h1, h2, h3, h4, h5, h6⟩ := h
  exact ⟨g, vs, Nat.le_trans hb h1, h2, h3, h4, fun i hi => (h5 i hi).less hb, h6⟩
theorem WZA.set {b k j : Nat} {W : World} {v u : Value} {l : List (List Int)} (h : WZA b W v l) (hk : k < b) : WZA b (W.setCell ⟨k, j, none⟩ u) v l := by
  obtain ⟨g, vs, h1, h2, h3, h4, h5, h6⟩ := h
  exact ⟨g, vs, h1, h2, set_other h3 (by omega), h4, fun i hi => (h5 i hi).keep (fun g' cs' hb h' => set_other h' (by omega)), h6⟩
def WSA (base : Nat) (W : World) (v : Value) (s : Stt) : Prop := ∃ vp vc vz, v = sv vp vc vz s ∧ WP base W vp s.ps ∧ WC base W vc s.cs ∧ WZA base W vz s.zs
theorem WSA.ws {base : Nat} {W : World} {v : Value} {s : Stt} (h : WSA base W v s) : WS base W v s := by
  obtain ⟨vp, vc, vz, hv, h1, h2, h3⟩ := h
  exact ⟨vp, vc, vz, hv, h1, h2, h3.wz⟩
theorem WSA.up {base : Nat} {W W' : World} {v : Value} {s : Stt} (h : WSA base W v s) (u : Up W W') : WSA base W' v s := by
  obtain ⟨vp, vc, vz, hv, h1, h2, h3⟩ := h
  exact ⟨vp, vc, vz, hv, h1.up u, h2.up u, h3.up u⟩
theorem WSA.set {b k j : Nat} {W : World} {v u : Value} {s : Stt} (h : WSA b W v s) (hk : k < b) : WSA b (W.setCell ⟨k, j, none⟩ u) v s := by
  obtain ⟨vp, vc, vz, hv, h1, h2, h3⟩ := h
  exact ⟨vp, vc, vz, hv, h1.set hk, h2.set hk, h3.set hk⟩
theorem WSA.less {b b' : Nat} {W : World} {v : Value} {s : Stt} (h : WSA b W v s) (hb : b' ≤ b) : WSA b' W v s := by
  obtain ⟨vp, vc, vz, hv, h1, h2, h3⟩ := h
  exact ⟨vp, vc, vz, hv, h1.less hb, h2.less hb, h3.less hb⟩
end ST
end Go.Proofs.YtndkpfkgcaebmaaDoor
/-
  Words for what a call leaves alone, for the bag's texts.
-/
namespace Go.Proofs.YtndkpfkgcaebmaaDoor.BG
open Go.RowKit

theorem ret_int {k : IntKind} {a b : Int} (h : a = b) : Ending.returned (.int k a) = .returned (.int k b) := by rw [h]
def Up (w w' : World) : Prop := Below w.heap.size w w'
theorem Up.refl (w : World) : Up w w := Below.refl _ _
theorem Up.trans {a b c : World} (h : Up a b) (k : Up b c) : Up a c := Below.trans h (Below.mono k h.size)
theorem Up.alloc {a w : World} (h : Up a w) (o : Obj) : Up a (w.alloc o) := Below.alloc h h.size o
theorem Up.drew {a w : World} (h : Up a w) : Up a w.drew := Below.drew h
theorem Up.drewN {a w : World} (h : Up a w) (n : Nat) : Up a (w.drewN n) := ⟨h.os, h.tape, h.output, h.size, h.block⟩
theorem Up.cell {w w' : World} (h : Up w w') {p : Addr} {v : Value} (hc : w.cell? p = some v) : w'.cell? p = some v := by
  rw [Below.cell h (World.block_lt_of_cell? w p hc)]; exact hc
theorem Up.heap {w w' : World} (h : Up w w') {g : Nat} {o : Obj} (hg : w.heap[g]? = some o) : w'.heap[g]? = some o := by
  rw [h.block g (Array.getElem?_eq_some_iff.1 hg).1]; exact hg
/- at most block b and new ones -/
theorem row_up {w w' : World} {b e s n : Nat} {v : Value} {xs : List Value} (h : w.ownsRow b e s v n xs) (u : Up w w') : w'.ownsRow b e s v n xs := by
  refine ⟨h.1, ?_⟩
  rcases h.2 with h | ⟨g, cap, cur, e1, e2, e3, e4⟩
  · exact .inl h
  · exact .inr ⟨g, cap, cur, e1, e2, u.heap e3, e4⟩
theorem row_some {w : World} {b e s n : Nat} {v : Value} {xs : List Value} (h : w.ownsRow b e s v n xs) (hn : 0 < n) : ∃ g cap, b ≤ g ∧ n ≤ cap ∧ v = .slice (some ⟨g, 0, none⟩) n cap := by
  rcases h.2 with ⟨rfl, h0⟩ | ⟨g, cap, cur, rfl, hb, _, hc, _⟩
  · omega
  · exact ⟨g, cap, hb, hc, rfl⟩
theorem row_val {w : World} {base e s n : Nat} {v : Value} {xs : List Value} (h : w.ownsRow base e s v n xs) : ∃ ad cap, v = .slice ad n cap := by
  rcases h.2 with ⟨rfl, hn⟩ | ⟨g, cap, cur, rfl, _⟩
  · exact ⟨none, 0, by rw [hn]⟩
  · exact ⟨_, cap, rfl⟩
/- a flag that was set and set back: nothing has turned -/
theorem flat_len {E : Type} (f : E → List Value) (s : Nat) (hf : ∀ e, (f e).length = s) (l : List E) : (l.flatMap f).length = l.length * s := by
  induction l with
  | nil => simp
  | cons x l ih => rw [List.flatMap_cons, List.length_append, ih, hf, List.length_cons, Nat.succ_mul]; omega
theorem flat_get {E : Type} (f : E → List Value) (s : Nat) (hf : ∀ e, (f e).length = s) (d : E) (l : List E) : ∀ i j, i < l.length → j < s → (l.flatMap f)[i * s + j]? = (f (l.getD i d))[j]? := by
  induction l with
  | nil => intro i j h; simp at h
  | cons x l ih =>
    intro i j hi hj
    rw [List.flatMap_cons]
    cases i with
    | zero => rw [Nat.zero_mul, Nat.zero_add, List.getElem?_append_left (by rw [hf]; exact hj)]; rfl
    | succ i =>
      rw [List.getElem?_append_right (by rw [hf, Nat.succ_mul]; omega), hf, show (i + 1) * s + j - s = i * s + j by rw [Nat.succ_mul]; omega, ih i j (by simpa using hi) hj]
      rfl
theorem seven_f {W : World} {a : Nat} {cs : Array Value} {t : TypeId} (h : W.heap[a]? = some (.cells cs t (0, 0))) : ∀ j, W.frozen? ⟨a, j, none⟩ = false := fun j => by simp [World.frozen?, h]
theorem set_cells {W : World} {a j : Nat} {cs : Array Value} {t : TypeId} {x : Value} (h : W.heap[a]? = some (.cells cs t (0, 0))) : (W.setCell ⟨a, j, none⟩ x).heap[a]? = some (.cells (cs.setIfInBounds j x) t (0, 0)) := by
  simp only [World.setCell, Array.getElem?_modify]; rw [h]; simp
end Go.Proofs.YtndkpfkgcaebmaaDoor.BG
/-
  An append of one element to a row of the call's own, elements of whatever size: what stays, and where it lies.
-/
namespace Go.Proofs.YtndkpfkgcaebmaaDoor.BG
open Go.RowKit

/- what an append keeps: every cell but the row's own spare room -/
def KeptS (v : Value) (m : Nat) (w w' : World) : Prop := ∀ (g k : Nat) (x : Value), w.cell? ⟨g, k, none⟩ = some x → (v.ownBlock = some g → k < m) → w'.cell? ⟨g, k, none⟩ = some x
/- where the longer row lies: in its block, or in a new one -/
def LiesNew (v v' : Value) (w : World) : Prop := v'.ownBlock = v.ownBlock ∨ ∃ g, v'.ownBlock = some g ∧ w.heap.size ≤ g
/- the blocks keep their types -/
def TyK (w w' : World) : Prop := ∀ (g : Nat) (cur : Array Value) (t : Nat), w.heap[g]? = some (.cells cur t (0, 0)) → ∃ cur', w'.heap[g]? = some (.cells cur' t (0, 0))
theorem run_append_apart {P : Program} (w : World) (base : Nat) (t ty e : TypeId) (i : TypeInfo) (z : Value) (size bytes : Nat) (ht : P.underlying t = some (.slice e)) (hi : P.info? e = some i) (hz : i.zero = some z)
    (hsize : i.size = size) (hby : i.bytes = bytes) (hzs : z.cells.size = size) (hsz : 0 < size)
    (v : Value) (n : Nat) (xs : List Value) (hown : w.ownsRow base e size v n xs)
    (a : Addr) (c : Nat) (ys : List Value) (hys : ys.length = size) (hnews : ∀ j u, ys[j]? = some u → w.cell? (a.add j) = some u) (hone : ∀ u ∈ ys, u.oneCell' = true)
    (h63 : n + 1 ≤ maxLen) (hbytes : (n + 1) * bytes ≤ 140737488355328) (hbase : base ≤ w.heap.size) :
    ∃ v' w', (Builtin.append_ #[t, t] ty #[v, .slice (some a) 1 c]).run P w = .ok v' w' ∧ w'.ownsRow base e size v' (n + 1) (xs ++ ys) ∧ w.grownBy w' v.ownBlock ∧ KeptS v (n * size) w w' ∧ LiesNew v v' w ∧ TyK w w' := by
  subst hby
  subst hsize
  obtain ⟨v', w', hr, h2, h3, _⟩ := run_append_own (P := P) w base t ty e i z i.size i.bytes ht hi hz rfl rfl hzs hsz v n xs hown a 1 c ys (by rw [hys]; simp) hnews hone h63 hbytes hbase
  refine ⟨v', w', hr, h2, h3, ?_⟩
  rcases hown.2 with ⟨rfl, rfl⟩ | ⟨g', cap, cur, rfl, hbg, hgc, hnc, hcm, hcs, htake⟩
  · obtain ⟨v9, w9, hr9, h9, _, _⟩ := run_append_own (P := P) w w.heap.size t ty e i z i.size i.bytes ht hi hz rfl rfl hzs hsz (.slice none 0 0) 0 [] (World.ownsRow_nil _ _ _ _) a 1 c ys (by rw [hys]; simp) hnews hone h63 hbytes (Nat.le_refl _)
    rw [hr] at hr9
    cases hr9
    refine ⟨fun g k x hx _ => ?_, .inr ?_, fun g cur t hg => ⟨cur, by rw [h3.block g (Array.getElem?_eq_some_iff.1 hg).1 (fun e => by cases e)]; exact hg⟩⟩
    · have hgl : g < w.heap.size := World.block_lt_of_cell? w ⟨g, k, none⟩ hx
      rw [World.cell?_of_block (w := w) (w' := w') (a := ⟨g, k, none⟩) (h3.block g hgl (fun e => by cases e))]
      exact hx
    · rcases h9.2 with ⟨-, h0⟩ | ⟨g, cap, cur, rfl, hb, _⟩
      · omega
      · exact ⟨g, rfl, hb⟩
  · by_cases hroom : n + 1 ≤ cap
    · have hr2 := run_append_room (P := P) w t ty e i ht hi g' n cap cur hgc a 1 c ys (by rw [hys]; simp) hnews hone hroom (by rw [hcs]; exact Nat.le_trans (by rw [hys, Nat.succ_mul]; exact Nat.le_refl _) (Nat.mul_le_mul_right _ hroom))
      rw [hr] at hr2
      cases hr2
      refine ⟨fun g k x hx hlt => ?_, .inl rfl, fun g cur9 t hg => ?_⟩
      rotate_left
      · by_cases hgg : g = g'
        · subst hgg
          rw [hgc] at hg
          cases hg
          exact ⟨_, setRow_heap w g cur _ e _ hgc⟩
        · exact ⟨cur9, by rw [h3.block g (Array.getElem?_eq_some_iff.1 hg).1 (fun e => hgg (by simpa [Value.ownBlock] using e))]; exact hg⟩
      by_cases hg : g = g'
      · subst hg
        have hk := hlt rfl
        have hcell : w.cell? ⟨g, k, none⟩ = cur[k]? := by simp [World.cell?, hgc]
        rw [hcell] at hx
        have hrow := setRow_heap w g cur (cur.toList.take (n * i.size) ++ ys ++ cur.toList.drop (n * i.size + ys.length)).toArray e _ hgc
        simp only [World.cell?, hrow]
        have hkl : k < cur.size := (Array.getElem?_eq_some_iff.1 hx).1
        rw [← hx]
        simp only [List.getElem?_toArray]
        rw [List.append_assoc, List.getElem?_append_left (by simp; omega), List.getElem?_take_of_lt (by omega), Array.getElem?_toList]
        rfl
      · have hgl : g < w.heap.size := World.block_lt_of_cell? w ⟨g, k, none⟩ hx
        rw [World.cell?_of_block (w := w) (a := ⟨g, k, none⟩) (h3.block g hgl (fun e => hg (by simpa [Value.ownBlock] using e)))]
        exact hx
    · have holds : ∀ j u, xs[j]? = some u → w.cell? ((⟨g', 0, none⟩ : Addr).add j) = some u := hown.cells (g := g') rfl
      have hr2 := run_append_grow (P := P) w t ty e i z ht hi hz ⟨g', 0, none⟩ n cap xs hown.1 holds a 1 c ys (by rw [hys]; simp) hnews (by omega) (by simp only [maxLen] at h63; omega) (growslice_fits (by omega) hbytes)
      rw [hr] at hr2
      cases hr2
      refine ⟨fun g k x hx _ => ?_, .inr ⟨_, rfl, Nat.le_refl _⟩, fun g cur9 t hg => ⟨cur9, by rw [Below.heap_alloc w.drew _ g (Array.getElem?_eq_some_iff.1 hg).1]; exact hg⟩⟩
      have hgl : g < w.heap.size := World.block_lt_of_cell? w ⟨g, k, none⟩ hx
      rw [World.cell?_of_block (w := w) (a := ⟨g, k, none⟩) (Below.heap_alloc w.drew _ g hgl)]
      exact hx
theorem wpList_append_apart {P : Program} (w : World) {ops : Array Oper} {rest : List Oper} {o : Oper} {a : Act} {Q : Exit → Act → World → Prop} (hgd : o.guard = none) (s x : Operand) (t : TypeId)
    (ho : o.op = .call { callee := .builtin .append, args := #[s, x], argTypes := #[t, t] })
    (base : Nat) (e : TypeId) (i : TypeInfo) (z : Value) (size bytes : Nat) (ht : P.underlying t = some (.slice e)) (hi : P.info? e = some i) (hz : i.zero = some z)
    (hsize : i.size = size) (hby : i.bytes = bytes) (hzs : z.cells.size = size) (hsz : 0 < size)
    (v : Value) (n : Nat) (xs : List Value) (hs : a.eval s = v) (hown : w.ownsRow base e size v n xs)
    (ad : Addr) (c : Nat) (ys : List Value) (hx : a.eval x = .slice (some ad) 1 c) (hys : ys.length = size) (hnews : ∀ j u, ys[j]? = some u → w.cell? (ad.add j) = some u) (hone : ∀ u ∈ ys, u.oneCell' = true)
    (h63 : n + 1 ≤ maxLen) (hbytes : (n + 1) * bytes ≤ 140737488355328) (hbase : base ≤ w.heap.size)
    (h : ∀ v' w', w'.ownsRow base e size v' (n + 1) (xs ++ ys) → w.grownBy w' v.ownBlock → KeptS v (n * size) w w' → LiesNew v v' w → TyK w w' → wpList P ops Q rest (a.put o.dst v') w') : wpList P ops Q (o :: rest) a w := by
  refine wpList_plain hgd fun _ hK => ?_
  obtain ⟨v', w', hr, h2, h3, h4, h5, h6⟩ := run_append_apart (P := P) w base t o.type e i z size bytes ht hi hz hsize hby hzs hsz v n xs hown ad c ys hys hnews hone h63 hbytes hbase
  unfold Oper.wp execOp
  simp only [ho, resolve, invoke, builtin, Sem.run_bind, Sem.run_pure, Result.andThen_ok, List.map_toArray, List.map_cons, List.map_nil, hs, hx, hr]
  exact hK _ _ (h v' w' h2 h3 h4 h5 h6)
end Go.Proofs.YtndkpfkgcaebmaaDoor.BG
/-
  Lists that lie apart, elements of whatever size: marks, what stays while one list after the other grows.
-/
namespace Go.Proofs.YtndkpfkgcaebmaaDoor.BG
open Go.RowKit

/- all but some blocks stay -/
def Exc (S : Nat → Prop) (w w' : World) : Prop := (w'.os = w.os ∧ w'.tape = w.tape ∧ w'.output = w.output) ∧ w.heap.size ≤ w'.heap.size ∧ ∀ b, b < w.heap.size → ¬ S b → w'.heap[b]? = w.heap[b]?
theorem Exc.refl (S : Nat → Prop) (w : World) : Exc S w w := ⟨⟨rfl, rfl, rfl⟩, Nat.le_refl _, fun _ _ _ => rfl⟩
theorem Exc.up {S : Nat → Prop} {w W W' : World} (h : Exc S w W) (u : Up W W') : Exc S w W' :=
  ⟨⟨u.os.trans h.1.1, u.tape.trans h.1.2.1, u.output.trans h.1.2.2⟩, Nat.le_trans h.2.1 u.size, fun b hb hs => (u.block b (Nat.lt_of_lt_of_le hb h.2.1)).trans (h.2.2 b hb hs)⟩
theorem Exc.set {S : Nat → Prop} {w W : World} (h : Exc S w W) (c j : Nat) (x : Value) (hc : S c ∨ w.heap.size ≤ c) : Exc S w (W.setCell ⟨c, j, none⟩ x) :=
  ⟨h.1, by simpa using h.2.1, fun b hb hs => by
    rw [Below.heap_setCell _ _ _ _ (by
      show b ≠ c
      rintro rfl
      rcases hc with hc | hc
      · exact hs hc
      · omega)]
    exact h.2.2 b hb hs⟩
theorem Exc.grown {S : Nat → Prop} {w W W' : World} {v : Value} (h : Exc S w W) (g : W.grownBy W' v.ownBlock) (hc : ∀ c, v.ownBlock = some c → S c ∨ w.heap.size ≤ c) : Exc S w W' :=
  ⟨⟨g.os.trans h.1.1, g.tape.trans h.1.2.1, g.output.trans h.1.2.2⟩, Nat.le_trans h.2.1 g.size, fun b hb hs => by
    rw [g.block b (Nat.lt_of_lt_of_le hb h.2.1) (fun e => by
      rcases hc b e.symm with hc | hc
      · exact hs hc
      · omega)]
    exact h.2.2 b hb hs⟩
theorem Exc.heap {S : Nat → Prop} {w W : World} (h : Exc S w W) {b : Nat} {o : Obj} (hb : w.heap[b]? = some o) (hs : ¬ S b) : W.heap[b]? = some o := by
  rw [h.2.2 b (Array.getElem?_eq_some_iff.1 hb).1 hs]; exact hb
theorem Exc.mono {S T : Nat → Prop} {w W : World} (h : Exc S w W) (hst : ∀ b, S b → T b) : Exc T w W := ⟨h.1, h.2.1, fun b hb ht => h.2.2 b hb (fun hs => ht (hst b hs))⟩
theorem Exc.below {S : Nat → Prop} {w W : World} (h : Exc S w W) (base : Nat) (hs : ∀ b, S b → base ≤ b) (hb : base ≤ w.heap.size) : Below base w W :=
  ⟨h.1.1, h.1.2.1, h.1.2.2, h.2.1, fun g hg => h.2.2 g (by omega) (fun hS => by have := hs g hS; omega)⟩
def mks (mk : Nat → Nat → List Value) (q n : Nat) : List Value := (List.range n).flatMap (mk q)
section
variable {mk : Nat → Nat → List Value} {s : Nat} (hs : ∀ q i, (mk q i).length = s)
include hs
theorem mks_len (q n : Nat) : (mks mk q n).length = n * s := by rw [mks, flat_len (mk q) s (hs q), List.length_range]
theorem mks_get (q n i j : Nat) (hi : i < n) (hj : j < s) : (mks mk q n)[i * s + j]? = (mk q i)[j]? := by
  have := flat_get (mk q) s (hs q) 0 (List.range n) i j (by simpa using hi) hj
  rw [mks, this]
  simp [List.getD_eq_getElem?_getD, hi]
end
theorem mks_more (mk : Nat → Nat → List Value) (q n : Nat) : mks mk q (n + 1) = mks mk q n ++ mk q n := by simp [mks, List.range_succ]
/- block b holds the marks of the first m elements of list q -/
def MB (mk : Nat → Nat → List Value) (e s : Nat) (W : World) (b q m : Nat) : Prop := (∃ cur, W.heap[b]? = some (.cells cur e (0, 0))) ∧ ∀ i j, i < m → j < s → W.cell? ⟨b, i * s + j, none⟩ = (mk q i)[j]?
theorem MB.block {mk : Nat → Nat → List Value} {e s : Nat} {W W' : World} {b q m : Nat} (h : MB mk e s W b q m) (k : W'.heap[b]? = W.heap[b]?) : MB mk e s W' b q m := by
  obtain ⟨⟨cur, h1⟩, h2⟩ := h
  exact ⟨⟨cur, by rw [k]; exact h1⟩, fun i j hi hj => by rw [World.cell?_of_block (w := W) (w' := W') (a := ⟨b, i * s + j, none⟩) k]; exact h2 i j hi hj⟩
theorem MB.lt {mk : Nat → Nat → List Value} {e s : Nat} {W : World} {b q m : Nat} (h : MB mk e s W b q m) : b < W.heap.size := by
  obtain ⟨⟨cur, h1⟩, -⟩ := h
  exact (Array.getElem?_eq_some_iff.1 h1).1
theorem MB.less {mk : Nat → Nat → List Value} {e s : Nat} {W : World} {b q m m' : Nat} (h : MB mk e s W b q m) (hm : m' ≤ m) : MB mk e s W b q m' := ⟨h.1, fun i j hi hj => h.2 i j (by omega) hj⟩
/- an own row of marks -/
theorem mb_own {mk : Nat → Nat → List Value} {e s base : Nat} (hs : ∀ q i, (mk q i).length = s) {W : World} {v : Value} {n q : Nat} (h : W.ownsRow base e s v n (mks mk q n)) {g : Nat} (hg : v.ownBlock = some g) : MB mk e s W g q n := by
  rcases h.2 with ⟨rfl, -⟩ | ⟨g', cap, cur, rfl, _, h1, _⟩
  · cases hg
  · have : g' = g := by simpa [Value.ownBlock] using hg
    subst this
    refine ⟨⟨cur, h1⟩, fun i j hi hj => ?_⟩
    have hk : i * s + j < n * s := by
      have : (i + 1) * s ≤ n * s := Nat.mul_le_mul_right _ hi
      rw [Nat.succ_mul] at this; omega
    rw [h.cellAt (i * s + j) hk, mks_get hs q n i j hi hj]
theorem own_block {W W' : World} {base e s n : Nat} {v : Value} {xs : List Value} (h : W.ownsRow base e s v n xs) (k : ∀ g, v.ownBlock = some g → W'.heap[g]? = W.heap[g]?) : W'.ownsRow base e s v n xs := by
  refine ⟨h.1, ?_⟩
  rcases h.2 with h | ⟨g, cap, cur, rfl, e2, e3, e4⟩
  · exact .inl h
  · exact .inr ⟨g, cap, cur, rfl, e2, by rw [k g rfl]; exact e3, e4⟩
abbrev VL := List (Value × Nat)
def dv : Value × Nat := (.slice none 0 0, 0)
def Blks (L : VL) (b : Nat) : Prop := ∃ p, p < L.length ∧ (L.getD p dv).1.ownBlock = some b
def Apart (L : VL) : Prop := ∀ p q g, p < L.length → q < L.length → p ≠ q → (L.getD p dv).1.ownBlock = some g → (L.getD q dv).1.ownBlock ≠ some g
/- up to list i all marked, behind it not yet -/
def Rows1 (mk : Nat → Nat → List Value) (base e s : Nat) (W : World) (L : VL) (i : Nat) : Prop := ∀ p, p < L.length → ∃ xs, W.ownsRow base e s (L.getD p dv).1 (L.getD p dv).2 xs ∧ (p < i → xs = mks mk p (L.getD p dv).2)
/- list p, its first i elements marked -/
def Row2 (mk : Nat → Nat → List Value) (base e s : Nat) (W : World) (L : VL) (p i : Nat) : Prop := (∀ q, q < L.length → ∃ xs, W.ownsRow base e s (L.getD q dv).1 (L.getD q dv).2 xs ∧ (q < p → xs = mks mk q (L.getD q dv).2) ∧ (q = p → xs.take (i * s) = mks mk p i))
theorem Rows1.start {mk : Nat → Nat → List Value} {base e s : Nat} {W : World} {L : VL} {p : Nat} (h : Rows1 mk base e s W L p) : Row2 mk base e s W L p 0 := fun q hq => by
  obtain ⟨xs, h1, h2⟩ := h q hq
  exact ⟨xs, h1, h2, fun _ => by rw [Nat.zero_mul]; rfl⟩
theorem Row2.finish {mk : Nat → Nat → List Value} {base e s : Nat} {W : World} {L : VL} {p : Nat} (h : Row2 mk base e s W L p (L.getD p dv).2) : Rows1 mk base e s W L (p + 1) := fun q hq => by
  obtain ⟨xs, h1, h2, h3⟩ := h q hq
  refine ⟨xs, h1, fun hlt => ?_⟩
  by_cases eq : q = p
  · subst eq
    have := h3 rfl
    rw [List.take_of_length_le (by rw [h1.1]; exact Nat.le_refl _)] at this
    exact this
  · exact h2 (by omega)
/- one more element of list p is marked: by whatever writes just its cells -/
theorem Row2.put {mk : Nat → Nat → List Value} {base e s : Nat} (hs : ∀ q i, (mk q i).length = s) {W W' : World} {L : VL} {p i g : Nat} {cur : Array Value} (h : Row2 mk base e s W L p i) (hp : p < L.length) (hi : i < (L.getD p dv).2) (hd : Apart L) (hg : (L.getD p dv).1.ownBlock = some g) (hcur : W.heap[g]? = some (.cells cur e (0, 0))) (hnew : W'.heap[g]? = some (.cells (cur.toList.take (i * s) ++ mk p i ++ cur.toList.drop (i * s + s)).toArray e (0, 0))) (hoth : ∀ b, b ≠ g → W'.heap[b]? = W.heap[b]?) : Row2 mk base e s W' L p (i + 1) := fun q hq => by
  obtain ⟨xs, h1, h2, h3⟩ := h q hq
  by_cases eq : q = p
  · subst eq
    rcases h1.2 with ⟨e0, -⟩ | ⟨g', cap, cur', ev, hb, hh, hnc, hcm, hcs, htk⟩
    · rw [e0] at hg; cases hg
    · rw [ev] at hg
      have hgg : g' = g := by simpa [Value.ownBlock] using hg
      subst hgg
      rw [hcur] at hh
      cases hh
      have hsz : i * s + s ≤ (L.getD q dv).2 * s := by rw [← Nat.succ_mul]; exact Nat.mul_le_mul_right _ hi
      have hcl : (L.getD q dv).2 * s ≤ cap * s := Nat.mul_le_mul_right _ hnc
      have hlen : (cur.toList.take (i * s) ++ mk q i ++ cur.toList.drop (i * s + s)).length = cap * s := by
        simp [hs]; omega
      refine ⟨(cur.toList.take (i * s) ++ mk q i ++ cur.toList.drop (i * s + s)).take ((L.getD q dv).2 * s), ⟨by rw [List.length_take, hlen]; omega, .inr ⟨g', cap, _, ev, hb, hnew, hnc, hcm, by simpa using hlen, by simp⟩⟩, fun hlt => by omega, fun _ => ?_⟩
      rw [List.take_take, Nat.min_eq_left (by rw [Nat.succ_mul]; exact hsz)]
      have h4 := h3 rfl
      rw [← htk, List.take_take, Nat.min_eq_left (by omega)] at h4
      rw [mks_more, ← h4, List.take_append, List.take_of_length_le (by simp [hs]; rw [Nat.succ_mul]; omega)]
      have : (i + 1) * s - (cur.toList.take (i * s) ++ mk q i).length = 0 := by simp [hs]; rw [Nat.succ_mul]; omega
      rw [this, List.take_zero, List.append_nil]
  · refine ⟨xs, own_block h1 (fun b hb => hoth b (fun h => ?_)), h2, fun h => absurd h eq⟩
    subst h
    exact hd p q b hp hq (fun h => eq h.symm) hg hb
end Go.Proofs.YtndkpfkgcaebmaaDoor.BG
