/-
  Lists of lists with marks behind them; a state with marks behind its lists.
-/
import Derived.Test.YtmpamcdobhiipaaGreatDoorSr7ToWp
import Derived.Test.YtmpamcdobhiipaaGreatDoorWhToCt
import Derived.Deep.RegionWith
namespace Go.Proofs.YtmpamcdobhiipaaGreatDoor
open Go.RowKit
attribute [local go_sem ↓] Go.wp_at_zero Go.wp_at_succ

namespace ST
/- the row that lies in cell i: a list with marks behind it; behind the list a mark of its own -/
def WRow (base : Nat) (W : World) (x : Value) (zs : List (List Int)) (i : Nat) : Prop := if i < zs.length then WI base W x (zs.getD i []) else ∃ g, base ≤ g ∧ x = .slice (some ⟨g, 0, none⟩) 1 1 ∧ W.heap[g]? = some (.cells #[.int .i64 (numI i)] 3 (0, 0))
theorem WRow.keep {base : Nat} {W W' : World} {x : Value} {zs : List (List Int)} {i : Nat} (h : WRow base W x zs i) (k : ∀ g cs, base ≤ g → W.heap[g]? = some (.cells cs 3 (0, 0)) → W'.heap[g]? = some (.cells cs 3 (0, 0))) : WRow base W' x zs i := by
  unfold WRow at h ⊢
  split
  · rename_i hi
    rw [if_pos hi] at h
    obtain ⟨g, h1, h2, h3⟩ := h
    exact ⟨g, h1, h2, k g _ h1 h3⟩
  · rename_i hi
    rw [if_neg hi] at h
    obtain ⟨g, h1, h2, h3⟩ := h
    exact ⟨g, h1, h2, k g _ h1 h3⟩
def WZ (base : Nat) (W : World) (v : Value) (zs : List (List Int)) : Prop := ∃ g vs, base ≤ g ∧ v = .slice (some ⟨g, 0, none⟩) zs.length (zs.length + 64) ∧ W.heap[g]? = some (.cells (vs : List Value).toArray 84 (0, 0)) ∧ vs.length = zs.length + 64 ∧ ∀ i, i < zs.length + 64 → WRow base W (vs.getD i nl) zs i
theorem WZ.up {base : Nat} {W W' : World} {v : Value} {zs : List (List Int)} (h : WZ base W v zs) (u : Up W W') : WZ base W' v zs := by
  obtain ⟨g, vs, h1, h2, h3, h4, h5⟩ := h
  exact ⟨g, vs, h1, h2, u.heap h3, h4, fun i hi => (h5 i hi).keep (fun g cs _ hg => u.heap hg)⟩
theorem WZ.zl {base : Nat} {W : World} {v : Value} {zs : List (List Int)} (h : WZ base W v zs) : ZL W v zs := by
  obtain ⟨g, vs, h1, rfl, h3, h4, h5⟩ := h
  refine ⟨vs.take zs.length, ⟨by rw [List.length_take]; omega, some ⟨g, 0, none⟩, zs.length + 64, rfl, by omega, fun hn => ⟨g, 0, rfl, fun j hj => ?_⟩⟩, fun i hi => ?_⟩
  · rw [Nat.zero_add, List.getElem?_take, if_pos (by omega)]
    simp [World.cell?, h3]
  · have h6 := h5 i (by omega)
    rw [WRow, if_pos hi] at h6
    have e : (vs.take zs.length).getD i nl = vs.getD i nl := by rw [List.getD_eq_getElem?_getD, List.getElem?_take, if_pos hi, ← List.getD_eq_getElem?_getD]
    rw [e]
    exact h6.il
def WS (base : Nat) (W : World) (v : Value) (s : Stt) : Prop := ∃ vp vc vz, v = sv vp vc vz s ∧ WP base W vp s.ps ∧ WC base W vc s.cs ∧ WZ base W vz s.zs
theorem WS.sl {base : Nat} {W : World} {v : Value} {s : Stt} (h : WS base W v s) : StL W v s := by
  obtain ⟨vp, vc, vz, hv, h1, h2, h3⟩ := h
  exact ⟨vp, vc, vz, hv, h1.il, h2.il, h3.zl⟩
theorem WS.up {base : Nat} {W W' : World} {v : Value} {s : Stt} (h : WS base W v s) (u : Up W W') : WS base W' v s := by
  obtain ⟨vp, vc, vz, hv, h1, h2, h3⟩ := h
  exact ⟨vp, vc, vz, hv, h1.up u, h2.up u, h3.up u⟩
end ST
end Go.Proofs.YtmpamcdobhiipaaGreatDoor
/-
  Decks that came in; may a game begin with them; numbers in a row.
-/
namespace Go.Proofs.YtmpamcdobhiipaaGreatDoor
open Go.RowKit
attribute [local go_sem ↓] Go.wp_at_zero Go.wp_at_succ

namespace ST
def DL (W : World) (v : Value) (ds : List (List Crd)) : Prop := ∃ vs : List Value, LC W v 1 ds.length vs ∧ ∀ i, i < ds.length → CLs W (vs.getD i nl) (ds.getD i [])
theorem DL.up {W W' : World} {v : Value} {ds : List (List Crd)} (h : DL W v ds) (u : Up W W') : DL W' v ds := by
  obtain ⟨vs, h1, h2⟩ := h
  exact ⟨vs, h1.up u, fun i hi => (h2 i hi).up u⟩
theorem dl_at {w : World} {v : Value} {ds : List (List Crd)} (h : DL w v ds) : ∃ a cap, v = .slice a ds.length cap ∧ ds.length ≤ cap ∧ (ds.length ≠ 0 → ∃ b off, a = some ⟨b, off, none⟩ ∧ ∀ r, r < ds.length → ∃ ra rc, (∀ W, Up w W → W.cell? ⟨b, off + r, none⟩ = some (.slice ra (ds.getD r []).length rc)) ∧ CLs w (.slice ra (ds.getD r []).length rc) (ds.getD r [])) := by
  obtain ⟨vs, h, h2⟩ := h
  have hl := h.1
  obtain ⟨a, cap, hv, hc, h⟩ := lc_at h
  refine ⟨a, cap, hv, hc, fun hn => ?_⟩
  obtain ⟨b, off, ha, -, hcell⟩ := h hn
  refine ⟨b, off, ha, fun r hr => ?_⟩
  have hi := h2 r hr
  obtain ⟨ra, rc, e, -, -⟩ := lc_at hi
  refine ⟨ra, rc, fun W hu => ?_, by rw [e] at hi; exact hi⟩
  rw [hcell W hu r (by omega), List.getElem?_eq_getElem (by omega), ← e, List.getD_eq_getElem?_getD, List.getElem?_eq_getElem (by omega)]
  rfl
theorem all_at {A : Type} (l : List A) (f : A → Bool) (d : A) (h : ∀ j, j < l.length → f (l.getD j d) = true) : l.all f = true := by
  rw [List.all_eq_true]
  intro x hx
  obtain ⟨j, hj, rfl⟩ := List.getElem_of_mem hx
  have := h j hj
  rwa [List.getD_eq_getElem?_getD, List.getElem?_eq_getElem hj] at this
theorem all_no {A : Type} (l : List A) (f : A → Bool) (d : A) (i : Nat) (hi : i < l.length) (h : f (l.getD i d) = false) : l.all f = false := by
  rw [Bool.eq_false_iff]
  intro ha
  rw [List.all_eq_true] at ha
  have := ha (l.getD i d) (by rw [List.getD_eq_getElem?_getD, List.getElem?_eq_getElem hi]; exact List.getElem_mem _)
  rw [h] at this
  cases this
theorem tot_next (ds : List (List Crd)) (z : Nat) (hz : z < ds.length) : total (ds.take (z + 1)) = total (ds.take z) + (ds.getD z []).length := by
  unfold total
  rw [List.take_add_one, List.getElem?_eq_getElem hz, List.flatten_append, List.length_append, List.getD_eq_getElem?_getD, List.getElem?_eq_getElem hz]
  simp
end ST
end Go.Proofs.YtmpamcdobhiipaaGreatDoor
/-
  Numbers in a row.
-/
namespace Go.Proofs.YtmpamcdobhiipaaGreatDoor
open Go.RowKit
attribute [local go_sem ↓] Go.wp_at_zero Go.wp_at_succ

namespace ST
theorem numsF_len (a k : Nat) : (numsF a k).length = k := by simp [numsF]
theorem numsF_get (a k i : Nat) (hi : i < k) : (ivs (numsF a k))[i]? = some (.int .i64 ((a + i : Nat) : Int)) := by simp [ivs, numsF, hi]
def NF (w W : World) (g : Nat) (cs : List Value) (a i k : Nat) : Prop := W.heap[g]? = some (.cells cs.toArray 3 (0, 0)) ∧ cs.length = k ∧ (∀ q, q < i → cs[q]? = some (.int .i64 ((a + q : Nat) : Int))) ∧ Up w W
end ST
end Go.Proofs.YtmpamcdobhiipaaGreatDoor
/-
  How a game begins.
-/
namespace Go.Proofs.YtmpamcdobhiipaaGreatDoor
open Go.RowKit
attribute [local go_sem ↓] Go.wp_at_zero Go.wp_at_succ

namespace ST
def stZ : Array Value := #[.slice none 0 0, .slice none 0 0, .slice none 0 0, .int .i32 0, .int .i64 0, .int .i8 0, .int .i64 0]
theorem noS_own (base : Nat) (W : World) : SO base W (.agg stZ) noS := ⟨.slice none 0 0, .slice none 0 0, .slice none 0 0, rfl, World.ownsRow_nil _ _ _ _, World.ownsRow_nil _ _ _ _, [], World.ownsRow_nil _ _ _ _, fun i hi => by simp [noS] at hi⟩
def newR (ds : List (List Crd)) (li en : Int) : Stt := if newB ds li en then newS ds li en else noS
def newE (ds : List (List Crd)) (li en : Int) : Int := if newB ds li en then 0 else 1
def NPost (w : World) (s : Stt) (k : Int) (e : Ending) (w' : World) : Prop := ∃ v', e = .returned (.tuple #[v', .int .i64 k]) ∧ SO w.heap.size w' v' s ∧ Up w w'
theorem heap_ne {W : World} {a b t1 t2 : Nat} {c1 c2 : Array Value} (h1 : W.heap[a]? = some (.cells c1 t1 (0, 0))) (h2 : W.heap[b]? = some (.cells c2 t2 (0, 0))) (ht : t1 ≠ t2) : a ≠ b := by
  rintro rfl
  rw [h1] at h2
  cases h2
  exact ht rfl
/- the new state as far as it is made -/
def NW (w W : World) (B b6 gs gp gz n : Nat) (li en : Int) (vc : Value) (cards : List Crd) (p : Nat) (zs : List (List Int)) : Prop :=
  W.heap[gs]? = some (.cells #[.slice (some ⟨gp, 0, none⟩) n n, vc, .slice (some ⟨gz, 0, none⟩) (4 * n) (4 * n), .int .i32 1, .int .i64 0, .int .i8 0, .int .i64 0] 30 (0, 0)) ∧
  (∃ pl : List Value, W.heap[gp]? = some (.cells pl.toArray 95 (0, 0)) ∧ pl.length = n * 3 ∧ ∀ q, q < p * 3 → pl[q]? = (pvs (List.replicate n ⟨li, en, false⟩))[q]?) ∧
  (∃ zl : List Value, W.heap[gz]? = some (.cells zl.toArray 84 (0, 0)) ∧ zl.length = 4 * n ∧ ∀ q, q < 4 * n → IRow B W (zl.getD q nl) (zs.getD q [])) ∧
  CO B W vc cards ∧ W.heap[b6]? = some (.cells stZ 30 (0, 0)) ∧ Up w W ∧ B ≤ W.heap.size
def Fix (w : World) (B b6 gs gp gz : Nat) : Prop := b6 = w.heap.size ∧ b6 < gs ∧ b6 < gp ∧ b6 < gz ∧ gs < B ∧ gp < B ∧ gz < B
theorem NW.up {w W W' : World} {B b6 gs gp gz n : Nat} {li en : Int} {vc : Value} {cards : List Crd} {p : Nat} {zs : List (List Int)} (h : NW w W B b6 gs gp gz n li en vc cards p zs) (u : Up W W') : NW w W' B b6 gs gp gz n li en vc cards p zs := by
  obtain ⟨h1, ⟨pl, h2, h3⟩, ⟨zl, h4, h5, h6⟩, h7, h8, h9, h10⟩ := h
  exact ⟨u.heap h1, ⟨pl, u.heap h2, h3⟩, ⟨zl, u.heap h4, h5, fun q hq => row_up (h6 q hq) u⟩, row_up h7 u, u.heap h8, h9.trans u, Nat.le_trans h10 u.size⟩
/- a player's three cells -/
theorem NW.ply {w W : World} {B b6 gs gp gz n : Nat} {li en : Int} {vc : Value} {cards : List Crd} {p : Nat} {zs : List (List Int)} (hf : Fix w B b6 gs gp gz) (h : NW w W B b6 gs gp gz n li en vc cards p zs) (hp : p < n) :
    NW w (((W.setCell ⟨gp, p * 3, none⟩ (.int .i32 li)).setCell ⟨gp, p * 3 + 1, none⟩ (.int .i32 en)).setCell ⟨gp, p * 3 + 2, none⟩ (.bool false)) B b6 gs gp gz n li en vc cards (p + 1) zs := by
  obtain ⟨h1, ⟨pl, h2, h3, h3'⟩, ⟨zl, h4, h5, h6⟩, h7, h8, h9, h10⟩ := h
  obtain ⟨f1, f2, f3, f4, f5, f6, f7⟩ := hf
  have n1 : gs ≠ gp := heap_ne h1 h2 (by decide)
  have n2 : gz ≠ gp := heap_ne h4 h2 (by decide)
  have n3 : b6 ≠ gp := by omega
  have hs : w.heap.size ≤ gp := by omega
  refine ⟨set_other (set_other (set_other h1 n1) n1) n1, ⟨((pl.set (p * 3) (.int .i32 li)).set (p * 3 + 1) (.int .i32 en)).set (p * 3 + 2) (.bool false), ?_, by simpa using h3, fun q hq => ?_⟩, ⟨zl, set_other (set_other (set_other h4 n2) n2) n2, h5, fun q hq => row_set (row_set (row_set (h6 q hq) f6) f6) f6⟩, row_set (row_set (row_set h7 f6) f6) f6, set_other (set_other (set_other h8 n3) n3) n3, Up.set (Up.set (Up.set h9 _ _ hs) _ _ hs) _ _ hs, by simpa using h10⟩
  · have e1 := set_cells (j := p * 3) (x := .int .i32 li) h2
    have e2 := set_cells (j := p * 3 + 1) (x := .int .i32 en) e1
    have e3 := set_cells (j := p * 3 + 2) (x := .bool false) e2
    simpa using e3
  · have g : ∀ j, j < 3 → (pvs (List.replicate n ⟨li, en, false⟩))[p * 3 + j]? = (pv ⟨li, en, false⟩)[j]? := fun j hj => by
      rw [pvs_get _ p j (by simpa using hp) hj]
      congr 2
      simp [List.getD_eq_getElem?_getD, hp]
    by_cases q2 : q = p * 3 + 2
    · subst q2; rw [List.getElem?_set_self (by simp; omega), g 2 (by decide)]; rfl
    · rw [List.getElem?_set_ne (by omega)]
      by_cases q1 : q = p * 3 + 1
      · subst q1; rw [List.getElem?_set_self (by simp; omega), g 1 (by decide)]; rfl
      · rw [List.getElem?_set_ne (by omega)]
        by_cases q0 : q = p * 3
        · subst q0; rw [List.getElem?_set_self (by omega)]; exact (g 0 (by decide)).symm
        · rw [List.getElem?_set_ne (by omega)]; exact h3' q (by omega)
/- a zone -/
theorem NW.zone {w W : World} {B b6 gs gp gz n : Nat} {li en : Int} {vc x : Value} {cards : List Crd} {p : Nat} {zs zs' : List (List Int)} (hf : Fix w B b6 gs gp gz) (h : NW w W B b6 gs gp gz n li en vc cards p zs) (k : Nat) (hk : k < 4 * n) (hx : IRow B W x (zs'.getD k [])) (hz : ∀ q, q ≠ k → zs'.getD q [] = zs.getD q []) :
    NW w (W.setCell ⟨gz, k, none⟩ x) B b6 gs gp gz n li en vc cards p zs' := by
  obtain ⟨h1, ⟨pl, h2, h3⟩, ⟨zl, h4, h5, h6⟩, h7, h8, h9, h10⟩ := h
  obtain ⟨f1, f2, f3, f4, f5, f6, f7⟩ := hf
  have n1 : gs ≠ gz := heap_ne h1 h4 (by decide)
  have n2 : gp ≠ gz := heap_ne h2 h4 (by decide)
  refine ⟨set_other h1 n1, ⟨pl, set_other h2 n2, h3⟩, ⟨zl.set k x, ?_, by simpa using h5, fun q hq => ?_⟩, row_set h7 f7, set_other h8 (by omega), Up.set h9 _ _ (by show w.heap.size ≤ gz; omega), by simpa using h10⟩
  · have := set_cells (j := k) (x := x) h4
    simpa using this
  · by_cases e : q = k
    · subst e
      rw [List.getD_eq_getElem?_getD, List.getElem?_set_self (by omega)]
      exact row_set hx f7
    · rw [List.getD_eq_getElem?_getD, List.getElem?_set_ne (fun h => e h.symm), ← List.getD_eq_getElem?_getD, hz q e]
      exact row_set (h6 q hq) f7
/- a card more -/
theorem NW.card {w W W2 : World} {B b6 gs gp gz n : Nat} {li en : Int} {vc vc' : Value} {cards cards' : List Crd} {p : Nat} {zs : List (List Int)} (hf : Fix w B b6 gs gp gz) (h : NW w W B b6 gs gp gz n li en vc cards p zs) (hg : W.grownBy W2 vc.ownBlock) (hc : CO B W2 vc' cards') :
    NW w (W2.setCell ⟨gs, 1, none⟩ vc') B b6 gs gp gz n li en vc' cards' p zs := by
  obtain ⟨h1, ⟨pl, h2, h3⟩, ⟨zl, h4, h5, h6⟩, h7, h8, h9, h10⟩ := h
  obtain ⟨f1, f2, f3, f4, f5, f6, f7⟩ := hf
  have keep : ∀ g o, g < B → W.heap[g]? = some o → W2.heap[g]? = some o := fun g o hgB hgo => by
    rw [hg.block g (Array.getElem?_eq_some_iff.1 hgo).1 (fun e => by have := h7.lt g e.symm; omega)]
    exact hgo
  have n1 : gp ≠ gs := heap_ne h2 h1 (by decide)
  have n2 : gz ≠ gs := heap_ne h4 h1 (by decide)
  refine ⟨set_cells (keep _ _ f5 h1), ⟨pl, set_other (keep _ _ f6 h2) n1, h3⟩, ⟨zl, set_other (keep _ _ f7 h4) n2, h5, fun q hq => row_set (World.ownsRow.kept (h6 q hq) hg (row_apart (h6 q hq) h7 (by decide))) f5⟩, row_set hc f5, set_other (keep _ _ (by omega) h8) (by omega), Up.set (Below.grown h9 hg (by omega) (fun k hk => by have := h7.lt k hk; omega)) _ _ (by show w.heap.size ≤ gs; omega), ?_⟩
  have := hg.size
  simp; omega
def Start (w : World) (n : Nat) (li en : Int) (gs gp gz : Nat) (W : World) : Prop := ∃ B, Fix w B w.heap.size gs gp gz ∧ NW w W B w.heap.size gs gp gz n li en nl [] 0 []
theorem three_blocks (w : World) (c0 c1 c2 : Array Value) (t0 t1 t2 : Nat) :
    ((((w.alloc (.cells c0 t0)).alloc (.cells c1 t1)).alloc (.cells c2 t2)).drew.heap[w.heap.size]? = some (.cells c0 t0 (0, 0))) ∧
    ((((w.alloc (.cells c0 t0)).alloc (.cells c1 t1)).alloc (.cells c2 t2)).drew.heap[w.heap.size + 1]? = some (.cells c1 t1 (0, 0))) ∧
    ((((w.alloc (.cells c0 t0)).alloc (.cells c1 t1)).alloc (.cells c2 t2)).drew.heap[w.heap.size + 1 + 1]? = some (.cells c2 t2 (0, 0))) := by
  have d : (((w.alloc (.cells c0 t0)).alloc (.cells c1 t1)).alloc (.cells c2 t2)).drew.heap = (((w.alloc (.cells c0 t0)).alloc (.cells c1 t1)).alloc (.cells c2 t2)).heap := rfl
  rw [d]
  refine ⟨?_, ?_, ?_⟩
  · rw [Below.heap_alloc _ _ _ (by simp; omega), Below.heap_alloc _ _ _ (by simp)]; exact heap_alloc_new w _
  · rw [Below.heap_alloc _ _ _ (by simp)]
    have := heap_alloc_new (w.alloc (.cells c0 t0)) (.cells c1 t1)
    simpa using this
  · have := heap_alloc_new ((w.alloc (.cells c0 t0)).alloc (.cells c1 t1)) (.cells c2 t2)
    simpa using this
theorem start_of {w W : World} {n : Nat} {li en : Int} {gs gp gz B : Nat} {MP MZ : List Value} (hM : MP.length = n * 3 ∧ MZ = List.replicate (4 * n) (.slice none 0 0)) (f : Fix w B w.heap.size gs gp gz) (hB : B ≤ W.heap.size) (u : Up w W) (h6 : W.heap[w.heap.size]? = some (.cells stZ 30 (0, 0)))
    (hs : W.heap[gs]? = some (.cells #[.slice (some ⟨gp, 0, none⟩) n n, .slice none 0 0, .slice (some ⟨gz, 0, none⟩) (4 * n) (4 * n), .int .i32 1, .int .i64 0, .int .i8 0, .int .i64 0] 30 (0, 0)))
    (hp : W.heap[gp]? = some (.cells MP.toArray 95 (0, 0))) (hz : W.heap[gz]? = some (.cells MZ.toArray 84 (0, 0))) : Start w n li en gs gp gz W := by
  refine ⟨B, f, hs, ⟨MP, hp, hM.1, fun q hq => by omega⟩, ⟨MZ, hz, by rw [hM.2]; simp, fun q hq => ?_⟩, World.ownsRow_nil _ _ _ _, h6, u, hB⟩
  have : MZ.getD q nl = .slice none 0 0 := by rw [hM.2, List.getD_eq_getElem?_getD]; simp [hq]
  rw [this]
  exact World.ownsRow_nil _ _ _ _
theorem NW.done {w W : World} {B b6 gs gp gz n : Nat} {li en : Int} {vc : Value} {cards : List Crd} {zs : List (List Int)} (hf : Fix w B b6 gs gp gz) (h : NW w W B b6 gs gp gz n li en vc cards n zs) (hz : zs.length = 4 * n) (hn : n ≤ 4) :
    SO (b6 + 1) W (.agg #[.slice (some ⟨gp, 0, none⟩) n n, vc, .slice (some ⟨gz, 0, none⟩) (4 * n) (4 * n), .int .i32 1, .int .i64 0, .int .i8 0, .int .i64 0]) ⟨List.replicate n ⟨li, en, false⟩, cards, zs, 1, 0, 0, 0⟩ := by
  obtain ⟨h1, ⟨pl, h2, h3, h3'⟩, ⟨zl, h4, h5, h6⟩, h7, h8, h9, h10⟩ := h
  obtain ⟨f1, f2, f3, f4, f5, f6, f7⟩ := hf
  have hpl : pl = pvs (List.replicate n ⟨li, en, false⟩) := by
    apply List.ext_getElem?
    intro q
    by_cases hq : q < n * 3
    · exact h3' q hq
    · rw [List.getElem?_eq_none (by omega), List.getElem?_eq_none (by rw [pvs_len, List.length_replicate]; omega)]
  refine ⟨_, _, _, rfl, ?_, own_less h7 (by omega), zl, ?_, fun i hi => own_less (h6 i (by simp only at hi; omega)) (by omega)⟩
  · subst hpl
    refine ⟨by rw [pvs_len], .inr ⟨gp, n, _, by simp, by omega, h2, by simp, by unfold maxLen; omega, by simp [pvs_len], ?_⟩⟩
    simp
    exact List.take_of_length_le (by rw [pvs_len, List.length_replicate]; exact Nat.le_refl _)
  · refine ⟨by rw [h5, hz, Nat.mul_one], .inr ⟨gz, 4 * n, zl.toArray, by rw [hz], by omega, h4, by rw [hz]; exact Nat.le_refl _, by unfold maxLen; omega, by simp [h5], ?_⟩⟩
    simp
    exact List.take_of_length_le (by rw [h5, hz]; exact Nat.le_refl _)
end ST
end Go.Proofs.YtmpamcdobhiipaaGreatDoor
