/-
  The program's copyList: a list of its own.
-/
import Derived.Test.YtjabjiahienohaaGreatDoorWhToCt
import Derived.Deep.RegionWith
namespace Go.Proofs.YtjabjiahienohaaGreatDoor
open Go.RowKit
attribute [local go_sem ↓] Go.wp_at_zero Go.wp_at_succ

theorem own_made {W : World} {base g e s n : Nat} {xs : List Value} (h : W.heap[g]? = some (.cells xs.toArray e (0, 0))) (hl : xs.length = n * s) (hb : base ≤ g) (hn : n ≤ maxLen) : W.ownsRow base e s (.slice (some ⟨g, 0, none⟩) n n) n xs :=
  ⟨hl, .inr ⟨g, n, xs.toArray, rfl, hb, h, Nat.le_refl _, hn, by simpa using hl, by simp; exact List.take_of_length_le (by omega)⟩⟩
theorem splice_all (z cs : List Value) (h : z.length = cs.length) : splice z 0 cs = cs := by
  unfold splice
  simp [h]
namespace ST
theorem sizeP : (Tryz.prog.info? 99).map (·.size) = some 3 := by kernel_rfl
set_option maxRecDepth 100000 in
set_option maxHeartbeats 2000000 in
theorem copyLP_ (v : Value) (l : List Ply) (w : World) (hv : PLs w v l) (hn : l.length ≤ 4294967296) :
    Calls Tryz.prog 120 #[v] w (CpPost w fun W v' => PO w.heap.size W v' l) := by
  obtain ⟨iT, hiT, i0, i1, i2⟩ := info_parts infoP
  obtain ⟨Post, hPost⟩ : ∃ P : Ending → World → Prop, P = CpPost w fun W v' => PO w.heap.size W v' l := ⟨_, rfl⟩
  rw [← hPost]
  have HP : Hid (Post = CpPost w fun W v' => PO w.heap.size W v' l) := hPost
  have HV : Hid (LC w v 3 l.length (pvs l)) := hv
  have HO : Hid (∀ (a : Option Addr) (k : Nat) (w1 : World) (cur : List Value), v = .slice a l.length k → w1.heap[w.heap.size]? = some (.cells cur.toArray 99 (0, 0)) → cur.length = l.length * 3 → Up w w1 → ∃ w2, (Builtin.copy_ #[22, 22] 3 #[.slice (some ⟨w.heap.size, 0, none⟩) l.length l.length, .slice a l.length k]).run Tryz.prog w1 = .ok (goInt (Nat.min l.length l.length : Nat)) w2 ∧ PO w.heap.size w2 (.slice (some ⟨w.heap.size, 0, none⟩) l.length l.length) l ∧ Up w w2) := fun a k w1 cur hav hg hcl u => by
    have h := HV.out.up u
    have hlen := h.1
    obtain ⟨w2, hr, h2, h3⟩ := run_copyS (P := Tryz.prog) w1 22 22 3 99 3 (by decide) (some ⟨w.heap.size, 0, none⟩) a l.length l.length l.length k w.heap.size 0 cur 99 Tryz.underlying22 sizeP hg (pvs l) (by rw [hlen]; simp) (fun hp => by
      refine ⟨rfl, ?_⟩
      obtain ⟨-, a', k', e, -, hc⟩ := h
      rw [hav] at e
      cases e
      obtain ⟨b, off, rfl, hcell⟩ := hc (by intro h0; rw [hlen, h0] at hp; simp at hp)
      refine ⟨_, rfl, fun j x hj => ?_⟩
      rw [Addr.add_mid]
      have : j < (pvs l).length := (List.getElem?_eq_some_iff.1 hj).1
      rw [hcell j (by omega)]; exact hj) (by rw [hlen, hcl]; omega) (pvs_one l)
    rw [splice_all cur (pvs l) (by rw [hcl, hlen])] at h2
    exact ⟨w2, hr, own_made h2 hlen (Nat.le_refl _) (by unfold maxLen; omega), Up.trans' u h3 (Nat.le_refl _)⟩
  obtain ⟨a, k, rfl, -, -⟩ := lc_at hv
  obtain ⟨n, hn0⟩ : ∃ n, n = l.length := ⟨_, rfl⟩
  rw [← hn0] at hn HO ⊢
  have HN : Hid (n = l.length) := hn0
  clear hPost hv hn0 HV
  go_enter Tryz.func120, Tryz.ntmps120
  go_wp2_with (at_make; (refine wpList_make_full _ rfl _ _ 22 rfl w.heap.size 99 iT _ 3 Tryz.underlying22 hiT i0 i1 .i64 .i64 _ _ n rfl rfl rfl rfl (by rw [i2]; omega) (by unfold maxLen; omega) (Nat.le_refl _) ?_; intro w1 hin hg1; obtain ⟨w2, hr, ho, hu⟩ := HO.out _ _ w1 _ rfl (row_made hin) hin.1 (made_up hg1); have HF : Hid (PO w.heap.size w2 (.slice (some ⟨w.heap.size, 0, none⟩) n n) l ∧ Up w w2) := (by exact ⟨ho, hu⟩); clear hin hg1 ho hu HO))
  rw [HP.out]
  exact ⟨_, rfl, HF.out.1, HF.out.2⟩
theorem sizeC : (Tryz.prog.info? 97).map (·.size) = some 6 := by kernel_rfl
set_option maxRecDepth 100000 in
set_option maxHeartbeats 2000000 in
theorem copyLC_ (v : Value) (l : List Crd) (w : World) (hv : CLs w v l) (hn : l.length ≤ 4294967296) :
    Calls Tryz.prog 121 #[v] w (CpPost w fun W v' => CO w.heap.size W v' l) := by
  obtain ⟨iT, hiT, i0, i1, i2⟩ := info_parts infoC
  obtain ⟨Post, hPost⟩ : ∃ P : Ending → World → Prop, P = CpPost w fun W v' => CO w.heap.size W v' l := ⟨_, rfl⟩
  rw [← hPost]
  have HP : Hid (Post = CpPost w fun W v' => CO w.heap.size W v' l) := hPost
  have HV : Hid (LC w v 6 l.length (cvs l)) := hv
  have HO : Hid (∀ (a : Option Addr) (k : Nat) (w1 : World) (cur : List Value), v = .slice a l.length k → w1.heap[w.heap.size]? = some (.cells cur.toArray 97 (0, 0)) → cur.length = l.length * 6 → Up w w1 → ∃ w2, (Builtin.copy_ #[23, 23] 3 #[.slice (some ⟨w.heap.size, 0, none⟩) l.length l.length, .slice a l.length k]).run Tryz.prog w1 = .ok (goInt (Nat.min l.length l.length : Nat)) w2 ∧ CO w.heap.size w2 (.slice (some ⟨w.heap.size, 0, none⟩) l.length l.length) l ∧ Up w w2) := fun a k w1 cur hav hg hcl u => by
    have h := HV.out.up u
    have hlen := h.1
    obtain ⟨w2, hr, h2, h3⟩ := run_copyS (P := Tryz.prog) w1 23 23 3 97 6 (by decide) (some ⟨w.heap.size, 0, none⟩) a l.length l.length l.length k w.heap.size 0 cur 97 Tryz.underlying23 sizeC hg (cvs l) (by rw [hlen]; simp) (fun hp => by
      refine ⟨rfl, ?_⟩
      obtain ⟨-, a', k', e, -, hc⟩ := h
      rw [hav] at e
      cases e
      obtain ⟨b, off, rfl, hcell⟩ := hc (by intro h0; rw [hlen, h0] at hp; simp at hp)
      refine ⟨_, rfl, fun j x hj => ?_⟩
      rw [Addr.add_mid]
      have : j < (cvs l).length := (List.getElem?_eq_some_iff.1 hj).1
      rw [hcell j (by omega)]; exact hj) (by rw [hlen, hcl]; omega) (cvs_one l)
    rw [splice_all cur (cvs l) (by rw [hcl, hlen])] at h2
    exact ⟨w2, hr, own_made h2 hlen (Nat.le_refl _) (by unfold maxLen; omega), Up.trans' u h3 (Nat.le_refl _)⟩
  obtain ⟨a, k, rfl, -, -⟩ := lc_at hv
  obtain ⟨n, hn0⟩ : ∃ n, n = l.length := ⟨_, rfl⟩
  rw [← hn0] at hn HO ⊢
  have HN : Hid (n = l.length) := hn0
  clear hPost hv hn0 HV
  go_enter Tryz.func121, Tryz.ntmps121
  go_wp2_with (at_make; (refine wpList_make_full _ rfl _ _ 23 rfl w.heap.size 97 iT _ 6 Tryz.underlying23 hiT i0 i1 .i64 .i64 _ _ n rfl rfl rfl rfl (by rw [i2]; omega) (by unfold maxLen; omega) (Nat.le_refl _) ?_; intro w1 hin hg1; obtain ⟨w2, hr, ho, hu⟩ := HO.out _ _ w1 _ rfl (row_made hin) hin.1 (made_up hg1); have HF : Hid (CO w.heap.size w2 (.slice (some ⟨w.heap.size, 0, none⟩) n n) l ∧ Up w w2) := (by exact ⟨ho, hu⟩); clear hin hg1 ho hu HO))
  rw [HP.out]
  exact ⟨_, rfl, HF.out.1, HF.out.2⟩
theorem sizeI : (Tryz.prog.info? 3).map (·.size) = some 1 := by kernel_rfl
set_option maxRecDepth 100000 in
set_option maxHeartbeats 2000000 in
theorem copyLI_ (v : Value) (l : List Int) (w : World) (hv : IL w v l) (hn : l.length ≤ 4294967296) :
    Calls Tryz.prog 122 #[v] w (CpPost w fun W v' => IRow w.heap.size W v' l) := by
  obtain ⟨iT, hiT, i0, i1, i2⟩ := info_parts infoI
  obtain ⟨Post, hPost⟩ : ∃ P : Ending → World → Prop, P = CpPost w fun W v' => IRow w.heap.size W v' l := ⟨_, rfl⟩
  rw [← hPost]
  have HP : Hid (Post = CpPost w fun W v' => IRow w.heap.size W v' l) := hPost
  have HV : Hid (LC w v 1 l.length (ivs l)) := hv
  have HO : Hid (∀ (a : Option Addr) (k : Nat) (w1 : World) (cur : List Value), v = .slice a l.length k → w1.heap[w.heap.size]? = some (.cells cur.toArray 3 (0, 0)) → cur.length = l.length * 1 → Up w w1 → ∃ w2, (Builtin.copy_ #[28, 28] 3 #[.slice (some ⟨w.heap.size, 0, none⟩) l.length l.length, .slice a l.length k]).run Tryz.prog w1 = .ok (goInt (Nat.min l.length l.length : Nat)) w2 ∧ IRow w.heap.size w2 (.slice (some ⟨w.heap.size, 0, none⟩) l.length l.length) l ∧ Up w w2) := fun a k w1 cur hav hg hcl u => by
    have h := HV.out.up u
    have hlen := h.1
    obtain ⟨w2, hr, h2, h3⟩ := run_copyS (P := Tryz.prog) w1 28 28 3 3 1 (by decide) (some ⟨w.heap.size, 0, none⟩) a l.length l.length l.length k w.heap.size 0 cur 3 Tryz.underlying28 sizeI hg (ivs l) (by rw [hlen]; simp) (fun hp => by
      refine ⟨rfl, ?_⟩
      obtain ⟨-, a', k', e, -, hc⟩ := h
      rw [hav] at e
      cases e
      obtain ⟨b, off, rfl, hcell⟩ := hc (by intro h0; rw [hlen, h0] at hp; simp at hp)
      refine ⟨_, rfl, fun j x hj => ?_⟩
      rw [Addr.add_mid]
      have : j < (ivs l).length := (List.getElem?_eq_some_iff.1 hj).1
      rw [hcell j (by omega)]; exact hj) (by rw [hlen, hcl]; omega) (ivs_one l)
    rw [splice_all cur (ivs l) (by rw [hcl, hlen])] at h2
    exact ⟨w2, hr, own_made h2 hlen (Nat.le_refl _) (by unfold maxLen; omega), Up.trans' u h3 (Nat.le_refl _)⟩
  obtain ⟨a, k, rfl, -, -⟩ := lc_at hv
  obtain ⟨n, hn0⟩ : ∃ n, n = l.length := ⟨_, rfl⟩
  rw [← hn0] at hn HO ⊢
  have HN : Hid (n = l.length) := hn0
  clear hPost hv hn0 HV
  go_enter Tryz.func122, Tryz.ntmps122
  go_wp2_with (at_make; (refine wpList_make_full _ rfl _ _ 28 rfl w.heap.size 3 iT _ 1 Tryz.underlying28 hiT i0 i1 .i64 .i64 _ _ n rfl rfl rfl rfl (by rw [i2]; omega) (by unfold maxLen; omega) (Nat.le_refl _) ?_; intro w1 hin hg1; obtain ⟨w2, hr, ho, hu⟩ := HO.out _ _ w1 _ rfl (row_made hin) hin.1 (made_up hg1); have HF : Hid (IRow w.heap.size w2 (.slice (some ⟨w.heap.size, 0, none⟩) n n) l ∧ Up w w2) := (by exact ⟨ho, hu⟩); clear hin hg1 ho hu HO))
  rw [HP.out]
  exact ⟨_, rfl, HF.out.1, HF.out.2⟩
end ST
end Go.Proofs.YtjabjiahienohaaGreatDoor
/-
  Decks that came in; may a game begin with them; numbers in a row.
-/
namespace Go.Proofs.YtjabjiahienohaaGreatDoor
open Go.RowKit
attribute [local go_sem ↓] Go.wp_at_zero Go.wp_at_succ

namespace ST
def DL (W : World) (v : Value) (ds : List (List Crd)) : Prop := ∃ vs : List Value, LC W v 1 ds.length vs ∧ ∀ i, i < ds.length → CLs W (vs.getD i nl) (ds.getD i [])
theorem DL.up {W W' : World} {v : Value} {ds : List (List Crd)} (h : DL W v ds) (u : Up W W') : DL W' v ds := by
  obtain ⟨vs, h1, h2⟩ := h
  exact ⟨vs, h1.up u, fun i hi => (h2 i hi).up u⟩
theorem dl_at {w : World} {v : Value} {ds : List (List Crd)} (h : DL w v ds) : ∃ a cap, v = .slice a ds.length cap ∧ ds.length ≤ cap ∧ (ds.length ≠ 0 → ∃ b off, a = some ⟨b, off, none⟩ ∧ ∀ r, r < ds.length → ∃ ra rc, (∀ W, Up w W → W.cell? ⟨b, off + r, none⟩ = some (.slice ra (ds.getD r []).length rc)) ∧ CLs w (.slice ra (ds.getD r []).length rc) (ds.getD r [])) := by
  obtain ⟨vs, h, h2⟩ := h
  have hl := h.1
  obtain ⟨a, cap, hv, hc, h⟩ := lc_at h
  refine ⟨a, cap, hv, hc, fun hn => ?_⟩
  obtain ⟨b, off, ha, -, hcell⟩ := h hn
  refine ⟨b, off, ha, fun r hr => ?_⟩
  have hi := h2 r hr
  obtain ⟨ra, rc, e, -, -⟩ := lc_at hi
  refine ⟨ra, rc, fun W hu => ?_, by rw [e] at hi; exact hi⟩
  rw [hcell W hu r (by omega), List.getElem?_eq_getElem (by omega), ← e, List.getD_eq_getElem?_getD, List.getElem?_eq_getElem (by omega)]
  rfl
theorem all_at {A : Type} (l : List A) (f : A → Bool) (d : A) (h : ∀ j, j < l.length → f (l.getD j d) = true) : l.all f = true := by
  rw [List.all_eq_true]
  intro x hx
  obtain ⟨j, hj, rfl⟩ := List.getElem_of_mem hx
  have := h j hj
  rwa [List.getD_eq_getElem?_getD, List.getElem?_eq_getElem hj] at this
theorem all_no {A : Type} (l : List A) (f : A → Bool) (d : A) (i : Nat) (hi : i < l.length) (h : f (l.getD i d) = false) : l.all f = false := by
  rw [Bool.eq_false_iff]
  intro ha
  rw [List.all_eq_true] at ha
  have := ha (l.getD i d) (by rw [List.getD_eq_getElem?_getD, List.getElem?_eq_getElem hi]; exact List.getElem_mem _)
  rw [h] at this
  cases this
theorem tot_next (ds : List (List Crd)) (z : Nat) (hz : z < ds.length) : total (ds.take (z + 1)) = total (ds.take z) + (ds.getD z []).length := by
  unfold total
  rw [List.take_add_one, List.getElem?_eq_getElem hz, List.flatten_append, List.length_append, List.getD_eq_getElem?_getD, List.getElem?_eq_getElem hz]
  simp
end ST
end Go.Proofs.YtjabjiahienohaaGreatDoor
/-
  Numbers in a row.
-/
namespace Go.Proofs.YtjabjiahienohaaGreatDoor
open Go.RowKit
attribute [local go_sem ↓] Go.wp_at_zero Go.wp_at_succ

namespace ST
theorem numsF_len (a k : Nat) : (numsF a k).length = k := by simp [numsF]
theorem numsF_get (a k i : Nat) (hi : i < k) : (ivs (numsF a k))[i]? = some (.int .i64 ((a + i : Nat) : Int)) := by simp [ivs, numsF, hi]
def NF (w W : World) (g : Nat) (cs : List Value) (a i k : Nat) : Prop := W.heap[g]? = some (.cells cs.toArray 3 (0, 0)) ∧ cs.length = k ∧ (∀ q, q < i → cs[q]? = some (.int .i64 ((a + q : Nat) : Int))) ∧ Up w W
end ST
end Go.Proofs.YtjabjiahienohaaGreatDoor
/-
  How a game begins.
-/
namespace Go.Proofs.YtjabjiahienohaaGreatDoor
open Go.RowKit
attribute [local go_sem ↓] Go.wp_at_zero Go.wp_at_succ

namespace ST
def stZ : Array Value := #[.slice none 0 0, .slice none 0 0, .slice none 0 0, .int .i32 0, .int .i64 0, .int .i8 0, .int .i64 0]
theorem noS_own (base : Nat) (W : World) : SO base W (.agg stZ) noS := ⟨.slice none 0 0, .slice none 0 0, .slice none 0 0, rfl, World.ownsRow_nil _ _ _ _, World.ownsRow_nil _ _ _ _, [], World.ownsRow_nil _ _ _ _, fun i hi => by simp [noS] at hi⟩
def newR (ds : List (List Crd)) (li en : Int) : Stt := if newB ds li en then newS ds li en else noS
def newE (ds : List (List Crd)) (li en : Int) : Int := if newB ds li en then 0 else 1
def NPost (w : World) (s : Stt) (k : Int) (e : Ending) (w' : World) : Prop := ∃ v', e = .returned (.tuple #[v', .int .i64 k]) ∧ SO w.heap.size w' v' s ∧ Up w w'
theorem heap_ne {W : World} {a b t1 t2 : Nat} {c1 c2 : Array Value} (h1 : W.heap[a]? = some (.cells c1 t1 (0, 0))) (h2 : W.heap[b]? = some (.cells c2 t2 (0, 0))) (ht : t1 ≠ t2) : a ≠ b := by
  rintro rfl
  rw [h1] at h2
  cases h2
  exact ht rfl
/- the new state as far as it is made -/
def NW (w W : World) (B b6 gs gp gz n : Nat) (li en : Int) (vc : Value) (cards : List Crd) (p : Nat) (zs : List (List Int)) : Prop :=
  W.heap[gs]? = some (.cells #[.slice (some ⟨gp, 0, none⟩) n n, vc, .slice (some ⟨gz, 0, none⟩) (4 * n) (4 * n), .int .i32 1, .int .i64 0, .int .i8 0, .int .i64 0] 27 (0, 0)) ∧
  (∃ pl : List Value, W.heap[gp]? = some (.cells pl.toArray 99 (0, 0)) ∧ pl.length = n * 3 ∧ ∀ q, q < p * 3 → pl[q]? = (pvs (List.replicate n ⟨li, en, false⟩))[q]?) ∧
  (∃ zl : List Value, W.heap[gz]? = some (.cells zl.toArray 28 (0, 0)) ∧ zl.length = 4 * n ∧ ∀ q, q < 4 * n → IRow B W (zl.getD q nl) (zs.getD q [])) ∧
  CO B W vc cards ∧ W.heap[b6]? = some (.cells stZ 27 (0, 0)) ∧ Up w W ∧ B ≤ W.heap.size
def Fix (w : World) (B b6 gs gp gz : Nat) : Prop := b6 = w.heap.size ∧ b6 < gs ∧ b6 < gp ∧ b6 < gz ∧ gs < B ∧ gp < B ∧ gz < B
theorem NW.up {w W W' : World} {B b6 gs gp gz n : Nat} {li en : Int} {vc : Value} {cards : List Crd} {p : Nat} {zs : List (List Int)} (h : NW w W B b6 gs gp gz n li en vc cards p zs) (u : Up W W') : NW w W' B b6 gs gp gz n li en vc cards p zs := by
  obtain ⟨h1, ⟨pl, h2, h3⟩, ⟨zl, h4, h5, h6⟩, h7, h8, h9, h10⟩ := h
  exact ⟨u.heap h1, ⟨pl, u.heap h2, h3⟩, ⟨zl, u.heap h4, h5, fun q hq => row_up (h6 q hq) u⟩, row_up h7 u, u.heap h8, h9.trans u, Nat.le_trans h10 u.size⟩
/- a player's three cells -/
theorem NW.ply {w W : World} {B b6 gs gp gz n : Nat} {li en : Int} {vc : Value} {cards : List Crd} {p : Nat} {zs : List (List Int)} (hf : Fix w B b6 gs gp gz) (h : NW w W B b6 gs gp gz n li en vc cards p zs) (hp : p < n) :
    NW w (((W.setCell ⟨gp, p * 3, none⟩ (.int .i32 li)).setCell ⟨gp, p * 3 + 1, none⟩ (.int .i32 en)).setCell ⟨gp, p * 3 + 2, none⟩ (.bool false)) B b6 gs gp gz n li en vc cards (p + 1) zs := by
  obtain ⟨h1, ⟨pl, h2, h3, h3'⟩, ⟨zl, h4, h5, h6⟩, h7, h8, h9, h10⟩ := h
  obtain ⟨f1, f2, f3, f4, f5, f6, f7⟩ := hf
  have n1 : gs ≠ gp := heap_ne h1 h2 (by decide)
  have n2 : gz ≠ gp := heap_ne h4 h2 (by decide)
  have n3 : b6 ≠ gp := by omega
  have hs : w.heap.size ≤ gp := by omega
  refine ⟨set_other (set_other (set_other h1 n1) n1) n1, ⟨((pl.set (p * 3) (.int .i32 li)).set (p * 3 + 1) (.int .i32 en)).set (p * 3 + 2) (.bool false), ?_, by simpa using h3, fun q hq => ?_⟩, ⟨zl, set_other (set_other (set_other h4 n2) n2) n2, h5, fun q hq => row_set (row_set (row_set (h6 q hq) f6) f6) f6⟩, row_set (row_set (row_set h7 f6) f6) f6, set_other (set_other (set_other h8 n3) n3) n3, Up.set (Up.set (Up.set h9 _ _ hs) _ _ hs) _ _ hs, by simpa using h10⟩
  · have e1 := set_cells (j := p * 3) (x := .int .i32 li) h2
    have e2 := set_cells (j := p * 3 + 1) (x := .int .i32 en) e1
    have e3 := set_cells (j := p * 3 + 2) (x := .bool false) e2
    simpa using e3
  · have g : ∀ j, j < 3 → (pvs (List.replicate n ⟨li, en, false⟩))[p * 3 + j]? = (pv ⟨li, en, false⟩)[j]? := fun j hj => by
      rw [pvs_get _ p j (by simpa using hp) hj]
      congr 2
      simp [List.getD_eq_getElem?_getD, hp]
    by_cases q2 : q = p * 3 + 2
    · subst q2; rw [List.getElem?_set_self (by simp; omega), g 2 (by decide)]; rfl
    · rw [List.getElem?_set_ne (by omega)]
      by_cases q1 : q = p * 3 + 1
      · subst q1; rw [List.getElem?_set_self (by simp; omega), g 1 (by decide)]; rfl
      · rw [List.getElem?_set_ne (by omega)]
        by_cases q0 : q = p * 3
        · subst q0; rw [List.getElem?_set_self (by omega)]; exact (g 0 (by decide)).symm
        · rw [List.getElem?_set_ne (by omega)]; exact h3' q (by omega)
/- a zone -/
theorem NW.zone {w W : World} {B b6 gs gp gz n : Nat} {li en : Int} {vc x : Value} {cards : List Crd} {p : Nat} {zs zs' : List (List Int)} (hf : Fix w B b6 gs gp gz) (h : NW w W B b6 gs gp gz n li en vc cards p zs) (k : Nat) (hk : k < 4 * n) (hx : IRow B W x (zs'.getD k [])) (hz : ∀ q, q ≠ k → zs'.getD q [] = zs.getD q []) :
    NW w (W.setCell ⟨gz, k, none⟩ x) B b6 gs gp gz n li en vc cards p zs' := by
  obtain ⟨h1, ⟨pl, h2, h3⟩, ⟨zl, h4, h5, h6⟩, h7, h8, h9, h10⟩ := h
  obtain ⟨f1, f2, f3, f4, f5, f6, f7⟩ := hf
  have n1 : gs ≠ gz := heap_ne h1 h4 (by decide)
  have n2 : gp ≠ gz := heap_ne h2 h4 (by decide)
  refine ⟨set_other h1 n1, ⟨pl, set_other h2 n2, h3⟩, ⟨zl.set k x, ?_, by simpa using h5, fun q hq => ?_⟩, row_set h7 f7, set_other h8 (by omega), Up.set h9 _ _ (by show w.heap.size ≤ gz; omega), by simpa using h10⟩
  · have := set_cells (j := k) (x := x) h4
    simpa using this
  · by_cases e : q = k
    · subst e
      rw [List.getD_eq_getElem?_getD, List.getElem?_set_self (by omega)]
      exact row_set hx f7
    · rw [List.getD_eq_getElem?_getD, List.getElem?_set_ne (fun h => e h.symm), ← List.getD_eq_getElem?_getD, hz q e]
      exact row_set (h6 q hq) f7
/- a card more -/
theorem NW.card {w W W2 : World} {B b6 gs gp gz n : Nat} {li en : Int} {vc vc' : Value} {cards cards' : List Crd} {p : Nat} {zs : List (List Int)} (hf : Fix w B b6 gs gp gz) (h : NW w W B b6 gs gp gz n li en vc cards p zs) (hg : W.grownBy W2 vc.ownBlock) (hc : CO B W2 vc' cards') :
    NW w (W2.setCell ⟨gs, 1, none⟩ vc') B b6 gs gp gz n li en vc' cards' p zs := by
  obtain ⟨h1, ⟨pl, h2, h3⟩, ⟨zl, h4, h5, h6⟩, h7, h8, h9, h10⟩ := h
  obtain ⟨f1, f2, f3, f4, f5, f6, f7⟩ := hf
  have keep : ∀ g o, g < B → W.heap[g]? = some o → W2.heap[g]? = some o := fun g o hgB hgo => by
    rw [hg.block g (Array.getElem?_eq_some_iff.1 hgo).1 (fun e => by have := h7.lt g e.symm; omega)]
    exact hgo
  have n1 : gp ≠ gs := heap_ne h2 h1 (by decide)
  have n2 : gz ≠ gs := heap_ne h4 h1 (by decide)
  refine ⟨set_cells (keep _ _ f5 h1), ⟨pl, set_other (keep _ _ f6 h2) n1, h3⟩, ⟨zl, set_other (keep _ _ f7 h4) n2, h5, fun q hq => row_set (World.ownsRow.kept (h6 q hq) hg (row_apart (h6 q hq) h7 (by decide))) f5⟩, row_set hc f5, set_other (keep _ _ (by omega) h8) (by omega), Up.set (Below.grown h9 hg (by omega) (fun k hk => by have := h7.lt k hk; omega)) _ _ (by show w.heap.size ≤ gs; omega), ?_⟩
  have := hg.size
  simp; omega
def Start (w : World) (n : Nat) (li en : Int) (gs gp gz : Nat) (W : World) : Prop := ∃ B, Fix w B w.heap.size gs gp gz ∧ NW w W B w.heap.size gs gp gz n li en nl [] 0 []
theorem three_blocks (w : World) (c0 c1 c2 : Array Value) (t0 t1 t2 : Nat) :
    ((((w.alloc (.cells c0 t0)).alloc (.cells c1 t1)).alloc (.cells c2 t2)).drew.heap[w.heap.size]? = some (.cells c0 t0 (0, 0))) ∧
    ((((w.alloc (.cells c0 t0)).alloc (.cells c1 t1)).alloc (.cells c2 t2)).drew.heap[w.heap.size + 1]? = some (.cells c1 t1 (0, 0))) ∧
    ((((w.alloc (.cells c0 t0)).alloc (.cells c1 t1)).alloc (.cells c2 t2)).drew.heap[w.heap.size + 1 + 1]? = some (.cells c2 t2 (0, 0))) := by
  have d : (((w.alloc (.cells c0 t0)).alloc (.cells c1 t1)).alloc (.cells c2 t2)).drew.heap = (((w.alloc (.cells c0 t0)).alloc (.cells c1 t1)).alloc (.cells c2 t2)).heap := rfl
  rw [d]
  refine ⟨?_, ?_, ?_⟩
  · rw [Below.heap_alloc _ _ _ (by simp; omega), Below.heap_alloc _ _ _ (by simp)]; exact heap_alloc_new w _
  · rw [Below.heap_alloc _ _ _ (by simp)]
    have := heap_alloc_new (w.alloc (.cells c0 t0)) (.cells c1 t1)
    simpa using this
  · have := heap_alloc_new ((w.alloc (.cells c0 t0)).alloc (.cells c1 t1)) (.cells c2 t2)
    simpa using this
theorem start_of {w W : World} {n : Nat} {li en : Int} {gs gp gz B : Nat} {MP MZ : List Value} (hM : MP.length = n * 3 ∧ MZ = List.replicate (4 * n) (.slice none 0 0)) (f : Fix w B w.heap.size gs gp gz) (hB : B ≤ W.heap.size) (u : Up w W) (h6 : W.heap[w.heap.size]? = some (.cells stZ 27 (0, 0)))
    (hs : W.heap[gs]? = some (.cells #[.slice (some ⟨gp, 0, none⟩) n n, .slice none 0 0, .slice (some ⟨gz, 0, none⟩) (4 * n) (4 * n), .int .i32 1, .int .i64 0, .int .i8 0, .int .i64 0] 27 (0, 0)))
    (hp : W.heap[gp]? = some (.cells MP.toArray 99 (0, 0))) (hz : W.heap[gz]? = some (.cells MZ.toArray 28 (0, 0))) : Start w n li en gs gp gz W := by
  refine ⟨B, f, hs, ⟨MP, hp, hM.1, fun q hq => by omega⟩, ⟨MZ, hz, by rw [hM.2]; simp, fun q hq => ?_⟩, World.ownsRow_nil _ _ _ _, h6, u, hB⟩
  have : MZ.getD q nl = .slice none 0 0 := by rw [hM.2, List.getD_eq_getElem?_getD]; simp [hq]
  rw [this]
  exact World.ownsRow_nil _ _ _ _
theorem NW.done {w W : World} {B b6 gs gp gz n : Nat} {li en : Int} {vc : Value} {cards : List Crd} {zs : List (List Int)} (hf : Fix w B b6 gs gp gz) (h : NW w W B b6 gs gp gz n li en vc cards n zs) (hz : zs.length = 4 * n) (hn : n ≤ 4) :
    SO (b6 + 1) W (.agg #[.slice (some ⟨gp, 0, none⟩) n n, vc, .slice (some ⟨gz, 0, none⟩) (4 * n) (4 * n), .int .i32 1, .int .i64 0, .int .i8 0, .int .i64 0]) ⟨List.replicate n ⟨li, en, false⟩, cards, zs, 1, 0, 0, 0⟩ := by
  obtain ⟨h1, ⟨pl, h2, h3, h3'⟩, ⟨zl, h4, h5, h6⟩, h7, h8, h9, h10⟩ := h
  obtain ⟨f1, f2, f3, f4, f5, f6, f7⟩ := hf
  have hpl : pl = pvs (List.replicate n ⟨li, en, false⟩) := by
    apply List.ext_getElem?
    intro q
    by_cases hq : q < n * 3
    · exact h3' q hq
    · rw [List.getElem?_eq_none (by omega), List.getElem?_eq_none (by rw [pvs_len, List.length_replicate]; omega)]
  refine ⟨_, _, _, rfl, ?_, own_less h7 (by omega), zl, ?_, fun i hi => own_less (h6 i (by simp only at hi; omega)) (by omega)⟩
  · subst hpl
    refine ⟨by rw [pvs_len], .inr ⟨gp, n, _, by simp, by omega, h2, by simp, by unfold maxLen; omega, by simp [pvs_len], ?_⟩⟩
    simp
    exact List.take_of_length_le (by rw [pvs_len, List.length_replicate]; exact Nat.le_refl _)
  · refine ⟨by rw [h5, hz, Nat.mul_one], .inr ⟨gz, 4 * n, zl.toArray, by rw [hz], by omega, h4, by rw [hz]; exact Nat.le_refl _, by unfold maxLen; omega, by simp [h5], ?_⟩⟩
    simp
    exact List.take_of_length_le (by rw [h5, hz]; exact Nat.le_refl _)
end ST
end Go.Proofs.YtjabjiahienohaaGreatDoor
