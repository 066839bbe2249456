/-
  Marks that are lists of their own: which mark stands where is known one after the other.
-/
import Derived.Test.YtndkpfkgcaebmaaDoorBbToBks
import Derived.Test.YtndkpfkgcaebmaaDoorCsToNw
import Derived.Test.YtndkpfkgcaebmaaDoorNxaQ
import Derived.Test.YtndkpfkgcaebmaaDoorBaseToMem
namespace Go.Proofs.YtndkpfkgcaebmaaDoor.BG
open Go.RowKit

theorem mks_congr {mk mk' : Nat → Nat → List Value} {q : Nat} : ∀ {n : Nat}, (∀ x, x < n → mk q x = mk' q x) → mks mk q n = mks mk' q n
  | 0, _ => rfl
  | n + 1, h => by rw [mks_more, mks_more, mks_congr fun x hx => h x (by omega), h n (Nat.lt_succ_self _)]
def mkU (mk : Nat → Nat → List Value) (p i : Nat) (v : Value) : Nat → Nat → List Value := fun q x => if q = p ∧ x = i then [v] else mk q x
theorem mkU_len {mk : Nat → Nat → List Value} (h : ∀ q i, (mk q i).length = 1) (p i : Nat) (v : Value) : ∀ q x, (mkU mk p i v q x).length = 1 := fun q x => by
  unfold mkU
  split
  · rfl
  · exact h q x
theorem mkU_self (mk : Nat → Nat → List Value) (p i : Nat) (v : Value) : mkU mk p i v p i = [v] := by simp [mkU]
theorem mkU_ne (mk : Nat → Nat → List Value) {p i q x : Nat} (v : Value) (h : ¬ (q = p ∧ x = i)) : mkU mk p i v q x = mk q x := by simp [mkU, h]
section
variable {mk : Nat → Nat → List Value} {base b1 e e1 s : Nat}
theorem mks_U {p i q n : Nat} (v : Value) (h : q = p → n ≤ i) : mks mk q n = mks (mkU mk p i v) q n := mks_congr fun x hx => (mkU_ne mk v (fun ⟨h1, h2⟩ => by have := h h1; omega)).symm
theorem Row2.chg {W : World} {L : VL} {p i : Nat} (h : Row2 mk base e s W L p i) (v : Value) : Row2 (mkU mk p i v) base e s W L p i := fun q hq => by
  obtain ⟨xs, h1, h2, h3⟩ := h q hq
  exact ⟨xs, h1, fun hlt => by rw [h2 hlt]; exact mks_U v (by omega), fun eq => by rw [h3 eq]; exact mks_U v (fun _ => Nat.le_refl _)⟩
theorem MB.chg {W : World} {b q m p i : Nat} (h : MB mk e s W b q m) (v : Value) (hq : q = p → m ≤ i) : MB (mkU mk p i v) e s W b q m :=
  ⟨h.1, fun x j hx hj => by rw [h.2 x j hx hj, mkU_ne mk v (fun ⟨h1, h2⟩ => by have := hq h1; omega)]⟩
theorem OneOk.chg {W : World} {q m p i : Nat} {x : Value} (h : OneOk mk e s W q x m) (v : Value) (hq : q = p → m ≤ i) : OneOk (mkU mk p i v) e s W q x m := by
  obtain ⟨o, cap, hx, h⟩ := h
  exact ⟨o, cap, hx, h.chg v hq⟩
theorem In.chg {W : World} {L : VL} {p : Nat} {one more : Value} {os ms : List Value} {l : Value} {i k : Nat} (h : In mk base b1 e e1 s W L p one more os ms l i k) (v : Value) : In (mkU mk p i v) base b1 e e1 s W L p one more os ms l i k := by
  have hK := h.K
  refine ⟨fun r h1 h2 => ?_, fun q hq g hg => (h.B q hq g hg).chg v (fun eq => by subst eq; omega), ⟨h.C.1, fun q hq => (h.C.2 q hq).chg v (fun eq => by subst eq; omega)⟩, ⟨h.D.1, fun q hq => (h.D.2 q hq).chg v (fun eq => by omega)⟩, h.K, ?_, h.S1, h.S2, h.E, h.Z⟩
  · rw [← mks_U v (by omega)]; exact h.A r h1 h2
  · rw [← mks_U v (fun _ => Nat.le_refl _)]; exact h.R
end
/- the marks that are set: each a list of one number, in a block of its own -/
def MkOk (tI : Nat) (mk : Nat → Nat → List Value) (S : Nat → Nat → Prop) (W : World) : Prop := ∀ q x, S q x → ∃ g, mk q x = [.slice (some ⟨g, 0, none⟩) 1 1] ∧ W.heap[g]? = some (.cells #[.int .i64 (bnum q x)] tI (0, 0))
theorem MkOk.keep {tI : Nat} {mk : Nat → Nat → List Value} {S S' : Nat → Nat → Prop} {W W' : World} (h : MkOk tI mk S W) (k : ∀ (g : Nat) (cs : Array Value), W.heap[g]? = some (.cells cs tI (0, 0)) → W'.heap[g]? = some (.cells cs tI (0, 0))) (hS : ∀ q x, S' q x → S q x) : MkOk tI mk S' W' := fun q x hq => by
  obtain ⟨g, h1, h2⟩ := h q x (hS q x hq)
  exact ⟨g, h1, k g _ h2⟩
theorem MkOk.up {tI : Nat} {mk : Nat → Nat → List Value} {S : Nat → Nat → Prop} {W W' : World} (h : MkOk tI mk S W) (u : Up W W') : MkOk tI mk S W' := h.keep (fun _ _ hg => u.heap hg) (fun _ _ h => h)
theorem MkOk.put {tI : Nat} {mk : Nat → Nat → List Value} {S S' : Nat → Nat → Prop} {W : World} {p i g : Nat} (h : MkOk tI mk S W) (hg : W.heap[g]? = some (.cells #[.int .i64 (bnum p i)] tI (0, 0))) (hS : ∀ q x, S' q x → S q x ∨ (q = p ∧ x = i)) : MkOk tI (mkU mk p i (.slice (some ⟨g, 0, none⟩) 1 1)) S' W := fun q x hq => by
  by_cases eq : q = p ∧ x = i
  · obtain ⟨rfl, rfl⟩ := eq
    exact ⟨g, mkU_self _ _ _ _, hg⟩
  · obtain ⟨g', h1, h2⟩ := h q x ((hS q x hq).resolve_right eq)
    exact ⟨g', by rw [mkU_ne mk _ eq]; exact h1, h2⟩
theorem keep_grown {W W' : World} {v : Value} {n base t s tI : Nat} {xs : List Value} (h : W.ownsRow base t s v n xs) (hg : W.grownBy W' v.ownBlock) (ht : t ≠ tI) : ∀ (g : Nat) (cs : Array Value), W.heap[g]? = some (.cells cs tI (0, 0)) → W'.heap[g]? = some (.cells cs tI (0, 0)) := fun g cs hgc => by
  rw [hg.block g (Array.getElem?_eq_some_iff.1 hgc).1 (fun e => ty_apart h hgc ht e.symm)]
  exact hgc
theorem keep_set {W : World} {a j t tI : Nat} {c : Array Value} {x : Value} (h : W.heap[a]? = some (.cells c t (0, 0))) (ht : t ≠ tI) : ∀ (g : Nat) (cs : Array Value), W.heap[g]? = some (.cells cs tI (0, 0)) → (W.setCell ⟨a, j, none⟩ x).heap[g]? = some (.cells cs tI (0, 0)) := fun g cs hgc => by
  rw [Below.heap_setCell _ _ _ _ (by
    show g ≠ a
    rintro rfl
    rw [h] at hgc
    cases hgc
    exact ht rfl)]
  exact hgc
/- which marks are set, at list p and element i, and ahead of list p -/
def S1 (L : VL) (p i q x : Nat) : Prop := (q < p ∧ x < (L.getD q dv).2) ∨ (q = p ∧ x < i)
def S2 (L : VL) (p i q x : Nat) : Prop := (q < p ∧ x < (L.getD q dv).2 + 70) ∨ (q = p ∧ x < i) ∨ (p < q ∧ q < L.length ∧ x < (L.getD q dv).2)
def SP (L : VL) (p q x : Nat) : Prop := (q < p ∧ x < (L.getD q dv).2 + 70) ∨ (p ≤ q ∧ q < L.length ∧ x < (L.getD q dv).2)
theorem s1_next {L : VL} {p i q x : Nat} (h : S1 L p (i + 1) q x) : S1 L p i q x ∨ (q = p ∧ x = i) := by unfold S1 at *; omega
theorem s1_done {L : VL} {p q x : Nat} (h : S1 L (p + 1) 0 q x) : S1 L p (L.getD p dv).2 q x := by
  unfold S1 at *
  rcases h with ⟨h1, h2⟩ | ⟨_, h2⟩
  · by_cases e : q = p
    · subst e; exact .inr ⟨rfl, h2⟩
    · exact .inl ⟨by omega, h2⟩
  · omega
theorem sp_start {L : VL} {q x : Nat} (h : SP L 0 q x) : S1 L L.length 0 q x := by unfold SP at h; unfold S1; omega
theorem s2_start {L : VL} {p q x : Nat} (hp : p < L.length) (h : S2 L p (L.getD p dv).2 q x) : SP L p q x := by
  unfold S2 at h; unfold SP
  rcases h with h | ⟨rfl, h⟩ | h
  · exact .inl h
  · exact .inr ⟨Nat.le_refl _, hp, h⟩
  · exact .inr ⟨by omega, h.2⟩
theorem s2_next {L : VL} {p i q x : Nat} (h : S2 L p (i + 1) q x) : S2 L p i q x ∨ (q = p ∧ x = i) := by unfold S2 at *; omega
theorem s2_done {L : VL} {p q x : Nat} (h : SP L (p + 1) q x) : S2 L p ((L.getD p dv).2 + 70) q x := by
  unfold SP at h; unfold S2
  rcases h with ⟨h1, h2⟩ | ⟨h1, h2⟩
  · by_cases e : q = p
    · subst e; exact .inr (.inl ⟨rfl, h2⟩)
    · exact .inl ⟨by omega, h2⟩
  · exact .inr (.inr ⟨by omega, h2⟩)
end Go.Proofs.YtndkpfkgcaebmaaDoor.BG
/-
  The document's New: the state as far as it is made.
-/
namespace Go.Proofs.YtndkpfkgcaebmaaDoor
open Go.RowKit
namespace ST

theorem RA.setNe {m k : Nat} {vs : List Value} {x : Value} (h : RA m vs) (hk : k < vs.length) (hx : ∀ q g, q < m → q ≠ k → (vs.getD q nl).ownBlock = some g → x.ownBlock ≠ some g) : RA m (vs.set k x) := by
  have e1 : (vs.set k x).getD k nl = x := by rw [List.getD_eq_getElem?_getD, List.getElem?_set_self hk]; rfl
  have e2 : ∀ p, p ≠ k → (vs.set k x).getD p nl = vs.getD p nl := fun p hp => by rw [List.getD_eq_getElem?_getD, List.getElem?_set_ne (fun h => hp h.symm), ← List.getD_eq_getElem?_getD]
  intro p q g hp hq hpq h1 h2
  by_cases ep : p = k
  · subst ep
    rw [e1] at h1
    rw [e2 q (fun h => hpq h.symm)] at h2
    exact hx q g hq (fun h => hpq h.symm) h2 h1
  · rw [e2 p ep] at h1
    by_cases eq : q = k
    · subst eq
      rw [e1] at h2
      exact hx p g hp ep h1 h2
    · rw [e2 q eq] at h2
      exact h p q g hp hq hpq h1 h2
theorem row_kept {W W2 : World} {b1 b2 e1 e2 s1 s2 n1 n2 : Nat} {v u : Value} {x1 x2 : List Value} (h : W.ownsRow b1 e1 s1 v n1 x1) (hu : W.ownsRow b2 e2 s2 u n2 x2) (hg : W.grownBy W2 u.ownBlock) (he : e2 ≠ e1) : W2.ownsRow b1 e1 s1 v n1 x1 :=
  BG.own_block h fun g hgv => by
    obtain ⟨cur, hc⟩ := BG.own_ty h hgv
    rw [hc]
    exact BG.keep_grown hu hg he g cur hc
structure RN (w W : World) (bs gz n : Nat) (vp vc : Value) (zl : List Value) (pls : List Ply) (cards : List Crd) (zs : Nat → List Int) : Prop where
  up : Up w W
  sb : W.heap[bs]? = some (.cells #[vp, vc, .slice (some ⟨gz, 0, none⟩) (4 * n) (4 * n), .int .i32 1, .int .i64 0, .int .i8 0, .int .i64 0] 27 (0, 0))
  p : PO w.heap.size W vp pls
  c : CO w.heap.size W vc cards
  z : W.heap[gz]? = some (.cells zl.toArray 74 (0, 0)) ∧ zl.length = 4 * n ∧ (∀ q, q < 4 * n → IRow w.heap.size W (zl.getD q nl) (zs q)) ∧ RA (4 * n) zl
  lo : w.heap.size < bs ∧ w.heap.size < gz
  b6 : W.heap[w.heap.size]? = some (.cells stZ 27 (0, 0))
theorem RN.mono {w W W' : World} {bs gz n : Nat} {vp vc : Value} {zl : List Value} {pls : List Ply} {cards : List Crd} {zs : Nat → List Int} (h : RN w W bs gz n vp vc zl pls cards zs) (u : Up W W') : RN w W' bs gz n vp vc zl pls cards zs :=
  ⟨h.up.trans u, u.heap h.sb, row_up h.p u, row_up h.c u, ⟨u.heap h.z.1, h.z.2.1, fun q hq => row_up (h.z.2.2.1 q hq) u, h.z.2.2.2⟩, h.lo, u.heap h.b6⟩
theorem up_grown {w W W2 : World} {e s n : Nat} {v : Value} {xs : List Value} (u : Up w W) (h : W.ownsRow w.heap.size e s v n xs) (hg : W.grownBy W2 v.ownBlock) : Up w W2 := Below.grown u hg (Nat.le_trans (Nat.le_refl _) u.size) (fun _ hk => (h.lt _ hk).1)
/- a player more -/
theorem RN.addP {w W W2 : World} {bs gz n : Nat} {vp vc vp' : Value} {zl : List Value} {pls pls' : List Ply} {cards : List Crd} {zs : Nat → List Int} (h : RN w W bs gz n vp vc zl pls cards zs) (hg : W.grownBy W2 vp.ownBlock) (hp : PO w.heap.size W2 vp' pls') : RN w (W2.setCell ⟨bs, 0, none⟩ vp') bs gz n vp' vc zl pls' cards zs := by
  have ks := BG.keep_grown h.p hg (by decide) bs _ h.sb
  have kz := BG.keep_grown h.p hg (by decide) gz _ h.z.1
  have k6 := BG.keep_grown h.p hg (by decide) w.heap.size _ h.b6
  have hlo := h.lo
  refine ⟨Up.set (up_grown h.up h.p hg) _ _ (Nat.le_of_lt h.lo.1), ?_, row_set_ty hp ks (by decide), row_set_ty (row_kept h.c h.p hg (by decide)) ks (by decide), ⟨set_other kz (heap_ne kz ks (by decide)), h.z.2.1, fun q hq => row_set_ty (row_kept (h.z.2.2.1 q hq) h.p hg (by decide)) ks (by decide), h.z.2.2.2⟩, h.lo, set_other k6 (by omega)⟩
  have := set_cells (j := 0) (x := vp') ks
  simpa using this
/- a card more -/
theorem RN.addC {w W W2 : World} {bs gz n : Nat} {vp vc vc' : Value} {zl : List Value} {pls : List Ply} {cards cards' : List Crd} {zs : Nat → List Int} (h : RN w W bs gz n vp vc zl pls cards zs) (hg : W.grownBy W2 vc.ownBlock) (hc : CO w.heap.size W2 vc' cards') : RN w (W2.setCell ⟨bs, 1, none⟩ vc') bs gz n vp vc' zl pls cards' zs := by
  have ks := BG.keep_grown h.c hg (by decide) bs _ h.sb
  have kz := BG.keep_grown h.c hg (by decide) gz _ h.z.1
  have k6 := BG.keep_grown h.c hg (by decide) w.heap.size _ h.b6
  have hlo := h.lo
  refine ⟨Up.set (up_grown h.up h.c hg) _ _ (Nat.le_of_lt h.lo.1), ?_, row_set_ty (row_kept h.p h.c hg (by decide)) ks (by decide), row_set_ty hc ks (by decide), ⟨set_other kz (heap_ne kz ks (by decide)), h.z.2.1, fun q hq => row_set_ty (row_kept (h.z.2.2.1 q hq) h.c hg (by decide)) ks (by decide), h.z.2.2.2⟩, h.lo, set_other k6 (by omega)⟩
  have := set_cells (j := 1) (x := vc') ks
  simpa using this
/- a number more in zone k -/
theorem RN.addZ {w W W2 : World} {bs gz n k : Nat} {vp vc x : Value} {zl : List Value} {pls : List Ply} {cards : List Crd} {zs : Nat → List Int} {l : List Int} (h : RN w W bs gz n vp vc zl pls cards zs) (hk : k < 4 * n) (hg : W.grownBy W2 (zl.getD k nl).ownBlock) (hx : IRow w.heap.size W2 x l) (hln : BG.LiesNew (zl.getD k nl) x W) : RN w (W2.setCell ⟨gz, k, none⟩ x) bs gz n vp vc (zl.set k x) pls cards (fun q => if q = k then l else zs q) := by
  have hz := h.z.2.2.1 k hk
  have ks := BG.keep_grown hz hg (by decide) bs _ h.sb
  have kz := BG.keep_grown hz hg (by decide) gz _ h.z.1
  have k6 := BG.keep_grown hz hg (by decide) w.heap.size _ h.b6
  have hlo := h.lo
  have hl := h.z.2.1
  refine ⟨Up.set (up_grown h.up hz hg) _ _ (Nat.le_of_lt h.lo.2), set_other ks (heap_ne ks kz (by decide)), row_set_ty (row_kept h.p hz hg (by decide)) kz (by decide), row_set_ty (row_kept h.c hz hg (by decide)) kz (by decide), ⟨?_, by simpa using hl, fun q hq => ?_, RA.setNe h.z.2.2.2 (by omega) (fun q g hq hqk hgq hgx => ?_)⟩, h.lo, set_other k6 (by omega)⟩
  · have := set_cells (j := k) (x := x) kz
    simpa using this
  · by_cases e : q = k
    · subst e
      rw [List.getD_eq_getElem?_getD, List.getElem?_set_self (by omega), if_pos rfl]
      exact row_set_ty hx kz (by decide)
    · rw [List.getD_eq_getElem?_getD, List.getElem?_set_ne (fun h => e h.symm), ← List.getD_eq_getElem?_getD, if_neg e]
      have hq2 := h.z.2.2.1 q hq
      refine row_set_ty (BG.own_block hq2 fun g hgq => hg.block g (BG.row_lt hq2 hgq) (fun e2 => ?_)) kz (by decide)
      exact h.z.2.2.2 q k g hq hk e hgq e2.symm
  · rcases hln with e | ⟨g9, e, hge⟩
    · rw [e] at hgx
      exact h.z.2.2.2 q k g hq hk hqk hgq hgx
    · rw [e] at hgx
      have e9 : g9 = g := by simpa using hgx
      have := BG.row_lt (h.z.2.2.1 q hq) hgq
      omega
end ST
end Go.Proofs.YtndkpfkgcaebmaaDoor
/-
  What New makes may be, and where its cards stand; no program.
-/
namespace Go.Proofs.YtndkpfkgcaebmaaDoor
namespace ST
theorem numsF_split (a k l : Nat) : numsF a (k + l) = numsF a k ++ numsF (a + k) l := by
  unfold numsF
  rw [List.range_add, List.map_append, List.map_map]
  congr 1
  apply List.map_congr_left
  intro i _
  simp only [Function.comp_def]
  rw [Nat.add_assoc]
theorem zonesF_flat : ∀ (ds : List (List Crd)) (a : Nat), (zonesF a ds).flatten = numsF a (total ds) := by
  intro ds
  induction ds with
  | nil => intro a; rfl
  | cons d ds ih =>
    intro a
    have : total (d :: ds) = d.length + total ds := by simp [total]
    rw [this, numsF_split, ← ih (a + d.length)]
    simp [zonesF]
theorem zonesF_length : ∀ (ds : List (List Crd)) (a : Nat), (zonesF a ds).length = 4 * ds.length := by
  intro ds
  induction ds with
  | nil => intro a; rfl
  | cons d ds ih => intro a; simp only [zonesF, List.length_cons, ih]; omega
theorem cardsF_ok (n : Nat) : ∀ (ds : List (List Crd)) (p : Nat), p + ds.length ≤ n → (ds.all (fun d => d.all crd0B)) = true → ∀ c ∈ cardsF p ds, crdB n c = true := by
  intro ds
  induction ds with
  | nil => intro p _ _ c hc; cases hc
  | cons d ds ih =>
    intro p hp hall c hc
    simp only [List.all_cons, Bool.and_eq_true] at hall
    simp only [List.length_cons] at hp
    rcases List.mem_append.1 hc with hc | hc
    · simp only [owned, List.mem_map] at hc
      obtain ⟨c0, h0, rfl⟩ := hc
      have h1 := List.all_eq_true.1 hall.1 c0 h0
      simp only [crdB, Bool.and_eq_true]
      exact ⟨h1, by simp [numB]; omega⟩
    · exact ih (p + 1) (by omega) hall.2 c hc
theorem zones_at : ∀ (ds : List (List Crd)) (a p i : Nat), i < total ds → ∃ z j, z < ds.length ∧ j < ((zonesF a ds).getD (4 * z) []).length ∧ ((zonesF a ds).getD (4 * z) []).getD j 0 = ((a + i : Nat) : Int) ∧ ((cardsF p ds).getD i dc).owner = ((p + z : Nat) : Int) := by
  intro ds
  induction ds with
  | nil => intro a p i h; simp [total] at h
  | cons d ds ih =>
    intro a p i h
    have ht : total (d :: ds) = d.length + total ds := by simp [total]
    by_cases hi : i < d.length
    · refine ⟨0, i, by simp, ?_, ?_, ?_⟩
      · simp [zonesF, numsF, hi]
      · simp [zonesF, numsF, hi]
      · rw [cardsF, List.getD_eq_getElem?_getD, List.getElem?_append_left (by simpa [owned] using hi)]
        simp [owned, hi]
    · obtain ⟨z, j, h1, h2, h3, h4⟩ := ih (a + d.length) (p + 1) (i - d.length) (by omega)
      refine ⟨z + 1, j, by simpa using h1, ?_, ?_, ?_⟩
      · rw [show 4 * (z + 1) = 4 * z + 1 + 1 + 1 + 1 by omega]
        simpa only [zonesF, List.getD_cons_succ] using h2
      · rw [show 4 * (z + 1) = 4 * z + 1 + 1 + 1 + 1 by omega]
        simp only [zonesF, List.getD_cons_succ]
        rw [h3]
        congr 1
        omega
      · rw [cardsF, List.getD_eq_getElem?_getD, List.getElem?_append_right (by simpa [owned] using (by omega : d.length ≤ i))]
        rw [show i - (owned p d).length = i - d.length by simp [owned], ← List.getD_eq_getElem?_getD, h4]
        congr 1
        omega
theorem new_may (ds : List (List Crd)) (li en : Int) (h : newB ds li en = true) : ff (newS ds li en) = none := by
  simp only [newB, decksB, Bool.and_eq_true] at h
  obtain ⟨⟨⟨⟨hn, hc⟩, hall⟩, hli⟩, hen⟩ := h
  have hn2 := hn
  simp only [npB, Bool.and_eq_true, decide_eq_true_eq] at hn2
  have hcl : (cardsF 0 ds).length = total ds := cardsF_len ds 0
  refine (ff_none _).2 ⟨⟨?_, ?_, ?_, ?_, ?_, ?_, ?_⟩, ?_, ?_⟩
  · simp only [sizesB, newS, List.length_replicate, Bool.and_eq_true, decide_eq_true_eq]
    exact ⟨⟨hn, by rw [hcl]; exact hc⟩, zonesF_length ds 0⟩
  · intro p hp
    simp only [newS] at hp
    rw [List.eq_of_mem_replicate hp]
    simp [plyB, hli, hen]
  · intro c hc
    simp only [newS, List.length_replicate] at hc ⊢
    exact cardsF_ok ds.length ds 0 (by omega) hall c hc
  · simp [newS]
  · simp [newS, numB]; omega
  · simp [newS, finB]
  · simp [newS, winB]
  · show Ent (cardsF 0 ds).length (zonesF 0 ds).flatten
    rw [zonesF_flat, hcl]
    refine ⟨?_, fun x hx => ?_⟩
    · unfold numsF List.Nodup
      rw [List.pairwise_map]
      exact List.Pairwise.imp (fun {a b} (h : a ≠ b) => by omega) (List.nodup_range (n := total ds))
    · simp only [numsF, List.mem_map, List.mem_range] at hx
      obtain ⟨i, hi, rfl⟩ := hx
      simp [numB]; omega
  · show (zonesF 0 ds).flatten.length = (cardsF 0 ds).length
    rw [zonesF_flat, hcl]
    simp [numsF]
theorem new_where (ds : List (List Crd)) (li en : Int) (h : newB ds li en = true) (i : Nat) (hi : i < total ds) : ∃ z j, whereOf (newS ds li en) (i : Int) = some (4 * z, j) ∧ z < ds.length ∧ ((newS ds li en).cs.getD i dc).owner = (z : Int) := by
  have hm := new_may ds li en h
  obtain ⟨z, j, h1, h2, h3, h4⟩ := zones_at ds 0 0 i hi
  have hent := (ff_none _).1 hm
  refine ⟨z, j, ?_, h1, by simpa [newS] using h4⟩
  rw [whereOf, if_pos hm]
  have := flat_one (newS ds li en).zs hent.2.1.1 (i : Int) (4 * z) j 0 (by show 4 * z < (zonesF 0 ds).length; rw [zonesF_length]; omega) h2 (by simpa [newS] using h3)
  rw [this, Nat.zero_add]
end ST
end Go.Proofs.YtndkpfkgcaebmaaDoor
