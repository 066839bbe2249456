
/-
  Lists that lie apart: while each goes on growing, what was gathered stays.
-/
import Derived.Test.YtoaaehgnbapibaaDoorBkg
namespace Go.Proofs.YtoaaehgnbapibaaDoor.BG
open Go.RowKit

theorem ty_apart {W : World} {base e s q g : Nat} {v : Value} {xs : List Value} {cs : Array Value} {t : TypeId} (h : W.ownsRow base e s v q xs) (hg : W.heap[g]? = some (.cells cs t (0, 0))) (ht : e ≠ t) : v.ownBlock ≠ some g := by
  rcases h.2 with ⟨rfl, h0⟩ | ⟨g', cap, cur, rfl, _, h1, _⟩
  · simp [Value.ownBlock]
  · intro eq
    have eq' : g' = g := by simpa [Value.ownBlock] using eq
    subst eq'
    rw [h1] at hg
    cases hg
    exact ht rfl
theorem own_ty {W : World} {base e s q g : Nat} {v : Value} {xs : List Value} (h : W.ownsRow base e s v q xs) (hg : v.ownBlock = some g) : ∃ cur, W.heap[g]? = some (.cells cur e (0, 0)) := by
  rcases h.2 with ⟨rfl, h0⟩ | ⟨g', cap, cur, rfl, _, h1, _⟩
  · cases hg
  · have eq' : g' = g := by simpa [Value.ownBlock] using hg
    subst eq'
    exact ⟨cur, h1⟩
def OneOk (mk : Nat → Nat → List Value) (e s : Nat) (W : World) (q : Nat) (x : Value) (m : Nat) : Prop := ∃ o cap, x = .slice (some ⟨o, 0, none⟩) m cap ∧ MB mk e s W o q m
theorem OneOk.blk {mk : Nat → Nat → List Value} {e s : Nat} {W W' : World} {q : Nat} {x : Value} {m : Nat} (h : OneOk mk e s W q x m) (k : ∀ b, x.ownBlock = some b → W'.heap[b]? = W.heap[b]?) : OneOk mk e s W' q x m := by
  obtain ⟨o, cap, rfl, h⟩ := h
  exact ⟨o, cap, rfl, h.block (k o rfl)⟩
theorem OneOk.lt {mk : Nat → Nat → List Value} {e s : Nat} {W : World} {q : Nat} {x : Value} {m b : Nat} (h : OneOk mk e s W q x m) (hb : x.ownBlock = some b) : b < W.heap.size := by
  obtain ⟨o, cap, rfl, h⟩ := h
  have : o = b := by simpa [Value.ownBlock] using hb
  subst this
  exact h.lt
theorem OneOk.ty {mk : Nat → Nat → List Value} {e s : Nat} {W : World} {q : Nat} {x : Value} {m b : Nat} (h : OneOk mk e s W q x m) (hb : x.ownBlock = some b) : ∃ cur, W.heap[b]? = some (.cells cur e (0, 0)) := by
  obtain ⟨o, cap, rfl, h⟩ := h
  have : o = b := by simpa [Value.ownBlock] using hb
  subst this
  exact h.1
variable {mk : Nat → Nat → List Value} {base b1 e e1 s : Nat}
/- ahead of list p -/
structure Ph (mk : Nat → Nat → List Value) (base b1 e e1 s : Nat) (W : World) (L : VL) (p : Nat) (one more : Value) (os ms : List Value) : Prop where
  A : ∀ r, p ≤ r → r < L.length → W.ownsRow base e s (L.getD r dv).1 (L.getD r dv).2 (mks mk r (L.getD r dv).2)
  B : ∀ q, q < p → ∀ g, (L.getD q dv).1.ownBlock = some g → MB mk e s W g q (L.getD q dv).2
  C : W.ownsRow b1 e1 1 one p os ∧ ∀ q, q < p → OneOk mk e s W q (os.getD q (Value.slice none 0 0)) ((L.getD q dv).2 + 1)
  D : W.ownsRow b1 e1 1 more p ms ∧ ∀ q, q < p → OneOk mk e s W q (ms.getD q (Value.slice none 0 0)) ((L.getD q dv).2 + 70)
  S : ∀ q, q < p → ∀ r, p ≤ r → r < L.length → ∀ b, (L.getD r dv).1.ownBlock = some b → (os.getD q (Value.slice none 0 0)).ownBlock ≠ some b ∧ (ms.getD q (Value.slice none 0 0)).ownBlock ≠ some b
  E : one.ownBlock = none ∨ one.ownBlock ≠ more.ownBlock
  Z : b1 ≤ W.heap.size ∧ base ≤ W.heap.size
/- within list p: l has i elements, one holds k lists -/
structure In (mk : Nat → Nat → List Value) (base b1 e e1 s : Nat) (W : World) (L : VL) (p : Nat) (one more : Value) (os ms : List Value) (l : Value) (i k : Nat) : Prop where
  A : ∀ r, p < r → r < L.length → W.ownsRow base e s (L.getD r dv).1 (L.getD r dv).2 (mks mk r (L.getD r dv).2)
  B : ∀ q, q ≤ p → ∀ g, (L.getD q dv).1.ownBlock = some g → MB mk e s W g q (L.getD q dv).2
  C : W.ownsRow b1 e1 1 one k os ∧ ∀ q, q < k → OneOk mk e s W q (os.getD q (Value.slice none 0 0)) ((L.getD q dv).2 + 1)
  D : W.ownsRow b1 e1 1 more p ms ∧ ∀ q, q < p → OneOk mk e s W q (ms.getD q (Value.slice none 0 0)) ((L.getD q dv).2 + 70)
  K : (k = p ∧ i = (L.getD p dv).2) ∨ (k = p ∧ i = (L.getD p dv).2 + 1) ∨ (k = p + 1 ∧ (L.getD p dv).2 + 1 ≤ i)
  R : W.ownsRow base e s l i (mks mk p i)
  S1 : ∀ b, l.ownBlock = some b → (∀ q, q < p → (L.getD q dv).1.ownBlock ≠ some b ∧ (os.getD q (Value.slice none 0 0)).ownBlock ≠ some b ∧ (ms.getD q (Value.slice none 0 0)).ownBlock ≠ some b) ∧ ∀ r, p < r → r < L.length → (L.getD r dv).1.ownBlock ≠ some b
  S2 : ∀ r, p < r → r < L.length → ∀ b, (L.getD r dv).1.ownBlock = some b → (∀ q, q < k → (os.getD q (Value.slice none 0 0)).ownBlock ≠ some b) ∧ ∀ q, q < p → (ms.getD q (Value.slice none 0 0)).ownBlock ≠ some b
  E : one.ownBlock = none ∨ one.ownBlock ≠ more.ownBlock
  Z : b1 ≤ W.heap.size ∧ base ≤ W.heap.size
theorem mb_up {W W' : World} {b q m : Nat} (h : MB mk e s W b q m) (u : Up W W') : MB mk e s W' b q m := h.block (u.block b h.lt)
theorem one_up {W W' : World} {q : Nat} {x : Value} {m : Nat} (h : OneOk mk e s W q x m) (u : Up W W') : OneOk mk e s W' q x m := h.blk (fun b hb => u.block b (h.lt hb))
theorem Ph.up {W W' : World} {L : VL} {p : Nat} {one more : Value} {os ms : List Value} (h : Ph mk base b1 e e1 s W L p one more os ms) (u : Up W W') : Ph mk base b1 e e1 s W' L p one more os ms :=
  ⟨fun r h1 h2 => row_up (h.A r h1 h2) u, fun q hq g hg => mb_up (h.B q hq g hg) u, ⟨row_up h.C.1 u, fun q hq => one_up (h.C.2 q hq) u⟩, ⟨row_up h.D.1 u, fun q hq => one_up (h.D.2 q hq) u⟩, h.S, h.E, ⟨Nat.le_trans h.Z.1 u.size, Nat.le_trans h.Z.2 u.size⟩⟩
theorem In.up {W W' : World} {L : VL} {p : Nat} {one more : Value} {os ms : List Value} {l : Value} {i k : Nat} (h : In mk base b1 e e1 s W L p one more os ms l i k) (u : Up W W') : In mk base b1 e e1 s W' L p one more os ms l i k :=
  ⟨fun r h1 h2 => row_up (h.A r h1 h2) u, fun q hq g hg => mb_up (h.B q hq g hg) u, ⟨row_up h.C.1 u, fun q hq => one_up (h.C.2 q hq) u⟩, ⟨row_up h.D.1 u, fun q hq => one_up (h.D.2 q hq) u⟩, h.K, row_up h.R u, h.S1, h.S2, h.E, ⟨Nat.le_trans h.Z.1 u.size, Nat.le_trans h.Z.2 u.size⟩⟩
theorem Ph.inn (hs : ∀ q i, (mk q i).length = s) {W : World} {L : VL} {p : Nat} {one more : Value} {os ms : List Value} (h : Ph mk base b1 e e1 s W L p one more os ms) (hp : p < L.length) (hd : Apart L) : In mk base b1 e e1 s W L p one more os ms (L.getD p dv).1 (L.getD p dv).2 p := by
  refine ⟨fun r h1 h2 => h.A r (by omega) h2, fun q hq g hg => ?_, h.C, h.D, .inl ⟨rfl, rfl⟩, h.A p (Nat.le_refl _) hp, fun b hb => ⟨fun q hq => ⟨fun hc => hd q p b (by omega) hp (by omega) hc hb, (h.S q hq p (Nat.le_refl _) hp b hb).1, (h.S q hq p (Nat.le_refl _) hp b hb).2⟩, fun r h1 h2 hc => hd p r b hp h2 (by omega) hb hc⟩, fun r h1 h2 b hb => ⟨fun q hq => (h.S q hq r (by omega) h2 b hb).1, fun q hq => (h.S q hq r (by omega) h2 b hb).2⟩, h.E, h.Z⟩
  by_cases eq : q = p
  · subst eq; exact mb_own hs (h.A q (Nat.le_refl _) hp) hg
  · exact h.B q (by omega) g hg
/- list l goes on -/
theorem In.grow (hs : ∀ q i, (mk q i).length = s) {W W' : World} {L : VL} {p : Nat} {one more : Value} {os ms : List Value} {l l' : Value} {i k : Nat} (h : In mk base b1 e e1 s W L p one more os ms l i k) (hk : i = (L.getD p dv).2 + 1 → k = p + 1) (hee : e ≠ e1) (hR : W'.ownsRow base e s l' (i + 1) (mks mk p (i + 1))) (hg : W.grownBy W' l.ownBlock) (hkp : KeptS l (i * s) W W') (hl : LiesNew l l' W) (ht : TyK W W') : In mk base b1 e e1 s W' L p one more os ms l' (i + 1) k := by
  have nb : ∀ b, b < W.heap.size → l.ownBlock ≠ some b → W'.heap[b]? = W.heap[b]? := fun b hb hn => hg.block b hb (fun h => hn h.symm)
  have ni : (L.getD p dv).2 ≤ i := by rcases h.K with ⟨-, a⟩ | ⟨-, a⟩ | ⟨-, a⟩ <;> omega
  have keepMB : ∀ b q m, MB mk e s W b q m → (l.ownBlock = some b → m ≤ i) → MB mk e s W' b q m := fun b q m hm hc => by
    obtain ⟨⟨cur, h1⟩, h2⟩ := hm
    refine ⟨ht b cur e h1, fun x j hx hj => ?_⟩
    have h3 := h2 x j hx hj
    have hy : j < (mk q x).length := by rw [hs]; exact hj
    rw [List.getElem?_eq_getElem hy] at h3 ⊢
    refine hkp b (x * s + j) _ h3 (fun hb => ?_)
    have := hc hb
    have h4 : (x + 1) * s ≤ i * s := Nat.mul_le_mul_right _ (by omega)
    rw [Nat.succ_mul] at h4
    omega
  have keepOne : ∀ q x m, OneOk mk e s W q x m → (∀ b, l.ownBlock = some b → x.ownBlock = some b → m ≤ i) → OneOk mk e s W' q x m := fun q x m hm hc => by
    obtain ⟨o, cap, rfl, hm⟩ := hm
    exact ⟨o, cap, rfl, keepMB o q m hm (fun hb => hc o hb rfl)⟩
  have other : ∀ {bb k9 : Nat} {v : Value} {xs : List Value}, W.ownsRow bb e1 1 v k9 xs → W'.ownsRow bb e1 1 v k9 xs := fun {bb k9 v xs} hv => own_block hv (fun b hb => by
    obtain ⟨cur, h1⟩ := own_ty hv hb
    exact nb b (Array.getElem?_eq_some_iff.1 h1).1 (ty_apart h.R h1 hee))
  refine ⟨fun r h1 h2 => own_block (h.A r h1 h2) (fun b hb => ?_), fun q hq g hgq => ?_, ⟨other h.C.1, fun q hq => keepOne q _ _ (h.C.2 q hq) (fun b hb hx => ?_)⟩, ⟨other h.D.1, fun q hq => keepOne q _ _ (h.D.2 q hq) (fun b hb hx => ?_)⟩, ?_, hR, fun b hb => ?_, h.S2, h.E, ⟨Nat.le_trans h.Z.1 hg.size, Nat.le_trans h.Z.2 hg.size⟩⟩
  · obtain ⟨cur, h3⟩ := own_ty (h.A r h1 h2) hb
    exact nb b (Array.getElem?_eq_some_iff.1 h3).1 (fun hc => (h.S1 b hc).2 r h1 h2 hb)
  · refine keepMB g q _ (h.B q hq g hgq) (fun hc => ?_)
    by_cases eq : q = p
    · subst eq; exact ni
    · exact absurd hgq ((h.S1 g hc).1 q (by omega)).1
  · by_cases eq : q < p
    · exact absurd hx ((h.S1 b hb).1 q eq).2.1
    · rcases h.K with ⟨a, -⟩ | ⟨a, -⟩ | ⟨a, c⟩
      · omega
      · omega
      · have : q = p := by omega
        subst this; exact c
  · exact absurd hx ((h.S1 b hb).1 q hq).2.2
  · rcases h.K with ⟨a, c⟩ | ⟨a, c⟩ | ⟨a, c⟩
    · exact .inr (.inl ⟨a, by omega⟩)
    · have := hk c; omega
    · exact .inr (.inr ⟨a, by omega⟩)
  · rcases hl with hl | ⟨g, hl, hge⟩
    · rw [hl] at hb; exact h.S1 b hb
    · rw [hl] at hb
      have hgb : g = b := by simpa using hb
      subst hgb
      refine ⟨fun q hq => ⟨fun hc => ?_, fun hc => ?_, fun hc => ?_⟩, fun r h1 h2 hc => ?_⟩
      · have := (h.B q (by omega) g hc).lt; omega
      · by_cases hqk : q < k
        · have := (h.C.2 q hqk).lt hc; omega
        · have : p ≤ k := by rcases h.K with ⟨a, -⟩ | ⟨a, -⟩ | ⟨a, -⟩ <;> omega
          omega
      · have := (h.D.2 q hq).lt hc; omega
      · obtain ⟨cur, h3⟩ := own_ty (h.A r h1 h2) hc
        have := (Array.getElem?_eq_some_iff.1 h3).1; omega
theorem getD_app {os : List Value} {x : Value} {k : Nat} (hl : os.length = k) (q : Nat) : (os ++ [x]).getD q (Value.slice none 0 0) = if q = k then x else os.getD q (Value.slice none 0 0) := by
  subst hl
  by_cases eq : q = os.length
  · subst eq; simp
  · rw [if_neg eq, List.getD_eq_getElem?_getD, List.getD_eq_getElem?_getD]
    by_cases hlt : q < os.length
    · rw [List.getElem?_append_left hlt]
    · rw [List.getElem?_eq_none (by simp; omega), List.getElem?_eq_none (by omega)]
/- the list is kept as the one of 'one' -/
theorem In.keep (hs : ∀ q i, (mk q i).length = s) {W W' : World} {L : VL} {p : Nat} {one one' more : Value} {os ms : List Value} {l : Value} {i : Nat} (h : In mk base b1 e e1 s W L p one more os ms l i p) (hi : i = (L.getD p dv).2 + 1) (hee : e ≠ e1) (hR : W'.ownsRow b1 e1 1 one' (p + 1) (os ++ [l])) (hg : W.grownBy W' one.ownBlock) (hl : LiesNew one one' W) : In mk base b1 e e1 s W' L p one' more (os ++ [l]) ms l i (p + 1) := by
  have hol : os.length = p := by have := h.C.1.1; omega
  have nb : ∀ (b : Nat) (cur : Array Value), W.heap[b]? = some (.cells cur e (0, 0)) → W'.heap[b]? = W.heap[b]? := fun b cur hb => hg.block b (Array.getElem?_eq_some_iff.1 hb).1 (fun hc => ty_apart h.C.1 hb (fun h => hee h.symm) hc.symm)
  have nb2 : ∀ {bb n9 : Nat} {v : Value} {xs : List Value}, W.ownsRow bb e s v n9 xs → W'.ownsRow bb e s v n9 xs := fun {bb n9 v xs} hv => own_block hv (fun b hb => by obtain ⟨cur, h1⟩ := own_ty hv hb; exact nb b cur h1)
  have nbM : ∀ {b q m : Nat}, MB mk e s W b q m → MB mk e s W' b q m := fun {b q m} hm => by obtain ⟨cur, h1⟩ := hm.1; exact hm.block (nb b cur h1)
  have nbO : ∀ {q : Nat} {x : Value} {m : Nat}, OneOk mk e s W q x m → OneOk mk e s W' q x m := fun {q x m} hm => hm.blk (fun b hb => by obtain ⟨cur, h1⟩ := hm.ty hb; exact nb b cur h1)
  have hmore : W'.ownsRow b1 e1 1 more p ms := own_block h.D.1 (fun b hb => by
    obtain ⟨cur, h1⟩ := own_ty h.D.1 hb
    refine hg.block b (Array.getElem?_eq_some_iff.1 h1).1 (fun hc => ?_)
    rcases h.E with hE | hE
    · rw [hE] at hc; cases hc
    · exact hE (by rw [← hc, hb]))
  obtain ⟨g, cap, -, -, hv⟩ := row_some h.R (by omega)
  refine ⟨fun r h1 h2 => nb2 (h.A r h1 h2), fun q hq g hgq => nbM (h.B q hq g hgq), ⟨hR, fun q hq => ?_⟩, ⟨hmore, fun q hq => nbO (h.D.2 q hq)⟩, .inr (.inr ⟨rfl, by omega⟩), nb2 h.R, fun b hb => ⟨fun q hq => ⟨((h.S1 b hb).1 q hq).1, by rw [getD_app hol, if_neg (by omega)]; exact ((h.S1 b hb).1 q hq).2.1, ((h.S1 b hb).1 q hq).2.2⟩, (h.S1 b hb).2⟩, fun r h1 h2 b hb => ⟨fun q hq => ?_, (h.S2 r h1 h2 b hb).2⟩, ?_, ⟨Nat.le_trans h.Z.1 hg.size, Nat.le_trans h.Z.2 hg.size⟩⟩
  · rw [getD_app hol]
    split
    · rename_i eq
      subst eq
      refine ⟨g, cap, by rw [hv, hi], ?_⟩
      rw [← hi]
      exact nbM (mb_own hs h.R (by rw [hv]; rfl))
    · exact nbO (h.C.2 q (by omega))
  · rw [getD_app hol]
    split
    · exact fun hc => (h.S1 b hc).2 r h1 h2 hb
    · exact (h.S2 r h1 h2 b hb).1 q (by omega)
  · rcases hl with hl | ⟨g9, hl, hge⟩
    · rw [hl]; exact h.E
    · refine .inr ?_
      rw [hl]
      intro hc
      obtain ⟨cur, h3⟩ := own_ty h.D.1 hc.symm
      have := (Array.getElem?_eq_some_iff.1 h3).1; omega
/- the list is kept as the one of 'more' -/
theorem In.done (hs : ∀ q i, (mk q i).length = s) {W W' : World} {L : VL} {p : Nat} {one more more' : Value} {os ms : List Value} {l : Value} {i : Nat} (h : In mk base b1 e e1 s W L p one more os ms l i (p + 1)) (hi : i = (L.getD p dv).2 + 70) (hee : e ≠ e1) (hR : W'.ownsRow b1 e1 1 more' (p + 1) (ms ++ [l])) (hg : W.grownBy W' more.ownBlock) (hl : LiesNew more more' W) : Ph mk base b1 e e1 s W' L (p + 1) one more' os (ms ++ [l]) := by
  have hml : ms.length = p := by have := h.D.1.1; omega
  have nb : ∀ (b : Nat) (cur : Array Value), W.heap[b]? = some (.cells cur e (0, 0)) → W'.heap[b]? = W.heap[b]? := fun b cur hb => hg.block b (Array.getElem?_eq_some_iff.1 hb).1 (fun hc => ty_apart h.D.1 hb (fun h => hee h.symm) hc.symm)
  have nb2 : ∀ {bb n9 : Nat} {v : Value} {xs : List Value}, W.ownsRow bb e s v n9 xs → W'.ownsRow bb e s v n9 xs := fun {bb n9 v xs} hv => own_block hv (fun b hb => by obtain ⟨cur, h1⟩ := own_ty hv hb; exact nb b cur h1)
  have nbM : ∀ {b q m : Nat}, MB mk e s W b q m → MB mk e s W' b q m := fun {b q m} hm => by obtain ⟨cur, h1⟩ := hm.1; exact hm.block (nb b cur h1)
  have nbO : ∀ {q : Nat} {x : Value} {m : Nat}, OneOk mk e s W q x m → OneOk mk e s W' q x m := fun {q x m} hm => hm.blk (fun b hb => by obtain ⟨cur, h1⟩ := hm.ty hb; exact nb b cur h1)
  have hone : W'.ownsRow b1 e1 1 one (p + 1) os := own_block h.C.1 (fun b hb => by
    obtain ⟨cur, h1⟩ := own_ty h.C.1 hb
    refine hg.block b (Array.getElem?_eq_some_iff.1 h1).1 (fun hc => ?_)
    rcases h.E with hE | hE
    · rw [hE] at hb; cases hb
    · exact hE (by rw [hb, hc]))
  obtain ⟨g, cap, -, -, hv⟩ := row_some h.R (by omega)
  refine ⟨fun r h1 h2 => nb2 (h.A r (by omega) h2), fun q hq g hgq => nbM (h.B q (by omega) g hgq), ⟨hone, fun q hq => nbO (h.C.2 q hq)⟩, ⟨hR, fun q hq => ?_⟩, fun q hq r h1 h2 b hb => ⟨(h.S2 r (by omega) h2 b hb).1 q hq, ?_⟩, ?_, ⟨Nat.le_trans h.Z.1 hg.size, Nat.le_trans h.Z.2 hg.size⟩⟩
  · rw [getD_app hml]
    split
    · rename_i eq
      subst eq
      refine ⟨g, cap, by rw [hv, hi], ?_⟩
      rw [← hi]
      exact nbM (mb_own hs h.R (by rw [hv]; rfl))
    · exact nbO (h.D.2 q (by omega))
  · rw [getD_app hml]
    split
    · exact fun hc => (h.S1 b hc).2 r (by omega) h2 hb
    · exact (h.S2 r (by omega) h2 b hb).2 q (by omega)
  · rcases hl with hl | ⟨g9, hl, hge⟩
    · rw [hl]; exact h.E
    · rcases h.E with hE | hE
      · exact .inl hE
      · refine .inr ?_
        rw [hl]
        intro hc
        obtain ⟨cur, h3⟩ := own_ty h.C.1 hc
        have := (Array.getElem?_eq_some_iff.1 h3).1; omega
theorem Ph.start {W : World} {L : VL} (h : Rows1 mk base e s W L L.length) (hb : b1 ≤ W.heap.size) (hb2 : base ≤ W.heap.size) : Ph mk base b1 e e1 s W L 0 (.slice none 0 0) (.slice none 0 0) [] [] :=
  ⟨fun r _ h2 => by obtain ⟨xs, h3, h4⟩ := h r h2; rw [h4 h2] at h3; exact h3, fun q hq => by omega, ⟨World.ownsRow_nil _ _ _ _, fun q hq => by omega⟩, ⟨World.ownsRow_nil _ _ _ _, fun q hq => by omega⟩, fun q hq => by omega, .inl rfl, ⟨hb, hb2⟩⟩
end Go.Proofs.YtoaaehgnbapibaaDoor.BG
