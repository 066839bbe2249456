
/-
  The depth of the walk is the document's: one node, one kid.
-/
import Derived.Test.YtgahdppcdeefaaaDk9
namespace Go.Proofs.Ytgahdppcdeefaaa
namespace TR
def bdy (a : Nd) (k : Fo) (e : Nat) : Nat := if a.op = 49 then chK k 1 e else if rrow a.op = true then (rowK a.op k e).1 else klK a.op 0 k e
theorem opK_bdy (a : Nd) (k : Fo) (d : Nat) : opK a k d = bdy a k (d + dopn a.op) := by rw [opK]; rfl
def CoreAt (a : Nd) (k : Fo) : Prop := ∀ (tl : List Nd) (ps : List Plc) (many e D : Nat) (W : List Wt) (D1 : Nat), a.op ∈ keys → plcs (kd a.op) a.kids = some (ps, many) → goF k tl (wants ps many (e + mks (a :: (flF k ++ tl))) (gos (a :: (flF k ++ tl)))) D = some (W, D1) → pop W = [] → e + mks (a :: (flF k ++ tl)) ≤ D → D1 = max D (bdy a k e) ∧ e + mks (a :: (flF k ++ tl)) ≤ bdy a k e ∧ (rrow a.op = true → (rowK a.op k e).2 = mks (a :: (flF k ++ tl)) + 1) ∧ (a.op = 49 → ∀ n, 1 ≤ n → chK k n e = max (e + n - 1 + mks (a :: (flF k ++ tl))) (chK k 1 e))
theorem is_key {op : Int} {t : Nat} (h : (kd op).is &&& t ≠ 0) : op ∈ keys := by
  rcases key_or op with h1 | h1
  · exact h1
  · rw [h1] at h
    exact absurd (by simp [k0]) h
theorem ent_is {b : Nd} {r : List Nd} {x : Wt} {o : Nat} {ws : List Wt} (he : ent b r x = some (o, ws)) : (kd b.op).is &&& x.plc.takes ≠ 0 ∧ ∃ ps many, plcs (kd b.op) b.kids = some (ps, many) ∧ o = x.opn + more (kd b.op) x (mks (b :: r)) + (kd b.op).opens ∧ ws = wants ps many o (gos (b :: r)) := by
  unfold ent at he
  split at he
  · cases he
  · rename_i h1
    split at he
    · cases he
    · rename_i ps many h2
      simp only [Option.some.injEq, Prod.mk.injEq] at he
      exact ⟨fun h => h1 (.inl h), ps, many, h2, he.1.symm, by rw [← he.1]; exact he.2.symm⟩
theorem ent_core {b : Nd} {kb : Fo} (h : CoreAt b kb) {tl : List Nd} {x : Wt} {o : Nat} {ws : List Wt} {D : Nat} {W : List Wt} {D2 : Nat} (he : ent b (flF kb ++ tl) x = some (o, ws)) (hr : x.rest = false) (hg : goF kb tl ws (max D o) = some (W, D2)) (hp : pop W = []) : b.op ∈ keys ∧ (kd b.op).is &&& x.plc.takes ≠ 0 ∧ D2 = max D (opK b kb (x.opn + mr (kd b.op) x.plc)) ∧ x.opn ≤ opK b kb (x.opn + mr (kd b.op) x.plc) := by
  obtain ⟨h1, ps, many, h2, h3, h4⟩ := ent_is he
  have hk := is_key h1
  rw [more_mr, hr, opens_tab hk] at h3
  have e : o = (x.opn + mr (kd b.op) x.plc + dopn b.op) + mks (b :: (flF kb ++ tl)) := by
    rw [h3]
    simp only [Bool.false_eq_true, if_false]
    omega
  rw [h4, e] at hg
  obtain ⟨h5, h6, -⟩ := h tl ps many _ _ W D2 hk h2 hg hp (Nat.le_max_right _ _)
  refine ⟨hk, h1, ?_, ?_⟩
  · rw [h5, opK_bdy]
    omega
  · rw [opK_bdy]
    omega
theorem ent_rest {b : Nd} {kb : Fo} (h : CoreAt b kb) {tl : List Nd} {x : Wt} {o : Nat} {ws : List Wt} {D : Nat} {W : List Wt} {D2 e : Nat} (he : ent b (flF kb ++ tl) x = some (o, ws)) (hr : x.rest = true) (hm : mr (kd b.op) x.plc = 0) (ho : dopn b.op = 0) (hx : x.opn = e + mks (b :: (flF kb ++ tl))) (hg : goF kb tl ws (max D o) = some (W, D2)) (hp : pop W = []) : D2 = max D (bdy b kb e) ∧ e + mks (b :: (flF kb ++ tl)) ≤ bdy b kb e ∧ (rrow b.op = true → (rowK b.op kb e).2 = mks (b :: (flF kb ++ tl)) + 1)  ∧ (b.op = 49 → ∀ n, 1 ≤ n → chK kb n e = max (e + n - 1 + mks (b :: (flF kb ++ tl))) (chK kb 1 e)) := by
  obtain ⟨h1, ps, many, h2, h3, h4⟩ := ent_is he
  have hk := is_key h1
  rw [more_mr, hr, opens_tab hk, hm, ho, hx] at h3
  have e1 : o = e + mks (b :: (flF kb ++ tl)) := by
    rw [h3]
    simp only [if_true]
    omega
  rw [h4, e1] at hg
  obtain ⟨h5, h6, h7⟩ := h tl ps many _ _ W D2 hk h2 hg hp (Nat.le_max_right _ _)
  refine ⟨?_, h6, h7⟩
  rw [h5]
  omega
/- a place that is full -/
theorem goF_zero {x : Wt} (hx : x.many = 0) {f : Fo} {tl : List Nd} {S : List Wt} {D : Nat} {W : List Wt} {D1 : Nat} (h : goF f tl (x :: S) D = some (W, D1)) (hp : pop W = []) : ∃ W', goF f tl S D = some (W', D1) ∧ pop W' = [] := by
  cases f with
  | nil =>
    cases h
    rw [pop, if_pos hx] at hp
    exact ⟨S, rfl, hp⟩
  | cons a k r =>
    rw [goF, pop, if_pos hx] at h
    exact ⟨W, h, hp⟩
theorem goF_none {f : Fo} {tl : List Nd} {D : Nat} {W : List Wt} {D1 : Nat} (h : goF f tl [] D = some (W, D1)) : f = .nil ∧ D1 = D := by
  cases f with
  | nil => cases h; exact ⟨rfl, rfl⟩
  | cons a k r =>
    rw [goF, pop] at h
    cases h
/- a place with something wanted: its first tree -/
theorem goF_one {x : Wt} (hx : x.many ≠ 0) {f : Fo} {tl : List Nd} {S : List Wt} {D : Nat} {W : List Wt} {D1 : Nat} (h : goF f tl (x :: S) D = some (W, D1)) (hp : pop W = []) : ∃ b kb r o ws W1 D2, f = .cons b kb r ∧ ent b (flF kb ++ (flF r ++ tl)) x = some (o, ws) ∧ goF kb (flF r ++ tl) ws (max D o) = some (W1, D2) ∧ pop W1 = [] ∧ goF r tl (wless x :: S) D2 = some (W, D1) := by
  cases f with
  | nil =>
    cases h
    rw [pop, if_neg hx] at hp
    cases hp
  | cons b kb r =>
    rw [goF, pop, if_neg hx] at h
    simp only at h
    cases he : ent b (flF kb ++ (flF r ++ tl)) x with
    | none => rw [he] at h; cases h
    | some q =>
      obtain ⟨o, ws⟩ := q
      rw [he] at h
      simp only at h
      cases hk : goF kb (flF r ++ tl) ws (max D o) with
      | none => rw [hk] at h; cases h
      | some q =>
        obtain ⟨W1, D2⟩ := q
        rw [hk] at h
        simp only at h
        by_cases hw : pop W1 = []
        · rw [if_pos hw] at h
          exact ⟨b, kb, r, o, ws, W1, D2, rfl, he, hk, hw, h⟩
        · rw [if_neg hw] at h
          cases h
/- all kids of one place, none of which goes on -/
theorem kl_each {op : Int} (hk : op ∈ keys) (he : (kd op).each ≠ 0) : ∀ (f : Fo) (i : Int) (tl : List Nd) (x : Wt) (D : Nat) (W : List Wt) (D1 : Nat), (∀ b kb, SizeOf.sizeOf kb < SizeOf.sizeOf f → CoreAt b kb) → x.plc = ⟨(kd op).each, 0⟩ → x.rest = false → x.opn ≤ D → goF f tl [x] D = some (W, D1) → pop W = [] → D1 = max D (klK op i f x.opn)
  | .nil, i, tl, x, D, W, D1, _, _, _, hx, h, _ => by
    cases h
    rw [klK]
    omega
  | .cons b kb r, i, tl, x, D, W, D1, ih, hq, hr, hx, h, hp => by
    by_cases hm : x.many = 0
    · obtain ⟨W', h1, -⟩ := goF_zero hm h hp
      exact absurd (goF_none h1).1 (by simp)
    · obtain ⟨b', kb', r', o, ws, W1, D2, e, h1, h2, h3, h4⟩ := goF_one hm h hp
      cases e
      obtain ⟨h5, h6, h7, -⟩ := ent_core (ih b kb (by simp; omega)) h1 hr h2 h3
      obtain ⟨t1, t2, t3, -, -⟩ := each_tab (b := b.op) hk he i
      rw [hq, t1] at h7
      have h8 := kl_each hk he r (i + 1) tl (wless x) D2 W D1 (fun b' kb' hs => ih b' kb' (by simp; omega)) hq hr (by rw [h7]; show x.opn ≤ _; omega) h4 hp
      rw [h8, h7, klK, if_neg (fun h => t3 h.1), t2]
      show max (max D _) (klK op (i + 1) r x.opn) = _
      simp only [Nat.add_zero]
      omega
/- kids of one place each, none of which goes on -/
theorem kl_way {op : Int} (hk : op ∈ keys) {w : List Plc} (hw : w ∈ (kd op).ways) : ∀ (f : Fo) (i : Nat) (tl : List Nd) (S : List Wt) (d D : Nat) (W : List Wt) (D1 : Nat), (∀ b kb, SizeOf.sizeOf kb < SizeOf.sizeOf f → CoreAt b kb) → S = (w.drop i).map (fun q => ⟨q, 1, d, false⟩) → d ≤ D → goF f tl S D = some (W, D1) → pop W = [] → D1 = max D (klK op i f d)
  | f, i, tl, S, d, D, W, D1, ih, hS, hd, h, hp => by
    cases hc : w.drop i with
    | nil =>
      rw [hc] at hS
      subst hS
      obtain ⟨rfl, rfl⟩ := goF_none h
      rw [klK]
      omega
    | cons q t =>
      rw [hc] at hS
      subst hS
      obtain ⟨b, kb, r, o, ws, W1, D2, rfl, h1, h2, h3, h4⟩ := goF_one (by simp) h hp
      obtain ⟨h5, h6, h7, -⟩ := ent_core (ih b kb (by simp; omega)) h1 rfl h2 h3
      obtain ⟨W', h8, h9⟩ := goF_zero rfl h4 hp
      have hq : w[i]? = some q := by
        have := congrArg (fun l => l[0]?) hc
        simpa using this
      have ht : w.drop (i + 1) = t := by
        rw [← List.drop_drop, hc]
        rfl
      have h10 := way_tab hk h5 hw hq h6
      have h11 := kl_way hk hw r (i + 1) tl _ d D2 W' D1 (fun b' kb' hs => ih b' kb' (by simp; omega)) (by rw [ht]) (by rw [h7]; omega) h8 h9
      simp only at h7
      rw [h11, h7, h10, klK]
      show _ = max D (max (if op = 13 ∧ (i : Int) = 2 ∧ b.op = 13 then _ else _) (klK op ((i : Int) + 1) r d))
      rw [show ((i + 1 : Nat) : Int) = (i : Int) + 1 by omega]
      by_cases hx : op = 13 ∧ i = 2 ∧ b.op = 13
      · rw [if_pos hx, if_pos (by omega)]
        omega
      · rw [if_neg hx, if_neg (by omega)]
        omega
end TR
end Go.Proofs.Ytgahdppcdeefaaa
