/-
  Where the trees of a forest stand: the document's Behind and Kids.
-/
import Derived.Test.YtgahdppcdeefaaaDk9
namespace Go.Proofs.Ytgahdppcdeefaaa
namespace TR
def bdy (a : Nd) (k : Fo) (e : Nat) : Nat := if a.op = 49 then chK k 1 e else if rrow a.op = true then (rowK a.op k e).1 else klK a.op 0 k e
theorem opK_bdy (a : Nd) (k : Fo) (d : Nat) : opK a k d = bdy a k (d + dopn a.op) := by rw [opK]; rfl
def CoreAt (a : Nd) (k : Fo) : Prop := ∀ (tl : List Nd) (ps : List Plc) (many e D : Nat) (W : List Wt) (D1 : Nat), a.op ∈ keys → plcs (kd a.op) a.kids = some (ps, many) → goF k tl (wants ps many (e + mks (a :: (flF k ++ tl))) (gos (a :: (flF k ++ tl)))) D = some (W, D1) → pop W = [] → e + mks (a :: (flF k ++ tl)) ≤ D → D1 = max D (bdy a k e) ∧ e + mks (a :: (flF k ++ tl)) ≤ bdy a k e ∧ (rrow a.op = true → (rowK a.op k e).2 = mks (a :: (flF k ++ tl)) + 1) ∧ (a.op = 49 → ∀ n, 1 ≤ n → chK k n e = max (e + n - 1 + mks (a :: (flF k ++ tl))) (chK k 1 e))
theorem is_key {op : Int} {t : Nat} (h : (kd op).is &&& t ≠ 0) : op ∈ keys := by
  rcases key_or op with h1 | h1
  · exact h1
  · rw [h1] at h
    exact absurd (by simp [k0]) h
theorem ent_is {b : Nd} {r : List Nd} {x : Wt} {o : Nat} {ws : List Wt} (he : ent b r x = some (o, ws)) : (kd b.op).is &&& x.plc.takes ≠ 0 ∧ ∃ ps many, plcs (kd b.op) b.kids = some (ps, many) ∧ o = x.opn + more (kd b.op) x (mks (b :: r)) + (kd b.op).opens ∧ ws = wants ps many o (gos (b :: r)) := by
  unfold ent at he
  split at he
  · cases he
  · rename_i h1
    split at he
    · cases he
    · rename_i ps many h2
      simp only [Option.some.injEq, Prod.mk.injEq] at he
      exact ⟨fun h => h1 (.inl h), ps, many, h2, he.1.symm, by rw [← he.1]; exact he.2.symm⟩
theorem ent_core {b : Nd} {kb : Fo} (h : CoreAt b kb) {tl : List Nd} {x : Wt} {o : Nat} {ws : List Wt} {D : Nat} {W : List Wt} {D2 : Nat} (he : ent b (flF kb ++ tl) x = some (o, ws)) (hr : x.rest = false) (hg : goF kb tl ws (max D o) = some (W, D2)) (hp : pop W = []) : b.op ∈ keys ∧ (kd b.op).is &&& x.plc.takes ≠ 0 ∧ D2 = max D (opK b kb (x.opn + mr (kd b.op) x.plc)) ∧ x.opn ≤ opK b kb (x.opn + mr (kd b.op) x.plc) := by
  obtain ⟨h1, ps, many, h2, h3, h4⟩ := ent_is he
  have hk := is_key h1
  rw [more_mr, hr, opens_tab hk] at h3
  have e : o = (x.opn + mr (kd b.op) x.plc + dopn b.op) + mks (b :: (flF kb ++ tl)) := by
    rw [h3]
    simp only [Bool.false_eq_true, if_false]
    omega
  rw [h4, e] at hg
  obtain ⟨h5, h6, -⟩ := h tl ps many _ _ W D2 hk h2 hg hp (Nat.le_max_right _ _)
  refine ⟨hk, h1, ?_, ?_⟩
  · rw [h5, opK_bdy]
    omega
  · rw [opK_bdy]
    omega
theorem ent_rest {b : Nd} {kb : Fo} (h : CoreAt b kb) {tl : List Nd} {x : Wt} {o : Nat} {ws : List Wt} {D : Nat} {W : List Wt} {D2 e : Nat} (he : ent b (flF kb ++ tl) x = some (o, ws)) (hr : x.rest = true) (hm : mr (kd b.op) x.plc = 0) (ho : dopn b.op = 0) (hx : x.opn = e + mks (b :: (flF kb ++ tl))) (hg : goF kb tl ws (max D o) = some (W, D2)) (hp : pop W = []) : D2 = max D (bdy b kb e) ∧ e + mks (b :: (flF kb ++ tl)) ≤ bdy b kb e ∧ (rrow b.op = true → (rowK b.op kb e).2 = mks (b :: (flF kb ++ tl)) + 1)  ∧ (b.op = 49 → ∀ n, 1 ≤ n → chK kb n e = max (e + n - 1 + mks (b :: (flF kb ++ tl))) (chK kb 1 e)) := by
  obtain ⟨h1, ps, many, h2, h3, h4⟩ := ent_is he
  have hk := is_key h1
  rw [more_mr, hr, opens_tab hk, hm, ho, hx] at h3
  have e1 : o = e + mks (b :: (flF kb ++ tl)) := by
    rw [h3]
    simp only [if_true]
    omega
  rw [h4, e1] at hg
  obtain ⟨h5, h6, h7⟩ := h tl ps many _ _ W D2 hk h2 hg hp (Nat.le_max_right _ _)
  refine ⟨?_, h6, h7⟩
  rw [h5]
  omega
/- a place that is full -/
theorem goF_zero {x : Wt} (hx : x.many = 0) {f : Fo} {tl : List Nd} {S : List Wt} {D : Nat} {W : List Wt} {D1 : Nat} (h : goF f tl (x :: S) D = some (W, D1)) (hp : pop W = []) : ∃ W', goF f tl S D = some (W', D1) ∧ pop W' = [] := by
  cases f with
  | nil =>
    cases h
    rw [pop, if_pos hx] at hp
    exact ⟨S, rfl, hp⟩
  | cons a k r =>
    rw [goF, pop, if_pos hx] at h
    exact ⟨W, h, hp⟩
theorem goF_none {f : Fo} {tl : List Nd} {D : Nat} {W : List Wt} {D1 : Nat} (h : goF f tl [] D = some (W, D1)) : f = .nil ∧ D1 = D := by
  cases f with
  | nil => cases h; exact ⟨rfl, rfl⟩
  | cons a k r =>
    rw [goF, pop] at h
    cases h
/- a place with something wanted: its first tree -/
theorem goF_one {x : Wt} (hx : x.many ≠ 0) {f : Fo} {tl : List Nd} {S : List Wt} {D : Nat} {W : List Wt} {D1 : Nat} (h : goF f tl (x :: S) D = some (W, D1)) (hp : pop W = []) : ∃ b kb r o ws W1 D2, f = .cons b kb r ∧ ent b (flF kb ++ (flF r ++ tl)) x = some (o, ws) ∧ goF kb (flF r ++ tl) ws (max D o) = some (W1, D2) ∧ pop W1 = [] ∧ goF r tl (wless x :: S) D2 = some (W, D1) := by
  cases f with
  | nil =>
    cases h
    rw [pop, if_neg hx] at hp
    cases hp
  | cons b kb r =>
    rw [goF, pop, if_neg hx] at h
    simp only at h
    cases he : ent b (flF kb ++ (flF r ++ tl)) x with
    | none => rw [he] at h; cases h
    | some q =>
      obtain ⟨o, ws⟩ := q
      rw [he] at h
      simp only at h
      cases hk : goF kb (flF r ++ tl) ws (max D o) with
      | none => rw [hk] at h; cases h
      | some q =>
        obtain ⟨W1, D2⟩ := q
        rw [hk] at h
        simp only at h
        by_cases hw : pop W1 = []
        · rw [if_pos hw] at h
          exact ⟨b, kb, r, o, ws, W1, D2, rfl, he, hk, hw, h⟩
        · rw [if_neg hw] at h
          cases h
/- all kids of one place, none of which goes on -/
theorem kl_each {op : Int} (hk : op ∈ keys) (he : (kd op).each ≠ 0) : ∀ (f : Fo) (i : Int) (tl : List Nd) (x : Wt) (D : Nat) (W : List Wt) (D1 : Nat), (∀ b kb, SizeOf.sizeOf kb < SizeOf.sizeOf f → CoreAt b kb) → x.plc = ⟨(kd op).each, 0⟩ → x.rest = false → x.opn ≤ D → goF f tl [x] D = some (W, D1) → pop W = [] → D1 = max D (klK op i f x.opn)
  | .nil, i, tl, x, D, W, D1, _, _, _, hx, h, _ => by
    cases h
    rw [klK]
    omega
  | .cons b kb r, i, tl, x, D, W, D1, ih, hq, hr, hx, h, hp => by
    by_cases hm : x.many = 0
    · obtain ⟨W', h1, -⟩ := goF_zero hm h hp
      exact absurd (goF_none h1).1 (by simp)
    · obtain ⟨b', kb', r', o, ws, W1, D2, e, h1, h2, h3, h4⟩ := goF_one hm h hp
      cases e
      obtain ⟨h5, h6, h7, -⟩ := ent_core (ih b kb (by simp; omega)) h1 hr h2 h3
      obtain ⟨t1, t2, t3, -, -⟩ := each_tab (b := b.op) hk he i
      rw [hq, t1] at h7
      have h8 := kl_each hk he r (i + 1) tl (wless x) D2 W D1 (fun b' kb' hs => ih b' kb' (by simp; omega)) hq hr (by rw [h7]; show x.opn ≤ _; omega) h4 hp
      rw [h8, h7, klK, if_neg (fun h => t3 h.1), t2]
      show max (max D _) (klK op (i + 1) r x.opn) = _
      simp only [Nat.add_zero]
      omega
/- kids of one place each, none of which goes on -/
theorem kl_way {op : Int} (hk : op ∈ keys) {w : List Plc} (hw : w ∈ (kd op).ways) : ∀ (f : Fo) (i : Nat) (tl : List Nd) (S : List Wt) (d D : Nat) (W : List Wt) (D1 : Nat), (∀ b kb, SizeOf.sizeOf kb < SizeOf.sizeOf f → CoreAt b kb) → S = (w.drop i).map (fun q => ⟨q, 1, d, false⟩) → d ≤ D → goF f tl S D = some (W, D1) → pop W = [] → D1 = max D (klK op i f d)
  | f, i, tl, S, d, D, W, D1, ih, hS, hd, h, hp => by
    cases hc : w.drop i with
    | nil =>
      rw [hc] at hS
      subst hS
      obtain ⟨rfl, rfl⟩ := goF_none h
      rw [klK]
      omega
    | cons q t =>
      rw [hc] at hS
      subst hS
      obtain ⟨b, kb, r, o, ws, W1, D2, rfl, h1, h2, h3, h4⟩ := goF_one (by simp) h hp
      obtain ⟨h5, h6, h7, -⟩ := ent_core (ih b kb (by simp; omega)) h1 rfl h2 h3
      obtain ⟨W', h8, h9⟩ := goF_zero rfl h4 hp
      have hq : w[i]? = some q := by
        have := congrArg (fun l => l[0]?) hc
        simpa using this
      have ht : w.drop (i + 1) = t := by
        rw [← List.drop_drop, hc]
        rfl
      have h10 := way_tab hk h5 hw hq h6
      have h11 := kl_way hk hw r (i + 1) tl _ d D2 W' D1 (fun b' kb' hs => ih b' kb' (by simp; omega)) (by rw [ht]) (by rw [h7]; omega) h8 h9
      simp only at h7
      rw [h11, h7, h10, klK]
      show _ = max D (max (if op = 13 ∧ (i : Int) = 2 ∧ b.op = 13 then _ else _) (klK op ((i : Int) + 1) r d))
      rw [show ((i + 1 : Nat) : Int) = (i : Int) + 1 by omega]
      by_cases hx : op = 13 ∧ i = 2 ∧ b.op = 13
      · rw [if_pos hx, if_pos (by omega)]
        omega
      · rw [if_neg hx, if_neg (by omega)]
        omega
end TR
end Go.Proofs.Ytgahdppcdeefaaa
namespace Go.Proofs.Ytgahdppcdeefaaa
namespace TR
theorem nogo {a : Nd} (h : (kd a.op).row = false) (r : List Nd) : mks (a :: r) = 0 ∧ gos (a :: r) = false := by
  cases r with
  | nil => exact ⟨rfl, rfl⟩
  | cons b t =>
    have hg : goes a b = false := by unfold goes; rw [h]; rfl
    exact ⟨by rw [mks, hg]; rfl, by rw [gos, hg]⟩
theorem dogo {a b : Nd} (t : List Nd) : mks (a :: b :: t) = (if goes a b then mks (b :: t) + 1 else 0) ∧ gos (a :: b :: t) = goes a b := ⟨by rw [mks], by rw [gos]⟩
theorem wants_f (ps : List Plc) (many o : Nat) : wants ps many o false = ps.map fun q => ⟨q, many, o, false⟩ := by
  cases ps with
  | nil => rfl
  | cons p r => rfl
theorem kl_ge (op : Int) : ∀ (f : Fo) (i : Int) (d : Nat), d ≤ klK op i f d
  | .nil, i, d => by rw [klK]; exact Nat.le_refl _
  | .cons b kb r, i, d => by
    have := kl_ge op r (i + 1) d
    rw [klK]
    omega
theorem kind_of {op : Int} (h : op ∈ keys) : ((kd op).each ≠ 0 ∧ op ≠ 49 ∧ rrow op = false) ∨ ((kd op).each = 0 ∧ op ≠ 49 ∧ rrow op = false) ∨ (op = 49 ∧ (kd op).each = 0 ∧ (kd op).ways = [[⟨64, 8⟩]] ∧ rrow op = false) ∨ (rrow op = true ∧ op ≠ 49 ∧ (kd op).each = 0 ∧ ∃ r1 r2, (kd op).ways = [[⟨64, r1⟩, ⟨64, r2⟩]]) := by
  have h1 : keys.all (fun op => decide ((kd op).each ≠ 0 ∧ op ≠ 49 ∧ rrow op = false) || (decide ((kd op).each = 0 ∧ op ≠ 49 ∧ rrow op = false) || (decide (op = 49 ∧ (kd op).each = 0 ∧ (kd op).ways = [[⟨64, 8⟩]] ∧ rrow op = false) || (decide (rrow op = true ∧ op ≠ 49 ∧ (kd op).each = 0) && (match (kd op).ways with | [[a, b]] => a.takes == 64 && b.takes == 64 | _ => false))))) = true := by decide +kernel
  have h2 := List.all_eq_true.1 h1 op h
  simp only [Bool.or_eq_true, decide_eq_true_eq, Bool.and_eq_true] at h2
  rcases h2 with h2 | h2 | h2 | ⟨⟨h2, h3, h4⟩, h5⟩
  · exact .inl h2
  · exact .inr (.inl h2)
  · exact .inr (.inr (.inl h2))
  · refine .inr (.inr (.inr ⟨h2, h3, h4, ?_⟩))
    split at h5
    · rename_i a b hw
      simp only [Bool.and_eq_true, beq_iff_eq] at h5
      obtain ⟨t1, r1⟩ := a
      obtain ⟨t2, r2⟩ := b
      obtain ⟨rfl, rfl⟩ := h5
      exact ⟨r1, r2, hw⟩
    · cases h5
theorem same_row {a b : Int} (ha : a ∈ keys) (hb : b ∈ keys) (hr : rrow a = true) (he : rRank b = rRank a) : rrow b = true ∧ b ≠ 49 ∧ dopn b = 0 ∧ par b (rWants a 0) = 0 := by
  have h1 : keys.all (fun a => keys.all fun b => decide (¬ rrow a = true ∨ ¬ rRank b = rRank a) || decide (rrow b = true ∧ b ≠ 49 ∧ dopn b = 0 ∧ par b (rWants a 0) = 0)) = true := by decide +kernel
  have h2 := List.all_eq_true.1 (List.all_eq_true.1 h1 a ha) b hb
  simp only [Bool.or_eq_true, decide_eq_true_eq] at h2
  rcases h2 with (h2 | h2) | h2
  · exact absurd hr h2
  · exact absurd he h2
  · exact h2
theorem plcs_way {k : Kd} (h : k.each = 0) {kids : Int} {ps : List Plc} {many : Nat} (hp : plcs k kids = some (ps, many)) : (ps ∈ k.ways ∧ many = 1) ∨ (ps = [] ∧ k.ways = []) := by
  unfold plcs at hp
  rw [if_neg (by rw [h]; exact fun h => h rfl)] at hp
  split at hp
  · rename_i w hw
    cases hp
    exact .inl ⟨List.mem_of_find?_eq_some hw, rfl⟩
  · split at hp
    · rename_i h9
      cases hp
      exact .inr ⟨rfl, h9.2⟩
    · cases hp
set_option maxHeartbeats 4000000 in
theorem core : ∀ (n : Nat) (a : Nd) (k : Fo), SizeOf.sizeOf k ≤ n → CoreAt a k
  | n, a, k, hn => by
    have ih : ∀ b kb, SizeOf.sizeOf kb < SizeOf.sizeOf k → CoreAt b kb := fun b kb hs => core (n - 1) b kb (by omega)
    intro tl ps many e D W D1 hk hpl hg hp hD
    rcases kind_of hk with ⟨h1, h2, h3⟩ | ⟨h1, h2, h3⟩ | ⟨h2, h1, h4, h3⟩ | ⟨h3, h2, h1, r1, r2, h4⟩
    · have hrow : (kd a.op).row = false := by rw [row_tab hk, h3, decide_eq_false h2]; rfl
      obtain ⟨m0, g0⟩ := nogo hrow (flF k ++ tl)
      rw [m0, g0, wants_f] at hg
      rw [m0] at hD ⊢
      have hb : bdy a k e = klK a.op 0 k e := by unfold bdy; rw [if_neg h2, h3]; rfl
      rw [plcs_each h1] at hpl
      split at hpl
      · cases hpl
        refine ⟨?_, ?_, fun h9 => absurd h9 (by rw [h3]; decide), fun h9 => absurd h9 h2⟩
        · rw [hb]
          exact kl_each hk h1 k 0 tl ⟨⟨(kd a.op).each, 0⟩, a.kids.toNat, e + 0, false⟩ D W D1 ih rfl rfl hD hg hp
        · rw [hb]
          exact kl_ge _ _ _ _
      · cases hpl
    · have hrow : (kd a.op).row = false := by rw [row_tab hk, h3, decide_eq_false h2]; rfl
      obtain ⟨m0, g0⟩ := nogo hrow (flF k ++ tl)
      rw [m0, g0, wants_f] at hg
      rw [m0] at hD ⊢
      have hb : bdy a k e = klK a.op 0 k e := by unfold bdy; rw [if_neg h2, h3]; rfl
      refine ⟨?_, by rw [hb]; exact kl_ge _ _ _ _, fun h9 => absurd h9 (by rw [h3]; decide), fun h9 => absurd h9 h2⟩
      rw [hb]
      rcases plcs_way h1 hpl with ⟨hw, rfl⟩ | ⟨rfl, -⟩
      · exact kl_way hk hw k 0 tl _ e D W D1 ih rfl hD hg hp
      · obtain ⟨rfl, rfl⟩ := goF_none hg
        rw [klK]
        omega
    · rcases plcs_way h1 hpl with ⟨hw, rfl⟩ | ⟨-, h9⟩
      · have hw0 := hw
        rw [h4] at hw
        obtain rfl := List.mem_singleton.1 hw
        obtain ⟨b, kb, r, o, ws, W1, D2, rfl, e1, e2, e3, e4⟩ := goF_one (by simp) hg hp
        obtain ⟨W2, e5, -⟩ := goF_zero rfl e4 hp
        obtain ⟨rfl, rfl⟩ := goF_none e5
        have hbk := is_key (ent_is e1).1
        have hfl : flF (.cons b kb .nil) ++ tl = b :: (flF kb ++ (flF .nil ++ tl)) := by
          show b :: (flF kb ++ []) ++ tl = b :: (flF kb ++ ([] ++ tl))
          rw [List.append_nil]
          rfl
        rw [hfl] at hD ⊢ e1
        have hgo : goes a b = decide (b.op = 49) := by
          show ((kd a.op).row && ((kd b.op).row && (kd a.op).rank == (kd b.op).rank)) = _
          rw [goes_tab hk hbk, h3, h2]
          simp
        obtain ⟨m0, g0⟩ := dogo (a := a) (b := b) (flF kb ++ (flF .nil ++ tl))
        rw [m0] at hD ⊢ e1
        rw [g0] at e1
        have hb : bdy a (.cons b kb .nil) e = chK (.cons b kb .nil) 1 e := by unfold bdy; rw [if_pos h2]
        by_cases h49 : b.op = 49
        · rw [hgo, decide_eq_true h49] at e1 hD ⊢
          simp only [if_true] at e1 hD ⊢
          have hmr : mr (kd b.op) ⟨64, 8⟩ = 0 := by rw [h49]; decide
          obtain ⟨q1, q2, -, q4⟩ := ent_rest (ih b kb (by simp; omega)) (e := e) e1 rfl hmr (by rw [h49]; decide) (by simp only; omega) e2 e3
          have hc : ∀ n, chK (.cons b kb .nil) n e = chK kb (n + 1) e := fun n => by rw [chK, if_pos h49]
          have hbb : bdy b kb e = chK kb 1 e := by unfold bdy; rw [if_pos h49]
          rw [hb, hc]
          rw [hbb] at q1 q2
          have q5 := q4 h49
          refine ⟨?_, ?_, fun h9 => absurd h9 (by rw [h3]; decide), fun _ n hn1 => ?_⟩
          · rw [q1, q5 (1 + 1) (by omega)]
            omega
          · rw [q5 (1 + 1) (by omega)]
            omega
          · rw [hc, q5 (n + 1) (by omega), q5 (1 + 1) (by omega)]
            omega
        · rw [hgo, decide_eq_false h49] at e1 hD ⊢
          simp only [Bool.false_eq_true, if_false] at e1 hD ⊢
          obtain ⟨q1, q2, q3, q4⟩ := ent_core (ih b kb (by simp; omega)) e1 rfl e2 e3
          have hmr : mr (kd b.op) ⟨64, 8⟩ = par b.op 8 := by
            have := way_tab hk hbk hw0 (j := 0) rfl q2
            rw [this, if_neg (by omega), h2]
            rfl
          simp only at q3 q4
          rw [hmr] at q3 q4
          have hc : ∀ n, chK (.cons b kb .nil) n e = max (e + n - 1) (opK b kb (e + par b.op 8)) := fun n => by rw [chK, if_neg h49]
          rw [Nat.add_zero] at q3 q4
          rw [hb, hc]
          refine ⟨by rw [q3]; omega, by omega, fun h9 => absurd h9 (by rw [h3]; decide), fun _ n hn1 => ?_⟩
          rw [hc]
          omega
      · rw [h4] at h9
        cases h9
    · rcases plcs_way h1 hpl with ⟨hw, rfl⟩ | ⟨-, h9⟩
      · have hw0 := hw
        rw [h4] at hw
        obtain rfl := List.mem_singleton.1 hw
        obtain ⟨b, kb, r, o, ws, W1, D2, rfl, e1, e2, e3, e4⟩ := goF_one (by simp) hg hp
        obtain ⟨W2, e5, hp2⟩ := goF_zero rfl e4 hp
        obtain ⟨c, kc, r3, o2, ws2, W3, D3, rfl, f1, f2, f3, f4⟩ := goF_one (by simp) e5 hp2
        obtain ⟨W4, f5, -⟩ := goF_zero rfl f4 hp2
        obtain ⟨rfl, rfl⟩ := goF_none f5
        have hbk := is_key (ent_is e1).1
        have hfl : flF (.cons b kb (.cons c kc .nil)) ++ tl = b :: (flF kb ++ (flF (.cons c kc .nil) ++ tl)) := by
          show b :: (flF kb ++ flF (.cons c kc .nil)) ++ tl = _
          rw [List.cons_append, List.append_assoc]
        rw [hfl] at hD ⊢ e1 f1
        have hgo : goes a b = decide (rRank b.op = rRank a.op) := by
          show ((kd a.op).row && ((kd b.op).row && (kd a.op).rank == (kd b.op).rank)) = _
          rw [goes_tab hk hbk, h3, decide_eq_false (fun h9 => h2 h9.1)]
          simp
        obtain ⟨m0, g0⟩ := dogo (a := a) (b := b) (flF kb ++ (flF (.cons c kc .nil) ++ tl))
        rw [m0] at hD ⊢ e1 f1
        rw [g0] at e1
        have hb : bdy a (.cons b kb (.cons c kc .nil)) e = (rowK a.op (.cons b kb (.cons c kc .nil)) e).1 := by unfold bdy; rw [if_neg h2, if_pos h3]
        rw [hb]
        obtain ⟨s1, s2, s3, s4⟩ := ent_core (ih c kc (by simp; omega)) f1 rfl f2 f3
        have hmc : mr (kd c.op) ⟨64, r2⟩ = par c.op (rWants a.op 1) := by
          have := way_tab hk s1 hw0 (j := 1) rfl s2
          rw [this, if_neg (by omega)]
          rfl
        simp only at s3 s4
        rw [hmc] at s3 s4
        by_cases hrr : rRank b.op = rRank a.op
        · rw [hgo, decide_eq_true hrr] at e1 hD s3 s4 ⊢
          simp only [if_true] at e1 hD s3 s4 ⊢
          obtain ⟨t1, t2, t3, t4⟩ := same_row hk hbk h3 hrr
          have hmr : mr (kd b.op) ⟨64, r1⟩ = 0 := by
            have := way_tab hk hbk hw0 (j := 0) rfl (ent_is e1).1
            rw [this, if_neg (by omega)]
            exact t4
          obtain ⟨q1, q2, q3, -⟩ := ent_rest (ih b kb (by simp; omega)) (e := e) e1 rfl hmr t3 (by simp only; omega) e2 e3
          have q3 := q3 t1
          have hbb : bdy b kb e = (rowK b.op kb e).1 := by unfold bdy; rw [if_neg t2, if_pos t1]
          rw [hbb] at q1 q2
          rw [← q3] at s3 s4
          rw [rowK, if_pos hrr]
          simp only
          rw [q3] at s3 s4 ⊢
          refine ⟨?_, ?_, fun _ => rfl, fun h9 => absurd h9 h2⟩
          · rw [s3, q1]
            omega
          · omega
        · rw [hgo, decide_eq_false hrr] at e1 hD s3 s4 ⊢
          simp only [Bool.false_eq_true, if_false] at e1 hD s3 s4 ⊢
          obtain ⟨q1, q2, q3, q4⟩ := ent_core (ih b kb (by simp; omega)) e1 rfl e2 e3
          have hmr : mr (kd b.op) ⟨64, r1⟩ = par b.op (rWants a.op 0) := by
            have := way_tab hk hbk hw0 (j := 0) rfl q2
            rw [this, if_neg (by omega)]
            rfl
          simp only at q3 q4
          rw [hmr] at q3 q4
          rw [Nat.add_zero] at q3 q4 s3 s4
          rw [rowK, if_neg hrr]
          simp only
          refine ⟨?_, ?_, fun _ => trivial, fun h9 => absurd h9 h2⟩
          · rw [s3, q3]
            omega
          · omega
      · rw [h4] at h9
        cases h9
/- the depth of a tree is the document's -/
theorem dpt_tree {l : List Nd} {a : Nd} {k : Fo} {W : List Wt} (hg : goF (.cons a k .nil) [] [wroot] 0 = some (W, dpt l)) (hp : pop W = []) : dpt l = opK a k 0 := by
  obtain ⟨b, kb, r, o, ws, W1, D2, e, h1, h2, h3, h4⟩ := goF_one (by decide) hg hp
  cases e
  obtain ⟨W', h5, -⟩ := goF_zero rfl h4 hp
  obtain ⟨-, h6⟩ := goF_none h5
  obtain ⟨q1, q2, q3, -⟩ := ent_core (core _ a k (Nat.le_refl _)) h1 rfl h2 h3
  rw [h6, q3]
  have hm : mr (kd a.op) wroot.plc = 0 := by
    have h7 : keys.all (fun op => decide ((kd op).is &&& 1 = 0) || mr (kd op) ⟨1, 0⟩ == 0) = true := by decide +kernel
    have h8 := List.all_eq_true.1 h7 a.op q1
    simp only [Bool.or_eq_true, decide_eq_true_eq, beq_iff_eq] at h8
    rcases h8 with h8 | h8
    · exact absurd h8 q2
    · exact h8
  rw [hm]
  show max 0 (opK a k 0) = _
  omega
end TR
end Go.Proofs.Ytgahdppcdeefaaa
namespace Go.Proofs.Ytgahdppcdeefaaa
namespace TR
def totW (S : List Wt) : Nat := (S.map (·.many)).sum
theorem totW_cons (x : Wt) (S : List Wt) : totW (x :: S) = x.many + totW S := by unfold totW; simp
theorem totW_pop : ∀ (S : List Wt), totW (pop S) = totW S
  | [] => rfl
  | x :: S => by
    rw [pop]
    split
    · rename_i h
      rw [totW_pop S, totW_cons, h]
      omega
    · rfl
theorem pop_pos : ∀ {S : List Wt} {x : Wt} {S' : List Wt}, pop S = x :: S' → x.many ≠ 0
  | [], x, S', h => by cases h
  | y :: S, x, S', h => by
    rw [pop] at h
    split at h
    · exact pop_pos h
    · rename_i h1
      cases h
      exact h1
theorem goF_cnt : ∀ (f : Fo) (tl : List Nd) (S : List Wt) (D : Nat) {W : List Wt} {D1 : Nat}, goF f tl S D = some (W, D1) → totW W + cntF f = totW S
  | .nil, tl, S, D, W, D1, h => by
    cases h
    rfl
  | .cons a k r, tl, S, D, W, D1, h => by
    rw [goF] at h
    cases hp : pop S with
    | nil => rw [hp] at h; cases h
    | cons x S' =>
      rw [hp] at h
      simp only at h
      have h0 := totW_pop S
      rw [hp, totW_cons] at h0
      have h1 := pop_pos hp
      split at h
      · cases h
      · split at h
        · cases h
        · split at h
          · have h2 := goF_cnt r tl _ _ h
            rw [totW_cons] at h2
            show totW W + (cntF r + 1) = _
            have h3 : (wless x).many = x.many - 1 := rfl
            omega
          · cases h
theorem totW_wants (ps : List Plc) (many o : Nat) (g : Bool) : totW (wants ps many o g) = ps.length * many := by
  cases ps with
  | nil => simp [wants, totW]
  | cons p r =>
    rw [wants, totW_cons]
    have : totW (r.map fun q => ⟨q, many, o, false⟩) = r.length * many := by
      induction r with
      | nil => simp [totW]
      | cons q t ih => rw [List.map_cons, totW_cons, ih, List.length_cons, Nat.succ_mul]; simp only; omega
    rw [this, List.length_cons, Nat.succ_mul]
    simp only
    omega
theorem plcs_kids {k : Kd} {kids : Int} {ps : List Plc} {many : Nat} (h : plcs k kids = some (ps, many)) : ((ps.length * many : Nat) : Int) = kids := by
  unfold plcs at h
  split at h
  · split at h
    · cases h
      simp only [List.length_cons, List.length_nil]
      omega
    · cases h
  · split at h
    · rename_i w hw
      cases h
      have := List.find?_some hw
      simp only [beq_iff_eq] at this
      omega
    · split at h
      · rename_i h9
        cases h
        simp only [List.length_nil]
        omega
      · cases h
/- each node has as many kids as it says -/
def wfF : Fo → Prop
  | .nil => True
  | .cons a k r => a.kids = (cntF k : Int) ∧ wfF k ∧ wfF r
theorem goF_wf : ∀ (f : Fo) (tl : List Nd) (S : List Wt) (D : Nat) {W : List Wt} {D1 : Nat}, goF f tl S D = some (W, D1) → wfF f
  | .nil, _, _, _, _, _, _ => trivial
  | .cons a k r, tl, S, D, W, D1, h => by
    rw [goF] at h
    split at h
    · cases h
    · split at h
      · cases h
      · rename_i o ws he
        split at h
        · cases h
        · rename_i W1 D2 hk
          split at h
          · rename_i hw
            refine ⟨?_, goF_wf k _ _ _ hk, goF_wf r _ _ _ h⟩
            obtain ⟨-, ps, many, h2, -, h4⟩ := ent_is he
            have h5 := goF_cnt k _ _ _ hk
            have h6 := totW_pop W1
            rw [hw] at h6
            rw [h4, totW_wants] at h5
            have h7 := plcs_kids h2
            have h8 : totW ([] : List Wt) = 0 := rfl
            omega
          · cases h
theorem cnt_le : ∀ (f : Fo), cntF f ≤ (flF f).length
  | .nil => Nat.le_refl _
  | .cons a k r => by
    have := cnt_le r
    show cntF r + 1 ≤ (flF k ++ flF r).length + 1
    rw [List.length_append]
    omega
theorem bhn_over (N : Nat) : ∀ (f : Fo) (tl : List Nd) (j p : Nat), wfF f → (flF f).length ≤ N → bhn N (flF f ++ tl) (cntF f + j) p = bhn N tl j (p + (flF f).length)
  | .nil, tl, j, p, _, _ => by
    show bhn N tl (0 + j) p = _
    rw [Nat.zero_add]
    rfl
  | .cons a k r, tl, j, p, hw, hn => by
    obtain ⟨h1, h2, h3⟩ := hw
    have hl : (flF (.cons a k r)).length = (flF k).length + (flF r).length + 1 := by
      show (flF k ++ flF r).length + 1 = _
      rw [List.length_append]
    have hc := cnt_le k
    rw [hl] at hn ⊢
    show bhn N (a :: (flF k ++ flF r ++ tl)) (cntF r + 1 + j) p = _
    rw [show cntF r + 1 + j = (cntF r + j) + 1 by omega, bhn, if_pos (by omega), h1, List.append_assoc, show cntF r + j + ((cntF k : Int)).toNat = cntF k + (cntF r + j) by omega, bhn_over N k (flF r ++ tl) (cntF r + j) (p + 1) h2 (by omega), bhn_over N r tl j _ h3 (by omega)]
    congr 1
    omega
/- behind a tree that stands in a list -/
theorem bhd_at {l : List Nd} {p : Nat} {a : Nd} {k : Fo} {tl : List Nd} (hd : l.drop p = a :: (flF k ++ tl)) (hk : a.kids = (cntF k : Int)) (hw : wfF k) : bhd l (p : Int) = ((p + 1 + (flF k).length : Nat) : Int) := by
  have hlen := congrArg List.length hd
  rw [List.length_drop, List.length_cons, List.length_append] at hlen
  unfold bhd
  rw [if_neg (by omega), Int.toNat_natCast, hd]
  have h1 := bhn_over l.length (.cons a k .nil) tl 0 p ⟨hk, hw, trivial⟩ (by
    show (flF k ++ []).length + 1 ≤ _
    rw [List.append_nil]
    omega)
  have h2 : flF (.cons a k .nil) ++ tl = a :: (flF k ++ tl) := by
    show a :: (flF k ++ [] ++ tl) = _
    rw [List.append_nil]
  rw [h2] at h1
  have h3 : cntF (.cons a k .nil) + 0 = 1 := rfl
  rw [h3] at h1
  rw [h1]
  show (match bhn l.length tl 0 (p + (flF k ++ []).length.succ) with | some q => (q : Int) | none => -1) = _
  have h4 : ∀ q, bhn l.length tl 0 q = some q := fun q => by cases tl <;> rfl
  rw [h4, List.append_nil]
  show ((p + ((flF k).length + 1) : Nat) : Int) = _
  omega
/- where they begin -/
def posF : Fo → Nat → List Int
  | .nil, _ => []
  | .cons _ k r, p => (p : Int) :: posF r (p + 1 + (flF k).length)
theorem kdsF_at (l : List Nd) : ∀ (f : Fo) (tl : List Nd) (p : Nat), l.drop p = flF f ++ tl → wfF f → kdsF l (cntF f) (p : Int) = posF f p
  | .nil, _, _, _, _ => rfl
  | .cons a k r, tl, p, hd, hw => by
    obtain ⟨h1, h2, h3⟩ := hw
    have hd2 : l.drop p = a :: (flF k ++ (flF r ++ tl)) := by
      rw [hd]
      show a :: (flF k ++ flF r) ++ tl = _
      rw [List.cons_append, List.append_assoc]
    show (p : Int) :: kdsF l (cntF r) (bhd l p) = _
    rw [bhd_at hd2 h1 h2, kdsF_at l r tl _ (by
      rw [show p + 1 + (flF k).length = p + (1 + (flF k).length) by omega, ← List.drop_drop, hd2, ← List.drop_drop]
      show (flF k ++ (flF r ++ tl)).drop (flF k).length = _
      exact List.drop_left) h3]
    rfl
theorem kds_at {l : List Nd} {p : Nat} {a : Nd} {k : Fo} {tl : List Nd} (hd : l.drop p = a :: (flF k ++ tl)) (hk : a.kids = (cntF k : Int)) (hw : wfF k) : kds l (p : Int) = posF k (p + 1) := by
  unfold kds
  rw [bhd_at hd hk hw, if_neg (by omega), Int.toNat_natCast]
  have hg : l.getD p dn = a := by
    have h1 := congrArg (fun m => m[0]?) hd
    simp only [List.getElem?_drop, Nat.add_zero, List.getElem?_cons_zero] at h1
    rw [List.getD_eq_getElem?_getD, h1]
    rfl
  rw [hg, hk, Int.toNat_natCast]
  have h2 := kdsF_at l k tl (p + 1) (by rw [← List.drop_drop, hd]; rfl) hw
  exact h2
end TR
end Go.Proofs.Ytgahdppcdeefaaa
