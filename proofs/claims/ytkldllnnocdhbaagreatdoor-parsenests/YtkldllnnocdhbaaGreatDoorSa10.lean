/-
  A fault stays where it is, whatever stands behind: no program.
-/
import Derived.Test.YtkldllnnocdhbaaGreatDoorPc10
namespace Go.Proofs.YtkldllnnocdhbaaGreatDoor
namespace TP
open TR (Nd)
open TK (Tok)
/- the token that an answer names: where a tree ends, or where a fault lies (a token at i stands at 10 * i) -/
def idx : Rs → Nat
  | .ok _ j => j
  | .bad _ p => (p / 10).toNat
/- F, a part's answer as a function of the list: at l it names a token from c to N; and each list of S that is l up to there has the same answer -/
def fit : Rs → Prop
  | .ok _ _ => True
  | .bad e p => (e = 22 ∨ e = 23) ∧ p = 10 * ((p / 10).toNat : Int)
structure AG (l : List Tok) (N c : Nat) (S : List Tok → Prop) (F : List Tok → Option Rs) : Prop where
  bound : ∀ R, F l = some R → c ≤ idx R ∧ idx R ≤ N
  fits : ∀ R, F l = some R → fit R
  same : ∀ l' R, S l' → F l = some R → (∀ q, q ≤ idx R → tk l' q = tk l q) → F l' = some R
theorem AG.mono {l : List Tok} {N c c1 : Nat} {S : List Tok → Prop} {F : List Tok → Option Rs} (h : AG l N c1 S F) (hc : c ≤ c1) : AG l N c S F :=
  ⟨fun R e => ⟨Nat.le_trans hc (h.bound R e).1, (h.bound R e).2⟩, h.fits, h.same⟩
theorem AG.sub {l : List Tok} {N c : Nat} {S T : List Tok → Prop} {F : List Tok → Option Rs} (h : AG l N c S F) (hs : ∀ l', T l' → S l') : AG l N c T F := ⟨h.bound, h.fits, fun l' R hS => h.same l' R (hs l' hS)⟩
/- on S it may be written otherwise -/
theorem AG.congr {l : List Tok} {N c : Nat} {S : List Tok → Prop} {F G : List Tok → Option Rs} (h : AG l N c S F) (hl : G l = F l) (he : ∀ l', S l' → G l' = F l') : AG l N c S G :=
  ⟨fun R e => h.bound R (hl ▸ e), fun R e => h.fits R (hl ▸ e), fun l' R hS e hq => by rw [he l' hS]; exact h.same l' R hS (hl ▸ e) hq⟩
theorem AG_ok {l : List Tok} {N c j : Nat} {S : List Tok → Prop} {f : Fo} (h1 : c ≤ j) (h2 : j ≤ N) : AG l N c S (fun _ => okr f j) :=
  ⟨fun R e => by cases e; exact ⟨h1, h2⟩, fun R e => by cases e; trivial, fun _ _ _ e _ => e⟩
theorem AG_none {l : List Tok} {N c : Nat} {S : List Tok → Prop} : AG l N c S (fun _ => none) := ⟨fun _ e => (by cases e), fun _ e => (by cases e), fun _ _ _ e _ => (by cases e)⟩
theorem AG_bad {l : List Tok} {N c q : Nat} {S : List Tok → Prop} (hp : ∀ q, q ≤ N → (tk l q).pos = 10 * (q : Int)) (h1 : c ≤ q) (h2 : q ≤ N) : AG l N c S (fun l' => bad (tk l' q)) := by
  have hi : ∀ e, idx (.bad e (tk l q).pos) = q := fun e => by
    show ((tk l q).pos / 10).toNat = q
    rw [hp q h2]
    omega
  refine ⟨fun R e => ?_, fun R e => ?_, fun l' R _ e hq => ?_⟩
  · cases e
    rw [hi]
    exact ⟨h1, h2⟩
  · cases e
    refine ⟨.inl rfl, ?_⟩
    rw [hp q h2]
    omega
  · cases e
    rw [hi] at hq
    show bad (tk l' q) = _
    rw [hq q (Nat.le_refl _)]
    rfl
theorem AG_deep {l : List Tok} {N c q : Nat} {S : List Tok → Prop} (hp : ∀ q, q ≤ N → (tk l q).pos = 10 * (q : Int)) (h1 : c ≤ q) (h2 : q ≤ N) : AG l N c S (fun l' => deep (tk l' q)) := by
  have hi : ∀ e, idx (.bad e (tk l q).pos) = q := fun e => by
    show ((tk l q).pos / 10).toNat = q
    rw [hp q h2]
    omega
  refine ⟨fun R e => ?_, fun R e => ?_, fun l' R _ e hq => ?_⟩
  · cases e
    rw [hi]
    exact ⟨h1, h2⟩
  · cases e
    refine ⟨.inr rfl, ?_⟩
    rw [hp q h2]
    omega
  · cases e
    rw [hi] at hq
    show deep (tk l' q) = _
    rw [hq q (Nat.le_refl _)]
    rfl
/- a part, and what follows it -/
theorem AG_bd {l : List Tok} {N c c1 : Nat} {S : List Tok → Prop} {F : List Tok → Option Rs} {K : List Tok → Fo → Nat → Option Rs} (h : AG l N c1 S F) (hc : c ≤ c1) (hk : ∀ f j, c1 ≤ j → j ≤ N → AG l N j S (fun l' => K l' f j)) : AG l N c S (fun l' => bd (F l') (K l')) := by
  refine ⟨fun R e => ?_, fun R e => ?_, fun l' R hS e hq => ?_⟩
  · rcases bd_some e with ⟨e1, p1, h1, rfl⟩ | ⟨f, j, h1, h2⟩
    · exact ⟨Nat.le_trans hc (h.bound _ h1).1, (h.bound _ h1).2⟩
    · have h3 := h.bound _ h1
      have h4 := (hk f j h3.1 h3.2).bound R h2
      exact ⟨Nat.le_trans hc (Nat.le_trans h3.1 h4.1), h4.2⟩
  · rcases bd_some e with ⟨e1, p1, h1, rfl⟩ | ⟨f, j, h1, h2⟩
    · exact h.fits _ h1
    · have h3 := h.bound _ h1
      exact (hk f j h3.1 h3.2).fits R h2
  · rcases bd_some e with ⟨e1, p1, h1, rfl⟩ | ⟨f, j, h1, h2⟩
    · show bd (F l') (K l') = _
      rw [h.same l' _ hS h1 hq]
      rfl
    · have h3 := h.bound _ h1
      have h4 := (hk f j h3.1 h3.2).bound R h2
      have h5 := h.same l' _ hS h1 (fun q hq9 => hq q (Nat.le_trans hq9 h4.1))
      show bd (F l') (K l') = _
      rw [h5]
      exact (hk f j h3.1 h3.2).same l' R hS h2 hq
/- a test of the token at q -/
theorem AG_if {l : List Tok} {N c q : Nat} {S : List Tok → Prop} {C : Tok → Prop} [DecidablePred C] {X Y : List Tok → Option Rs} (hc : c ≤ q) (hx : C (tk l q) → AG l N q (fun l' => S l' ∧ tk l' q = tk l q) X) (hy : ¬ C (tk l q) → AG l N q (fun l' => S l' ∧ tk l' q = tk l q) Y) : AG l N c S (fun l' => if C (tk l' q) then X l' else Y l') := by
  by_cases hC : C (tk l q)
  · refine ⟨fun R e => ?_, fun R e => ?_, fun l' R hS e hq => ?_⟩
    · simp only [if_pos hC] at e
      exact ⟨Nat.le_trans hc ((hx hC).bound R e).1, ((hx hC).bound R e).2⟩
    · simp only [if_pos hC] at e
      exact (hx hC).fits R e
    · simp only [if_pos hC] at e
      have h1 := hq q ((hx hC).bound R e).1
      show (if C (tk l' q) then X l' else Y l') = _
      rw [if_pos (by rw [h1]; exact hC)]
      exact (hx hC).same l' R ⟨hS, h1⟩ e hq
  · refine ⟨fun R e => ?_, fun R e => ?_, fun l' R hS e hq => ?_⟩
    · simp only [if_neg hC] at e
      exact ⟨Nat.le_trans hc ((hy hC).bound R e).1, ((hy hC).bound R e).2⟩
    · simp only [if_neg hC] at e
      exact (hy hC).fits R e
    · simp only [if_neg hC] at e
      have h1 := hq q ((hy hC).bound R e).1
      show (if C (tk l' q) then X l' else Y l') = _
      rw [if_neg (by rw [h1]; exact hC)]
      exact (hy hC).same l' R ⟨hS, h1⟩ e hq
/- a test of no token -/
theorem AG_cond {l : List Tok} {N c : Nat} {S : List Tok → Prop} {p : Prop} [Decidable p] {X Y : List Tok → Option Rs} (hx : p → AG l N c S X) (hy : ¬ p → AG l N c S Y) : AG l N c S (fun l' => if p then X l' else Y l') := by
  by_cases hp : p
  · exact (hx hp).congr (if_pos hp) (fun _ _ => if_pos hp)
  · exact (hy hp).congr (if_neg hp) (fun _ _ => if_neg hp)
end TP
end Go.Proofs.YtkldllnnocdhbaaGreatDoor
namespace Go.Proofs.YtkldllnnocdhbaaGreatDoor
namespace TP
open TR (Nd)
open TK (Tok)
variable {l : List Tok} {N c q : Nat} {S : List Tok → Prop} {X Y : List Tok → Option Rs}
theorem AG_okS {f : List Tok → Fo} {j : Nat} (h1 : c ≤ j) (h2 : j ≤ N) (hf : ∀ l', S l' → f l' = f l) : AG l N c S (fun l' => okr (f l') j) :=
  (AG_ok (f := f l) h1 h2).congr rfl (fun l' h => by show okr (f l') j = okr (f l) j; rw [hf l' h])
theorem AG_rec {n j d : Nat} {g : List Tok → G} (ih : AG l N j (fun _ => True) (fun l' => P l' n (g l) j d)) (hc : c ≤ j) (hg : ∀ l', S l' → g l' = g l) : AG l N c S (fun l' => P l' n (g l') j d) :=
  ((ih.mono hc).sub (fun _ _ => trivial)).congr rfl (fun l' h => by rw [hg l' h])
theorem AG_mk {m : List Int} (hN : ∀ i, (tk l i).kind ≠ 0 → i < N) (hc : c ≤ q) (hx : q < N → AG l N q (fun l' => S l' ∧ tk l' q = tk l q) X) (hy : AG l N q (fun l' => S l' ∧ tk l' q = tk l q) Y) : AG l N c S (fun l' => if mk (tk l' q) m = true then X l' else Y l') := AG_if (C := fun t => mk t m = true) hc (fun h => hx (hN _ (mk_kd h))) (fun _ => hy)
theorem AG_wd {m : List Int} (hN : ∀ i, (tk l i).kind ≠ 0 → i < N) (hc : c ≤ q) (hx : q < N → AG l N q (fun l' => S l' ∧ tk l' q = tk l q) X) (hy : AG l N q (fun l' => S l' ∧ tk l' q = tk l q) Y) : AG l N c S (fun l' => if wd (tk l' q) m = true then X l' else Y l') := AG_if (C := fun t => wd t m = true) hc (fun h => hx (hN _ (wd_kd h))) (fun _ => hy)
theorem AG_wd2 {m m2 : List Int} (hN : ∀ i, (tk l i).kind ≠ 0 → i < N) (hc : c ≤ q) (hx : q < N → AG l N q (fun l' => S l' ∧ tk l' q = tk l q) X) (hy : AG l N q (fun l' => S l' ∧ tk l' q = tk l q) Y) : AG l N c S (fun l' => if wd (tk l' q) m = true ∨ wd (tk l' q) m2 = true then X l' else Y l') := AG_if (C := fun t => wd t m = true ∨ wd t m2 = true) hc (fun h => hx (hN _ (h.elim wd_kd wd_kd))) (fun _ => hy)
theorem AG_wd3 {m m2 m3 : List Int} (hN : ∀ i, (tk l i).kind ≠ 0 → i < N) (hc : c ≤ q) (hx : q < N → AG l N q (fun l' => S l' ∧ tk l' q = tk l q) X) (hy : AG l N q (fun l' => S l' ∧ tk l' q = tk l q) Y) : AG l N c S (fun l' => if wd (tk l' q) m = true ∨ wd (tk l' q) m2 = true ∨ wd (tk l' q) m3 = true then X l' else Y l') := AG_if (C := fun t => wd t m = true ∨ wd t m2 = true ∨ wd t m3 = true) hc (fun h => hx (hN _ (h.elim wd_kd (fun h => h.elim wd_kd wd_kd)))) (fun _ => hy)
theorem AG_frt (hN : ∀ i, (tk l i).kind ≠ 0 → i < N) (hc : c ≤ q) (hx : q < N → AG l N q (fun l' => S l' ∧ tk l' q = tk l q) X) (hy : AG l N q (fun l' => S l' ∧ tk l' q = tk l q) Y) : AG l N c S (fun l' => if frt (tk l' q) = true then X l' else Y l') := AG_if (C := fun t => frt t = true) hc (fun h => hx (hN _ (frt_kd h))) (fun _ => hy)
theorem AG_k0 (hN : ∀ i, (tk l i).kind ≠ 0 → i < N) (hc : c ≤ q) (hx : AG l N q (fun l' => S l' ∧ tk l' q = tk l q) X) (hy : q < N → AG l N q (fun l' => S l' ∧ tk l' q = tk l q) Y) : AG l N c S (fun l' => if (tk l' q).kind = 0 then X l' else Y l') := AG_if (C := fun t => t.kind = 0) hc (fun _ => hx) (fun h => hy (hN _ h))
theorem AG_kd {z : Int} (hN : ∀ i, (tk l i).kind ≠ 0 → i < N) (hz : z ≠ 0) (hc : c ≤ q) (hx : q < N → AG l N q (fun l' => S l' ∧ tk l' q = tk l q) X) (hy : AG l N q (fun l' => S l' ∧ tk l' q = tk l q) Y) : AG l N c S (fun l' => if (tk l' q).kind = z then X l' else Y l') := AG_if (C := fun t => t.kind = z) hc (fun h => hx (hN _ (by omega))) (fun _ => hy)
theorem AG_bop {r : Int} (hN : ∀ i, (tk l i).kind ≠ 0 → i < N) (hc : c ≤ q) (hx : AG l N q (fun l' => S l' ∧ tk l' q = tk l q) X) (hy : q < N → AG l N q (fun l' => S l' ∧ tk l' q = tk l q) Y) : AG l N c S (fun l' => if bop (tk l' q) r = 0 then X l' else Y l') := AG_if (C := fun t => bop t r = 0) hc (fun _ => hx) (fun h => hy (hN _ (bop_kd h)))
theorem AG_nm {m1 m2 m3 m4 : List Int} (hN : ∀ i, (tk l i).kind ≠ 0 → i < N) (hc : c ≤ q) (hx : AG l N q (fun l' => S l' ∧ tk l' q = tk l q) X) (hy : q < N → AG l N q (fun l' => S l' ∧ tk l' q = tk l q) Y) : AG l N c S (fun l' => if (frt (tk l' q) || (wd (tk l' q) m1 || wd (tk l' q) m2) || (wd (tk l' q) m3 || wd (tk l' q) m4)) = false then X l' else Y l') :=
  AG_if (C := fun t => (frt t || (wd t m1 || wd t m2) || (wd t m3 || wd t m4)) = false) hc (fun _ => hx) (fun h => hy (by
    simp only [Bool.or_eq_false_iff, not_and, Bool.not_eq_false] at h
    by_cases h1 : frt (tk l q) = true
    · exact hN _ (frt_kd h1)
    by_cases h2 : wd (tk l q) m1 = true
    · exact hN _ (wd_kd h2)
    by_cases h3 : wd (tk l q) m2 = true
    · exact hN _ (wd_kd h3)
    by_cases h4 : wd (tk l q) m3 = true
    · exact hN _ (wd_kd h4)
    simp only [Bool.not_eq_true] at h1 h2 h3 h4
    exact hN _ (wd_kd (h ⟨h1, h2, h3⟩ h4))))
/- a test of a token that is read, and of one that is next -/
theorem AG_andm {B : List Tok → Prop} [∀ l', Decidable (B l')] {m : List Int} (hN : ∀ i, (tk l i).kind ≠ 0 → i < N) (hB : ∀ l', S l' → (B l' ↔ B l)) (hc : c ≤ q) (hx : q < N → AG l N q (fun l' => S l' ∧ tk l' q = tk l q) X) (hy : AG l N q (fun l' => S l' ∧ tk l' q = tk l q) Y) : AG l N c S (fun l' => if B l' ∧ mk (tk l' q) m = true then X l' else Y l') :=
  (AG_if (C := fun t => B l ∧ mk t m = true) hc (fun h => hx (hN _ (mk_kd h.2))) (fun _ => hy)).congr rfl (fun l' h => by simp only [hB l' h])
theorem AG_andw {B : List Tok → Prop} [∀ l', Decidable (B l')] {m : List Int} (hN : ∀ i, (tk l i).kind ≠ 0 → i < N) (hB : ∀ l', S l' → (B l' ↔ B l)) (hc : c ≤ q) (hx : q < N → AG l N q (fun l' => S l' ∧ tk l' q = tk l q) X) (hy : AG l N q (fun l' => S l' ∧ tk l' q = tk l q) Y) : AG l N c S (fun l' => if B l' ∧ wd (tk l' q) m = true then X l' else Y l') :=
  (AG_if (C := fun t => B l ∧ wd t m = true) hc (fun h => hx (hN _ (wd_kd h.2))) (fun _ => hy)).congr rfl (fun l' h => by simp only [hB l' h])
theorem AG_tok {F : List Tok → Option Rs} (hc : c ≤ q) (h : AG l N q (fun l' => S l' ∧ tk l' q = tk l q) F) : AG l N c S F :=
  ⟨fun R e => ⟨Nat.le_trans hc (h.bound R e).1, (h.bound R e).2⟩, h.fits, fun l' R hS e hq => h.same l' R ⟨hS, hq q (h.bound R e).1⟩ e hq⟩
theorem zone_kd {t : Tok} {z : Int} (hz : zone t = some z) : t.kind ≠ 0 := by
  unfold zone at hz
  split at hz
  · rename_i h6; exact wd_kd h6
  split at hz
  · rename_i h6; exact wd_kd h6
  split at hz
  · rename_i h6; exact wd_kd h6
  split at hz
  · rename_i h6; exact wd_kd h6
  cases hz
theorem evnt_kd {t : Tok} {z : Int} (hz : evnt t = some z) : t.kind ≠ 0 := by
  unfold evnt at hz
  split at hz
  · rename_i h6; exact wd_kd h6
  split at hz
  · rename_i h6; exact wd_kd h6
  split at hz
  · rename_i h6; exact wd_kd h6
  split at hz
  · rename_i h6; exact wd_kd h6
  split at hz
  · rename_i h6; exact wd_kd h6
  cases hz
theorem ag (l : List Tok) (N : Nat) (hN : ∀ i, (tk l i).kind ≠ 0 → i < N) (hp : ∀ q, q ≤ N → (tk l q).pos = 10 * (q : Int)) : ∀ (n : Nat) (g : G) (i d : Nat), i ≤ N → AG l N i (fun _ => True) (fun l' => P l' n g i d)
  | 0, _, _, _, _ => AG_none
  | n + 1, g, i, d, hi => by
    have ih := fun g i d => ag l N hN hp n g i d
    cases g with
    | arg =>
      simp only [P]
      refine AG_kd hN (by decide) (by omega) (fun _ => AG_okS (by omega) (by omega) (fun l' h => by simp only [h])) ?_
      refine AG_tok (q := i) (Nat.le_refl _) ?_
      cases hz : zone (tk l i) with
      | none => exact AG.congr (F := fun l' => P l' n (.row 1) i d) (AG_rec (ih _ _ _ (by omega)) (by omega) (fun l' h => rfl)) (by simp only [hz]) (fun l' h => by simp only [h.2, hz])
      | some z =>
        have h5 := hN _ (zone_kd hz)
        exact AG.congr (F := fun l' => okr (nod 51 z [] (tk l' i).pos .nil) (i + 1)) (AG_okS (by omega) (by omega) (fun l' h => by simp only [h])) (by simp only [hz]) (fun l' h => by simp only [h.2, hz])
    | line =>
      simp only [P]
      refine AG_wd3 hN (by omega) (fun _ => ?_) (AG_wd hN (by omega) (fun _ => ?_) (AG_wd hN (by omega) (fun _ => ?_) (AG_bad hp (by omega) (by omega))))
      · refine AG_kd hN (by decide) (by omega) (fun _ => AG_mk hN (by omega) (fun _ => AG_okS (by omega) (by omega) (fun l' h => by simp only [h])) (AG_bad hp (by omega) (by omega))) (AG_bad hp (by omega) (by omega))
      · refine AG_kd hN (by decide) (by omega) (fun _ => AG_mk hN (by omega) (fun _ => AG_okS (by omega) (by omega) (fun l' h => by simp only [h])) (AG_bad hp (by omega) (by omega))) (AG_bad hp (by omega) (by omega))
      · refine AG_tok (q := i + 1) (by omega) ?_
        cases hz : evnt (tk l (i + 1)) with
        | none => exact AG.congr (F := fun l' => bad (tk l' (i + 1))) (AG_bad hp (by omega) (by omega)) (by simp only [hz]) (fun l' h => by simp only [h.2, hz])
        | some v =>
          have h5 := hN _ (evnt_kd hz)
          refine AG.congr (F := fun l' => if wd (tk l' (i + 2)) [119, 104, 101, 110] = true then bd (P l' n (.row 1) (i + 3) d) fun x j => bd (P l' n .block j d) fun y k => okr (nod 7 v [] (tk l' i).pos (x.app y)) k else bd (P l' n .block (i + 2) d) fun y k => okr (nod 7 v [] (tk l' i).pos y) k) ?_ (by simp only [hz]) (fun l' h => by simp only [h.2, hz])
          refine AG_wd hN (by omega) (fun _ => ?_) ?_
          · refine AG_bd (AG_rec (ih _ _ _ (by omega)) (Nat.le_refl _) (fun l' h => rfl)) (by omega) (fun x j h1 h2 => AG_bd (AG_rec (ih _ _ _ (by omega)) (Nat.le_refl _) (fun l' h => rfl)) (by omega) (fun y k h3 h4 => AG_okS (by omega) (by omega) (fun l' h => by simp only [h])))
          · exact AG_bd (AG_rec (ih _ _ _ (by omega)) (Nat.le_refl _) (fun l' h => rfl)) (by omega) (fun y k h3 h4 => AG_okS (by omega) (by omega) (fun l' h => by simp only [h]))
    | _ =>
      simp only [P]
      repeat' first
        | exact AG_bad hp (by omega) (by omega)
        | exact AG_deep hp (by omega) (by omega)
        | exact AG_ok (by omega) (by omega)
        | exact AG_okS (by omega) (by omega) (fun l' h => by simp only [h])
        | refine AG_mk hN (by omega) (fun _ => ?_) ?_
        | refine AG_wd hN (by omega) (fun _ => ?_) ?_
        | refine AG_wd2 hN (by omega) (fun _ => ?_) ?_
        | refine AG_frt hN (by omega) (fun _ => ?_) ?_
        | refine AG_k0 hN (by omega) ?_ (fun _ => ?_)
        | refine AG_kd hN (by decide) (by omega) (fun _ => ?_) ?_
        | refine AG_bop hN (by omega) ?_ (fun _ => ?_)
        | refine AG_nm hN (by omega) ?_ (fun _ => ?_)
        | refine AG_andm hN (fun l' h => by simp only [h]) (by omega) (fun _ => ?_) ?_
        | refine AG_andw hN (fun l' h => by simp only [h]) (by omega) (fun _ => ?_) ?_
        | refine AG_cond (fun _ => ?_) (fun _ => ?_)
        | exact AG_rec (ih _ _ _ (by omega)) (by omega) (fun l' h => by first | rfl | simp only [h])
        | (refine AG_bd (AG_rec (ih _ _ _ (by omega)) (Nat.le_refl _) (fun l' h => by first | rfl | simp only [h])) (by omega) (fun _ _ _ _ => ?_))
end TP
end Go.Proofs.YtkldllnnocdhbaaGreatDoor
namespace Go.Proofs.YtkldllnnocdhbaaGreatDoor
namespace TP
open TR (Nd)
open TK (Tok)
/- more fuel changes nothing -/
def Lef (a b : Option Rs) : Prop := ∀ R, a = some R → b = some R
theorem Lef_refl (a : Option Rs) : Lef a a := fun _ h => h
theorem Lef_none (b : Option Rs) : Lef none b := fun _ h => by cases h
theorem Lef_bd {a b : Option Rs} {k k2 : Fo → Nat → Option Rs} (h : Lef a b) (hk : ∀ f j, Lef (k f j) (k2 f j)) : Lef (bd a k) (bd b k2) := fun R e => by
  rcases bd_some e with ⟨e1, p1, h1, rfl⟩ | ⟨f, j, h1, h2⟩
  · rw [h _ h1]; rfl
  · rw [h _ h1]; exact hk f j R h2
theorem Lef_ite {p : Prop} [Decidable p] {a b a2 b2 : Option Rs} (h : p → Lef a b) (h2 : ¬ p → Lef a2 b2) : Lef (if p then a else a2) (if p then b else b2) := by
  by_cases hp : p
  · rw [if_pos hp, if_pos hp]; exact h hp
  · rw [if_neg hp, if_neg hp]; exact h2 hp
theorem more (l : List Tok) : ∀ (n m : Nat) (g : G) (i d : Nat), n ≤ m → Lef (P l n g i d) (P l m g i d)
  | 0, _, _, _, _, _ => Lef_none _
  | n + 1, 0, _, _, _, h => absurd h (Nat.not_succ_le_zero _)
  | n + 1, m + 1, g, i, d, h => by
    have ih := fun g i d => more l n m g i d (Nat.le_of_succ_le_succ h)
    cases g with
    | arg =>
      simp only [P]
      refine Lef_ite (fun _ => Lef_refl _) (fun _ => ?_)
      cases zone (tk l i) with
      | none => exact ih _ _ _
      | some z => exact Lef_refl _
    | line =>
      simp only [P]
      refine Lef_ite (fun _ => Lef_refl _) (fun _ => Lef_ite (fun _ => Lef_refl _) (fun _ => Lef_ite (fun _ => ?_) (fun _ => Lef_refl _)))
      cases evnt (tk l (i + 1)) with
      | none => exact Lef_refl _
      | some v => exact Lef_ite (fun _ => Lef_bd (ih _ _ _) (fun _ _ => Lef_bd (ih _ _ _) (fun _ _ => Lef_refl _))) (fun _ => Lef_bd (ih _ _ _) (fun _ _ => Lef_refl _))
    | _ =>
      simp only [P]
      repeat' first
        | exact Lef_refl _
        | exact ih _ _ _
        | refine Lef_bd (ih _ _ _) (fun _ _ => ?_)
        | refine Lef_ite (fun _ => ?_) (fun _ => ?_)
/- a part, and the end behind it -/
def pkR (l : List Tok) (R : Option Rs) : Option Rs := bd R (fun x j => okr (nod 1 0 [] (tk l 0).pos x) j)
def fin (l : List Tok) (R : Option Rs) : Option Rs := bd R (fun f j => if (tk l j).kind = 0 then okr f j else bad (tk l j))
def part (pk : Bool) (l : List Tok) (n : Nat) : Option Rs := if pk = true then pkR l (P l n (.cards .nil) 0 0) else P l n (.row 1) 0 0
def ans (pk : Bool) (l : List Tok) (n : Nat) : Option Rs := fin l (part pk l n)
theorem ans_more (pk : Bool) (l : List Tok) {n m : Nat} (h : n ≤ m) : Lef (ans pk l n) (ans pk l m) := by
  refine Lef_bd ?_ (fun _ _ => Lef_refl _)
  cases pk with
  | false => exact more l n m _ _ _ h
  | true => exact Lef_bd (more l n m _ _ _ h) (fun _ _ => Lef_refl _)
theorem ag_ans (pk : Bool) (l : List Tok) (n N : Nat) (hN : ∀ i, (tk l i).kind ≠ 0 → i < N) (hp : ∀ q, q ≤ N → (tk l q).pos = 10 * (q : Int)) : AG l N 0 (fun _ => True) (fun l' => ans pk l' n) := by
  refine AG_bd (c1 := 0) ?_ (Nat.le_refl _) (fun f j h1 h2 => AG_k0 hN (Nat.le_refl _) (AG_ok (Nat.le_refl _) h2) (fun _ => AG_bad hp (Nat.le_refl _) h2))
  cases pk with
  | false => exact ag l N hN hp n _ 0 0 (Nat.zero_le _)
  | true =>
    refine AG_tok (q := 0) (Nat.le_refl _) ?_
    exact AG_bd ((ag l N hN hp n _ 0 0 (Nat.zero_le _)).sub (fun _ _ => trivial)) (Nat.le_refl _) (fun f j h1 h2 => AG_okS (Nat.le_refl _) h2 (fun l' h => by simp only [h.2]))
theorem ans_ends (pk : Bool) (l : List Tok) : ∃ R, ans pk l (fuel l) = some R := by
  have h1 : ∃ R, part pk l (fuel l) = some R := by
    cases pk with
    | false =>
      obtain ⟨R, h, -⟩ := ends l (.row 1) 0 0 (Nat.zero_le _)
      exact ⟨R, h⟩
    | true =>
      obtain ⟨R, h, -⟩ := ends l (.cards .nil) 0 0 (Nat.zero_le _)
      refine Option.isSome_iff_exists.1 ?_
      show (bd (P l (fuel l) (.cards .nil) 0 0) _).isSome = true
      rw [h]
      cases R <;> rfl
  obtain ⟨R, h⟩ := h1
  refine Option.isSome_iff_exists.1 ?_
  show (bd (part pk l (fuel l)) _).isSome = true
  rw [h]
  cases R with
  | bad e p => rfl
  | ok f j =>
    show (if (tk l j).kind = 0 then okr f j else bad (tk l j)).isSome = true
    by_cases hk : (tk l j).kind = 0
    · rw [if_pos hk]; rfl
    · rw [if_neg hk]; rfl
/- a list that may be parsed, its tokens at 0, 10, 20 -/
structure Std (m : List Tok) : Prop where
  pos : 0 < m.length
  kd : ∀ i, (tk m i).kind ≠ 0 → i < m.length - 1
  at10 : ∀ q, q ≤ m.length - 1 → (tk m q).pos = 10 * (q : Int)
theorem ans_fit {pk : Bool} {m : List Tok} (h : Std m) {R : Rs} (hR : ans pk m (fuel m) = some R) : idx R ≤ m.length - 1 ∧ fit R :=
  ⟨((ag_ans pk m _ _ h.kd h.at10).bound R hR).2, (ag_ans pk m _ _ h.kd h.at10).fits R hR⟩
theorem ans_same {pk : Bool} {m o : List Tok} (h : Std m) {R : Rs} (hR : ans pk m (fuel m) = some R) (hq : ∀ q, q ≤ idx R → tk o q = tk m q) : ans pk o (fuel o) = some R := by
  obtain ⟨F, hF⟩ : ∃ F, F = max (fuel m) (fuel o) := ⟨_, rfl⟩
  have h1 := ans_more pk m (m := F) (by omega) R hR
  have h2 := (ag_ans pk m F _ h.kd h.at10).same o R trivial h1 hq
  obtain ⟨R2, h3⟩ := ans_ends pk o
  have h4 := ans_more pk o (m := F) (by omega) R2 h3
  have h5 : ans pk o F = some R := h2
  rw [h4] at h5
  rw [h3, h5]
/- what is told -/
def told : Rs → Int × Int
  | .ok _ _ => (0, 0)
  | .bad e p => (e, p)
/- the theorem: refused at a token, it is refused there, whatever stands behind -/
theorem stays_bad {pk : Bool} {m o : List Tok} (h : Std m) {R Q : Rs} (hR : ans pk m (fuel m) = some R) (hQ : ans pk o (fuel o) = some Q) (hq : ∀ q, q ≤ idx R → tk o q = tk m q) : told Q = told R := by
  rw [ans_same h hR hq] at hQ
  cases hQ
  rfl
/- and what has not been refused ahead of k is not refused ahead of it -/
theorem stays_ok {pk : Bool} {m o : List Tok} (h : Std o) {R Q : Rs} {k : Nat} (hR : ans pk m (fuel m) = some R) (hQ : ans pk o (fuel o) = some Q) (hk : (told R).1 = 0 ∨ (told R).2 = 10 * (k : Int)) (hq : ∀ q, q < k → tk o q = tk m q) : (told Q).1 = 0 ∨ 10 * (k : Int) ≤ (told Q).2 := by
  rcases Int.lt_or_le (told Q).2 (10 * (k : Int)) with h1 | h1
  · by_cases h2 : (told Q).1 = 0
    · exact .inl h2
    · exfalso
      cases Q with
      | ok f j => exact h2 rfl
      | bad e p =>
        obtain ⟨h3, h4⟩ := ans_fit h hQ
        have h5 : p < 10 * (k : Int) := h1
        have h6 : p = 10 * ((p / 10).toNat : Int) := h4.2
        have h7 : idx (.bad e p) = (p / 10).toNat := rfl
        have h8 := ans_same h hQ (o := m) (fun q hq9 => (hq q (by omega)).symm)
        rw [hR] at h8
        cases h8
        have h9 : e = 22 ∨ e = 23 := h4.1
        rcases hk with h10 | h10
        · have h11 : e = 0 := h10
          omega
        · have h11 : p = 10 * (k : Int) := h10
          omega
  · exact .inr h1
end TP
end Go.Proofs.YtkldllnnocdhbaaGreatDoor
