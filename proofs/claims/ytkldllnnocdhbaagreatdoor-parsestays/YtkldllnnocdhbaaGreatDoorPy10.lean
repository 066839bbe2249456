/-
  What a parser answers hangs on no token behind the one that its answer names: every part.
-/
import Derived.Test.YtkldllnnocdhbaaGreatDoorPb10
namespace Go.Proofs.YtkldllnnocdhbaaGreatDoor
namespace TP
open TR (Nd)
open TK (Tok)
def accF : G → Fo
  | .rowL _ x _ => x
  | .chn x _ => x
  | .argL _ x => x
  | .blkL x => x
  | .lines x => x
  | .cards x => x
  | _ => .nil
def sng : G → Prop
  | .rowL _ x _ => cntF x = 1
  | .chn x _ => cntF x = 1
  | .argL _ _ => False
  | .args _ => False
  | .blkL _ => False
  | .lines _ => False
  | .cards _ => False
  | _ => True
theorem sng_opnd (r : Int) : sng (opnd r) := by
  unfold opnd
  split
  · trivial
  split
  · trivial
  split
  · trivial
  trivial
theorem acc_opnd (r : Int) : accF (opnd r) = .nil := by
  unfold opnd
  split
  · rfl
  split
  · rfl
  split
  · rfl
  rfl
@[simp] theorem len_nod (op n : Int) (x : List Int) (p : Int) (k : Fo) : (flF (nod op n x p k)).length = (flF k).length + 1 := by
  show (flF k ++ []).length + 1 = _
  rw [List.append_nil]
@[simp] theorem len_app (f g : Fo) : (flF (f.app g)).length = (flF f).length + (flF g).length := by rw [flF_app, List.length_append]
@[simp] theorem cnt_nod (op n : Int) (x : List Int) (p : Int) (k : Fo) : cntF (nod op n x p k) = 1 := rfl
@[simp] theorem len_nil : (flF .nil).length = 0 := rfl
def QT (c i0 N A : Nat) (s : Prop) (r : Option Rs) : Prop := match r with
  | some (.ok f j) => c ≤ j ∧ j ≤ N ∧ (flF f).length + i0 ≤ A + j ∧ (s → cntF f = 1)
  | _ => True
theorem QT_ok {c i0 N A j : Nat} {s : Prop} {f : Fo} (h1 : c ≤ j) (h2 : j ≤ N) (h3 : (flF f).length + i0 ≤ A + j) (h4 : s → cntF f = 1) : QT c i0 N A s (okr f j) := ⟨h1, h2, h3, h4⟩
theorem QT_bad {c i0 N A : Nat} {s : Prop} (t : Tok) : QT c i0 N A s (bad t) := trivial
theorem QT_deep {c i0 N A : Nat} {s : Prop} (t : Tok) : QT c i0 N A s (deep t) := trivial
theorem QT_bd {c i0 N A c1 i1 A1 : Nat} {s s1 : Prop} {r : Option Rs} {k : Fo → Nat → Option Rs} (h : QT c1 i1 N A1 s1 r) (hk : ∀ f j, c1 ≤ j → j ≤ N → (flF f).length + i1 ≤ A1 + j → (s1 → cntF f = 1) → QT c i0 N A s (k f j)) : QT c i0 N A s (bd r k) := by
  cases r with
  | none => exact trivial
  | some r =>
    cases r with
    | bad e p => exact trivial
    | ok f j => exact hk f j h.1 h.2.1 h.2.2.1 h.2.2.2
theorem QT_mono {c i0 N A c1 i1 A1 : Nat} {s s1 : Prop} {r : Option Rs} (h : QT c1 i1 N A1 s1 r) (hc : c ≤ c1) (hA : A1 + i0 ≤ A + i1) (hs : s → s1) : QT c i0 N A s r := by
  cases r with
  | none => exact trivial
  | some r =>
    cases r with
    | bad e p => exact trivial
    | ok f j => exact ⟨Nat.le_trans hc h.1, h.2.1, by have := h.2.2.1; omega, fun h9 => h.2.2.2 (hs h9)⟩
theorem QT_ite {c i0 N A : Nat} {s : Prop} {p : Prop} [Decidable p] {a b : Option Rs} (ha : p → QT c i0 N A s a) (hb : ¬p → QT c i0 N A s b) : QT c i0 N A s (if p then a else b) := by
  split
  · exact ha (by assumption)
  · exact hb (by assumption)
theorem QT_mk {c i0 N A : Nat} {s : Prop} {l : List Tok} (hN : ∀ i, (tk l i).kind ≠ 0 → i < N) {i : Nat} {m : List Int} {a b : Option Rs} (ha : i < N → QT c i0 N A s a) (hb : QT c i0 N A s b) : QT c i0 N A s (if mk (tk l i) m = true then a else b) := QT_ite (fun h => ha (hN _ (mk_kd h))) (fun _ => hb)
theorem QT_wd {c i0 N A : Nat} {s : Prop} {l : List Tok} (hN : ∀ i, (tk l i).kind ≠ 0 → i < N) {i : Nat} {m : List Int} {a b : Option Rs} (ha : i < N → QT c i0 N A s a) (hb : QT c i0 N A s b) : QT c i0 N A s (if wd (tk l i) m = true then a else b) := QT_ite (fun h => ha (hN _ (wd_kd h))) (fun _ => hb)
theorem QT_wd2 {c i0 N A : Nat} {s : Prop} {l : List Tok} (hN : ∀ i, (tk l i).kind ≠ 0 → i < N) {i : Nat} {m m2 : List Int} {a b : Option Rs} (ha : i < N → QT c i0 N A s a) (hb : QT c i0 N A s b) : QT c i0 N A s (if wd (tk l i) m = true ∨ wd (tk l i) m2 = true then a else b) := QT_ite (fun h => ha (hN _ (h.elim wd_kd wd_kd))) (fun _ => hb)
theorem QT_wd3 {c i0 N A : Nat} {s : Prop} {l : List Tok} (hN : ∀ i, (tk l i).kind ≠ 0 → i < N) {i : Nat} {m m2 m3 : List Int} {a b : Option Rs} (ha : i < N → QT c i0 N A s a) (hb : QT c i0 N A s b) : QT c i0 N A s (if wd (tk l i) m = true ∨ wd (tk l i) m2 = true ∨ wd (tk l i) m3 = true then a else b) := QT_ite (fun h => ha (hN _ (h.elim wd_kd (fun h => h.elim wd_kd wd_kd)))) (fun _ => hb)
theorem QT_frt {c i0 N A : Nat} {s : Prop} {l : List Tok} (hN : ∀ i, (tk l i).kind ≠ 0 → i < N) {i : Nat} {a b : Option Rs} (ha : i < N → QT c i0 N A s a) (hb : QT c i0 N A s b) : QT c i0 N A s (if frt (tk l i) = true then a else b) := QT_ite (fun h => ha (hN _ (frt_kd h))) (fun _ => hb)
theorem QT_kd {c i0 N A : Nat} {s : Prop} {l : List Tok} (hN : ∀ i, (tk l i).kind ≠ 0 → i < N) {i : Nat} {z : Int} (hz : z ≠ 0) {a b : Option Rs} (ha : i < N → QT c i0 N A s a) (hb : QT c i0 N A s b) : QT c i0 N A s (if (tk l i).kind = z then a else b) := QT_ite (fun h => ha (hN _ (by omega))) (fun _ => hb)
theorem QT_k0 {c i0 N A : Nat} {s : Prop} {l : List Tok} (hN : ∀ i, (tk l i).kind ≠ 0 → i < N) {i : Nat} {a b : Option Rs} (ha : QT c i0 N A s a) (hb : i < N → QT c i0 N A s b) : QT c i0 N A s (if (tk l i).kind = 0 then a else b) := QT_ite (fun _ => ha) (fun h => hb (hN _ h))
theorem QT_bop {c i0 N A : Nat} {s : Prop} {l : List Tok} (hN : ∀ i, (tk l i).kind ≠ 0 → i < N) {i : Nat} {r : Int} {a b : Option Rs} (ha : QT c i0 N A s a) (hb : i < N → QT c i0 N A s b) : QT c i0 N A s (if bop (tk l i) r = 0 then a else b) := QT_ite (fun _ => ha) (fun h => hb (hN _ (bop_kd h)))
theorem QT_and {c i0 N A : Nat} {s : Prop} {l : List Tok} (hN : ∀ i, (tk l i).kind ≠ 0 → i < N) {i : Nat} {m : List Int} {p : Prop} [Decidable p] {a b : Option Rs} (ha : i < N → QT c i0 N A s a) (hb : QT c i0 N A s b) : QT c i0 N A s (if p ∧ mk (tk l i) m = true then a else b) := QT_ite (fun h => ha (hN _ (mk_kd h.2))) (fun _ => hb)
theorem QT_andw {c i0 N A : Nat} {s : Prop} {l : List Tok} (hN : ∀ i, (tk l i).kind ≠ 0 → i < N) {i : Nat} {m : List Int} {p : Prop} [Decidable p] {a b : Option Rs} (ha : i < N → QT c i0 N A s a) (hb : QT c i0 N A s b) : QT c i0 N A s (if p ∧ wd (tk l i) m = true then a else b) := QT_ite (fun h => ha (hN _ (wd_kd h.2))) (fun _ => hb)
theorem QT_nm {c i0 N A : Nat} {s : Prop} {l : List Tok} (hN : ∀ i, (tk l i).kind ≠ 0 → i < N) {i : Nat} {m1 m2 m3 m4 : List Int} {a b : Option Rs} (ha : QT c i0 N A s a) (hb : i < N → QT c i0 N A s b) : QT c i0 N A s (if (frt (tk l i) || (wd (tk l i) m1 || wd (tk l i) m2) || (wd (tk l i) m3 || wd (tk l i) m4)) = false then a else b) := QT_ite (fun _ => ha) (fun h => hb (by
  simp only [Bool.or_eq_false_iff, not_and, Bool.not_eq_false] at h
  by_cases h1 : frt (tk l i) = true
  · exact hN _ (frt_kd h1)
  by_cases h2 : wd (tk l i) m1 = true
  · exact hN _ (wd_kd h2)
  by_cases h3 : wd (tk l i) m2 = true
  · exact hN _ (wd_kd h3)
  by_cases h4 : wd (tk l i) m3 = true
  · exact hN _ (wd_kd h4)
  simp only [Bool.not_eq_true] at h1 h2 h3 h4
  exact hN _ (wd_kd (h ⟨h1, h2, h3⟩ h4))))
theorem goes (l : List Tok) (N : Nat) (hN : ∀ i, (tk l i).kind ≠ 0 → i < N) : ∀ (n : Nat) (g : G) (i d : Nat), i ≤ N → QT (i + con g) i N (flF (accF g)).length (sng g) (P l n g i d)
  | 0, _, _, _, _ => trivial
  | n + 1, g, i, d, hi => by
    have ih := fun g i d => goes l N hN n g i d
    cases g with
    | row r =>
      have h1 := rk_opnd r
      rw [P]
      refine QT_bd (ih (opnd r) _ _ hi) (fun x j h2 h3 h4 h5 => ?_)
      rw [acc_opnd] at h4
      exact QT_mono (ih _ _ _ h3) (by show i + 1 ≤ j + 0; omega) (by simp only [accF, len_nil] at h4 ⊢; omega) (fun _ => h5 (sng_opnd r))
    | rowL r x m =>
      have h1 := rk_opnd r
      rw [P]
      refine QT_bop hN (QT_ok (by show i + 0 ≤ i; omega) hi (by simp only [accF]; omega) (fun h => h)) (fun h5 => QT_ite (fun _ => QT_deep _) (fun _ => ?_))
      refine QT_bd (ih (opnd r) _ _ (by omega)) (fun y j h2 h3 h4 h6 => ?_)
      rw [acc_opnd] at h4
      exact QT_mono (ih _ _ _ h3) (by show i + 0 ≤ j + 0; omega) (by simp only [accF, len_nil, len_nod, len_app] at h4 ⊢; omega) (fun _ => rfl)
    | arg =>
      rw [P]
      refine QT_kd hN (by decide) (fun h5 => QT_ok (by show i + 1 ≤ i + 1; omega) (by omega) (by simp only [len_nod, len_nil]; omega) (fun _ => rfl)) ?_
      split
      · rename_i z hz
        have h5 : i < N := by
          unfold zone at hz
          split at hz
          · rename_i h6; exact hN _ (wd_kd h6)
          split at hz
          · rename_i h6; exact hN _ (wd_kd h6)
          split at hz
          · rename_i h6; exact hN _ (wd_kd h6)
          split at hz
          · rename_i h6; exact hN _ (wd_kd h6)
          cases hz
        exact QT_ok (by show i + 1 ≤ i + 1; omega) (by omega) (by simp only [len_nod, len_nil]; omega) (fun _ => rfl)
      · exact ih _ _ _ hi
    | argL a acc =>
      rw [P]
      have h6 : accF (if a = true then G.arg else .row 1) = .nil ∧ con (if a = true then G.arg else .row 1) = 1 := by cases a <;> exact ⟨rfl, rfl⟩
      refine QT_bd (ih _ _ _ hi) (fun x j h2 h3 h4 h5 => ?_)
      rw [h6.1] at h4
      rw [h6.2] at h2
      simp only [len_nil] at h4
      refine QT_mk hN (fun h7 => QT_mono (ih _ _ _ (by omega)) (by show i + 1 ≤ j + 1 + 1; omega) (by simp only [accF, len_app]; omega) (fun h => h)) (QT_mk hN (fun h7 => QT_ok (by show i + 1 ≤ j + 1; omega) (by omega) (by simp only [accF, len_app]; omega) (fun h => h.elim)) (QT_bad _))
    | line =>
      rw [P]
      refine QT_wd3 hN (fun h5 => QT_kd hN (by decide) (fun h6 => QT_mk hN (fun h7 => QT_ok (by simp only [con]; omega) (by omega) (by simp only [len_nod, len_nil]; omega) (fun _ => rfl)) (QT_bad _)) (QT_bad _)) ?_
      refine QT_wd hN (fun h5 => QT_kd hN (by decide) (fun h6 => QT_mk hN (fun h7 => QT_ok (by simp only [con]; omega) (by omega) (by simp only [len_nod, len_nil]; omega) (fun _ => rfl)) (QT_bad _)) (QT_bad _)) ?_
      refine QT_wd hN (fun h5 => ?_) (QT_bad _)
      split
      · exact QT_bad _
      · rename_i v hv
        have h5 : i + 1 < N := by
          unfold evnt at hv
          split at hv
          · rename_i h6; exact hN _ (wd_kd h6)
          split at hv
          · rename_i h6; exact hN _ (wd_kd h6)
          split at hv
          · rename_i h6; exact hN _ (wd_kd h6)
          split at hv
          · rename_i h6; exact hN _ (wd_kd h6)
          split at hv
          · rename_i h6; exact hN _ (wd_kd h6)
          cases hv
        refine QT_wd hN (fun h7 => QT_bd (ih _ _ _ (by omega)) (fun x j h2 h3 h8 _ => QT_bd (ih _ _ _ h3) (fun y k h9 h10 h11 _ => QT_ok (by simp only [con] at h2 h9 ⊢; omega) h10 (by simp only [accF, len_nil] at h8 h11; simp only [accF, len_nod, len_app, len_nil]; omega) (fun _ => rfl)))) ?_
        exact QT_bd (ih _ _ _ (by omega)) (fun y k h9 h10 h11 _ => QT_ok (by simp only [con] at h9 ⊢; omega) h10 (by simp only [accF, len_nil] at h11; simp only [accF, len_nod, len_nil]; omega) (fun _ => rfl))
    | _ =>
      simp only [con, accF, sng]
      rw [P]
      repeat' first
        | exact QT_bad _
        | exact QT_deep _
        | exact QT_ok (by omega) (by omega) (by (try simp only [len_nod, len_app, len_nil]); omega) (by first | (intro _; rfl) | (intro h; exact h.elim) | (intro h; exact h) | assumption | (intro _; assumption))
        | refine QT_mk hN (fun _ => ?_) ?_
        | refine QT_wd hN (fun _ => ?_) ?_
        | refine QT_wd2 hN (fun _ => ?_) ?_
        | refine QT_frt hN (fun _ => ?_) ?_
        | refine QT_kd hN (by decide) (fun _ => ?_) ?_
        | refine QT_k0 hN ?_ (fun _ => ?_)
        | refine QT_bop hN ?_ (fun _ => ?_)
        | refine QT_nm hN ?_ (fun _ => ?_)
        | refine QT_and hN (fun _ => ?_) ?_
        | refine QT_andw hN (fun _ => ?_) ?_
        | exact QT_mono (ih _ _ _ (by omega)) (by simp only [con]; omega) (by simp only [accF, len_nod, len_app, len_nil]; omega) (by simp only [sng]; first | (intro h; exact h) | (intro h; exact h.elim) | (intro _; trivial) | (intro _; rfl) | (intro _; assumption))
        | (refine QT_bd (ih _ _ _ (by omega)) (fun _ _ h2 _ h4 h5 => ?_); simp only [con] at h2; simp only [accF, len_nil] at h4; try (have h5 := h5 trivial))
        | refine QT_ite (fun _ => ?_) (fun _ => ?_)
/- what is read of a list that ends with its end: not the end, at least a token, no more nodes than tokens -/
theorem stays {l : List Tok} (hl : (tk l (l.length - 1)).kind = 0) {n : Nat} {g : G} {i d : Nat} {f : Fo} {j : Nat} (h : P l n g i d = some (.ok f j)) (hi : i < l.length) : i + con g ≤ j ∧ j < l.length ∧ (flF f).length + i ≤ (flF (accF g)).length + j ∧ (sng g → cntF f = 1) := by
  have h1 := goes l (l.length - 1) (kd_last hl) n g i d (by omega)
  rw [h] at h1
  exact ⟨h1.1, by have := h1.2.1; omega, h1.2.2⟩
end TP
end Go.Proofs.YtkldllnnocdhbaaGreatDoor
namespace Go.Proofs.YtkldllnnocdhbaaGreatDoor
namespace TP
open TR (Nd)
open TK (Tok)
/- the token that an answer names: where a tree ends, or where a fault lies (a token at i stands at 10 * i) -/
def idx : Rs → Nat
  | .ok _ j => j
  | .bad _ p => (p / 10).toNat
/- F, a part's answer as a function of the list: at l it names a token from c to N; and each list of S that is l up to there has the same answer -/
def fit : Rs → Prop
  | .ok _ _ => True
  | .bad e p => (e = 22 ∨ e = 23) ∧ p = 10 * ((p / 10).toNat : Int)
structure AG (l : List Tok) (N c : Nat) (S : List Tok → Prop) (F : List Tok → Option Rs) : Prop where
  bound : ∀ R, F l = some R → c ≤ idx R ∧ idx R ≤ N
  fits : ∀ R, F l = some R → fit R
  same : ∀ l' R, S l' → F l = some R → (∀ q, q ≤ idx R → tk l' q = tk l q) → F l' = some R
theorem AG.mono {l : List Tok} {N c c1 : Nat} {S : List Tok → Prop} {F : List Tok → Option Rs} (h : AG l N c1 S F) (hc : c ≤ c1) : AG l N c S F :=
  ⟨fun R e => ⟨Nat.le_trans hc (h.bound R e).1, (h.bound R e).2⟩, h.fits, h.same⟩
theorem AG.sub {l : List Tok} {N c : Nat} {S T : List Tok → Prop} {F : List Tok → Option Rs} (h : AG l N c S F) (hs : ∀ l', T l' → S l') : AG l N c T F := ⟨h.bound, h.fits, fun l' R hS => h.same l' R (hs l' hS)⟩
/- on S it may be written otherwise -/
theorem AG.congr {l : List Tok} {N c : Nat} {S : List Tok → Prop} {F G : List Tok → Option Rs} (h : AG l N c S F) (hl : G l = F l) (he : ∀ l', S l' → G l' = F l') : AG l N c S G :=
  ⟨fun R e => h.bound R (hl ▸ e), fun R e => h.fits R (hl ▸ e), fun l' R hS e hq => by rw [he l' hS]; exact h.same l' R hS (hl ▸ e) hq⟩
theorem AG_ok {l : List Tok} {N c j : Nat} {S : List Tok → Prop} {f : Fo} (h1 : c ≤ j) (h2 : j ≤ N) : AG l N c S (fun _ => okr f j) :=
  ⟨fun R e => by cases e; exact ⟨h1, h2⟩, fun R e => by cases e; trivial, fun _ _ _ e _ => e⟩
theorem AG_none {l : List Tok} {N c : Nat} {S : List Tok → Prop} : AG l N c S (fun _ => none) := ⟨fun _ e => (by cases e), fun _ e => (by cases e), fun _ _ _ e _ => (by cases e)⟩
theorem AG_bad {l : List Tok} {N c q : Nat} {S : List Tok → Prop} (hp : ∀ q, q ≤ N → (tk l q).pos = 10 * (q : Int)) (h1 : c ≤ q) (h2 : q ≤ N) : AG l N c S (fun l' => bad (tk l' q)) := by
  have hi : ∀ e, idx (.bad e (tk l q).pos) = q := fun e => by
    show ((tk l q).pos / 10).toNat = q
    rw [hp q h2]
    omega
  refine ⟨fun R e => ?_, fun R e => ?_, fun l' R _ e hq => ?_⟩
  · cases e
    rw [hi]
    exact ⟨h1, h2⟩
  · cases e
    refine ⟨.inl rfl, ?_⟩
    rw [hp q h2]
    omega
  · cases e
    rw [hi] at hq
    show bad (tk l' q) = _
    rw [hq q (Nat.le_refl _)]
    rfl
theorem AG_deep {l : List Tok} {N c q : Nat} {S : List Tok → Prop} (hp : ∀ q, q ≤ N → (tk l q).pos = 10 * (q : Int)) (h1 : c ≤ q) (h2 : q ≤ N) : AG l N c S (fun l' => deep (tk l' q)) := by
  have hi : ∀ e, idx (.bad e (tk l q).pos) = q := fun e => by
    show ((tk l q).pos / 10).toNat = q
    rw [hp q h2]
    omega
  refine ⟨fun R e => ?_, fun R e => ?_, fun l' R _ e hq => ?_⟩
  · cases e
    rw [hi]
    exact ⟨h1, h2⟩
  · cases e
    refine ⟨.inr rfl, ?_⟩
    rw [hp q h2]
    omega
  · cases e
    rw [hi] at hq
    show deep (tk l' q) = _
    rw [hq q (Nat.le_refl _)]
    rfl
/- a part, and what follows it -/
theorem AG_bd {l : List Tok} {N c c1 : Nat} {S : List Tok → Prop} {F : List Tok → Option Rs} {K : List Tok → Fo → Nat → Option Rs} (h : AG l N c1 S F) (hc : c ≤ c1) (hk : ∀ f j, c1 ≤ j → j ≤ N → AG l N j S (fun l' => K l' f j)) : AG l N c S (fun l' => bd (F l') (K l')) := by
  refine ⟨fun R e => ?_, fun R e => ?_, fun l' R hS e hq => ?_⟩
  · rcases bd_some e with ⟨e1, p1, h1, rfl⟩ | ⟨f, j, h1, h2⟩
    · exact ⟨Nat.le_trans hc (h.bound _ h1).1, (h.bound _ h1).2⟩
    · have h3 := h.bound _ h1
      have h4 := (hk f j h3.1 h3.2).bound R h2
      exact ⟨Nat.le_trans hc (Nat.le_trans h3.1 h4.1), h4.2⟩
  · rcases bd_some e with ⟨e1, p1, h1, rfl⟩ | ⟨f, j, h1, h2⟩
    · exact h.fits _ h1
    · have h3 := h.bound _ h1
      exact (hk f j h3.1 h3.2).fits R h2
  · rcases bd_some e with ⟨e1, p1, h1, rfl⟩ | ⟨f, j, h1, h2⟩
    · show bd (F l') (K l') = _
      rw [h.same l' _ hS h1 hq]
      rfl
    · have h3 := h.bound _ h1
      have h4 := (hk f j h3.1 h3.2).bound R h2
      have h5 := h.same l' _ hS h1 (fun q hq9 => hq q (Nat.le_trans hq9 h4.1))
      show bd (F l') (K l') = _
      rw [h5]
      exact (hk f j h3.1 h3.2).same l' R hS h2 hq
/- a test of the token at q -/
theorem AG_if {l : List Tok} {N c q : Nat} {S : List Tok → Prop} {C : Tok → Prop} [DecidablePred C] {X Y : List Tok → Option Rs} (hc : c ≤ q) (hx : C (tk l q) → AG l N q (fun l' => S l' ∧ tk l' q = tk l q) X) (hy : ¬ C (tk l q) → AG l N q (fun l' => S l' ∧ tk l' q = tk l q) Y) : AG l N c S (fun l' => if C (tk l' q) then X l' else Y l') := by
  by_cases hC : C (tk l q)
  · refine ⟨fun R e => ?_, fun R e => ?_, fun l' R hS e hq => ?_⟩
    · simp only [if_pos hC] at e
      exact ⟨Nat.le_trans hc ((hx hC).bound R e).1, ((hx hC).bound R e).2⟩
    · simp only [if_pos hC] at e
      exact (hx hC).fits R e
    · simp only [if_pos hC] at e
      have h1 := hq q ((hx hC).bound R e).1
      show (if C (tk l' q) then X l' else Y l') = _
      rw [if_pos (by rw [h1]; exact hC)]
      exact (hx hC).same l' R ⟨hS, h1⟩ e hq
  · refine ⟨fun R e => ?_, fun R e => ?_, fun l' R hS e hq => ?_⟩
    · simp only [if_neg hC] at e
      exact ⟨Nat.le_trans hc ((hy hC).bound R e).1, ((hy hC).bound R e).2⟩
    · simp only [if_neg hC] at e
      exact (hy hC).fits R e
    · simp only [if_neg hC] at e
      have h1 := hq q ((hy hC).bound R e).1
      show (if C (tk l' q) then X l' else Y l') = _
      rw [if_neg (by rw [h1]; exact hC)]
      exact (hy hC).same l' R ⟨hS, h1⟩ e hq
/- a test of no token -/
theorem AG_cond {l : List Tok} {N c : Nat} {S : List Tok → Prop} {p : Prop} [Decidable p] {X Y : List Tok → Option Rs} (hx : p → AG l N c S X) (hy : ¬ p → AG l N c S Y) : AG l N c S (fun l' => if p then X l' else Y l') := by
  by_cases hp : p
  · exact (hx hp).congr (if_pos hp) (fun _ _ => if_pos hp)
  · exact (hy hp).congr (if_neg hp) (fun _ _ => if_neg hp)
end TP
end Go.Proofs.YtkldllnnocdhbaaGreatDoor
namespace Go.Proofs.YtkldllnnocdhbaaGreatDoor
namespace TP
open TR (Nd)
open TK (Tok)
variable {l : List Tok} {N c q : Nat} {S : List Tok → Prop} {X Y : List Tok → Option Rs}
theorem AG_okS {f : List Tok → Fo} {j : Nat} (h1 : c ≤ j) (h2 : j ≤ N) (hf : ∀ l', S l' → f l' = f l) : AG l N c S (fun l' => okr (f l') j) :=
  (AG_ok (f := f l) h1 h2).congr rfl (fun l' h => by show okr (f l') j = okr (f l) j; rw [hf l' h])
theorem AG_rec {n j d : Nat} {g : List Tok → G} (ih : AG l N j (fun _ => True) (fun l' => P l' n (g l) j d)) (hc : c ≤ j) (hg : ∀ l', S l' → g l' = g l) : AG l N c S (fun l' => P l' n (g l') j d) :=
  ((ih.mono hc).sub (fun _ _ => trivial)).congr rfl (fun l' h => by rw [hg l' h])
theorem AG_mk {m : List Int} (hN : ∀ i, (tk l i).kind ≠ 0 → i < N) (hc : c ≤ q) (hx : q < N → AG l N q (fun l' => S l' ∧ tk l' q = tk l q) X) (hy : AG l N q (fun l' => S l' ∧ tk l' q = tk l q) Y) : AG l N c S (fun l' => if mk (tk l' q) m = true then X l' else Y l') := AG_if (C := fun t => mk t m = true) hc (fun h => hx (hN _ (mk_kd h))) (fun _ => hy)
theorem AG_wd {m : List Int} (hN : ∀ i, (tk l i).kind ≠ 0 → i < N) (hc : c ≤ q) (hx : q < N → AG l N q (fun l' => S l' ∧ tk l' q = tk l q) X) (hy : AG l N q (fun l' => S l' ∧ tk l' q = tk l q) Y) : AG l N c S (fun l' => if wd (tk l' q) m = true then X l' else Y l') := AG_if (C := fun t => wd t m = true) hc (fun h => hx (hN _ (wd_kd h))) (fun _ => hy)
theorem AG_wd2 {m m2 : List Int} (hN : ∀ i, (tk l i).kind ≠ 0 → i < N) (hc : c ≤ q) (hx : q < N → AG l N q (fun l' => S l' ∧ tk l' q = tk l q) X) (hy : AG l N q (fun l' => S l' ∧ tk l' q = tk l q) Y) : AG l N c S (fun l' => if wd (tk l' q) m = true ∨ wd (tk l' q) m2 = true then X l' else Y l') := AG_if (C := fun t => wd t m = true ∨ wd t m2 = true) hc (fun h => hx (hN _ (h.elim wd_kd wd_kd))) (fun _ => hy)
theorem AG_wd3 {m m2 m3 : List Int} (hN : ∀ i, (tk l i).kind ≠ 0 → i < N) (hc : c ≤ q) (hx : q < N → AG l N q (fun l' => S l' ∧ tk l' q = tk l q) X) (hy : AG l N q (fun l' => S l' ∧ tk l' q = tk l q) Y) : AG l N c S (fun l' => if wd (tk l' q) m = true ∨ wd (tk l' q) m2 = true ∨ wd (tk l' q) m3 = true then X l' else Y l') := AG_if (C := fun t => wd t m = true ∨ wd t m2 = true ∨ wd t m3 = true) hc (fun h => hx (hN _ (h.elim wd_kd (fun h => h.elim wd_kd wd_kd)))) (fun _ => hy)
theorem AG_frt (hN : ∀ i, (tk l i).kind ≠ 0 → i < N) (hc : c ≤ q) (hx : q < N → AG l N q (fun l' => S l' ∧ tk l' q = tk l q) X) (hy : AG l N q (fun l' => S l' ∧ tk l' q = tk l q) Y) : AG l N c S (fun l' => if frt (tk l' q) = true then X l' else Y l') := AG_if (C := fun t => frt t = true) hc (fun h => hx (hN _ (frt_kd h))) (fun _ => hy)
theorem AG_k0 (hN : ∀ i, (tk l i).kind ≠ 0 → i < N) (hc : c ≤ q) (hx : AG l N q (fun l' => S l' ∧ tk l' q = tk l q) X) (hy : q < N → AG l N q (fun l' => S l' ∧ tk l' q = tk l q) Y) : AG l N c S (fun l' => if (tk l' q).kind = 0 then X l' else Y l') := AG_if (C := fun t => t.kind = 0) hc (fun _ => hx) (fun h => hy (hN _ h))
theorem AG_kd {z : Int} (hN : ∀ i, (tk l i).kind ≠ 0 → i < N) (hz : z ≠ 0) (hc : c ≤ q) (hx : q < N → AG l N q (fun l' => S l' ∧ tk l' q = tk l q) X) (hy : AG l N q (fun l' => S l' ∧ tk l' q = tk l q) Y) : AG l N c S (fun l' => if (tk l' q).kind = z then X l' else Y l') := AG_if (C := fun t => t.kind = z) hc (fun h => hx (hN _ (by omega))) (fun _ => hy)
theorem AG_bop {r : Int} (hN : ∀ i, (tk l i).kind ≠ 0 → i < N) (hc : c ≤ q) (hx : AG l N q (fun l' => S l' ∧ tk l' q = tk l q) X) (hy : q < N → AG l N q (fun l' => S l' ∧ tk l' q = tk l q) Y) : AG l N c S (fun l' => if bop (tk l' q) r = 0 then X l' else Y l') := AG_if (C := fun t => bop t r = 0) hc (fun _ => hx) (fun h => hy (hN _ (bop_kd h)))
theorem AG_nm {m1 m2 m3 m4 : List Int} (hN : ∀ i, (tk l i).kind ≠ 0 → i < N) (hc : c ≤ q) (hx : AG l N q (fun l' => S l' ∧ tk l' q = tk l q) X) (hy : q < N → AG l N q (fun l' => S l' ∧ tk l' q = tk l q) Y) : AG l N c S (fun l' => if (frt (tk l' q) || (wd (tk l' q) m1 || wd (tk l' q) m2) || (wd (tk l' q) m3 || wd (tk l' q) m4)) = false then X l' else Y l') :=
  AG_if (C := fun t => (frt t || (wd t m1 || wd t m2) || (wd t m3 || wd t m4)) = false) hc (fun _ => hx) (fun h => hy (by
    simp only [Bool.or_eq_false_iff, not_and, Bool.not_eq_false] at h
    by_cases h1 : frt (tk l q) = true
    · exact hN _ (frt_kd h1)
    by_cases h2 : wd (tk l q) m1 = true
    · exact hN _ (wd_kd h2)
    by_cases h3 : wd (tk l q) m2 = true
    · exact hN _ (wd_kd h3)
    by_cases h4 : wd (tk l q) m3 = true
    · exact hN _ (wd_kd h4)
    simp only [Bool.not_eq_true] at h1 h2 h3 h4
    exact hN _ (wd_kd (h ⟨h1, h2, h3⟩ h4))))
/- a test of a token that is read, and of one that is next -/
theorem AG_andm {B : List Tok → Prop} [∀ l', Decidable (B l')] {m : List Int} (hN : ∀ i, (tk l i).kind ≠ 0 → i < N) (hB : ∀ l', S l' → (B l' ↔ B l)) (hc : c ≤ q) (hx : q < N → AG l N q (fun l' => S l' ∧ tk l' q = tk l q) X) (hy : AG l N q (fun l' => S l' ∧ tk l' q = tk l q) Y) : AG l N c S (fun l' => if B l' ∧ mk (tk l' q) m = true then X l' else Y l') :=
  (AG_if (C := fun t => B l ∧ mk t m = true) hc (fun h => hx (hN _ (mk_kd h.2))) (fun _ => hy)).congr rfl (fun l' h => by simp only [hB l' h])
theorem AG_andw {B : List Tok → Prop} [∀ l', Decidable (B l')] {m : List Int} (hN : ∀ i, (tk l i).kind ≠ 0 → i < N) (hB : ∀ l', S l' → (B l' ↔ B l)) (hc : c ≤ q) (hx : q < N → AG l N q (fun l' => S l' ∧ tk l' q = tk l q) X) (hy : AG l N q (fun l' => S l' ∧ tk l' q = tk l q) Y) : AG l N c S (fun l' => if B l' ∧ wd (tk l' q) m = true then X l' else Y l') :=
  (AG_if (C := fun t => B l ∧ wd t m = true) hc (fun h => hx (hN _ (wd_kd h.2))) (fun _ => hy)).congr rfl (fun l' h => by simp only [hB l' h])
theorem AG_tok {F : List Tok → Option Rs} (hc : c ≤ q) (h : AG l N q (fun l' => S l' ∧ tk l' q = tk l q) F) : AG l N c S F :=
  ⟨fun R e => ⟨Nat.le_trans hc (h.bound R e).1, (h.bound R e).2⟩, h.fits, fun l' R hS e hq => h.same l' R ⟨hS, hq q (h.bound R e).1⟩ e hq⟩
theorem zone_kd {t : Tok} {z : Int} (hz : zone t = some z) : t.kind ≠ 0 := by
  unfold zone at hz
  split at hz
  · rename_i h6; exact wd_kd h6
  split at hz
  · rename_i h6; exact wd_kd h6
  split at hz
  · rename_i h6; exact wd_kd h6
  split at hz
  · rename_i h6; exact wd_kd h6
  cases hz
theorem evnt_kd {t : Tok} {z : Int} (hz : evnt t = some z) : t.kind ≠ 0 := by
  unfold evnt at hz
  split at hz
  · rename_i h6; exact wd_kd h6
  split at hz
  · rename_i h6; exact wd_kd h6
  split at hz
  · rename_i h6; exact wd_kd h6
  split at hz
  · rename_i h6; exact wd_kd h6
  split at hz
  · rename_i h6; exact wd_kd h6
  cases hz
theorem ag (l : List Tok) (N : Nat) (hN : ∀ i, (tk l i).kind ≠ 0 → i < N) (hp : ∀ q, q ≤ N → (tk l q).pos = 10 * (q : Int)) : ∀ (n : Nat) (g : G) (i d : Nat), i ≤ N → AG l N i (fun _ => True) (fun l' => P l' n g i d)
  | 0, _, _, _, _ => AG_none
  | n + 1, g, i, d, hi => by
    have ih := fun g i d => ag l N hN hp n g i d
    cases g with
    | arg =>
      simp only [P]
      refine AG_kd hN (by decide) (by omega) (fun _ => AG_okS (by omega) (by omega) (fun l' h => by simp only [h])) ?_
      refine AG_tok (q := i) (Nat.le_refl _) ?_
      cases hz : zone (tk l i) with
      | none => exact AG.congr (F := fun l' => P l' n (.row 1) i d) (AG_rec (ih _ _ _ (by omega)) (by omega) (fun l' h => rfl)) (by simp only [hz]) (fun l' h => by simp only [h.2, hz])
      | some z =>
        have h5 := hN _ (zone_kd hz)
        exact AG.congr (F := fun l' => okr (nod 51 z [] (tk l' i).pos .nil) (i + 1)) (AG_okS (by omega) (by omega) (fun l' h => by simp only [h])) (by simp only [hz]) (fun l' h => by simp only [h.2, hz])
    | line =>
      simp only [P]
      refine AG_wd3 hN (by omega) (fun _ => ?_) (AG_wd hN (by omega) (fun _ => ?_) (AG_wd hN (by omega) (fun _ => ?_) (AG_bad hp (by omega) (by omega))))
      · refine AG_kd hN (by decide) (by omega) (fun _ => AG_mk hN (by omega) (fun _ => AG_okS (by omega) (by omega) (fun l' h => by simp only [h])) (AG_bad hp (by omega) (by omega))) (AG_bad hp (by omega) (by omega))
      · refine AG_kd hN (by decide) (by omega) (fun _ => AG_mk hN (by omega) (fun _ => AG_okS (by omega) (by omega) (fun l' h => by simp only [h])) (AG_bad hp (by omega) (by omega))) (AG_bad hp (by omega) (by omega))
      · refine AG_tok (q := i + 1) (by omega) ?_
        cases hz : evnt (tk l (i + 1)) with
        | none => exact AG.congr (F := fun l' => bad (tk l' (i + 1))) (AG_bad hp (by omega) (by omega)) (by simp only [hz]) (fun l' h => by simp only [h.2, hz])
        | some v =>
          have h5 := hN _ (evnt_kd hz)
          refine AG.congr (F := fun l' => if wd (tk l' (i + 2)) [119, 104, 101, 110] = true then bd (P l' n (.row 1) (i + 3) d) fun x j => bd (P l' n .block j d) fun y k => okr (nod 7 v [] (tk l' i).pos (x.app y)) k else bd (P l' n .block (i + 2) d) fun y k => okr (nod 7 v [] (tk l' i).pos y) k) ?_ (by simp only [hz]) (fun l' h => by simp only [h.2, hz])
          refine AG_wd hN (by omega) (fun _ => ?_) ?_
          · refine AG_bd (AG_rec (ih _ _ _ (by omega)) (Nat.le_refl _) (fun l' h => rfl)) (by omega) (fun x j h1 h2 => AG_bd (AG_rec (ih _ _ _ (by omega)) (Nat.le_refl _) (fun l' h => rfl)) (by omega) (fun y k h3 h4 => AG_okS (by omega) (by omega) (fun l' h => by simp only [h])))
          · exact AG_bd (AG_rec (ih _ _ _ (by omega)) (Nat.le_refl _) (fun l' h => rfl)) (by omega) (fun y k h3 h4 => AG_okS (by omega) (by omega) (fun l' h => by simp only [h]))
    | _ =>
      simp only [P]
      repeat' first
        | exact AG_bad hp (by omega) (by omega)
        | exact AG_deep hp (by omega) (by omega)
        | exact AG_ok (by omega) (by omega)
        | exact AG_okS (by omega) (by omega) (fun l' h => by simp only [h])
        | refine AG_mk hN (by omega) (fun _ => ?_) ?_
        | refine AG_wd hN (by omega) (fun _ => ?_) ?_
        | refine AG_wd2 hN (by omega) (fun _ => ?_) ?_
        | refine AG_frt hN (by omega) (fun _ => ?_) ?_
        | refine AG_k0 hN (by omega) ?_ (fun _ => ?_)
        | refine AG_kd hN (by decide) (by omega) (fun _ => ?_) ?_
        | refine AG_bop hN (by omega) ?_ (fun _ => ?_)
        | refine AG_nm hN (by omega) ?_ (fun _ => ?_)
        | refine AG_andm hN (fun l' h => by simp only [h]) (by omega) (fun _ => ?_) ?_
        | refine AG_andw hN (fun l' h => by simp only [h]) (by omega) (fun _ => ?_) ?_
        | refine AG_cond (fun _ => ?_) (fun _ => ?_)
        | exact AG_rec (ih _ _ _ (by omega)) (by omega) (fun l' h => by first | rfl | simp only [h])
        | (refine AG_bd (AG_rec (ih _ _ _ (by omega)) (Nat.le_refl _) (fun l' h => by first | rfl | simp only [h])) (by omega) (fun _ _ _ _ => ?_))
end TP
end Go.Proofs.YtkldllnnocdhbaaGreatDoor
