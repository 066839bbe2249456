/-
  What the parser reads: how far it goes, how many nodes, that an expression is one tree.
-/
import Derived.Test.YtkldllnnocdhbaaGreatDoorPa10
namespace Go.Proofs.YtkldllnnocdhbaaGreatDoor
namespace TP
open TR (Nd)
open TK (Tok)
def rk : G → Nat
  | .row r => if r = 1 then 8 else if r = 2 then 7 else if r = 5 then 5 else 4
  | .rowL _ _ _ => 1
  | .not => 6
  | .sign => 3
  | .chn _ _ => 2
  | .item => 1
  | .arg => 9
  | .args _ => 1
  | .argL _ _ => 10
  | .block => 1
  | .blkL _ => 3
  | .stmt => 2
  | .branch => 1
  | .line => 1
  | .lines _ => 2
  | .card => 1
  | .cards _ => 2
def con : G → Nat
  | .rowL _ _ _ => 0
  | .chn _ _ => 0
  | .cards _ => 0
  | _ => 1
theorem rk_opnd (r : Int) : rk (opnd r) < rk (.row r) ∧ con (opnd r) = 1 := by
  unfold opnd
  by_cases h1 : r = 1
  · subst h1; decide
  by_cases h2 : r = 2
  · subst h2; decide
  by_cases h5 : r = 5
  · subst h5; decide
  rw [if_neg h1, if_neg h2, if_neg h5]
  show 3 < (if r = 1 then 8 else if r = 2 then 7 else if r = 5 then 5 else 4) ∧ 1 = 1
  rw [if_neg h1, if_neg h2, if_neg h5]
  decide
theorem rk_le (g : G) : rk g ≤ 10 := by
  cases g <;> first | decide | (simp only [rk]; repeat' split) <;> omega
theorem kd_len {l : List Tok} : ∀ i, (tk l i).kind ≠ 0 → i < l.length := fun i h => by
  rcases Nat.lt_or_ge i l.length with h1 | h1
  · exact h1
  · unfold tk at h
    rw [List.getD_eq_getElem?_getD, List.getElem?_eq_none h1] at h
    exact absurd rfl h
theorem kd_last {l : List Tok} (hl : (tk l (l.length - 1)).kind = 0) : ∀ i, (tk l i).kind ≠ 0 → i < l.length - 1 := fun i h => by
  have h1 := kd_len i h
  rcases Nat.lt_or_ge i (l.length - 1) with h2 | h2
  · exact h2
  · obtain rfl : i = l.length - 1 := by omega
    exact absurd hl h
theorem mk_kd {t : Tok} {m : List Int} (h : mk t m = true) : t.kind ≠ 0 := by
  unfold mk at h
  simp only [Bool.and_eq_true, beq_iff_eq] at h
  omega
theorem wd_kd {t : Tok} {m : List Int} (h : wd t m = true) : t.kind ≠ 0 := by
  unfold wd at h
  simp only [Bool.and_eq_true, beq_iff_eq] at h
  omega
theorem frt_kd {t : Tok} (h : frt t = true) : t.kind ≠ 0 := by
  unfold frt at h
  simp only [Bool.and_eq_true, beq_iff_eq] at h
  omega
theorem bop_kd {t : Tok} {r : Int} (h : bop t r ≠ 0) : t.kind ≠ 0 := by
  unfold bop at h
  split at h
  · rename_i h1
    omega
  · exact absurd rfl h
def TT (c n : Nat) (r : Option Rs) : Prop := match r with
  | none => False
  | some (.bad _ _) => True
  | some (.ok _ j) => c ≤ j ∧ j ≤ n
theorem TT_ok {c n j : Nat} {f : Fo} (h1 : c ≤ j) (h2 : j ≤ n) : TT c n (okr f j) := ⟨h1, h2⟩
theorem TT_bad {c n : Nat} (t : Tok) : TT c n (bad t) := trivial
theorem TT_deep {c n : Nat} (t : Tok) : TT c n (deep t) := trivial
theorem TT_bd {c c1 n : Nat} {r : Option Rs} {k : Fo → Nat → Option Rs} (h : TT c1 n r) (hk : ∀ f j, c1 ≤ j → j ≤ n → TT c n (k f j)) : TT c n (bd r k) := by
  cases r with
  | none => exact h
  | some r =>
    cases r with
    | bad e p => exact trivial
    | ok f j => exact hk f j h.1 h.2
theorem TT_mono {c c1 n : Nat} {r : Option Rs} (h : TT c1 n r) (hc : c ≤ c1) : TT c n r := by
  cases r with
  | none => exact h
  | some r =>
    cases r with
    | bad e p => exact trivial
    | ok f j => exact ⟨Nat.le_trans hc h.1, h.2⟩
theorem TT_ite {c n : Nat} {p : Prop} [Decidable p] {a b : Option Rs} (ha : p → TT c n a) (hb : ¬p → TT c n b) : TT c n (if p then a else b) := by
  split
  · exact ha (by assumption)
  · exact hb (by assumption)
theorem TT_mk {c N : Nat} {l : List Tok} (hN : ∀ i, (tk l i).kind ≠ 0 → i < N) {i : Nat} {m : List Int} {a b : Option Rs} (ha : i < N → TT c N a) (hb : TT c N b) : TT c N (if mk (tk l i) m = true then a else b) := TT_ite (fun h => ha (hN _ (mk_kd h))) (fun _ => hb)
theorem TT_wd {c N : Nat} {l : List Tok} (hN : ∀ i, (tk l i).kind ≠ 0 → i < N) {i : Nat} {m : List Int} {a b : Option Rs} (ha : i < N → TT c N a) (hb : TT c N b) : TT c N (if wd (tk l i) m = true then a else b) := TT_ite (fun h => ha (hN _ (wd_kd h))) (fun _ => hb)
theorem TT_wd2 {c N : Nat} {l : List Tok} (hN : ∀ i, (tk l i).kind ≠ 0 → i < N) {i : Nat} {m m2 : List Int} {a b : Option Rs} (ha : i < N → TT c N a) (hb : TT c N b) : TT c N (if wd (tk l i) m = true ∨ wd (tk l i) m2 = true then a else b) := TT_ite (fun h => ha (hN _ (h.elim wd_kd wd_kd))) (fun _ => hb)
theorem TT_wd3 {c N : Nat} {l : List Tok} (hN : ∀ i, (tk l i).kind ≠ 0 → i < N) {i : Nat} {m m2 m3 : List Int} {a b : Option Rs} (ha : i < N → TT c N a) (hb : TT c N b) : TT c N (if wd (tk l i) m = true ∨ wd (tk l i) m2 = true ∨ wd (tk l i) m3 = true then a else b) := TT_ite (fun h => ha (hN _ (h.elim wd_kd (fun h => h.elim wd_kd wd_kd)))) (fun _ => hb)
theorem TT_frt {c N : Nat} {l : List Tok} (hN : ∀ i, (tk l i).kind ≠ 0 → i < N) {i : Nat} {a b : Option Rs} (ha : i < N → TT c N a) (hb : TT c N b) : TT c N (if frt (tk l i) = true then a else b) := TT_ite (fun h => ha (hN _ (frt_kd h))) (fun _ => hb)
theorem TT_kd {c N : Nat} {l : List Tok} (hN : ∀ i, (tk l i).kind ≠ 0 → i < N) {i : Nat} {z : Int} (hz : z ≠ 0) {a b : Option Rs} (ha : i < N → TT c N a) (hb : TT c N b) : TT c N (if (tk l i).kind = z then a else b) := TT_ite (fun h => ha (hN _ (by omega))) (fun _ => hb)
theorem TT_k0 {c N : Nat} {l : List Tok} (hN : ∀ i, (tk l i).kind ≠ 0 → i < N) {i : Nat} {a b : Option Rs} (ha : TT c N a) (hb : i < N → TT c N b) : TT c N (if (tk l i).kind = 0 then a else b) := TT_ite (fun _ => ha) (fun h => hb (hN _ h))
theorem TT_bop {c N : Nat} {l : List Tok} (hN : ∀ i, (tk l i).kind ≠ 0 → i < N) {i : Nat} {r : Int} {a b : Option Rs} (ha : TT c N a) (hb : i < N → TT c N b) : TT c N (if bop (tk l i) r = 0 then a else b) := TT_ite (fun _ => ha) (fun h => hb (hN _ (bop_kd h)))
theorem TT_and {c N : Nat} {l : List Tok} (hN : ∀ i, (tk l i).kind ≠ 0 → i < N) {i : Nat} {m : List Int} {p : Prop} [Decidable p] {a b : Option Rs} (ha : i < N → TT c N a) (hb : TT c N b) : TT c N (if p ∧ mk (tk l i) m = true then a else b) := TT_ite (fun h => ha (hN _ (mk_kd h.2))) (fun _ => hb)
theorem TT_andw {c N : Nat} {l : List Tok} (hN : ∀ i, (tk l i).kind ≠ 0 → i < N) {i : Nat} {m : List Int} {p : Prop} [Decidable p] {a b : Option Rs} (ha : i < N → TT c N a) (hb : TT c N b) : TT c N (if p ∧ wd (tk l i) m = true then a else b) := TT_ite (fun h => ha (hN _ (wd_kd h.2))) (fun _ => hb)
theorem TT_nm {c N : Nat} {l : List Tok} (hN : ∀ i, (tk l i).kind ≠ 0 → i < N) {i : Nat} {m1 m2 m3 m4 : List Int} {a b : Option Rs} (ha : TT c N a) (hb : i < N → TT c N b) : TT c N (if (frt (tk l i) || (wd (tk l i) m1 || wd (tk l i) m2) || (wd (tk l i) m3 || wd (tk l i) m4)) = false then a else b) := TT_ite (fun _ => ha) (fun h => hb (by
  simp only [Bool.or_eq_false_iff, not_and, Bool.not_eq_false] at h
  by_cases h1 : frt (tk l i) = true
  · exact hN _ (frt_kd h1)
  by_cases h2 : wd (tk l i) m1 = true
  · exact hN _ (wd_kd h2)
  by_cases h3 : wd (tk l i) m2 = true
  · exact hN _ (wd_kd h3)
  by_cases h4 : wd (tk l i) m3 = true
  · exact hN _ (wd_kd h4)
  simp only [Bool.not_eq_true] at h1 h2 h3 h4
  exact hN _ (wd_kd (h ⟨h1, h2, h3⟩ h4))))
theorem tot (l : List Tok) (N : Nat) (hN : ∀ i, (tk l i).kind ≠ 0 → i < N) : ∀ (n : Nat) (g : G) (i d : Nat), 16 * (N - i) + rk g < n → i ≤ N → TT (i + con g) N (P l n g i d)
  | 0, _, _, _, h, _ => absurd h (Nat.not_lt_zero _)
  | n + 1, g, i, d, h, hi => by
    have ih := fun g i d => tot l N hN n g i d
    cases g with
    | row r =>
      have h1 := rk_opnd r
      rw [P]
      refine TT_bd (ih _ _ _ (by omega) hi) (fun x j h2 h3 => ?_)
      exact TT_mono (ih _ _ _ (by show 16 * (N - j) + 1 < n; omega) h3) (by show i + 1 ≤ j + 0; omega)
    | rowL r x m =>
      have h1 := rk_opnd r
      have h4 := rk_le (opnd r)
      have h : 16 * (N - i) + 1 < n + 1 := h
      rw [P]
      refine TT_bop hN (TT_ok (by show i + 0 ≤ i; omega) hi) (fun h5 => TT_ite (fun _ => TT_deep _) (fun _ => ?_))
      refine TT_bd (ih _ _ _ (by omega) (by omega)) (fun y j h2 h3 => ?_)
      exact TT_mono (ih _ _ _ (by show 16 * (N - j) + 1 < n; omega) h3) (by show i + 0 ≤ j + 0; omega)
    | arg =>
      simp only [rk] at h
      rw [P]
      refine TT_kd hN (by decide) (fun h5 => TT_ok (by show i + 1 ≤ i + 1; omega) (by omega)) ?_
      split
      · rename_i z hz
        have h5 : i < N := by
          unfold zone at hz
          split at hz
          · rename_i h6; exact hN _ (wd_kd h6)
          split at hz
          · rename_i h6; exact hN _ (wd_kd h6)
          split at hz
          · rename_i h6; exact hN _ (wd_kd h6)
          split at hz
          · rename_i h6; exact hN _ (wd_kd h6)
          cases hz
        exact TT_ok (by show i + 1 ≤ i + 1; omega) (by omega)
      · exact ih _ _ _ (by simp [rk]; omega) hi
    | argL a acc =>
      simp only [rk] at h
      rw [P]
      have h6 : rk (if a = true then G.arg else .row 1) ≤ 9 ∧ con (if a = true then G.arg else .row 1) = 1 := by cases a <;> decide
      refine TT_bd (ih _ _ _ (by omega) hi) (fun x j h2 h3 => ?_)
      refine TT_mk hN (fun h7 => TT_mono (ih _ _ _ (by simp only [rk]; omega) (by omega)) (by show i + 1 ≤ j + 1 + 1; omega)) (TT_mk hN (fun h7 => TT_ok (by show i + 1 ≤ j + 1; omega) (by omega)) (TT_bad _))
    | line =>
      simp only [rk] at h
      rw [P]
      refine TT_wd3 hN (fun h5 => TT_kd hN (by decide) (fun h6 => TT_mk hN (fun h7 => TT_ok (by simp only [con]; omega) (by omega)) (TT_bad _)) (TT_bad _)) ?_
      refine TT_wd hN (fun h5 => TT_kd hN (by decide) (fun h6 => TT_mk hN (fun h7 => TT_ok (by simp only [con]; omega) (by omega)) (TT_bad _)) (TT_bad _)) ?_
      refine TT_wd hN (fun h5 => ?_) (TT_bad _)
      split
      · exact TT_bad _
      · rename_i v hv
        have h5 : i + 1 < N := by
          unfold evnt at hv
          split at hv
          · rename_i h6; exact hN _ (wd_kd h6)
          split at hv
          · rename_i h6; exact hN _ (wd_kd h6)
          split at hv
          · rename_i h6; exact hN _ (wd_kd h6)
          split at hv
          · rename_i h6; exact hN _ (wd_kd h6)
          split at hv
          · rename_i h6; exact hN _ (wd_kd h6)
          cases hv
        refine TT_wd hN (fun h7 => TT_bd (ih _ _ _ (by simp [rk]; omega) (by omega)) (fun x j h2 h3 => TT_bd (ih _ _ _ (by simp only [rk, con] at h2 ⊢; omega) h3) (fun y k h8 h9 => TT_ok (by simp only [con] at h2 h8 ⊢; omega) h9))) ?_
        exact TT_bd (ih _ _ _ (by simp [rk]; omega) (by omega)) (fun y k h8 h9 => TT_ok (by simp only [con] at h8 ⊢; omega) h9)
    | _ =>
      simp only [rk] at h
      simp only [con]
      rw [P]
      repeat' first
        | exact TT_bad _
        | exact TT_deep _
        | exact TT_ok (by omega) (by omega)
        | refine TT_mk hN (fun _ => ?_) ?_
        | refine TT_wd hN (fun _ => ?_) ?_
        | refine TT_wd2 hN (fun _ => ?_) ?_
        | refine TT_frt hN (fun _ => ?_) ?_
        | refine TT_kd hN (by decide) (fun _ => ?_) ?_
        | refine TT_k0 hN ?_ (fun _ => ?_)
        | refine TT_bop hN ?_ (fun _ => ?_)
        | refine TT_nm hN ?_ (fun _ => ?_)
        | refine TT_and hN (fun _ => ?_) ?_
        | refine TT_andw hN (fun _ => ?_) ?_
        | exact TT_mono (ih _ _ _ (by simp only [rk]; omega) (by omega)) (by simp only [con]; omega)
        | (refine TT_bd (ih _ _ _ (by simp [rk]; omega) (by omega)) (fun _ _ h2 _ => ?_); simp only [con] at h2)
        | refine TT_ite (fun _ => ?_) (fun _ => ?_)
def fuel (l : List Tok) : Nat := 16 * l.length + 20
theorem ends (l : List Tok) (g : G) (i d : Nat) (hi : i ≤ l.length) : ∃ r, P l (fuel l) g i d = some r ∧ ∀ f j, r = .ok f j → i + con g ≤ j ∧ j ≤ l.length := by
  have h := tot l l.length kd_len (fuel l) g i d (by have := rk_le g; unfold fuel; omega) hi
  cases hp : P l (fuel l) g i d with
  | none => rw [hp] at h; exact h.elim
  | some r =>
    rw [hp] at h
    refine ⟨r, rfl, fun f j e => ?_⟩
    subst e
    exact h
end TP
end Go.Proofs.YtkldllnnocdhbaaGreatDoor
namespace Go.Proofs.YtkldllnnocdhbaaGreatDoor
namespace TP
open TR (Nd)
open TK (Tok)
def accF : G → Fo
  | .rowL _ x _ => x
  | .chn x _ => x
  | .argL _ x => x
  | .blkL x => x
  | .lines x => x
  | .cards x => x
  | _ => .nil
def sng : G → Prop
  | .rowL _ x _ => cntF x = 1
  | .chn x _ => cntF x = 1
  | .argL _ _ => False
  | .args _ => False
  | .blkL _ => False
  | .lines _ => False
  | .cards _ => False
  | _ => True
theorem sng_opnd (r : Int) : sng (opnd r) := by
  unfold opnd
  split
  · trivial
  split
  · trivial
  split
  · trivial
  trivial
theorem acc_opnd (r : Int) : accF (opnd r) = .nil := by
  unfold opnd
  split
  · rfl
  split
  · rfl
  split
  · rfl
  rfl
@[simp] theorem len_nod (op n : Int) (x : List Int) (p : Int) (k : Fo) : (flF (nod op n x p k)).length = (flF k).length + 1 := by
  show (flF k ++ []).length + 1 = _
  rw [List.append_nil]
@[simp] theorem len_app (f g : Fo) : (flF (f.app g)).length = (flF f).length + (flF g).length := by rw [flF_app, List.length_append]
@[simp] theorem cnt_nod (op n : Int) (x : List Int) (p : Int) (k : Fo) : cntF (nod op n x p k) = 1 := rfl
@[simp] theorem len_nil : (flF .nil).length = 0 := rfl
def QT (c i0 N A : Nat) (s : Prop) (r : Option Rs) : Prop := match r with
  | some (.ok f j) => c ≤ j ∧ j ≤ N ∧ (flF f).length + i0 ≤ A + j ∧ (s → cntF f = 1)
  | _ => True
theorem QT_ok {c i0 N A j : Nat} {s : Prop} {f : Fo} (h1 : c ≤ j) (h2 : j ≤ N) (h3 : (flF f).length + i0 ≤ A + j) (h4 : s → cntF f = 1) : QT c i0 N A s (okr f j) := ⟨h1, h2, h3, h4⟩
theorem QT_bad {c i0 N A : Nat} {s : Prop} (t : Tok) : QT c i0 N A s (bad t) := trivial
theorem QT_deep {c i0 N A : Nat} {s : Prop} (t : Tok) : QT c i0 N A s (deep t) := trivial
theorem QT_bd {c i0 N A c1 i1 A1 : Nat} {s s1 : Prop} {r : Option Rs} {k : Fo → Nat → Option Rs} (h : QT c1 i1 N A1 s1 r) (hk : ∀ f j, c1 ≤ j → j ≤ N → (flF f).length + i1 ≤ A1 + j → (s1 → cntF f = 1) → QT c i0 N A s (k f j)) : QT c i0 N A s (bd r k) := by
  cases r with
  | none => exact trivial
  | some r =>
    cases r with
    | bad e p => exact trivial
    | ok f j => exact hk f j h.1 h.2.1 h.2.2.1 h.2.2.2
theorem QT_mono {c i0 N A c1 i1 A1 : Nat} {s s1 : Prop} {r : Option Rs} (h : QT c1 i1 N A1 s1 r) (hc : c ≤ c1) (hA : A1 + i0 ≤ A + i1) (hs : s → s1) : QT c i0 N A s r := by
  cases r with
  | none => exact trivial
  | some r =>
    cases r with
    | bad e p => exact trivial
    | ok f j => exact ⟨Nat.le_trans hc h.1, h.2.1, by have := h.2.2.1; omega, fun h9 => h.2.2.2 (hs h9)⟩
theorem QT_ite {c i0 N A : Nat} {s : Prop} {p : Prop} [Decidable p] {a b : Option Rs} (ha : p → QT c i0 N A s a) (hb : ¬p → QT c i0 N A s b) : QT c i0 N A s (if p then a else b) := by
  split
  · exact ha (by assumption)
  · exact hb (by assumption)
theorem QT_mk {c i0 N A : Nat} {s : Prop} {l : List Tok} (hN : ∀ i, (tk l i).kind ≠ 0 → i < N) {i : Nat} {m : List Int} {a b : Option Rs} (ha : i < N → QT c i0 N A s a) (hb : QT c i0 N A s b) : QT c i0 N A s (if mk (tk l i) m = true then a else b) := QT_ite (fun h => ha (hN _ (mk_kd h))) (fun _ => hb)
theorem QT_wd {c i0 N A : Nat} {s : Prop} {l : List Tok} (hN : ∀ i, (tk l i).kind ≠ 0 → i < N) {i : Nat} {m : List Int} {a b : Option Rs} (ha : i < N → QT c i0 N A s a) (hb : QT c i0 N A s b) : QT c i0 N A s (if wd (tk l i) m = true then a else b) := QT_ite (fun h => ha (hN _ (wd_kd h))) (fun _ => hb)
theorem QT_wd2 {c i0 N A : Nat} {s : Prop} {l : List Tok} (hN : ∀ i, (tk l i).kind ≠ 0 → i < N) {i : Nat} {m m2 : List Int} {a b : Option Rs} (ha : i < N → QT c i0 N A s a) (hb : QT c i0 N A s b) : QT c i0 N A s (if wd (tk l i) m = true ∨ wd (tk l i) m2 = true then a else b) := QT_ite (fun h => ha (hN _ (h.elim wd_kd wd_kd))) (fun _ => hb)
theorem QT_wd3 {c i0 N A : Nat} {s : Prop} {l : List Tok} (hN : ∀ i, (tk l i).kind ≠ 0 → i < N) {i : Nat} {m m2 m3 : List Int} {a b : Option Rs} (ha : i < N → QT c i0 N A s a) (hb : QT c i0 N A s b) : QT c i0 N A s (if wd (tk l i) m = true ∨ wd (tk l i) m2 = true ∨ wd (tk l i) m3 = true then a else b) := QT_ite (fun h => ha (hN _ (h.elim wd_kd (fun h => h.elim wd_kd wd_kd)))) (fun _ => hb)
theorem QT_frt {c i0 N A : Nat} {s : Prop} {l : List Tok} (hN : ∀ i, (tk l i).kind ≠ 0 → i < N) {i : Nat} {a b : Option Rs} (ha : i < N → QT c i0 N A s a) (hb : QT c i0 N A s b) : QT c i0 N A s (if frt (tk l i) = true then a else b) := QT_ite (fun h => ha (hN _ (frt_kd h))) (fun _ => hb)
theorem QT_kd {c i0 N A : Nat} {s : Prop} {l : List Tok} (hN : ∀ i, (tk l i).kind ≠ 0 → i < N) {i : Nat} {z : Int} (hz : z ≠ 0) {a b : Option Rs} (ha : i < N → QT c i0 N A s a) (hb : QT c i0 N A s b) : QT c i0 N A s (if (tk l i).kind = z then a else b) := QT_ite (fun h => ha (hN _ (by omega))) (fun _ => hb)
theorem QT_k0 {c i0 N A : Nat} {s : Prop} {l : List Tok} (hN : ∀ i, (tk l i).kind ≠ 0 → i < N) {i : Nat} {a b : Option Rs} (ha : QT c i0 N A s a) (hb : i < N → QT c i0 N A s b) : QT c i0 N A s (if (tk l i).kind = 0 then a else b) := QT_ite (fun _ => ha) (fun h => hb (hN _ h))
theorem QT_bop {c i0 N A : Nat} {s : Prop} {l : List Tok} (hN : ∀ i, (tk l i).kind ≠ 0 → i < N) {i : Nat} {r : Int} {a b : Option Rs} (ha : QT c i0 N A s a) (hb : i < N → QT c i0 N A s b) : QT c i0 N A s (if bop (tk l i) r = 0 then a else b) := QT_ite (fun _ => ha) (fun h => hb (hN _ (bop_kd h)))
theorem QT_and {c i0 N A : Nat} {s : Prop} {l : List Tok} (hN : ∀ i, (tk l i).kind ≠ 0 → i < N) {i : Nat} {m : List Int} {p : Prop} [Decidable p] {a b : Option Rs} (ha : i < N → QT c i0 N A s a) (hb : QT c i0 N A s b) : QT c i0 N A s (if p ∧ mk (tk l i) m = true then a else b) := QT_ite (fun h => ha (hN _ (mk_kd h.2))) (fun _ => hb)
theorem QT_andw {c i0 N A : Nat} {s : Prop} {l : List Tok} (hN : ∀ i, (tk l i).kind ≠ 0 → i < N) {i : Nat} {m : List Int} {p : Prop} [Decidable p] {a b : Option Rs} (ha : i < N → QT c i0 N A s a) (hb : QT c i0 N A s b) : QT c i0 N A s (if p ∧ wd (tk l i) m = true then a else b) := QT_ite (fun h => ha (hN _ (wd_kd h.2))) (fun _ => hb)
theorem QT_nm {c i0 N A : Nat} {s : Prop} {l : List Tok} (hN : ∀ i, (tk l i).kind ≠ 0 → i < N) {i : Nat} {m1 m2 m3 m4 : List Int} {a b : Option Rs} (ha : QT c i0 N A s a) (hb : i < N → QT c i0 N A s b) : QT c i0 N A s (if (frt (tk l i) || (wd (tk l i) m1 || wd (tk l i) m2) || (wd (tk l i) m3 || wd (tk l i) m4)) = false then a else b) := QT_ite (fun _ => ha) (fun h => hb (by
  simp only [Bool.or_eq_false_iff, not_and, Bool.not_eq_false] at h
  by_cases h1 : frt (tk l i) = true
  · exact hN _ (frt_kd h1)
  by_cases h2 : wd (tk l i) m1 = true
  · exact hN _ (wd_kd h2)
  by_cases h3 : wd (tk l i) m2 = true
  · exact hN _ (wd_kd h3)
  by_cases h4 : wd (tk l i) m3 = true
  · exact hN _ (wd_kd h4)
  simp only [Bool.not_eq_true] at h1 h2 h3 h4
  exact hN _ (wd_kd (h ⟨h1, h2, h3⟩ h4))))
theorem goes (l : List Tok) (N : Nat) (hN : ∀ i, (tk l i).kind ≠ 0 → i < N) : ∀ (n : Nat) (g : G) (i d : Nat), i ≤ N → QT (i + con g) i N (flF (accF g)).length (sng g) (P l n g i d)
  | 0, _, _, _, _ => trivial
  | n + 1, g, i, d, hi => by
    have ih := fun g i d => goes l N hN n g i d
    cases g with
    | row r =>
      have h1 := rk_opnd r
      rw [P]
      refine QT_bd (ih (opnd r) _ _ hi) (fun x j h2 h3 h4 h5 => ?_)
      rw [acc_opnd] at h4
      exact QT_mono (ih _ _ _ h3) (by show i + 1 ≤ j + 0; omega) (by simp only [accF, len_nil] at h4 ⊢; omega) (fun _ => h5 (sng_opnd r))
    | rowL r x m =>
      have h1 := rk_opnd r
      rw [P]
      refine QT_bop hN (QT_ok (by show i + 0 ≤ i; omega) hi (by simp only [accF]; omega) (fun h => h)) (fun h5 => QT_ite (fun _ => QT_deep _) (fun _ => ?_))
      refine QT_bd (ih (opnd r) _ _ (by omega)) (fun y j h2 h3 h4 h6 => ?_)
      rw [acc_opnd] at h4
      exact QT_mono (ih _ _ _ h3) (by show i + 0 ≤ j + 0; omega) (by simp only [accF, len_nil, len_nod, len_app] at h4 ⊢; omega) (fun _ => rfl)
    | arg =>
      rw [P]
      refine QT_kd hN (by decide) (fun h5 => QT_ok (by show i + 1 ≤ i + 1; omega) (by omega) (by simp only [len_nod, len_nil]; omega) (fun _ => rfl)) ?_
      split
      · rename_i z hz
        have h5 : i < N := by
          unfold zone at hz
          split at hz
          · rename_i h6; exact hN _ (wd_kd h6)
          split at hz
          · rename_i h6; exact hN _ (wd_kd h6)
          split at hz
          · rename_i h6; exact hN _ (wd_kd h6)
          split at hz
          · rename_i h6; exact hN _ (wd_kd h6)
          cases hz
        exact QT_ok (by show i + 1 ≤ i + 1; omega) (by omega) (by simp only [len_nod, len_nil]; omega) (fun _ => rfl)
      · exact ih _ _ _ hi
    | argL a acc =>
      rw [P]
      have h6 : accF (if a = true then G.arg else .row 1) = .nil ∧ con (if a = true then G.arg else .row 1) = 1 := by cases a <;> exact ⟨rfl, rfl⟩
      refine QT_bd (ih _ _ _ hi) (fun x j h2 h3 h4 h5 => ?_)
      rw [h6.1] at h4
      rw [h6.2] at h2
      simp only [len_nil] at h4
      refine QT_mk hN (fun h7 => QT_mono (ih _ _ _ (by omega)) (by show i + 1 ≤ j + 1 + 1; omega) (by simp only [accF, len_app]; omega) (fun h => h)) (QT_mk hN (fun h7 => QT_ok (by show i + 1 ≤ j + 1; omega) (by omega) (by simp only [accF, len_app]; omega) (fun h => h.elim)) (QT_bad _))
    | line =>
      rw [P]
      refine QT_wd3 hN (fun h5 => QT_kd hN (by decide) (fun h6 => QT_mk hN (fun h7 => QT_ok (by simp only [con]; omega) (by omega) (by simp only [len_nod, len_nil]; omega) (fun _ => rfl)) (QT_bad _)) (QT_bad _)) ?_
      refine QT_wd hN (fun h5 => QT_kd hN (by decide) (fun h6 => QT_mk hN (fun h7 => QT_ok (by simp only [con]; omega) (by omega) (by simp only [len_nod, len_nil]; omega) (fun _ => rfl)) (QT_bad _)) (QT_bad _)) ?_
      refine QT_wd hN (fun h5 => ?_) (QT_bad _)
      split
      · exact QT_bad _
      · rename_i v hv
        have h5 : i + 1 < N := by
          unfold evnt at hv
          split at hv
          · rename_i h6; exact hN _ (wd_kd h6)
          split at hv
          · rename_i h6; exact hN _ (wd_kd h6)
          split at hv
          · rename_i h6; exact hN _ (wd_kd h6)
          split at hv
          · rename_i h6; exact hN _ (wd_kd h6)
          split at hv
          · rename_i h6; exact hN _ (wd_kd h6)
          cases hv
        refine QT_wd hN (fun h7 => QT_bd (ih _ _ _ (by omega)) (fun x j h2 h3 h8 _ => QT_bd (ih _ _ _ h3) (fun y k h9 h10 h11 _ => QT_ok (by simp only [con] at h2 h9 ⊢; omega) h10 (by simp only [accF, len_nil] at h8 h11; simp only [accF, len_nod, len_app, len_nil]; omega) (fun _ => rfl)))) ?_
        exact QT_bd (ih _ _ _ (by omega)) (fun y k h9 h10 h11 _ => QT_ok (by simp only [con] at h9 ⊢; omega) h10 (by simp only [accF, len_nil] at h11; simp only [accF, len_nod, len_nil]; omega) (fun _ => rfl))
    | _ =>
      simp only [con, accF, sng]
      rw [P]
      repeat' first
        | exact QT_bad _
        | exact QT_deep _
        | exact QT_ok (by omega) (by omega) (by (try simp only [len_nod, len_app, len_nil]); omega) (by first | (intro _; rfl) | (intro h; exact h.elim) | (intro h; exact h) | assumption | (intro _; assumption))
        | refine QT_mk hN (fun _ => ?_) ?_
        | refine QT_wd hN (fun _ => ?_) ?_
        | refine QT_wd2 hN (fun _ => ?_) ?_
        | refine QT_frt hN (fun _ => ?_) ?_
        | refine QT_kd hN (by decide) (fun _ => ?_) ?_
        | refine QT_k0 hN ?_ (fun _ => ?_)
        | refine QT_bop hN ?_ (fun _ => ?_)
        | refine QT_nm hN ?_ (fun _ => ?_)
        | refine QT_and hN (fun _ => ?_) ?_
        | refine QT_andw hN (fun _ => ?_) ?_
        | exact QT_mono (ih _ _ _ (by omega)) (by simp only [con]; omega) (by simp only [accF, len_nod, len_app, len_nil]; omega) (by simp only [sng]; first | (intro h; exact h) | (intro h; exact h.elim) | (intro _; trivial) | (intro _; rfl) | (intro _; assumption))
        | (refine QT_bd (ih _ _ _ (by omega)) (fun _ _ h2 _ h4 h5 => ?_); simp only [con] at h2; simp only [accF, len_nil] at h4; try (have h5 := h5 trivial))
        | refine QT_ite (fun _ => ?_) (fun _ => ?_)
/- what is read of a list that ends with its end: not the end, at least a token, no more nodes than tokens -/
theorem stays {l : List Tok} (hl : (tk l (l.length - 1)).kind = 0) {n : Nat} {g : G} {i d : Nat} {f : Fo} {j : Nat} (h : P l n g i d = some (.ok f j)) (hi : i < l.length) : i + con g ≤ j ∧ j < l.length ∧ (flF f).length + i ≤ (flF (accF g)).length + j ∧ (sng g → cntF f = 1) := by
  have h1 := goes l (l.length - 1) (kd_last hl) n g i d (by omega)
  rw [h] at h1
  exact ⟨h1.1, by have := h1.2.1; omega, h1.2.2⟩
end TP
end Go.Proofs.YtkldllnnocdhbaaGreatDoor
