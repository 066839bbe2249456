/-
  The walk, without the program: what holds of all that is wanted.
-/
import Derived.Test.YtgahdppcdeefaaaKq9
namespace Go.Proofs.Ytgahdppcdeefaaa
open Go.RowKit
attribute [local go_sem ↓] Go.wp_at_zero Go.wp_at_succ
namespace TR
theorem go_pop {l : List Nd} {x : Wt} {S : List Wt} {d p : Nat} (h : x.many = 0) : go l (x :: S) d p = go l S d p := by
  have e : pop (x :: S) = pop S := by rw [pop, if_pos h]
  cases l with
  | nil => unfold go; rw [e]
  | cons a r => unfold go; rw [e]
theorem go_on {a : Nd} {r : List Nd} {x : Wt} {S : List Wt} {d p : Nat} (h : x.many ≠ 0) : go (a :: r) (x :: S) d p = match ent a r x with
    | none => (0, p, false)
    | some (o, ws) => go r (ws ++ { x with many := x.many - 1 } :: S) (max d o) (p + 1) := by
  have e : pop (x :: S) = x :: S := by rw [pop, if_neg h]
  rw [go, e]
  rfl
theorem go_nil {x : Wt} {S : List Wt} {d p : Nat} (h : x.many ≠ 0) : go [] (x :: S) d p = (0, p, false) := by
  have e : pop (x :: S) = x :: S := by rw [pop, if_neg h]
  rw [go, e, if_neg (by simp)]
/- what holds of all that is wanted -/
def RS (l : List Nd) (p : Nat) (S : List Wt) : Prop := (∀ x ∈ S, x.plc.takes < 256 ∧ x.opn ≤ p * (l.length + 3) ∧ (x.rest = true → x.many ≤ 1) ∧ x.many ≤ 9223372036854775807) ∧ (∀ x S', S = x :: S' → (x.rest = true → x.many ≠ 0 → mks (l.drop p) ≤ x.opn) ∧ ∀ y ∈ S', y.rest = true → y.many = 0)
theorem RS.tail {l : List Nd} {p : Nat} {x : Wt} {S : List Wt} (h : RS l p (x :: S)) : RS l p S :=
  ⟨fun y hy => h.1 y (by simp [hy]), fun y S' e => by
    subst e
    have h2 := (h.2 x (y :: S') rfl).2
    exact ⟨fun h3 h4 => absurd (h2 y (by simp) h3) h4, fun z hz => h2 z (by simp [hz])⟩⟩
theorem rs_root (l : List Nd) : RS l 0 [wroot] :=
  ⟨fun x hx => by
    obtain rfl : x = wroot := by simpa using hx
    exact ⟨by decide, by simp [wroot], fun h => (by cases h), by simp [wroot]⟩, fun x S' e => by
    simp only [List.cons.injEq] at e
    obtain ⟨rfl, rfl⟩ := e
    exact ⟨fun h => (by cases h), fun y hy => (by cases hy)⟩⟩
theorem wants_mem {ps : List Plc} {many o : Nat} {g : Bool} {y : Wt} (h : y ∈ wants ps many o g) : y.plc ∈ ps ∧ y.opn ≤ o ∧ y.many = many ∧ (y.rest = true → g = true) := by
  cases ps with
  | nil => cases h
  | cons q r =>
    unfold wants at h
    rcases List.mem_cons.1 h with rfl | h
    · refine ⟨by simp, ?_, rfl, fun h => h⟩
      show (if g = true then o - 1 else o) ≤ o
      split <;> omega
    · obtain ⟨z, hz, rfl⟩ := List.mem_map.1 h
      exact ⟨by simp [hz], Nat.le_refl _, rfl, fun h => by cases h⟩
theorem plcs_takes {k : Kd} (h : okK k = true) {kids : Int} {ps : List Plc} {many : Nat} (hp : plcs k kids = some (ps, many)) : (∀ q ∈ ps, q.takes < 256) ∧ (k.row = true → many = 1) := by
  have hrow := plcs_row h (hp := hp)
  unfold okK at h
  simp only [Bool.and_eq_true, decide_eq_true_eq] at h
  have h5 := h.2.2.2.2.1
  have h6 := h.2.2.2.2.2.1
  have h7 := h.2.2.2.2.2.2
  unfold plcs at hp
  split at hp
  · rename_i he
    split at hp
    · simp only [Option.some.injEq, Prod.mk.injEq] at hp
      refine ⟨fun q hq => ?_, fun hr => ?_⟩
      · rw [← hp.1] at hq
        obtain rfl : q = ⟨k.each, 0⟩ := by simpa using hq
        exact h6
      · rw [hr] at h7
        simp only [Bool.not_true, Bool.false_or, Bool.and_eq_true, decide_eq_true_eq] at h7
        exact absurd h7.1 he
    · cases hp
  · split at hp
    · rename_i w hf
      simp only [Option.some.injEq, Prod.mk.injEq] at hp
      refine ⟨fun q hq => ?_, fun _ => hp.2.symm⟩
      rw [← hp.1] at hq
      have := List.all_eq_true.1 h5 w (List.mem_of_find?_eq_some hf)
      simp only [Bool.and_eq_true, List.all_eq_true, decide_eq_true_eq] at this
      exact this.2 q hq
    · split at hp
      · simp only [Option.some.injEq, Prod.mk.injEq] at hp
        refine ⟨fun q hq => (by rw [← hp.1] at hq; cases hq), fun hr => absurd hp.1.symm (hrow hr)⟩
      · cases hp
theorem plcs_many {k : Kd} {kids : Int} {ps : List Plc} {many : Nat} (hp : plcs k kids = some (ps, many)) (hk : kids ≤ 9223372036854775807) : many ≤ 9223372036854775807 := by
  unfold plcs at hp
  split at hp
  · split at hp
    · simp only [Option.some.injEq, Prod.mk.injEq] at hp
      omega
    · cases hp
  · split at hp
    · simp only [Option.some.injEq, Prod.mk.injEq] at hp
      omega
    · split at hp
      · simp only [Option.some.injEq, Prod.mk.injEq] at hp
        omega
      · cases hp
theorem RS.ent {l : List Nd} {p : Nat} {x : Wt} {S : List Wt} {a : Nd} {o : Nat} {ws : List Wt} (h : RS l p (x :: S)) (hx : x.many ≠ 0) (hd : l.drop p = a :: l.drop (p + 1)) (hkk : a.kids ≤ 9223372036854775807) (he : TR.ent a (l.drop (p + 1)) x = some (o, ws)) : RS l (p + 1) (ws ++ { x with many := x.many - 1 } :: S) ∧ ws.length ≤ 3 := by
  obtain ⟨h1, h2, h3, h6⟩ := h.1 x (by simp)
  obtain ⟨h4, h5⟩ := h.2 x S rfl
  unfold TR.ent at he
  split at he
  · cases he
  · split at he
    · cases he
    · rename_i ps many hp
      simp only [Option.some.injEq, Prod.mk.injEq] at he
      obtain ⟨rfl, rfl⟩ := he
      rw [← hd]
      have hok := kd_ok a.op
      obtain ⟨ht, hm⟩ := plcs_takes hok hp
      have hlen := plcs_len hok hp
      have hmb := plcs_many hp hkk
      have hops := (okK_is hok).2.2.1
      have hmo := more_le (kd a.op) x (mks (l.drop p))
      have hmk := mks_le (l.drop p)
      rw [List.length_drop] at hmk
      generalize hO : x.opn + more (kd a.op) x (mks (l.drop p)) + (kd a.op).opens = O
      have hOb : O ≤ (p + 1) * (l.length + 3) := by rw [Nat.succ_mul]; omega
      have hgm : gos (l.drop p) = true → many = 1 ∧ mks (l.drop (p + 1)) ≤ O - 1 := fun hg => by
        have hr : (kd a.op).row = true := by rw [hd] at hg; exact gos_row hg
        refine ⟨hm hr, ?_⟩
        have h9 := mks_step l p
        rw [if_pos hg] at h9
        cases hr9 : x.rest with
        | true =>
          have := h4 hr9 hx
          omega
        | false =>
          have h7 : mks (l.drop p) ≤ more (kd a.op) x (mks (l.drop p)) := by
            unfold more
            rw [hr9]
            simp
          omega
      have hrest : ∀ y ∈ ({ x with many := x.many - 1 } : Wt) :: S, y.rest = true → y.many = 0 := fun y hy hr => by
        rcases List.mem_cons.1 hy with rfl | hy
        · have := h3 hr
          show x.many - 1 = 0
          omega
        · exact h5 y hy hr
      refine ⟨⟨fun y hy => ?_, fun y S' e => ?_⟩, ?_⟩
      · rcases List.mem_append.1 hy with hy | hy
        · obtain ⟨k1, k2, k3, k4⟩ := wants_mem hy
          exact ⟨ht _ k1, by omega, fun hr => (by rw [k3, (hgm (k4 hr)).1]; exact Nat.le_refl _), by rw [k3]; exact hmb⟩
        · rcases List.mem_cons.1 hy with rfl | hy
          · exact ⟨h1, by show x.opn ≤ _; rw [Nat.succ_mul]; omega, fun hr => (by have := h3 hr; show x.many - 1 ≤ 1; omega), by show x.many - 1 ≤ _; omega⟩
          · obtain ⟨k1, k2, k3, k4⟩ := h.1 y (by simp [hy])
            exact ⟨k1, by rw [Nat.succ_mul]; omega, k3, k4⟩
      · cases hps : ps with
        | nil =>
          rw [hps] at e
          have e : ({ x with many := x.many - 1 } : Wt) :: S = y :: S' := e
          have hy : y.rest = true → y.many = 0 := hrest y (by rw [e]; simp)
          exact ⟨fun k1 k2 => absurd (hy k1) k2, fun z hz => hrest z (by rw [e]; simp [hz])⟩
        | cons q r =>
          rw [hps] at e
          unfold wants at e
          simp only [List.cons_append, List.cons.injEq] at e
          obtain ⟨rfl, rfl⟩ := e
          refine ⟨fun k1 _ => ?_, fun z hz => ?_⟩
          · have hg : gos (l.drop p) = true := k1
            show mks (l.drop (p + 1)) ≤ (if gos (l.drop p) = true then O - 1 else O)
            rw [if_pos hg]
            exact (hgm hg).2
          · rcases List.mem_append.1 hz with hz | hz
            · obtain ⟨z', -, rfl⟩ := List.mem_map.1 hz
              intro k1
              cases k1
            · exact hrest z hz
      · cases ps with
        | nil => exact Nat.zero_le _
        | cons q r =>
          unfold wants
          simp at hlen ⊢
          omega
end TR
end Go.Proofs.Ytgahdppcdeefaaa
