/-
  The theory of the walk, without the program: whether a list is a tree, apart from how deep it is; Behind.
-/
import Derived.Test.YtgahdppcdeefaaaKv9
import Derived.Test.YtgahdppcdeefaaaNe9
namespace Go.Proofs.Ytgahdppcdeefaaa
namespace TR
/- the walk without the depth: the stack holds what is taken, and how often -/
def popS : List (Nat × Nat) → List (Nat × Nat)
  | [] => []
  | x :: S => if x.2 = 0 then popS S else x :: S
/- whether a node is one for such a place, and what it wants -/
def ews (a : Nd) (tk : Nat) : Option (List (Nat × Nat)) :=
  if (kd a.op).is &&& tk = 0 ∨ fits (kd a.op) a = false then none
  else match plcs (kd a.op) a.kids with
    | none => none
    | some (ps, many) => some (ps.map fun q => (q.takes, many))
def gsh : List Nd → List (Nat × Nat) → Nat → Nat × Bool
  | [], S, p => if popS S = [] then (0, true) else (p, false)
  | a :: r, S, p => match popS S with
    | [] => (p, false)
    | x :: S' => match ews a x.1 with
      | none => (p, false)
      | some ws => gsh r (ws ++ (x.1, x.2 - 1) :: S') (p + 1)
def sh (x : Wt) : Nat × Nat := (x.plc.takes, x.many)
theorem popS_sh : ∀ S : List Wt, popS (S.map sh) = (pop S).map sh
  | [] => rfl
  | x :: S => by
    rw [List.map_cons, popS, pop]
    by_cases h : x.many = 0
    · rw [if_pos h, if_pos (show (sh x).2 = 0 from h), popS_sh S]
    · rw [if_neg h, if_neg (show ¬ (sh x).2 = 0 from h), List.map_cons]
theorem wants_sh (ps : List Plc) (many o : Nat) (g : Bool) : (wants ps many o g).map sh = ps.map fun q => (q.takes, many) := by
  cases ps with
  | nil => rfl
  | cons q r =>
    unfold wants sh
    simp
theorem ent_sh (a : Nd) (r : List Nd) (x : Wt) : (ent a r x).map (fun q => q.2.map sh) = ews a x.plc.takes := by
  unfold ent ews
  split
  · rfl
  · cases hp : plcs (kd a.op) a.kids with
    | none => rfl
    | some q =>
      obtain ⟨ps, many⟩ := q
      simp only [Option.map_some, wants_sh]
theorem go_sh : ∀ (l : List Nd) (S : List Wt) (d p : Nat), (go l S d p).2 = gsh l (S.map sh) p
  | [], S, d, p => by
    unfold go gsh
    rw [popS_sh]
    cases h : pop S with
    | nil => simp
    | cons x S' => simp
  | a :: r, S, d, p => by
    unfold go gsh
    rw [popS_sh]
    cases h : pop S with
    | nil => rfl
    | cons x S' =>
      rw [List.map_cons]
      simp only
      have he := ent_sh a r x
      cases h2 : ent a r x with
      | none =>
        rw [h2] at he
        have he : ews a (sh x).1 = none := he.symm
        rw [he]
      | some q =>
        obtain ⟨o, ws⟩ := q
        rw [h2] at he
        have he : ews a (sh x).1 = some (ws.map sh) := he.symm
        rw [he]
        simp only
        rw [go_sh r, List.map_append, List.map_cons]
        rfl
theorem wlk_sh (l : List Nd) : (wlk l).2 = gsh l [(1, 1)] 0 := go_sh l [wroot] 0 0
/- how many are wanted -/
def tot : List (Nat × Nat) → Nat
  | [] => 0
  | x :: S => x.2 + tot S
theorem tot_app : ∀ A B, tot (A ++ B) = tot A + tot B
  | [], B => by simp [tot]
  | x :: A, B => by rw [List.cons_append, tot, tot, tot_app A B]; omega
theorem tot_pop : ∀ S, tot (popS S) = tot S
  | [] => rfl
  | x :: S => by
    rw [popS]
    split
    · rename_i h; rw [tot_pop S, tot, h]; omega
    · rfl
theorem tot_nil : ∀ S, popS S = [] ↔ tot S = 0
  | [] => by simp [popS, tot]
  | x :: S => by
    rw [popS]
    split
    · rename_i h; rw [tot_nil S, tot, h]; omega
    · rename_i h
      simp [tot]
      omega
theorem pop_many : ∀ {S x S'}, popS S = x :: S' → x.2 ≠ 0
  | [], x, S', h => by cases h
  | y :: S, x, S', h => by
    rw [popS] at h
    split at h
    · exact pop_many h
    · rename_i hy
      cases h
      exact hy
theorem tot_ws (ps : List Plc) (many : Nat) : tot (ps.map fun q => (q.takes, many)) = ps.length * many := by
  induction ps with
  | nil => simp [tot]
  | cons q r ih => rw [List.map_cons, tot, ih, List.length_cons, Nat.succ_mul]; omega
theorem plcs_tot {k : Kd} {kids : Int} {ps : List Plc} {many : Nat} (h : plcs k kids = some (ps, many)) : 0 ≤ kids ∧ ps.length * many = kids.toNat := by
  unfold plcs at h
  split at h
  · split at h
    · rename_i h1
      simp only [Option.some.injEq, Prod.mk.injEq] at h
      obtain ⟨rfl, rfl⟩ := h
      exact ⟨h1, by simp⟩
    · cases h
  · split at h
    · rename_i w hf
      simp only [Option.some.injEq, Prod.mk.injEq] at h
      obtain ⟨rfl, rfl⟩ := h
      have := List.find?_some hf
      have : (w.length : Int) = kids := by simpa using this
      omega
    · split at h
      · rename_i h1
        simp only [Option.some.injEq, Prod.mk.injEq] at h
        obtain ⟨rfl, rfl⟩ := h
        rw [h1.1]
        simp
      · cases h
theorem ews_tot {a : Nd} {tk : Nat} {ws : List (Nat × Nat)} (h : ews a tk = some ws) : 0 ≤ a.kids ∧ tot ws = a.kids.toNat ∧ fits (kd a.op) a = true := by
  unfold ews at h
  split at h
  · cases h
  · rename_i h0
    split at h
    · cases h
    · rename_i ps many hp
      obtain ⟨h1, h2⟩ := plcs_tot hp
      cases h
      refine ⟨h1, by rw [tot_ws, h2], ?_⟩
      cases hf : fits (kd a.op) a with
      | true => rfl
      | false => exact absurd (.inr hf) h0
theorem gsh_cons (a : Nd) (r : List Nd) (S : List (Nat × Nat)) (p : Nat) : gsh (a :: r) S p = match popS S with
    | [] => (p, false)
    | x :: S' => match ews a x.1 with
      | none => (p, false)
      | some ws => gsh r (ws ++ (x.1, x.2 - 1) :: S') (p + 1) := by rw [gsh]
/- one step of the walk -/
theorem gsh_ok {a : Nd} {r : List Nd} {S : List (Nat × Nat)} {p : Nat} (h : (gsh (a :: r) S p).2 = true) : ∃ x S' ws, popS S = x :: S' ∧ ews a x.1 = some ws ∧ gsh (a :: r) S p = gsh r (ws ++ (x.1, x.2 - 1) :: S') (p + 1) ∧ 0 ≤ a.kids ∧ tot (ws ++ (x.1, x.2 - 1) :: S') + 1 = tot S + a.kids.toNat ∧ 0 < tot S := by
  rw [gsh_cons] at h ⊢
  cases hp : popS S with
  | nil => rw [hp] at h; cases h
  | cons x S' =>
    rw [hp] at h
    simp only at h ⊢
    cases he : ews a x.1 with
    | none => rw [he] at h; cases h
    | some ws =>
      obtain ⟨h1, h2, -⟩ := ews_tot he
      have h3 := tot_pop S
      have h4 := pop_many hp
      rw [hp, tot] at h3
      refine ⟨x, S', ws, rfl, he, rfl, h1, ?_, by omega⟩
      rw [tot_app, tot, h2]
      simp only
      omega
theorem tot_le : ∀ (l : List Nd) (S : List (Nat × Nat)) (p : Nat), (gsh l S p).2 = true → tot S ≤ l.length
  | [], S, p, h => by
    unfold gsh at h
    split at h
    · rename_i h1; rw [(tot_nil S).1 h1]; exact Nat.zero_le _
    · cases h
  | a :: r, S, p, h => by
    obtain ⟨x, S', ws, -, -, h3, -, h5, -⟩ := gsh_ok h
    rw [h3] at h
    have := tot_le r _ _ h
    rw [List.length_cons]
    omega
/- a tree is behind by as many as it has -/
theorem gsh_bhn {N : Nat} : ∀ (l : List Nd) (S : List (Nat × Nat)) (p q : Nat), (gsh l S p).2 = true → l.length ≤ N → bhn N l (tot S) q = some (q + l.length)
  | [], S, p, q, h, _ => by
    unfold gsh at h
    split at h
    · rename_i h1; rw [(tot_nil S).1 h1]; rfl
    · cases h
  | a :: r, S, p, q, h, hN => by
    obtain ⟨x, S', ws, -, -, h3, h4, h5, h6⟩ := gsh_ok h
    rw [h3] at h
    have h7 := tot_le r _ _ h
    have h8 := gsh_bhn (N := N) r _ _ (q + 1) h (by rw [List.length_cons] at hN; omega)
    obtain ⟨k, hk⟩ : ∃ k, tot S = k + 1 := ⟨tot S - 1, by omega⟩
    rw [hk]
    unfold bhn
    rw [List.length_cons] at hN
    rw [if_pos (by omega), show k + a.kids.toNat = tot (ws ++ (x.1, x.2 - 1) :: S') by omega, h8, List.length_cons]
    congr 1
    omega
/- cut off by one -/
theorem gsh_cut : ∀ (l : List Nd) (S : List (Nat × Nat)) (p : Nat), (gsh l S p).2 = true → l ≠ [] → gsh (l.take (l.length - 1)) S p = (p + (l.length - 1), false)
  | [], _, _, _, h => absurd rfl h
  | [a], S, p, h, _ => by
    obtain ⟨x, S', ws, h1, -⟩ := gsh_ok h
    show gsh [] S p = _
    unfold gsh
    rw [h1, if_neg (by simp)]
    rfl
  | a :: b :: r, S, p, h, _ => by
    obtain ⟨x, S', ws, h1, h2, h3, -⟩ := gsh_ok h
    rw [h3] at h
    have h8 := gsh_cut (b :: r) _ _ h (by simp)
    show gsh (a :: (b :: r).take ((b :: r).length - 1)) S p = _
    rw [gsh_cons, h1]
    simp only
    rw [h2]
    simp only
    rw [h8]
    simp only [List.length_cons, Prod.mk.injEq, and_true]
    omega
/- gone on with -/
theorem gsh_more : ∀ (l : List Nd) (c : Nd) (S : List (Nat × Nat)) (p : Nat), (gsh l S p).2 = true → gsh (l ++ [c]) S p = (p + l.length, false)
  | [], c, S, p, h => by
    unfold gsh at h
    split at h
    · rename_i h1
      show gsh [c] S p = _
      unfold gsh
      rw [h1]
      rfl
    · cases h
  | a :: r, c, S, p, h => by
    obtain ⟨x, S', ws, h1, h2, h3, -⟩ := gsh_ok h
    rw [h3] at h
    have h8 := gsh_more r c _ _ h
    show gsh (a :: (r ++ [c])) S p = _
    rw [gsh_cons, h1]
    simp only
    rw [h2]
    simp only
    rw [h8]
    simp only [List.length_cons, Prod.mk.injEq, and_true]
    omega
/- each node of a tree fits -/
theorem gsh_fits : ∀ (l : List Nd) (S : List (Nat × Nat)) (p : Nat), (gsh l S p).2 = true → ∀ a ∈ l, fits (kd a.op) a = true
  | [], _, _, _, a, ha => by cases ha
  | b :: r, S, p, h, a, ha => by
    obtain ⟨x, S', ws, h1, h2, h3, -⟩ := gsh_ok h
    rw [h3] at h
    rcases List.mem_cons.1 ha with rfl | ha
    · exact (ews_tot h2).2.2
    · exact gsh_fits r _ _ h a ha
end TR
end Go.Proofs.Ytgahdppcdeefaaa
