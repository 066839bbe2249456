/-
  The theory of the walk, without the program: Behind step by step; what the places say.
-/
import Derived.Test.YtgahdppcdeefaaaTa9
namespace Go.Proofs.Ytgahdppcdeefaaa
namespace TR
theorem bhn_ge {N : Nat} : ∀ (l : List Nd) (k p q : Nat), bhn N l k p = some q → p + (if k = 0 then 0 else 1) ≤ q
  | l, 0, p, q, h => by
    have : p = q := by unfold bhn at h; cases l <;> exact Option.some.inj h
    rw [if_pos rfl]
    omega
  | [], k + 1, p, q, h => by cases h
  | a :: r, k + 1, p, q, h => by
    unfold bhn at h
    split at h
    · have := bhn_ge r _ _ _ h
      rw [if_neg (by omega)]
      split at this <;> omega
    · cases h
theorem bhn_zero {N : Nat} (l : List Nd) (p : Nat) : bhn N l 0 p = some p := by cases l <;> rfl
theorem bhn_cons {N : Nat} (a : Nd) (r : List Nd) (k p : Nat) : bhn N (a :: r) (k + 1) p = if 0 ≤ a.kids ∧ a.kids ≤ N then bhn N r (k + a.kids.toNat) (p + 1) else none := by rw [bhn]
theorem bhn_add {N : Nat} : ∀ (l : List Nd) (a b p : Nat), bhn N l (a + b) p = (bhn N l a p).bind fun q => bhn N (l.drop (q - p)) b q
  | l, 0, b, p => by rw [bhn_zero, Nat.zero_add, Option.bind_some, Nat.sub_self, List.drop_zero]
  | [], a + 1, b, p => by
    rw [show a + 1 + b = (a + b) + 1 by omega]
    rfl
  | x :: r, a + 1, b, p => by
    rw [show a + 1 + b = (a + b) + 1 by omega, bhn_cons, bhn_cons]
    split
    · rw [show a + b + x.kids.toNat = (a + x.kids.toNat) + b by omega, bhn_add r]
      cases h : bhn N r (a + x.kids.toNat) (p + 1) with
      | none => rfl
      | some q =>
        have hge := bhn_ge _ _ _ _ h
        rw [Option.bind_some, Option.bind_some, show q - p = (q - (p + 1)) + 1 by split at hge <;> omega, List.drop_succ_cons]
    · rfl
/- the place behind so many trees, one after the other -/
def itb (l : List Nd) : Nat → Int → Int
  | 0, p => p
  | k + 1, p => itb l k (bhd l p)
theorem itb_succ (l : List Nd) : ∀ (k : Nat) (p : Int), itb l (k + 1) p = bhd l (itb l k p)
  | 0, _ => rfl
  | k + 1, p => by
    show itb l (k + 1) (bhd l p) = bhd l (itb l k (bhd l p))
    exact itb_succ l k _
theorem kdsF_get (l : List Nd) : ∀ (k i : Nat) (p : Int), i < k → (kdsF l k p).getD i 0 = itb l i p
  | 0, i, p, h => by omega
  | k + 1, 0, p, _ => rfl
  | k + 1, i + 1, p, h => by
    show (kdsF l k (bhd l p)).getD i 0 = itb l i (bhd l p)
    exact kdsF_get l k i _ (by omega)
theorem bhd_nat {l : List Nd} {p q : Nat} (h : bhn l.length (l.drop p) 1 p = some q) : bhd l (p : Int) = (q : Int) := by
  unfold bhd
  rw [if_neg (by omega), Int.toNat_natCast, h]
theorem itb_bhn {l : List Nd} : ∀ (k p q : Nat), bhn l.length (l.drop p) k p = some q → itb l k (p : Int) = (q : Int)
  | 0, p, q, h => by
    rw [bhn_zero] at h
    cases h
    rfl
  | k + 1, p, q, h => by
    rw [show k + 1 = 1 + k by omega, bhn_add] at h
    cases h1 : bhn l.length (l.drop p) 1 p with
    | none => rw [h1] at h; cases h
    | some q1 =>
      rw [h1, Option.bind_some, List.drop_drop] at h
      have hge := bhn_ge _ _ _ _ h1
      rw [show p + (q1 - p) = q1 by split at hge <;> omega] at h
      show itb l k (bhd l p) = _
      rw [bhd_nat h1]
      exact itb_bhn k q1 q h
/- Behind is where the kids end -/
theorem bhd_kids {l : List Nd} {p : Int} (h : bhd l p ≠ -1) : ∃ (q0 k z : Nat), p = (q0 : Int) ∧ q0 < l.length ∧ (l.getD q0 dn).kids = (k : Int) ∧ k ≤ l.length ∧ bhd l p = (z : Int) ∧ q0 < z ∧ z ≤ l.length ∧ itb l k ((q0 : Int) + 1) = (z : Int) ∧ kds l p = kdsF l k ((q0 : Int) + 1) := by
  obtain ⟨q0, rfl, h1, h2, h3⟩ := bhd_in h
  obtain ⟨k, hk⟩ : ∃ k : Nat, (l.getD q0 dn).kids = (k : Int) := ⟨_, (Int.toNat_of_nonneg h2).symm⟩
  cases hb : bhn l.length (l.drop q0) 1 q0 with
  | none =>
    unfold bhd at h
    rw [if_neg (by omega), Int.toNat_natCast, hb] at h
    exact absurd rfl h
  | some z =>
    have hz := bhd_nat hb
    have hzl := (bhd_le l (q0 : Int)).2
    have hge := bhn_ge _ _ _ _ hb
    rw [if_neg (by decide)] at hge
    have hd : l.drop q0 = l.getD q0 dn :: l.drop (q0 + 1) := by
      rw [List.drop_eq_getElem_cons h1, List.getD_eq_getElem?_getD, List.getElem?_eq_getElem h1]
      rfl
    rw [hd, bhn_cons (k := 0), if_pos ⟨h2, by omega⟩, hk, Int.toNat_natCast, Nat.zero_add k] at hb
    refine ⟨q0, k, z, rfl, h1, hk, by omega, hz, by omega, by omega, ?_, ?_⟩
    · exact itb_bhn k (q0 + 1) z hb
    · unfold kds
      rw [if_neg h]
      show kdsF l (l.getD ((q0 : Int)).toNat dn).kids.toNat _ = _
      rw [Int.toNat_natCast, hk]
      rfl
theorem itb_le {l : List Nd} {q0 : Nat} (h : q0 < l.length) : ∀ i, itb l i ((q0 : Int) + 1) ≤ l.length
  | 0 => by show (q0 : Int) + 1 ≤ _; omega
  | i + 1 => by rw [itb_succ]; exact (bhd_le l _).2
/- what the places say: nothing -/
theorem nop_op {a b : Nd} (h : nop a = nop b) : a.op = b.op := (Nd.mk.inj h).1
theorem fits_congr {a b : Nd} (h : nop a = nop b) (ha : 0 ≤ a.pos) (hb : 0 ≤ b.pos) (k : Kd) : fits k a = fits k b := by
  have h1 : a.kind = b.kind := (Nd.mk.inj h).2.1
  have h2 : a.m = b.m := (Nd.mk.inj h).2.2.2.1
  have h3 : a.n = b.n := (Nd.mk.inj h).2.2.1
  have h4 : a.text = b.text := (Nd.mk.inj h).2.2.2.2.1
  unfold fits
  rw [h1, h2, h3, h4, decide_eq_true ha, decide_eq_true hb]
theorem mks_congr : ∀ (l l' : List Nd), l.map nop = l'.map nop → mks l = mks l'
  | [], [], _ => rfl
  | [], _ :: _, h => by cases h
  | _ :: _, [], h => by cases h
  | [a], [b], _ => rfl
  | [a], b :: c :: r, h => by simp at h
  | a :: b :: r, [c], h => by simp at h
  | a :: b :: r, a' :: b' :: r', h => by
    have h1 := mks_congr (b :: r) (b' :: r') (by simpa using (List.cons.inj h).2)
    have e1 := nop_op (List.cons.inj h).1
    have e2 := nop_op (List.cons.inj (List.cons.inj h).2).1
    rw [mks, mks, h1]
    unfold goes
    rw [e1, e2]
theorem gos_congr : ∀ (l l' : List Nd), l.map nop = l'.map nop → gos l = gos l'
  | [], [], _ => rfl
  | [], _ :: _, h => by cases h
  | _ :: _, [], h => by cases h
  | [a], [b], _ => rfl
  | [a], b :: c :: r, h => by simp at h
  | a :: b :: r, [c], h => by simp at h
  | a :: b :: r, a' :: b' :: r', h => by
    have e1 := nop_op (List.cons.inj h).1
    have e2 := nop_op (List.cons.inj (List.cons.inj h).2).1
    show goes a b = goes a' b'
    unfold goes
    rw [e1, e2]
theorem ent_congr {a b : Nd} {r r' : List Nd} (h : (a :: r).map nop = (b :: r').map nop) (ha : 0 ≤ a.pos) (hb : 0 ≤ b.pos) (x : Wt) : ent a r x = ent b r' x := by
  have h1 : nop a = nop b := (List.cons.inj h).1
  have h2 := nop_op h1
  have h3 : a.kids = b.kids := (Nd.mk.inj h1).2.2.2.2.2.2
  unfold ent
  rw [mks_congr _ _ h, gos_congr _ _ h, h2, h3, fits_congr h1 ha hb]
theorem go_congr : ∀ (l l' : List Nd) (S : List Wt) (d p : Nat), l.map nop = l'.map nop → (∀ a ∈ l, 0 ≤ a.pos) → (∀ a ∈ l', 0 ≤ a.pos) → go l S d p = go l' S d p
  | [], [], _, _, _, _, _, _ => rfl
  | [], _ :: _, _, _, _, h, _, _ => by cases h
  | _ :: _, [], _, _, _, h, _, _ => by cases h
  | a :: r, b :: r', S, d, p, h, ha, hb => by
    rw [go, go]
    cases pop S with
    | nil => rfl
    | cons x S' =>
      simp only
      rw [ent_congr h (ha a (by simp)) (hb b (by simp))]
      cases ent b r' x with
      | none => rfl
      | some q => exact go_congr r r' _ _ _ (List.cons.inj h).2 (fun c hc => ha c (by simp [hc])) (fun c hc => hb c (by simp [hc]))
/- the first i places are written over -/
def oth (l : List Nd) : Nat → List Nd
  | 0 => l
  | i + 1 => (oth l i).set i { (oth l i).getD i dn with pos := 3 * (i : Int) }
theorem oth_len (l : List Nd) : ∀ i, (oth l i).length = l.length
  | 0 => rfl
  | i + 1 => by rw [oth, List.length_set, oth_len l i]
theorem set_keep {P : Nd → Prop} {l : List Nd} {i : Nat} {y : Nd} (h : ∀ a ∈ l, P a) (hy : P y) : ∀ a ∈ l.set i y, P a := fun a ha => by
  rcases List.mem_or_eq_of_mem_set ha with h9 | h9
  · exact h a h9
  · rw [h9]; exact hy
theorem getD_mem {l : List Nd} {i : Nat} (h : i < l.length) : l.getD i dn ∈ l := by
  rw [List.getD_eq_getElem?_getD, List.getElem?_eq_getElem h]
  exact List.getElem_mem h
theorem oth_all {l : List Nd} {P : Nd → Prop} (hP : ∀ a z, P a → 0 ≤ z → P { a with pos := z }) (h : ∀ a ∈ l, P a) : ∀ i, i ≤ l.length → ∀ a ∈ oth l i, P a
  | 0, _ => h
  | i + 1, hi => by
    have h1 := oth_all hP h i (by omega)
    exact set_keep h1 (hP _ _ (h1 _ (getD_mem (by rw [oth_len]; omega))) (by omega))
theorem oth_nop (l : List Nd) : ∀ i, i ≤ l.length → (oth l i).map nop = l.map nop
  | 0, _ => rfl
  | i + 1, hi => by
    have h1 := oth_nop l i (by omega)
    rw [oth, List.map_set, ← h1]
    have hl : i < (oth l i).length := by rw [oth_len]; omega
    apply List.ext_getElem?
    intro j
    rw [List.getElem?_set]
    split
    · rename_i e
      subst e
      rw [if_pos (by simpa using hl), List.getElem?_map, List.getD_eq_getElem?_getD, List.getElem?_eq_getElem hl]
      rfl
    · rfl
theorem nvs_set (z : Int) : ∀ (l : List Nd) (i : Nat), i < l.length → nvs (l.set i { l.getD i dn with pos := z }) = (nvs l).set (i * 7 + 5) (.int .i64 z)
  | [], i, h => by simp at h
  | a :: r, 0, _ => rfl
  | a :: r, i + 1, h => by
    have h1 := nvs_set z r i (by simpa using h)
    show ndc a ++ nvs (r.set i { r.getD i dn with pos := z }) = (ndc a ++ nvs r).set ((i + 1) * 7 + 5) _
    rw [h1, List.set_append_right _ _ (by show 7 ≤ _; omega)]
    congr 2
    show _ = (i + 1) * 7 + 5 - 7
    omega
/- what a tree has -/
structure Tre (l : List Nd) : Prop where
  pos : 0 < l.length
  bhd : bhd l 0 = l.length
  cut : (wlk (l.take (l.length - 1))).2 = (l.length - 1, false)
  more : ∀ c, (wlk (l ++ [c])).2 = (l.length, false)
  oth : wlk (oth l l.length) = wlk l
  place : ∀ a ∈ l, 0 ≤ a.pos
theorem tre_of {l : List Nd} (h : (wlk l).2.2 = true) : Tre l := by
  rw [wlk_sh] at h
  have h1 := tot_le _ _ _ h
  have h2 : 0 < l.length := h1
  have h3 : ∀ a ∈ l, 0 ≤ a.pos := fun a ha => by
    have h4 := gsh_fits _ _ _ h a ha
    unfold fits at h4
    simp only [Bool.and_eq_true, decide_eq_true_eq] at h4
    exact h4.2.2.1
  refine ⟨h2, ?_, ?_, fun c => ?_, ?_, h3⟩
  · have h5 := gsh_bhn (N := l.length) l [(1, 1)] 0 0 h (Nat.le_refl _)
    have h6 : bhn l.length (l.drop 0) 1 0 = some (0 + l.length) := h5
    have := bhd_nat h6
    rw [Nat.zero_add] at this
    exact this
  · rw [wlk_sh, gsh_cut _ _ _ h (by intro e; rw [e] at h2; exact absurd h2 (by decide)), Nat.zero_add]
  · rw [wlk_sh, gsh_more _ _ _ _ h, Nat.zero_add]
  · unfold wlk
    exact go_congr _ _ _ _ _ (oth_nop l _ (Nat.le_refl _)) (oth_all (P := fun a => 0 ≤ a.pos) (fun a z _ hz => hz) h3 _ (Nat.le_refl _)) h3
end TR
end Go.Proofs.Ytgahdppcdeefaaa
