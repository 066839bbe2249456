/-
  Orders and answers, without the program: each order comes of just one list of answers.
-/
import Derived.Test.YthnpdlbcdaodkaaDoorAskD
namespace Go.Proofs.YthnpdlbcdaodkaaDoor

def Inj (l : List Nat) : Prop := ∀ a b, a < l.length → b < l.length → l.getD a 0 = l.getD b 0 → a = b
theorem swp_getD (l : List Nat) (i j k : Nat) (hi : i < l.length) (hj : j < l.length) : (swp l i j).getD k 0 = if k = j then l.getD i 0 else if k = i then l.getD j 0 else l.getD k 0 := by
  unfold swp
  by_cases hk : k < l.length
  · simp only [List.getD, List.getElem?_set]
    by_cases e1 : k = j
    · subst e1; simp [hj]
    · rw [if_neg (Ne.symm e1), if_neg e1]
      by_cases e2 : k = i
      · subst e2; simp [hi]
      · rw [if_neg (Ne.symm e2), if_neg e2]
  · rw [if_neg (by omega), if_neg (by omega)]
    simp only [List.getD]
    rw [List.getElem?_eq_none (by simp; omega), List.getElem?_eq_none (by omega)]
theorem swp_top (l : List Nat) (i j : Nat) (hi : i < l.length) (hj : j < l.length) : (swp l i j).getD i 0 = l.getD j 0 := by
  rw [swp_getD l i j i hi hj]
  split
  · rename_i e; rw [e]
  · rw [if_pos rfl]
theorem Inj.swp {l : List Nat} (h : Inj l) (i j : Nat) (hi : i < l.length) (hj : j < l.length) : Inj (swp l i j) := by
  have e : ∀ k, (Go.Proofs.YthnpdlbcdaodkaaDoor.swp l i j).getD k 0 = l.getD (if k = j then i else if k = i then j else k) 0 := by
    intro k
    rw [swp_getD l i j k hi hj]
    split
    · rfl
    · split <;> rfl
  intro a b ha hb hab
  rw [swp_len] at ha hb
  rw [e a, e b] at hab
  have hlt : ∀ k, k < l.length → (if k = j then i else if k = i then j else k) < l.length := by
    intro k hk
    split
    · exact hi
    · split
      · exact hj
      · exact hk
  have := h _ _ (hlt a ha) (hlt b hb) hab
  clear hab hlt e
  repeat' (split at this)
  all_goals omega
/- the answers gone through -/
def run : Nat → List (Int × Bool) → List Nat → Option (List Nat)
  | 0, _, l => some l
  | _ + 1, [], _ => none
  | i + 1, r :: rs, l => if right (r.1, !r.2) (i + 1) = true then run i rs (swp l (i + 1) r.1.toNat) else none
def good : Nat → List (Int × Bool) → Bool
  | 0, _ => true
  | _ + 1, [] => false
  | i + 1, r :: rs => right (r.1, !r.2) (i + 1) && good i rs
/- what is asked -/
def qsT : Nat → List (Int × Bool) → List Int
  | 0, _ => []
  | i + 1, [] => [((i + 1 : Nat) : Int) + 1]
  | i + 1, r :: rs => (((i + 1 : Nat) : Int) + 1) :: (if right (r.1, !r.2) (i + 1) = true then qsT i rs else [])
theorem right_false (x : Int) (i : Nat) : right (x, false) i = false := rfl
theorem shuf_run (rs : List (Int × Bool)) (i : Nat) : ∀ (qs : List Int) (l : List Nat), shuf (askA rs) nxtA i qs l = (run i (rs.drop qs.length) l, qs ++ qsT i (rs.drop qs.length)) := by
  induction i with
  | zero => intro qs l; rw [shuf, run, qsT, List.append_nil]
  | succ i ih =>
    intro qs l
    rw [shuf_succ]
    by_cases hlt : qs.length < rs.length
    · rw [List.drop_eq_getElem_cons hlt]
      have e : askA rs qs (i + 1) = (rs[qs.length].1, !rs[qs.length].2) := by
        unfold askA
        rw [if_pos hlt]
        simp [List.getD, hlt]
      rw [e, run, qsT]
      have hd : rs.drop (nxtA qs (i + 1)).length = rs.drop (qs.length + 1) := by
        unfold nxtA; rw [List.length_append, List.length_singleton]
      split
      · rw [ih, hd]
        unfold nxtA
        rw [List.append_assoc]; rfl
      · unfold nxtA; rfl
    · rw [List.drop_of_length_le (by omega)]
      have e : askA rs qs (i + 1) = (0, false) := by
        unfold askA
        rw [if_neg hlt]
      rw [e, run, qsT, if_neg (by rw [right_false]; decide)]
      rfl
theorem run_good (i : Nat) : ∀ (rs : List (Int × Bool)) (l : List Nat), (run i rs l).isSome = good i rs := by
  induction i with
  | zero => intro rs l; rw [run, good]; rfl
  | succ i ih =>
    intro rs l
    cases rs with
    | nil => rw [run, good]; rfl
    | cons r rs =>
      rw [run, good]
      split
      · rename_i h; rw [h, ih, Bool.true_and]
      · rename_i h
        rw [Bool.not_eq_true] at h
        rw [h]; rfl
theorem right_iff (x : Int) (o : Bool) (i : Nat) : right (x, o) i = true ↔ o = true ∧ 0 ≤ x ∧ x ≤ (i : Int) := by
  simp [right]
theorem right_le {r : Int × Bool} {i : Nat} (h : right (r.1, !r.2) i = true) : r.1.toNat ≤ i := by
  have := ((right_iff _ _ _).1 h).2; omega
theorem run_len (i : Nat) : ∀ (rs : List (Int × Bool)) (l l' : List Nat), run i rs l = some l' → l'.length = l.length := by
  induction i with
  | zero => intro rs l l' h; rw [run] at h; cases h; rfl
  | succ i ih =>
    intro rs l l' h
    cases rs with
    | nil => rw [run] at h; cases h
    | cons r rs =>
      rw [run] at h
      split at h
      · rw [ih _ _ _ h, swp_len]
      · cases h
/- above the place i nothing moves -/
theorem run_above (i : Nat) : ∀ (rs : List (Int × Bool)) (l l' : List Nat), i < l.length → run i rs l = some l' → ∀ k, i < k → l'.getD k 0 = l.getD k 0 := by
  induction i with
  | zero => intro rs l l' _ h k hk; rw [run] at h; cases h; rfl
  | succ i ih =>
    intro rs l l' hi h k hk
    cases rs with
    | nil => rw [run] at h; cases h
    | cons r rs =>
      rw [run] at h
      split at h
      · rename_i hr
        have hle := right_le hr
        rw [ih _ _ _ (by rw [swp_len]; omega) h k (by omega), swp_getD _ _ _ _ hi (by omega), if_neg (by omega), if_neg (by omega)]
      · cases h
/- one answer turned: another order, or none -/
theorem run_turned (i : Nat) : ∀ (k : Nat) (rs : List (Int × Bool)) (l t : List Nat) (x : Int), i < l.length → Inj l → run i rs l = some t → k < i → k < rs.length → (rs.getD k (0, true)).1 ≠ x → (rs.getD k (0, true)).2 = false →
    ((run i (rs.set k (x, false)) l).isSome = (decide (0 ≤ x) && decide (x ≤ ((i - k : Nat) : Int)))) ∧ run i (rs.set k (x, false)) l ≠ some t := by
  induction i with
  | zero => intro k rs l t x _ _ _ hk; omega
  | succ i ih =>
    intro k rs l t x hi hin h hk hkr hne hb
    cases rs with
    | nil => simp at hkr
    | cons r rs =>
      rw [run] at h
      split at h
      · rename_i hr
        have hle := right_le hr
        cases k with
        | zero =>
          have hg : good i rs = true := by rw [← run_good i rs (swp l (i + 1) r.1.toNat), h]; rfl
          show ((run (i + 1) ((x, false) :: rs) l).isSome = _) ∧ run (i + 1) ((x, false) :: rs) l ≠ some t
          rw [run]
          have hne' : r.1 ≠ x := hne
          by_cases hx : right (x, !false) (i + 1) = true
          · have hx2 := ((right_iff _ _ _).1 hx).2
            have hxl : x.toNat ≤ i + 1 := by omega
            rw [if_pos hx]
            refine ⟨?_, fun e => ?_⟩
            · rw [run_good, hg]
              rw [decide_eq_true hx2.1, decide_eq_true (show x ≤ ((i + 1 - 0 : Nat) : Int) from hx2.2)]; rfl
            · have a1 := run_above i _ _ _ (by rw [swp_len]; omega) e (i + 1) (by omega)
              have a2 := run_above i _ _ _ (by rw [swp_len]; omega) h (i + 1) (by omega)
              rw [a1, swp_top _ _ _ hi (show x.toNat < l.length by omega), swp_top _ _ _ hi (by omega)] at a2
              have hr2 := ((right_iff _ _ _).1 hr).2
              have := hin _ _ (show x.toNat < l.length by omega) (by omega) a2
              omega
          · rw [if_neg hx]
            refine ⟨?_, fun e => by cases e⟩
            have : ¬ (0 ≤ x ∧ x ≤ ((i + 1 : Nat) : Int)) := fun hh => hx ((right_iff _ _ _).2 ⟨rfl, hh⟩)
            show false = _
            symm
            rw [Bool.and_eq_false_iff, decide_eq_false_iff_not, decide_eq_false_iff_not]
            by_cases h0 : 0 ≤ x
            · exact .inr (fun h2 => this ⟨h0, h2⟩)
            · exact .inl h0
        | succ k =>
          show ((run (i + 1) (r :: rs.set k (x, false)) l).isSome = _) ∧ run (i + 1) (r :: rs.set k (x, false)) l ≠ some t
          rw [run, if_pos hr]
          have := ih k rs _ t x (by rw [swp_len]; omega) (hin.swp (i + 1) r.1.toNat hi (by omega)) h (by omega) (by simpa using hkr) hne hb
          rw [show i + 1 - (k + 1) = i - k by omega]
          exact this
      · cases h
/- the answers by which an order comes, reckoned back -/
def seek (l : List Nat) (x : Nat) : Nat → Nat → Nat
  | 0, j => j
  | m + 1, j => if l.getD j 0 = x then j else seek l x m (j + 1)
def ansP : Nat → List Nat → List Nat → List (Int × Bool)
  | 0, _, _ => []
  | i + 1, l, t => (((seek l (t.getD (i + 1) 0) (i + 1) 0 : Nat) : Int), false) :: ansP i (swp l (i + 1) (seek l (t.getD (i + 1) 0) (i + 1) 0)) t
theorem seek_le (l : List Nat) (x : Nat) (m : Nat) : ∀ j, seek l x m j ≤ j + m := by
  induction m with
  | zero => intro j; rw [seek]; omega
  | succ m ih => intro j; rw [seek]; split; omega; have := ih (j + 1); omega
theorem seek_at (l : List Nat) (x : Nat) (m : Nat) : ∀ j, (∃ b, j ≤ b ∧ b ≤ j + m ∧ l.getD b 0 = x) → l.getD (seek l x m j) 0 = x := by
  induction m with
  | zero => rintro j ⟨b, h1, h2, h3⟩; rw [seek]; rw [show j = b by omega]; exact h3
  | succ m ih =>
    rintro j ⟨b, h1, h2, h3⟩
    rw [seek]
    split
    · assumption
    · rename_i hne
      refine ih (j + 1) ⟨b, ?_, by omega, h3⟩
      by_cases e : b = j
      · subst e; exact absurd h3 hne
      · omega
theorem ansP_len (i : Nat) : ∀ l t, (ansP i l t).length = i := by
  induction i with
  | zero => intro l t; rw [ansP]; rfl
  | succ i ih => intro l t; rw [ansP, List.length_cons, ih]
theorem ansP_false (i : Nat) : ∀ l t, ∀ r ∈ ansP i l t, r.2 = false := by
  induction i with
  | zero => intro l t r hr; rw [ansP] at hr; cases hr
  | succ i ih =>
    intro l t r hr
    rw [ansP] at hr
    rcases List.mem_cons.1 hr with rfl | h
    · rfl
    · exact ih _ _ r h
theorem ansP_run (i : Nat) : ∀ (l t : List Nat), i < l.length → l.length = t.length → Inj t → (∀ a, a < t.length → ∃ b, b < l.length ∧ l.getD b 0 = t.getD a 0) → (∀ k, i < k → k < l.length → l.getD k 0 = t.getD k 0) →
    run i (ansP i l t) l = some t ∧ qsT i (ansP i l t) = (List.range i).map (fun k => ((i - k : Nat) : Int) + 1) := by
  induction i with
  | zero =>
    intro l t hi hlt hin hsur hab
    rw [run, ansP, qsT]
    refine ⟨?_, rfl⟩
    congr 1
    have : ∀ k, k < l.length → l.getD k 0 = t.getD k 0 := by
      intro k hk
      by_cases e : k = 0
      · subst e
        obtain ⟨b, hb, hb2⟩ := hsur 0 (by omega)
        by_cases e2 : b = 0
        · subst e2; exact hb2
        · have := hab b (by omega) hb
          rw [this] at hb2
          exact absurd (hin b 0 (by omega) (by omega) hb2) e2
      · exact hab k (by omega) hk
    apply List.ext_getElem hlt
    intro k h1 h2
    have := this k h1
    simpa [List.getD, h1, h2] using this
  | succ i ih =>
    intro l t hi hlt hin hsur hab
    obtain ⟨j, hj⟩ : ∃ j, j = seek l (t.getD (i + 1) 0) (i + 1) 0 := ⟨_, rfl⟩
    have hjle : j ≤ i + 1 := by have := seek_le l (t.getD (i + 1) 0) (i + 1) 0; omega
    have hjat : l.getD j 0 = t.getD (i + 1) 0 := by
      rw [hj]
      apply seek_at
      obtain ⟨b, hb, hb2⟩ := hsur (i + 1) (by omega)
      refine ⟨b, by omega, ?_, hb2⟩
      apply Classical.byContradiction
      intro hgt
      have := hab b (by omega) hb
      rw [this] at hb2
      have := hin b (i + 1) (by omega) (by omega) hb2
      omega
    rw [ansP, ← hj, run, qsT]
    have hr : right ((j : Int), !false) (i + 1) = true := (right_iff _ _ _).2 ⟨rfl, by omega, by omega⟩
    rw [if_pos hr, if_pos hr]
    have hjl : j < l.length := by omega
    have := ih (swp l (i + 1) j) t (by rw [swp_len]; omega) (by rw [swp_len]; exact hlt) hin ?_ ?_
    · rw [show ((j : Int)).toNat = j by omega]
      refine ⟨this.1, ?_⟩
      rw [this.2, List.range_succ_eq_map, List.map_cons, List.map_map]
      congr 1
      apply List.map_congr_left
      intro k _
      show ((i - k : Nat) : Int) + 1 = ((i + 1 - (k + 1) : Nat) : Int) + 1
      rw [show i + 1 - (k + 1) = i - k by omega]
    · intro a ha
      obtain ⟨b, hb, hb2⟩ := hsur a ha
      rw [swp_len]
      by_cases e1 : b = j
      · refine ⟨i + 1, hi, ?_⟩
        rw [swp_getD _ _ _ _ hi hjl]
        subst e1
        split
        · rename_i e; rw [e]; exact hb2
        · rw [if_pos rfl]; exact hb2
      · by_cases e2 : b = i + 1
        · refine ⟨j, hjl, ?_⟩
          rw [swp_getD _ _ _ _ hi hjl, if_pos rfl, ← e2]; exact hb2
        · refine ⟨b, hb, ?_⟩
          rw [swp_getD _ _ _ _ hi hjl, if_neg e1, if_neg e2]; exact hb2
    · intro k hk hkl
      rw [swp_len] at hkl
      rw [swp_getD _ _ _ _ hi hjl]
      by_cases e : k = i + 1
      · subst e
        split
        · rename_i e; rw [e] at hjat ⊢; exact hjat
        · rw [if_pos rfl]; exact hjat
      · rw [if_neg (by omega), if_neg e]
        exact hab k (by omega) hkl
end Go.Proofs.YthnpdlbcdaodkaaDoor
