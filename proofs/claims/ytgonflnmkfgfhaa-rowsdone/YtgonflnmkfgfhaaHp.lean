
/-
  A heap as a list, no program: an entry rises, an entry sinks; the first one goes ahead of all.
-/
namespace Go.Proofs.Ytgonflnmkfgfhaa

section
variable {E : Type} (d : E) (ah : E → E → Bool)
/- an order: what is not ahead -/
def WeakO : Prop := (∀ a b, ah a b = true → ah b a = false) ∧ ∀ a b c, ah b a = false → ah c b = false → ah c a = false
def xch (l : List E) (i j : Nat) : List E := (l.set i (l.getD j d)).set j (l.getD i d)
theorem xch_len (l : List E) (i j : Nat) : (xch d l i j).length = l.length := by simp [xch]
theorem xch_get (l : List E) (i j k : Nat) (hi : i < l.length) (hj : j < l.length) : (xch d l i j).getD k d = if k = j then l.getD i d else if k = i then l.getD j d else l.getD k d := by
  unfold xch
  by_cases e1 : k = j
  · subst e1; simp [List.getD, hj, hi]
  · rw [if_neg e1]
    by_cases e2 : k = i
    · subst e2; simp [List.getD, hj, hi, Ne.symm e1]
    · rw [if_neg e2]; simp [List.getD, Ne.symm e1, Ne.symm e2]
theorem xch_perm (l : List E) (i j : Nat) (hi : i < l.length) (hj : j < l.length) : (xch d l i j).Perm l := by
  unfold xch
  simp only [List.getD, List.getElem?_eq_getElem hi, List.getElem?_eq_getElem hj, Option.getD_some]
  exact List.set_set_perm hi hj
def rise : Nat → List E → Nat → List E
  | 0, l, _ => l
  | f + 1, l, at_ => if at_ = 0 then l else if ah (l.getD at_ d) (l.getD ((at_ - 1) / 2) d) = true then rise f (xch d l at_ ((at_ - 1) / 2)) ((at_ - 1) / 2) else l
def below (l : List E) (at_ : Nat) : Nat := if 2 * at_ + 2 < l.length ∧ ah (l.getD (2 * at_ + 2) d) (l.getD (2 * at_ + 1) d) = true then 2 * at_ + 2 else 2 * at_ + 1
def sink : Nat → List E → Nat → List E
  | 0, l, _ => l
  | f + 1, l, at_ => if 2 * at_ + 1 < l.length then (if ah (l.getD (below d ah l at_) d) (l.getD at_ d) = true then sink f (xch d l at_ (below d ah l at_)) (below d ah l at_) else l) else l
theorem rise_zero (f : Nat) (l : List E) : rise d ah f l 0 = l := by cases f <;> simp [rise]
theorem rise_stop (f : Nat) (l : List E) (k : Nat) (h : ah (l.getD k d) (l.getD ((k - 1) / 2) d) = false) : rise d ah f l k = l := by
  cases f with
  | zero => rfl
  | succ f => rw [rise]; split; rfl; rw [if_neg (by simpa using h)]
theorem rise_go (f : Nat) (l : List E) (k : Nat) (hk : 0 < k) (h : ah (l.getD k d) (l.getD ((k - 1) / 2) d) = true) : rise d ah (f + 1) l k = rise d ah f (xch d l k ((k - 1) / 2)) ((k - 1) / 2) := by
  rw [rise, if_neg (by omega), if_pos h]
theorem sink_end (f : Nat) (l : List E) (k : Nat) (h : l.length ≤ 2 * k + 1) : sink d ah f l k = l := by
  cases f with
  | zero => rfl
  | succ f => rw [sink, if_neg (by omega)]
theorem sink_stop (f : Nat) (l : List E) (k : Nat) (h : ah (l.getD (below d ah l k) d) (l.getD k d) = false) : sink d ah f l k = l := by
  cases f with
  | zero => rfl
  | succ f => rw [sink]; split; rw [if_neg (by simpa using h)]; rfl
theorem sink_go (f : Nat) (l : List E) (k : Nat) (hk : 2 * k + 1 < l.length) (h : ah (l.getD (below d ah l k) d) (l.getD k d) = true) : sink d ah (f + 1) l k = sink d ah f (xch d l k (below d ah l k)) (below d ah l k) := by
  rw [sink, if_pos hk, if_pos h]
theorem below_lt (l : List E) (k : Nat) (hk : 2 * k + 1 < l.length) : below d ah l k < l.length ∧ k < below d ah l k ∧ (below d ah l k - 1) / 2 = k := by
  unfold below; split <;> omega
def IsHeap (l : List E) : Prop := ∀ i, 0 < i → i < l.length → ah (l.getD i d) (l.getD ((i - 1) / 2) d) = false
/- all is right but for the one at k, that may go up -/
def UpH (l : List E) (k : Nat) : Prop := (∀ i, 0 < i → i < l.length → i ≠ k → ah (l.getD i d) (l.getD ((i - 1) / 2) d) = false) ∧ ∀ i, 0 < i → i < l.length → (i - 1) / 2 = k → 0 < k → ah (l.getD i d) (l.getD ((k - 1) / 2) d) = false
/- all is right but for the one at k, that may go down -/
def DnH (l : List E) (k : Nat) : Prop := (∀ i, 0 < i → i < l.length → (i - 1) / 2 ≠ k → ah (l.getD i d) (l.getD ((i - 1) / 2) d) = false) ∧ ∀ i, 0 < i → i < l.length → (i - 1) / 2 = k → 0 < k → ah (l.getD i d) (l.getD ((k - 1) / 2) d) = false
variable {ah}
theorem WeakO.irr (h : WeakO ah) (a : E) : ah a a = false := by
  cases e : ah a a
  · rfl
  · have := h.1 a a e; rw [e] at this; exact this
theorem rise_heap (hw : WeakO ah) : ∀ (f : Nat) (l : List E) (k : Nat), k < l.length → k ≤ f → UpH d ah l k → IsHeap d ah (rise d ah f l k) ∧ (rise d ah f l k).Perm l
  | 0, l, k, hk, hf, h => by
    obtain rfl : k = 0 := by omega
    refine ⟨fun i h1 h2 => h.1 i h1 h2 (by omega), List.Perm.refl _⟩
  | f + 1, l, k, hk, hf, h => by
    by_cases h0 : k = 0
    · subst h0
      rw [rise_zero]
      exact ⟨fun i h1 h2 => h.1 i h1 h2 (by omega), List.Perm.refl _⟩
    · cases hc : ah (l.getD k d) (l.getD ((k - 1) / 2) d)
      · rw [rise_stop d ah (f + 1) l k hc]
        refine ⟨fun i h1 h2 => ?_, List.Perm.refl _⟩
        by_cases e : i = k
        · subst e; exact hc
        · exact h.1 i h1 h2 e
      · rw [rise_go d ah f l k (by omega) hc]
        have hp : (k - 1) / 2 < l.length := by omega
        have ih := rise_heap hw f (xch d l k ((k - 1) / 2)) ((k - 1) / 2) (by rw [xch_len]; exact hp) (by omega) ?_
        · exact ⟨ih.1, ih.2.trans (xch_perm d l k _ hk hp)⟩
        · have hpk : (k - 1) / 2 ≠ k := by omega
          refine ⟨fun i h1 h2 h3 => ?_, fun i h1 h2 h3 h4 => ?_⟩
          · rw [xch_len] at h2
            rw [xch_get d l k _ _ hk hp, xch_get d l k _ _ hk hp, if_neg h3]
            by_cases e : i = k
            · subst e
              rw [if_pos rfl, if_pos rfl]
              exact hw.1 _ _ hc
            · rw [if_neg e]
              by_cases e2 : (i - 1) / 2 = (k - 1) / 2
              · rw [if_pos e2]
                have a1 := h.1 i h1 h2 e
                rw [e2] at a1
                exact hw.2 _ _ _ (hw.1 _ _ hc) a1
              · rw [if_neg e2]
                by_cases e3 : (i - 1) / 2 = k
                · rw [if_pos e3]
                  exact h.2 i h1 h2 e3 (by omega)
                · rw [if_neg e3]
                  exact h.1 i h1 h2 e
          · rw [xch_len] at h2
            rw [xch_get d l k _ _ hk hp, xch_get d l k _ _ hk hp, if_neg (by omega), if_neg (show ¬ ((k - 1) / 2 - 1) / 2 = (k - 1) / 2 by omega), if_neg (show ¬ ((k - 1) / 2 - 1) / 2 = k by omega)]
            have a2 := h.1 ((k - 1) / 2) h4 hp hpk
            by_cases e : i = k
            · rw [if_pos e]
              exact a2
            · rw [if_neg e]
              have a1 := h.1 i h1 h2 e
              rw [h3] at a1
              exact hw.2 _ _ _ a2 a1
theorem below_min (hw : WeakO ah) (l : List E) (k i : Nat) (h1 : 0 < i) (h2 : i < l.length) (h3 : (i - 1) / 2 = k) : ah (l.getD i d) (l.getD (below d ah l k) d) = false := by
  unfold below
  have hi : i = 2 * k + 1 ∨ i = 2 * k + 2 := by omega
  by_cases hc : 2 * k + 2 < l.length ∧ ah (l.getD (2 * k + 2) d) (l.getD (2 * k + 1) d) = true
  · rw [if_pos hc]
    rcases hi with rfl | rfl
    · exact hw.1 _ _ hc.2
    · exact hw.irr _
  · rw [if_neg hc]
    rcases hi with rfl | rfl
    · exact hw.irr _
    · rw [not_and, Bool.not_eq_true] at hc
      exact hc h2
theorem sink_heap (hw : WeakO ah) : ∀ (f : Nat) (l : List E) (k : Nat), l.length ≤ f + k + 1 → DnH d ah l k → IsHeap d ah (sink d ah f l k) ∧ (sink d ah f l k).Perm l
  | f, l, k, hf, h => by
    by_cases h0 : 2 * k + 1 < l.length
    · cases hc : ah (l.getD (below d ah l k) d) (l.getD k d)
      · rw [sink_stop d ah f l k hc]
        refine ⟨fun i h1 h2 => ?_, List.Perm.refl _⟩
        by_cases e : (i - 1) / 2 = k
        · rw [e]
          exact hw.2 _ _ _ hc (below_min d hw l k i h1 h2 e)
        · exact h.1 i h1 h2 e
      · obtain ⟨g, rfl⟩ : ∃ g, f = g + 1 := ⟨f - 1, by omega⟩
        rw [sink_go d ah g l k h0 hc]
        obtain ⟨b1, b2, b3⟩ := below_lt d ah l k h0
        have hm := below_min d hw l k
        generalize below d ah l k = b at *
        have hk : k < l.length := by omega
        have ih := sink_heap hw g (xch d l k b) b (by rw [xch_len]; omega) ?_
        · exact ⟨ih.1, ih.2.trans (xch_perm d l k _ hk b1)⟩
        · refine ⟨fun i h1 h2 h3 => ?_, fun i h1 h2 h3 h4 => ?_⟩
          · rw [xch_len] at h2
            rw [xch_get d l k _ _ hk b1, xch_get d l k _ _ hk b1, if_neg h3]
            by_cases e : i = b
            · subst e
              rw [if_pos rfl, if_pos b3]
              exact hw.1 _ _ hc
            · rw [if_neg e]
              by_cases e2 : (i - 1) / 2 = k
              · rw [if_pos e2, if_neg (show ¬ i = k by omega)]
                exact hm i h1 h2 e2
              · rw [if_neg e2]
                by_cases e3 : i = k
                · subst e3
                  rw [if_pos rfl]
                  exact h.2 b (by omega) b1 b3 h1
                · rw [if_neg e3]
                  exact h.1 i h1 h2 e2
          · rw [xch_len] at h2
            rw [xch_get d l k _ _ hk b1, xch_get d l k _ _ hk b1, if_neg (show ¬ i = b by omega), if_neg (show ¬ i = k by omega), b3, if_neg (show ¬ k = b by omega), if_pos rfl]
            have := h.1 i h1 h2 (by omega)
            rw [h3] at this
            exact this
    · rw [sink_end d ah f l k (by omega)]
      refine ⟨fun i h1 h2 => ?_, List.Perm.refl _⟩
      exact h.1 i h1 h2 (by omega)
theorem heap_first (hw : WeakO ah) (l : List E) (h : IsHeap d ah l) : ∀ i, i < l.length → ah (l.getD i d) (l.getD 0 d) = false := by
  intro i
  induction i using Nat.strongRecOn with
  | ind i ih =>
    intro hi
    by_cases h0 : i = 0
    · subst h0; exact hw.irr _
    · exact hw.2 _ _ _ (ih ((i - 1) / 2) (by omega) (by omega)) (h i (by omega) hi)
/- one more, put behind the others -/
theorem put_heap (hw : WeakO ah) (l : List E) (x : E) (h : IsHeap d ah l) : IsHeap d ah (rise d ah l.length (l ++ [x]) l.length) ∧ (rise d ah l.length (l ++ [x]) l.length).Perm (l ++ [x]) := by
  refine rise_heap d hw _ _ _ (by simp) (Nat.le_refl _) ⟨fun i h1 h2 h3 => ?_, fun i h1 h2 h3 => ?_⟩
  · have hi : i < l.length := by simp at h2; omega
    have := h i h1 hi
    simpa [List.getD, List.getElem?_append_left hi, List.getElem?_append_left (show (i - 1) / 2 < l.length by omega)] using this
  · simp at h2; omega
/- the first one taken out, the last one in its place -/
def lessOne (l : List E) : List E := (l.set 0 (l.getD (l.length - 1) d)).take (l.length - 1)
theorem lessOne_perm (l : List E) (h : l ≠ []) : (l.getD 0 d :: lessOne d l).Perm l := by
  unfold lessOne
  cases l with
  | nil => exact absurd rfl h
  | cons x xs =>
    rcases List.eq_nil_or_concat xs with rfl | ⟨ys, y, rfl⟩
    · simp
    · have e : ((x :: (ys ++ [y])).set 0 ((x :: (ys ++ [y])).getD ((x :: (ys ++ [y])).length - 1) d)).take ((x :: (ys ++ [y])).length - 1) = y :: ys := by
        simp [List.getD]
      simp only [List.concat_eq_append]
      rw [e]
      show (x :: y :: ys).Perm (x :: (ys ++ [y]))
      exact List.Perm.cons _ (List.perm_append_comm (l₁ := [y]) (l₂ := ys))
theorem lessOne_len (l : List E) : (lessOne d l).length = l.length - 1 := by
  unfold lessOne; rw [List.length_take, List.length_set]; omega
theorem lessOne_get (l : List E) (i : Nat) (h : i < l.length - 1) : (lessOne d l).getD i d = if i = 0 then l.getD (l.length - 1) d else l.getD i d := by
  unfold lessOne
  by_cases e : i = 0
  · subst e; simp [List.getD, h]
  · rw [if_neg e]; simp [List.getD, h, Ne.symm e, show i < l.length by omega]
theorem take_heap (hw : WeakO ah) (l : List E) (h : IsHeap d ah l) (hl : l ≠ []) (f : Nat) (hf : l.length ≤ f + 2) : IsHeap d ah (sink d ah f (lessOne d l) 0) ∧ (l.getD 0 d :: sink d ah f (lessOne d l) 0).Perm l := by
  have hs := sink_heap d hw f (lessOne d l) 0 (by rw [lessOne_len]; omega) ⟨fun i h1 h2 h3 => ?_, fun i h1 h2 h3 h4 => by omega⟩
  · exact ⟨hs.1, (List.Perm.cons _ hs.2).trans (lessOne_perm d l hl)⟩
  · rw [lessOne_len] at h2
    rw [lessOne_get d l i h2, lessOne_get d l _ (by omega), if_neg (by omega), if_neg h3]
    exact h i h1 (by omega)
end
/- things by rank, and when they came -/
section
variable {X : Type} (rk : X → Int)
def ahd (a b : X × Nat) : Bool := decide (rk a.1 < rk b.1 ∨ (rk a.1 = rk b.1 ∧ a.2 < b.2))
theorem ahd_weak : WeakO (ahd rk) := by
  refine ⟨fun a b h => ?_, fun a b c h1 h2 => ?_⟩
  · unfold ahd at *; rw [decide_eq_true_eq] at h; rw [decide_eq_false_iff_not]; omega
  · unfold ahd at *; rw [decide_eq_false_iff_not] at *; omega
theorem ahd_lt (a b : X × Nat) (h : a.2 < b.2) : ahd rk a b = !decide (rk b.1 < rk a.1) := by
  unfold ahd
  by_cases h1 : rk b.1 < rk a.1
  · rw [decide_eq_true h1, decide_eq_false (by omega)]; rfl
  · rw [decide_eq_false h1, decide_eq_true (by omega)]; rfl
theorem ahd_ge (a b : X × Nat) (h : ¬ a.2 < b.2) : ahd rk a b = decide (rk a.1 < rk b.1) := by
  unfold ahd
  by_cases h1 : rk a.1 < rk b.1
  · rw [decide_eq_true h1, decide_eq_true (by omega)]
  · rw [decide_eq_false h1, decide_eq_false (by omega)]
/- the first of the least ones, at k or behind, the best so far at b -/
def lst (dx : X) (l : List X) : Nat → Nat → Nat → Nat
  | 0, _, b => b
  | f + 1, k, b => lst dx l f (k + 1) (if rk (l.getD k dx) < rk (l.getD b dx) then k else b)
def least (dx : X) (l : List X) : Nat := lst rk dx l (l.length - 1) 1 0
theorem lst_spec (dx : X) (l : List X) : ∀ f k b, b < k → (∀ j, j < k → rk (l.getD b dx) ≤ rk (l.getD j dx)) → (∀ j, j < b → rk (l.getD b dx) < rk (l.getD j dx)) →
    lst rk dx l f k b < k + f ∧ (∀ j, j < k + f → rk (l.getD (lst rk dx l f k b) dx) ≤ rk (l.getD j dx)) ∧ ∀ j, j < lst rk dx l f k b → rk (l.getD (lst rk dx l f k b) dx) < rk (l.getD j dx)
  | 0, k, b, hb, h1, h2 => ⟨hb, h1, h2⟩
  | f + 1, k, b, hb, h1, h2 => by
    rw [lst]
    by_cases hc : rk (l.getD k dx) < rk (l.getD b dx)
    · rw [if_pos hc]
      have ih := lst_spec dx l f (k + 1) k (by omega) (fun j hj => by
        by_cases e : j = k
        · subst e; omega
        · have := h1 j (by omega); omega) (fun j hj => by have := h1 j hj; omega)
      rw [show k + (f + 1) = k + 1 + f by omega]
      exact ih
    · rw [if_neg hc]
      have ih := lst_spec dx l f (k + 1) b (by omega) (fun j hj => by
        by_cases e : j = k
        · subst e; omega
        · exact h1 j (by omega)) h2
      rw [show k + (f + 1) = k + 1 + f by omega]
      exact ih
theorem least_spec (dx : X) (l : List X) (h : l ≠ []) : least rk dx l < l.length ∧ (∀ j, j < l.length → rk (l.getD (least rk dx l) dx) ≤ rk (l.getD j dx)) ∧ ∀ j, j < least rk dx l → rk (l.getD (least rk dx l) dx) < rk (l.getD j dx) := by
  have hl : 0 < l.length := List.length_pos_iff.2 h
  have := lst_spec rk dx l (l.length - 1) 1 0 (by omega) (fun j hj => by
    have e : j = 0 := by omega
    rw [e]; exact Int.le_refl _) (fun j hj => by omega)
  rw [show 1 + (l.length - 1) = l.length by omega] at this
  exact this
theorem least_eq (dx : X) (l : List X) (m : Nat) (hm : m < l.length) (h1 : ∀ j, j < l.length → rk (l.getD m dx) ≤ rk (l.getD j dx)) (h2 : ∀ j, j < m → rk (l.getD m dx) < rk (l.getD j dx)) : least rk dx l = m := by
  obtain ⟨a1, a2, a3⟩ := least_spec rk dx l (by intro e; subst e; simp at hm)
  have b1 := h1 _ a1
  have b2 := a2 m hm
  by_cases c1 : least rk dx l < m
  · have := h2 _ c1; omega
  · by_cases c2 : m < least rk dx l
    · have := a3 _ c2; omega
    · omega
/- the entries es hold the things L, that came in that order -/
def Rep (dx : X) (L : List X) (t : Nat) (es : List (X × Nat)) : Prop :=
  IsHeap (dx, 0) (ahd rk) es ∧ ∃ ts : List Nat, ts.length = L.length ∧ (∀ i j, i < j → j < ts.length → ts.getD i 0 < ts.getD j 0) ∧ (∀ x ∈ ts, x < t) ∧ es.Perm (L.zip ts)
theorem Rep.len {dx : X} {L : List X} {t : Nat} {es : List (X × Nat)} (h : Rep rk dx L t es) : es.length = L.length := by
  obtain ⟨_, ts, h1, _, _, h2⟩ := h
  rw [h2.length_eq, List.length_zip, h1]; omega
theorem Rep.nil (dx : X) (t : Nat) : Rep rk dx [] t [] := ⟨fun i _ h => by simp at h, [], rfl, fun i j _ h => by simp at h, fun x h => by simp at h, List.Perm.refl _⟩
theorem Rep.put {dx : X} {L : List X} {t : Nat} {es : List (X × Nat)} (h : Rep rk dx L t es) (x : X) : Rep rk dx (L ++ [x]) (t + 1) (rise (dx, 0) (ahd rk) es.length (es ++ [(x, t)]) es.length) := by
  obtain ⟨h0, ts, h1, h2, h3, h4⟩ := h
  obtain ⟨p1, p2⟩ := put_heap (dx, 0) (ahd_weak rk) es (x, t) h0
  refine ⟨p1, ts ++ [t], by simp [h1], fun i j hij hj => ?_, fun y hy => ?_, ?_⟩
  · rw [List.length_append, List.length_singleton] at hj
    by_cases e : j < ts.length
    · have := h2 i j hij e
      simpa [List.getD, List.getElem?_append_left e, List.getElem?_append_left (show i < ts.length by omega)] using this
    · obtain rfl : j = ts.length := by omega
      have hi : i < ts.length := hij
      have := h3 (ts.getD i 0) (by rw [List.getD_eq_getElem?_getD, List.getElem?_eq_getElem hi]; exact List.getElem_mem _)
      simpa [List.getD, List.getElem?_append_left hi] using this
  · rcases List.mem_append.1 hy with h | h
    · have := h3 y h; omega
    · simp at h; omega
  · rw [List.zip_append h1.symm]
    exact p2.trans (List.Perm.append_right _ h4)
theorem zip_erase {A B : Type} : ∀ (l : List A) (m : List B) (k : Nat), (l.zip m).eraseIdx k = (l.eraseIdx k).zip (m.eraseIdx k)
  | [], m, k => by simp
  | _ :: _, [], k => by cases k <;> simp
  | _ :: l, _ :: m, 0 => by simp
  | _ :: l, _ :: m, k + 1 => by simp [zip_erase l m k]
theorem perm_erase {A : Type} : ∀ (l : List A) (k : Nat) (h : k < l.length), (l[k] :: l.eraseIdx k).Perm l
  | x :: l, 0, h => by simp
  | x :: l, k + 1, h => by
    have ih := perm_erase l k (by simpa using h)
    simp only [List.getElem_cons_succ, List.eraseIdx_cons_succ]
    exact (List.Perm.swap x _ _).trans (List.Perm.cons x ih)
theorem Rep.take {dx : X} {L : List X} {t : Nat} {es : List (X × Nat)} (h : Rep rk dx L t es) (hL : L ≠ []) (f : Nat) (hf : es.length ≤ f + 2) :
    (es.getD 0 (dx, 0)).1 = L.getD (least rk dx L) dx ∧ Rep rk dx (L.eraseIdx (least rk dx L)) t (sink (dx, 0) (ahd rk) f (lessOne (dx, 0) es) 0) := by
  have hlen := h.len
  obtain ⟨h0, ts, h1, h2, h3, h4⟩ := h
  have hLp : 0 < L.length := List.length_pos_iff.2 hL
  have hes : es ≠ [] := by intro e; subst e; simp at hlen; omega
  obtain ⟨p1, p2⟩ := take_heap (dx, 0) (ahd_weak rk) es h0 hes f hf
  obtain ⟨m1, m2, m3⟩ := least_spec rk dx L hL
  have hfst := heap_first (dx, 0) (ahd_weak rk) es h0
  generalize least rk dx L = m at *
  -- the entry at m is in es
  have hz : (L.zip ts).length = L.length := by rw [List.length_zip, h1]; omega
  have hmz : m < (L.zip ts).length := by omega
  have hem : (L.zip ts)[m] ∈ es := h4.symm.subset (List.getElem_mem hmz)
  obtain ⟨q, hq, heq⟩ := List.getElem_of_mem hem
  have hq0 := hfst q hq
  have h0m : es.getD 0 (dx, 0) ∈ L.zip ts := by
    apply h4.subset
    rw [List.getD_eq_getElem?_getD, List.getElem?_eq_getElem (by omega)]
    exact List.getElem_mem _
  obtain ⟨i, hi, hei⟩ := List.getElem_of_mem h0m
  have hiL : i < L.length := by omega
  have hmm : i = m := by
    rw [← hei] at hq0
    rw [List.getD_eq_getElem?_getD, List.getElem?_eq_getElem hq, Option.getD_some, heq] at hq0
    unfold ahd at hq0
    rw [decide_eq_false_iff_not] at hq0
    simp only [List.getElem_zip] at hq0
    have e1 := m2 i hiL
    have e2 : i < m → rk (L.getD m dx) < rk (L.getD i dx) := m3 i
    rw [List.getD_eq_getElem?_getD, List.getD_eq_getElem?_getD, List.getElem?_eq_getElem m1, List.getElem?_eq_getElem hiL, Option.getD_some, Option.getD_some] at e1
    rw [List.getD_eq_getElem?_getD, List.getD_eq_getElem?_getD, List.getElem?_eq_getElem m1, List.getElem?_eq_getElem hiL, Option.getD_some, Option.getD_some] at e2
    by_cases c1 : i < m
    · have := e2 c1; omega
    · by_cases c2 : m < i
      · have := h2 m i c2 (by omega)
        rw [List.getD_eq_getElem?_getD, List.getD_eq_getElem?_getD, List.getElem?_eq_getElem (show m < ts.length by omega), List.getElem?_eq_getElem (show i < ts.length by omega), Option.getD_some, Option.getD_some] at this
        omega
      · omega
  subst hmm
  refine ⟨?_, p1, ts.eraseIdx i, ?_, fun a b hab hb => ?_, fun x hx => h3 x (List.mem_of_mem_eraseIdx hx), ?_⟩
  · rw [← hei, List.getElem_zip]
    simp [List.getD, hiL]
  · rw [List.length_eraseIdx, List.length_eraseIdx, h1]
  · rw [List.length_eraseIdx, if_pos (by omega)] at hb
    simp only [List.getD_eq_getElem?_getD, List.getElem?_eraseIdx]
    have hx : ∀ a b, a < b → b < ts.length → (ts[a]?).getD 0 < (ts[b]?).getD 0 := fun a b h h' => by
      have := h2 a b h h'
      rwa [List.getD_eq_getElem?_getD, List.getD_eq_getElem?_getD] at this
    by_cases c1 : a < i <;> by_cases c2 : b < i
    · rw [if_pos c1, if_pos c2]; exact hx a b hab (by omega)
    · rw [if_pos c1, if_neg c2]; exact hx a (b + 1) (by omega) (by omega)
    · omega
    · rw [if_neg c1, if_neg c2]; exact hx (a + 1) (b + 1) (by omega) (by omega)
  · have hp := p2.trans h4
    rw [← hei] at hp
    have := hp.trans (perm_erase _ _ hi).symm
    rw [zip_erase] at this
    exact (List.perm_cons _).1 this
end
end Go.Proofs.Ytgonflnmkfgfhaa
