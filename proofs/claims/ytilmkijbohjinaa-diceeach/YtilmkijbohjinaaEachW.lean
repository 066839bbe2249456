/-
  The stage's theorem, walked: each order comes of just one list of answers.
-/
import Derived.Test.YtilmkijbohjinaaAns
namespace Go.Proofs.Ytilmkijbohjinaa
open Go.RowKit

theorem row_up {w w' : World} {b e s n : Nat} {v : Value} {xs : List Value} (h : w.ownsRow b e s v n xs) (u : Up w w') : w'.ownsRow b e s v n xs := by
  refine ⟨h.1, ?_⟩
  rcases h.2 with h | ⟨g, cap, cur, e1, e2, e3, e4⟩
  · exact .inl h
  · exact .inr ⟨g, cap, cur, e1, e2, u.heap e3, e4⟩
theorem row_only {w w' : World} {a b e s n : Nat} {v : Value} {xs : List Value} (h : w.ownsRow b e s v n xs) (o : Only a w w') (hne : ∀ k, v.ownBlock = some k → k ≠ a) : w'.ownsRow b e s v n xs := by
  refine ⟨h.1, ?_⟩
  rcases h.2 with h | ⟨g, cap, cur, rfl, e2, e3, e4⟩
  · exact .inl h
  · exact .inr ⟨g, cap, cur, rfl, e2, o.heap e3 (hne g rfl), e4⟩
theorem ansL_row {W : World} {a base : Nat} {v : Value} {rs : List (Int × Bool)} (h : W.ownsRow base 43 2 v rs.length (flatA rs)) (hne : ∀ k, v.ownBlock = some k → k ≠ a) : AnsL a W.heap.size W v rs := by
  rcases id h.2 with ⟨rfl, h0⟩ | ⟨g, cap, cur, rfl, _, e3, _⟩
  · exact ⟨none, 0, by rw [h0], fun hn => absurd h0 hn⟩
  · refine ⟨_, cap, rfl, fun _ => ⟨g, 0, rfl, hne g rfl, (Array.getElem?_eq_some_iff.1 e3).1, fun i hi => ?_⟩⟩
    rw [Nat.zero_add, h.cellAt (i * 2) (by omega), h.cellAt (i * 2 + 1) (by omega)]
    exact flatA_get rs i hi
theorem flatA_set (rs : List (Int × Bool)) : ∀ (i : Nat) (x : Int), i < rs.length → (rs.getD i (0, true)).2 = false → (flatA rs).set (i * 2) (.int .i64 x) = flatA (rs.set i (x, false)) := by
  induction rs with
  | nil => intro i x h; simp at h
  | cons r rs ih =>
    intro i x h hb
    have e : flatA (r :: rs) = .int .i64 r.1 :: .bool r.2 :: flatA rs := rfl
    rw [e]
    cases i with
    | zero =>
      have hb : r.2 = false := hb
      show Value.int .i64 x :: .bool r.2 :: flatA rs = _
      rw [hb]; rfl
    | succ i =>
      have := ih i x (by simpa using h) hb
      rw [show (i + 1) * 2 = i * 2 + 1 + 1 by omega]
      show Value.int .i64 r.1 :: .bool r.2 :: (flatA rs).set (i * 2) (.int .i64 x) = _
      rw [this]; rfl
theorem shuf_perm {S : Type} (f : S → Nat → Int × Bool) (nx : S → Nat → S) (N i : Nat) : ∀ (s : S) (l l' : List Nat), (shuf f nx i s l).1 = some l' → i < l.length ∨ i = 0 → Inj l → (∀ a, a < l.length → l.getD a 0 < N) → Inj l' ∧ ∀ a, a < l'.length → l'.getD a 0 < N := by
  induction i with
  | zero => intro s l l' h _ h1 h2; rw [shuf] at h; cases h; exact ⟨h1, h2⟩
  | succ i ih =>
    intro s l l' h hi h1 h2
    rw [shuf_succ] at h
    split at h
    · rename_i hr
      have hi : i + 1 < l.length := by omega
      have hle : (f s (i + 1)).1.toNat ≤ i + 1 := by
        have := ((right_iff _ _ _).1 hr).2; omega
      refine ih _ _ l' h (by rw [swp_len]; omega) (h1.swp _ _ hi (by omega)) ?_
      intro a ha
      rw [swp_len] at ha
      rw [swp_getD _ _ _ _ hi (by omega)]
      split
      · exact h2 _ hi
      · split
        · exact h2 _ (by omega)
        · exact h2 _ ha
    · cases h
theorem range_getD (n a : Nat) (h : a < n) : (List.range n).getD a 0 = a := by simp [List.getD, h]
theorem range_inj (n : Nat) : Inj (List.range n) := by
  intro a b ha hb e
  rw [List.length_range] at ha hb
  rw [range_getD n a ha, range_getD n b hb] at e
  exact e
theorem ordL_ord (n z : Nat) : OrdZ (intsOf (ordL n z)) := by
  have h := shuf_perm askD nxtD n (n - 1) z (List.range n) (ordL n z) (by show (ordR n z).1 = _; rw [ordR_eq]) (by rw [List.length_range]; omega) (range_inj n) (fun a ha => by rw [List.length_range] at ha; rw [range_getD n a ha]; exact ha)
  exact OrdZ.of h.1 (by rw [ordL_len]; intro a ha; exact h.2 a (by rw [ordL_len]; exact ha))
theorem ans_comes (t : List Nat) (h1 : Inj t) (h2 : ∀ a, a < t.length → t.getD a 0 < t.length) :
    run (t.length - 1) (ansP (t.length - 1) (List.range t.length) t) (List.range t.length) = some t ∧ (qsT (t.length - 1) (ansP (t.length - 1) (List.range t.length) t)).length = t.length - 1 := by
  by_cases h0 : t.length = 0
  · obtain rfl := List.eq_nil_of_length_eq_zero h0
    exact ⟨rfl, rfl⟩
  · have := ansP_run (t.length - 1) (List.range t.length) t (by rw [List.length_range]; omega) (by rw [List.length_range]) h1
      (fun a ha => ⟨t.getD a 0, by rw [List.length_range]; exact h2 a ha, range_getD _ _ (h2 a ha)⟩) (fun k hk hkl => by rw [List.length_range] at hkl; omega)
    refine ⟨this.1, ?_⟩
    rw [this.2]; simp
/- the first round of asking -/
def FstPost (w : World) (a : Nat) (lv : Value) (t : List Nat) (e : Ending) (w' : World) : Prop :=
  ∃ g ad cap, w.heap.size ≤ g ∧ e = .returned (.tuple #[.slice (some ⟨g, 0, none⟩) t.length t.length, .bool true]) ∧ RowI w' g t ∧ w'.heap[a]? = some (.cells #[lv, .slice ad (t.length - 1) cap] 34 (0, 0)) ∧ Only a w w'
theorem fstShuffle (a : Nat) (lv : Value) (t : List Nat) (w : World) (hn : t.length ≤ 65536) (h1 : Inj t) (h2 : ∀ a, a < t.length → t.getD a 0 < t.length) (hl : AnsL a w.heap.size w lv (ansP (t.length - 1) (List.range t.length) t)) (hb : w.heap[a]? = some (.cells #[lv, .slice none 0 0] 34 (0, 0))) :
    Calls Try.prog 12 #[.int .i64 t.length, .func (.func 13) #[.pointer (some ⟨a, 0, none⟩)] #[]] w (FstPost w a lv t) := by
  refine (shuffleA a lv _ t.length w hn hl hb).mono ?_
  intro e w' hp
  have hc := ans_comes t h1 h2
  rw [shuf_run, List.length_nil, List.drop_zero, hc.1] at hp
  obtain ⟨⟨⟨av, p1, p2⟩, p3⟩, p4, p5, g, p6, rfl, p7⟩ := hp.some
  rw [List.nil_append] at p2
  rw [hc.2] at p2
  obtain ⟨ad, cap, rfl⟩ := row_val p2
  exact ⟨g, ad, cap, p6, rfl, p7, p1, p3⟩
/- the second one, with one answer turned -/
def SndPost (w : World) (t : List Nat) (ok : Bool) (a : Nat) (e : Ending) (w' : World) : Prop :=
  Only a w w' ∧ ((ok = false ∧ e = .returned (.tuple #[.slice none 0 0, .bool false])) ∨ (ok = true ∧ ∃ g l, w.heap.size ≤ g ∧ l.length = t.length ∧ l ≠ t ∧ e = .returned (.tuple #[.slice (some ⟨g, 0, none⟩) t.length t.length, .bool true]) ∧ RowI w' g l))
theorem sndShuffle (a k : Nat) (x : Int) (lv : Value) (t : List Nat) (w : World) (hn : t.length ≤ 65536) (h1 : Inj t) (h2 : ∀ a, a < t.length → t.getD a 0 < t.length) (hk : k < t.length - 1) (hx : ((ansP (t.length - 1) (List.range t.length) t).getD k (0, true)).1 ≠ x)
    (hl : AnsL a w.heap.size w lv ((ansP (t.length - 1) (List.range t.length) t).set k (x, false))) (hb : w.heap[a]? = some (.cells #[lv, .slice none 0 0] 34 (0, 0))) :
    Calls Try.prog 12 #[.int .i64 t.length, .func (.func 13) #[.pointer (some ⟨a, 0, none⟩)] #[]] w (SndPost w t (decide (0 ≤ x) && decide (x ≤ ((t.length - 1 - k : Nat) : Int))) a) := by
  refine (shuffleA a lv _ t.length w hn hl hb).mono ?_
  intro e w' hp
  have hc := ans_comes t h1 h2
  have hln := ansP_len (t.length - 1) (List.range t.length) t
  have hb2 : ((ansP (t.length - 1) (List.range t.length) t).getD k (0, true)).2 = false := by
    refine ansP_false (t.length - 1) (List.range t.length) t _ ?_
    rw [List.getD_eq_getElem?_getD, List.getElem?_eq_getElem (by omega), Option.getD_some]
    exact List.getElem_mem _
  have ht := run_turned (t.length - 1) k _ (List.range t.length) t x (by rw [List.length_range]; omega) (range_inj _) hc.1 hk (by omega) hx hb2
  rw [shuf_run, List.length_nil, List.drop_zero] at hp
  cases hr : run (t.length - 1) ((ansP (t.length - 1) (List.range t.length) t).set k (x, false)) (List.range t.length) with
  | none =>
    rw [hr] at hp ht
    obtain ⟨p1, p2, p3, p4⟩ := hp.none
    exact ⟨p1.2, .inl ⟨ht.1.symm, p4⟩⟩
  | some l =>
    rw [hr] at hp ht
    obtain ⟨p1, p2, p3, g, p4, p5, p6⟩ := hp.some
    have hlen := run_len _ _ _ _ hr
    rw [List.length_range] at hlen
    rw [hlen] at p5
    exact ⟨p1.2, .inr ⟨ht.1.symm, g, l, p4, hlen, fun e => ht.2 (by rw [e]), p5, p6⟩⟩
end Go.Proofs.Ytilmkijbohjinaa
