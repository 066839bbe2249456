
/-
  Marks, gaps, and the whole: what is written is cut back, no program.
-/
import Derived.Test.YtjjikeehifndhaaDoorBc8
namespace Go.Proofs.YtjjikeehifndhaaDoor
namespace TK
theorem nxt {X Y : List Int} {a : Int} (hY : Sp Y) : ¬ X.length + 1 < (X ++ ([a] ++ Y)).length ∨ (X ++ ([a] ++ Y)).getD (X.length + 1) 0 = 32 := by
  rcases hY with rfl | ⟨r, rfl⟩
  · left
    simp
  · right
    have := app_at0 (X ++ [a]) [32] r (by simp)
    rw [List.append_assoc, List.length_append] at this
    exact this
theorem sgl_is {a : Int} (h : sgl a = true) : blk a = false ∧ sml a = false ∧ dig a = false ∧ a ≠ 34 := by
  unfold sgl at h
  simp only [Bool.or_eq_true, beq_iff_eq] at h
  refine ⟨blk_no (by omega), ?_, ?_, by omega⟩
  · unfold sml
    simp
    omega
  · unfold dig
    simp
    omega
theorem two_is {a b : Int} (h : two a b = true) : blk a = false ∧ sml a = false ∧ dig a = false ∧ a ≠ 34 ∧ a ≠ 47 ∧ b ≠ 32 := by
  unfold two at h
  simp only [Bool.or_eq_true, Bool.and_eq_true, beq_iff_eq] at h
  refine ⟨blk_no (by omega), ?_, ?_, by omega, by omega, by omega⟩
  · unfold sml
    simp
    omega
  · unfold dig
    simp
    omega
theorem bk_one {X Y : List Int} {a : Int} (h : sgl a = true) (hY : Sp Y) : stp (X ++ ([a] ++ Y)) X.length = .tok ⟨4, [a], 0, X.length⟩ (X.length + 1) := by
  obtain ⟨h1, h2, h3, h4⟩ := sgl_is h
  have hc : (X ++ ([a] ++ Y)).getD X.length 0 = a := app_at0 X [a] Y (by simp)
  have hn := nxt (X := X) (a := a) hY
  have hr : rmk (X ++ ([a] ++ Y)) X.length = false := by
    unfold rmk
    rw [hc]
    rcases hn with hn | hn
    · rw [decide_eq_false hn]
      simp
    · rw [hn]
      simp
  unfold stp
  rw [hr, hc, h1, h2, h3, show (a == 34) = false by simpa using h4]
  simp only [Bool.false_eq_true, if_false]
  unfold mkk
  rw [hc, if_neg, if_pos h]
  rintro ⟨h5, h6⟩
  rcases hn with hn | hn
  · exact hn h5
  · rw [hn] at h6
    exact (two_is h6).2.2.2.2.2 rfl
theorem bk_two {X Y : List Int} {a b : Int} (h : two a b = true) : stp (X ++ ([a, b] ++ Y)) X.length = .tok ⟨4, [a, b], 0, X.length⟩ (X.length + 2) := by
  obtain ⟨h1, h2, h3, h4, h5, -⟩ := two_is h
  have hc : (X ++ ([a, b] ++ Y)).getD X.length 0 = a := app_at0 X [a, b] Y (by simp)
  have hd : (X ++ ([a, b] ++ Y)).getD (X.length + 1) 0 = b := app_at X [a, b] Y (k := 1) (by simp)
  unfold stp
  rw [not_rmk0 (by rw [hc]; exact h5), hc, h1, h2, h3, show (a == 34) = false by simpa using h4]
  simp only [Bool.false_eq_true, if_false]
  unfold mkk
  rw [hc, hd, if_pos ⟨by simp, h⟩]
theorem bk_mark {X l Y : List Int} (h : mrk l = true) (hY : Sp Y) : stp (X ++ (l ++ Y)) X.length = .tok ⟨4, l, 0, X.length⟩ (X.length + l.length) := by
  match l, h with
  | [a], h => exact bk_one h hY
  | [a, b], h => exact bk_two h
/- a token that is written is cut as itself -/
theorem bk_tok {X Y : List Int} {t : Tok} (ht : tex t ≠ []) (hn : t.num ≤ 9223372036854775807) (hY : Sp Y) : stp (X ++ (tex t ++ Y)) X.length = .tok ⟨t.kind, t.text, t.num, X.length⟩ (X.length + (tex t).length) := by
  obtain ⟨kd, tt, nm, ps⟩ := t
  unfold tex at ht ⊢
  simp only at ht hn ⊢
  split at ht
  · exact absurd rfl ht
  · rename_i h0
    rw [if_neg h0]
    split at ht
    · rename_i h1
      rw [if_pos h1]
      obtain ⟨rfl, rfl⟩ := h1
      exact bk_num (by omega) hn hY
    · rename_i h1
      rw [if_neg h1]
      split at ht
      · exact absurd rfl ht
      · rename_i h2
        rw [if_neg h2]
        obtain rfl : nm = 0 := by omega
        split at ht
        · rename_i h3
          rw [if_pos h3]
          rcases h3 with ⟨rfl, h3⟩ | ⟨rfl, h3⟩
          · exact bk_name h3 hY
          · exact bk_mark h3 hY
        · rename_i h3
          rw [if_neg h3]
          split at ht
          · rename_i h4
            rw [if_pos h4]
            obtain ⟨rfl, h4⟩ := h4
            exact bk_text h4
          · exact absurd rfl ht
/- blanks -/
theorem gp_blanks {b : Nat} : ∀ (G X Y : List Int), G.all blk = true → Gp (X ++ (G ++ Y)) b X.length → Gp (X ++ (G ++ Y)) b (X.length + G.length)
  | [], X, Y, _, h => h
  | c :: r, X, Y, ha, h => by
    rw [List.all_cons, Bool.and_eq_true] at ha
    have hc : (X ++ (c :: r ++ Y)).getD X.length 0 = c := app_at0 X (c :: r) Y (by simp)
    have h1 : Gp (X ++ (c :: r ++ Y)) b (X.length + 1) := h.step (by simp) (by
      unfold stp
      rw [hc, if_pos ha.1])
    have e : X ++ (c :: r ++ Y) = (X ++ [c]) ++ (r ++ Y) := by simp
    rw [e] at h1 ⊢
    have h2 := gp_blanks r (X ++ [c]) Y ha.2 (by rw [List.length_append]; exact h1)
    rw [List.length_append] at h2
    rw [List.length_cons, show X.length + (r.length + 1) = X.length + [c].length + r.length by simp; omega]
    exact h2
theorem gp_remark {b : Nat} {r X Y : List Int} (hr : r.all nnl = true) (h : Gp (X ++ ([47, 47] ++ r ++ [10] ++ Y)) b X.length) : Gp (X ++ ([47, 47] ++ r ++ [10] ++ Y)) b (X.length + (r.length + 3)) := by
  have hc : (X ++ ([47, 47] ++ r ++ [10] ++ Y)).getD X.length 0 = 47 := app_at0 X ([47, 47] ++ r ++ [10]) Y (by simp)
  have hd : (X ++ ([47, 47] ++ r ++ [10] ++ Y)).getD (X.length + 1) 0 = 47 := app_at X ([47, 47] ++ r ++ [10]) Y (k := 1) (by simp)
  have he : spn nnl (X ++ ([47, 47] ++ r ++ [10] ++ Y)) X.length = X.length + (r.length + 2) := by
    unfold spn
    rw [List.drop_left]
    have : ([47, 47] ++ r ++ [10] ++ Y).takeWhile nnl = [47, 47] ++ r := by
      rw [List.append_assoc ([47, 47] ++ r), List.takeWhile_append_of_pos (by
        intro a ha
        rw [List.all_eq_true] at hr
        rcases List.mem_append.1 ha with h9 | h9
        · simp only [List.mem_cons, List.not_mem_nil, or_false, or_self] at h9
          rw [h9]
          decide
        · exact hr a h9)]
      rw [List.singleton_append, List.takeWhile_cons, if_neg (by decide), List.append_nil]
    rw [this]
    simp
  have h1 : Gp (X ++ ([47, 47] ++ r ++ [10] ++ Y)) b (X.length + (r.length + 2)) := by
    rw [← he]
    refine h.step (by simp) ?_
    unfold stp
    rw [hc, show blk 47 = false by decide, show rmk (X ++ ([47, 47] ++ r ++ [10] ++ Y)) X.length = true by
      unfold rmk
      rw [hc, hd, decide_eq_true (by simp)]
      rfl]
    rfl
  have hf : (X ++ ([47, 47] ++ r ++ [10] ++ Y)).getD (X.length + (r.length + 2)) 0 = 10 := by
    have := app_at0 (X ++ ([47, 47] ++ r)) [10] Y (by simp)
    rw [show X.length + (r.length + 2) = (X ++ ([47, 47] ++ r)).length by simp]
    rw [show X ++ ([47, 47] ++ r ++ [10] ++ Y) = X ++ ([47, 47] ++ r) ++ ([10] ++ Y) by simp]
    exact this
  exact h1.step (by simp) (by
    unfold stp
    rw [hf]
    rfl)
/- what the law lays ahead of a token -/
def gpB (c : Int) : Int := [9, 10, 13, 32].getD (c % 4).toNat 0
def gpL (b : List Int) : List Int := [32] ++ b.map gpB ++ (if b.length % 3 = 1 then [47, 47] ++ b.filter nnl ++ [10] else [])
def IsGp (G : List Int) : Prop := G = [32] ∨ ∃ b, G = gpL b
theorem gpB_blk (c : Int) : blk (gpB c) = true := by
  unfold gpB
  have h1 : (c % 4).toNat = 0 ∨ (c % 4).toNat = 1 ∨ (c % 4).toNat = 2 ∨ (c % 4).toNat = 3 := by omega
  rcases h1 with h | h | h | h <;> rw [h] <;> decide
theorem gp_gap {b : Nat} {G X Y : List Int} (hG : IsGp G) (h : Gp (X ++ (G ++ Y)) b X.length) : Gp (X ++ (G ++ Y)) b (X.length + G.length) := by
  rcases hG with rfl | ⟨l, rfl⟩
  · exact gp_blanks [32] X Y (by decide) h
  · have hb : ([32] ++ l.map gpB).all blk = true := by
      rw [List.all_append, Bool.and_eq_true]
      refine ⟨by decide, ?_⟩
      rw [List.all_eq_true]
      intro x hx
      obtain ⟨c, -, rfl⟩ := List.mem_map.1 hx
      exact gpB_blk c
    unfold gpL at h ⊢
    by_cases h3 : l.length % 3 = 1
    · rw [if_pos h3] at h ⊢
      rw [List.append_assoc ([32] ++ l.map gpB)] at h ⊢
      have h1 := gp_blanks ([32] ++ l.map gpB) X _ hb h
      rw [← List.append_assoc X] at h1 ⊢
      have h2 := gp_remark (b := b) (r := l.filter nnl) (X := X ++ ([32] ++ l.map gpB)) (Y := Y) (by
        rw [List.all_eq_true]
        intro x hx
        exact (List.mem_filter.1 hx).2) (by rw [List.length_append]; exact h1)
      have k : ∀ {B : List Int} {a c : Nat}, a = c → Gp B b a → Gp B b c := fun h g => h ▸ g
      exact k (by simp; omega) h2
    · rw [if_neg h3] at h ⊢
      rw [List.append_nil] at h ⊢
      exact gp_blanks _ X Y hb h
theorem gap_sp {G : List Int} (h : IsGp G) : ∃ r, G = 32 :: r := by
  rcases h with rfl | ⟨l, rfl⟩
  · exact ⟨[], rfl⟩
  · exact ⟨_, rfl⟩
/- gaps and tokens, one behind the other -/
def flat (l : List (List Int × Tok)) : List Int := l.flatMap fun x => x.1 ++ tex x.2
def toks : Nat → List (List Int × Tok) → List Tok
  | _, [] => []
  | n, x :: r => ⟨x.2.kind, x.2.text, x.2.num, ((n + x.1.length : Nat) : Int)⟩ :: toks (n + x.1.length + (tex x.2).length) r
theorem flat_sp {l : List (List Int × Tok)} (h : ∀ x ∈ l, IsGp x.1) : Sp (flat l) := by
  cases l with
  | nil => exact .inl rfl
  | cons x r =>
    obtain ⟨s, hs⟩ := gap_sp (h x (by simp))
    refine .inr ⟨s ++ tex x.2 ++ flat r, ?_⟩
    unfold flat
    rw [List.flatMap_cons, hs]
    simp
theorem gp_ct2 {B : List Int} {L : List Tok} {p q : Nat} (h : Gp B p q) (hc : Ct B p L) : Ct B q L := by
  induction h with
  | refl => exact hc
  | step _ h2 h3 ih => exact Ct.skip ih h2 h3
theorem back_from : ∀ (l : List (List Int × Tok)) (X : List Int) (L : List Tok), (∀ x ∈ l, IsGp x.1 ∧ tex x.2 ≠ [] ∧ x.2.num ≤ 9223372036854775807) → Ct (X ++ flat l) X.length L → Ct (X ++ flat l) (X ++ flat l).length (L ++ toks X.length l)
  | [], X, L, _, h => by
    have e : X ++ flat [] = X := by simp [flat]
    rw [e] at h ⊢
    simpa [toks] using h
  | x :: r, X, L, hx, h => by
    obtain ⟨h1, h2, h3⟩ := hx x (by simp)
    have e : X ++ flat (x :: r) = X ++ (x.1 ++ (tex x.2 ++ flat r)) := by simp [flat]
    have e2 : X ++ flat (x :: r) = (X ++ x.1) ++ (tex x.2 ++ flat r) := by rw [e]; simp
    have e3 : X ++ flat (x :: r) = (X ++ x.1 ++ tex x.2) ++ flat r := by rw [e]; simp
    have g1 : Gp (X ++ flat (x :: r)) X.length (X.length + x.1.length) := by
      rw [e]
      exact gp_gap h1 (Gp.refl _)
    have c1 := gp_ct2 g1 h
    have s1 : stp (X ++ flat (x :: r)) (X.length + x.1.length) = .tok ⟨x.2.kind, x.2.text, x.2.num, ((X.length + x.1.length : Nat) : Int)⟩ (X.length + x.1.length + (tex x.2).length) := by
      have := bk_tok (X := X ++ x.1) (Y := flat r) h2 h3 (flat_sp fun y hy => (hx y (by simp [hy])).1)
      rw [← e2, List.length_append] at this
      exact this
    have hl : 0 < (tex x.2).length := List.length_pos_iff.2 h2
    have c2 := c1.tok (by rw [e2]; simp; omega) s1
    have c3 := back_from r (X ++ x.1 ++ tex x.2) (L ++ [⟨x.2.kind, x.2.text, x.2.num, ((X.length + x.1.length : Nat) : Int)⟩]) (fun y hy => hx y (by simp [hy])) (by
      rw [← e3, List.length_append, List.length_append]
      exact c2)
    have e5 : (X ++ x.1 ++ tex x.2).length = X.length + x.1.length + (tex x.2).length := by simp; omega
    rw [e5, ← e3, List.append_assoc] at c3
    rw [toks]
    exact c3
theorem back {l : List (List Int × Tok)} (h : ∀ x ∈ l, IsGp x.1 ∧ tex x.2 ≠ [] ∧ x.2.num ≤ 9223372036854775807) (hl : (flat l).length ≤ 65536) : cuE (flat l) = 0 ∧ cuA (flat l) = 0 ∧ cuL (flat l) = toks 0 l ++ [⟨0, [], 0, (flat l).length⟩] := by
  have h1 := back_from l [] [] h (by rw [List.nil_append]; exact ct_start _)
  rw [List.nil_append, List.nil_append] at h1
  have h2 := h1.fin (by omega)
  refine ⟨?_, ?_, ?_⟩
  · unfold cuE; rw [if_neg (by omega), h2]
  · unfold cuA; rw [if_neg (by omega), h2]
  · unfold cuL; rw [if_neg (by omega), h2]; rfl
theorem flat_app (l : List (List Int × Tok)) (x : List Int × Tok) : flat (l ++ [x]) = flat l ++ x.1 ++ tex x.2 := by
  simp [flat]
theorem toks_app : ∀ (l : List (List Int × Tok)) (n : Nat) (x : List Int × Tok), toks n (l ++ [x]) = toks n l ++ [⟨x.2.kind, x.2.text, x.2.num, ((n + (flat l).length + x.1.length : Nat) : Int)⟩]
  | [], n, x => by simp [toks, flat]
  | y :: r, n, x => by
    rw [List.cons_append, toks, toks_app r, toks]
    have e : flat (y :: r) = y.1 ++ tex y.2 ++ flat r := by simp [flat]
    rw [e, List.cons_append]
    congr 3
    simp
    omega
end TK
end Go.Proofs.YtjjikeehifndhaaDoor
