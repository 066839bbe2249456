
/-
  A block within ifs, rounds, elses: the whole.
-/
import Derived.Test.YtgahdppcdeefaaaTk9
namespace Go.Proofs.Ytgahdppcdeefaaa
namespace TR
theorem go_ini : ∀ (r : List Nd) (S : List Wt) (d e q : Nat), (go r S (max d e) q).2 = (go r S d q).2 ∧ ((go r S d q).2.2 = true → (go r S (max d e) q).1 = max e ((go r S d q).1))
  | [], S, d, e, q => by
    unfold go
    split
    · exact ⟨rfl, fun _ => Nat.max_comm _ _⟩
    · exact ⟨rfl, fun h => by cases h⟩
  | a :: r, S, d, e, q => by
    rw [go_cons, go_cons]
    cases pop S with
    | nil => exact ⟨rfl, fun h => by cases h⟩
    | cons x S' =>
      simp only
      cases ent a r x with
      | none => exact ⟨rfl, fun h => by cases h⟩
      | some w =>
        obtain ⟨o, ws⟩ := w
        simp only
        have h := go_ini r (ws ++ { x with many := x.many - 1 } :: S') (max d o) e (q + 1)
        rw [show max (max d e) o = max (max d o) e by omega]
        exact h
theorem go_mono : ∀ (r : List Nd) (S : List Wt) (d q : Nat), (go r S d q).2.2 = true → d ≤ (go r S d q).1
  | [], S, d, q, h => by
    unfold go at h ⊢
    split
    · exact Nat.le_refl _
    · rename_i h1; rw [if_neg h1] at h; cases h
  | a :: r, S, d, q, h => by
    rw [go_cons] at h ⊢
    cases hp : pop S with
    | nil => rw [hp] at h; cases h
    | cons x S' =>
      rw [hp] at h
      simp only at h ⊢
      cases he : ent a r x with
      | none => rw [he] at h; cases h
      | some w =>
        obtain ⟨o, ws⟩ := w
        rw [he] at h
        simp only at h ⊢
        exact Nat.le_trans (Nat.le_max_left _ _) (go_mono r _ _ _ h)
theorem look_mem {op : Int} {k : Kd} : ∀ {T : List (Int × Kd)}, T.lookup op = some k → (op, k) ∈ T
  | [], h => by cases h
  | (a, b) :: T, h => by
    rw [List.lookup_cons] at h
    split at h
    · rename_i h1
      have : op = a := by simpa using h1
      cases h
      rw [this]
      simp
    · exact List.mem_cons_of_mem _ (look_mem h)
theorem kd_all {P : Int → Kd → Bool} (h : tab.all (fun p => P p.1 p.2) = true) {op : Int} (h0 : P op k0 = true) : P op (kd op) = true := by
  unfold kd
  cases hl : tab.lookup op with
  | none => exact h0
  | some k => exact List.all_eq_true.1 h (op, k) (look_mem hl)
/- only a block is one for a block's place -/
theorem is_blk {op : Int} (h : (kd op).is &&& 8 ≠ 0) : op = 10 := by
  have h1 : (fun (op : Int) (k : Kd) => k.is &&& 8 == 0 || op == 10) op (kd op) = true := kd_all (P := fun op k => k.is &&& 8 == 0 || op == 10) (by decide) rfl
  simp only [Bool.or_eq_true, beq_iff_eq] at h1
  rcases h1 with h1 | h1
  · exact absurd h1 h
  · exact h1
theorem go_pre1 (x : Nd) (R : List Nd) : wlk (oneL [] (x :: R)) = go (x :: R) [bpl 0] 0 3 := by
  have he : ent ⟨7, 0, 0, 0, [], 0, 1⟩ (x :: R) ⟨⟨4, 0⟩, 1, 0, false⟩ = some (0, [bpl 0]) :=
    ent_flat (a := ⟨7, 0, 0, 0, [], 0, 1⟩) kd7 rfl (tk := 4) (mn := 1) (c := 0) (R := x :: R) (ps := [⟨8, 0⟩]) (many := 1) (m := 0) (by decide) (by decide) (by decide) (by decide)
  have h1 := go_one (a := ⟨1, 0, 0, 0, [], 0, 1⟩) (r := ⟨2, 0, 0, 0, [97], 0, 1⟩ :: ⟨7, 0, 0, 0, [], 0, 1⟩ :: x :: R) (x := wroot) (S := []) (d := 0) (p := 0) (o := 0) (ws := [⟨⟨2, 0⟩, 1, 0, false⟩]) rfl rfl
  have h2 := go_one (a := ⟨2, 0, 0, 0, [97], 0, 1⟩) (r := ⟨7, 0, 0, 0, [], 0, 1⟩ :: x :: R) (x := ⟨⟨2, 0⟩, 1, 0, false⟩) (S := []) (d := 0) (p := 1) (o := 0) (ws := [⟨⟨4, 0⟩, 1, 0, false⟩]) rfl rfl
  have h3 := go_one (a := ⟨7, 0, 0, 0, [], 0, 1⟩) (r := x :: R) (x := ⟨⟨4, 0⟩, 1, 0, false⟩) (S := []) (d := 0) (p := 2) (o := 0) (ws := [bpl 0]) rfl he
  exact h1.trans (h2.trans h3)
/- a block that is one -/
structure Blk (B : List Nd) (D : Nat) : Prop where
  ok : go B [bpl 0] 0 3 = (D, 0, true)
  root : ∃ b R, B = b :: R ∧ b.op = 10
  pos : 1 ≤ D
theorem blk_of {B : List Nd} (h : (wlk (oneL [] B)).2.2 = true) : Blk B (dpt (oneL [] B)) := by
  cases B with
  | nil => exact absurd h (by decide)
  | cons b R =>
    have hg := go_pre1 b R
    unfold dpt
    rw [hg] at h ⊢
    have h0 := go_ok0 _ _ _ _ h
    have hr : b.op = 10 := by
      rw [go_cons] at h
      have hp : pop [bpl 0] = bpl 0 :: [] := rfl
      rw [hp] at h
      simp only at h
      cases he : ent b R (bpl 0) with
      | none => rw [he] at h; cases h
      | some w =>
        unfold ent at he
        split at he
        · cases he
        · rename_i h1
          exact is_blk (fun h2 => h1 (.inl h2))
    refine ⟨?_, ⟨b, R, rfl, hr⟩, ?_⟩
    · exact Prod.ext rfl (Prod.ext h0 h)
    · rw [go_cons] at h ⊢
      have hp : pop [bpl 0] = bpl 0 :: [] := rfl
      rw [hp] at h ⊢
      simp only at h ⊢
      cases he : ent b R (bpl 0) with
      | none => rw [he] at h; cases h
      | some w =>
        obtain ⟨o, ws⟩ := w
        rw [he] at h
        simp only at h ⊢
        have h1 := go_mono _ _ _ _ h
        have h2 : 1 ≤ o := by
          unfold ent at he
          split at he
          · cases he
          · rw [hr, kd10] at he
            split at he
            · cases he
            · simp only [Option.some.injEq, Prod.mk.injEq] at he
              rw [← he.1]
              show 1 ≤ _ + 1
              omega
        omega
theorem rs_blk (B : List Nd) : RS B 0 [bpl 0] :=
  ⟨fun x hx => by
    obtain rfl : x = bpl 0 := by simpa using hx
    exact ⟨by decide, by simp [bpl], fun h => (by cases h), by simp [bpl]⟩, fun x S' e => by
    simp only [List.cons.injEq] at e
    obtain ⟨rfl, rfl⟩ := e
    exact ⟨fun h => (by cases h), fun y hy => (by cases hy)⟩⟩
theorem go_at {B : List Nd} {D : Nat} (h : Blk B D) (hk : ∀ a ∈ B, a.kids ≤ 9223372036854775807) (c d q : Nat) : go B [bpl c] d q = (max d (D + c), 0, true) := by
  have h1 := go_up c hk B 0 [bpl 0] 0 3 rfl (rs_blk B) (by rw [h.ok]) q
  rw [h.ok] at h1
  have h1 : go B [bpl c] c q = (D + c, 0, true) := by
    have e : [bpl 0].map (upW c) = [bpl c] := by simp [upW, bpl]
    rw [e, Nat.zero_add] at h1
    exact h1
  have hA := go_ini B [bpl c] c d q
  have hB := go_ini B [bpl c] d c q
  rw [h1] at hA
  have hok : (go B [bpl c] d q).2 = (0, true) := by
    rw [← hB.1, Nat.max_comm d c, hA.1]
  have h5 := hB.2 (by rw [hok])
  rw [Nat.max_comm d c, hA.2 rfl] at h5
  have h6 : c + 1 ≤ (go B [bpl c] d q).1 := by
    obtain ⟨b, R, rfl, hb⟩ := h.root
    have hok2 : (go (b :: R) [bpl c] d q).2.2 = true := by rw [hok]
    rw [go_cons] at hok2 ⊢
    have hp : pop [bpl c] = bpl c :: [] := rfl
    rw [hp] at hok2 ⊢
    simp only at hok2 ⊢
    cases he : ent b R (bpl c) with
    | none => rw [he] at hok2; cases hok2
    | some w =>
      obtain ⟨o, ws⟩ := w
      rw [he] at hok2
      simp only at hok2 ⊢
      have h7 := go_mono _ _ _ _ hok2
      have h8 : c + 1 ≤ o := by
        unfold ent at he
        split at he
        · cases he
        · rw [hb, kd10] at he
          split at he
          · cases he
          · simp only [Option.some.injEq, Prod.mk.injEq] at he
            rw [← he.1]
            show c + 1 ≤ c + _ + 1
            omega
      omega
  have h9 : (go B [bpl c] d q).1 = max d (D + c) := by
    simp only at h5
    omega
  exact Prod.ext h9 hok
/- behind an else -/
theorem go_epl {B : List Nd} {D : Nat} (h : Blk B D) (c d q : Nat) : go B [epl c] d q = go B [bpl c] d q := by
  obtain ⟨b, R, rfl, hb⟩ := h.root
  have he : ent b R (epl c) = ent b R (bpl c) := by
    have hA : (8 &&& 40 : Nat) = 8 := by decide
    have hB : (8 &&& 8 : Nat) = 8 := by decide
    unfold ent more epl bpl
    rw [hb, kd10]
    simp only [hA, hB]
  rw [go_cons, go_cons]
  show (match ent b R (epl c) with | none => _ | some (o, ws) => _) = (match ent b R (bpl c) with | none => _ | some (o, ws) => _)
  rw [he]
  cases ent b R (bpl c) with
  | none => rfl
  | some w =>
    obtain ⟨o, ws⟩ := w
    show go R (ws ++ { epl c with many := 0 } :: []) _ _ = go R (ws ++ { bpl c with many := 0 } :: []) _ _
    rw [go_skip (z := { epl c with many := 0 }) rfl, go_skip (z := { bpl c with many := 0 }) rfl]
def elsF (e : Nat) : List Nd := if e = 0 then [] else blk1 :: elsL e
def allL (i r e : Nat) (B : List Nd) : List Nd := ifsL i ++ rndL r ++ elsF e ++ B
theorem ne_cons {B : List Nd} {A : List Nd} {b : Nd} {R : List Nd} (h : B = b :: R) : ∃ x X, A ++ B = x :: X := by
  cases A with
  | nil => exact ⟨b, R, h⟩
  | cons x A => exact ⟨x, A ++ B, rfl⟩
theorem wlk_all {B : List Nd} {D : Nat} (h : Blk B D) (hk : ∀ a ∈ B, a.kids ≤ 9223372036854775807) (i r e : Nat) (hr : r ≤ 1000) : wlk (oneL [] (allL i r e B)) = (D + i + r + e, 0, true) := by
  obtain ⟨b, R, hb, -⟩ := h.root
  have hD := h.pos
  have hx : ∃ x X, allL i r e B = x :: X := by
    unfold allL
    exact ne_cons hb
  obtain ⟨x, X, hx⟩ := hx
  rw [hx, go_pre1, ← hx]
  unfold allL
  rw [List.append_assoc, List.append_assoc, go_ifs, go_rnds [] r hr]
  unfold elsF
  by_cases he : e = 0
  · rw [if_pos he, List.nil_append, go_at h hk]
    simp only [Prod.mk.injEq, and_true]
    split <;> split <;> omega
  · rw [if_neg he]
    obtain ⟨n, rfl⟩ : ∃ n, e = n + 1 := ⟨e - 1, by omega⟩
    have h1 := fun c d p => go_one (a := blk1) (r := elsL (n + 1) ++ B) (x := bpl c) (S := []) (d := d) (p := p) rfl (ent_blk1 c (elsL (n + 1) ++ B))
    rw [List.cons_append, h1]
    rw [show [spl (0 + i + r + 1)] ++ ([] : List Wt) = spl (0 + i + r + 1) :: [] from rfl, go_els [] n, go_epl h, go_at h hk]
    simp only [Prod.mk.injEq, and_true]
    split <;> split <;> omega
/- no ability within a block -/
def good : List Nat := [8, 16, 40, 64, 192]
theorem no7 : ∀ (l : List Nd) (S : List (Nat × Nat)) (p : Nat), (gsh l S p).2 = true → (∀ x ∈ S, x.2 ≠ 0 → x.1 ∈ good) → ∀ a ∈ l, a.op ≠ 7
  | [], _, _, _, _, a, ha => by cases ha
  | b :: r, S, p, h, hS, a, ha => by
    obtain ⟨x, S', ws, h1, h2, h3, -⟩ := gsh_ok h
    rw [h3] at h
    have hpm : ∀ (S : List (Nat × Nat)) x S', popS S = x :: S' → x ∈ S ∧ ∀ y ∈ S', y ∈ S := by
      intro S
      induction S with
      | nil => intro x S' h; cases h
      | cons y S ih =>
        intro x S' h
        rw [popS] at h
        split at h
        · obtain ⟨k1, k2⟩ := ih x S' h
          exact ⟨List.mem_cons_of_mem _ k1, fun z hz => List.mem_cons_of_mem _ (k2 z hz)⟩
        · cases h
          exact ⟨by simp, fun z hz => List.mem_cons_of_mem _ hz⟩
    obtain ⟨hx, hS'⟩ := hpm S x S' h1
    have hgx : x.1 ∈ good := hS x hx (pop_many h1)
    have htab : (fun (op : Int) (k : Kd) => good.all fun tk => k.is &&& tk == 0 || (op != 7 && ((k.each == 0 || good.contains k.each) && k.ways.all fun w => w.all fun q => good.contains q.takes))) b.op (kd b.op) = true := kd_all (P := fun op k => good.all fun tk => k.is &&& tk == 0 || (op != 7 && ((k.each == 0 || good.contains k.each) && k.ways.all fun w => w.all fun q => good.contains q.takes))) (by decide) (by simp [k0, good])
    have ht := List.all_eq_true.1 htab x.1 hgx
    unfold ews at h2
    split at h2
    · cases h2
    · rename_i hc
      have hi : (kd b.op).is &&& x.1 ≠ 0 := fun h9 => hc (.inl h9)
      simp only [Bool.or_eq_true, beq_iff_eq, Bool.and_eq_true, bne_iff_ne, List.all_eq_true, List.contains_iff_mem] at ht
      rcases ht with ht | ⟨h7, hea, hwa⟩
      · exact absurd ht hi
      · rcases List.mem_cons.1 ha with rfl | ha
        · exact h7
        · refine no7 r _ _ h (fun y hy hy0 => ?_) a ha
          rcases List.mem_append.1 hy with hy | hy
          · cases hp : plcs (kd b.op) b.kids with
            | none => rw [hp] at h2; cases h2
            | some q =>
              obtain ⟨ps, many⟩ := q
              rw [hp] at h2
              simp only [Option.some.injEq] at h2
              rw [← h2] at hy
              obtain ⟨q, hq, rfl⟩ := List.mem_map.1 hy
              unfold plcs at hp
              split at hp
              · rename_i hne
                split at hp
                · simp only [Option.some.injEq, Prod.mk.injEq] at hp
                  rw [← hp.1] at hq
                  simp only [List.mem_cons, List.not_mem_nil, or_false] at hq
                  rw [hq]
                  rcases hea with h9 | h9
                  · exact absurd h9 hne
                  · exact h9
                · cases hp
              · split at hp
                · rename_i w hf
                  simp only [Option.some.injEq, Prod.mk.injEq] at hp
                  rw [← hp.1] at hq
                  exact hwa w (List.mem_of_find?_eq_some hf) q hq
                · split at hp
                  · simp only [Option.some.injEq, Prod.mk.injEq] at hp
                    rw [← hp.1] at hq
                    cases hq
                  · cases hp
          · rcases List.mem_cons.1 hy with rfl | hy
            · exact hgx
            · exact hS y (hS' y hy) hy0
theorem wgF_none {l : List Nd} : ∀ (n i : Nat) (b : Int), (∀ j, i ≤ j → (l.getD j dn).op ≠ 7) → wgF l n i b = b
  | 0, _, _, _ => rfl
  | n + 1, i, b, h => by
    rw [wgF, if_neg (h i (Nat.le_refl _))]
    exact wgF_none n (i + 1) b (fun j hj => h j (by omega))
/- how heavy the one ability is -/
theorem wgt_one {X : List Nd} (h : (wlk (oneL [] X)).2.2 = true) : wgt (oneL [] X) = X.length := by
  cases X with
  | nil => exact absurd h (by decide)
  | cons x R =>
    have hg := go_pre1 x R
    have hs : (gsh (x :: R) [(8, 1)] 3).2 = true := by
      have h1 := go_sh (x :: R) [bpl 0] 0 3
      rw [hg] at h
      rw [h1] at h
      exact h
    have h7 := no7 (x :: R) _ _ hs (fun y hy _ => by
      simp only [List.mem_cons, List.not_mem_nil, or_false] at hy
      rw [hy]
      decide)
    have hlen : (oneL [] (x :: R)).length = 3 + (x :: R).length := by
      show (one3 1 ++ [] ++ (x :: R)).length = _
      rw [List.append_nil, List.length_append]
      rfl
    have hb2 : bhd (oneL [] (x :: R)) ((2 : Nat) : Int) = ((3 + (x :: R).length : Nat) : Int) := by
      refine bhd_nat ?_
      rw [hlen]
      show bhn (3 + (x :: R).length) (⟨7, 0, 0, 0, [], 0, 1⟩ :: x :: R) (0 + 1) 2 = _
      rw [bhn_cons, if_pos ⟨by show (0 : Int) ≤ 1; decide, by show (1 : Int) ≤ ((3 + (x :: R).length : Nat) : Int); omega⟩]
      exact gsh_bhn (x :: R) [(8, 1)] 3 3 hs (by omega)
    unfold wgt
    rw [h, if_pos rfl, hlen, show 3 + (x :: R).length = (x :: R).length + 1 + 1 + 1 by omega, wgF, wgF, wgF]
    rw [show ((oneL [] (x :: R)).getD 0 dn).op = 1 from rfl, show ((oneL [] (x :: R)).getD (0 + 1) dn).op = 2 from rfl, show ((oneL [] (x :: R)).getD (0 + 1 + 1) dn).op = 7 from rfl]
    rw [if_pos (rfl : (7 : Int) = 7), if_neg (show ¬ (2 : Int) = 7 by decide), if_neg (show ¬ (1 : Int) = 7 by decide), wgF_none]
    · show max (0 : Int) (bhd (oneL [] (x :: R)) ((2 : Nat) : Int) - 2 - 1) = _
      rw [hb2]
      omega
    · intro j hj
      obtain ⟨t, rfl⟩ : ∃ t, j = t + 3 := ⟨j - 3, by omega⟩
      show ((x :: R).getD t dn).op ≠ 7
      by_cases ht : t < (x :: R).length
      · exact h7 _ (getD_mem ht)
      · rw [List.getD_eq_getElem?_getD, List.getElem?_eq_none (by omega)]
        decide
theorem ifsL_len : ∀ n, (ifsL n).length = 3 * n
  | 0 => rfl
  | n + 1 => by rw [ifsL, List.length_append, ifsL_len n]; rfl
theorem rndL_len : ∀ n, (rndL n).length = 2 * n
  | 0 => rfl
  | n + 1 => by rw [rndL, List.length_append, rndL_len n]; rfl
theorem elsL_len : ∀ n, (elsL n).length = 3 * n
  | 0 => rfl
  | n + 1 => by rw [elsL, List.length_append, elsL_len n]; rfl
theorem elsF_len (e : Nat) : (elsF e).length = 3 * e + (if e = 0 then 0 else 1) := by
  unfold elsF
  split
  · rename_i h; subst h; rfl
  · rw [List.length_cons, elsL_len]
theorem allL_len (i r e : Nat) (B : List Nd) : (allL i r e B).length = B.length + 3 * i + 2 * r + 3 * e + (if e = 0 then 0 else 1) := by
  unfold allL
  rw [List.length_append, List.length_append, List.length_append, ifsL_len, rndL_len, elsF_len]
  omega
end TR
end Go.Proofs.Ytgahdppcdeefaaa
