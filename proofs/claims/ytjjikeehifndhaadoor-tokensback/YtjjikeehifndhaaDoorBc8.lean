
/-
  Tokens that are written with blanks or remarks between are cut as themselves, no program.
-/
import Derived.Test.YtjjikeehifndhaaDoorTs8
namespace Go.Proofs.YtjjikeehifndhaaDoor
namespace TK
/- what stands behind a token: nothing, or a blank -/
def Sp (Y : List Int) : Prop := Y = [] ∨ ∃ r, Y = 32 :: r
theorem app_at (X S Y : List Int) {k : Nat} (hk : k < S.length) : (X ++ (S ++ Y)).getD (X.length + k) 0 = S.getD k 0 := by
  rw [List.getD_eq_getElem?_getD, List.getD_eq_getElem?_getD, List.getElem?_append_right (by omega), Nat.add_sub_cancel_left, List.getElem?_append_left hk]
theorem app_at0 (X S Y : List Int) (hk : 0 < S.length) : (X ++ (S ++ Y)).getD X.length 0 = S.getD 0 0 := app_at X S Y hk
theorem app_sub (X S Y : List Int) : sub (X ++ (S ++ Y)) X.length (X.length + S.length) = S := by
  unfold sub
  rw [List.drop_left, Nat.add_sub_cancel_left, List.take_left]
theorem spn_app {f : Int → Bool} (X S Y : List Int) (hS : S.all f = true) (hf : f 32 = false) (hY : Sp Y) : spn f (X ++ (S ++ Y)) X.length = X.length + S.length := by
  unfold spn
  rw [List.drop_left, List.takeWhile_append_of_pos (by simpa using hS)]
  have : Y.takeWhile f = [] := by
    rcases hY with rfl | ⟨r, rfl⟩
    · rfl
    · rw [List.takeWhile_cons, if_neg (by rw [hf]; decide)]
  rw [this, List.append_nil]
theorem not_rmk0 {B : List Int} {p : Nat} (h : B.getD p 0 ≠ 47) : rmk B p = false := by
  unfold rmk
  rw [show (B.getD p 0 == 47) = false by simpa using h]
  rfl
theorem sml_is {c : Int} (h : sml c = true) : 97 ≤ c ∧ c ≤ 122 := by
  unfold sml at h
  simpa using h
theorem dig_is {c : Int} (h : dig c = true) : 48 ≤ c ∧ c ≤ 57 := by
  unfold dig at h
  simpa using h
theorem blk_no {c : Int} (h : 33 ≤ c) : blk c = false := by
  unfold blk
  simp
  omega
theorem bk_name {X l Y : List Int} (h : okN l = true) (hY : Sp Y) : stp (X ++ (l ++ Y)) X.length = .tok ⟨1, l, 0, X.length⟩ (X.length + l.length) := by
  unfold okN at h
  simp only [Bool.and_eq_true, decide_eq_true_eq] at h
  obtain ⟨h0, h1, h2, h3⟩ := h
  have hl : 0 < l.length := List.length_pos_iff.2 h0
  have hc := app_at0 X l Y hl
  have hs := sml_is h2
  unfold stp
  rw [not_rmk0 (by rw [hc]; omega), hc, blk_no (by omega), h2]
  simp only [Bool.false_eq_true, if_false, if_true]
  unfold nme
  rw [spn_app X l Y h3 (by decide) hY, app_sub, if_neg (by omega)]
theorem dcm_all : ∀ (k : Nat) (n : Int), 0 ≤ n → n.toNat ≤ k → (∀ c ∈ dcm n, dig c = true) ∧ val (dcm n) = n ∧ dcm n ≠ [] ∧ (1 ≤ n → 49 ≤ (dcm n).getD 0 0)
  | k, n, h0, hk => by
    by_cases h : n < 10
    · rw [dcm_small h0 h]
      refine ⟨fun c hc => ?_, ?_, by simp, fun h1 => ?_⟩
      · obtain rfl : c = 48 + n := by simpa using hc
        unfold dig
        simp
        omega
      · show 10 * 0 + (48 + n - 48) = n
        omega
      · show 49 ≤ 48 + n
        omega
    · match k, hk with
      | 0, hk => omega
      | k + 1, hk =>
        obtain ⟨h1, h2, h3, h4⟩ := dcm_all k (n / 10) (by omega) (by omega)
        have e : dcm n = dcm (n / 10) ++ [48 + n % 10] := by
          have := dcm_big (n := n / 10) (c := n % 10) (by omega) (by omega) (by omega)
          rw [show 10 * (n / 10) + n % 10 = n by omega] at this
          exact this
        rw [e]
        refine ⟨fun c hc => ?_, ?_, by simp, fun _ => ?_⟩
        · rcases List.mem_append.1 hc with hc | hc
          · exact h1 c hc
          · obtain rfl : c = 48 + n % 10 := by simpa using hc
            unfold dig
            simp
            omega
        · rw [val_app, h2]
          omega
        · have h5 := h4 (by omega)
          have hp : 0 < (dcm (n / 10)).length := List.length_pos_iff.2 h3
          rw [List.getD_eq_getElem?_getD, List.getElem?_append_left hp, ← List.getD_eq_getElem?_getD]
          exact h5
theorem bk_num {X Y : List Int} {n : Int} (h0 : 0 ≤ n) (h1 : n ≤ 9223372036854775807) (hY : Sp Y) : stp (X ++ (dcm n ++ Y)) X.length = .tok ⟨2, [], n, X.length⟩ (X.length + (dcm n).length) := by
  obtain ⟨a1, a2, a3, a4⟩ := dcm_all n.toNat n h0 (Nat.le_refl _)
  have hl : 0 < (dcm n).length := List.length_pos_iff.2 a3
  have hc := app_at0 X (dcm n) Y hl
  have hd : dig ((dcm n).getD 0 0) = true := by
    rw [List.getD_eq_getElem?_getD, List.getElem?_eq_getElem hl]
    exact a1 _ (List.getElem_mem hl)
  have hs := dig_is hd
  have hnu : nue (X ++ (dcm n ++ Y)) X.length = X.length + (dcm n).length := by
    unfold nue
    rw [hc]
    by_cases hz : n = 0
    · subst hz
      rw [dcm_small (by omega) (by omega)]
      rfl
    · have h5 := a4 (by omega)
      rw [if_neg (by rw [beq_iff_eq]; omega)]
      obtain ⟨c, r, hr⟩ : ∃ c r, dcm n = c :: r := List.exists_cons_of_ne_nil a3
      rw [hr]
      have h6 := spn_app (f := dig) (X ++ [c]) r Y (by
        rw [List.all_eq_true]
        intro x hx
        exact a1 x (by rw [hr]; exact List.mem_cons_of_mem _ hx)) (by decide) hY
      rw [List.append_assoc, List.length_append] at h6
      rw [show X ++ (c :: r ++ Y) = X ++ ([c] ++ (r ++ Y)) by simp]
      rw [show X.length + 1 = X.length + [c].length from rfl, h6]
      simp
      omega
  have hsp : spn prt (X ++ (dcm n ++ Y)) (X.length + (dcm n).length) = X.length + (dcm n).length := by
    have h6 := spn_app (f := prt) (X ++ dcm n) [] Y rfl (by decide) hY
    rw [List.append_assoc, List.length_append, List.nil_append] at h6
    exact h6
  unfold stp
  rw [not_rmk0 (by rw [hc]; omega), hc, blk_no (by omega), show sml ((dcm n).getD 0 0) = false by unfold sml; rw [decide_eq_false (by omega)]; rfl, hd]
  simp only [Bool.false_eq_true, if_false, if_true]
  unfold nmb
  rw [hnu, app_sub, a2, if_neg (by omega), hsp, if_neg (by omega)]
theorem drop_head {B : List Int} {i : Nat} {c : Int} {r : List Int} (h : B.drop i = c :: r) : i < B.length ∧ B.getD i 0 = c ∧ B.drop (i + 1) = r := by
  have h1 : i < B.length := by
    rcases Nat.lt_or_ge i B.length with h9 | h9
    · exact h9
    · rw [List.drop_eq_nil_of_le h9] at h
      cases h
  refine ⟨h1, ?_, ?_⟩
  · rw [drop_at h1] at h
    exact (List.cons.inj h).1
  · rw [drop_at h1] at h
    exact (List.cons.inj h).2
theorem esc_is {c : Int} : esc c = true ↔ c = 34 ∨ c = 92 := by
  unfold esc
  simp
theorem bk_txt {B Y : List Int} {p : Nat} : ∀ (r : List Int) (n i : Nat) (acc : List Int), B.drop i = r.flatMap quC ++ (34 :: Y) → r.all pln = true → acc.length + r.length ≤ 64 → r.length < n → txt B p n i acc = .tok ⟨3, acc ++ r, 0, p⟩ (i + (r.flatMap quC).length + 1)
  | [], n, i, acc, h, _, hl, hn => by
    match n, hn with
    | n + 1, _ =>
      obtain ⟨h1, h2, -⟩ := drop_head h
      rw [txt, if_neg (by omega), h2]
      simp at hl ⊢
      omega
  | c :: r, n, i, acc, h, ha, hl, hn => by
    match n, hn with
    | n + 1, hn =>
      rw [List.all_cons, Bool.and_eq_true] at ha
      have hp : 32 ≤ c ∧ c ≤ 126 := by
        have := ha.1
        unfold pln at this
        simpa using this
      simp only [List.length_cons] at hl hn
      by_cases he : esc c = true
      · have e1 : quC c = [92, c] := by unfold quC; rw [if_pos he]
        rw [List.flatMap_cons, e1] at h ⊢
        obtain ⟨h1, h2, h3⟩ := drop_head (r := c :: (r.flatMap quC ++ (34 :: Y))) (by rw [h]; rfl)
        obtain ⟨h4, h5, h6⟩ := drop_head h3
        have ih := bk_txt (p := p) r n (i + 2) (acc ++ [c]) h6 ha.2 (by simp; omega) (by omega)
        rw [txt, if_neg (by omega), h2, if_neg (by decide), if_neg (by decide), if_pos (by decide), if_neg (by omega), h5, if_pos he, ih]
        simp
        omega
      · have hq : ¬ c = 34 ∧ ¬ c = 92 := by
          rw [esc_is] at he
          omega
        rw [List.flatMap_cons, quC_one hq.1 hq.2] at h ⊢
        obtain ⟨h1, h2, h3⟩ := drop_head (r := r.flatMap quC ++ (34 :: Y)) (by rw [h]; rfl)
        have ih := bk_txt (p := p) r n (i + 1) (acc ++ [c]) h3 ha.2 (by simp; omega) (by omega)
        rw [txt, if_neg (by omega), h2, if_neg (by simp; omega), if_neg (by simp; omega), if_neg (by simp; omega), if_pos ha.1, ih]
        simp
        omega
theorem quo_len (l : List Int) : (quo l).length = (l.flatMap quC).length + 2 := by
  unfold quo
  simp
theorem fl_len : ∀ l : List Int, l.length ≤ (l.flatMap quC).length
  | [] => Nat.le_refl _
  | c :: r => by
    have := fl_len r
    rw [List.flatMap_cons, List.length_append, List.length_cons]
    have : 1 ≤ (quC c).length := by unfold quC; split <;> simp
    omega
theorem bk_text {X l Y : List Int} (h : okT l = true) : stp (X ++ (quo l ++ Y)) X.length = .tok ⟨3, l, 0, X.length⟩ (X.length + (quo l).length) := by
  unfold okT at h
  simp only [Bool.and_eq_true, decide_eq_true_eq] at h
  have hq := quo_len l
  have hc := app_at0 X (quo l) Y (by omega)
  have hc : (X ++ (quo l ++ Y)).getD X.length 0 = 34 := hc
  have hd : (X ++ (quo l ++ Y)).drop (X.length + 1) = l.flatMap quC ++ (34 :: Y) := by
    have e : X ++ (quo l ++ Y) = (X ++ [34]) ++ (l.flatMap quC ++ (34 :: Y)) := by unfold quo; simp
    rw [e, show X.length + 1 = (X ++ [34]).length by simp, List.drop_left]
  have := bk_txt (p := X.length) l ((X ++ (quo l ++ Y)).length - X.length) (X.length + 1) [] hd h.2 (by simpa using h.1) (by
    have := fl_len l
    simp
    omega)
  unfold stp
  rw [not_rmk0 (by rw [hc]; decide), hc, show blk 34 = false by decide, show sml 34 = false by decide, show dig 34 = false by decide]
  simp only [Bool.false_eq_true, if_false]
  rw [if_pos (by decide), this, hq, List.nil_append]
  congr 1
  omega
end TK
end Go.Proofs.YtjjikeehifndhaaDoor
