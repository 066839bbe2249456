/-
  The line and the column of a place.
-/
import Derived.Test.YtkldllnnocdhbaaGreatDoorPc10
import Derived.Test.YtkldllnnocdhbaaGreatDoorKt8
import Derived.Test.YtkldllnnocdhbaaGreatDoorTu8
import Derived.Test.YtkldllnnocdhbaaGreatDoorTv8
import Derived.Handy
namespace Go.Proofs.YtkldllnnocdhbaaGreatDoor
namespace TP
open TR (Nd)
open TK (Tok)
/- "1 - a" -/
def cs1 : List Tok := [⟨2, [], 1, 0⟩, ⟨4, [45], 0, 2⟩, ⟨1, [97], 0, 4⟩, ⟨0, [], 0, 5⟩]
/- card "A" { cost 3; } -/
def cs2 : List Tok := [⟨1, [99, 97, 114, 100], 0, 0⟩, ⟨3, [65], 0, 5⟩, ⟨4, [123], 0, 9⟩, ⟨1, [99, 111, 115, 116], 0, 11⟩, ⟨2, [], 3, 16⟩, ⟨4, [59], 0, 17⟩, ⟨4, [125], 0, 19⟩, ⟨0, [], 0, 20⟩]
theorem cs1_is : P cs1 (fuel cs1) (.row 1) 0 0 = some (.ok (nod 45 0 [] 2 (.cons ⟨30, 0, 1, 0, [], 0, 0⟩ .nil (.cons ⟨33, 0, 0, 0, [97], 4, 0⟩ .nil .nil))) 3) := by decide +kernel
theorem cs2_is : P cs2 (fuel cs2) (.cards .nil) 0 0 = some (.ok (nod 2 0 [65] 0 (nod 3 3 [] 11 .nil)) 7) := by decide +kernel
end TP
end Go.Proofs.YtkldllnnocdhbaaGreatDoor
namespace Go.Proofs.YtkldllnnocdhbaaGreatDoor
namespace TP
open TR (Nd)
open TK (Tok tex)
def cb1 : List Int := [49, 32, 45, 32, 97]
def cb2 : List Int := [99, 97, 114, 100, 32, 34, 65, 34, 32, 123, 32, 99, 111, 115, 116, 32, 51, 59, 32, 125]
theorem cut1_is : TK.cuL cb1 = cs1 ∧ TK.cuE cb1 = 0 ∧ TK.cuA cb1 = 0 := by decide +kernel
theorem cut2_is : TK.cuL cb2 = cs2 ∧ TK.cuE cb2 = 0 ∧ TK.cuA cb2 = 0 := by decide +kernel
theorem fl1_is : flF (nod 45 0 [] 2 (.cons ⟨30, 0, 1, 0, [], 0, 0⟩ .nil (.cons ⟨33, 0, 0, 0, [97], 4, 0⟩ .nil .nil))) = [⟨45, 0, 0, 0, [], 2, 2⟩, ⟨30, 0, 1, 0, [], 0, 0⟩, ⟨33, 0, 0, 0, [97], 4, 0⟩] := by decide +kernel
theorem fl2_is : flF (nod 1 0 [] 0 (nod 2 0 [65] 0 (nod 3 3 [] 11 .nil))) = [⟨1, 0, 0, 0, [], 0, 1⟩, ⟨2, 0, 0, 0, [65], 0, 1⟩, ⟨3, 0, 3, 0, [], 11, 0⟩] := by decide +kernel
theorem tex1 : ∀ i, i + 1 < cs1.length → tex (tk cs1 i) ≠ [] := by
  intro i hi
  have h : i < 3 := by have h2 : cs1.length = 4 := rfl; omega
  rcases i with _ | _ | _ | i <;> first | decide +kernel | omega
theorem tex2 : ∀ i, i + 1 < cs2.length → tex (tk cs2 i) ≠ [] := by
  intro i hi
  have h : i < 7 := by have h2 : cs2.length = 8 := rfl; omega
  rcases i with _ | _ | _ | _ | _ | _ | _ | i <;> first | decide +kernel | omega
end TP
end Go.Proofs.YtkldllnnocdhbaaGreatDoor
namespace Go.Proofs.YtkldllnnocdhbaaGreatDoor
namespace TK
theorem vfr_app (l : List Int) (c a : Int) : vfr a (l ++ [c]) = 10 * vfr a l + (c - 48) := by
  unfold vfr
  rw [List.foldl_append]
  rfl
theorem val_app (l : List Int) (c : Int) : val (l ++ [c]) = 10 * val l + (c - 48) := vfr_app l c 0
theorem val_one {c : Int} {r : List Int} (hc : 49 ≤ c) (h : ∀ x ∈ r, dig x = true) : 1 ≤ val (c :: r) := by
  have := vfr_ge r (10 * 0 + (c - 48)) (by omega) h
  have e : val (c :: r) = vfr (10 * 0 + (c - 48)) r := rfl
  omega
theorem dcm_small {n : Int} (h0 : 0 ≤ n) (h : n < 10) : dcm n = [48 + n] := by
  unfold dcm Lib.itoa
  rw [if_neg (by omega), Lib.decDigits_one (by omega)]
  simp only [List.map_cons, List.map_nil, UInt8.toNat_ofNat']
  congr 1
  omega
theorem dcm_big {n c : Int} (hn : 1 ≤ n) (h0 : 0 ≤ c) (hc : c < 10) : dcm (10 * n + c) = dcm n ++ [48 + c] := by
  unfold dcm Lib.itoa
  rw [if_neg (by omega), if_neg (by omega), Lib.decDigits, dif_neg (by omega), List.map_append, show (10 * n + c).toNat / 10 = n.toNat by omega]
  congr 1
  simp only [List.map_cons, List.map_nil, UInt8.toNat_ofNat']
  congr 1
  omega
theorem dcm_val : ∀ (k : Nat) (l : List Int), l.length = k → (∀ c ∈ l, dig c = true) → 49 ≤ l.getD 0 0 → dcm (val l) = l
  | 0, l, hk, _, h1 => by
    obtain rfl : l = [] := List.length_eq_zero_iff.1 hk
    exact absurd h1 (by decide)
  | k + 1, l, hk, hd, h1 => by
    have hne : l ≠ [] := by intro e; rw [e] at hk; cases hk
    have e := (List.dropLast_concat_getLast hne).symm
    generalize l.dropLast = r at e
    generalize l.getLast hne = c at e
    subst e
    have hc := hd c (by simp)
    unfold dig at hc
    simp only [Bool.and_eq_true, decide_eq_true_eq] at hc
    cases r with
    | nil =>
      have e2 : val ([] ++ [c]) = c - 48 := by rw [val_app]; show 10 * 0 + (c - 48) = _; omega
      rw [e2, dcm_small (by omega) (by omega), show 48 + (c - 48) = c by omega]
      rfl
    | cons a r =>
      have h2 : 49 ≤ a := h1
      have h3 := val_one (c := a) (r := r) h2 (fun x hx => hd x (by simp [hx]))
      rw [val_app, dcm_big h3 (by omega) (by omega), dcm_val k (a :: r) (by simpa using hk) (fun x hx => hd x (List.mem_append_left _ hx)) h2, show 48 + (c - 48) = c by omega]
theorem sub_more {B : List Int} {p i : Nat} (h1 : p ≤ i) (h2 : i < B.length) : sub B p (i + 1) = sub B p i ++ [B.getD i 0] := by
  unfold sub
  rw [show i + 1 - p = (i - p) + 1 by omega, List.take_add_one, List.getElem?_drop, show p + (i - p) = i by omega, List.getElem?_eq_getElem h2, List.getD_eq_getElem?_getD, List.getElem?_eq_getElem h2]
  rfl
theorem sub_self (B : List Int) (p : Nat) : sub B p p = [] := by
  unfold sub
  rw [Nat.sub_self]
  rfl
theorem sub_ln {B : List Int} {p e : Nat} (h : e ≤ B.length) : (sub B p e).length = e - p := by
  unfold sub
  rw [List.length_take, List.length_drop]
  omega
theorem sub_at {B : List Int} {p e i : Nat} (h : i < e - p) : (sub B p e).getD i 0 = B.getD (p + i) 0 := by
  unfold sub
  rw [List.getD_eq_getElem?_getD, List.getElem?_take, if_pos h, List.getElem?_drop, List.getD_eq_getElem?_getD]
theorem sub_mem {B : List Int} {p e : Nat} (he : e ≤ B.length) {c : Int} (h : c ∈ sub B p e) : ∃ i, p ≤ i ∧ i < e ∧ c = B.getD i 0 := by
  obtain ⟨j, hj, rfl⟩ := List.mem_iff_getElem.1 h
  rw [sub_ln he] at hj
  refine ⟨p + j, by omega, by omega, ?_⟩
  rw [← sub_at (p := p) (e := e) hj, List.getD_eq_getElem?_getD, List.getElem?_eq_getElem (by rw [sub_ln he]; exact hj)]
  rfl
/- a text between quotes -/
theorem quC_one {c : Int} (h1 : ¬ c = 34) (h2 : ¬ c = 92) : quC c = [c] := by
  unfold quC esc
  rw [if_neg (by simp [h1, h2])]
theorem txt_std {B : List Int} {p : Nat} : ∀ (n i : Nat) (acc : List Int) (t : Tok) (q : Nat), p ≤ i → i ≤ B.length → sub B p i = [34] ++ acc.flatMap quC → acc.all pln = true → txt B p n i acc = .tok t q → ∃ l, t = ⟨3, l, 0, p⟩ ∧ okT l = true ∧ sub B p q = quo l
  | 0, i, acc, t, q, _, _, _, _, h => by cases h
  | n + 1, i, acc, t, q, h1, h2, h3, h4, h => by
    unfold txt at h
    split at h
    · cases h
    · rename_i hi
      have hi : i < B.length := by omega
      split at h
      · cases h
      · split at h
        · rename_i h34
          split at h
          · cases h
          · rename_i h64
            cases h
            refine ⟨acc, rfl, ?_, ?_⟩
            · unfold okT
              rw [h4, Bool.and_true, decide_eq_true_eq]
              omega
            · have e34 : B.getD i 0 = 34 := by simpa using h34
              rw [sub_more h1 hi, h3, e34]
              unfold quo
              rw [List.append_assoc]
        · rename_i h34
          have h34 : ¬ B.getD i 0 = 34 := by simpa using h34
          split at h
          · rename_i h92
            have h92 : B.getD i 0 = 92 := by simpa using h92
            split at h
            · cases h
            · rename_i hi1
              have hi1 : i + 1 < B.length := by omega
              split at h
              · rename_i he
                refine txt_std n (i + 2) _ t q (by omega) (by omega) ?_ ?_ h
                · rw [sub_more (i := i + 1) (by omega) hi1, sub_more h1 hi, h3, List.flatMap_append, h92]
                  generalize B.getD (i + 1) 0 = c at he
                  simp [quC, he]
                · rw [List.all_append, h4]
                  unfold esc at he
                  simp only [Bool.or_eq_true, beq_iff_eq] at he
                  rcases he with he | he <;> (rw [he]; decide)
              · cases h
          · rename_i h92
            have h92 : ¬ B.getD i 0 = 92 := by simpa using h92
            split at h
            · rename_i hp
              refine txt_std n (i + 1) _ t q (by omega) (by omega) ?_ ?_ h
              · rw [sub_more h1 hi, h3, List.flatMap_append, List.append_assoc]
                generalize B.getD i 0 = c at h34 h92
                simp [quC_one h34 h92]
              · rw [List.all_append, h4]
                generalize B.getD i 0 = c at hp
                simp [hp]
            · cases h
theorem stp_std {B : List Int} {p q : Nat} {t : Tok} (hp : p < B.length) (h : stp B p = .tok t q) : t.pos = p ∧ sub B p q = tex t ∧ tex t ≠ [] := by
  have hq := stp_tok hp h
  refine ⟨hq.2.2, ?_⟩
  have hne : sub B p q ≠ [] := by
    intro e
    have := sub_ln (B := B) (p := p) hq.2.1
    rw [e] at this
    simp at this
    omega
  suffices hs : sub B p q = tex t by exact ⟨hs, hs ▸ hne⟩
  unfold stp at h
  split at h
  · cases h
  · split at h
    · cases h
    · split at h
      · rename_i hsm
        unfold nme at h
        split at h
        · cases h
        · rename_i h32
          cases h
          have hok : okN (sub B p (spn prt B p)) = true := by
            unfold okN
            rw [decide_eq_true hne, sub_ln hq.2.1, decide_eq_true (by omega), sub_at (by omega), Nat.add_zero, hsm]
            simp only [Bool.true_and, List.all_eq_true]
            intro c hc
            obtain ⟨i, hi1, hi2, rfl⟩ := sub_mem hq.2.1 hc
            exact spn_all hi1 hi2
          unfold tex
          rw [if_neg (by simp), if_neg (by simp), if_neg (by simp), if_pos (Or.inl ⟨rfl, hok⟩)]
      · split at h
        · rename_i hdg
          unfold nmb at h
          split at h
          · cases h
          · rename_i hbig
            split at h
            · cases h
            · cases h
              have hin := nue_in hp
              have hds : ∀ c ∈ sub B p (nue B p), dig c = true := by
                intro c hc
                obtain ⟨i, hi1, hi2, rfl⟩ := sub_mem hin.2 hc
                by_cases e : i = p
                · rw [e]; exact hdg
                · unfold nue at hi2
                  split at hi2
                  · omega
                  · exact spn_all (by omega) hi2
              have h0 := vfr_ge (sub B p (nue B p)) 0 (by omega) hds
              have h0 : 0 ≤ val (sub B p (nue B p)) := h0
              have hv : dcm (val (sub B p (nue B p))) = sub B p (nue B p) := by
                by_cases h48 : B.getD p 0 = 48
                · have e1 : nue B p = p + 1 := by unfold nue; rw [if_pos (by rw [h48]; rfl)]
                  rw [e1, sub_more (Nat.le_refl _) hp, sub_self, h48]
                  decide +kernel
                · refine dcm_val _ _ rfl hds ?_
                  rw [sub_at (by omega), Nat.add_zero]
                  unfold dig at hdg
                  simp only [Bool.and_eq_true, decide_eq_true_eq] at hdg
                  omega
              unfold tex
              rw [if_neg (by simp; omega), if_pos ⟨rfl, rfl⟩, hv]
        · split at h
          · rename_i h34
            have h34 : B.getD p 0 = 34 := by simpa using h34
            obtain ⟨l, rfl, ho, hs⟩ := txt_std _ (p + 1) [] t q (by omega) (by omega) (by rw [sub_more (Nat.le_refl _) hp, sub_self, h34]; rfl) rfl h
            rw [hs]
            unfold tex
            rw [if_neg (by simp), if_neg (by simp), if_neg (by simp), if_neg (by simp), if_pos ⟨rfl, ho⟩]
          · unfold mkk at h
            split at h
            · rename_i h2
              cases h
              rw [sub_more (i := p + 1) (by omega) h2.1, sub_more (Nat.le_refl _) hp, sub_self]
              unfold tex
              rw [if_neg (by simp), if_neg (by simp), if_neg (by simp), if_pos (Or.inr ⟨rfl, h2.2⟩)]
              rfl
            · split at h
              · rename_i h2
                cases h
                rw [sub_more (Nat.le_refl _) hp, sub_self]
                unfold tex
                rw [if_neg (by simp), if_neg (by simp), if_neg (by simp), if_pos (Or.inr ⟨rfl, h2⟩)]
                rfl
              · cases h
theorem hnk {B : List Int} {p q : Nat} (h1 : blk (B.getD p 0) = false) (h2 : rmk B p = false) : stp B p ≠ .skip q := by
  intro h
  have hnt : ∀ n i acc, txt B p n i acc ≠ .skip q := by
    intro n
    induction n with
    | zero => intro i acc h; cases h
    | succ n ih =>
      intro i acc h
      unfold txt at h
      split at h
      · cases h
      · split at h
        · cases h
        · split at h
          · split at h <;> cases h
          · split at h
            · split at h
              · cases h
              · split at h
                · exact ih _ _ h
                · cases h
            · split at h
              · exact ih _ _ h
              · cases h
  unfold stp at h
  rw [if_neg (by rw [h1]; decide), if_neg (by rw [h2]; decide)] at h
  split at h
  · unfold nme at h
    split at h <;> cases h
  · split at h
    · unfold nmb at h
      split at h
      · cases h
      · split at h <;> cases h
    · split at h
      · exact absurd h (hnt _ _ _)
      · unfold mkk at h
        split at h
        · cases h
        · split at h <;> cases h
theorem stp_num {B : List Int} {p q : Nat} {t : Tok} (hp : p < B.length) (h : stp B p = .tok t q) : t.num ≤ 9223372036854775807 := by
  unfold stp at h
  split at h
  · cases h
  · split at h
    · cases h
    · split at h
      · unfold nme at h
        split at h
        · cases h
        · cases h
          exact (by decide : (0 : Int) ≤ 9223372036854775807)
      · split at h
        · unfold nmb at h
          split at h
          · cases h
          · rename_i hbig
            split at h
            · cases h
            · cases h
              show val _ ≤ _
              omega
        · split at h
          · rename_i h34
            have h34 : B.getD p 0 = 34 := by simpa using h34
            obtain ⟨l, rfl, -, -⟩ := txt_std _ (p + 1) [] t q (by omega) (by omega) (by rw [sub_more (Nat.le_refl _) hp, sub_self, h34]; rfl) rfl h
            exact (by decide : (0 : Int) ≤ 9223372036854775807)
          · unfold mkk at h
            split at h
            · cases h
              exact (by decide : (0 : Int) ≤ 9223372036854775807)
            · split at h
              · cases h
                exact (by decide : (0 : Int) ≤ 9223372036854775807)
              · cases h
/- what lies between: steps that pass over something -/
inductive Gp (B : List Int) : Nat → Nat → Prop
  | refl (p : Nat) : Gp B p p
  | step {b p q : Nat} : Gp B b p → p < B.length → stp B p = .skip q → Gp B b q
theorem Gp.le {B : List Int} {b p : Nat} (h : Gp B b p) : b ≤ p := by
  induction h with
  | refl => exact Nat.le_refl _
  | step _ hp hs ih => have := stp_skip hp hs; omega
theorem takeW_take {f : Int → Bool} : ∀ (l : List Int) (k : Nat), (l.takeWhile f).length ≤ k → ((l.take k).takeWhile f).length = (l.takeWhile f).length
  | [], k, _ => by simp
  | c :: r, k, h => by
    rw [List.takeWhile_cons] at h ⊢
    by_cases hc : f c = true
    · rw [if_pos hc] at h ⊢
      cases k with
      | zero => simp at h
      | succ k =>
        rw [List.take_succ_cons, List.takeWhile_cons, if_pos hc, List.length_cons, List.length_cons, takeW_take r k (by simpa using h)]
    · rw [if_neg hc]
      cases k with
      | zero => rfl
      | succ k => rw [List.take_succ_cons, List.takeWhile_cons, if_neg hc]
theorem spn_sub {f : Int → Bool} {B : List Int} {b p e : Nat} (h1 : b ≤ p) (h2 : spn f B p ≤ e) : spn f (sub B b e) (p - b) = spn f B p - b := by
  have h3 := spn_ge f B p
  have e1 : (sub B b e).drop (p - b) = (B.drop p).take (e - p) := by
    unfold sub
    rw [List.drop_take, List.drop_drop, show b + (p - b) = p by omega, show e - b - (p - b) = e - p by omega]
  unfold spn at h2 ⊢
  rw [e1, takeW_take _ _ (by omega)]
  omega
theorem stp_sub {B : List Int} {b p q e : Nat} (hb : b ≤ p) (hp : p < B.length) (hs : stp B p = .skip q) (hq : q ≤ e) (he : e ≤ B.length) : stp (sub B b e) (p - b) = .skip (q - b) := by
  have hk := stp_skip hp hs
  have g0 : (sub B b e).getD (p - b) 0 = B.getD p 0 := by rw [sub_at (by omega), show b + (p - b) = p by omega]
  have hcases : blk (B.getD p 0) = true ∧ q = p + 1 ∨ blk (B.getD p 0) = false ∧ rmk B p = true ∧ q = spn nnl B p := by
    unfold stp at hs
    split at hs
    · rename_i h1
      cases hs
      exact Or.inl ⟨h1, rfl⟩
    · rename_i h1
      split at hs
      · rename_i h2
        cases hs
        exact Or.inr ⟨by simpa using h1, h2, rfl⟩
      · exfalso
        rename_i h2
        have h3 := hnk (B := B) (p := p) (q := q)
        exact h3 (by simpa using h1) (by simpa using h2) (by unfold stp; rw [if_neg h1, if_neg h2]; exact hs)
  unfold stp
  rw [g0]
  rcases hcases with ⟨h1, rfl⟩ | ⟨h1, h2, rfl⟩
  · rw [if_pos h1, show p + 1 - b = p - b + 1 by omega]
  · have h3 : B.getD p 0 = 47 ∧ p + 1 < B.length ∧ B.getD (p + 1) 0 = 47 := by
      unfold rmk at h2
      simpa using h2
    have n0 : nnl (B.getD p 0) = true := by rw [h3.1]; decide
    have n1 : nnl (B.getD (p + 1) 0) = true := by rw [h3.2.2]; decide
    have h4 : p + 1 < spn nnl B p := by
      rw [spn_more hp n0]
      exact spn_gt h3.2.1 n1
    have g1 : (sub B b e).getD (p - b + 1) 0 = B.getD (p + 1) 0 := by rw [sub_at (by omega), show b + (p - b + 1) = p + 1 by omega]
    have h5 : rmk (sub B b e) (p - b) = true := by
      unfold rmk
      rw [g0, g1, sub_ln he, h3.1, h3.2.2, decide_eq_true (by omega)]
      decide
    rw [if_neg (by rw [h1]; decide), if_pos h5, spn_sub hb hq]
theorem gp_ct {B : List Int} {b p e : Nat} (h : Gp B b p) (h1 : p ≤ e) (he : e ≤ B.length) : Ct (sub B b e) (p - b) [] := by
  induction h with
  | refl => rw [Nat.sub_self]; exact ct_start _
  | step hg hp hs ih =>
    have hk := stp_skip hp hs
    have hl := hg.le
    refine (ih (by omega)).skip (by rw [sub_ln he]; omega) (stp_sub hl hp hs h1 he)
theorem gp_cut {B : List Int} {b p : Nat} (h : Gp B b p) (hp : p ≤ B.length) (hl : B.length ≤ 65536) : cuE (sub B b p) = 0 ∧ (cuL (sub B b p)).length = 1 := by
  have h1 := (gp_ct h (Nat.le_refl _) hp).fin (by rw [sub_ln hp]; omega)
  have h2 : ¬ 65536 < (sub B b p).length := by rw [sub_ln hp]; omega
  unfold cuE cuL
  rw [if_neg h2, if_neg h2, h1]
  exact ⟨rfl, rfl⟩
/- the place behind the first i tokens -/
def bhd (L : List Tok) (i : Nat) : Nat := if i = 0 then 0 else ((L.getD (i - 1) ⟨0, [], 0, 0⟩).pos).toNat + (tex (L.getD (i - 1) ⟨0, [], 0, 0⟩)).length
/- a token that stands in the source, behind b -/
def Snd (B : List Int) (b : Nat) (t : Tok) : Prop := t.num ≤ 9223372036854775807 ∧ ∃ p : Nat, t.pos = (p : Int) ∧ p + (tex t).length ≤ B.length ∧ sub B p (p + (tex t).length) = tex t ∧ Gp B b p
structure Sl (B : List Int) (L : List Tok) : Prop where
  each : ∀ i, i < L.length → Snd B (bhd L i) (L.getD i ⟨0, [], 0, 0⟩) ∧ tex (L.getD i ⟨0, [], 0, 0⟩) ≠ []
theorem getD_app {L : List Tok} {t d : Tok} {i : Nat} (h : i < L.length) : (L ++ [t]).getD i d = L.getD i d := by
  rw [List.getD_eq_getElem?_getD, List.getD_eq_getElem?_getD, List.getElem?_append_left h]
theorem getD_end {L : List Tok} {t d : Tok} : (L ++ [t]).getD L.length d = t := by
  rw [List.getD_eq_getElem?_getD, List.getElem?_append_right (Nat.le_refl _), Nat.sub_self]
  rfl
theorem bhd_app {L : List Tok} {t : Tok} {i : Nat} (h : i ≤ L.length) : bhd (L ++ [t]) i = bhd L i := by
  unfold bhd
  by_cases h0 : i = 0
  · rw [if_pos h0, if_pos h0]
  · rw [if_neg h0, if_neg h0, getD_app (by omega)]
theorem bhd_end {L : List Tok} {t : Tok} : bhd (L ++ [t]) (L ++ [t]).length = t.pos.toNat + (tex t).length := by
  unfold bhd
  rw [List.length_append, List.length_singleton, if_neg (by omega), Nat.add_sub_cancel, getD_end]
theorem cut_std {B : List Int} : ∀ (n p : Nat) (L l : List Tok), p ≤ B.length → Gp B (bhd L L.length) p → Sl B L → B.length - p < n → cutF B n p L = .ok l → ∃ L', l = L' ++ [⟨0, [], 0, B.length⟩] ∧ Sl B L' ∧ Gp B (bhd L' L'.length) B.length
  | 0, p, L, l, _, _, _, hn, _ => by omega
  | n + 1, p, L, l, hp, hg, hs, hn, h => by
    unfold cutF at h
    split at h
    · rename_i hlt
      cases h
      obtain rfl : p = B.length := by omega
      exact ⟨L, rfl, hs, hg⟩
    · rename_i hlt
      have hlt : p < B.length := by omega
      split at h
      · rename_i q hq
        have := stp_skip hlt hq
        exact cut_std n q L l (by omega) (hg.step hlt hq) hs (by omega) h
      · rename_i t q hq
        have h1 := stp_tok hlt hq
        have h2 := stp_std hlt hq
        have h3 : q = p + (tex t).length := by
          rw [← h2.2.1, sub_ln h1.2.1]
          omega
        have e1 : bhd (L ++ [t]) (L ++ [t]).length = q := by rw [bhd_end, h2.1, h3, Int.toNat_natCast]
        refine cut_std n q (L ++ [t]) l (by omega) (by rw [e1]; exact Gp.refl _) ⟨fun i hi => ?_⟩ (by omega) h
        rw [List.length_append, List.length_singleton] at hi
        by_cases e : i < L.length
        · rw [bhd_app (by omega), getD_app e]
          exact hs.each i e
        · obtain rfl : i = L.length := by omega
          rw [bhd_app (Nat.le_refl _), getD_end]
          exact ⟨⟨stp_num hlt hq, p, h2.1, by omega, by rw [← h3]; exact h2.2.1, hg⟩, h2.2.2⟩
      · cases h
theorem std_of {B : List Int} (h : cuE B = 0) : B.length ≤ 65536 ∧ ∃ L, cuL B = L ++ [⟨0, [], 0, B.length⟩] ∧ Sl B L ∧ Gp B (bhd L L.length) B.length := by
  unfold cuE at h
  split at h
  · cases h
  · rename_i hl
    split at h
    · rename_i l hc
      obtain ⟨L, h1, h2, h3⟩ := cut_std (B := B) (B.length + 1) 0 [] l (Nat.zero_le _) (Gp.refl _) ⟨fun i hi => absurd hi (by simp)⟩ (by omega) hc
      refine ⟨by omega, L, ?_, h2, h3⟩
      unfold cuL
      rw [if_neg hl, hc, h1]
    · cases h
/- a fault's place -/
theorem txt_bad {B : List Int} {p : Nat} (hp : p < B.length) : ∀ (n i : Nat) (acc : List Int) (q : Nat), txt B p n i acc = .bad q → q < B.length
  | 0, i, acc, q, h => by cases h; exact hp
  | n + 1, i, acc, q, h => by
    unfold txt at h
    split at h
    · cases h; exact hp
    · split at h
      · cases h; exact hp
      · split at h
        · split at h
          · cases h; exact hp
          · cases h
        · split at h
          · split at h
            · cases h; omega
            · split at h
              · exact txt_bad hp n _ _ _ h
              · cases h; omega
          · split at h
            · exact txt_bad hp n _ _ _ h
            · cases h; omega
theorem stp_bad {B : List Int} {p q : Nat} (hp : p < B.length) (h : stp B p = .bad q) : q < B.length := by
  unfold stp at h
  split at h
  · cases h
  · split at h
    · cases h
    · split at h
      · unfold nme at h
        split at h
        · cases h; exact hp
        · cases h
      · split at h
        · unfold nmb at h
          split at h
          · cases h; exact hp
          · split at h
            · rename_i hlt
              cases h
              have := spn_le prt (B := B) (nue_in hp).2
              omega
            · cases h
        · split at h
          · exact txt_bad hp _ _ _ _ h
          · unfold mkk at h
            split at h
            · cases h
            · split at h
              · cases h
              · cases h; exact hp
theorem cutF_bad {B : List Int} : ∀ (n p : Nat) (L : List Tok) (q : Nat), cutF B n p L = .error q → q < B.length
  | 0, p, L, q, h => by cases h
  | n + 1, p, L, q, h => by
    unfold cutF at h
    split at h
    · cases h
    · rename_i hlt
      split at h
      · exact cutF_bad n _ _ _ h
      · exact cutF_bad n _ _ _ h
      · rename_i q' hq
        cases h
        exact stp_bad (by omega) hq
theorem cut_bad {B : List Int} (h : ¬ cuE B = 0) : cuL B = [] ∧ 0 ≤ cuA B ∧ (cuE B = 21 ∧ cuA B < B.length ∨ cuE B = 20 ∧ cuA B = 65536 ∧ 65536 < B.length) := by
  unfold cuE at h
  split at h
  · rename_i hl
    unfold cuL cuA cuE
    rw [if_pos hl, if_pos hl, if_pos hl]
    exact ⟨rfl, by omega, Or.inr ⟨rfl, rfl, hl⟩⟩
  · rename_i hl
    split at h
    · exact absurd rfl h
    · rename_i q hc
      have := cutF_bad _ _ _ _ hc
      unfold cuL cuA cuE
      rw [if_neg hl, if_neg hl, if_neg hl, hc]
      exact ⟨rfl, by simp, Or.inl ⟨rfl, by simpa using this⟩⟩
theorem tex_end (n : Nat) : tex ⟨0, [], 0, n⟩ = [] := by
  unfold tex
  rw [if_neg (by simp), if_neg (by simp), if_neg (by simp), if_neg (by simp), if_neg (by simp)]
theorem byt_sub {B : List Int} (h : Byt B) {p e : Nat} (he : e ≤ B.length) : Byt (sub B p e) := fun c hc => by
  obtain ⟨i, -, hi, rfl⟩ := sub_mem he hc
  exact h.at i
theorem snd_ok {B : List Int} {b : Nat} {t : Tok} (hB : Byt B) (hn : B.length ≤ 65536) (h : Snd B b t) (ht : tex t ≠ []) : Byt t.text ∧ t.text.length ≤ 65536 ∧ 0 ≤ t.num ∧ t.num ≤ 9223372036854775807 := by
  obtain ⟨h1, p, h2, h3, h4, -⟩ := h
  have hb : Byt (tex t) := by rw [← h4]; exact byt_sub hB h3
  have hl : (tex t).length ≤ 65536 := by omega
  unfold tex at ht hb hl
  split at ht
  · exact absurd rfl ht
  · rename_i hp
    rw [if_neg hp] at hb hl
    have h0 : 0 ≤ t.num := by omega
    split at ht
    · rename_i hk
      rw [hk.2]
      exact ⟨fun c hc => by simp at hc, by simp, h0, h1⟩
    · rename_i hk
      rw [if_neg hk] at hb hl
      split at ht
      · exact absurd rfl ht
      · rename_i hm
        rw [if_neg hm] at hb hl
        split at ht
        · rename_i ho
          rw [if_pos ho] at hb hl
          exact ⟨hb, hl, h0, h1⟩
        · split at ht
          · rename_i ho
            have h9 := ho.2
            unfold okT at h9
            rw [Bool.and_eq_true, decide_eq_true_eq, List.all_eq_true] at h9
            refine ⟨fun c hc => ?_, by omega, h0, h1⟩
            have := h9.2 c hc
            unfold pln at this
            simp only [Bool.and_eq_true, decide_eq_true_eq] at this
            omega
          · exact absurd rfl ht
/- everything that a loop over the tokens asks -/
theorem all_std {B : List Int} (hB : Byt B) (h : cuE B = 0) : B.length ≤ 65536 ∧ ∃ m, (cuL B).length = m + 1 ∧ (cuL B).getD m ⟨0, [], 0, 0⟩ = ⟨0, [], 0, B.length⟩ ∧ ∀ i, i < m + 1 → ∃ p : Nat, ((cuL B).getD i ⟨0, [], 0, 0⟩).pos = (p : Int) ∧ p + (tex ((cuL B).getD i ⟨0, [], 0, 0⟩)).length ≤ B.length ∧ sub B p (p + (tex ((cuL B).getD i ⟨0, [], 0, 0⟩)).length) = tex ((cuL B).getD i ⟨0, [], 0, 0⟩) ∧ Gp B (bhd (cuL B) i) p ∧ (tex ((cuL B).getD i ⟨0, [], 0, 0⟩) = [] ↔ i = m) ∧ bhd (cuL B) (i + 1) = p + (tex ((cuL B).getD i ⟨0, [], 0, 0⟩)).length ∧ Byt ((cuL B).getD i ⟨0, [], 0, 0⟩).text ∧ ((cuL B).getD i ⟨0, [], 0, 0⟩).text.length ≤ 65536 ∧ 0 ≤ ((cuL B).getD i ⟨0, [], 0, 0⟩).num ∧ ((cuL B).getD i ⟨0, [], 0, 0⟩).num ≤ 9223372036854775807 := by
  obtain ⟨hn, L, hL, hS, hG⟩ := std_of h
  refine ⟨hn, L.length, by rw [hL, List.length_append]; rfl, by rw [hL, getD_end], fun i hi => ?_⟩
  rw [hL]
  by_cases e : i < L.length
  · obtain ⟨h1, h2⟩ := hS.each i e
    have h3 := snd_ok hB hn h1 h2
    obtain ⟨-, p, h4, h5, h6, h7⟩ := h1
    have e3 : bhd (L ++ [⟨0, [], 0, B.length⟩]) (i + 1) = p + (tex (L.getD i ⟨0, [], 0, 0⟩)).length := by
      rw [bhd_app (by omega)]
      unfold bhd
      rw [if_neg (by omega), Nat.add_sub_cancel, h4, Int.toNat_natCast]
    rw [bhd_app (by omega), getD_app e, e3]
    exact ⟨p, h4, h5, h6, h7, ⟨fun h9 => absurd h9 h2, fun h9 => by omega⟩, rfl, h3⟩
  · obtain rfl : i = L.length := by omega
    have e3 : bhd (L ++ [⟨0, [], 0, B.length⟩]) (L.length + 1) = B.length + 0 := by
      have := bhd_end (L := L) (t := ⟨0, [], 0, B.length⟩)
      rw [List.length_append, List.length_singleton] at this
      rw [this, tex_end, Int.toNat_natCast]
      rfl
    rw [bhd_app (Nat.le_refl _), getD_end, tex_end, e3]
    refine ⟨B.length, rfl, by simp, ?_, hG, ⟨fun _ => rfl, fun _ => rfl⟩, rfl, fun c hc => by simp at hc, by simp, by simp, by simp⟩
    exact sub_self _ _
end TK
end Go.Proofs.YtkldllnnocdhbaaGreatDoor
namespace Go.Proofs.YtkldllnnocdhbaaGreatDoor
open Go.RowKit
attribute [local go_sem ↓] Go.wp_at_zero Go.wp_at_succ
namespace TK
/- a list of bytes that is nil, or lies at its block -/
theorem w64e (x : Int) : IntKind.i64.wrap x = wrap64 x := by rw [IntKind.wrap_i64, wrap64]
def LV (w : World) (v : Value) (B : List Int) : Prop := (v = .slice none 0 0 ∧ B = []) ∨ ∃ b o c, v = .slice (some ⟨b, o, none⟩) B.length c ∧ B.length ≤ c ∧ BA w b o B
theorem LV.up {w W : World} {v : Value} {B : List Int} (h : LV w v B) (u : Up w W) : LV W v B := by
  rcases h with h | ⟨b, o, c, h1, h2, h3⟩
  · exact .inl h
  · exact .inr ⟨b, o, c, h1, h2, h3.up u⟩
theorem own_lv {W : World} {base : Nat} {v : Value} {l : List Int} (h : W.ownsRow base 5 1 v l.length (bvs l)) : LV W v l := by
  have h0 := h
  rcases h.2 with ⟨rfl, h1⟩ | ⟨g, cap, cur, rfl, h1, h2, h3, h4⟩
  · exact .inl ⟨rfl, List.eq_nil_of_length_eq_zero h1⟩
  · refine .inr ⟨g, 0, cap, rfl, h3, fun W' u j hj => ?_⟩
    have h9 := h0.cellAt j (by omega)
    rw [bvs_at hj] at h9
    rw [Nat.zero_add]
    exact u.cell h9
/- what Line answers -/
def lnA (B : List Int) (k : Int) : Int × Int := if 0 ≤ k ∧ k ≤ B.length then ln (B.take k.toNat) else (0, 0)
theorem lnA_in {B : List Int} {k : Nat} (h : k ≤ B.length) : lnA B k = ln (B.take k) := by
  unfold lnA
  rw [if_pos ⟨by omega, by omega⟩, Int.toNat_natCast]
theorem lnA_out {B : List Int} {k : Int} (h : k < 0 ∨ (B.length : Int) < k) : lnA B k = (0, 0) := by
  unfold lnA
  rw [if_neg (by omega)]
end TK
end Go.Proofs.YtkldllnnocdhbaaGreatDoor
