
/-
  Tokens, no program: what a source is cut into.
-/
import Derived.WalkKit
namespace Go.Proofs.YtjjikeehifndhaaDoor
namespace TK
structure Tok where
  kind : Int
  text : List Int
  num : Int
  pos : Int
  deriving DecidableEq
def sml (c : Int) : Bool := decide (97 ≤ c) && decide (c ≤ 122)
def grt (c : Int) : Bool := decide (65 ≤ c) && decide (c ≤ 90)
def dig (c : Int) : Bool := decide (48 ≤ c) && decide (c ≤ 57)
def prt (c : Int) : Bool := sml c || grt c || dig c || c == 95
def blk (c : Int) : Bool := c == 9 || c == 10 || c == 13 || c == 32
def pln (c : Int) : Bool := decide (32 ≤ c) && decide (c ≤ 126)
def esc (c : Int) : Bool := c == 34 || c == 92
def nnl (c : Int) : Bool := c != 10
/- the first place from p on whose byte does not belong, or the end -/
def spn (f : Int → Bool) (B : List Int) (p : Nat) : Nat := p + ((B.drop p).takeWhile f).length
theorem drop_at {B : List Int} {p : Nat} (h : p < B.length) : B.drop p = B.getD p 0 :: B.drop (p + 1) := by
  rw [List.drop_eq_getElem_cons h, List.getD_eq_getElem?_getD, List.getElem?_eq_getElem h]
  rfl
theorem spn_end {f : Int → Bool} {B : List Int} {p : Nat} (h : ¬ p < B.length) : spn f B p = p := by
  unfold spn
  rw [List.drop_eq_nil_of_le (by omega)]
  rfl
theorem spn_more {f : Int → Bool} {B : List Int} {p : Nat} (h : p < B.length) (hf : f (B.getD p 0) = true) : spn f B p = spn f B (p + 1) := by
  unfold spn
  rw [drop_at h, List.takeWhile_cons, if_pos hf, List.length_cons]
  omega
theorem spn_stop {f : Int → Bool} {B : List Int} {p : Nat} (h : p < B.length) (hf : f (B.getD p 0) = false) : spn f B p = p := by
  unfold spn
  rw [drop_at h, List.takeWhile_cons, if_neg (by rw [hf]; decide)]
  rfl
theorem spn_ge (f : Int → Bool) (B : List Int) (p : Nat) : p ≤ spn f B p := Nat.le_add_right _ _
theorem spn_le (f : Int → Bool) {B : List Int} {p : Nat} (h : p ≤ B.length) : spn f B p ≤ B.length := by
  have h1 := (List.takeWhile_sublist (l := B.drop p) f).length_le
  unfold spn
  rw [List.length_drop] at h1
  omega
theorem spn_gt {f : Int → Bool} {B : List Int} {p : Nat} (h : p < B.length) (hf : f (B.getD p 0) = true) : p < spn f B p := by
  rw [spn_more h hf]
  have := spn_ge f B (p + 1)
  omega
theorem spn_all {f : Int → Bool} {B : List Int} {p i : Nat} (h1 : p ≤ i) (h2 : i < spn f B p) : f (B.getD i 0) = true := by
  unfold spn at h2
  have h3 : i - p < ((B.drop p).takeWhile f).length := by omega
  have h4 := List.getElem?_eq_getElem h3
  have h5 := List.all_takeWhile (l := B.drop p) (p := f)
  rw [List.all_eq_true] at h5
  have h6 := h5 _ (List.getElem_mem h3)
  have h7 : ((B.drop p).takeWhile f)[i - p]? = (B.drop p)[i - p]? := by
    have h8 := List.takeWhile_prefix (l := B.drop p) f
    obtain ⟨t, ht⟩ := h8
    have h9 : (B.drop p)[i - p]? = ((B.drop p).takeWhile f ++ t)[i - p]? := by rw [ht]
    rw [h9, List.getElem?_append_left h3]
  rw [h4, List.getElem?_drop, show p + (i - p) = i by omega] at h7
  rw [List.getD_eq_getElem?_getD, ← h7]
  exact h6
/- the number that digits say -/
def val (l : List Int) : Int := l.foldl (fun n c => 10 * n + (c - 48)) 0
def two (a b : Int) : Bool := (b == 61 && (a == 61 || a == 33 || a == 60 || a == 62)) || (a == 38 && b == 38) || (a == 124 && b == 124)
def sgl (a : Int) : Bool := a == 123 || a == 125 || a == 40 || a == 41 || a == 59 || a == 44 || a == 46 || a == 61 || a == 33 || a == 60 || a == 62 || a == 43 || a == 45 || a == 42 || a == 47 || a == 37
def mrk : List Int → Bool
  | [a] => sgl a
  | [a, b] => two a b
  | _ => false
inductive Stp where
  | skip (q : Nat)
  | tok (t : Tok) (q : Nat)
  | bad (q : Nat)
def sub (B : List Int) (p e : Nat) : List Int := (B.drop p).take (e - p)
def txt (B : List Int) (p : Nat) : Nat → Nat → List Int → Stp
  | 0, _, _ => .bad p
  | n + 1, i, acc =>
    if ¬ i < B.length then .bad p
    else if B.getD i 0 == 10 then .bad p
    else if B.getD i 0 == 34 then (if 64 < acc.length then .bad p else .tok ⟨3, acc, 0, p⟩ (i + 1))
    else if B.getD i 0 == 92 then (if ¬ i + 1 < B.length then .bad i else if esc (B.getD (i + 1) 0) then txt B p n (i + 2) (acc ++ [B.getD (i + 1) 0]) else .bad i)
    else if pln (B.getD i 0) then txt B p n (i + 1) (acc ++ [B.getD i 0]) else .bad i
def nme (B : List Int) (p : Nat) : Stp := if 32 < spn prt B p - p then .bad p else .tok ⟨1, sub B p (spn prt B p), 0, p⟩ (spn prt B p)
def nue (B : List Int) (p : Nat) : Nat := if B.getD p 0 == 48 then p + 1 else spn dig B (p + 1)
def nmb (B : List Int) (p : Nat) : Stp :=
  if 9223372036854775807 < val (sub B p (nue B p)) then .bad p
  else if nue B p < spn prt B (nue B p) then .bad (nue B p)
  else .tok ⟨2, [], val (sub B p (nue B p)), p⟩ (nue B p)
def mkk (B : List Int) (p : Nat) : Stp :=
  if p + 1 < B.length ∧ two (B.getD p 0) (B.getD (p + 1) 0) = true then .tok ⟨4, [B.getD p 0, B.getD (p + 1) 0], 0, p⟩ (p + 2)
  else if sgl (B.getD p 0) then .tok ⟨4, [B.getD p 0], 0, p⟩ (p + 1) else .bad p
/- one step at a place within the source -/
def rmk (B : List Int) (p : Nat) : Bool := B.getD p 0 == 47 && (decide (p + 1 < B.length) && B.getD (p + 1) 0 == 47)
def stp (B : List Int) (p : Nat) : Stp :=
  if blk (B.getD p 0) then .skip (p + 1)
  else if rmk B p then .skip (spn nnl B p)
  else if sml (B.getD p 0) then nme B p
  else if dig (B.getD p 0) then nmb B p
  else if B.getD p 0 == 34 then txt B p (B.length - p) (p + 1) []
  else mkk B p
theorem txt_go {B : List Int} {p : Nat} : ∀ (n i : Nat) (acc : List Int) (t : Tok) (q : Nat), txt B p n i acc = .tok t q → i < q ∧ q ≤ B.length ∧ t.pos = p
  | 0, i, acc, t, q, h => by cases h
  | n + 1, i, acc, t, q, h => by
    unfold txt at h
    split at h
    · cases h
    · split at h
      · cases h
      · split at h
        · split at h
          · cases h
          · cases h; refine ⟨by omega, by omega, rfl⟩
        · split at h
          · split at h
            · cases h
            · split at h
              · have := txt_go n _ _ _ _ h; exact ⟨by omega, this.2⟩
              · cases h
          · split at h
            · have := txt_go n _ _ _ _ h; exact ⟨by omega, this.2⟩
            · cases h
theorem nue_in {B : List Int} {p : Nat} (h : p < B.length) : p < nue B p ∧ nue B p ≤ B.length := by
  unfold nue
  split
  · omega
  · have h1 := spn_ge dig B (p + 1)
    have h2 := spn_le dig (B := B) (p := p + 1) (by omega)
    omega
theorem stp_tok {B : List Int} {p q : Nat} {t : Tok} (hp : p < B.length) (h : stp B p = .tok t q) : p < q ∧ q ≤ B.length ∧ t.pos = p := by
  unfold stp at h
  split at h
  · cases h
  · split at h
    · cases h
    · split at h
      · rename_i hs
        unfold nme at h
        split at h
        · cases h
        · cases h
          exact ⟨spn_gt hp (by unfold prt; rw [hs]; rfl), spn_le _ (by omega), rfl⟩
      · split at h
        · unfold nmb at h
          have := nue_in hp
          split at h
          · cases h
          · split at h
            · cases h
            · cases h; exact ⟨this.1, this.2, rfl⟩
        · split at h
          · have := txt_go _ _ _ _ _ h; exact ⟨by omega, this.2⟩
          · unfold mkk at h
            split at h
            · rename_i h2; cases h; exact ⟨by omega, by omega, rfl⟩
            · split at h
              · cases h; exact ⟨by omega, by omega, rfl⟩
              · cases h
theorem stp_skip {B : List Int} {p q : Nat} (hp : p < B.length) (h : stp B p = .skip q) : p < q ∧ q ≤ B.length := by
  have hnt : ∀ n i acc, txt B p n i acc ≠ .skip q := by
    intro n
    induction n with
    | zero => intro i acc h; cases h
    | succ n ih =>
      intro i acc h
      unfold txt at h
      split at h
      · cases h
      · split at h
        · cases h
        · split at h
          · split at h <;> cases h
          · split at h
            · split at h
              · cases h
              · split at h
                · exact ih _ _ h
                · cases h
            · split at h
              · exact ih _ _ h
              · cases h
  unfold stp at h
  split at h
  · cases h; omega
  · split at h
    · rename_i hr
      cases h
      refine ⟨spn_gt hp ?_, spn_le _ (by omega)⟩
      unfold rmk at hr
      have h1 : B.getD p 0 = 47 := by simpa using (Bool.and_eq_true_iff.1 hr).1
      rw [h1]; decide
    · split at h
      · unfold nme at h
        split at h <;> cases h
      · split at h
        · unfold nmb at h
          split at h
          · cases h
          · split at h <;> cases h
        · split at h
          · exact absurd h (hnt _ _ _)
          · unfold mkk at h
            split at h
            · cases h
            · split at h <;> cases h
def cutF (B : List Int) : Nat → Nat → List Tok → Except Nat (List Tok)
  | 0, _, L => .ok L
  | n + 1, p, L =>
    if ¬ p < B.length then .ok (L ++ [⟨0, [], 0, B.length⟩])
    else match stp B p with
      | .skip q => cutF B n q L
      | .tok t q => cutF B n q (L ++ [t])
      | .bad q => .error q
/- what is still to be cut, from the place p on, with the tokens so far -/
def Ct (B : List Int) (p : Nat) (L : List Tok) : Prop := p ≤ B.length ∧ ∃ n, B.length - p ≤ n ∧ cutF B (B.length + 1) 0 [] = cutF B (n + 1) p L
theorem ct_start (B : List Int) : Ct B 0 [] := ⟨Nat.zero_le _, B.length, by omega, rfl⟩
theorem Ct.skip {B : List Int} {p q : Nat} {L : List Tok} (h : Ct B p L) (hp : p < B.length) (hs : stp B p = .skip q) : Ct B q L := by
  obtain ⟨-, n, h1, h2⟩ := h
  have h3 := stp_skip hp hs
  refine ⟨h3.2, n - 1, by omega, ?_⟩
  rw [h2, cutF, if_neg (by omega), hs, show n - 1 + 1 = n by omega]
theorem Ct.tok {B : List Int} {p q : Nat} {t : Tok} {L : List Tok} (h : Ct B p L) (hp : p < B.length) (hs : stp B p = .tok t q) : Ct B q (L ++ [t]) := by
  obtain ⟨-, n, h1, h2⟩ := h
  have h3 := stp_tok hp hs
  refine ⟨h3.2.1, n - 1, by omega, ?_⟩
  rw [h2, cutF, if_neg (by omega), hs, show n - 1 + 1 = n by omega]
theorem Ct.bad {B : List Int} {p q : Nat} {L : List Tok} (h : Ct B p L) (hp : p < B.length) (hs : stp B p = .bad q) : cutF B (B.length + 1) 0 [] = .error q := by
  obtain ⟨-, n, h1, h2⟩ := h
  rw [h2, cutF, if_neg (by omega), hs]
theorem Ct.fin {B : List Int} {p : Nat} {L : List Tok} (h : Ct B p L) (hp : ¬ p < B.length) : cutF B (B.length + 1) 0 [] = .ok (L ++ [⟨0, [], 0, B.length⟩]) := by
  obtain ⟨-, n, h1, h2⟩ := h
  rw [h2, cutF, if_pos hp]
/- what Cut answers -/
def cuL (B : List Int) : List Tok := if 65536 < B.length then [] else match cutF B (B.length + 1) 0 [] with
  | .ok l => l
  | .error _ => []
def cuE (B : List Int) : Int := if 65536 < B.length then 20 else match cutF B (B.length + 1) 0 [] with
  | .ok _ => 0
  | .error _ => 21
def cuA (B : List Int) : Int := if 65536 < B.length then 65536 else match cutF B (B.length + 1) 0 [] with
  | .ok _ => 0
  | .error q => (q : Int)
/- a place's line and column -/
def lnc (l : List Int) : Nat := l.countP (· == 10)
end TK
end Go.Proofs.YtjjikeehifndhaaDoor
