/-
  Where two lists of bytes differ, bit by bit: the first such bit, the last one, and how a look at one more bit or byte goes on; plain numbers, no program.
-/
import Derived.Test.YtaecbgdjifbgdaaPoly
namespace Go.Proofs.Ytaecbgdjifbgdaa

def db (A B : List Nat) (k : Nat) : Bool := (A.getD (k / 8) 0 ^^^ B.getD (k / 8) 0).testBit (k % 8)
def BS (A B : List Nat) (n : Nat) (f l : Int) : Prop :=
  (f = -1 ∧ l = -1 ∧ ∀ k, k < n → db A B k = false) ∨
  (∃ i j : Nat, f = i ∧ l = j ∧ i ≤ j ∧ j < n ∧ db A B i = true ∧ db A B j = true ∧ ∀ k, k < n → db A B k = true → i ≤ k ∧ k ≤ j)
theorem BS.zero (A B : List Nat) : BS A B 0 (-1) (-1) := Or.inl ⟨rfl, rfl, fun k h => absurd h (Nat.not_lt_zero k)⟩
theorem BS.same {A B : List Nat} {n m : Nat} {f l : Int} (h : BS A B n f l) (hm : n ≤ m) (hs : ∀ k, n ≤ k → k < m → db A B k = false) : BS A B m f l := by
  rcases h with ⟨h1, h2, h3⟩ | ⟨i, j, h1, h2, h3, h4, h5, h6, h7⟩
  · refine Or.inl ⟨h1, h2, fun k hk => ?_⟩
    by_cases hn : k < n
    · exact h3 k hn
    · exact hs k (by omega) hk
  · refine Or.inr ⟨i, j, h1, h2, h3, by omega, h5, h6, fun k hk hd => ?_⟩
    by_cases hn : k < n
    · exact h7 k hn hd
    · rw [hs k (by omega) hk] at hd; cases hd
/- from bit n to below m the bits p to q differ first and last -/
theorem BS.more {A B : List Nat} {n m p q : Nat} {f l : Int} (h : BS A B n f l) (h1 : n ≤ p) (h2 : p ≤ q) (h3 : q < m) (d1 : db A B p = true) (d2 : db A B q = true)
    (hs : ∀ k, n ≤ k → k < m → db A B k = true → p ≤ k ∧ k ≤ q) : BS A B m (if f < 0 then (p : Int) else f) (q : Int) := by
  rcases h with ⟨rfl, rfl, g3⟩ | ⟨i, j, rfl, rfl, g3, g4, g5, g6, g7⟩
  · rw [if_pos (by decide)]
    refine Or.inr ⟨p, q, rfl, rfl, h2, h3, d1, d2, fun k hk hd => ?_⟩
    by_cases hn : k < n
    · rw [g3 k hn] at hd; cases hd
    · exact hs k (by omega) hk hd
  · rw [if_neg (by omega)]
    refine Or.inr ⟨i, q, rfl, rfl, by omega, h3, g5, d2, fun k hk hd => ?_⟩
    by_cases hn : k < n
    · have := g7 k hn hd; omega
    · have := hs k (by omega) hk hd; omega
theorem BS.bounds {A B : List Nat} {n : Nat} {f l : Int} (h : BS A B n f l) : (f = -1 ∧ l = -1) ∨ (0 ≤ f ∧ f ≤ l ∧ l < n) := by
  rcases h with ⟨h1, h2, _⟩ | ⟨i, j, h1, h2, h3, h4, _⟩
  · exact Or.inl ⟨h1, h2⟩
  · right; omega
/- what Burst answers -/
def BR (A B : List Nat) (x y : Int) : Prop :=
  (A.length ≠ B.length ∧ x = -1 ∧ y = -1) ∨
  (A.length = B.length ∧ ((x = 0 ∧ y = 0 ∧ ∀ k, k < 8 * A.length → db A B k = false) ∨
    (∃ i j : Nat, x = i ∧ y = (j : Int) - i + 1 ∧ i ≤ j ∧ j < 8 * A.length ∧ db A B i = true ∧ db A B j = true ∧ ∀ k, k < 8 * A.length → db A B k = true → i ≤ k ∧ k ≤ j)))
theorem BR.of {A B : List Nat} {f l : Int} (hn : A.length = B.length) (h : BS A B (8 * A.length) f l) : BR A B (if f < 0 then 0 else f) (if f < 0 then 0 else l - f + 1) := by
  right
  refine ⟨hn, ?_⟩
  rcases h with ⟨rfl, rfl, h3⟩ | ⟨i, j, rfl, rfl, h3, h4, h5, h6, h7⟩
  · rw [if_pos (by decide), if_pos (by decide)]; exact Or.inl ⟨rfl, rfl, h3⟩
  · rw [if_neg (by omega), if_neg (by omega)]; exact Or.inr ⟨i, j, rfl, rfl, h3, h4, h5, h6, h7⟩
theorem BR.unique {A B : List Nat} {x y x' y' : Int} (h : BR A B x y) (g : BR A B x' y') : x = x' ∧ y = y' := by
  rcases h with ⟨h0, rfl, rfl⟩ | ⟨h0, h⟩ <;> rcases g with ⟨g0, rfl, rfl⟩ | ⟨g0, g⟩
  · exact ⟨rfl, rfl⟩
  · exact absurd g0 h0
  · exact absurd h0 g0
  · rcases h with ⟨rfl, rfl, h3⟩ | ⟨i, j, rfl, rfl, h3, h4, h5, h6, h7⟩ <;> rcases g with ⟨rfl, rfl, g3⟩ | ⟨i', j', rfl, rfl, g3, g4, g5, g6, g7⟩
    · exact ⟨rfl, rfl⟩
    · rw [h3 i' (by omega)] at g5; cases g5
    · rw [g3 i (by omega)] at h5; cases h5
    · have a1 := h7 i' (by omega) g5
      have a2 := h7 j' (by omega) g6
      have a3 := g7 i (by omega) h5
      have a4 := g7 j (by omega) h6
      omega
theorem db_comm (A B : List Nat) (k : Nat) : db A B k = db B A k := by unfold db; rw [Nat.xor_comm]
theorem BR.symm {A B : List Nat} {x y : Int} (h : BR A B x y) : BR B A x y := by
  rcases h with ⟨h0, h1, h2⟩ | ⟨h0, h⟩
  · exact Or.inl ⟨fun e => h0 e.symm, h1, h2⟩
  · right
    refine ⟨h0.symm, ?_⟩
    rw [← h0]
    simp only [db_comm B A]
    exact h
theorem db_self (A : List Nat) (k : Nat) : db A A k = false := by unfold db; rw [Nat.xor_self]; exact Nat.zero_testBit _
theorem BR.self {A : List Nat} {x y : Int} (h : BR A A x y) : x = 0 ∧ y = 0 := by
  refine h.unique (Or.inr ⟨rfl, Or.inl ⟨rfl, rfl, fun k _ => db_self A k⟩⟩)
/- one byte -/
theorem db_byte (A B : List Nat) (i k : Nat) (hk : k < 8) : db A B (8 * i + k) = (A.getD i 0 ^^^ B.getD i 0).testBit k := by
  unfold db
  rw [show (8 * i + k) / 8 = i by omega, show (8 * i + k) % 8 = k by omega]
theorem byte_same {A B : List Nat} {i : Nat} (h : A.getD i 0 ^^^ B.getD i 0 = 0) : ∀ k, 8 * i ≤ k → k < 8 * (i + 1) → db A B k = false := by
  intro k h1 h2
  have := db_byte A B i (k - 8 * i) (by omega)
  rw [show 8 * i + (k - 8 * i) = k by omega, h, Nat.zero_testBit] at this
  exact this
def TZ (u x : Nat) : Prop := x < 8 ∧ u.testBit x = true ∧ ∀ k, k < 8 → u.testBit k = true → x ≤ k
def LN (u y : Nat) : Prop := 1 ≤ y ∧ y ≤ 8 ∧ u.testBit (y - 1) = true ∧ ∀ k, k < 8 → u.testBit k = true → k ≤ y - 1
theorem BS.byte {A B : List Nat} {i x y : Nat} {f l : Int} (h : BS A B (8 * i) f l) (hx : TZ (A.getD i 0 ^^^ B.getD i 0) x) (hy : LN (A.getD i 0 ^^^ B.getD i 0) y) :
    BS A B (8 * (i + 1)) (if f < 0 then ((8 * i + x : Nat) : Int) else f) ((8 * i + (y - 1) : Nat) : Int) := by
  obtain ⟨x1, x2, x3⟩ := hx
  obtain ⟨y1, y2, y3, y4⟩ := hy
  refine h.more (by omega) (by have := x3 (y - 1) (by omega) y3; omega) (by omega) (by rw [db_byte _ _ _ _ x1]; exact x2) (by rw [db_byte _ _ _ _ (by omega)]; exact y3) ?_
  intro k h1 h2 hd
  have e := db_byte A B i (k - 8 * i) (by omega)
  rw [show 8 * i + (k - 8 * i) = k by omega, hd] at e
  have := x3 _ (by omega) e.symm
  have := y4 _ (by omega) e.symm
  omega
theorem BS.bit1 {A B : List Nat} {n : Nat} {f l : Int} (h : BS A B n f l) (hd : db A B n = true) : BS A B (n + 1) (if f < 0 then (n : Int) else f) (n : Int) :=
  h.more (Nat.le_refl _) (Nat.le_refl _) (Nat.lt_succ_self _) hd hd (fun k h1 h2 _ => by omega)
theorem BS.bit0 {A B : List Nat} {n : Nat} {f l : Int} (h : BS A B n f l) (hd : db A B n = false) : BS A B (n + 1) f l :=
  h.same (Nat.le_succ _) (fun k h1 h2 => by obtain rfl : k = n := by omega
                                            exact hd)
theorem db_bits (A B : List Nat) (k : Nat) : db A B k = (((A.getD (k / 8) 0 / 2 ^ (k % 8) % 2 : Nat) : Int) != ((B.getD (k / 8) 0 / 2 ^ (k % 8) % 2 : Nat) : Int)) := by
  unfold db
  rw [Nat.testBit_xor, Nat.testBit_eq_decide_div_mod_eq, Nat.testBit_eq_decide_div_mod_eq]
  rcases Nat.mod_two_eq_zero_or_one (A.getD (k / 8) 0 / 2 ^ (k % 8)) with h | h <;> rcases Nat.mod_two_eq_zero_or_one (B.getD (k / 8) 0 / 2 ^ (k % 8)) with g | g <;> rw [h, g] <;> decide
end Go.Proofs.Ytaecbgdjifbgdaa
