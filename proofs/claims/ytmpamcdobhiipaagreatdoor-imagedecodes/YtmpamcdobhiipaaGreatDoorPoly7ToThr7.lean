/-
  Numbers below 2^32 as polynomials over two elements: one shift of the sum, many shifts, products, the register that bytes go through; plain numbers, no program.
-/
import Derived.Laws.BitsAllLaws
import Derived.Test.YtmpamcdobhiipaaGreatDoorBaseToLc
import Derived.WalkSpells
import Derived.WalkLawsBesides
import Derived.Handy
import Derived.Below
import Derived.Deep.WholeRow
import Derived.Laws.ResultCell
namespace Go.Proofs.YtmpamcdobhiipaaGreatDoor
namespace SM

theorem xor_div2 (a b : Nat) : (a ^^^ b) / 2 = a / 2 ^^^ b / 2 := by
  apply Nat.eq_of_testBit_eq; intro i
  rw [← Nat.testBit_succ, Nat.testBit_xor, Nat.testBit_xor, Nat.testBit_succ, Nat.testBit_succ]
theorem xor_mod2 (a b : Nat) : (a ^^^ b) % 2 = (a % 2 + b % 2) % 2 := by
  have h := Nat.testBit_xor (x := a) (y := b) (i := 0)
  simp only [Nat.testBit_zero] at h
  rcases Nat.mod_two_eq_zero_or_one a with ha | ha <;> rcases Nat.mod_two_eq_zero_or_one b with hb | hb <;> rcases Nat.mod_two_eq_zero_or_one (a ^^^ b) with hc | hc <;> simp_all
theorem xor_lr (a b c d : Nat) : (a ^^^ b) ^^^ (c ^^^ d) = (a ^^^ c) ^^^ (b ^^^ d) := by
  rw [Nat.xor_assoc, Nat.xor_assoc, ← Nat.xor_assoc b, ← Nat.xor_assoc c, Nat.xor_comm b c]
theorem xor_cancel (a b : Nat) : (a ^^^ b) ^^^ b = a := by rw [Nat.xor_assoc, Nat.xor_self, Nat.xor_zero]
theorem xor_eq_zero {a b : Nat} (h : a ^^^ b = 0) : a = b := by
  have := xor_cancel a b; rw [h, Nat.zero_xor] at this; exact this.symm
theorem xor_lt32 {a b : Nat} (ha : a < 4294967296) (hb : b < 4294967296) : a ^^^ b < 4294967296 := Nat.xor_lt_two_pow (n := 32) ha hb
theorem xor_lt8 {a b : Nat} (ha : a < 256) (hb : b < 256) : a ^^^ b < 256 := Nat.xor_lt_two_pow (n := 8) ha hb

def S (x : Nat) : Nat := if x % 2 = 1 then x / 2 ^^^ 3988292384 else x / 2
theorem S_even (x : Nat) (h : x % 2 = 0) : S x = x / 2 := by unfold S; rw [if_neg (by omega)]
theorem S_odd (x : Nat) (h : x % 2 = 1) : S x = x / 2 ^^^ 3988292384 := by unfold S; rw [if_pos h]
theorem S_xor (x y : Nat) : S (x ^^^ y) = S x ^^^ S y := by
  have h := xor_mod2 x y
  rcases Nat.mod_two_eq_zero_or_one x with hx | hx <;> rcases Nat.mod_two_eq_zero_or_one y with hy | hy
  · rw [S_even x hx, S_even y hy, S_even _ (by omega), xor_div2]
  · rw [S_even x hx, S_odd y hy, S_odd _ (by omega), xor_div2, Nat.xor_assoc]
  · rw [S_odd x hx, S_even y hy, S_odd _ (by omega), xor_div2, Nat.xor_assoc, Nat.xor_assoc, Nat.xor_comm (y / 2)]
  · rw [S_odd x hx, S_odd y hy, S_even _ (by omega), xor_div2, xor_lr, Nat.xor_self, Nat.xor_zero]
theorem S_lt {x : Nat} (h : x < 4294967296) : S x < 4294967296 := by
  unfold S; split
  · exact xor_lt32 (by omega) (by decide)
  · omega
theorem S_zero : S 0 = 0 := by decide
theorem S_ne {x : Nat} (h : x < 4294967296) (e : S x = 0) : x = 0 := by
  rcases Nat.mod_two_eq_zero_or_one x with hx | hx
  · rw [S_even x hx] at e; omega
  · rw [S_odd x hx] at e; have := xor_eq_zero e; omega

def Sn : Nat → Nat → Nat
  | 0, x => x
  | n + 1, x => Sn n (S x)
theorem Sn_zero (x : Nat) : Sn 0 x = x := rfl
theorem Sn_one (x : Nat) : Sn 1 x = S x := rfl
theorem Sn_succ (n x : Nat) : Sn (n + 1) x = Sn n (S x) := rfl
theorem Sn_add (m n x : Nat) : Sn (m + n) x = Sn n (Sn m x) := by
  induction m generalizing x with
  | zero => rw [Nat.zero_add]; rfl
  | succ m ih => rw [Nat.add_right_comm]; exact ih (S x)
theorem Sn_snoc (n x : Nat) : Sn (n + 1) x = S (Sn n x) := Sn_add n 1 x
theorem Sn_xor (n x y : Nat) : Sn n (x ^^^ y) = Sn n x ^^^ Sn n y := by
  induction n generalizing x y with
  | zero => rfl
  | succ n ih => rw [Sn_succ, Sn_succ, Sn_succ, S_xor, ih]
theorem Sn_lt {n x : Nat} (h : x < 4294967296) : Sn n x < 4294967296 := by
  induction n generalizing x with
  | zero => exact h
  | succ n ih => exact ih (S_lt h)
theorem Sn_nil (n : Nat) : Sn n 0 = 0 := by
  induction n with
  | zero => rfl
  | succ n ih => rw [Sn_succ, S_zero, ih]
theorem Sn_ne {n x : Nat} (h : x < 4294967296) (e : Sn n x = 0) : x = 0 := by
  induction n generalizing x with
  | zero => exact e
  | succ n ih => exact S_ne h (ih (S_lt h) e)
theorem Sn_pow (n x : Nat) : Sn n (x * 2 ^ n) = x := by
  induction n generalizing x with
  | zero => simp [Sn_zero]
  | succ n ih =>
    rw [Sn_succ, S_even _ (by rw [Nat.pow_succ, ← Nat.mul_assoc]; omega)]
    rw [show x * 2 ^ (n + 1) / 2 = x * 2 ^ n by rw [Nat.pow_succ, ← Nat.mul_assoc]; omega]
    exact ih x
theorem Sn_bit (j n : Nat) (h : j ≤ n) : Sn n (2 ^ j) = Sn (n - j) 1 := by
  rw [show n = j + (n - j) by omega, Sn_add, show j + (n - j) - j = n - j by omega]
  congr 1
  have := Sn_pow j 1
  rwa [Nat.one_mul] at this

theorem split2 (x : Nat) : x = 2 * (x / 2) ^^^ x % 2 := by
  apply Nat.eq_of_testBit_eq; intro i
  rw [Nat.testBit_xor]
  cases i with
  | zero =>
    simp only [Nat.testBit_zero]
    rcases Nat.mod_two_eq_zero_or_one x with h | h <;> simp [h]
  | succ i =>
    simp only [Nat.testBit_succ]
    rw [show 2 * (x / 2) / 2 = x / 2 by omega, show x % 2 / 2 = 0 by omega]
    simp
theorem split8 (x : Nat) : x = x % 256 ^^^ x / 256 * 2 ^ 8 := by
  apply Nat.eq_of_testBit_eq; intro i
  rw [Nat.testBit_xor, show (256 : Nat) = 2 ^ 8 by decide, Nat.testBit_mod_two_pow, Nat.testBit_mul_two_pow, Nat.testBit_div_two_pow]
  by_cases h : i < 8
  · simp [h, show ¬ 8 ≤ i by omega]
  · simp [h, show 8 ≤ i by omega, show i - 8 + 8 = i by omega]

def Add (f : Nat → Nat) : Prop := ∀ x y, f (x ^^^ y) = f x ^^^ f y
theorem mul2_xor (x y : Nat) : 2 * (x ^^^ y) = 2 * x ^^^ 2 * y := by
  apply Nat.eq_of_testBit_eq; intro i
  rw [Nat.testBit_xor]
  cases i with
  | zero => simp only [Nat.testBit_zero]; simp
  | succ i =>
    simp only [Nat.testBit_succ]
    rw [show 2 * (x ^^^ y) / 2 = x ^^^ y by omega, show 2 * x / 2 = x by omega, show 2 * y / 2 = y by omega, Nat.testBit_xor]
theorem Add.zero {f : Nat → Nat} (h : Add f) : f 0 = 0 := by
  have := h 0 0
  rw [Nat.xor_self, Nat.xor_self] at this; exact this
theorem basis (n : Nat) : ∀ (f g : Nat → Nat), Add f → Add g → (∀ j, j < n → f (2 ^ j) = g (2 ^ j)) → ∀ x, x < 2 ^ n → f x = g x := by
  induction n with
  | zero => intro f g hf hg _ x hx; obtain rfl : x = 0 := by simpa using hx
            rw [hf.zero, hg.zero]
  | succ n ih =>
    intro f g hf hg h x hx
    have e1 := ih (fun y => f (2 * y)) (fun y => g (2 * y)) (fun x y => by show f _ = _; rw [mul2_xor, hf]) (fun x y => by show g _ = _; rw [mul2_xor, hg])
      (fun j hj => by show f _ = g _; rw [← Nat.pow_succ']; exact h (j + 1) (by omega)) (x / 2) (by rw [Nat.pow_succ] at hx; omega)
    have e2 : f (x % 2) = g (x % 2) := by
      rcases Nat.mod_two_eq_zero_or_one x with e | e <;> rw [e]
      · rw [hf.zero, hg.zero]
      · exact h 0 (by omega)
    conv => lhs; rw [split2 x, hf]
    conv => rhs; rw [split2 x, hg]
    have e1' : f (2 * (x / 2)) = g (2 * (x / 2)) := e1
    rw [e1', e2]
theorem Add.Sn (n : Nat) : Add (Sn n) := Sn_xor n
theorem Add.comp {f g : Nat → Nat} (hf : Add f) (hg : Add g) : Add (fun x => f (g x)) := fun x y => by show f (g _) = _; rw [hg, hf]

/- products, by the rounds that make them -/
def mulL : Nat → Nat → Nat → Nat → Nat
  | 0, _, _, p => p
  | k + 1, a, y, p => mulL k (a * 2 % 4294967296) (S y) (if a / 2147483648 % 2 = 1 then p ^^^ y else p)
def mul (a y : Nat) : Nat := mulL 32 a y 0
theorem top_xor (a b : Nat) : (a ^^^ b) / 2147483648 % 2 = (a / 2147483648 % 2 + b / 2147483648 % 2) % 2 := by
  have e : (a ^^^ b) / 2147483648 = a / 2147483648 ^^^ b / 2147483648 := by
    apply Nat.eq_of_testBit_eq; intro i
    rw [show (2147483648 : Nat) = 2 ^ 31 by decide, Nat.testBit_xor, Nat.testBit_div_two_pow, Nat.testBit_div_two_pow, Nat.testBit_div_two_pow, Nat.testBit_xor]
  rw [e, xor_mod2]
theorem dbl_xor (a b : Nat) : (a ^^^ b) * 2 % 4294967296 = (a * 2 % 4294967296) ^^^ (b * 2 % 4294967296) := by
  rw [Nat.mul_comm, mul2_xor, Nat.mul_comm 2 a, Nat.mul_comm 2 b]
  apply Nat.eq_of_testBit_eq; intro i
  rw [show (4294967296 : Nat) = 2 ^ 32 by decide, Nat.testBit_xor, Nat.testBit_mod_two_pow, Nat.testBit_mod_two_pow, Nat.testBit_mod_two_pow, Nat.testBit_xor]
  by_cases h : i < 32 <;> simp [h]
theorem mulL_a (k : Nat) : ∀ a b y p q, mulL k (a ^^^ b) y (p ^^^ q) = mulL k a y p ^^^ mulL k b y q := by
  induction k with
  | zero => intros; rfl
  | succ k ih =>
    intro a b y p q
    unfold mulL
    rw [dbl_xor, ← ih]
    congr 1
    have h := top_xor a b
    rcases Nat.mod_two_eq_zero_or_one (a / 2147483648) with ha | ha <;> rcases Nat.mod_two_eq_zero_or_one (b / 2147483648) with hb | hb
    · rw [if_neg (by omega), if_neg (by omega), if_neg (by omega)]
    · rw [if_pos (by omega), if_neg (by omega), if_pos (by omega), Nat.xor_assoc]
    · rw [if_pos (by omega), if_pos (by omega), if_neg (by omega), Nat.xor_assoc, Nat.xor_assoc, Nat.xor_comm q]
    · rw [if_neg (by omega), if_pos (by omega), if_pos (by omega), xor_lr, Nat.xor_self, Nat.xor_zero]
theorem mulL_y (k : Nat) : ∀ a y z p q, mulL k a (y ^^^ z) (p ^^^ q) = mulL k a y p ^^^ mulL k a z q := by
  induction k with
  | zero => intros; rfl
  | succ k ih =>
    intro a y z p q
    unfold mulL
    rw [S_xor, ← ih]
    congr 1
    split
    · rw [xor_lr]
    · rfl
theorem mul_a (y : Nat) : Add (fun a => mul a y) := fun a b => by
  show mulL 32 (a ^^^ b) y 0 = _
  exact (by rw [Nat.xor_self] : mulL 32 (a ^^^ b) y 0 = mulL 32 (a ^^^ b) y (0 ^^^ 0)).trans (mulL_a 32 a b y 0 0)
theorem mul_y (a : Nat) : Add (mul a) := fun y z => by
  show mulL 32 a (y ^^^ z) 0 = _
  exact (by rw [Nat.xor_self] : mulL 32 a (y ^^^ z) 0 = mulL 32 a (y ^^^ z) (0 ^^^ 0)).trans (mulL_y 32 a y z 0 0)
theorem mulL_S (k : Nat) : ∀ a y p, mulL k a (S y) (S p) = S (mulL k a y p) := by
  induction k with
  | zero => intros; rfl
  | succ k ih =>
    intro a y p
    unfold mulL
    rw [← ih]
    congr 1
    split
    · rw [S_xor]
    · rfl
theorem mul_S (a y : Nat) : mul a (S y) = S (mul a y) := by
  have := mulL_S 32 a y 0
  rw [S_zero] at this
  exact this
theorem mul_one {a : Nat} (ha : a < 4294967296) : mul a 2147483648 = a := by
  refine basis 32 (fun a => mul a 2147483648) (fun y => y) (mul_a _) (fun _ _ => rfl) ?_ a ha
  intro j hj
  have : ∀ j : Fin 32, mul (2 ^ j.val) 2147483648 = 2 ^ j.val := by decide +kernel
  exact this ⟨j, hj⟩
theorem mul_Sn (m : Nat) {a : Nat} (ha : a < 4294967296) : mul a (Sn m 2147483648) = Sn m a := by
  induction m with
  | zero => exact mul_one ha
  | succ m ih => rw [Sn_snoc, mul_S, ih, Sn_snoc]
theorem mul_lt {a y : Nat} (hy : y < 4294967296) : mul a y < 4294967296 := by
  have : ∀ k a y p, y < 4294967296 → p < 4294967296 → mulL k a y p < 4294967296 := by
    intro k
    induction k with
    | zero => intro a y p _ hp; exact hp
    | succ k ih =>
      intro a y p hy hp
      unfold mulL
      refine ih _ _ _ (S_lt hy) ?_
      split
      · exact xor_lt32 hp hy
      · exact hp
  exact this 32 a y 0 hy (by decide)
theorem byteOn : Sn 8 2147483648 = 8388608 := by decide

/- the register -/
def R (x : Nat) (l : List Nat) : Nat := l.foldl (fun x c => Sn 8 (x ^^^ c)) x
theorem R_nil (x : Nat) : R x [] = x := rfl
theorem R_cons (x c : Nat) (l : List Nat) : R x (c :: l) = R (Sn 8 (x ^^^ c)) l := rfl
theorem R_append (x : Nat) (l m : List Nat) : R x (l ++ m) = R (R x l) m := by unfold R; rw [List.foldl_append]
theorem R_snoc (x c : Nat) (l : List Nat) : R x (l ++ [c]) = Sn 8 (R x l ^^^ c) := by rw [R_append]; rfl
theorem R_xor (l : List Nat) : ∀ x y, R (x ^^^ y) l = R x l ^^^ Sn (8 * l.length) y := by
  induction l with
  | nil => intro x y; rfl
  | cons c l ih =>
    intro x y
    rw [R_cons, R_cons, List.length_cons, show 8 * (l.length + 1) = 8 + 8 * l.length by omega, Sn_add]
    rw [← ih, ← Sn_xor, Nat.xor_assoc, Nat.xor_comm y c, ← Nat.xor_assoc]
theorem R_lt {x : Nat} {l : List Nat} (hx : x < 4294967296) (h : ∀ c ∈ l, c < 256) : R x l < 4294967296 := by
  induction l generalizing x with
  | nil => exact hx
  | cons c l ih =>
    have := h c (by simp)
    exact ih (Sn_lt (xor_lt32 hx (by omega))) (fun d hd => h d (by simp [hd]))
theorem tab_step (x c : Nat) : Sn 8 (x ^^^ c) = x / 256 ^^^ Sn 8 (x % 256 ^^^ c) := by
  conv => lhs; rw [split8 x, Nat.xor_assoc, Nat.xor_comm (x / 256 * 2 ^ 8), ← Nat.xor_assoc, Sn_xor, Sn_pow]
  rw [Nat.xor_comm]
/- a bit that is turned -/
theorem R_flip (l : List Nat) : ∀ (x i r : Nat), i < l.length → r < 8 → R x (l.set i (l.getD i 0 ^^^ 2 ^ r)) = R x l ^^^ Sn (8 * (l.length - i) - r) 1 := by
  induction l with
  | nil => intro x i r hi; simp at hi
  | cons c l ih =>
    intro x i r hi hr
    cases i with
    | zero =>
      simp only [List.set_cons_zero, List.getD_cons_zero, R_cons, List.length_cons]
      rw [← Nat.xor_assoc, Sn_xor, R_xor, ← Sn_add, Sn_bit r _ (by omega)]
      congr 2
      omega
    | succ i =>
      simp only [List.set_cons_succ, List.getD_cons_succ, R_cons, List.length_cons]
      rw [ih _ i r (by simpa using hi) hr]
      congr 2
      omega
/- four bytes, the lowest first -/
theorem split32 (x : Nat) (h : x < 4294967296) : x = x % 256 ^^^ (x / 256 % 256) * 2 ^ 8 ^^^ (x / 65536 % 256) * 2 ^ 16 ^^^ (x / 16777216 % 256) * 2 ^ 24 := by
  apply Nat.eq_of_testBit_eq; intro i
  simp only [Nat.testBit_xor]
  rw [show (256 : Nat) = 2 ^ 8 by decide, show (65536 : Nat) = 2 ^ 16 by decide, show (16777216 : Nat) = 2 ^ 24 by decide]
  simp only [Nat.testBit_mul_two_pow, Nat.testBit_mod_two_pow, Nat.testBit_div_two_pow]
  rcases (by omega : i < 8 ∨ (8 ≤ i ∧ i < 16) ∨ (16 ≤ i ∧ i < 24) ∨ (24 ≤ i ∧ i < 32) ∨ 32 ≤ i) with h1 | h1 | h1 | h1 | h1
  · simp [show i < 8 by omega, show ¬ 8 ≤ i by omega, show ¬ 16 ≤ i by omega, show ¬ 24 ≤ i by omega]
  · simp [show ¬ i < 8 by omega, show 8 ≤ i by omega, show ¬ 16 ≤ i by omega, show ¬ 24 ≤ i by omega, show i - 8 < 8 by omega, show i - 8 + 8 = i by omega]
  · simp [show ¬ i < 8 by omega, show 8 ≤ i by omega, show 16 ≤ i by omega, show ¬ 24 ≤ i by omega, show ¬ i - 8 < 8 by omega, show i - 16 < 8 by omega, show i - 16 + 16 = i by omega]
  · simp [show ¬ i < 8 by omega, show 8 ≤ i by omega, show 16 ≤ i by omega, show 24 ≤ i by omega, show ¬ i - 8 < 8 by omega, show ¬ i - 16 < 8 by omega, show i - 24 < 8 by omega, show i - 24 + 24 = i by omega]
  · have : x.testBit i = false := Nat.testBit_lt_two_pow (Nat.lt_of_lt_of_le h (show 2 ^ 32 ≤ 2 ^ i from Nat.pow_le_pow_right (by decide) h1))
    simp [this, show ¬ i < 8 by omega, show ¬ i - 8 < 8 by omega, show ¬ i - 16 < 8 by omega, show ¬ i - 24 < 8 by omega]
theorem R_four (x s : Nat) (hs : s < 4294967296) : R x [s % 256, s / 256 % 256, s / 65536 % 256, s / 16777216 % 256] = Sn 32 (x ^^^ s) := by
  simp only [R_cons, R_nil]
  conv => rhs; rw [split32 s hs]
  rw [show (32 : Nat) = 8 + (8 + (8 + 8)) by decide]
  simp only [Sn_add, Sn_xor]
  have e1 : Sn 8 (s / 256 % 256 * 2 ^ 8) = s / 256 % 256 := Sn_pow 8 _
  have e2 : Sn 8 (Sn 8 (s / 65536 % 256 * 2 ^ 16)) = s / 65536 % 256 := by rw [← Sn_add]; exact Sn_pow 16 _
  have e3 : Sn 8 (Sn 8 (Sn 8 (s / 16777216 % 256 * 2 ^ 24))) = s / 16777216 % 256 := by rw [← Sn_add, ← Sn_add]; exact Sn_pow 24 _
  rw [e1, e2, e3]
  simp only [Nat.xor_assoc]
theorem residue : Sn 32 4294967295 ^^^ 4294967295 = 558161692 := by decide +kernel
end SM
end Go.Proofs.YtmpamcdobhiipaaGreatDoor
/-
  What the small functions of package sums and of the document's answer do to a number: one shift, eight shifts, products, all bits turned, two sums joined; memory stands as it stood.
-/
namespace Go.Proofs.YtmpamcdobhiipaaGreatDoor
namespace SM
open Go.RowKit

theorem and1_u32 (n : Nat) (h : n < 4294967296) : bits .and .u32 (n : Int) 1 = ((n % 2 : Nat) : Int) := by
  have := u32_and_nat n 1 h (by decide)
  rw [Nat.and_one_is_mod] at this
  exact this
theorem xor_u32 (a b : Nat) (ha : a < 4294967296) (hb : b < 4294967296) : bits .xor .u32 (a : Int) (b : Int) = ((a ^^^ b : Nat) : Int) := u32_xor_nat a b ha hb

set_option maxHeartbeats 400000 in
theorem shifted (n : Nat) (w : World) (h : n < 4294967296) :
    Calls Tryz.prog 94 #[.int .u32 n] w fun e w' => e = .returned (.int .u32 (S n)) ∧ w' = w := by
  have e1 := and1_u32 n h
  rcases Nat.mod_two_eq_zero_or_one n with hx | hx
  · rw [hx] at e1
    rw [S_even n hx]
    go_enter Tryz.func94, Tryz.ntmps94
    go_wp2
    go_ret
    exact ⟨rfl, rfl⟩
  · rw [hx] at e1
    rw [S_odd n hx]
    have e2 := xor_u32 (n / 2) 3988292384 (by omega) (by decide)
    go_enter Tryz.func94, Tryz.ntmps94
    go_wp2
    go_ret
    refine ⟨ret_int ?_, rfl⟩
    exact e2

end SM
end Go.Proofs.YtmpamcdobhiipaaGreatDoor
/-
  The table of package sums and of the document: 256 numbers, each the number of its place behind eight shifts, handed out as a value.
-/
namespace Go.Proofs.YtmpamcdobhiipaaGreatDoor
namespace SM
open Go.RowKit

def tabC (k : Nat) : Array Value := ((List.range 256).map fun i => Value.int .u32 ((if i < k then Sn 8 i else 0 : Nat) : Int)).toArray
theorem tabC_zero : tabC 0 = Array.replicate 256 (.int .u32 0) := by
  unfold tabC
  apply Array.ext
  · simp
  · intro i h1 h2; simp
theorem tabC_size (k : Nat) : (tabC k).size = 256 := by simp [tabC]
theorem tabC_at (k i : Nat) (h : i < 256) : (tabC k)[i]? = some (.int .u32 ((if i < k then Sn 8 i else 0 : Nat) : Int)) := by
  simp [tabC, h]
theorem tabC_set (k : Nat) : (tabC k).setIfInBounds k (.int .u32 (Sn 8 k : Nat)) = tabC (k + 1) := by
  apply Array.ext
  · simp [tabC]
  · intro i h1 h2
    simp only [tabC, List.setIfInBounds_toArray, List.getElem_toArray, List.getElem_set, List.getElem_map, List.getElem_range]
    by_cases e : k = i
    · subst e; simp
    · rw [if_neg e]
      by_cases hik : i < k
      · rw [if_pos hik, if_pos (show i < k + 1 by omega)]
      · rw [if_neg hik, if_neg (show ¬ i < k + 1 by omega)]
theorem tabC_one (k : Nat) : (tabC k).all (·.oneCell') = true := by
  unfold tabC
  rw [Array.all_eq_true_iff_forall_mem]
  intro v hv
  simp at hv
  obtain ⟨i, _, rfl⟩ := hv
  rfl
theorem info34 : (Tryz.prog.info? 156).map (fun i => (i.zero, i.size)) = some (some (.agg (Array.replicate 256 (.int .u32 0))), 256) := by kernel_rfl

theorem up_row {a w : World} (h : Up a w) {g : Nat} (hg : a.heap.size ≤ g) (c : Array Value) : Up a (w.setRow g c) := by
  refine Below.trans h ⟨rfl, rfl, rfl, by simp, fun k hk => setRow_other w g k c (by omega)⟩
set_option maxHeartbeats 1000000 in
set_option maxRecDepth 100000 in
theorem table (w : World) :
    Calls Tryz.prog 86 #[] w fun e w' => e = .returned (.agg (tabC 256)) ∧ Up w w' := by
  obtain ⟨hv34, hi34⟩ := zero_of_info (P := Tryz.prog) info34
  go_enter Tryz.func86, Tryz.ntmps86
  go_wp2_with fail
  rw [← tabC_zero]
  clear hv34
  go_loopw [4] (fun s4 wr => ∃ k : Nat, k ≤ 256 ∧ s4 = .int .i64 k ∧ wr = (w.alloc (.cells (tabC 0) 156)).alloc (.cells (tabC k) 156)) (fun i _ => 256 - (intOf i).toNat)
  case atStart => exact ⟨0, by omega, rfl, rfl⟩
  case round =>
    obtain ⟨k, hk, rfl, rfl⟩ := hrel
    by_cases hlt : k < 256
    · have hki : (k : Int) < 256 := by omega
      have hw : IntKind.u32.wrap (k : Int) = k := by rw [IntKind.wrap_u32']; omega
      go_wp2_with fail
      go_loop [3, 9] (fun s3 s9 => ∃ j x : Nat, j ≤ 8 ∧ x < 4294967296 ∧ Sn j x = Sn 8 k ∧ s3 = .int .u32 x ∧ s9 = .int .i64 ((8 - j : Nat) : Int)) (fun _ i => 8 - (intOf i).toNat)
      case atStart => exact ⟨8, k, by omega, by omega, rfl, rfl, rfl⟩
      case round =>
        obtain ⟨j, x, hj, hx, hm, rfl, rfl⟩ := hrel
        have HM : Hid (Sn j x = Sn 8 k) := hm
        clear hm
        cases j with
        | zero =>
          have HP : Hid (x = Sn 8 k) := HM.out
          have hcell : (tabC k)[k]? = some (.int .u32 0) := by rw [tabC_at k k hlt, if_neg (Nat.lt_irrefl k)]; rfl
          have HW2 : Hid ((tabC k).setIfInBounds k (.int .u32 x) = tabC (k + 1)) := by unfold Hid; rw [HP.out]; exact tabC_set k
          go_wp2_with fail
          go_roundw
          case rel => exact ⟨k + 1, by omega, by go_num, by rw [HW2.out]⟩
          case measure => simp [intOf]; omega
        | succ j =>
          have hi : ((8 - (j + 1) : Nat) : Int) = 7 - (j : Int) := by omega
          rw [hi]
          have hk8 : (7 - (j : Int) < 8) := by omega
          have HN : Hid (Sn j (S x) = Sn 8 k) := HM.out
          have hs := S_lt hx
          go_wp2_with (go_at_call 94; refine (shifted x _ hx).mono ?_; rintro e w' ⟨rfl, rfl⟩)
          go_round
          case rel => exact ⟨j, S x, by omega, hs, HN.out, rfl, by go_num⟩
          case measure => simp [intOf]; omega
    · obtain rfl : k = 256 := by omega
      have hg1 : ((w.alloc (.cells (tabC 0) 156)).alloc (.cells (tabC 256) 156)).heap[w.heap.size + 1]? = some (.cells (tabC 256) 156 (0, 0)) := by
        rw [show w.heap.size + 1 = (w.alloc (.cells (tabC 0) 156)).heap.size by simp]; exact heap_alloc_last _ _
      have hg0 : ((w.alloc (.cells (tabC 0) 156)).alloc (.cells (tabC 256) 156)).heap[w.heap.size]? = some (.cells (tabC 0) 156 (0, 0)) := by
        rw [Below.heap_alloc _ _ _ (by simp)]; exact heap_alloc_last _ _
      have hU : Up w ((w.alloc (.cells (tabC 0) 156)).alloc (.cells (tabC 256) 156)) := ((Up.refl _).alloc _).alloc _
      have hi : (Tryz.prog.info? 156).map (·.size) = some (tabC 256).size := by rw [tabC_size]; exact hi34
      generalize (w.alloc (.cells (tabC 0) 156)).alloc (.cells (tabC 256) 156) = v at *
      go_wp2_with (first
        | (refine wpList_load_row rfl 156 (.tmp 1) rfl (w.heap.size + 1) rfl 156 (tabC 256) (0, 0) _ hg1 Tryz.underlying156 rfl hi ?_)
        | (refine wpList_store_row rfl 156 (.tmp 0) (.tmp 18) rfl w.heap.size (tabC 256) rfl rfl 156 (tabC 0) hg0 hi (by rw [tabC_size, tabC_size]) (tabC_one _) ?_))
      (try simp only [Exit.inBlock, Exit.then])
      refine bodyPost_ret (v := .agg (tabC 256)) (results_cell_row (p := 0) (ty := 156) rfl _ _ w.heap.size 156 (tabC 256) (0, 0) _ rfl (setRow_heap _ _ (tabC 0) _ _ _ hg0) Tryz.underlying156 rfl hi) rfl ⟨rfl, up_row hU (Nat.le_refl _) _⟩
end SM
end Go.Proofs.YtmpamcdobhiipaaGreatDoor
/-
  Bytes that go through the register, by the table and by the document: what Go and Crc answer of a list that lies in memory.
-/
namespace Go.Proofs.YtmpamcdobhiipaaGreatDoor
namespace SM
open Go.RowKit

def Lies (w : World) (v : Value) (zs : List Nat) : Prop :=
  ∃ a cap, v = .slice a zs.length cap ∧ (a = none → cap = 0) ∧ (zs.length ≠ 0 → ∃ b off, a = some ⟨b, off, none⟩ ∧ ∀ i, i < zs.length → w.cell? ⟨b, off + i, none⟩ = some (.int .u8 (zs.getD i 0 : Nat)))
def Bys (zs : List Nat) : Prop := ∀ i, zs.getD i 0 < 256
theorem Lies.up {w w' : World} {v : Value} {zs : List Nat} (h : Lies w v zs) (u : Up w w') : Lies w' v zs := by
  obtain ⟨a, cap, rfl, hz, h⟩ := h
  refine ⟨a, cap, rfl, hz, fun hn => ?_⟩
  obtain ⟨b, off, rfl, hc⟩ := h hn
  exact ⟨b, off, rfl, fun i hi => u.cell (hc i hi)⟩
theorem take_snoc' (zs : List Nat) (k : Nat) (h : k < zs.length) : zs.take (k + 1) = zs.take k ++ [zs.getD k 0] := by
  rw [List.take_succ_eq_append_getElem h]; simp [List.getD, List.getElem?_eq_getElem h]
theorem Bys.mem {zs : List Nat} (h : Bys zs) : ∀ c ∈ zs, c < 256 := by
  intro c hc
  obtain ⟨i, hi, rfl⟩ := List.getElem_of_mem hc
  have := h i
  rwa [List.getD, List.getElem?_eq_getElem hi] at this
theorem Bys.of {zs : List Nat} (h : ∀ c ∈ zs, c < 256) : Bys zs := by
  intro i
  by_cases hi : i < zs.length
  · rw [List.getD, List.getElem?_eq_getElem hi]; exact h _ (List.getElem_mem hi)
  · rw [List.getD, List.getElem?_eq_none (by omega)]; decide
theorem Bys.take {zs : List Nat} (h : Bys zs) (k : Nat) : Bys (zs.take k) := Bys.of fun c hc => h.mem c (List.mem_of_mem_take hc)

set_option maxHeartbeats 1000000 in
set_option maxRecDepth 100000 in
theorem through_some (b off len cap : Nat) (zs : List Nat) (n : Nat) (w : World) (hn : n < 4294967296) (hl : zs.length = len) (hm : len ≤ 9223372036854775807)
    (hc : ∀ i, i < len → w.cell? ⟨b, off + i, none⟩ = some (.int .u8 (zs.getD i 0 : Nat))) (hb : Bys zs) :
    Calls Tryz.prog 85 #[.agg (tabC 256), .int .u32 n, .slice (some ⟨b, off, none⟩) len cap] w fun e w' => e = .returned (.int .u32 (R n zs)) ∧ Up w w' := by
  have HC : Hid (∀ i, i < len → w.cell? ⟨b, off + i, none⟩ = some (.int .u8 (zs.getD i 0 : Nat))) := hc
  have HL : Hid (zs.length = len) := hl
  have HB : Hid (Bys zs) := hb
  clear hc hl hb
  go_enter Tryz.func85, Tryz.ntmps85
  go_wp2_with fail
  go_loop [1, 12] (fun s1 s12 => ∃ k x : Nat, k ≤ len ∧ x < 4294967296 ∧ x = R n (zs.take k) ∧ s1 = .int .u32 x ∧ s12 = .int .i64 k) (fun _ i => len - (intOf i).toNat)
  case atStart => exact ⟨0, n, Nat.zero_le _, hn, rfl, rfl, rfl⟩
  case round =>
    obtain ⟨k, x, hk, hx, hR, rfl, rfl⟩ := hrel
    have HR : Hid (x = R n (zs.take k)) := hR
    clear hR
    by_cases hlt : k < len
    · have hki : (k : Int) < (len : Int) := by omega
      have hcell : (w.alloc (.cells (tabC 256) 156)).cell? ⟨b, off + k, none⟩ = some (.int .u8 (zs.getD k 0 : Nat)) := ((Up.refl w).alloc _).cell (HC.out k hlt)
      have hz := HB.out k
      have HS : Hid (Sn 8 (x ^^^ zs.getD k 0) = R n (zs.take (k + 1))) := by unfold Hid; rw [take_snoc' zs k (by rw [HL.out]; exact hlt), R_snoc, ← HR.out]
      have HT : Hid (Sn 8 (x ^^^ zs.getD k 0) = x / 256 ^^^ Sn 8 (x % 256 ^^^ zs.getD k 0)) := tab_step x _
      generalize zs.getD k 0 = z at *
      obtain ⟨m, hm8⟩ : ∃ m, m = x % 256 := ⟨_, rfl⟩
      obtain ⟨q, hq8⟩ : ∃ q, q = x / 256 := ⟨_, rfl⟩
      have hmb : m < 256 := by omega
      have hw8 : IntKind.u8.wrap (x : Int) = (m : Int) := by rw [IntKind.wrap_u8']; omega
      have hd8 : (x : Int) / 256 = (q : Int) := by omega
      have e1 : bits .xor .u8 (m : Int) (z : Int) = ((m ^^^ z : Nat) : Int) := u8_xor_nat m z hmb hz
      have hib : m ^^^ z < 256 := xor_lt8 hmb hz
      rw [← hm8, ← hq8] at HT
      have e2 : bits .xor .u32 (q : Int) ((Sn 8 (m ^^^ z) : Nat) : Int) = ((q ^^^ Sn 8 (m ^^^ z) : Nat) : Int) := xor_u32 q _ (by omega) (Sn_lt (by omega))
      rw [← HT.out] at e2
      have hs : Sn 8 (x ^^^ z) < 4294967296 := Sn_lt (xor_lt32 hx (by omega))
      have hct := tabC_at 256 (m ^^^ z) hib
      rw [if_pos hib] at hct
      clear HT hm8 hq8
      generalize m ^^^ z = i at *
      have hii : (i : Int) < 256 := by omega
      generalize Sn 8 (x ^^^ z) = r at *
      generalize Sn 8 i = t at *
      go_wp2
      go_round
      case rel => exact ⟨k + 1, r, by omega, hs, HS.out, rfl, by go_num⟩
      case measure => simp [intOf]; omega
    · have : k = len := by omega
      subst this
      have HE : Hid (x = R n zs) := by unfold Hid; rw [HR.out, List.take_of_length_le (by rw [HL.out]; exact Nat.le_refl _)]
      go_wp2
      go_ret
      exact ⟨ret_int (by rw [HE.out]), (Up.refl _).alloc _⟩
set_option maxHeartbeats 400000 in
set_option maxRecDepth 100000 in
theorem through_none (a : Option Addr) (cap n : Nat) (w : World) :
    Calls Tryz.prog 85 #[.agg (tabC 256), .int .u32 n, .slice a 0 cap] w fun e w' => e = .returned (.int .u32 n) ∧ Up w w' := by
  go_enter Tryz.func85, Tryz.ntmps85
  go_wp2
  go_rounds 1
  go_ret
  exact ⟨rfl, (Up.refl _).alloc _⟩
theorem through (v : Value) (zs : List Nat) (n : Nat) (w : World) (hn : n < 4294967296) (h : Lies w v zs) (hm : zs.length ≤ 9223372036854775807) (hb : Bys zs) :
    Calls Tryz.prog 85 #[.agg (tabC 256), .int .u32 n, v] w fun e w' => e = .returned (.int .u32 (R n zs)) ∧ Up w w' := by
  obtain ⟨a, cap, rfl, _, h⟩ := h
  by_cases h0 : zs.length = 0
  · obtain rfl := List.eq_nil_of_length_eq_zero h0
    exact through_none a cap n w
  · obtain ⟨b, off, rfl, hc⟩ := h h0
    exact through_some b off zs.length cap zs n w hn rfl hm hc hb

/- what Go and Crc answer -/
def crc (s : Nat) (zs : List Nat) : Nat := R (s ^^^ 4294967295) zs ^^^ 4294967295
theorem crc_lt {s : Nat} {zs : List Nat} (hs : s < 4294967296) (hb : Bys zs) : crc s zs < 4294967296 := xor_lt32 (R_lt (xor_lt32 hs (by decide)) hb.mem) (by decide)
theorem not_u32 (n : Nat) (h : n < 4294967296) : bits .xor .u32 IntKind.u32.max (n : Int) = ((n ^^^ 4294967295 : Nat) : Int) := by
  rw [show IntKind.u32.max = 4294967295 by decide]
  have := xor_u32 4294967295 n (by decide) h
  rw [Nat.xor_comm] at this
  exact this
set_option maxHeartbeats 400000 in
theorem goes (s : Nat) (v : Value) (zs : List Nat) (w : World) (hs : s < 4294967296) (h : Lies w v zs) (hm : zs.length ≤ 9223372036854775807) (hb : Bys zs) :
    Calls Tryz.prog 61 #[.int .u32 s, v] w fun e w' => e = .returned (.int .u32 (crc s zs)) ∧ Up w w' := by
  have e1 := not_u32 s hs
  have hs' : s ^^^ 4294967295 < 4294967296 := xor_lt32 hs (by decide)
  have e2 := not_u32 (R (s ^^^ 4294967295) zs) (R_lt hs' hb.mem)
  have HE : Hid (crc s zs = R (s ^^^ 4294967295) zs ^^^ 4294967295) := rfl
  generalize crc s zs = c at *
  rw [← HE.out] at e2
  obtain ⟨a, cap, hv, h'⟩ := h
  have HH : Hid (Lies w v zs) := ⟨a, cap, hv, h'⟩
  clear h'
  subst hv
  generalize s ^^^ 4294967295 = s' at *
  go_enter Tryz.func61, Tryz.ntmps61
  go_wp2_with fail
  refine (table _).mono ?_
  rintro e w1 ⟨rfl, u1⟩
  go_wp2_with fail
  refine (through _ zs s' _ hs' (HH.out.up u1) hm hb).mono ?_
  rintro e w2 ⟨rfl, u2⟩
  go_wp2
  go_ret
  exact ⟨rfl, u1.trans u2⟩
set_option maxHeartbeats 400000 in
theorem crcs (v : Value) (zs : List Nat) (w : World) (h : Lies w v zs) (hm : zs.length ≤ 9223372036854775807) (hb : Bys zs) :
    Calls Tryz.prog 48 #[v] w fun e w' => e = .returned (.int .u32 (crc 0 zs)) ∧ Up w w' := by
  obtain ⟨a, cap, hv, h'⟩ := h
  have HH : Hid (Lies w v zs) := ⟨a, cap, hv, h'⟩
  clear h'
  subst hv
  go_enter Tryz.func48, Tryz.ntmps48
  go_wp2_with fail
  refine (goes 0 _ zs _ (by decide) HH.out hm hb).mono ?_
  rintro e w2 ⟨rfl, u2⟩
  go_wp2
  go_ret
  exact ⟨rfl, u2⟩
end SM
end Go.Proofs.YtmpamcdobhiipaaGreatDoor
