/-
  Plain facts on whole numbers: a number cut to the ends of a kind, sums, products and quotients that come round or do not. No Go text is in sight.
-/
import Derived.WalkKit
import Derived.OpenShut
namespace Go.Proofs.YtjabjiahienohaaGreatDoor
open Go.RowKit

def cutI (lo hi x : Int) : Int := if x < lo then lo else if hi < x then hi else x
def nz (b : Int) : Bool := !(b == 0)
theorem nz_yes (b : Int) (h : ¬ b = 0) : nz b = true := by simp [nz, h]
theorem nz_no : nz 0 = false := by decide
theorem ret_pair {k : IntKind} {a b : Int} {p q : Bool} (h : a = b) (g : p = q) : Ending.returned (.tuple #[.int k a, .bool p]) = .returned (.tuple #[.int k b, .bool q]) := by rw [h, g]
theorem ret_bool {p q : Bool} (h : p = q) : Ending.returned (.bool p) = .returned (.bool q) := by rw [h]
theorem wrap_i8 (n : Int) : IntKind.i8.wrap n = (n + 128) % 256 - 128 := by
  simp only [IntKind.wrap, IntKind.bits, IntKind.signed]; simp; split <;> omega
theorem wrap_i16 (n : Int) : IntKind.i16.wrap n = (n + 32768) % 65536 - 32768 := by
  simp only [IntKind.wrap, IntKind.bits, IntKind.signed]; simp; split <;> omega
theorem wrap_i32 (n : Int) : wrap32 n = (n + 2147483648) % 4294967296 - 2147483648 := by unfold wrap32; rfl
theorem wrap_i64 (n : Int) : wrap64 n = (n + 9223372036854775808) % 18446744073709551616 - 9223372036854775808 := by unfold wrap64; rfl
theorem tmod_bd (p b : Int) (hb : ¬ b = 0) : (p.tmod b).natAbs < b.natAbs := by
  rw [Int.natAbs_tmod]; exact Nat.mod_lt _ (by omega)
theorem mul_sign (a b : Int) (ha : ¬ a = 0) (hb : ¬ b = 0) : ((a < 0 ∧ b < 0 ∨ 0 < a ∧ 0 < b) ∧ 0 < a * b) ∨ ((a < 0 ∧ 0 < b ∨ 0 < a ∧ b < 0) ∧ a * b < 0) := by
  rcases Int.lt_or_gt_of_ne ha with h | h <;> rcases Int.lt_or_gt_of_ne hb with g | g
  · exact .inl ⟨.inl ⟨h, g⟩, Int.mul_pos_of_neg_of_neg h g⟩
  · exact .inr ⟨.inl ⟨h, g⟩, Int.mul_neg_of_neg_of_pos h g⟩
  · exact .inr ⟨.inr ⟨h, g⟩, Int.mul_neg_of_pos_of_neg h g⟩
  · exact .inl ⟨.inr ⟨h, g⟩, Int.mul_pos h g⟩
theorem tdiv_abs (a b : Int) : (a.tdiv b).natAbs = a.natAbs / b.natAbs := Int.natAbs_tdiv a b


/-! ### the kind of 8 bits -/
def cut8 (x : Int) : Int := cutI (-128) 127 x
def end8V (q : Bool) : Int := bif q then -128 else 127
theorem cut8_bd (x : Int) : -128 ≤ cut8 x ∧ cut8 x ≤ 127 := by unfold cut8 cutI; omega
theorem cut8_in (x : Int) (h : -128 ≤ x) (g : x ≤ 127) : cut8 x = x := by unfold cut8 cutI; omega
theorem cut8_lo (x : Int) (h : x < -128) : cut8 x = -128 := by unfold cut8 cutI; omega
theorem cut8_hi (x : Int) (h : 127 < x) : cut8 x = 127 := by unfold cut8 cutI; omega
theorem end8_t : end8V true = -128 := rfl
theorem end8_f : end8V false = 127 := rfl
theorem far8 (a b : Int) (hb : ¬ b = 0) (b1 : -128 ≤ b) (b2 : b ≤ 127) (hx : a * b < -128 ∨ 127 < a * b) : ¬ (IntKind.i8.wrap (a * b)).tdiv b = a := by
  intro h
  have e := Int.mul_tdiv_add_tmod (IntKind.i8.wrap (a * b)) b
  have t := tmod_bd (IntKind.i8.wrap (a * b)) b hb
  rw [h, Int.mul_comm] at e
  generalize (IntKind.i8.wrap (a * b)).tmod b = m at *
  generalize a * b = x at *
  rw [wrap_i8] at e
  omega
theorem quo8_in (a b : Int) (a1 : -128 ≤ a) (a2 : a ≤ 127) (hb : ¬ b = 0) (hn : ¬ b = -1) : -128 ≤ a.tdiv b ∧ a.tdiv b ≤ 127 := by
  have t := tdiv_abs a b
  by_cases h : b = 1
  · subst h; rw [Int.tdiv_one]; exact ⟨a1, a2⟩
  · have h2 : 2 ≤ b.natAbs := by omega
    have h3 : a.natAbs / b.natAbs ≤ a.natAbs / 2 := Nat.div_le_div_left h2 (by omega)
    generalize a.tdiv b = q at *
    omega
theorem rem8_in (a b : Int) (b1 : -128 ≤ b) (b2 : b ≤ 127) (hb : ¬ b = 0) : -128 ≤ a.tmod b ∧ a.tmod b ≤ 127 := by
  have t := tmod_bd a b hb
  generalize a.tmod b = q at *
  omega
theorem mulN8 (a b : Int) (a1 : -128 ≤ a) (a2 : a ≤ 127) (b1 : -128 ≤ b) (b2 : b ≤ 127) (ha : ¬ a = 0) (hb : ¬ b = 0) (h : ¬ IntKind.i8.wrap ((IntKind.i8.wrap (a * b)).tdiv b) = a) : end8V (!(decide (a < 0) == decide (b < 0))) = cut8 (a * b) := by
  have hs := mul_sign a b ha hb
  by_cases r : -128 ≤ a * b ∧ a * b ≤ 127
  · exfalso
    have e : IntKind.i8.wrap (a * b) = a * b := by rw [wrap_i8]; omega
    rw [e, Int.mul_tdiv_cancel _ hb, wrap_i8] at h
    omega
  · unfold end8V cut8 cutI
    generalize a * b = x at *
    rcases hs with ⟨⟨p, q⟩ | ⟨p, q⟩, s⟩ | ⟨⟨p, q⟩ | ⟨p, q⟩, s⟩
    · simp [p, q]; omega
    · have p' : ¬ a < 0 := by omega
      have q' : ¬ b < 0 := by omega
      simp [p', q']; omega
    · have q' : ¬ b < 0 := by omega
      simp [p, q']; omega
    · have p' : ¬ a < 0 := by omega
      simp [p', q]; omega
theorem mulY8 (a b : Int) (a1 : -128 ≤ a) (a2 : a ≤ 127) (b1 : -128 ≤ b) (b2 : b ≤ 127) (ha : ¬ a = 0) (hb : ¬ b = 0) (h : IntKind.i8.wrap ((IntKind.i8.wrap (a * b)).tdiv b) = a) :
    (-128 ≤ a * b ∧ a * b ≤ 127 ∧ IntKind.i8.wrap (a * b) = a * b) ∨ (a = -128 ∧ b = -1 ∧ IntKind.i8.wrap (a * b) = -128) := by
  by_cases r : -128 ≤ a * b ∧ a * b ≤ 127
  · left; refine ⟨r.1, r.2, ?_⟩; rw [wrap_i8]; omega
  · right
    have f := far8 a b hb b1 b2 (by omega)
    have wb : -128 ≤ IntKind.i8.wrap (a * b) ∧ IntKind.i8.wrap (a * b) ≤ 127 := by rw [wrap_i8]; omega
    by_cases n1 : b = -1
    · subst n1
      have ax : a * -1 = -a := by omega
      rw [ax] at *
      have : a = -128 := by omega
      subst this
      refine ⟨rfl, rfl, ?_⟩; rw [wrap_i8]; decide
    · exfalso
      have q := quo8_in _ b wb.1 wb.2 hb n1
      generalize (IntKind.i8.wrap (a * b)).tdiv b = t at *
      rw [wrap_i8] at h
      omega
theorem mulYn8 (a b : Int) (a1 : -128 ≤ a) (a2 : a ≤ 127) (b1 : -128 ≤ b) (b2 : b ≤ 127) (ha : ¬ a = 0) (hb : ¬ b = 0) (h : IntKind.i8.wrap ((IntKind.i8.wrap (a * b)).tdiv b) = a) (g : (!decide (IntKind.i8.wrap (a * b) < 0) == !(decide (a < 0) == decide (b < 0))) = true) : end8V (!(decide (a < 0) == decide (b < 0))) = cut8 (a * b) := by
  rcases mulY8 a b a1 a2 b1 b2 ha hb h with ⟨r1, r2, e⟩ | ⟨rfl, rfl, e⟩
  · exfalso
    rw [e] at g
    rcases mul_sign a b ha hb with ⟨⟨p, q⟩ | ⟨p, q⟩, s⟩ | ⟨⟨p, q⟩ | ⟨p, q⟩, s⟩
    · have s' : ¬ a * b < 0 := by omega
      simp [p, q, s'] at g
    · have s' : ¬ a * b < 0 := by omega
      have p' : ¬ a < 0 := by omega
      have q' : ¬ b < 0 := by omega
      simp [p', q', s'] at g
    · have q' : ¬ b < 0 := by omega
      simp [p, q', s] at g
    · have p' : ¬ a < 0 := by omega
      simp [p', q, s] at g
  · decide
theorem mulYy8 (a b : Int) (a1 : -128 ≤ a) (a2 : a ≤ 127) (b1 : -128 ≤ b) (b2 : b ≤ 127) (ha : ¬ a = 0) (hb : ¬ b = 0) (h : IntKind.i8.wrap ((IntKind.i8.wrap (a * b)).tdiv b) = a) (g : (!decide (IntKind.i8.wrap (a * b) < 0) == !(decide (a < 0) == decide (b < 0))) = false) : IntKind.i8.wrap (a * b) = cut8 (a * b) := by
  rcases mulY8 a b a1 a2 b1 b2 ha hb h with ⟨r1, r2, e⟩ | ⟨rfl, rfl, e⟩
  · rw [e, cut8_in _ r1 r2]
  · exfalso
    rw [e] at g
    simp at g


/-! ### the kind of 16 bits -/
def cut16 (x : Int) : Int := cutI (-32768) 32767 x
def end16V (q : Bool) : Int := bif q then -32768 else 32767
theorem cut16_bd (x : Int) : -32768 ≤ cut16 x ∧ cut16 x ≤ 32767 := by unfold cut16 cutI; omega
theorem cut16_in (x : Int) (h : -32768 ≤ x) (g : x ≤ 32767) : cut16 x = x := by unfold cut16 cutI; omega
theorem cut16_lo (x : Int) (h : x < -32768) : cut16 x = -32768 := by unfold cut16 cutI; omega
theorem cut16_hi (x : Int) (h : 32767 < x) : cut16 x = 32767 := by unfold cut16 cutI; omega
theorem end16_t : end16V true = -32768 := rfl
theorem end16_f : end16V false = 32767 := rfl
theorem far16 (a b : Int) (hb : ¬ b = 0) (b1 : -32768 ≤ b) (b2 : b ≤ 32767) (hx : a * b < -32768 ∨ 32767 < a * b) : ¬ (IntKind.i16.wrap (a * b)).tdiv b = a := by
  intro h
  have e := Int.mul_tdiv_add_tmod (IntKind.i16.wrap (a * b)) b
  have t := tmod_bd (IntKind.i16.wrap (a * b)) b hb
  rw [h, Int.mul_comm] at e
  generalize (IntKind.i16.wrap (a * b)).tmod b = m at *
  generalize a * b = x at *
  rw [wrap_i16] at e
  omega
theorem quo16_in (a b : Int) (a1 : -32768 ≤ a) (a2 : a ≤ 32767) (hb : ¬ b = 0) (hn : ¬ b = -1) : -32768 ≤ a.tdiv b ∧ a.tdiv b ≤ 32767 := by
  have t := tdiv_abs a b
  by_cases h : b = 1
  · subst h; rw [Int.tdiv_one]; exact ⟨a1, a2⟩
  · have h2 : 2 ≤ b.natAbs := by omega
    have h3 : a.natAbs / b.natAbs ≤ a.natAbs / 2 := Nat.div_le_div_left h2 (by omega)
    generalize a.tdiv b = q at *
    omega
theorem rem16_in (a b : Int) (b1 : -32768 ≤ b) (b2 : b ≤ 32767) (hb : ¬ b = 0) : -32768 ≤ a.tmod b ∧ a.tmod b ≤ 32767 := by
  have t := tmod_bd a b hb
  generalize a.tmod b = q at *
  omega
theorem mulN16 (a b : Int) (a1 : -32768 ≤ a) (a2 : a ≤ 32767) (b1 : -32768 ≤ b) (b2 : b ≤ 32767) (ha : ¬ a = 0) (hb : ¬ b = 0) (h : ¬ IntKind.i16.wrap ((IntKind.i16.wrap (a * b)).tdiv b) = a) : end16V (!(decide (a < 0) == decide (b < 0))) = cut16 (a * b) := by
  have hs := mul_sign a b ha hb
  by_cases r : -32768 ≤ a * b ∧ a * b ≤ 32767
  · exfalso
    have e : IntKind.i16.wrap (a * b) = a * b := by rw [wrap_i16]; omega
    rw [e, Int.mul_tdiv_cancel _ hb, wrap_i16] at h
    omega
  · unfold end16V cut16 cutI
    generalize a * b = x at *
    rcases hs with ⟨⟨p, q⟩ | ⟨p, q⟩, s⟩ | ⟨⟨p, q⟩ | ⟨p, q⟩, s⟩
    · simp [p, q]; omega
    · have p' : ¬ a < 0 := by omega
      have q' : ¬ b < 0 := by omega
      simp [p', q']; omega
    · have q' : ¬ b < 0 := by omega
      simp [p, q']; omega
    · have p' : ¬ a < 0 := by omega
      simp [p', q]; omega
theorem mulY16 (a b : Int) (a1 : -32768 ≤ a) (a2 : a ≤ 32767) (b1 : -32768 ≤ b) (b2 : b ≤ 32767) (ha : ¬ a = 0) (hb : ¬ b = 0) (h : IntKind.i16.wrap ((IntKind.i16.wrap (a * b)).tdiv b) = a) :
    (-32768 ≤ a * b ∧ a * b ≤ 32767 ∧ IntKind.i16.wrap (a * b) = a * b) ∨ (a = -32768 ∧ b = -1 ∧ IntKind.i16.wrap (a * b) = -32768) := by
  by_cases r : -32768 ≤ a * b ∧ a * b ≤ 32767
  · left; refine ⟨r.1, r.2, ?_⟩; rw [wrap_i16]; omega
  · right
    have f := far16 a b hb b1 b2 (by omega)
    have wb : -32768 ≤ IntKind.i16.wrap (a * b) ∧ IntKind.i16.wrap (a * b) ≤ 32767 := by rw [wrap_i16]; omega
    by_cases n1 : b = -1
    · subst n1
      have ax : a * -1 = -a := by omega
      rw [ax] at *
      have : a = -32768 := by omega
      subst this
      refine ⟨rfl, rfl, ?_⟩; rw [wrap_i16]; decide
    · exfalso
      have q := quo16_in _ b wb.1 wb.2 hb n1
      generalize (IntKind.i16.wrap (a * b)).tdiv b = t at *
      rw [wrap_i16] at h
      omega
theorem mulYn16 (a b : Int) (a1 : -32768 ≤ a) (a2 : a ≤ 32767) (b1 : -32768 ≤ b) (b2 : b ≤ 32767) (ha : ¬ a = 0) (hb : ¬ b = 0) (h : IntKind.i16.wrap ((IntKind.i16.wrap (a * b)).tdiv b) = a) (g : (!decide (IntKind.i16.wrap (a * b) < 0) == !(decide (a < 0) == decide (b < 0))) = true) : end16V (!(decide (a < 0) == decide (b < 0))) = cut16 (a * b) := by
  rcases mulY16 a b a1 a2 b1 b2 ha hb h with ⟨r1, r2, e⟩ | ⟨rfl, rfl, e⟩
  · exfalso
    rw [e] at g
    rcases mul_sign a b ha hb with ⟨⟨p, q⟩ | ⟨p, q⟩, s⟩ | ⟨⟨p, q⟩ | ⟨p, q⟩, s⟩
    · have s' : ¬ a * b < 0 := by omega
      simp [p, q, s'] at g
    · have s' : ¬ a * b < 0 := by omega
      have p' : ¬ a < 0 := by omega
      have q' : ¬ b < 0 := by omega
      simp [p', q', s'] at g
    · have q' : ¬ b < 0 := by omega
      simp [p, q', s] at g
    · have p' : ¬ a < 0 := by omega
      simp [p', q, s] at g
  · decide
theorem mulYy16 (a b : Int) (a1 : -32768 ≤ a) (a2 : a ≤ 32767) (b1 : -32768 ≤ b) (b2 : b ≤ 32767) (ha : ¬ a = 0) (hb : ¬ b = 0) (h : IntKind.i16.wrap ((IntKind.i16.wrap (a * b)).tdiv b) = a) (g : (!decide (IntKind.i16.wrap (a * b) < 0) == !(decide (a < 0) == decide (b < 0))) = false) : IntKind.i16.wrap (a * b) = cut16 (a * b) := by
  rcases mulY16 a b a1 a2 b1 b2 ha hb h with ⟨r1, r2, e⟩ | ⟨rfl, rfl, e⟩
  · rw [e, cut16_in _ r1 r2]
  · exfalso
    rw [e] at g
    simp at g


/-! ### the kind of 32 bits -/
def cut32 (x : Int) : Int := cutI (-2147483648) 2147483647 x
def end32V (q : Bool) : Int := bif q then -2147483648 else 2147483647
theorem cut32_bd (x : Int) : -2147483648 ≤ cut32 x ∧ cut32 x ≤ 2147483647 := by unfold cut32 cutI; omega
theorem cut32_in (x : Int) (h : -2147483648 ≤ x) (g : x ≤ 2147483647) : cut32 x = x := by unfold cut32 cutI; omega
theorem cut32_lo (x : Int) (h : x < -2147483648) : cut32 x = -2147483648 := by unfold cut32 cutI; omega
theorem cut32_hi (x : Int) (h : 2147483647 < x) : cut32 x = 2147483647 := by unfold cut32 cutI; omega
theorem end32_t : end32V true = -2147483648 := rfl
theorem end32_f : end32V false = 2147483647 := rfl
theorem far32 (a b : Int) (hb : ¬ b = 0) (b1 : -2147483648 ≤ b) (b2 : b ≤ 2147483647) (hx : a * b < -2147483648 ∨ 2147483647 < a * b) : ¬ (wrap32 (a * b)).tdiv b = a := by
  intro h
  have e := Int.mul_tdiv_add_tmod (wrap32 (a * b)) b
  have t := tmod_bd (wrap32 (a * b)) b hb
  rw [h, Int.mul_comm] at e
  generalize (wrap32 (a * b)).tmod b = m at *
  generalize a * b = x at *
  rw [wrap_i32] at e
  omega
theorem quo32_in (a b : Int) (a1 : -2147483648 ≤ a) (a2 : a ≤ 2147483647) (hb : ¬ b = 0) (hn : ¬ b = -1) : -2147483648 ≤ a.tdiv b ∧ a.tdiv b ≤ 2147483647 := by
  have t := tdiv_abs a b
  by_cases h : b = 1
  · subst h; rw [Int.tdiv_one]; exact ⟨a1, a2⟩
  · have h2 : 2 ≤ b.natAbs := by omega
    have h3 : a.natAbs / b.natAbs ≤ a.natAbs / 2 := Nat.div_le_div_left h2 (by omega)
    generalize a.tdiv b = q at *
    omega
theorem rem32_in (a b : Int) (b1 : -2147483648 ≤ b) (b2 : b ≤ 2147483647) (hb : ¬ b = 0) : -2147483648 ≤ a.tmod b ∧ a.tmod b ≤ 2147483647 := by
  have t := tmod_bd a b hb
  generalize a.tmod b = q at *
  omega
theorem mulN32 (a b : Int) (a1 : -2147483648 ≤ a) (a2 : a ≤ 2147483647) (b1 : -2147483648 ≤ b) (b2 : b ≤ 2147483647) (ha : ¬ a = 0) (hb : ¬ b = 0) (h : ¬ wrap32 ((wrap32 (a * b)).tdiv b) = a) : end32V (!(decide (a < 0) == decide (b < 0))) = cut32 (a * b) := by
  have hs := mul_sign a b ha hb
  by_cases r : -2147483648 ≤ a * b ∧ a * b ≤ 2147483647
  · exfalso
    have e : wrap32 (a * b) = a * b := by rw [wrap_i32]; omega
    rw [e, Int.mul_tdiv_cancel _ hb, wrap_i32] at h
    omega
  · unfold end32V cut32 cutI
    generalize a * b = x at *
    rcases hs with ⟨⟨p, q⟩ | ⟨p, q⟩, s⟩ | ⟨⟨p, q⟩ | ⟨p, q⟩, s⟩
    · simp [p, q]; omega
    · have p' : ¬ a < 0 := by omega
      have q' : ¬ b < 0 := by omega
      simp [p', q']; omega
    · have q' : ¬ b < 0 := by omega
      simp [p, q']; omega
    · have p' : ¬ a < 0 := by omega
      simp [p', q]; omega
theorem mulY32 (a b : Int) (a1 : -2147483648 ≤ a) (a2 : a ≤ 2147483647) (b1 : -2147483648 ≤ b) (b2 : b ≤ 2147483647) (ha : ¬ a = 0) (hb : ¬ b = 0) (h : wrap32 ((wrap32 (a * b)).tdiv b) = a) :
    (-2147483648 ≤ a * b ∧ a * b ≤ 2147483647 ∧ wrap32 (a * b) = a * b) ∨ (a = -2147483648 ∧ b = -1 ∧ wrap32 (a * b) = -2147483648) := by
  by_cases r : -2147483648 ≤ a * b ∧ a * b ≤ 2147483647
  · left; refine ⟨r.1, r.2, ?_⟩; rw [wrap_i32]; omega
  · right
    have f := far32 a b hb b1 b2 (by omega)
    have wb : -2147483648 ≤ wrap32 (a * b) ∧ wrap32 (a * b) ≤ 2147483647 := by rw [wrap_i32]; omega
    by_cases n1 : b = -1
    · subst n1
      have ax : a * -1 = -a := by omega
      rw [ax] at *
      have : a = -2147483648 := by omega
      subst this
      refine ⟨rfl, rfl, ?_⟩; rw [wrap_i32]; decide
    · exfalso
      have q := quo32_in _ b wb.1 wb.2 hb n1
      generalize (wrap32 (a * b)).tdiv b = t at *
      rw [wrap_i32] at h
      omega
theorem mulYn32 (a b : Int) (a1 : -2147483648 ≤ a) (a2 : a ≤ 2147483647) (b1 : -2147483648 ≤ b) (b2 : b ≤ 2147483647) (ha : ¬ a = 0) (hb : ¬ b = 0) (h : wrap32 ((wrap32 (a * b)).tdiv b) = a) (g : (!decide (wrap32 (a * b) < 0) == !(decide (a < 0) == decide (b < 0))) = true) : end32V (!(decide (a < 0) == decide (b < 0))) = cut32 (a * b) := by
  rcases mulY32 a b a1 a2 b1 b2 ha hb h with ⟨r1, r2, e⟩ | ⟨rfl, rfl, e⟩
  · exfalso
    rw [e] at g
    rcases mul_sign a b ha hb with ⟨⟨p, q⟩ | ⟨p, q⟩, s⟩ | ⟨⟨p, q⟩ | ⟨p, q⟩, s⟩
    · have s' : ¬ a * b < 0 := by omega
      simp [p, q, s'] at g
    · have s' : ¬ a * b < 0 := by omega
      have p' : ¬ a < 0 := by omega
      have q' : ¬ b < 0 := by omega
      simp [p', q', s'] at g
    · have q' : ¬ b < 0 := by omega
      simp [p, q', s] at g
    · have p' : ¬ a < 0 := by omega
      simp [p', q, s] at g
  · decide
theorem mulYy32 (a b : Int) (a1 : -2147483648 ≤ a) (a2 : a ≤ 2147483647) (b1 : -2147483648 ≤ b) (b2 : b ≤ 2147483647) (ha : ¬ a = 0) (hb : ¬ b = 0) (h : wrap32 ((wrap32 (a * b)).tdiv b) = a) (g : (!decide (wrap32 (a * b) < 0) == !(decide (a < 0) == decide (b < 0))) = false) : wrap32 (a * b) = cut32 (a * b) := by
  rcases mulY32 a b a1 a2 b1 b2 ha hb h with ⟨r1, r2, e⟩ | ⟨rfl, rfl, e⟩
  · rw [e, cut32_in _ r1 r2]
  · exfalso
    rw [e] at g
    simp at g


/-! ### the kind of 64 bits -/
def cut64 (x : Int) : Int := cutI (-9223372036854775808) 9223372036854775807 x
def end64V (q : Bool) : Int := bif q then -9223372036854775808 else 9223372036854775807
theorem cut64_bd (x : Int) : -9223372036854775808 ≤ cut64 x ∧ cut64 x ≤ 9223372036854775807 := by unfold cut64 cutI; omega
theorem cut64_in (x : Int) (h : -9223372036854775808 ≤ x) (g : x ≤ 9223372036854775807) : cut64 x = x := by unfold cut64 cutI; omega
theorem cut64_lo (x : Int) (h : x < -9223372036854775808) : cut64 x = -9223372036854775808 := by unfold cut64 cutI; omega
theorem cut64_hi (x : Int) (h : 9223372036854775807 < x) : cut64 x = 9223372036854775807 := by unfold cut64 cutI; omega
theorem end64_t : end64V true = -9223372036854775808 := rfl
theorem end64_f : end64V false = 9223372036854775807 := rfl
theorem far64 (a b : Int) (hb : ¬ b = 0) (b1 : -9223372036854775808 ≤ b) (b2 : b ≤ 9223372036854775807) (hx : a * b < -9223372036854775808 ∨ 9223372036854775807 < a * b) : ¬ (wrap64 (a * b)).tdiv b = a := by
  intro h
  have e := Int.mul_tdiv_add_tmod (wrap64 (a * b)) b
  have t := tmod_bd (wrap64 (a * b)) b hb
  rw [h, Int.mul_comm] at e
  generalize (wrap64 (a * b)).tmod b = m at *
  generalize a * b = x at *
  rw [wrap_i64] at e
  omega
theorem quo64_in (a b : Int) (a1 : -9223372036854775808 ≤ a) (a2 : a ≤ 9223372036854775807) (hb : ¬ b = 0) (hn : ¬ b = -1) : -9223372036854775808 ≤ a.tdiv b ∧ a.tdiv b ≤ 9223372036854775807 := by
  have t := tdiv_abs a b
  by_cases h : b = 1
  · subst h; rw [Int.tdiv_one]; exact ⟨a1, a2⟩
  · have h2 : 2 ≤ b.natAbs := by omega
    have h3 : a.natAbs / b.natAbs ≤ a.natAbs / 2 := Nat.div_le_div_left h2 (by omega)
    generalize a.tdiv b = q at *
    omega
theorem rem64_in (a b : Int) (b1 : -9223372036854775808 ≤ b) (b2 : b ≤ 9223372036854775807) (hb : ¬ b = 0) : -9223372036854775808 ≤ a.tmod b ∧ a.tmod b ≤ 9223372036854775807 := by
  have t := tmod_bd a b hb
  generalize a.tmod b = q at *
  omega
theorem mulN64 (a b : Int) (a1 : -9223372036854775808 ≤ a) (a2 : a ≤ 9223372036854775807) (b1 : -9223372036854775808 ≤ b) (b2 : b ≤ 9223372036854775807) (ha : ¬ a = 0) (hb : ¬ b = 0) (h : ¬ wrap64 ((wrap64 (a * b)).tdiv b) = a) : end64V (!(decide (a < 0) == decide (b < 0))) = cut64 (a * b) := by
  have hs := mul_sign a b ha hb
  by_cases r : -9223372036854775808 ≤ a * b ∧ a * b ≤ 9223372036854775807
  · exfalso
    have e : wrap64 (a * b) = a * b := by rw [wrap_i64]; omega
    rw [e, Int.mul_tdiv_cancel _ hb, wrap_i64] at h
    omega
  · unfold end64V cut64 cutI
    generalize a * b = x at *
    rcases hs with ⟨⟨p, q⟩ | ⟨p, q⟩, s⟩ | ⟨⟨p, q⟩ | ⟨p, q⟩, s⟩
    · simp [p, q]; omega
    · have p' : ¬ a < 0 := by omega
      have q' : ¬ b < 0 := by omega
      simp [p', q']; omega
    · have q' : ¬ b < 0 := by omega
      simp [p, q']; omega
    · have p' : ¬ a < 0 := by omega
      simp [p', q]; omega
theorem mulY64 (a b : Int) (a1 : -9223372036854775808 ≤ a) (a2 : a ≤ 9223372036854775807) (b1 : -9223372036854775808 ≤ b) (b2 : b ≤ 9223372036854775807) (ha : ¬ a = 0) (hb : ¬ b = 0) (h : wrap64 ((wrap64 (a * b)).tdiv b) = a) :
    (-9223372036854775808 ≤ a * b ∧ a * b ≤ 9223372036854775807 ∧ wrap64 (a * b) = a * b) ∨ (a = -9223372036854775808 ∧ b = -1 ∧ wrap64 (a * b) = -9223372036854775808) := by
  by_cases r : -9223372036854775808 ≤ a * b ∧ a * b ≤ 9223372036854775807
  · left; refine ⟨r.1, r.2, ?_⟩; rw [wrap_i64]; omega
  · right
    have f := far64 a b hb b1 b2 (by omega)
    have wb : -9223372036854775808 ≤ wrap64 (a * b) ∧ wrap64 (a * b) ≤ 9223372036854775807 := by rw [wrap_i64]; omega
    by_cases n1 : b = -1
    · subst n1
      have ax : a * -1 = -a := by omega
      rw [ax] at *
      have : a = -9223372036854775808 := by omega
      subst this
      refine ⟨rfl, rfl, ?_⟩; rw [wrap_i64]; decide
    · exfalso
      have q := quo64_in _ b wb.1 wb.2 hb n1
      generalize (wrap64 (a * b)).tdiv b = t at *
      rw [wrap_i64] at h
      omega
theorem mulYn64 (a b : Int) (a1 : -9223372036854775808 ≤ a) (a2 : a ≤ 9223372036854775807) (b1 : -9223372036854775808 ≤ b) (b2 : b ≤ 9223372036854775807) (ha : ¬ a = 0) (hb : ¬ b = 0) (h : wrap64 ((wrap64 (a * b)).tdiv b) = a) (g : (!decide (wrap64 (a * b) < 0) == !(decide (a < 0) == decide (b < 0))) = true) : end64V (!(decide (a < 0) == decide (b < 0))) = cut64 (a * b) := by
  rcases mulY64 a b a1 a2 b1 b2 ha hb h with ⟨r1, r2, e⟩ | ⟨rfl, rfl, e⟩
  · exfalso
    rw [e] at g
    rcases mul_sign a b ha hb with ⟨⟨p, q⟩ | ⟨p, q⟩, s⟩ | ⟨⟨p, q⟩ | ⟨p, q⟩, s⟩
    · have s' : ¬ a * b < 0 := by omega
      simp [p, q, s'] at g
    · have s' : ¬ a * b < 0 := by omega
      have p' : ¬ a < 0 := by omega
      have q' : ¬ b < 0 := by omega
      simp [p', q', s'] at g
    · have q' : ¬ b < 0 := by omega
      simp [p, q', s] at g
    · have p' : ¬ a < 0 := by omega
      simp [p', q, s] at g
  · decide
theorem mulYy64 (a b : Int) (a1 : -9223372036854775808 ≤ a) (a2 : a ≤ 9223372036854775807) (b1 : -9223372036854775808 ≤ b) (b2 : b ≤ 9223372036854775807) (ha : ¬ a = 0) (hb : ¬ b = 0) (h : wrap64 ((wrap64 (a * b)).tdiv b) = a) (g : (!decide (wrap64 (a * b) < 0) == !(decide (a < 0) == decide (b < 0))) = false) : wrap64 (a * b) = cut64 (a * b) := by
  rcases mulY64 a b a1 a2 b1 b2 ha hb h with ⟨r1, r2, e⟩ | ⟨rfl, rfl, e⟩
  · rw [e, cut64_in _ r1 r2]
  · exfalso
    rw [e] at g
    simp at g

end Go.Proofs.YtjabjiahienohaaGreatDoor
