/-
  Bits that are turned within 32 that stand together: what becomes of the register, and where the lists differ; plain numbers, no program.
-/
import Derived.Test.YtaecbgdjifbgdaaThr
import Derived.Test.YtaecbgdjifbgdaaBst
namespace Go.Proofs.Ytaecbgdjifbgdaa

/- ys is zs with bits turned: those of W, from the bit p on, k of them looked at -/
def Turned (zs ys : List Nat) (p k W : Nat) : Prop :=
  ys.length = zs.length ∧ Bys ys ∧ W < 2 ^ k ∧ (∀ j, db zs ys j = true → p ≤ j ∧ j < p + k) ∧ (∀ x, R x ys = R x zs ^^^ Sn (8 * zs.length - p) W) ∧ (W = 0 → ys = zs)
theorem Turned.start (zs : List Nat) (h : Bys zs) (p : Nat) : Turned zs zs p 0 0 :=
  ⟨rfl, h, by decide, (fun j hj => by rw [db_self] at hj; cases hj), (fun x => by rw [Sn_nil, Nat.xor_zero]), fun _ => rfl⟩
theorem Turned.skip {zs ys : List Nat} {p k W : Nat} (h : Turned zs ys p k W) : Turned zs ys p (k + 1) W := by
  obtain ⟨h1, h2, h3, h4, h5, h6⟩ := h
  refine ⟨h1, h2, by rw [Nat.pow_succ]; omega, fun j hj => ?_, h5, h6⟩
  have := h4 j hj
  omega
theorem set_getD (ys : List Nat) (i c m : Nat) (hi : i < ys.length) : (ys.set i c).getD m 0 = if m = i then c else ys.getD m 0 := by
  by_cases e : m = i
  · subst e; rw [if_pos rfl]; simp [List.getD, hi]
  · rw [if_neg e]
    simp only [List.getD]
    rw [List.getElem?_set_ne (fun h => e h.symm)]
theorem Turned.flip {zs ys : List Nat} {p k W : Nat} (h : Turned zs ys p k W) (hp : p + k < 8 * zs.length) :
    Turned zs (ys.set ((p + k) / 8) (ys.getD ((p + k) / 8) 0 ^^^ 2 ^ ((p + k) % 8))) p (k + 1) (W ^^^ 2 ^ k) := by
  obtain ⟨h1, h2, h3, h4, h5, h6⟩ := h
  have hi : (p + k) / 8 < ys.length := by omega
  have hr : (p + k) % 8 < 8 := by omega
  have hb : 2 ^ ((p + k) % 8) < 256 := Nat.lt_of_lt_of_le (Nat.pow_lt_pow_right (by decide) hr) (Nat.le_refl (2 ^ 8))
  refine ⟨by rw [List.length_set]; exact h1, Bys.of fun d hd => ?_, ?_, fun j hj => ?_, fun x => ?_, fun e => ?_⟩
  · rcases List.mem_or_eq_of_mem_set hd with g | rfl
    · exact h2.mem d g
    · exact xor_lt8 (h2 _) hb
  · exact Nat.xor_lt_two_pow (by rw [Nat.pow_succ]; omega) (Nat.pow_lt_pow_right (by decide) (Nat.lt_succ_self k))
  · unfold db at hj
    rw [set_getD ys _ _ _ hi] at hj
    by_cases e : j / 8 = (p + k) / 8
    · rw [if_pos e, ← Nat.xor_assoc, Nat.testBit_xor, Nat.testBit_two_pow] at hj
      by_cases e2 : (p + k) % 8 = j % 8
      · omega
      · rw [decide_eq_false e2, Bool.xor_false] at hj
        have hj' : db zs ys j = true := by unfold db; rw [e] at hj ⊢; exact hj
        have := h4 j hj'; omega
    · rw [if_neg e] at hj
      have := h4 j hj; omega
  · rw [R_flip ys x _ _ hi hr, h5, Nat.xor_assoc, Sn_xor, Sn_bit k _ (by omega)]
    congr 3
    omega
  · have e' := xor_eq_zero e
    omega
theorem Turned.ne {zs ys : List Nat} {p k W : Nat} (h : Turned zs ys p k W) (hk : k ≤ 32) (x : Nat) (e : R x ys = R x zs) : ys = zs := by
  obtain ⟨h1, h2, h3, h4, h5, h6⟩ := h
  apply h6
  have := h5 x
  rw [e] at this
  have h0 : Sn (8 * zs.length - p) W = 0 := by
    have h7 := xor_cancel (R x zs) (R x zs)
    have h8 : R x zs ^^^ R x zs = R x zs ^^^ (R x zs ^^^ Sn (8 * zs.length - p) W) := by rw [← this]
    rw [Nat.xor_self, ← Nat.xor_assoc, Nat.xor_self, Nat.zero_xor] at h8
    exact h8.symm
  exact Sn_ne (Nat.lt_of_lt_of_le h3 (Nat.le_trans (Nat.pow_le_pow_right (by decide) hk) (Nat.le_refl (2 ^ 32)))) h0
theorem crc_inj {s : Nat} {zs ys : List Nat} (h : crc s ys = crc s zs) : R (s ^^^ 4294967295) ys = R (s ^^^ 4294967295) zs := by
  unfold crc at h
  have := congrArg (· ^^^ 4294967295) h
  simp only [xor_cancel] at this
  exact this
theorem Turned.crc {zs ys : List Nat} {p k W : Nat} (h : Turned zs ys p k W) (hk : k ≤ 32) : (crc 0 ys = crc 0 zs) ↔ ys = zs :=
  ⟨fun e => h.ne hk _ (crc_inj e), fun e => by rw [e]⟩
theorem crc_laid (zs : List Nat) (hb : Bys zs) : crc 0 (zs ++ [crc 0 zs % 256, crc 0 zs / 256 % 256, crc 0 zs / 65536 % 256, crc 0 zs / 16777216 % 256]) = 558161692 := by
  have hs := crc_lt (s := 0) (by decide) hb
  show R (0 ^^^ 4294967295) (zs ++ [crc 0 zs % 256, crc 0 zs / 256 % 256, crc 0 zs / 65536 % 256, crc 0 zs / 16777216 % 256]) ^^^ 4294967295 = 558161692
  rw [R_append, R_four _ _ hs]
  have : R (0 ^^^ 4294967295) zs ^^^ crc 0 zs = 4294967295 := by
    unfold crc
    rw [← Nat.xor_assoc, Nat.xor_self, Nat.zero_xor]
  rw [this, residue]
theorem same_of_db {zs ys : List Nat} (hl : zs.length = ys.length) (h1 : Bys zs) (h2 : Bys ys) (h : ∀ k, k < 8 * zs.length → db zs ys k = false) : zs = ys := by
  apply List.ext_getElem hl
  intro i hi hi'
  have hx : zs.getD i 0 ^^^ ys.getD i 0 = 0 := by
    apply Nat.eq_of_testBit_eq
    intro k
    rw [Nat.zero_testBit]
    by_cases hk : k < 8
    · rw [← db_byte zs ys i k hk]; exact h _ (by omega)
    · exact Nat.testBit_lt_two_pow (Nat.lt_of_lt_of_le (xor_lt8 (h1 i) (h2 i)) (show 2 ^ 8 ≤ 2 ^ k from Nat.pow_le_pow_right (by decide) (by omega)))
  have := xor_eq_zero hx
  simpa [List.getD, List.getElem?_eq_getElem hi, List.getElem?_eq_getElem hi'] using this
/- what Burst says of such lists -/
theorem Turned.burst {zs ys : List Nat} {p k W : Nat} {x y : Int} (h : Turned zs ys p k W) (hk : k ≤ 32) (hb : Bys zs) (g : BR zs ys x y) : 0 ≤ y ∧ y ≤ 32 ∧ (y = 0 ↔ zs = ys) := by
  obtain ⟨h1, h2, h3, h4, h5, h6⟩ := h
  rcases g with ⟨g0, _⟩ | ⟨g0, ⟨_, rfl, g3⟩ | ⟨i, j, _, rfl, g3, g4, g5, g6, _⟩⟩
  · exact absurd h1.symm g0
  · exact ⟨by decide, by decide, fun _ => same_of_db g0 hb h2 g3, fun _ => rfl⟩
  · have a1 := h4 i g5
    have a2 := h4 j g6
    refine ⟨by omega, by omega, fun e => by omega, fun e => ?_⟩
    subst e
    rw [db_self] at g5; cases g5
end Go.Proofs.Ytaecbgdjifbgdaa
