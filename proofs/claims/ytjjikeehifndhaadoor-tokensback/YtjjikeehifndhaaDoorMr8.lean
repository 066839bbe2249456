
/-
  Which texts are marks, no program.
-/
import Derived.Test.YtjjikeehifndhaaDoorCl8
namespace Go.Proofs.YtjjikeehifndhaaDoor
namespace TK
theorem u8_is {a : Int} (h : 0 ≤ a ∧ a < 256) (k : UInt8) : (UInt8.ofNat a.toNat = k) ↔ (a = (k.toNat : Int)) := by
  constructor
  · intro e
    have h1 := congrArg UInt8.toNat e
    rw [UInt8.toNat_ofNat'] at h1
    omega
  · intro e
    apply UInt8.toNat_inj.1
    rw [UInt8.toNat_ofNat']
    have := k.toNat_lt
    omega
theorem nums_list (l : List Int) : (strOfNums l).toList = l.map fun n => UInt8.ofNat n.toNat := by
  rw [ByteArray.toList_eq]
  rfl
theorem mrk_is {l : List Int} (h : Byt l) : mrkS (strOfNums l) = mrk l := by
  unfold mrkS
  rw [nums_list]
  match l, h with
  | [], _ => rfl
  | [a], h =>
    have ha := h a (by simp)
    simp only [List.map_cons, List.map_nil, mrk, sgl, List.cons.injEq, and_true, reduceCtorEq, and_false, decide_false, Bool.or_false, Bool.false_or, u8_is ha]
    rw [Bool.eq_iff_iff]
    simp
    omega
  | [a, b], h =>
    have ha := h a (by simp)
    have hb := h b (by simp)
    simp only [List.map_cons, List.map_nil, mrk, two, List.cons.injEq, and_true, reduceCtorEq, and_false, decide_false, Bool.false_or, u8_is ha, u8_is hb]
    rw [Bool.eq_iff_iff]
    simp
    omega
  | a :: b :: c :: r, _ => simp [mrk]
end TK
end Go.Proofs.YtjjikeehifndhaaDoor
