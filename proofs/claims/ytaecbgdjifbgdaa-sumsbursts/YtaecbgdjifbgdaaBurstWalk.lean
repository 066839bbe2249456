/-
  The law on bursts, walked: whatever slices hold the two lists.
-/
import Derived.Test.YtaecbgdjifbgdaaRefBurst
import Derived.Test.YtaecbgdjifbgdaaCrcWalk
namespace Go.Proofs.Ytaecbgdjifbgdaa
open Go.RowKit

set_option maxHeartbeats 400000 in
theorem burstLong1 (a b : Option Addr) (la lb ca cb : Nat) (w : World) (hm : 2147483647 < la) :
    Calls Try.prog 6 #[.slice a la ca, .slice b lb cb] w fun e w' => e = .returned (.bool true) ∧ Up w w' := by
  have hd : decide (2147483647 < la) = true := decide_eq_true hm
  go_enter Try.func6, Try.ntmps6
  go_wp2_with fail
  refine (longB la _).mono ?_
  rintro e w1 ⟨rfl, rfl⟩
  rw [hd]
  go_wp2
  go_ret
  exact ⟨rfl, Up.refl _⟩
set_option maxHeartbeats 400000 in
theorem burstLong2 (a b : Option Addr) (la lb ca cb : Nat) (w : World) (h1 : la ≤ 2147483647) (hm : 2147483647 < lb) :
    Calls Try.prog 6 #[.slice a la ca, .slice b lb cb] w fun e w' => e = .returned (.bool true) ∧ Up w w' := by
  have hd1 : decide (2147483647 < la) = false := decide_eq_false (by omega)
  have hd : decide (2147483647 < lb) = true := decide_eq_true hm
  go_enter Try.func6, Try.ntmps6
  go_wp2_with fail
  refine (longB la _).mono ?_
  rintro e w1 ⟨rfl, rfl⟩
  rw [hd1]
  go_wp2_with fail
  refine (longB lb _).mono ?_
  rintro e w2 ⟨rfl, rfl⟩
  rw [hd]
  go_wp2
  go_ret
  exact ⟨rfl, Up.refl _⟩
theorem row_lies {w : World} {base g : Nat} {zs : List Nat} (h : Row w base g (fillL zs (zs.length + 64) (zs.length + 64))) : Lies w (.slice (some ⟨g, 0, none⟩) zs.length (zs.length + 64)) zs := by
  have := h.lies (cap := zs.length + 64) zs.length (by rw [fillL_len]; omega)
  rw [fillL_take zs _ (by omega)] at this
  exact this
set_option maxHeartbeats 4000000 in
theorem burstWalk (a b : Option Addr) (ca cb : Nat) (A B : List Nat) (w : World) (hA : Lies w (.slice a A.length ca) A) (bA : Bys A) (hB : Lies w (.slice b B.length cb) B) (bB : Bys B) (hla : A.length ≤ 2147483647) (hlb : B.length ≤ 2147483647) :
    Calls Try.prog 6 #[.slice a A.length ca, .slice b B.length cb] w fun e w' => e = .returned (.bool true) ∧ Up w w' := by
  have HA : Hid (Lies w (.slice a A.length ca) A) := hA
  have HB : Hid (Lies w (.slice b B.length cb) B) := hB
  have QA : Hid (Bys A) := bA
  have QB : Hid (Bys B) := bB
  clear hA hB bA bB
  have hd1 : decide (2147483647 < A.length) = false := decide_eq_false (by omega)
  have hd2 : decide (2147483647 < B.length) = false := decide_eq_false (by omega)
  go_enter Try.func6, Try.ntmps6
  go_wp2_with fail
  refine (longB A.length _).mono ?_
  rintro e w1 ⟨rfl, rfl⟩
  rw [hd1]
  go_wp2_with fail
  refine (longB B.length _).mono ?_
  rintro e w2 ⟨rfl, rfl⟩
  rw [hd2]
  clear hd1 hd2
  go_wp2_with fail
  refine (wideB _ A _ HA.out QA.out hla).mono ?_
  rintro e w3 ⟨g1, rfl, r1, y3⟩
  have R1 : Hid (Row w3 w2.heap.size g1 (fillL A (A.length + 64) (A.length + 64))) := r1
  clear r1
  go_wp2_with fail
  refine (wideB _ B _ (HB.out.up y3) QB.out hlb).mono ?_
  rintro e w4 ⟨g2, rfl, r2, y4⟩
  have R2 : Hid (Row w4 w3.heap.size g2 (fillL B (B.length + 64) (B.length + 64))) := r2
  have X1 : Hid (Lies w4 (.slice (some ⟨g1, 0, none⟩) A.length (A.length + 64)) A) := row_lies (R1.out.up y4)
  have X2 : Hid (Lies w4 (.slice (some ⟨g2, 0, none⟩) B.length (B.length + 64)) B) := row_lies R2.out
  have z4 := y3.trans y4
  clear r2 y3
  go_wp2_with fail
  refine (burstB _ _ A B _ X1.out X2.out QA.out QB.out (by omega)).mono ?_
  rintro e w5 ⟨p1, q1, rfl, br1, y5⟩
  have T1 : Hid (BR A B p1 q1) := br1
  clear br1
  go_wp2_with fail
  refine (burstB _ _ B A _ (X2.out.up y5) (X1.out.up y5) QB.out QA.out (by omega)).mono ?_
  rintro e w6 ⟨p2, q2, rfl, br2, y6⟩
  obtain ⟨rfl, rfl⟩ := T1.out.unique br2.symm
  clear br2
  have v6 := y5.trans y6
  have z6 := z4.trans v6
  clear y5 y6
  go_wp2_with fail
  refine (copyB _ A _ (HA.out.up z6) (by omega)).mono ?_
  rintro e w7 ⟨u7, rfl, o7, y7⟩
  have O7 : Hid (Lies w7 u7 A) := o7.lies
  clear o7
  go_wp2_with fail
  refine (burstB _ u7 A A _ (X1.out.up (v6.trans y7)) O7.out QA.out QA.out (by omega)).mono ?_
  rintro e w8 ⟨p3, q3, rfl, br3, y8⟩
  obtain ⟨rfl, rfl⟩ := br3.self
  clear br3 O7
  have v8 := v6.trans (y7.trans y8)
  have z8 := z6.trans (y7.trans y8)
  clear y7 y8 v6 z6
  go_wp2_with fail
  refine (rburstB _ _ A B _ (HA.out.up z8) (HB.out.up z8) QA.out QB.out (by omega)).mono ?_
  rintro e w9 ⟨p4, q4, rfl, br4, y9⟩
  obtain ⟨rfl, rfl⟩ := T1.out.unique br4
  clear br4 T1
  have v9 := v8.trans y9
  have z9 := z8.trans y9
  clear y9 v8 z8
  have f1 : (p1 != p1) = false := by simp
  have f2 : (q1 != q1) = false := by simp
  go_wp2_with fail
  refine (eqB _ _ A A _ (X1.out.up v9) (HA.out.up z9) (by omega)).mono ?_
  rintro e w10 ⟨rfl, y10⟩
  rw [show decide (A = A) = true from decide_eq_true rfl]
  have v10 := v9.trans y10
  have z10 := z9.trans y10
  clear y10 v9 z9
  go_wp2_with fail
  refine (spareB g1 A.length _ hla (spare_row (R1.out.up (y4.trans v10)))).mono ?_
  rintro e w11 ⟨rfl, rfl⟩
  go_wp2_with fail
  refine (eqB _ _ B B _ (X2.out.up v10) (HB.out.up z10) (by omega)).mono ?_
  rintro e w12 ⟨rfl, y12⟩
  rw [show decide (B = B) = true from decide_eq_true rfl]
  go_wp2_with fail
  refine (spareB g2 B.length _ hlb (spare_row (R2.out.up (v10.trans y12)))).mono ?_
  rintro e w13 ⟨rfl, rfl⟩
  go_wp2_with fail
  refine (works _).mono ?_
  rintro e w14 ⟨rfl, y14⟩
  go_wp2
  go_ret
  exact ⟨rfl, z10.trans (y12.trans y14)⟩
end Go.Proofs.Ytaecbgdjifbgdaa
