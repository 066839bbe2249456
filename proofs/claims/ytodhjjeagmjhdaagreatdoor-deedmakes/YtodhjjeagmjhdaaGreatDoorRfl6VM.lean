/-
  The document's field and set.
-/
import Derived.Test.YtodhjjeagmjhdaaGreatDoorSzTvCsa6M
import Derived.Test.YtodhjjeagmjhdaaGreatDoorRp6VM
namespace Go.Proofs.YtodhjjeagmjhdaaGreatDoor
open Go.RowKit
attribute [local go_sem ↓] Go.wp_at_zero Go.wp_at_succ
namespace DE
open Go.Proofs.YtodhjjeagmjhdaaGreatDoor.ST
def fldO (s : Stt) (f k : Int) : Option Int := if 1 <= f /\ f <= 4 then (if numB k s.cs.length = true then cGet (s.cs.getD k.toNat dc) f else none) else if f = 5 ∨ f = 6 then (if numB k s.ps.length = true then pGet (s.ps.getD k.toNat dp) f else none) else none
set_option maxRecDepth 100000 in
set_option maxHeartbeats 8000000 in
theorem rfield_ (v : Value) (s : Stt) (f k : Int) (w : World) (hs : StL w v s) : Calls Tryz.prog 170 #[v, .int .i8 f, .int .i64 k] w fun r w' => r = .returned (.tuple #[.int .i32 ((fldO s f k).getD 0), .bool (fldO s f k).isSome]) /\ Up w w' := by
 obtain ⟨o, ho⟩ : ∃ o, o = fldO s f k := ⟨_, rfl⟩
 rw [<- ho]
 have HO : Hid (o = fldO s f k) := ho
 clear ho
 have HC : Hid (∀ W, Calls Tryz.prog 103 #[.int .i64 k, .int .i64 (s.cs.length : Nat)] W fun e w' => e = .returned (.bool (numB k s.cs.length)) /\ w' = W) := fun W => ris_ k s.cs.length W
 have HPp : Hid (∀ W, Calls Tryz.prog 103 #[.int .i64 k, .int .i64 (s.ps.length : Nat)] W fun e w' => e = .returned (.bool (numB k s.ps.length)) /\ w' = W) := fun W => ris_ k s.ps.length W
 obtain ⟨vp, vc, vz, rfl, h1, h2, h3⟩ := hs
 obtain ⟨a1, k1, rfl, -, hpl⟩ := pl_at h1
 obtain ⟨a2, k2, rfl, -, hcl⟩ := cl_at h2
 obtain ⟨a3, k3, rfl, -, -⟩ := zl_at h3
 unfold sv
 have HU : Hid (Up w (w.alloc (.cells #[.slice a1 s.ps.length k1, .slice a2 s.cs.length k2, .slice a3 s.zs.length k3, .int .i32 s.turn, .int .i64 s.whose, .int .i8 s.fin, .int .i64 s.winner] 27))) := (Up.refl _).alloc _
 have HCL : Hid _ := hcl
 have HPL : Hid _ := hpl
 clear h1 h2 h3 hcl hpl
 by_cases h1 : f = 1
 ·subst h1
  cases hb : numB k s.cs.length with
  | true =>
   rw [hb] at HC
   obtain ⟨i, rfl, hi⟩ := num_nat hb
   have hv : o = some (s.cs.getD i dc).power := by rw [HO.out]; simp [fldO, hb, cGet]
   obtain ⟨cb, co, rfl, hcc⟩ := HCL.out (by omega)
   obtain ⟨x0, x1, x2, x3, x4, x5⟩ := hcc _ HU.out i hi
   have hi2 : (i : Int) < (s.cs.length : Int) := by omega
   generalize s.cs.getD i dc = c at *
   generalize s.cs.length = m at *
   subst hv
   clear hb hcc HCL HPL HPp HO
   go_enter Tryz.func170, Tryz.ntmps170
   go_wp2_with fail
   refine Calls.mono (HC.out _) ?_
   rintro r W1 ⟨rfl, rfl⟩
   go_wp2
   exact bodyPost_ret (v := .tuple #[.int .i32 c.power, .bool true]) (by simp [results, Tryz.results170, go_sem]) rfl ⟨rfl, Up.alloc HU.out _⟩
  | false =>
   rw [hb] at HC
   have hv : o = none := by rw [HO.out]; simp [fldO, hb]
   subst hv
   clear hb HCL HPL HPp HO
   go_enter Tryz.func170, Tryz.ntmps170
   go_wp2_with fail
   refine Calls.mono (HC.out _) ?_
   rintro r W1 ⟨rfl, rfl⟩
   go_wp2
   exact bodyPost_ret (v := .tuple #[.int .i32 0, .bool false]) (by simp [results, Tryz.results170, go_sem]) rfl ⟨rfl, HU.out⟩
 ·have f1 : (f == 1) = false := beq_eq_false_iff_ne.2 h1
  by_cases h2 : f = 2
  ·subst h2
   cases hb : numB k s.cs.length with
   | true =>
    rw [hb] at HC
    obtain ⟨i, rfl, hi⟩ := num_nat hb
    have hv : o = some (s.cs.getD i dc).health := by rw [HO.out]; simp [fldO, hb, cGet]
    obtain ⟨cb, co, rfl, hcc⟩ := HCL.out (by omega)
    obtain ⟨x0, x1, x2, x3, x4, x5⟩ := hcc _ HU.out i hi
    have hi2 : (i : Int) < (s.cs.length : Int) := by omega
    generalize s.cs.getD i dc = c at *
    generalize s.cs.length = m at *
    subst hv
    clear hb hcc HCL HPL HPp HO
    go_enter Tryz.func170, Tryz.ntmps170
    go_wp2_with fail
    refine Calls.mono (HC.out _) ?_
    rintro r W1 ⟨rfl, rfl⟩
    go_wp2
    exact bodyPost_ret (v := .tuple #[.int .i32 c.health, .bool true]) (by simp [results, Tryz.results170, go_sem]) rfl ⟨rfl, Up.alloc HU.out _⟩
   | false =>
    rw [hb] at HC
    have hv : o = none := by rw [HO.out]; simp [fldO, hb]
    subst hv
    clear hb HCL HPL HPp HO
    go_enter Tryz.func170, Tryz.ntmps170
    go_wp2_with fail
    refine Calls.mono (HC.out _) ?_
    rintro r W1 ⟨rfl, rfl⟩
    go_wp2
    exact bodyPost_ret (v := .tuple #[.int .i32 0, .bool false]) (by simp [results, Tryz.results170, go_sem]) rfl ⟨rfl, HU.out⟩
  ·have f2 : (f == 2) = false := beq_eq_false_iff_ne.2 h2
   by_cases h3 : f = 3
   ·subst h3
    cases hb : numB k s.cs.length with
    | true =>
     rw [hb] at HC
     obtain ⟨i, rfl, hi⟩ := num_nat hb
     have hv : o = some (s.cs.getD i dc).damage := by rw [HO.out]; simp [fldO, hb, cGet]
     obtain ⟨cb, co, rfl, hcc⟩ := HCL.out (by omega)
     obtain ⟨x0, x1, x2, x3, x4, x5⟩ := hcc _ HU.out i hi
     have hi2 : (i : Int) < (s.cs.length : Int) := by omega
     generalize s.cs.getD i dc = c at *
     generalize s.cs.length = m at *
     subst hv
     clear hb hcc HCL HPL HPp HO
     go_enter Tryz.func170, Tryz.ntmps170
     go_wp2_with fail
     refine Calls.mono (HC.out _) ?_
     rintro r W1 ⟨rfl, rfl⟩
     go_wp2
     exact bodyPost_ret (v := .tuple #[.int .i32 c.damage, .bool true]) (by simp [results, Tryz.results170, go_sem]) rfl ⟨rfl, Up.alloc HU.out _⟩
    | false =>
     rw [hb] at HC
     have hv : o = none := by rw [HO.out]; simp [fldO, hb]
     subst hv
     clear hb HCL HPL HPp HO
     go_enter Tryz.func170, Tryz.ntmps170
     go_wp2_with fail
     refine Calls.mono (HC.out _) ?_
     rintro r W1 ⟨rfl, rfl⟩
     go_wp2
     exact bodyPost_ret (v := .tuple #[.int .i32 0, .bool false]) (by simp [results, Tryz.results170, go_sem]) rfl ⟨rfl, HU.out⟩
   ·have f3 : (f == 3) = false := beq_eq_false_iff_ne.2 h3
    by_cases h4 : f = 4
    ·subst h4
     cases hb : numB k s.cs.length with
     | true =>
      rw [hb] at HC
      obtain ⟨i, rfl, hi⟩ := num_nat hb
      have hv : o = some (s.cs.getD i dc).marks := by rw [HO.out]; simp [fldO, hb, cGet]
      obtain ⟨cb, co, rfl, hcc⟩ := HCL.out (by omega)
      obtain ⟨x0, x1, x2, x3, x4, x5⟩ := hcc _ HU.out i hi
      have hi2 : (i : Int) < (s.cs.length : Int) := by omega
      generalize s.cs.getD i dc = c at *
      generalize s.cs.length = m at *
      subst hv
      clear hb hcc HCL HPL HPp HO
      go_enter Tryz.func170, Tryz.ntmps170
      go_wp2_with fail
      refine Calls.mono (HC.out _) ?_
      rintro r W1 ⟨rfl, rfl⟩
      go_wp2
      exact bodyPost_ret (v := .tuple #[.int .i32 c.marks, .bool true]) (by simp [results, Tryz.results170, go_sem]) rfl ⟨rfl, Up.alloc HU.out _⟩
     | false =>
      rw [hb] at HC
      have hv : o = none := by rw [HO.out]; simp [fldO, hb]
      subst hv
      clear hb HCL HPL HPp HO
      go_enter Tryz.func170, Tryz.ntmps170
      go_wp2_with fail
      refine Calls.mono (HC.out _) ?_
      rintro r W1 ⟨rfl, rfl⟩
      go_wp2
      exact bodyPost_ret (v := .tuple #[.int .i32 0, .bool false]) (by simp [results, Tryz.results170, go_sem]) rfl ⟨rfl, HU.out⟩
    ·have f4 : (f == 4) = false := beq_eq_false_iff_ne.2 h4
     by_cases h5 : f = 5
     ·subst h5
      cases hb : numB k s.ps.length with
      | true =>
       rw [hb] at HPp
       obtain ⟨i, rfl, hi⟩ := num_nat hb
       have hv : o = some (s.ps.getD i dp).life := by rw [HO.out]; simp [fldO, hb, pGet]
       obtain ⟨cb, co, rfl, hcc⟩ := HPL.out (by omega)
       obtain ⟨x0, x1, x2⟩ := hcc _ HU.out i hi
       have hi2 : (i : Int) < (s.ps.length : Int) := by omega
       generalize s.ps.getD i dp = c at *
       generalize s.ps.length = m at *
       subst hv
       clear hb hcc HCL HPL HC HO
       go_enter Tryz.func170, Tryz.ntmps170
       go_wp2_with fail
       refine Calls.mono (HPp.out _) ?_
       rintro r W1 ⟨rfl, rfl⟩
       go_wp2
       exact bodyPost_ret (v := .tuple #[.int .i32 c.life, .bool true]) (by simp [results, Tryz.results170, go_sem]) rfl ⟨rfl, HU.out⟩
      | false =>
       rw [hb] at HPp
       have hv : o = none := by rw [HO.out]; simp [fldO, hb]
       subst hv
       clear hb HCL HPL HC HO
       go_enter Tryz.func170, Tryz.ntmps170
       go_wp2_with fail
       refine Calls.mono (HPp.out _) ?_
       rintro r W1 ⟨rfl, rfl⟩
       go_wp2
       exact bodyPost_ret (v := .tuple #[.int .i32 0, .bool false]) (by simp [results, Tryz.results170, go_sem]) rfl ⟨rfl, HU.out⟩
     ·have f5 : (f == 5) = false := beq_eq_false_iff_ne.2 h5
      by_cases h6 : f = 6
      ·subst h6
       cases hb : numB k s.ps.length with
       | true =>
        rw [hb] at HPp
        obtain ⟨i, rfl, hi⟩ := num_nat hb
        have hv : o = some (s.ps.getD i dp).energy := by rw [HO.out]; simp [fldO, hb, pGet]
        obtain ⟨cb, co, rfl, hcc⟩ := HPL.out (by omega)
        obtain ⟨x0, x1, x2⟩ := hcc _ HU.out i hi
        have hi2 : (i : Int) < (s.ps.length : Int) := by omega
        generalize s.ps.getD i dp = c at *
        generalize s.ps.length = m at *
        subst hv
        clear hb hcc HCL HPL HC HO
        go_enter Tryz.func170, Tryz.ntmps170
        go_wp2_with fail
        refine Calls.mono (HPp.out _) ?_
        rintro r W1 ⟨rfl, rfl⟩
        go_wp2
        exact bodyPost_ret (v := .tuple #[.int .i32 c.energy, .bool true]) (by simp [results, Tryz.results170, go_sem]) rfl ⟨rfl, HU.out⟩
       | false =>
        rw [hb] at HPp
        have hv : o = none := by rw [HO.out]; simp [fldO, hb]
        subst hv
        clear hb HCL HPL HC HO
        go_enter Tryz.func170, Tryz.ntmps170
        go_wp2_with fail
        refine Calls.mono (HPp.out _) ?_
        rintro r W1 ⟨rfl, rfl⟩
        go_wp2
        exact bodyPost_ret (v := .tuple #[.int .i32 0, .bool false]) (by simp [results, Tryz.results170, go_sem]) rfl ⟨rfl, HU.out⟩
      ·have f6 : (f == 6) = false := beq_eq_false_iff_ne.2 h6
       have hv : o = none := by
        rw [HO.out]
        unfold fldO
        rw [if_neg (by omega), if_neg (by omega)]
       subst hv
       clear HCL HPL HC HPp HO
       by_cases g1 : 1 <= f
       ·have g2 : decide ((1 : Int) <= f) = true := decide_eq_true g1
        have g3 : decide (f <= (4 : Int)) = false := decide_eq_false (by omega)
        clear h1 h2 h3 h4 h5 h6 g1
        go_enter Tryz.func170, Tryz.ntmps170
        go_wp2
        exact bodyPost_ret (v := .tuple #[.int .i32 0, .bool false]) (by simp [results, Tryz.results170, go_sem]) rfl ⟨rfl, HU.out⟩
       ·have g2 : decide ((1 : Int) <= f) = false := decide_eq_false g1
        clear h1 h2 h3 h4 h5 h6 g1
        go_enter Tryz.func170, Tryz.ntmps170
        go_wp2
        exact bodyPost_ret (v := .tuple #[.int .i32 0, .bool false]) (by simp [results, Tryz.results170, go_sem]) rfl ⟨rfl, HU.out⟩
end DE
end Go.Proofs.YtodhjjeagmjhdaaGreatDoor
