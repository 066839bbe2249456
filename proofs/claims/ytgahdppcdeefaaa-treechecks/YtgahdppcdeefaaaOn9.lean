/-
  The document's open at a field, or a row, given what chain and row answer.
-/
import Derived.Test.YtgahdppcdeefaaaRo9
import Derived.Test.YtgahdppcdeefaaaOg9
namespace Go.Proofs.Ytgahdppcdeefaaa
open Go.RowKit
attribute [local go_sem ↓] Go.wp_at_zero Go.wp_at_succ
namespace TR
set_option maxRecDepth 100000 in
set_option maxHeartbeats 16000000 in
theorem open_field (v : Value) (l : List Nd) (p d M : Nat) (w : World) (a : Nd) (hv : NLs w v l) (hp : p < l.length) (ha : l.getD p dn = a) (h49 : a.op = 49) (hn : l.length ≤ 1000000)
    (HCH : ∀ W, Up w W → Calls Try.prog 41 #[v, .int .i64 (p : Int), .int .i64 (d : Int)] W fun e w' => e = .returned (.int .i64 (M : Int)) ∧ Up W w') :
    Calls Try.prog 30 #[v, .int .i64 (p : Int), .int .i64 (d : Int)] w (fun e w' => e = .returned (.int .i64 (M : Int)) ∧ Up w w') := by
  obtain ⟨Post, hPost⟩ : ∃ P : Ending → World → Prop, P = fun e w' => e = .returned (.int .i64 (M : Int)) ∧ Up w w' := ⟨_, rfl⟩
  rw [← hPost]
  have HPo : Hid (Post = fun e w' => e = .returned (.int .i64 (M : Int)) ∧ Up w w') := hPost
  clear hPost
  have HKD : Hid (∀ W, Up w W → Calls Try.prog 40 #[v, .int .i64 (p : Int)] W (CpN W fun W' v' => W'.ownsRow W.heap.size 3 1 v' (kds l p).length (ivn (kds l p)))) := fun W hu => rkids_ v l p W (hv.up hu) hn (by omega)
  have HV : Hid (∀ W, Up w W → NLs W v l) := fun W hu => hv.up hu
  obtain ⟨ad, c, rfl, hc, hcell⟩ := nl_at hv
  obtain ⟨bk, off, rfl, hce⟩ := hcell (by omega)
  have xs : ∀ j x, (ndc a)[j]? = some x → w.cell? ⟨bk, off + p * 7 + j, none⟩ = some x := fun j x hj => hce w (Up.refl _) p hp j x (by rw [ha]; exact hj)
  obtain ⟨aop, akd, an, am, at_, aps, aks⟩ := a
  simp only at h49
  subst h49
  have x0 : w.cell? ⟨bk, off + p * 7, none⟩ = some (.int .i8 49) := xs 0 _ rfl
  have x1 : w.cell? ⟨bk, off + p * 7 + 1, none⟩ = some (.int .i8 akd) := xs 1 _ rfl
  have x2 : w.cell? ⟨bk, off + p * 7 + 2, none⟩ = some (.int .i64 an) := xs 2 _ rfl
  have x3 : w.cell? ⟨bk, off + p * 7 + 3, none⟩ = some (.int .i64 am) := xs 3 _ rfl
  have x4 : w.cell? ⟨bk, off + p * 7 + 4, none⟩ = some (.string (strOfNums at_)) := xs 4 _ rfl
  have x5 : w.cell? ⟨bk, off + p * 7 + 5, none⟩ = some (.int .i64 aps) := xs 5 _ rfl
  have x6 : w.cell? ⟨bk, off + p * 7 + 6, none⟩ = some (.int .i64 aks) := xs 6 _ rfl
  obtain ⟨n, hN⟩ : ∃ n, n = l.length := ⟨_, rfl⟩
  rw [← hN] at hp hn hc HKD HCH HV ⊢
  have hp2 : (p : Int) < (n : Int) := by omega
  have HCO : Hid (∀ W, Up w W → Calls Try.prog 41 #[.slice (some ⟨bk, off, none⟩) n c, .int .i64 (p : Int), .int .i64 (d : Int)] W fun e w' => e = .returned (.int .i64 (M : Int)) ∧ Up W w') := HCH
  clear hcell hce hv hN ha xs HCH
  generalize strOfNums at_ = st at *
  go_enter Try.func30, Try.ntmps30
  go_wp2_with fail
  refine Calls.mono (HKD.out _ ((Up.refl _).alloc _)) ?_
  rintro e w1 ⟨vk, rfl, -, hu1⟩
  have HU1 : Hid (Up w w1) := ((Up.refl _).alloc _).trans hu1
  have y0 : w1.cell? ⟨w.heap.size, 0, none⟩ = some (.int .i8 49) := hu1.cell (by simp only [World.cell?, heap_alloc_new]; rfl)
  clear hu1 x0 x1 x2 x3 x4 x5 x6 HKD HV
  go_wp2_with fail
  refine Calls.mono (HCO.out w1 HU1.out) ?_
  rintro e w2 ⟨rfl, hu2⟩
  go_wp2_with fail
  rw [HPo.out]
  exact ⟨rfl, HU1.out.trans hu2⟩
set_option maxRecDepth 100000 in
set_option maxHeartbeats 16000000 in
theorem open_row36 (v : Value) (l : List Nd) (p d M m : Nat) (w : World) (a : Nd) (hv : NLs w v l) (hp : p < l.length) (ha : l.getD p dn = a) (h49 : a.op = 36) (hn : l.length ≤ 1000000)
    (HCH : ∀ W, Up w W → Calls Try.prog 44 #[v, .int .i64 (p : Int), .int .i64 (d : Int)] W fun e w' => e = .returned (.tuple #[.int .i64 (M : Int), .int .i64 (m : Int)]) ∧ Up W w') :
    Calls Try.prog 30 #[v, .int .i64 (p : Int), .int .i64 (d : Int)] w (fun e w' => e = .returned (.int .i64 (M : Int)) ∧ Up w w') := by
  obtain ⟨Post, hPost⟩ : ∃ P : Ending → World → Prop, P = fun e w' => e = .returned (.int .i64 (M : Int)) ∧ Up w w' := ⟨_, rfl⟩
  rw [← hPost]
  have HPo : Hid (Post = fun e w' => e = .returned (.int .i64 (M : Int)) ∧ Up w w') := hPost
  clear hPost
  have HKD : Hid (∀ W, Up w W → Calls Try.prog 40 #[v, .int .i64 (p : Int)] W (CpN W fun W' v' => W'.ownsRow W.heap.size 3 1 v' (kds l p).length (ivn (kds l p)))) := fun W hu => rkids_ v l p W (hv.up hu) hn (by omega)
  have HV : Hid (∀ W, Up w W → NLs W v l) := fun W hu => hv.up hu
  obtain ⟨ad, c, rfl, hc, hcell⟩ := nl_at hv
  obtain ⟨bk, off, rfl, hce⟩ := hcell (by omega)
  have xs : ∀ j x, (ndc a)[j]? = some x → w.cell? ⟨bk, off + p * 7 + j, none⟩ = some x := fun j x hj => hce w (Up.refl _) p hp j x (by rw [ha]; exact hj)
  obtain ⟨aop, akd, an, am, at_, aps, aks⟩ := a
  simp only at h49
  subst h49
  have x0 : w.cell? ⟨bk, off + p * 7, none⟩ = some (.int .i8 36) := xs 0 _ rfl
  have x1 : w.cell? ⟨bk, off + p * 7 + 1, none⟩ = some (.int .i8 akd) := xs 1 _ rfl
  have x2 : w.cell? ⟨bk, off + p * 7 + 2, none⟩ = some (.int .i64 an) := xs 2 _ rfl
  have x3 : w.cell? ⟨bk, off + p * 7 + 3, none⟩ = some (.int .i64 am) := xs 3 _ rfl
  have x4 : w.cell? ⟨bk, off + p * 7 + 4, none⟩ = some (.string (strOfNums at_)) := xs 4 _ rfl
  have x5 : w.cell? ⟨bk, off + p * 7 + 5, none⟩ = some (.int .i64 aps) := xs 5 _ rfl
  have x6 : w.cell? ⟨bk, off + p * 7 + 6, none⟩ = some (.int .i64 aks) := xs 6 _ rfl
  obtain ⟨n, hN⟩ : ∃ n, n = l.length := ⟨_, rfl⟩
  rw [← hN] at hp hn hc HKD HCH HV ⊢
  have hp2 : (p : Int) < (n : Int) := by omega
  have HCO : Hid (∀ W, Up w W → Calls Try.prog 44 #[.slice (some ⟨bk, off, none⟩) n c, .int .i64 (p : Int), .int .i64 (d : Int)] W fun e w' => e = .returned (.tuple #[.int .i64 (M : Int), .int .i64 (m : Int)]) ∧ Up W w') := HCH
  clear hcell hce hv hN ha xs HCH
  generalize strOfNums at_ = st at *
  go_enter Try.func30, Try.ntmps30
  go_wp2_with fail
  refine Calls.mono (HKD.out _ ((Up.refl _).alloc _)) ?_
  rintro e w1 ⟨vk, rfl, -, hu1⟩
  have HU1 : Hid (Up w w1) := ((Up.refl _).alloc _).trans hu1
  have y0 : w1.cell? ⟨w.heap.size, 0, none⟩ = some (.int .i8 36) := hu1.cell (by simp only [World.cell?, heap_alloc_new]; rfl)
  clear hu1 x0 x1 x2 x3 x4 x5 x6 HKD HV
  go_wp2_with fail
  refine Calls.mono (rank_ 36 w1) ?_
  rintro e w2 ⟨rfl, hw⟩
  obtain rfl := hw.symm
  clear hw
  rw [show rRank 36 = 1 by decide]
  go_wp2_with fail
  refine Calls.mono (expr_ 36 w1) ?_
  rintro e w2 ⟨rfl, hw⟩
  obtain rfl := hw.symm
  clear hw
  rw [show rExpr 36 = true by decide]
  go_wp2_with fail
  refine Calls.mono (HCO.out w1 HU1.out) ?_
  rintro e w2 ⟨rfl, hu2⟩
  go_wp2_with fail
  rw [HPo.out]
  exact ⟨rfl, HU1.out.trans hu2⟩
set_option maxRecDepth 100000 in
set_option maxHeartbeats 16000000 in
theorem open_row37 (v : Value) (l : List Nd) (p d M m : Nat) (w : World) (a : Nd) (hv : NLs w v l) (hp : p < l.length) (ha : l.getD p dn = a) (h49 : a.op = 37) (hn : l.length ≤ 1000000)
    (HCH : ∀ W, Up w W → Calls Try.prog 44 #[v, .int .i64 (p : Int), .int .i64 (d : Int)] W fun e w' => e = .returned (.tuple #[.int .i64 (M : Int), .int .i64 (m : Int)]) ∧ Up W w') :
    Calls Try.prog 30 #[v, .int .i64 (p : Int), .int .i64 (d : Int)] w (fun e w' => e = .returned (.int .i64 (M : Int)) ∧ Up w w') := by
  obtain ⟨Post, hPost⟩ : ∃ P : Ending → World → Prop, P = fun e w' => e = .returned (.int .i64 (M : Int)) ∧ Up w w' := ⟨_, rfl⟩
  rw [← hPost]
  have HPo : Hid (Post = fun e w' => e = .returned (.int .i64 (M : Int)) ∧ Up w w') := hPost
  clear hPost
  have HKD : Hid (∀ W, Up w W → Calls Try.prog 40 #[v, .int .i64 (p : Int)] W (CpN W fun W' v' => W'.ownsRow W.heap.size 3 1 v' (kds l p).length (ivn (kds l p)))) := fun W hu => rkids_ v l p W (hv.up hu) hn (by omega)
  have HV : Hid (∀ W, Up w W → NLs W v l) := fun W hu => hv.up hu
  obtain ⟨ad, c, rfl, hc, hcell⟩ := nl_at hv
  obtain ⟨bk, off, rfl, hce⟩ := hcell (by omega)
  have xs : ∀ j x, (ndc a)[j]? = some x → w.cell? ⟨bk, off + p * 7 + j, none⟩ = some x := fun j x hj => hce w (Up.refl _) p hp j x (by rw [ha]; exact hj)
  obtain ⟨aop, akd, an, am, at_, aps, aks⟩ := a
  simp only at h49
  subst h49
  have x0 : w.cell? ⟨bk, off + p * 7, none⟩ = some (.int .i8 37) := xs 0 _ rfl
  have x1 : w.cell? ⟨bk, off + p * 7 + 1, none⟩ = some (.int .i8 akd) := xs 1 _ rfl
  have x2 : w.cell? ⟨bk, off + p * 7 + 2, none⟩ = some (.int .i64 an) := xs 2 _ rfl
  have x3 : w.cell? ⟨bk, off + p * 7 + 3, none⟩ = some (.int .i64 am) := xs 3 _ rfl
  have x4 : w.cell? ⟨bk, off + p * 7 + 4, none⟩ = some (.string (strOfNums at_)) := xs 4 _ rfl
  have x5 : w.cell? ⟨bk, off + p * 7 + 5, none⟩ = some (.int .i64 aps) := xs 5 _ rfl
  have x6 : w.cell? ⟨bk, off + p * 7 + 6, none⟩ = some (.int .i64 aks) := xs 6 _ rfl
  obtain ⟨n, hN⟩ : ∃ n, n = l.length := ⟨_, rfl⟩
  rw [← hN] at hp hn hc HKD HCH HV ⊢
  have hp2 : (p : Int) < (n : Int) := by omega
  have HCO : Hid (∀ W, Up w W → Calls Try.prog 44 #[.slice (some ⟨bk, off, none⟩) n c, .int .i64 (p : Int), .int .i64 (d : Int)] W fun e w' => e = .returned (.tuple #[.int .i64 (M : Int), .int .i64 (m : Int)]) ∧ Up W w') := HCH
  clear hcell hce hv hN ha xs HCH
  generalize strOfNums at_ = st at *
  go_enter Try.func30, Try.ntmps30
  go_wp2_with fail
  refine Calls.mono (HKD.out _ ((Up.refl _).alloc _)) ?_
  rintro e w1 ⟨vk, rfl, -, hu1⟩
  have HU1 : Hid (Up w w1) := ((Up.refl _).alloc _).trans hu1
  have y0 : w1.cell? ⟨w.heap.size, 0, none⟩ = some (.int .i8 37) := hu1.cell (by simp only [World.cell?, heap_alloc_new]; rfl)
  clear hu1 x0 x1 x2 x3 x4 x5 x6 HKD HV
  go_wp2_with fail
  refine Calls.mono (rank_ 37 w1) ?_
  rintro e w2 ⟨rfl, hw⟩
  obtain rfl := hw.symm
  clear hw
  rw [show rRank 37 = 2 by decide]
  go_wp2_with fail
  refine Calls.mono (expr_ 37 w1) ?_
  rintro e w2 ⟨rfl, hw⟩
  obtain rfl := hw.symm
  clear hw
  rw [show rExpr 37 = true by decide]
  go_wp2_with fail
  refine Calls.mono (HCO.out w1 HU1.out) ?_
  rintro e w2 ⟨rfl, hu2⟩
  go_wp2_with fail
  rw [HPo.out]
  exact ⟨rfl, HU1.out.trans hu2⟩
set_option maxRecDepth 100000 in
set_option maxHeartbeats 16000000 in
theorem open_row44 (v : Value) (l : List Nd) (p d M m : Nat) (w : World) (a : Nd) (hv : NLs w v l) (hp : p < l.length) (ha : l.getD p dn = a) (h49 : a.op = 44) (hn : l.length ≤ 1000000)
    (HCH : ∀ W, Up w W → Calls Try.prog 44 #[v, .int .i64 (p : Int), .int .i64 (d : Int)] W fun e w' => e = .returned (.tuple #[.int .i64 (M : Int), .int .i64 (m : Int)]) ∧ Up W w') :
    Calls Try.prog 30 #[v, .int .i64 (p : Int), .int .i64 (d : Int)] w (fun e w' => e = .returned (.int .i64 (M : Int)) ∧ Up w w') := by
  obtain ⟨Post, hPost⟩ : ∃ P : Ending → World → Prop, P = fun e w' => e = .returned (.int .i64 (M : Int)) ∧ Up w w' := ⟨_, rfl⟩
  rw [← hPost]
  have HPo : Hid (Post = fun e w' => e = .returned (.int .i64 (M : Int)) ∧ Up w w') := hPost
  clear hPost
  have HKD : Hid (∀ W, Up w W → Calls Try.prog 40 #[v, .int .i64 (p : Int)] W (CpN W fun W' v' => W'.ownsRow W.heap.size 3 1 v' (kds l p).length (ivn (kds l p)))) := fun W hu => rkids_ v l p W (hv.up hu) hn (by omega)
  have HV : Hid (∀ W, Up w W → NLs W v l) := fun W hu => hv.up hu
  obtain ⟨ad, c, rfl, hc, hcell⟩ := nl_at hv
  obtain ⟨bk, off, rfl, hce⟩ := hcell (by omega)
  have xs : ∀ j x, (ndc a)[j]? = some x → w.cell? ⟨bk, off + p * 7 + j, none⟩ = some x := fun j x hj => hce w (Up.refl _) p hp j x (by rw [ha]; exact hj)
  obtain ⟨aop, akd, an, am, at_, aps, aks⟩ := a
  simp only at h49
  subst h49
  have x0 : w.cell? ⟨bk, off + p * 7, none⟩ = some (.int .i8 44) := xs 0 _ rfl
  have x1 : w.cell? ⟨bk, off + p * 7 + 1, none⟩ = some (.int .i8 akd) := xs 1 _ rfl
  have x2 : w.cell? ⟨bk, off + p * 7 + 2, none⟩ = some (.int .i64 an) := xs 2 _ rfl
  have x3 : w.cell? ⟨bk, off + p * 7 + 3, none⟩ = some (.int .i64 am) := xs 3 _ rfl
  have x4 : w.cell? ⟨bk, off + p * 7 + 4, none⟩ = some (.string (strOfNums at_)) := xs 4 _ rfl
  have x5 : w.cell? ⟨bk, off + p * 7 + 5, none⟩ = some (.int .i64 aps) := xs 5 _ rfl
  have x6 : w.cell? ⟨bk, off + p * 7 + 6, none⟩ = some (.int .i64 aks) := xs 6 _ rfl
  obtain ⟨n, hN⟩ : ∃ n, n = l.length := ⟨_, rfl⟩
  rw [← hN] at hp hn hc HKD HCH HV ⊢
  have hp2 : (p : Int) < (n : Int) := by omega
  have HCO : Hid (∀ W, Up w W → Calls Try.prog 44 #[.slice (some ⟨bk, off, none⟩) n c, .int .i64 (p : Int), .int .i64 (d : Int)] W fun e w' => e = .returned (.tuple #[.int .i64 (M : Int), .int .i64 (m : Int)]) ∧ Up W w') := HCH
  clear hcell hce hv hN ha xs HCH
  generalize strOfNums at_ = st at *
  go_enter Try.func30, Try.ntmps30
  go_wp2_with fail
  refine Calls.mono (HKD.out _ ((Up.refl _).alloc _)) ?_
  rintro e w1 ⟨vk, rfl, -, hu1⟩
  have HU1 : Hid (Up w w1) := ((Up.refl _).alloc _).trans hu1
  have y0 : w1.cell? ⟨w.heap.size, 0, none⟩ = some (.int .i8 44) := hu1.cell (by simp only [World.cell?, heap_alloc_new]; rfl)
  clear hu1 x0 x1 x2 x3 x4 x5 x6 HKD HV
  go_wp2_with fail
  refine Calls.mono (rank_ 44 w1) ?_
  rintro e w2 ⟨rfl, hw⟩
  obtain rfl := hw.symm
  clear hw
  rw [show rRank 44 = 5 by decide]
  go_wp2_with fail
  refine Calls.mono (expr_ 44 w1) ?_
  rintro e w2 ⟨rfl, hw⟩
  obtain rfl := hw.symm
  clear hw
  rw [show rExpr 44 = true by decide]
  go_wp2_with fail
  refine Calls.mono (HCO.out w1 HU1.out) ?_
  rintro e w2 ⟨rfl, hu2⟩
  go_wp2_with fail
  rw [HPo.out]
  exact ⟨rfl, HU1.out.trans hu2⟩
set_option maxRecDepth 100000 in
set_option maxHeartbeats 16000000 in
theorem open_row45 (v : Value) (l : List Nd) (p d M m : Nat) (w : World) (a : Nd) (hv : NLs w v l) (hp : p < l.length) (ha : l.getD p dn = a) (h49 : a.op = 45) (hn : l.length ≤ 1000000)
    (HCH : ∀ W, Up w W → Calls Try.prog 44 #[v, .int .i64 (p : Int), .int .i64 (d : Int)] W fun e w' => e = .returned (.tuple #[.int .i64 (M : Int), .int .i64 (m : Int)]) ∧ Up W w') :
    Calls Try.prog 30 #[v, .int .i64 (p : Int), .int .i64 (d : Int)] w (fun e w' => e = .returned (.int .i64 (M : Int)) ∧ Up w w') := by
  obtain ⟨Post, hPost⟩ : ∃ P : Ending → World → Prop, P = fun e w' => e = .returned (.int .i64 (M : Int)) ∧ Up w w' := ⟨_, rfl⟩
  rw [← hPost]
  have HPo : Hid (Post = fun e w' => e = .returned (.int .i64 (M : Int)) ∧ Up w w') := hPost
  clear hPost
  have HKD : Hid (∀ W, Up w W → Calls Try.prog 40 #[v, .int .i64 (p : Int)] W (CpN W fun W' v' => W'.ownsRow W.heap.size 3 1 v' (kds l p).length (ivn (kds l p)))) := fun W hu => rkids_ v l p W (hv.up hu) hn (by omega)
  have HV : Hid (∀ W, Up w W → NLs W v l) := fun W hu => hv.up hu
  obtain ⟨ad, c, rfl, hc, hcell⟩ := nl_at hv
  obtain ⟨bk, off, rfl, hce⟩ := hcell (by omega)
  have xs : ∀ j x, (ndc a)[j]? = some x → w.cell? ⟨bk, off + p * 7 + j, none⟩ = some x := fun j x hj => hce w (Up.refl _) p hp j x (by rw [ha]; exact hj)
  obtain ⟨aop, akd, an, am, at_, aps, aks⟩ := a
  simp only at h49
  subst h49
  have x0 : w.cell? ⟨bk, off + p * 7, none⟩ = some (.int .i8 45) := xs 0 _ rfl
  have x1 : w.cell? ⟨bk, off + p * 7 + 1, none⟩ = some (.int .i8 akd) := xs 1 _ rfl
  have x2 : w.cell? ⟨bk, off + p * 7 + 2, none⟩ = some (.int .i64 an) := xs 2 _ rfl
  have x3 : w.cell? ⟨bk, off + p * 7 + 3, none⟩ = some (.int .i64 am) := xs 3 _ rfl
  have x4 : w.cell? ⟨bk, off + p * 7 + 4, none⟩ = some (.string (strOfNums at_)) := xs 4 _ rfl
  have x5 : w.cell? ⟨bk, off + p * 7 + 5, none⟩ = some (.int .i64 aps) := xs 5 _ rfl
  have x6 : w.cell? ⟨bk, off + p * 7 + 6, none⟩ = some (.int .i64 aks) := xs 6 _ rfl
  obtain ⟨n, hN⟩ : ∃ n, n = l.length := ⟨_, rfl⟩
  rw [← hN] at hp hn hc HKD HCH HV ⊢
  have hp2 : (p : Int) < (n : Int) := by omega
  have HCO : Hid (∀ W, Up w W → Calls Try.prog 44 #[.slice (some ⟨bk, off, none⟩) n c, .int .i64 (p : Int), .int .i64 (d : Int)] W fun e w' => e = .returned (.tuple #[.int .i64 (M : Int), .int .i64 (m : Int)]) ∧ Up W w') := HCH
  clear hcell hce hv hN ha xs HCH
  generalize strOfNums at_ = st at *
  go_enter Try.func30, Try.ntmps30
  go_wp2_with fail
  refine Calls.mono (HKD.out _ ((Up.refl _).alloc _)) ?_
  rintro e w1 ⟨vk, rfl, -, hu1⟩
  have HU1 : Hid (Up w w1) := ((Up.refl _).alloc _).trans hu1
  have y0 : w1.cell? ⟨w.heap.size, 0, none⟩ = some (.int .i8 45) := hu1.cell (by simp only [World.cell?, heap_alloc_new]; rfl)
  clear hu1 x0 x1 x2 x3 x4 x5 x6 HKD HV
  go_wp2_with fail
  refine Calls.mono (rank_ 45 w1) ?_
  rintro e w2 ⟨rfl, hw⟩
  obtain rfl := hw.symm
  clear hw
  rw [show rRank 45 = 5 by decide]
  go_wp2_with fail
  refine Calls.mono (expr_ 45 w1) ?_
  rintro e w2 ⟨rfl, hw⟩
  obtain rfl := hw.symm
  clear hw
  rw [show rExpr 45 = true by decide]
  go_wp2_with fail
  refine Calls.mono (HCO.out w1 HU1.out) ?_
  rintro e w2 ⟨rfl, hu2⟩
  go_wp2_with fail
  rw [HPo.out]
  exact ⟨rfl, HU1.out.trans hu2⟩
set_option maxRecDepth 100000 in
set_option maxHeartbeats 16000000 in
theorem open_row46 (v : Value) (l : List Nd) (p d M m : Nat) (w : World) (a : Nd) (hv : NLs w v l) (hp : p < l.length) (ha : l.getD p dn = a) (h49 : a.op = 46) (hn : l.length ≤ 1000000)
    (HCH : ∀ W, Up w W → Calls Try.prog 44 #[v, .int .i64 (p : Int), .int .i64 (d : Int)] W fun e w' => e = .returned (.tuple #[.int .i64 (M : Int), .int .i64 (m : Int)]) ∧ Up W w') :
    Calls Try.prog 30 #[v, .int .i64 (p : Int), .int .i64 (d : Int)] w (fun e w' => e = .returned (.int .i64 (M : Int)) ∧ Up w w') := by
  obtain ⟨Post, hPost⟩ : ∃ P : Ending → World → Prop, P = fun e w' => e = .returned (.int .i64 (M : Int)) ∧ Up w w' := ⟨_, rfl⟩
  rw [← hPost]
  have HPo : Hid (Post = fun e w' => e = .returned (.int .i64 (M : Int)) ∧ Up w w') := hPost
  clear hPost
  have HKD : Hid (∀ W, Up w W → Calls Try.prog 40 #[v, .int .i64 (p : Int)] W (CpN W fun W' v' => W'.ownsRow W.heap.size 3 1 v' (kds l p).length (ivn (kds l p)))) := fun W hu => rkids_ v l p W (hv.up hu) hn (by omega)
  have HV : Hid (∀ W, Up w W → NLs W v l) := fun W hu => hv.up hu
  obtain ⟨ad, c, rfl, hc, hcell⟩ := nl_at hv
  obtain ⟨bk, off, rfl, hce⟩ := hcell (by omega)
  have xs : ∀ j x, (ndc a)[j]? = some x → w.cell? ⟨bk, off + p * 7 + j, none⟩ = some x := fun j x hj => hce w (Up.refl _) p hp j x (by rw [ha]; exact hj)
  obtain ⟨aop, akd, an, am, at_, aps, aks⟩ := a
  simp only at h49
  subst h49
  have x0 : w.cell? ⟨bk, off + p * 7, none⟩ = some (.int .i8 46) := xs 0 _ rfl
  have x1 : w.cell? ⟨bk, off + p * 7 + 1, none⟩ = some (.int .i8 akd) := xs 1 _ rfl
  have x2 : w.cell? ⟨bk, off + p * 7 + 2, none⟩ = some (.int .i64 an) := xs 2 _ rfl
  have x3 : w.cell? ⟨bk, off + p * 7 + 3, none⟩ = some (.int .i64 am) := xs 3 _ rfl
  have x4 : w.cell? ⟨bk, off + p * 7 + 4, none⟩ = some (.string (strOfNums at_)) := xs 4 _ rfl
  have x5 : w.cell? ⟨bk, off + p * 7 + 5, none⟩ = some (.int .i64 aps) := xs 5 _ rfl
  have x6 : w.cell? ⟨bk, off + p * 7 + 6, none⟩ = some (.int .i64 aks) := xs 6 _ rfl
  obtain ⟨n, hN⟩ : ∃ n, n = l.length := ⟨_, rfl⟩
  rw [← hN] at hp hn hc HKD HCH HV ⊢
  have hp2 : (p : Int) < (n : Int) := by omega
  have HCO : Hid (∀ W, Up w W → Calls Try.prog 44 #[.slice (some ⟨bk, off, none⟩) n c, .int .i64 (p : Int), .int .i64 (d : Int)] W fun e w' => e = .returned (.tuple #[.int .i64 (M : Int), .int .i64 (m : Int)]) ∧ Up W w') := HCH
  clear hcell hce hv hN ha xs HCH
  generalize strOfNums at_ = st at *
  go_enter Try.func30, Try.ntmps30
  go_wp2_with fail
  refine Calls.mono (HKD.out _ ((Up.refl _).alloc _)) ?_
  rintro e w1 ⟨vk, rfl, -, hu1⟩
  have HU1 : Hid (Up w w1) := ((Up.refl _).alloc _).trans hu1
  have y0 : w1.cell? ⟨w.heap.size, 0, none⟩ = some (.int .i8 46) := hu1.cell (by simp only [World.cell?, heap_alloc_new]; rfl)
  clear hu1 x0 x1 x2 x3 x4 x5 x6 HKD HV
  go_wp2_with fail
  refine Calls.mono (rank_ 46 w1) ?_
  rintro e w2 ⟨rfl, hw⟩
  obtain rfl := hw.symm
  clear hw
  rw [show rRank 46 = 6 by decide]
  go_wp2_with fail
  refine Calls.mono (expr_ 46 w1) ?_
  rintro e w2 ⟨rfl, hw⟩
  obtain rfl := hw.symm
  clear hw
  rw [show rExpr 46 = true by decide]
  go_wp2_with fail
  refine Calls.mono (HCO.out w1 HU1.out) ?_
  rintro e w2 ⟨rfl, hu2⟩
  go_wp2_with fail
  rw [HPo.out]
  exact ⟨rfl, HU1.out.trans hu2⟩
set_option maxRecDepth 100000 in
set_option maxHeartbeats 16000000 in
theorem open_row47 (v : Value) (l : List Nd) (p d M m : Nat) (w : World) (a : Nd) (hv : NLs w v l) (hp : p < l.length) (ha : l.getD p dn = a) (h49 : a.op = 47) (hn : l.length ≤ 1000000)
    (HCH : ∀ W, Up w W → Calls Try.prog 44 #[v, .int .i64 (p : Int), .int .i64 (d : Int)] W fun e w' => e = .returned (.tuple #[.int .i64 (M : Int), .int .i64 (m : Int)]) ∧ Up W w') :
    Calls Try.prog 30 #[v, .int .i64 (p : Int), .int .i64 (d : Int)] w (fun e w' => e = .returned (.int .i64 (M : Int)) ∧ Up w w') := by
  obtain ⟨Post, hPost⟩ : ∃ P : Ending → World → Prop, P = fun e w' => e = .returned (.int .i64 (M : Int)) ∧ Up w w' := ⟨_, rfl⟩
  rw [← hPost]
  have HPo : Hid (Post = fun e w' => e = .returned (.int .i64 (M : Int)) ∧ Up w w') := hPost
  clear hPost
  have HKD : Hid (∀ W, Up w W → Calls Try.prog 40 #[v, .int .i64 (p : Int)] W (CpN W fun W' v' => W'.ownsRow W.heap.size 3 1 v' (kds l p).length (ivn (kds l p)))) := fun W hu => rkids_ v l p W (hv.up hu) hn (by omega)
  have HV : Hid (∀ W, Up w W → NLs W v l) := fun W hu => hv.up hu
  obtain ⟨ad, c, rfl, hc, hcell⟩ := nl_at hv
  obtain ⟨bk, off, rfl, hce⟩ := hcell (by omega)
  have xs : ∀ j x, (ndc a)[j]? = some x → w.cell? ⟨bk, off + p * 7 + j, none⟩ = some x := fun j x hj => hce w (Up.refl _) p hp j x (by rw [ha]; exact hj)
  obtain ⟨aop, akd, an, am, at_, aps, aks⟩ := a
  simp only at h49
  subst h49
  have x0 : w.cell? ⟨bk, off + p * 7, none⟩ = some (.int .i8 47) := xs 0 _ rfl
  have x1 : w.cell? ⟨bk, off + p * 7 + 1, none⟩ = some (.int .i8 akd) := xs 1 _ rfl
  have x2 : w.cell? ⟨bk, off + p * 7 + 2, none⟩ = some (.int .i64 an) := xs 2 _ rfl
  have x3 : w.cell? ⟨bk, off + p * 7 + 3, none⟩ = some (.int .i64 am) := xs 3 _ rfl
  have x4 : w.cell? ⟨bk, off + p * 7 + 4, none⟩ = some (.string (strOfNums at_)) := xs 4 _ rfl
  have x5 : w.cell? ⟨bk, off + p * 7 + 5, none⟩ = some (.int .i64 aps) := xs 5 _ rfl
  have x6 : w.cell? ⟨bk, off + p * 7 + 6, none⟩ = some (.int .i64 aks) := xs 6 _ rfl
  obtain ⟨n, hN⟩ : ∃ n, n = l.length := ⟨_, rfl⟩
  rw [← hN] at hp hn hc HKD HCH HV ⊢
  have hp2 : (p : Int) < (n : Int) := by omega
  have HCO : Hid (∀ W, Up w W → Calls Try.prog 44 #[.slice (some ⟨bk, off, none⟩) n c, .int .i64 (p : Int), .int .i64 (d : Int)] W fun e w' => e = .returned (.tuple #[.int .i64 (M : Int), .int .i64 (m : Int)]) ∧ Up W w') := HCH
  clear hcell hce hv hN ha xs HCH
  generalize strOfNums at_ = st at *
  go_enter Try.func30, Try.ntmps30
  go_wp2_with fail
  refine Calls.mono (HKD.out _ ((Up.refl _).alloc _)) ?_
  rintro e w1 ⟨vk, rfl, -, hu1⟩
  have HU1 : Hid (Up w w1) := ((Up.refl _).alloc _).trans hu1
  have y0 : w1.cell? ⟨w.heap.size, 0, none⟩ = some (.int .i8 47) := hu1.cell (by simp only [World.cell?, heap_alloc_new]; rfl)
  clear hu1 x0 x1 x2 x3 x4 x5 x6 HKD HV
  go_wp2_with fail
  refine Calls.mono (rank_ 47 w1) ?_
  rintro e w2 ⟨rfl, hw⟩
  obtain rfl := hw.symm
  clear hw
  rw [show rRank 47 = 6 by decide]
  go_wp2_with fail
  refine Calls.mono (expr_ 47 w1) ?_
  rintro e w2 ⟨rfl, hw⟩
  obtain rfl := hw.symm
  clear hw
  rw [show rExpr 47 = true by decide]
  go_wp2_with fail
  refine Calls.mono (HCO.out w1 HU1.out) ?_
  rintro e w2 ⟨rfl, hu2⟩
  go_wp2_with fail
  rw [HPo.out]
  exact ⟨rfl, HU1.out.trans hu2⟩
set_option maxRecDepth 100000 in
set_option maxHeartbeats 16000000 in
theorem open_row48 (v : Value) (l : List Nd) (p d M m : Nat) (w : World) (a : Nd) (hv : NLs w v l) (hp : p < l.length) (ha : l.getD p dn = a) (h49 : a.op = 48) (hn : l.length ≤ 1000000)
    (HCH : ∀ W, Up w W → Calls Try.prog 44 #[v, .int .i64 (p : Int), .int .i64 (d : Int)] W fun e w' => e = .returned (.tuple #[.int .i64 (M : Int), .int .i64 (m : Int)]) ∧ Up W w') :
    Calls Try.prog 30 #[v, .int .i64 (p : Int), .int .i64 (d : Int)] w (fun e w' => e = .returned (.int .i64 (M : Int)) ∧ Up w w') := by
  obtain ⟨Post, hPost⟩ : ∃ P : Ending → World → Prop, P = fun e w' => e = .returned (.int .i64 (M : Int)) ∧ Up w w' := ⟨_, rfl⟩
  rw [← hPost]
  have HPo : Hid (Post = fun e w' => e = .returned (.int .i64 (M : Int)) ∧ Up w w') := hPost
  clear hPost
  have HKD : Hid (∀ W, Up w W → Calls Try.prog 40 #[v, .int .i64 (p : Int)] W (CpN W fun W' v' => W'.ownsRow W.heap.size 3 1 v' (kds l p).length (ivn (kds l p)))) := fun W hu => rkids_ v l p W (hv.up hu) hn (by omega)
  have HV : Hid (∀ W, Up w W → NLs W v l) := fun W hu => hv.up hu
  obtain ⟨ad, c, rfl, hc, hcell⟩ := nl_at hv
  obtain ⟨bk, off, rfl, hce⟩ := hcell (by omega)
  have xs : ∀ j x, (ndc a)[j]? = some x → w.cell? ⟨bk, off + p * 7 + j, none⟩ = some x := fun j x hj => hce w (Up.refl _) p hp j x (by rw [ha]; exact hj)
  obtain ⟨aop, akd, an, am, at_, aps, aks⟩ := a
  simp only at h49
  subst h49
  have x0 : w.cell? ⟨bk, off + p * 7, none⟩ = some (.int .i8 48) := xs 0 _ rfl
  have x1 : w.cell? ⟨bk, off + p * 7 + 1, none⟩ = some (.int .i8 akd) := xs 1 _ rfl
  have x2 : w.cell? ⟨bk, off + p * 7 + 2, none⟩ = some (.int .i64 an) := xs 2 _ rfl
  have x3 : w.cell? ⟨bk, off + p * 7 + 3, none⟩ = some (.int .i64 am) := xs 3 _ rfl
  have x4 : w.cell? ⟨bk, off + p * 7 + 4, none⟩ = some (.string (strOfNums at_)) := xs 4 _ rfl
  have x5 : w.cell? ⟨bk, off + p * 7 + 5, none⟩ = some (.int .i64 aps) := xs 5 _ rfl
  have x6 : w.cell? ⟨bk, off + p * 7 + 6, none⟩ = some (.int .i64 aks) := xs 6 _ rfl
  obtain ⟨n, hN⟩ : ∃ n, n = l.length := ⟨_, rfl⟩
  rw [← hN] at hp hn hc HKD HCH HV ⊢
  have hp2 : (p : Int) < (n : Int) := by omega
  have HCO : Hid (∀ W, Up w W → Calls Try.prog 44 #[.slice (some ⟨bk, off, none⟩) n c, .int .i64 (p : Int), .int .i64 (d : Int)] W fun e w' => e = .returned (.tuple #[.int .i64 (M : Int), .int .i64 (m : Int)]) ∧ Up W w') := HCH
  clear hcell hce hv hN ha xs HCH
  generalize strOfNums at_ = st at *
  go_enter Try.func30, Try.ntmps30
  go_wp2_with fail
  refine Calls.mono (HKD.out _ ((Up.refl _).alloc _)) ?_
  rintro e w1 ⟨vk, rfl, -, hu1⟩
  have HU1 : Hid (Up w w1) := ((Up.refl _).alloc _).trans hu1
  have y0 : w1.cell? ⟨w.heap.size, 0, none⟩ = some (.int .i8 48) := hu1.cell (by simp only [World.cell?, heap_alloc_new]; rfl)
  clear hu1 x0 x1 x2 x3 x4 x5 x6 HKD HV
  go_wp2_with fail
  refine Calls.mono (rank_ 48 w1) ?_
  rintro e w2 ⟨rfl, hw⟩
  obtain rfl := hw.symm
  clear hw
  rw [show rRank 48 = 6 by decide]
  go_wp2_with fail
  refine Calls.mono (expr_ 48 w1) ?_
  rintro e w2 ⟨rfl, hw⟩
  obtain rfl := hw.symm
  clear hw
  rw [show rExpr 48 = true by decide]
  go_wp2_with fail
  refine Calls.mono (HCO.out w1 HU1.out) ?_
  rintro e w2 ⟨rfl, hu2⟩
  go_wp2_with fail
  rw [HPo.out]
  exact ⟨rfl, HU1.out.trans hu2⟩
end TR
end Go.Proofs.Ytgahdppcdeefaaa
