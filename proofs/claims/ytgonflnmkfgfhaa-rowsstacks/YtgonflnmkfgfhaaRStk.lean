
/-
  The document's stack: what its calls do.
-/
import Derived.Test.YtgonflnmkfgfhaaRefO
namespace Go.Proofs.Ytgonflnmkfgfhaa
open Go.RowKit
attribute [local go_sem ↓] Go.wp_at_zero Go.wp_at_succ

namespace RS
open IN
/- the document's stack at block rb: what is done, what is undone (the last undone at the end) -/
def RSt (W : World) (rb base : Nat) (vd vu : Value) (most : Int) (dn un : List Int) : Prop :=
  W.heap[rb]? = some (.cells #[.int .i64 most, vd, vu] 40 (0, 0)) ∧ W.ownsRow base 3 1 vd dn.length (iv dn) ∧ W.ownsRow base 3 1 vu un.length (iv un) ∧ rb < base
theorem RSt.up {W W' : World} {rb base : Nat} {vd vu : Value} {most : Int} {dn un : List Int} (h : RSt W rb base vd vu most dn un) (u : Up W W') : RSt W' rb base vd vu most dn un := ⟨u.heap h.1, row_up h.2.1 u, row_up h.2.2.1 u, h.2.2.2⟩
theorem three3 {W : World} {a : Nat} {x y z : Value} {t : TypeId} (h : W.heap[a]? = some (.cells #[x, y, z] t (0, 0))) : W.cell? ⟨a, 0, none⟩ = some x ∧ W.cell? ⟨a, 1, none⟩ = some y ∧ W.cell? ⟨a, 2, none⟩ = some z ∧ (∀ j, W.frozen? ⟨a, j, none⟩ = false) :=
  ⟨by simp [World.cell?, h], by simp [World.cell?, h], by simp [World.cell?, h], fun j => by simp [World.frozen?, h]⟩
theorem own_lessR {W : World} {b b' e s n : Nat} {v : Value} {xs : List Value} (h : W.ownsRow b e s v n xs) (hb : b' ≤ b) : W.ownsRow b' e s v n xs := by
  refine ⟨h.1, ?_⟩
  rcases h.2 with h | ⟨g, cap, cur, e1, e2, e3⟩
  · exact .inl h
  · exact .inr ⟨g, cap, cur, e1, Nat.le_trans hb e2, e3⟩
theorem row_setB {w : World} {base e s n b j : Nat} {v u : Value} {xs : List Value} (h : w.ownsRow base e s v n xs) (hb : b < base) : (w.setCell ⟨b, j, none⟩ u).ownsRow base e s v n xs := by
  refine ⟨h.1, ?_⟩
  rcases h.2 with h | ⟨g, cap, cur, e1, e2, e3, e4⟩
  · exact .inl h
  · exact .inr ⟨g, cap, cur, e1, e2, by rw [Below.heap_setCell _ _ _ _ (by show g ≠ b; omega)]; exact e3, e4⟩
theorem rnewStack (most : Int) (w : World) (h : 0 ≤ most) :
    Calls Try.prog 7 #[.int .i64 most] w fun e w' => e = .returned (.pointer (some ⟨w.heap.size, 0, none⟩)) ∧ RSt w' w.heap.size (w.heap.size + 1) (.slice none 0 0) (.slice none 0 0) most [] [] ∧ Up w w' ∧ w'.heap.size = w.heap.size + 1 := by
  have hm : ¬ most < 0 := by omega
  go_enter Try.func7, Try.ntmps7
  go_wp2
  go_ret
  exact ⟨rfl, ⟨heap_alloc_new w _, World.ownsRow_nil _ _ _ _, World.ownsRow_nil _ _ _ _, Nat.lt_succ_self _⟩, (Up.refl _).alloc _, by simp⟩
theorem rnewStackNil (most : Int) (w : World) (h : most < 0) :
    Calls Try.prog 7 #[.int .i64 most] w fun e w' => e = .returned (.pointer none) ∧ w' = w := by
  go_enter Try.func7, Try.ntmps7
  go_wp2
  go_ret
  exact ⟨rfl, rfl⟩
theorem rdo_nil (x : Int) (w : World) : Calls Try.prog 31 #[.pointer none, .int .i64 x] w fun e w' => e = .returned (.bool false) ∧ Up w w' := by
  go_enter Try.func31, Try.ntmps31
  go_wp2_with fail
  go_quiet (fail)
  go_wp2
  go_ret
  exact ⟨rfl, (Up.refl _).drewN _⟩
theorem rdo_full (rb base : Nat) (vd vu : Value) (most x : Int) (dn un : List Int) (w : World) (h : RSt w rb base vd vu most dn un) (hm : most ≤ dn.length) :
    Calls Try.prog 31 #[.pointer (some ⟨rb, 0, none⟩), .int .i64 x] w fun e w' => e = .returned (.bool false) ∧ Up w w' := by
  obtain ⟨va, vc, rfl⟩ := row_val h.2.1
  obtain ⟨c0, c1, c2, ff⟩ := three3 h.1
  clear h
  generalize dn.length = n at c1 hm
  go_enter Try.func31, Try.ntmps31
  go_wp2_with fail
  go_quiet (fail)
  go_wp2
  go_ret
  exact ⟨rfl, (Up.refl _).drewN _⟩
/- one more at a list's end, in memory of its own -/
theorem rput_end (v : Value) (zs : List Int) (x : Int) (base n : Nat) (w : World) (hv : LiesI w v zs) (hn : n = zs.length) (hm : zs.length ≤ 100000) (hb : base ≤ w.heap.size) :
    Calls Try.prog 37 #[v, .int .i64 n, .int .i64 x] w fun e w' => ∃ na nk nc, e = .returned (.tuple #[.slice na nk nc, .bool true]) ∧ w'.ownsRow base 3 1 (.slice na nk nc) (zs ++ [x]).length (iv (zs ++ [x])) ∧ Up w w' := by
  subst hn
  refine (rputO v zs zs.length x w hv (Nat.le_refl _) (by omega)).mono ?_
  rintro e w' ⟨v', rfl, h1, u⟩
  have e : List.take zs.length zs ++ x :: List.drop zs.length zs = zs ++ [x] := by rw [List.take_length, List.drop_length]
  rw [e] at h1
  obtain ⟨na, nc, rfl⟩ := row_val h1
  exact ⟨na, _, nc, rfl, own_lessR h1 hb, u⟩
theorem doFacts {w w1 : World} {rb B : Nat} {vd vu v' : Value} {most x : Int} {dn : List Int} (h1 : w1.heap[rb]? = some (.cells #[.int .i64 most, vd, vu] 40 (0, 0))) (o : Only rb w w1) (hB : rb < B) (hr : w1.ownsRow B 3 1 v' (dn ++ [x]).length (iv (dn ++ [x]))) :
    RSt ((w1.setCell ⟨rb, 1, none⟩ v').setCell ⟨rb, 2, none⟩ (.slice none 0 0)) rb B v' (.slice none 0 0) most (dn ++ [x]) [] ∧ Only rb w ((w1.setCell ⟨rb, 1, none⟩ v').setCell ⟨rb, 2, none⟩ (.slice none 0 0)) ∧ (w1.setCell ⟨rb, 1, none⟩ v').cell? ⟨rb, 2, none⟩ = some vu ∧ (w1.setCell ⟨rb, 1, none⟩ v').frozen? ⟨rb, 2, none⟩ = false := by
  have hrb : rb < B := hB
  have h2 : (w1.setCell ⟨rb, 1, none⟩ v').heap[rb]? = some (.cells #[.int .i64 most, v', vu] 40 (0, 0)) := by
    simp only [World.setCell, Array.getElem?_modify]; rw [h1]; simp
  obtain ⟨d0, d1, d2, df⟩ := three3 h2
  refine ⟨⟨?_, row_setB (row_setB hr hrb) hrb, World.ownsRow_nil _ _ _ _, hrb⟩, Only.set (Only.set o 1 _) 2 _, d2, df 2⟩
  have h3 : ((w1.setCell ⟨rb, 1, none⟩ v').setCell ⟨rb, 2, none⟩ (.slice none 0 0)).heap[rb]? = ((w1.setCell ⟨rb, 1, none⟩ v').heap.modify rb _)[rb]? := rfl
  rw [h3, Array.getElem?_modify, h2]
  simp
set_option maxHeartbeats 2000000 in
theorem rdo_ (rb base B : Nat) (vd vu : Value) (most x : Int) (dn un : List Int) (w : World) (h : RSt w rb base vd vu most dn un) (hm : (dn.length : Int) < most) (hn : dn.length ≤ 100000) (hrB : rb < B) (hb : B ≤ w.heap.size) :
    Calls Try.prog 31 #[.pointer (some ⟨rb, 0, none⟩), .int .i64 x] w fun e w' => e = .returned (.bool true) ∧ (∃ vd', RSt w' rb B vd' (.slice none 0 0) most (dn ++ [x]) []) ∧ Only rb w w' := by
  have HP : Hid (∀ W, Up w W → Calls Try.prog 37 #[vd, .int .i64 dn.length, .int .i64 x] W fun e w' => ∃ na nk nc, e = .returned (.tuple #[.slice na nk nc, .bool true]) ∧ w'.ownsRow B 3 1 (.slice na nk nc) (dn ++ [x]).length (iv (dn ++ [x])) ∧ Up W w') := fun W u => rput_end vd dn x B _ W (own_lies (row_up h.2.1 u)) rfl hn (Nat.le_trans hb u.size)
  have HH : Hid _ := h
  obtain ⟨va, vc, rfl⟩ := row_val h.2.1
  obtain ⟨ua, uc, rfl⟩ := row_val h.2.2.1
  obtain ⟨c0, c1, c2, ff⟩ := three3 h.1
  obtain ⟨n, hn0⟩ : ∃ n, n = dn.length := ⟨_, rfl⟩
  have HN : Hid (n = dn.length) := hn0
  rw [← hn0] at c1 hm hn HP
  have hgt : ¬ most ≤ (n : Int) := by omega
  clear h hn0
  go_enter Try.func31, Try.ntmps31
  go_wp2_with fail
  go_quiet (fail)
  go_wp2_with fail
  refine (fun key : ∀ (na : Option Addr) (nk nc : Nat) W3, (RSt (W3.setCell ⟨rb, 2, none⟩ (.slice none 0 0)) rb B (.slice na nk nc) (.slice none 0 0) most (dn ++ [x]) [] ∧ Only rb w (W3.setCell ⟨rb, 2, none⟩ (.slice none 0 0)) ∧ W3.cell? ⟨rb, 2, none⟩ = some (.slice ua un.length uc) ∧ W3.frozen? ⟨rb, 2, none⟩ = false) → (?G : Option Addr → Nat → Nat → World → Prop) na nk nc W3 => ?main) ?kp
  case main =>
    go_region_with (go_at_call 37; go_loud (refine Calls.mono (HP.out _ (by first | exact ((Up.refl _).drewN _).drew | exact (Up.refl _).drewN _)) ?_; rintro e w1 ⟨na, nk, nc, rfl, hv', u1⟩; have u9 : Up w w1 := Up.trans (by first | exact ((Up.refl _).drewN _).drew | exact (Up.refl _).drewN _) u1; have hh1 := u9.heap HH.out.1; obtain ⟨d0, d1, d2, df⟩ := three3 hh1; have HK : Hid _ := doFacts (x := x) hh1 (Only.up u9) hrB hv'; clear hv' u1))
    all_goals exact key _ _ _ _ HK.out
  case kp =>
    intro na nk nc W3 hk
    obtain ⟨k1, k2, k3, k4⟩ := hk
    have HF : Hid _ := k1
    have HO : Hid _ := k2
    clear k1 k2 HP HH c0 c1 c2 ff
    go_wp2
    go_ret
    exact ⟨rfl, ⟨_, HF.out⟩, HO.out⟩
theorem rlast_none (a : Option Addr) (c : Nat) (w : World) : Calls Try.prog 38 #[.slice a 0 c] w fun e w' => e = .returned (.tuple #[.slice none 0 0, .int .i64 0, .bool false]) ∧ w' = w := by
  go_enter Try.func38, Try.ntmps38
  go_wp2
  first | exact ⟨rfl, rfl⟩ | (go_ret3; exact ⟨rfl, rfl⟩)
set_option maxHeartbeats 1000000 in
theorem rlast (v : Value) (zs : List Int) (w : World) (hv : LiesI w v zs) (h0 : zs.length ≠ 0) (hn : zs.length ≤ 100000) :
    Calls Try.prog 38 #[v] w (RCutO w zs (zs.length - 1)) := by
  have HK : Hid _ := rcutO v zs (zs.length - 1) w hv (by omega) (by omega)
  obtain ⟨a, c, rfl, -⟩ := lies_at hv
  obtain ⟨Post, hPost⟩ : ∃ P : Ending → World → Prop, P = RCutO w zs (zs.length - 1) := ⟨_, rfl⟩
  rw [← hPost] at HK ⊢
  have HP : Hid (Post = RCutO w zs (zs.length - 1)) := hPost
  obtain ⟨n, hn0⟩ : ∃ n, n = zs.length := ⟨_, rfl⟩
  rw [← hn0] at HK h0 hn ⊢
  have e1 : ((n : Int) == 0) = false := beq_eq_false_iff_ne.2 (by omega)
  have e2 : ((n - 1 : Nat) : Int) = (n : Int) - 1 := by omega
  rw [e2] at HK
  clear hv hPost hn0 e2
  go_enter Try.func38, Try.ntmps38
  go_wp2_with fail
  refine Calls.mono HK.out ?_
  intro e w1 h1
  rw [HP.out] at h1
  obtain ⟨v', rfl, h2, u⟩ := h1
  have HF : Hid (Post (.returned (.tuple #[v', .int .i64 (zs.getD (zs.length - 1) 0), .bool true])) w1) := by unfold Hid; rw [HP.out]; exact ⟨_, rfl, h2, u⟩
  clear h2 u
  go_wp2
  first | exact HF.out | (go_ret3; exact HF.out)
end RS
end Go.Proofs.Ytgonflnmkfgfhaa
