
/-
  The document's stack: Undo and Redo.
-/
import Derived.Test.YtgonflnmkfgfhaaRStk
namespace Go.Proofs.Ytgonflnmkfgfhaa
open Go.RowKit
attribute [local go_sem ↓] Go.wp_at_zero Go.wp_at_succ

namespace RS
open IN

theorem rundo_nil (w : World) : Calls Try.prog 32 #[.pointer none] w fun e w' => e = .returned (.tuple #[.int .i64 0, .bool false]) ∧ Up w w' := by
  go_enter Try.func32, Try.ntmps32
  go_wp2
  go_ret2
  exact ⟨rfl, Up.refl _⟩
set_option maxHeartbeats 1000000 in
theorem rundo_none (rb base : Nat) (vd vu : Value) (most : Int) (dn un : List Int) (w : World) (h : RSt w rb base vd vu most dn un) (h0 : dn.length = 0) :
    Calls Try.prog 32 #[.pointer (some ⟨rb, 0, none⟩)] w fun e w' => e = .returned (.tuple #[.int .i64 0, .bool false]) ∧ Up w w' := by
  obtain ⟨va, vc, rfl⟩ := row_val h.2.1
  obtain ⟨ua, uc, rfl⟩ := row_val h.2.2.1
  obtain ⟨c0, c1, c2, ff⟩ := three3 h.1
  clear h
  rw [h0] at c1
  have HL : Hid _ := rlast_none va vc
  go_enter Try.func32, Try.ntmps32
  go_wp2_with fail
  refine Calls.mono (HL.out _) ?_
  rintro e w1 ⟨rfl, hw1⟩
  obtain rfl := hw1.symm
  go_wp2
  go_ret2
  exact ⟨rfl, Up.refl _⟩

theorem rredo_nil (w : World) : Calls Try.prog 33 #[.pointer none] w fun e w' => e = .returned (.tuple #[.int .i64 0, .bool false]) ∧ Up w w' := by
  go_enter Try.func33, Try.ntmps33
  go_wp2
  go_ret2
  exact ⟨rfl, Up.refl _⟩
set_option maxHeartbeats 1000000 in
theorem rredo_none (rb base : Nat) (vd vu : Value) (most : Int) (dn un : List Int) (w : World) (h : RSt w rb base vd vu most dn un) (h0 : un.length = 0) :
    Calls Try.prog 33 #[.pointer (some ⟨rb, 0, none⟩)] w fun e w' => e = .returned (.tuple #[.int .i64 0, .bool false]) ∧ Up w w' := by
  obtain ⟨va, vc, rfl⟩ := row_val h.2.1
  obtain ⟨ua, uc, rfl⟩ := row_val h.2.2.1
  obtain ⟨c0, c1, c2, ff⟩ := three3 h.1
  clear h
  rw [h0] at c2
  have HL : Hid _ := rlast_none ua uc
  go_enter Try.func33, Try.ntmps33
  go_wp2_with fail
  refine Calls.mono (HL.out _) ?_
  rintro e w1 ⟨rfl, hw1⟩
  obtain rfl := hw1.symm
  go_wp2
  go_ret2
  exact ⟨rfl, Up.refl _⟩

/- one goes over: what stands in memory behind it -/
theorem undoFacts {w w1 w2 : World} {rb base B : Nat} {vd vu v1 v2 : Value} {most x : Int} {dn un d1 : List Int} (h : RSt w rb base vd vu most dn un) (u1 : Up w w1) (hB : rb < B) (hr1 : w1.ownsRow B 3 1 v1 d1.length (iv d1)) (u2 : Up (w1.setCell ⟨rb, 1, none⟩ v1) w2) (hr2 : w2.ownsRow B 3 1 v2 (un ++ [x]).length (iv (un ++ [x]))) :
    RSt (w2.setCell ⟨rb, 2, none⟩ v2) rb B v1 v2 most d1 (un ++ [x]) ∧ Only rb w (w2.setCell ⟨rb, 2, none⟩ v2) := by
  have hrb : rb < B := hB
  have h1 := u1.heap h.1
  have h2 : (w1.setCell ⟨rb, 1, none⟩ v1).heap[rb]? = some (.cells #[.int .i64 most, v1, vu] 40 (0, 0)) := by
    simp only [World.setCell, Array.getElem?_modify]; rw [h1]; simp
  have h3 := u2.heap h2
  refine ⟨⟨?_, row_setB (row_up (row_setB hr1 hrb) u2) hrb, row_setB hr2 hrb, hrb⟩, Only.set (Only.trans (Only.set (Only.up u1) 1 _) (Only.up u2)) 2 _⟩
  simp only [World.setCell, Array.getElem?_modify]; rw [h3]; simp
set_option maxRecDepth 100000 in
set_option maxHeartbeats 4000000 in
theorem rundo_ (rb base B : Nat) (vd vu : Value) (most : Int) (dn un : List Int) (w : World) (h : RSt w rb base vd vu most dn un) (h0 : dn.length ≠ 0) (hn : dn.length ≤ 50000 ∧ un.length ≤ 50000) (hrB : rb < B) (hb : B ≤ w.heap.size) :
    Calls Try.prog 32 #[.pointer (some ⟨rb, 0, none⟩)] w fun e w' => e = .returned (.tuple #[.int .i64 (dn.getD (dn.length - 1) 0), .bool true]) ∧ (∃ vd' vu', RSt w' rb B vd' vu' most (dn.eraseIdx (dn.length - 1)) (un ++ [dn.getD (dn.length - 1) 0])) ∧ Only rb w w' := by
  have HL : Hid _ := rlast vd dn w (own_lies h.2.1) h0 (by omega)
  have HH : Hid _ := h
  have HP : Hid (∀ (y : Int) (W : World), LiesI W vu un → w.heap.size ≤ W.heap.size → Calls Try.prog 37 #[vu, .int .i64 un.length, .int .i64 y] W fun e w' => ∃ na nk nc, e = .returned (.tuple #[.slice na nk nc, .bool true]) ∧ w'.ownsRow B 3 1 (.slice na nk nc) (un ++ [y]).length (iv (un ++ [y])) ∧ Up W w') := fun y W hl hs => rput_end vu un y B _ W hl rfl (by omega) (Nat.le_trans hb hs)
  have HT : Hid (∀ w1 v, Up w w1 → LiesI (w1.setCell ⟨rb, 1, none⟩ v) vu un) := fun w1 v u => own_lies (row_setB (row_up h.2.2.1 u) h.2.2.2)
  obtain ⟨va, vc, rfl⟩ := row_val h.2.1
  obtain ⟨ua, uc, rfl⟩ := row_val h.2.2.1
  obtain ⟨c0, c1, c2, ff⟩ := three3 h.1
  clear h
  obtain ⟨X, hX⟩ : ∃ X, X = (dn.getD (dn.length - 1) 0) := ⟨_, rfl⟩
  have HX : Hid (X = (dn.getD (dn.length - 1) 0)) := hX
  obtain ⟨nl1, hnl1⟩ : ∃ k, k = dn.length := ⟨_, rfl⟩
  obtain ⟨nl2, hnl2⟩ : ∃ k, k = un.length := ⟨_, rfl⟩
  have HN : Hid (nl1 = dn.length ∧ nl2 = un.length) := ⟨hnl1, hnl2⟩
  go_enter Try.func32, Try.ntmps32
  go_wp2_with fail
  refine Calls.mono HL.out ?_
  rintro e w1 ⟨v1, rfl, hv1, u1⟩
  rw [← hX]
  obtain ⟨la, lc, hl1⟩ := row_val hv1
  have HV1 : Hid (w1.ownsRow B 3 1 v1 (dn.eraseIdx (dn.length - 1)).length (iv (dn.eraseIdx (dn.length - 1)))) := own_lessR hv1 hb
  have HU1 : Hid (Up w w1) := u1
  generalize (dn.eraseIdx (dn.length - 1)).length = kl at hl1
  subst hl1
  have hh1 := u1.heap HH.out.1
  obtain ⟨d0, d1, d2, df⟩ := three3 hh1
  have hh2 : (w1.setCell ⟨rb, 1, none⟩ (.slice la kl lc)).heap[rb]? = some (.cells #[.int .i64 most, .slice la kl lc, .slice ua un.length uc] 40 (0, 0)) := by
    simp only [World.setCell, Array.getElem?_modify]; rw [hh1]; simp
  obtain ⟨g0, g1, g2, gf⟩ := three3 hh2
  have HG2 : Hid _ := hh2
  clear hv1 u1 hh1 hh2 HL c0 c1 c2 ff hX
  go_wp2_with fail
  refine (fun key : ∀ (na : Option Addr) (nk nc : Nat) W3, ((∃ vd' vu', RSt W3 rb B vd' vu' most (dn.eraseIdx (dn.length - 1)) (un ++ [dn.getD (dn.length - 1) 0])) ∧ Only rb w W3) → (?G : Option Addr → Nat → Nat → World → Prop) na nk nc W3 => ?main) ?kp
  case main =>
    go_region_with (go_at_call 37; go_loud (refine Calls.mono (HP.out X _ (by first | exact HT.out _ _ HU1.out | exact LiesI.up (HT.out _ _ HU1.out) ((Up.refl _).drew)) (by have := HU1.out.size; simp; omega)) ?_; rintro e w2 ⟨na, nk, nc, rfl, hv2, u2⟩; have u9 : Up (w1.setCell ⟨rb, 1, none⟩ (.slice la kl lc)) w2 := Up.trans (by first | exact (Up.refl _).drew | exact Up.refl _) u2; have hh3 := u9.heap HG2.out; obtain ⟨k0, k1, k2, kf⟩ := three3 hh3; have hfin := undoFacts HH.out HU1.out hrB HV1.out u9 hv2; rw [HX.out] at hfin; have HK : Hid ((∃ vd' vu', RSt (w2.setCell ⟨rb, 2, none⟩ (.slice na nk nc)) rb B vd' vu' most (dn.eraseIdx (dn.length - 1)) (un ++ [dn.getD (dn.length - 1) 0])) ∧ Only rb w (w2.setCell ⟨rb, 2, none⟩ (.slice na nk nc))) := ⟨⟨_, _, hfin.1⟩, hfin.2⟩; clear hv2 u2 u9 hh3 hfin))
    all_goals exact key na nk nc _ HK.out
  case kp =>
    intro na nk nc W3 hk
    have HF : Hid _ := hk
    clear hk HP HT HH HG2 HV1 HU1 d0 d1 d2 df g0 g1 g2 gf
    go_wp2
    go_ret2
    exact ⟨by rw [HX.out]; rfl, HF.out⟩

/- one goes over: what stands in memory behind it -/
theorem redoFacts {w w1 w2 : World} {rb base B : Nat} {vd vu v1 v2 : Value} {most x : Int} {dn un d1 : List Int} (h : RSt w rb base vd vu most dn un) (u1 : Up w w1) (hB : rb < B) (hr1 : w1.ownsRow B 3 1 v1 d1.length (iv d1)) (u2 : Up (w1.setCell ⟨rb, 2, none⟩ v1) w2) (hr2 : w2.ownsRow B 3 1 v2 (dn ++ [x]).length (iv (dn ++ [x]))) :
    RSt (w2.setCell ⟨rb, 1, none⟩ v2) rb B v2 v1 most (dn ++ [x]) d1 ∧ Only rb w (w2.setCell ⟨rb, 1, none⟩ v2) := by
  have hrb : rb < B := hB
  have h1 := u1.heap h.1
  have h2 : (w1.setCell ⟨rb, 2, none⟩ v1).heap[rb]? = some (.cells #[.int .i64 most, vd, v1] 40 (0, 0)) := by
    simp only [World.setCell, Array.getElem?_modify]; rw [h1]; simp
  have h3 := u2.heap h2
  refine ⟨⟨?_, row_setB hr2 hrb, row_setB (row_up (row_setB hr1 hrb) u2) hrb, hrb⟩, Only.set (Only.trans (Only.set (Only.up u1) 2 _) (Only.up u2)) 1 _⟩
  simp only [World.setCell, Array.getElem?_modify]; rw [h3]; simp
set_option maxRecDepth 100000 in
set_option maxHeartbeats 4000000 in
theorem rredo_ (rb base B : Nat) (vd vu : Value) (most : Int) (dn un : List Int) (w : World) (h : RSt w rb base vd vu most dn un) (h0 : un.length ≠ 0) (hn : dn.length ≤ 50000 ∧ un.length ≤ 50000) (hrB : rb < B) (hb : B ≤ w.heap.size) :
    Calls Try.prog 33 #[.pointer (some ⟨rb, 0, none⟩)] w fun e w' => e = .returned (.tuple #[.int .i64 (un.getD (un.length - 1) 0), .bool true]) ∧ (∃ vd' vu', RSt w' rb B vd' vu' most (dn ++ [un.getD (un.length - 1) 0]) (un.eraseIdx (un.length - 1))) ∧ Only rb w w' := by
  have HL : Hid _ := rlast vu un w (own_lies h.2.2.1) h0 (by omega)
  have HH : Hid _ := h
  have HP : Hid (∀ (y : Int) (W : World), LiesI W vd dn → w.heap.size ≤ W.heap.size → Calls Try.prog 37 #[vd, .int .i64 dn.length, .int .i64 y] W fun e w' => ∃ na nk nc, e = .returned (.tuple #[.slice na nk nc, .bool true]) ∧ w'.ownsRow B 3 1 (.slice na nk nc) (dn ++ [y]).length (iv (dn ++ [y])) ∧ Up W w') := fun y W hl hs => rput_end vd dn y B _ W hl rfl (by omega) (Nat.le_trans hb hs)
  have HT : Hid (∀ w1 v, Up w w1 → LiesI (w1.setCell ⟨rb, 2, none⟩ v) vd dn) := fun w1 v u => own_lies (row_setB (row_up h.2.1 u) h.2.2.2)
  obtain ⟨va, vc, rfl⟩ := row_val h.2.1
  obtain ⟨ua, uc, rfl⟩ := row_val h.2.2.1
  obtain ⟨c0, c1, c2, ff⟩ := three3 h.1
  clear h
  obtain ⟨X, hX⟩ : ∃ X, X = (un.getD (un.length - 1) 0) := ⟨_, rfl⟩
  have HX : Hid (X = (un.getD (un.length - 1) 0)) := hX
  obtain ⟨nl1, hnl1⟩ : ∃ k, k = un.length := ⟨_, rfl⟩
  obtain ⟨nl2, hnl2⟩ : ∃ k, k = dn.length := ⟨_, rfl⟩
  have HN : Hid (nl1 = un.length ∧ nl2 = dn.length) := ⟨hnl1, hnl2⟩
  go_enter Try.func33, Try.ntmps33
  go_wp2_with fail
  refine Calls.mono HL.out ?_
  rintro e w1 ⟨v1, rfl, hv1, u1⟩
  rw [← hX]
  obtain ⟨la, lc, hl1⟩ := row_val hv1
  have HV1 : Hid (w1.ownsRow B 3 1 v1 (un.eraseIdx (un.length - 1)).length (iv (un.eraseIdx (un.length - 1)))) := own_lessR hv1 hb
  have HU1 : Hid (Up w w1) := u1
  generalize (un.eraseIdx (un.length - 1)).length = kl at hl1
  subst hl1
  have hh1 := u1.heap HH.out.1
  obtain ⟨d0, d1, d2, df⟩ := three3 hh1
  have hh2 : (w1.setCell ⟨rb, 2, none⟩ (.slice la kl lc)).heap[rb]? = some (.cells #[.int .i64 most, .slice va dn.length vc, .slice la kl lc] 40 (0, 0)) := by
    simp only [World.setCell, Array.getElem?_modify]; rw [hh1]; simp
  obtain ⟨g0, g1, g2, gf⟩ := three3 hh2
  have HG2 : Hid _ := hh2
  clear hv1 u1 hh1 hh2 HL c0 c1 c2 ff hX
  go_wp2_with fail
  refine (fun key : ∀ (na : Option Addr) (nk nc : Nat) W3, ((∃ vd' vu', RSt W3 rb B vd' vu' most (dn ++ [un.getD (un.length - 1) 0]) (un.eraseIdx (un.length - 1))) ∧ Only rb w W3) → (?G : Option Addr → Nat → Nat → World → Prop) na nk nc W3 => ?main) ?kp
  case main =>
    go_region_with (go_at_call 37; go_loud (refine Calls.mono (HP.out X _ (by first | exact HT.out _ _ HU1.out | exact LiesI.up (HT.out _ _ HU1.out) ((Up.refl _).drew)) (by have := HU1.out.size; simp; omega)) ?_; rintro e w2 ⟨na, nk, nc, rfl, hv2, u2⟩; have u9 : Up (w1.setCell ⟨rb, 2, none⟩ (.slice la kl lc)) w2 := Up.trans (by first | exact (Up.refl _).drew | exact Up.refl _) u2; have hh3 := u9.heap HG2.out; obtain ⟨k0, k1, k2, kf⟩ := three3 hh3; have hfin := redoFacts HH.out HU1.out hrB HV1.out u9 hv2; rw [HX.out] at hfin; have HK : Hid ((∃ vd' vu', RSt (w2.setCell ⟨rb, 1, none⟩ (.slice na nk nc)) rb B vd' vu' most (dn ++ [un.getD (un.length - 1) 0]) (un.eraseIdx (un.length - 1))) ∧ Only rb w (w2.setCell ⟨rb, 1, none⟩ (.slice na nk nc))) := ⟨⟨_, _, hfin.1⟩, hfin.2⟩; clear hv2 u2 u9 hh3 hfin))
    all_goals exact key na nk nc _ HK.out
  case kp =>
    intro na nk nc W3 hk
    have HF : Hid _ := hk
    clear hk HP HT HH HG2 HV1 HU1 d0 d1 d2 df g0 g1 g2 gf
    go_wp2
    go_ret2
    exact ⟨by rw [HX.out]; rfl, HF.out⟩
end RS
end Go.Proofs.Ytgonflnmkfgfhaa
