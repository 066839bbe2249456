/-
  EqState of any two states.
-/
import Derived.Test.YtmpamcdobhiipaaGreatDoorEqQ
namespace Go.Proofs.YtmpamcdobhiipaaGreatDoor
open Go.RowKit
attribute [local go_sem ↓] Go.wp_at_zero Go.wp_at_succ

namespace ST
theorem eqS_comm (a b : Stt) : eqS a b = eqS b a := by
  simp only [eqS, eq_comm]
set_option maxRecDepth 100000 in
set_option maxHeartbeats 4000000 in
theorem eqStateG_ (v u : Value) (a b : Stt) (w : World) (hv : StL w v a) (hu : StL w u b) (hsm : Small a) :
    Calls Tryz.prog 10 #[v, u] w fun e w' => e = .returned (.bool (eqS a b)) ∧ Up w w' := by
  by_cases he : eqS a b = true
  · rw [he]; exact eqState_ v u a b w hv hu hsm he
  · have he2 : eqS a b = false := by simpa using he
    rw [he2]
    simp only [eqS, Bool.and_eq_false_iff, decide_eq_false_iff_not] at he2
    obtain ⟨vp, vc, vz, rfl, h1, h2, h3⟩ := hv
    obtain ⟨up, uc, uz, rfl, g1, g2, g3⟩ := hu
    obtain ⟨pb, hpb⟩ : ∃ p, p = decide (a.ps = b.ps) := ⟨_, rfl⟩
    obtain ⟨cb, hcb⟩ : ∃ p, p = decide (a.cs = b.cs) := ⟨_, rfl⟩
    obtain ⟨zb, hzb⟩ : ∃ p, p = decide (a.zs = b.zs) := ⟨_, rfl⟩
    have HP : Hid (∀ W, Up w W → Calls Tryz.prog 20 #[vp, up] W fun e w' => e = .returned (.bool pb) ∧ ∃ m, w' = W.drewN m) := fun W k => by
      rw [hpb]; exact eqPlayers_ vp up a.ps b.ps W (h1.up k) (g1.up k) hsm.1
    have HC : Hid (∀ W, Up w W → Calls Tryz.prog 21 #[vc, uc] W fun e w' => e = .returned (.bool cb) ∧ ∃ m, w' = W.drewN m) := fun W k => by
      rw [hcb]; exact eqCards_ vc uc a.cs b.cs W (h2.up k) (g2.up k) hsm.2.1
    have HZ : Hid (∀ W, Up w W → Calls Tryz.prog 22 #[vz, uz] W fun e w' => e = .returned (.bool zb) ∧ ∃ m, w' = W.drewN m) := fun W k => by
      rw [hzb]; exact eqRows_ vz uz a.zs b.zs W (h3.up k) (g3.up k) hsm.2.2.1 hsm.2.2.2
    have HB : Hid (pb = false ∨ cb = false ∨ zb = false ∨ a.turn ≠ b.turn ∨ a.whose ≠ b.whose ∨ a.fin ≠ b.fin ∨ a.winner ≠ b.winner) := by
      unfold Hid
      rw [hpb, hcb, hzb]
      simp only [decide_eq_false_iff_not]
      rcases he2 with (((((h | h) | h) | h) | h) | h) | h <;> simp [h]
    obtain ⟨a1, k1, rfl, -, -⟩ := lc_at h1
    obtain ⟨a2, k2, rfl, -, -⟩ := lc_at h2
    obtain ⟨a3, k3, rfl, -, -⟩ := zl_at h3
    obtain ⟨b1, l1, rfl, -, -⟩ := lc_at g1
    obtain ⟨b2, l2, rfl, -, -⟩ := lc_at g2
    obtain ⟨b3, l3, rfl, -, -⟩ := zl_at g3
    unfold sv
    generalize a.turn = x1 at HB ⊢
    generalize b.turn = y1 at HB ⊢
    generalize a.whose = x2 at HB ⊢
    generalize b.whose = y2 at HB ⊢
    generalize a.fin = x3 at HB ⊢
    generalize b.fin = y3 at HB ⊢
    generalize a.winner = x4 at HB ⊢
    generalize b.winner = y4 at HB ⊢
    clear h1 h2 h3 g1 g2 g3 hsm he he2 hpb hcb hzb
    by_cases e1 : x1 = y1
    · subst e1
      by_cases e2 : x2 = y2
      · subst e2
        by_cases e3 : x3 = y3
        · subst e3
          by_cases e4 : x4 = y4
          · subst e4
            cases pb with
            | false =>
              clear HB HC HZ
              go_enter Tryz.func10, Tryz.ntmps10
              go_wp2_with fail
              refine Calls.mono (HP.out _ (((Up.refl _).alloc _).alloc _)) ?_
              rintro e w1 ⟨rfl, m1, rfl⟩
              go_wp2
              go_ret
              exact ⟨rfl, (((Up.refl _).alloc _).alloc _).drewN _⟩
            | true =>
              cases cb with
              | false =>
                clear HB HZ
                go_enter Tryz.func10, Tryz.ntmps10
                go_wp2_with fail
                refine Calls.mono (HP.out _ (((Up.refl _).alloc _).alloc _)) ?_
                rintro e w1 ⟨rfl, m1, rfl⟩
                go_wp2_with fail
                refine Calls.mono (HC.out _ ((((Up.refl _).alloc _).alloc _).drewN _)) ?_
                rintro e w2 ⟨rfl, m2, rfl⟩
                go_wp2
                go_ret
                exact ⟨rfl, by first | exact (((Up.refl _).alloc _).alloc _).drewN _ | exact ((((Up.refl _).alloc _).alloc _).drewN _).drewN _⟩
              | true =>
                have hz : zb = false := by simpa using HB.out
                subst hz
                clear HB
                go_enter Tryz.func10, Tryz.ntmps10
                go_wp2_with fail
                refine Calls.mono (HP.out _ (((Up.refl _).alloc _).alloc _)) ?_
                rintro e w1 ⟨rfl, m1, rfl⟩
                go_wp2_with fail
                refine Calls.mono (HC.out _ ((((Up.refl _).alloc _).alloc _).drewN _)) ?_
                rintro e w2 ⟨rfl, m2, rfl⟩
                go_wp2_with fail
                refine Calls.mono (HZ.out _ (by first | exact (((Up.refl _).alloc _).alloc _).drewN _ | exact ((((Up.refl _).alloc _).alloc _).drewN _).drewN _)) ?_
                rintro e w3 ⟨rfl, m3, rfl⟩
                go_wp2
                go_ret
                exact ⟨rfl, by first | exact (((Up.refl _).alloc _).alloc _).drewN _ | exact ((((Up.refl _).alloc _).alloc _).drewN _).drewN _⟩
          · have e9 : (x4 == y4) = false := beq_eq_false_iff_ne.2 e4
            clear HB HP HC HZ
            go_enter Tryz.func10, Tryz.ntmps10
            go_wp2
            go_ret
            exact ⟨rfl, ((Up.refl _).alloc _).alloc _⟩
        · have e9 : (x3 == y3) = false := beq_eq_false_iff_ne.2 e3
          clear HB HP HC HZ
          go_enter Tryz.func10, Tryz.ntmps10
          go_wp2
          go_ret
          exact ⟨rfl, ((Up.refl _).alloc _).alloc _⟩
      · have e9 : (x2 == y2) = false := beq_eq_false_iff_ne.2 e2
        clear HB HP HC HZ
        go_enter Tryz.func10, Tryz.ntmps10
        go_wp2
        go_ret
        exact ⟨rfl, ((Up.refl _).alloc _).alloc _⟩
    · have e9 : (x1 == y1) = false := beq_eq_false_iff_ne.2 e1
      clear HB HP HC HZ
      go_enter Tryz.func10, Tryz.ntmps10
      go_wp2
      go_ret
      exact ⟨rfl, ((Up.refl _).alloc _).alloc _⟩
end ST
end Go.Proofs.YtmpamcdobhiipaaGreatDoor
