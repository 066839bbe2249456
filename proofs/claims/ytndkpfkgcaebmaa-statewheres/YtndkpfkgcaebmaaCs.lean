/-
  Copies of lists of lists and of states.
-/
import Derived.Test.YtndkpfkgcaebmaaCp
namespace Go.Proofs.Ytndkpfkgcaebmaa
open Go.RowKit
attribute [local go_sem ↓] Go.wp_at_zero Go.wp_at_succ

namespace ST
/- the first i rows, and the list that holds them -/
def ZM (base : Nat) (W : World) (v : Value) (i : Nat) (zs : List (List Int)) : Prop := ∃ vs, W.ownsRow base 36 1 v i vs ∧ ∀ j, j < i → IRow base W (vs.getD j nl) (zs.getD j [])
theorem zm_more {base i : Nat} {W W1 W2 : World} {v v' x : Value} {zs : List (List Int)} (h : ZM base W v i zs) (u : Up W W1) (hx : IRow base W1 x (zs.getD i [])) (hlen : ∀ vs, W.ownsRow base 36 1 v i vs → W2.ownsRow base 36 1 v' (i + 1) (vs ++ [x])) (hg : W1.grownBy W2 v.ownBlock) : ZM base W2 v' (i + 1) zs := by
  obtain ⟨vs, h1, h2⟩ := h
  have hl : vs.length = i := by have := h1.1; omega
  have k1 := row_up h1 u
  refine ⟨vs ++ [x], hlen vs h1, fun j hj => ?_⟩
  by_cases e : j = i
  · subst e
    rw [List.getD_eq_getElem?_getD, List.getElem?_append_right (by omega), hl]
    simp
    exact World.ownsRow.kept hx hg (row_apart hx k1 (by decide))
  · have hj' : j < i := by omega
    rw [List.getD_eq_getElem?_getD, List.getElem?_append_left (by omega), ← List.getD_eq_getElem?_getD]
    have := row_up (h2 j hj') u
    exact World.ownsRow.kept this hg (row_apart this k1 (by decide))
theorem row_same {w : World} {b1 b2 e s n : Nat} {v : Value} {x1 x2 : List Value} (h1 : w.ownsRow b1 e s v n x1) (h2 : w.ownsRow b2 e s v n x2) : x1 = x2 := by
  rcases h1.2 with ⟨rfl, rfl⟩ | ⟨g, cap, cur, rfl, -, hg, -, -, -, ht⟩
  · have e1 : x1 = [] := List.eq_nil_of_length_eq_zero (by rw [h1.1]; simp)
    have e2 : x2 = [] := List.eq_nil_of_length_eq_zero (by rw [h2.1]; simp)
    rw [e1, e2]
  · rcases h2.2 with ⟨h, -⟩ | ⟨g', cap', cur', h, -, hg', -, -, -, ht'⟩
    · cases h
    · cases h
      rw [hg] at hg'
      cases hg'
      rw [← ht, ← ht']
set_option maxRecDepth 100000 in
set_option maxHeartbeats 2000000 in
theorem copyRows_ (v : Value) (zs : List (List Int)) (w : World) (hv : ZL w v zs) (hn : zs.length ≤ 4294967296) (hl : ∀ r, r < zs.length → (zs.getD r []).length ≤ 4294967296) :
    Calls Try.prog 37 #[v] w (CpPost w fun W v' => ZO w.heap.size W v' zs) := by
  obtain ⟨iT, hiT, z0, z1, z2⟩ := info_parts infoR
  obtain ⟨Post, hPost⟩ : ∃ P : Ending → World → Prop, P = CpPost w fun W v' => ZO w.heap.size W v' zs := ⟨_, rfl⟩
  rw [← hPost]
  have HP : Hid (Post = CpPost w fun W v' => ZO w.heap.size W v' zs) := hPost
  obtain ⟨a, c, rfl, -, hc⟩ := zl_at hv
  have HC : Hid _ := hc
  have HL : Hid _ := hl
  obtain ⟨n, hn0⟩ : ∃ n, n = zs.length := ⟨_, rfl⟩
  have HN : Hid (n = zs.length) := hn0
  rw [← hn0] at hn HC HL ⊢
  obtain ⟨B, hB⟩ : ∃ B, B = w.heap.size := ⟨_, rfl⟩
  have HB : Hid (B = w.heap.size) := hB
  clear hPost hv hc hl hn0 hB
  go_enter Try.func37, Try.ntmps37
  go_wp2_with fail
  go_loopw [3, 4] (fun s3 s4 W => ∃ (i : Nat) (va : Option Addr) (vc : Nat), i ≤ n ∧ s4 = .int .i64 i ∧ s3 = .slice va i vc ∧ ZM B W (.slice va i vc) i zs ∧ Up w W) (fun _ s4 _ => n - (intOf s4).toNat)
  case atStart => exact ⟨0, none, 0, Nat.zero_le _, rfl, rfl, ⟨[], World.ownsRow_nil _ _ _ _, fun j hj => by omega⟩, Up.refl _⟩
  case round =>
    obtain ⟨i, va, vc, hi, rfl, rfl, hz, hu⟩ := hrel
    have HZ : Hid (ZM B wr (.slice va i vc) i zs) := hz
    have HU : Hid (Up w wr) := hu
    clear hz hu
    by_cases hlt : i < n
    · have hlt2 : (i : Int) < (n : Int) := by omega
      obtain ⟨b3, o3, rfl, hrow⟩ := HC.out (by omega)
      obtain ⟨ra, rc, hcell, hil⟩ := hrow i hlt
      have x1 := hcell wr HU.out
      have HK : Hid _ := copyInts_ _ (zs.getD i []) wr (hil.up HU.out) (HL.out i hlt)
      clear hcell hrow hil
      go_wp2_with fail
      refine Calls.mono HK.out ?_
      rintro e w1 ⟨x, rfl, hx, u1⟩
      clear HK
      obtain ⟨xa, xc, hxa⟩ := row_val hx
      have HX : Hid (IRow B w1 x (zs.getD i [])) := own_less hx (by have := HU.out.size; have := HB.out; omega)
      have HU1 : Hid (Up wr w1) := u1
      clear hx u1
      subst hxa
      obtain ⟨vs, hz1, -⟩ := id HZ.out
      have HV : Hid ((w1.alloc (.cells #[.slice xa (zs.getD i []).length xc] 36)).ownsRow B 36 1 (.slice va i vc) i vs) := row_up hz1 (HU1.out.alloc _)
      have HM : Hid (∀ j u, [Value.slice xa (zs.getD i []).length xc][j]? = some u → (w1.alloc (.cells #[.slice xa (zs.getD i []).length xc] 36)).cell? ((⟨w1.heap.size, 0, none⟩ : Addr).add j) = some u) := by
        intro j u hj
        cases j with
        | zero => simp at hj; subst hj; simp [Addr.add]
        | succ j => simp at hj
      have HO : Hid (∀ u ∈ [Value.slice xa (zs.getD i []).length xc], u.oneCell' = true) := by intro u hu; simp at hu; subst hu; rfl
      have HS : Hid (B ≤ (w1.alloc (.cells #[.slice xa (zs.getD i []).length xc] 36)).heap.size) := by have h1 := HU.out.size; have h2 := HU1.out.size; have h3 := HB.out; unfold Hid; simp; omega
      have HZ2 : Hid (∀ v' w2, w2.ownsRow B 36 1 v' (i + 1) (vs ++ [.slice xa (zs.getD i []).length xc]) → (w1.alloc (.cells #[.slice xa (zs.getD i []).length xc] 36)).grownBy w2 (Value.slice va i vc).ownBlock → ZM B w2 v' (i + 1) zs ∧ Up w w2) := by
        intro v' w2 h1 h2
        have hvs : ∀ vs', wr.ownsRow B 36 1 (.slice va i vc) i vs' → vs' = vs := fun vs' h => row_same h hz1
        refine ⟨zm_more HZ.out (HU1.out.alloc _) (row_up HX.out ((Up.refl _).alloc _)) (fun vs' h => by rw [hvs vs' h]; exact h1) h2, ?_⟩
        refine Below.grown (HU.out.trans (HU1.out.alloc _)) h2 ?_ ?_
        · have := HS.out; have h3 := HB.out; omega
        · intro k hk
          have := hz1.lt k hk
          have h3 := HB.out; omega
      clear hz1
      go_wp2_with (at_builtin; go_loud (refine wpList_append_own _ (by rfl) (.tmp 11) (.tmp 17) 24 (by rfl) B 36 iT (.slice none 0 0) 1 24 Try.underlying24 hiT z0 z1 z2 (by rfl) (by decide) (.slice va i vc) i vs (by rfl) HV.out ⟨w1.heap.size, 0, none⟩ 1 1 [.slice xa (zs.getD i []).length xc] (by rfl) (by rfl) HM.out HO.out (by unfold maxLen; omega) (by omega) HS.out ?_); intro v' w2 hin hg1 _)
      obtain ⟨va', vc', hva⟩ := row_val hin
      have HF : Hid (ZM B w2 v' (i + 1) zs ∧ Up w w2) := HZ2.out v' w2 hin hg1
      clear hin hg1 HZ2 HV HM HO HS HX HU1
      subst hva
      go_wp2
      go_roundw
      case rel => exact ⟨i + 1, va', vc', by omega, by go_num, rfl, HF.out.1, HF.out.2⟩
      case measure => simp [intOf]; omega
    · have hlt2 : ¬ (i : Int) < (n : Int) := by omega
      have hin : i = n := by omega
      subst hin
      go_wp2
      rw [HP.out]
      obtain ⟨vs, h1, h2⟩ := HZ.out
      exact ⟨_, rfl, ⟨vs, by rw [← HB.out, ← HN.out]; exact h1, fun j hj => by rw [← HB.out]; exact h2 j (by rw [HN.out]; exact hj)⟩, HU.out⟩
end ST
end Go.Proofs.Ytndkpfkgcaebmaa
