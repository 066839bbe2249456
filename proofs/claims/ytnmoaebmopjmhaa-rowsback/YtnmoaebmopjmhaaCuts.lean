/-
  Cut, Put and Find of ints beside the document's: the law walked.
-/
import Derived.Test.YtnmoaebmopjmhaaCutI
import Derived.Test.YtnmoaebmopjmhaaPtI
import Derived.Test.YtnmoaebmopjmhaaFdI
import Derived.Test.YtnmoaebmopjmhaaApart
import Derived.Test.YtnmoaebmopjmhaaWorks
namespace Go.Proofs.Ytnmoaebmopjmhaa
open Go.RowKit
attribute [local go_sem ↓] Go.wp_at_zero Go.wp_at_succ

namespace CU
open IN AP
theorem iv_map (zs : List Int) : iv zs = zs.map (fun z => Value.int .i64 z) := by
  induction zs with
  | nil => rfl
  | cons z zs ih => rw [List.map_cons, ← ih]; rfl
/- a list of the call's own that fills its block -/
def Own (base : Nat) (W : World) (v : Value) (zs : List Int) : Prop := (v = .slice none 0 0 ∧ zs = []) ∨ ∃ g, base ≤ g ∧ v = .slice (some ⟨g, 0, none⟩) zs.length zs.length ∧ Blk W g (iv zs)
theorem Own.up {base : Nat} {W W' : World} {v : Value} {zs : List Int} (h : Own base W v zs) (u : Up W W') : Own base W' v zs := by
  rcases h with h | ⟨g, h1, h2, h3⟩
  · exact .inl h
  · exact .inr ⟨g, h1, h2, u.heap h3⟩
theorem Own.lies {base : Nat} {W : World} {v : Value} {zs : List Int} (h : Own base W v zs) : LiesI W v zs := by
  rcases h with ⟨rfl, rfl⟩ | ⟨g, h1, rfl, h3⟩
  · exact ⟨none, 0, rfl, fun h => absurd rfl h⟩
  · exact ⟨_, _, rfl, fun _ => ⟨g, 0, rfl, fun i hi => by rw [Nat.zero_add, (row_atI h3 i).1]; exact iv_get zs i hi⟩⟩
theorem Own.part {base : Nat} {W : World} {v : Value} {zs : List Int} (h : Own base W v zs) (p : Nat) : Part W v zs.length p 0 := by
  rcases h with ⟨rfl, rfl⟩ | ⟨g, h1, rfl, h3⟩
  · exact .inl ⟨rfl, rfl⟩
  · exact .inr ⟨g, iv zs, rfl, h3, iv_len zs, fun q hq => by omega⟩
theorem Own.block {base : Nat} {W : World} {v : Value} {zs : List Int} (h : Own base W v zs) (g : Nat) (hg : v.ownBlock = some g) : base ≤ g ∧ g < W.heap.size := by
  rcases h with ⟨rfl, rfl⟩ | ⟨g', h1, rfl, h3⟩
  · cases hg
  · have : g' = g := by simpa [Value.ownBlock] using hg
    subst this
    exact ⟨h1, (Array.getElem?_eq_some_iff.1 h3).1⟩
theorem wide_src {W : World} {g : Nat} {zs : List Int} (h : Wide W g zs) : ∀ j x, (iv zs)[j]? = some x → W.cell? ⟨g, 0 + j, none⟩ = some x := by
  intro j x hx
  have hj : j < zs.length := by
    have := (List.getElem?_eq_some_iff.1 hx).1
    rwa [iv_len] at this
  obtain ⟨cs, h1, h2, h3, -⟩ := h
  rw [Nat.zero_add, (row_atI h1 j).1, h3 j hj, ← iv_get zs j hj]
  exact hx
theorem wide_lc {W : World} {g : Nat} {zs : List Int} (h : Wide W g zs) : LC W (.slice (some ⟨g, 0, none⟩) zs.length (zs.length + 5)) 1 zs.length (iv zs) := by
  refine ⟨by rw [iv_len, Nat.mul_one], _, _, rfl, by omega, fun _ => ⟨g, 0, rfl, fun j hj => ?_⟩⟩
  rw [Nat.mul_one] at hj
  rw [iv_get zs j hj]
  exact wide_src h j _ (iv_get zs j hj)
theorem iv_one (zs : List Int) : ∀ u ∈ iv zs, u.oneCell' = true := by
  intro u hu
  rw [iv_map] at hu
  obtain ⟨z, -, rfl⟩ := List.mem_map.1 hu
  rfl
def cutL (zs : List Int) (a : Int) : List Int := if 0 ≤ a ∧ a < zs.length then zs.eraseIdx a.toNat else []
def cutX (zs : List Int) (a : Int) : Int := if 0 ≤ a ∧ a < zs.length then zs.getD a.toNat 0 else 0
def putL (zs : List Int) (a x : Int) : List Int := if 0 ≤ a ∧ a ≤ zs.length then zs.take a.toNat ++ x :: zs.drop a.toNat else []
theorem cutU (g : Nat) (zs : List Int) (a : Int) (W : World) (h : Wide W g zs) (hn : zs.length ≤ 1048576) :
    Calls Try.prog 11 #[.slice (some ⟨g, 0, none⟩) zs.length (zs.length + 5), .int .i64 a] W fun e w' => ∃ cv, e = .returned (.tuple #[cv, .int .i64 (cutX zs a), .bool (decide (0 ≤ a ∧ a < zs.length))]) ∧ Own W.heap.size w' cv (cutL zs a) ∧ Up W w' := by
  by_cases hc : 0 ≤ a ∧ a < zs.length
  · obtain ⟨k, rfl⟩ : ∃ k : Nat, a = k := ⟨a.toNat, by omega⟩
    have hk : k < zs.length := by omega
    refine (LI.cut _ zs.length k (iv zs) (zs.getD k 0) W (wide_lc h) hk (by omega) (iv_one zs) (iv_get zs k hk)).mono ?_
    rintro e w' ⟨g', h1, rfl, h3, h4⟩
    refine ⟨.slice (some ⟨g', 0, none⟩) (zs.length - 1) (zs.length - 1), ?_, .inr ⟨g', h1, ?_, ?_⟩, h4⟩
    · rw [cutX, if_pos hc, decide_eq_true hc]; rfl
    · rw [cutL, if_pos hc, Int.toNat_natCast, List.length_eraseIdx_of_lt hk]
    · rw [Nat.mul_one, Nat.mul_one] at h3
      rw [cutL, if_pos hc, Int.toNat_natCast, Blk, h3, List.eraseIdx_eq_take_drop_succ]
      simp [iv_map, List.map_take, List.map_drop]
  · refine (LI.cut_bad _ zs.length (iv zs) a W (wide_lc h) (by omega)).mono ?_
    rintro e w' ⟨rfl, h4⟩
    refine ⟨.slice none 0 0, ?_, .inl ⟨rfl, ?_⟩, h4⟩
    · rw [cutX, if_neg hc, decide_eq_false hc]
    · rw [cutL, if_neg hc]
theorem putU (g : Nat) (zs : List Int) (a x : Int) (W : World) (h : Wide W g zs) (hn : zs.length ≤ 1048576) :
    Calls Try.prog 12 #[.slice (some ⟨g, 0, none⟩) zs.length (zs.length + 5), .int .i64 a, .int .i64 x] W fun e w' => ∃ cv, e = .returned (.tuple #[cv, .bool (decide (0 ≤ a ∧ a ≤ zs.length))]) ∧ Own W.heap.size w' cv (putL zs a x) ∧ Up W w' := by
  by_cases hc : 0 ≤ a ∧ a ≤ zs.length
  · obtain ⟨k, rfl⟩ : ∃ k : Nat, a = k := ⟨a.toNat, by omega⟩
    have hk : k ≤ zs.length := by omega
    refine (put g 0 zs.length (zs.length + 5) k (iv zs) x W (wide_src h) (iv_len zs) hk (by omega) (by omega) (iv_one zs)).mono ?_
    rintro e w' ⟨rfl, h3, h4⟩
    refine ⟨.slice (some ⟨W.heap.size, 0, none⟩) (zs.length + 1) (zs.length + 1), ?_, .inr ⟨W.heap.size, Nat.le_refl _, ?_, ?_⟩, h4⟩
    · rw [decide_eq_true hc]
    · rw [putL, if_pos hc, Int.toNat_natCast, List.length_append, List.length_cons, List.length_take, List.length_drop, show min k zs.length + (zs.length - k + 1) = zs.length + 1 by omega]
    · rw [putL, if_pos hc, Int.toNat_natCast, Blk, h3]
      simp [iv_map, List.map_take, List.map_drop]
  · refine (put_bad (some ⟨g, 0, none⟩) zs.length (zs.length + 5) a x W (by omega)).mono ?_
    rintro e w' ⟨rfl, rfl⟩
    refine ⟨.slice none 0 0, ?_, .inl ⟨rfl, ?_⟩, Up.refl _⟩
    · rw [decide_eq_false hc]
    · rw [putL, if_neg hc]
theorem rcutU (v : Value) (zs : List Int) (a : Int) (W : World) (h : LiesI W v zs) (hn : zs.length ≤ 1048576) :
    Calls Try.prog 14 #[v, .int .i64 a] W fun e w' => ∃ cv, e = .returned (.tuple #[cv, .int .i64 (cutX zs a), .bool (decide (0 ≤ a ∧ a < zs.length))]) ∧ LiesI w' cv (cutL zs a) ∧ Up W w' := by
  by_cases hc : 0 ≤ a ∧ a < zs.length
  · obtain ⟨k, rfl⟩ : ∃ k : Nat, a = k := ⟨a.toNat, by omega⟩
    refine (rcut v zs k W h (by omega) (by omega)).mono ?_
    rintro e w' ⟨v', rfl, h3, h4⟩
    refine ⟨v', ?_, ?_, h4⟩
    · rw [cutX, if_pos hc, decide_eq_true hc]; rfl
    · rw [cutL, if_pos hc]; exact h3
  · refine (rcut_bad v zs a W h (by omega)).mono ?_
    rintro e w' ⟨rfl, rfl⟩
    refine ⟨.slice none 0 0, ?_, ?_, Up.refl _⟩
    · rw [cutX, if_neg hc, decide_eq_false hc]
    · rw [cutL, if_neg hc]; exact ⟨none, 0, rfl, fun h => absurd rfl h⟩
theorem rputU (v : Value) (zs : List Int) (a x : Int) (W : World) (h : LiesI W v zs) (hn : zs.length ≤ 1048576) :
    Calls Try.prog 15 #[v, .int .i64 a, .int .i64 x] W fun e w' => ∃ cv, e = .returned (.tuple #[cv, .bool (decide (0 ≤ a ∧ a ≤ zs.length))]) ∧ LiesI w' cv (putL zs a x) ∧ Up W w' := by
  by_cases hc : 0 ≤ a ∧ a ≤ zs.length
  · obtain ⟨k, rfl⟩ : ∃ k : Nat, a = k := ⟨a.toNat, by omega⟩
    refine (rput v zs k x W h (by omega) (by omega)).mono ?_
    rintro e w' ⟨v', rfl, h3, h4⟩
    refine ⟨v', ?_, ?_, h4⟩
    · rw [decide_eq_true hc]
    · rw [putL, if_pos hc]; exact h3
  · refine (rput_bad v zs a x W h (by omega)).mono ?_
    rintro e w' ⟨rfl, rfl⟩
    refine ⟨.slice none 0 0, ?_, ?_, Up.refl _⟩
    · rw [decide_eq_false hc]
    · rw [putL, if_neg hc]; exact ⟨none, 0, rfl, fun h => absurd rfl h⟩
theorem cutL_len (zs : List Int) (a : Int) : (cutL zs a).length ≤ zs.length := by
  unfold cutL; split
  · exact List.length_eraseIdx_le _ _
  · simp
theorem putL_len (zs : List Int) (a x : Int) : (putL zs a x).length ≤ zs.length + 1 := by
  unfold putL; split
  · simp only [List.length_append, List.length_cons, List.length_take, List.length_drop]; omega
  · simp
def CPost (w : World) (e : Ending) (w' : World) : Prop := e = .returned (.bool true) ∧ Up w w'
set_option maxRecDepth 100000 in
set_option maxHeartbeats 8000000 in
theorem cutsMain (v : Value) (zs : List Int) (at_ x : Int) (w : World) (hv : LiesI w v zs) (hn : zs.length ≤ 9223372036854775807) :
    Calls Try.prog 3 #[v, .int .i64 at_, .int .i64 x] w (CPost w) := by
  obtain ⟨Post, hPost⟩ : ∃ P : Ending → World → Prop, P = CPost w := ⟨_, rfl⟩
  rw [← hPost]
  have HPo : Hid (Post = CPost w) := hPost
  have HV : Hid (LiesI w v zs) := hv
  obtain ⟨va, vcap, hve, -⟩ := hv
  obtain ⟨n, hn0⟩ : ∃ n, n = zs.length := ⟨_, rfl⟩
  have HN : Hid (n = zs.length) := hn0
  rw [← hn0] at hve hn
  subst hve
  clear hPost hn0
  by_cases hbig : 1048576 < n
  · have hbig2 : (1048576 : Int) < (n : Int) := by omega
    go_enter Try.func3, Try.ntmps3
    go_wp2_with fail
    refine (works _).mono ?_
    rintro e w1 ⟨rfl, u1⟩
    have HU1 : Hid (Up w w1) := u1
    clear u1
    go_wp2
    rw [HPo.out]
    exact ⟨rfl, HU1.out⟩
  · have hbig2 : ¬ (1048576 : Int) < (n : Int) := by omega
    have hnb : zs.length ≤ 1048576 := by rw [← HN.out]; omega
    go_enter Try.func3, Try.ntmps3
    go_wp2_with fail
    refine (works _).mono ?_
    rintro e w1 ⟨rfl, u1⟩
    have HU1 : Hid (Up w w1) := u1
    clear u1
    go_wp2_with fail
    refine (wide_ _ zs w1 (HV.out.up HU1.out) (by omega)).mono ?_
    rintro e w2 ⟨rfl, hw2, u2⟩
    obtain ⟨gw, hgw⟩ : ∃ gw, gw = w1.heap.size := ⟨_, rfl⟩
    rw [← hgw] at hw2 ⊢
    have HW2 : Hid (Wide w2 gw zs) := hw2
    have HU2 : Hid (Up w w2) := HU1.out.trans u2
    rw [← HN.out]
    clear hw2 u2 hgw HU1
    go_wp2_with fail
    have HCU : Hid (∀ W, Wide W gw zs → Calls Try.prog 11 #[.slice (some ⟨gw, 0, none⟩) n (n + 5), .int .i64 at_] W fun e w' => ∃ cv, e = .returned (.tuple #[cv, .int .i64 (cutX zs at_), .bool (decide (0 ≤ at_ ∧ at_ < zs.length))]) ∧ Own W.heap.size w' cv (cutL zs at_) ∧ Up W w') := fun W h => by rw [HN.out]; exact cutU gw zs at_ W h hnb
    have HPU : Hid (∀ W, Wide W gw zs → Calls Try.prog 12 #[.slice (some ⟨gw, 0, none⟩) n (n + 5), .int .i64 at_, .int .i64 x] W fun e w' => ∃ cv, e = .returned (.tuple #[cv, .bool (decide (0 ≤ at_ ∧ at_ ≤ zs.length))]) ∧ Own W.heap.size w' cv (putL zs at_ x) ∧ Up W w') := fun W h => by rw [HN.out]; exact putU gw zs at_ x W h hnb
    have HKE : Hid (∀ W, Wide W gw zs → LiesI W (.slice va n vcap) zs → Calls Try.prog 18 #[.slice (some ⟨gw, 0, none⟩) n (n + 5), .slice va n vcap] W fun e w' => e = .returned (.bool true) ∧ ∃ m, w' = W.drewN m) := fun W h1 h2 => by
      have := kept_ (.slice va n vcap) gw zs W h1 h2 (by omega)
      rw [← HN.out] at this
      exact this
    obtain ⟨cx, hcx⟩ : ∃ cx, cx = cutX zs at_ := ⟨_, rfl⟩
    obtain ⟨co, hco⟩ : ∃ co, co = decide (0 ≤ at_ ∧ at_ < zs.length) := ⟨_, rfl⟩
    obtain ⟨po, hpo⟩ : ∃ po, po = decide (0 ≤ at_ ∧ at_ ≤ zs.length) := ⟨_, rfl⟩
    have HCX : Hid (cx = cutX zs at_ ∧ co = decide (0 ≤ at_ ∧ at_ < zs.length) ∧ po = decide (0 ≤ at_ ∧ at_ ≤ zs.length)) := ⟨hcx, hco, hpo⟩
    clear hcx hco hpo
    refine Calls.mono (HCU.out w2 HW2.out) ?_
    rintro e w3 ⟨v3, rfl, ho3, u3⟩
    rw [← HCX.out.1, ← HCX.out.2.1]
    have HO3 : Hid (Own w2.heap.size w3 v3 (cutL zs at_)) := ho3
    have HU3 : Hid (Up w2 w3) := u3
    clear ho3 u3
    go_wp2_with fail
    refine (HPU.out w3 (HW2.out.up HU3.out)).mono ?_
    rintro e w4 ⟨v4, rfl, ho4, u4⟩
    rw [← HCX.out.2.2]
    have HO4 : Hid (Own w3.heap.size w4 v4 (putL zs at_ x)) := ho4
    have HU4 : Hid (Up w3 w4) := u4
    clear ho4 u4
    go_wp2_with fail
    have HFI := find_ (.slice (some ⟨gw, 0, none⟩) n (n + 5)) zs x w4 (by have := ((HW2.out.up HU3.out).up HU4.out).lies (n + 5); rw [← HN.out] at this; exact this) (by omega)
    refine Calls.mono HFI ?_
    rintro e w5 ⟨rfl, u5⟩
    obtain ⟨fx, hfx⟩ : ∃ fx, fx = fnd zs x zs.length 0 := ⟨_, rfl⟩
    rw [← hfx]
    have HFX : Hid (fx = fnd zs x zs.length 0) := hfx
    have HU5 : Hid (Up w4 w5) := u5
    clear hfx u5 HFI
    have HL5 : Hid (LiesI w5 (.slice va n vcap) zs) := HV.out.up (((HU2.out.trans HU3.out).trans HU4.out).trans HU5.out)
    go_wp2_with fail
    refine (rcutU _ zs at_ w5 HL5.out hnb).mono ?_
    rintro e w6 ⟨v6, rfl, hl6, u6⟩
    rw [← HCX.out.1, ← HCX.out.2.1]
    have HL6 : Hid (LiesI w6 v6 (cutL zs at_)) := hl6
    have HU6 : Hid (Up w5 w6) := u6
    clear hl6 u6
    go_wp2_with fail
    refine (rputU _ zs at_ x w6 (HL5.out.up HU6.out) hnb).mono ?_
    rintro e w7 ⟨v7, rfl, hl7, u7⟩
    rw [← HCX.out.2.2]
    have HL7 : Hid (LiesI w7 v7 (putL zs at_ x)) := hl7
    have HU7 : Hid (Up w6 w7) := u7
    clear hl7 u7
    have hcl := cutL_len zs at_
    have hpl := putL_len zs at_ x
    have HU37 : Hid (Up w3 w7) := ((HU4.out.trans HU5.out).trans HU6.out).trans HU7.out
    go_wp2_with fail
    refine (same_ v3 v6 (cutL zs at_) w7 ((HO3.out.up HU37.out).lies) (HL6.out.up HU7.out) (by omega)).mono ?_
    rintro e w8 ⟨rfl, m8, h8⟩
    have HU8 : Hid (Up w7 w8) := by unfold Hid; rw [h8]; exact (Up.refl _).drewN _
    clear h8
    have ecx : (cx == cx) = true := by simp
    have eco : (co == co) = true := by simp
    have epo : (po == po) = true := by simp
    have efx : (fx == fx) = true := by simp
    go_wp2_with fail
    refine (same_ v4 v7 (putL zs at_ x) w8 ((HO4.out.up (((HU5.out.trans HU6.out).trans HU7.out).trans HU8.out)).lies) (HL7.out.up HU8.out) (by omega)).mono ?_
    rintro e w9 ⟨rfl, m9, h9⟩
    have HU9 : Hid (Up w8 w9) := by unfold Hid; rw [h9]; exact (Up.refl _).drewN _
    clear h9
    go_wp2_with fail
    have HL9 : Hid (LiesI w9 (.slice va n vcap) zs) := HL5.out.up (((HU6.out.trans HU7.out).trans HU8.out).trans HU9.out)
    refine (rfind_ _ zs x w9 HL9.out (by omega)).mono ?_
    rintro e w10 ⟨rfl, rfl⟩
    rw [← HFX.out]
    have HU310 : Hid (Up w3 w10) := (HU37.out.trans HU8.out).trans HU9.out
    have HW10 : Hid (Wide w10 gw zs) := (HW2.out.up HU3.out).up HU310.out
    go_wp2_with fail
    refine (HKE.out w10 HW10.out HL9.out).mono ?_
    rintro e w11 ⟨rfl, m11, h11⟩
    have HU11 : Hid (Up w10 w11) := by unfold Hid; rw [h11]; exact (Up.refl _).drewN _
    clear h11
    have HW11 : Hid (Wide w11 gw zs) := HW10.out.up HU11.out
    go_wp2_with fail
    refine (HCU.out w11 HW11.out).mono ?_
    rintro e w12 ⟨v12, rfl, ho12, u12⟩
    rw [← HCX.out.1, ← HCX.out.2.1]
    have HO12 : Hid (Own w11.heap.size w12 v12 (cutL zs at_)) := ho12
    have HU12 : Hid (Up w11 w12) := u12
    clear ho12 u12
    go_wp2_with fail
    refine (HPU.out w12 (HW11.out.up HU12.out)).mono ?_
    rintro e w13 ⟨v13, rfl, ho13, u13⟩
    rw [← HCX.out.2.2]
    have HO13 : Hid (Own w12.heap.size w13 v13 (putL zs at_ x)) := ho13
    have HU13 : Hid (Up w12 w13) := u13
    clear ho13 u13
    obtain ⟨a3, k3, e3, -⟩ := HO3.out.lies
    obtain ⟨a4, k4, e4, -⟩ := HO4.out.lies
    obtain ⟨a12, k12, e12, -⟩ := HO12.out.lies
    obtain ⟨a13, k13, e13, -⟩ := HO13.out.lies
    subst e3 e4 e12 e13
    obtain ⟨w14, hw14⟩ : ∃ w14, w14 = w13.alloc (.cells #[.slice a3 (cutL zs at_).length k3, .slice a4 (putL zs at_ x).length k4, .slice a12 (cutL zs at_).length k12, .slice a13 (putL zs at_ x).length k13] 22) := ⟨_, rfl⟩
    have HU14 : Hid (Up w13 w14) := by unfold Hid; rw [hw14]; exact (Up.refl _).alloc _
    have HAP : Hid (Calls Try.prog 19 #[.slice (some ⟨w13.heap.size, 0, none⟩) 4 4] w14 fun e w' => e = .returned (.bool true) ∧ Below w2.heap.size w14 w') := by
      have s3 := HU3.out.size
      have s4 := HU4.out.size
      have s311 := (HU310.out.trans HU11.out).size
      have s12 := HU12.out.size
      have s13 := HU13.out.size
      have s14 := HU14.out.size
      have s411 : w4.heap.size ≤ w11.heap.size := (((((HU5.out.trans HU6.out).trans HU7.out).trans HU8.out).trans HU9.out).trans HU11.out).size
      have U314 : Up w3 w14 := (((HU310.out.trans HU11.out).trans HU12.out).trans HU13.out).trans HU14.out
      have U414 : Up w4 w14 := ((((((((HU5.out.trans HU6.out).trans HU7.out).trans HU8.out).trans HU9.out).trans HU11.out).trans HU12.out).trans HU13.out).trans HU14.out)
      have b3 := fun g h => HO3.out.block g h
      have b4 := fun g h => HO4.out.block g h
      have b12 := fun g h => HO12.out.block g h
      have b13 := fun g h => HO13.out.block g h
      have lc := cutL_len zs at_
      have lp := putL_len zs at_ x
      have hp4 : ∀ p, p < 4 → p = 0 ∨ p = 1 ∨ p = 2 ∨ p = 3 := fun p hp => by omega
      refine apart_ w13.heap.size w2.heap.size [(.slice a3 (cutL zs at_).length k3, (cutL zs at_).length), (.slice a4 (putL zs at_ x).length k4, (putL zs at_ x).length), (.slice a12 (cutL zs at_).length k12, (cutL zs at_).length), (.slice a13 (putL zs at_ x).length k13, (putL zs at_ x).length)] w14 ?_ (by simp) ?_ ?_ ?_ (by omega) ?_
      · unfold Arr; rw [hw14]; exact heap_alloc_new w13 _
      · intro p hp
        rw [if_neg (Nat.not_lt_zero p)]
        rcases hp4 p hp with rfl | rfl | rfl | rfl
        · exact (HO3.out.up U314).part 0
        · exact (HO4.out.up U414).part 1
        · exact (HO12.out.up (HU13.out.trans HU14.out)).part 2
        · exact (HO13.out.up HU14.out).part 3
      · intro p q g hp hq hne h1 h2
        rcases hp4 p hp with rfl | rfl | rfl | rfl <;> rcases hp4 q hq with rfl | rfl | rfl | rfl
        · exact absurd rfl hne
        · have x1 := b3 g h1; have x2 := b4 g h2; omega
        · have x1 := b3 g h1; have x2 := b12 g h2; omega
        · have x1 := b3 g h1; have x2 := b13 g h2; omega
        · have x1 := b4 g h1; have x2 := b3 g h2; omega
        · exact absurd rfl hne
        · have x1 := b4 g h1; have x2 := b12 g h2; omega
        · have x1 := b4 g h1; have x2 := b13 g h2; omega
        · have x1 := b12 g h1; have x2 := b3 g h2; omega
        · have x1 := b12 g h1; have x2 := b4 g h2; omega
        · exact absurd rfl hne
        · have x1 := b12 g h1; have x2 := b13 g h2; omega
        · have x1 := b13 g h1; have x2 := b3 g h2; omega
        · have x1 := b13 g h1; have x2 := b4 g h2; omega
        · have x1 := b13 g h1; have x2 := b12 g h2; omega
        · exact absurd rfl hne
      · intro p g hp h1
        rcases hp4 p hp with rfl | rfl | rfl | rfl
        · have x1 := b3 g h1; omega
        · have x1 := b4 g h1; omega
        · have x1 := b12 g h1; omega
        · have x1 := b13 g h1; omega
      · intro p hp
        rcases hp4 p hp with rfl | rfl | rfl | rfl
        · show (cutL zs at_).length ≤ _; omega
        · show (putL zs at_ x).length ≤ _; omega
        · show (cutL zs at_).length ≤ _; omega
        · show (putL zs at_ x).length ≤ _; omega
    have HU214 : Hid (Up w2 w14) := (((((HU3.out.trans HU310.out).trans HU11.out).trans HU12.out).trans HU13.out).trans HU14.out)
    go_wp2_with fail
    rw [← hw14]
    clear hw14
    refine Calls.mono HAP.out ?_
    rintro e w15 ⟨rfl, hb15⟩
    have HU15 : Hid (Up w2 w15) := Below.trans HU214.out hb15
    clear hb15
    have HW15 : Hid (Wide w15 gw zs) := HW2.out.up HU15.out
    have HL15 : Hid (LiesI w15 (.slice va n vcap) zs) := HV.out.up (HU2.out.trans HU15.out)
    go_wp2_with fail
    refine (HKE.out w15 HW15.out HL15.out).mono ?_
    rintro e w16 ⟨rfl, m16, h16⟩
    have HU16 : Hid (Up w15 w16) := by unfold Hid; rw [h16]; exact (Up.refl _).drewN _
    clear h16
    go_wp2
    rw [HPo.out]
    exact ⟨rfl, (HU2.out.trans HU15.out).trans HU16.out⟩
end CU
end Go.Proofs.Ytnmoaebmopjmhaa
