/-
  The document's Where, given what it makes of the list of things.
-/
import Derived.Test.YtpmdlpjedapbbaaGreatDoorRcr7ToTl
import Derived.Test.YtpmdlpjedapbbaaGreatDoorThQ
import Derived.Test.YtpmdlpjedapbbaaGreatDoorSzToEs
import Derived.Test.YtpmdlpjedapbbaaGreatDoorRim7Q
import Derived.Test.YtpmdlpjedapbbaaGreatDoorWsToRa
namespace Go.Proofs.YtpmdlpjedapbbaaGreatDoor
open Go.RowKit
attribute [local go_sem ↓] Go.wp_at_zero Go.wp_at_succ

namespace ST
end ST
end Go.Proofs.YtpmdlpjedapbbaaGreatDoor
/-
  The document's Check, May and Where, of whatever state that is not great.
-/
namespace Go.Proofs.YtpmdlpjedapbbaaGreatDoor
open Go.RowKit

namespace ST
theorem thingsOk (s : Stt) (hsm : Small s) (hfl : (flat s).length ≤ 4294967296) : ThingsOk s := by
  intro v w hs
  cases hb : sizesB s
  · exact things_bad s hsm hb v w hs
  · exact things_good s hsm hfl hb v w hs
end ST
end Go.Proofs.YtpmdlpjedapbbaaGreatDoor
/-
  The document's Encode and Sum.
-/
namespace Go.Proofs.YtpmdlpjedapbbaaGreatDoor
open Go.RowKit
attribute [local go_sem ↓] Go.wp_at_zero Go.wp_at_succ

namespace IM
open Go.Proofs.YtpmdlpjedapbbaaGreatDoor.ST
set_option maxRecDepth 100000 in
set_option maxHeartbeats 4000000 in
theorem rencode_ (v : Value) (s : Stt) (w : World) (hv : StL w v s) (hth : ThingsOk s) (ht : R4 s.turn) :
    Calls Tryz.prog 10 #[v] w fun x w' => ∃ vb, x = .returned (.tuple #[vb, .int .i64 (okI s)]) ∧ w'.ownsRow w.heap.size 5 1 vb (encB s).length (bvs (encB s)) ∧ Up w w' := by
  have HMY : Hid (∀ W, Up w W → Calls Tryz.prog 31 #[v] W fun e w' => e = .returned (.bool (decide (ff s = none))) ∧ Up W w') := fun W x => rmay_ v s W (hv.up x) hth
  have HIM : Hid (ff s = none → ∀ W, Up w W → Calls Tryz.prog 32 #[v] W fun x w' => ∃ vb, x = .returned vb ∧ w'.ownsRow W.heap.size 5 1 vb (img s).length (bvs (img s)) ∧ Up W w') := fun h W x => rimage_ v s W (hv.up x) (rs_of h ht)
  obtain ⟨Post, hPost⟩ : ∃ P : Ending → World → Prop, P = fun x w' => ∃ vb, x = .returned (.tuple #[vb, .int .i64 (okI s)]) ∧ w'.ownsRow w.heap.size 5 1 vb (encB s).length (bvs (encB s)) ∧ Up w w' := ⟨_, rfl⟩
  rw [← hPost]
  have HPo : Hid (Post = fun x w' => ∃ vb, x = .returned (.tuple #[vb, .int .i64 (okI s)]) ∧ w'.ownsRow w.heap.size 5 1 vb (encB s).length (bvs (encB s)) ∧ Up w w') := hPost
  clear hPost
  have HV : Hid (∀ W, Up w W → StL W v s) := fun W x => hv.up x
  obtain ⟨a1, k1, b1, l1, c1, m1, hvv⟩ := stl_val hv
  obtain ⟨A, hA⟩ : ∃ A : Array Value, A = #[.slice a1 s.ps.length k1, .slice b1 s.cs.length l1, .slice c1 s.zs.length m1, .int .i32 s.turn, .int .i64 s.whose, .int .i8 s.fin, .int .i64 s.winner] := ⟨_, rfl⟩
  have hA1 : A.size = 7 := by rw [hA]; rfl
  rw [← hA] at hvv
  subst hvv
  obtain ⟨W0, hW0⟩ : ∃ W0, w.alloc (.cells A 27) = W0 := ⟨_, rfl⟩
  have gA : W0.heap[w.heap.size]? = some (.cells A 27 (0, 0)) := by rw [← hW0]; exact heap_alloc_new _ _
  have u0 : Up w W0 := by rw [← hW0]; exact (Up.refl _).alloc _
  have HU : Hid (Up w W0) := u0
  rw [hA] at hW0
  have HAA : Hid (Value.agg A = .agg #[.slice a1 s.ps.length k1, .slice b1 s.cs.length l1, .slice c1 s.zs.length m1, .int .i32 s.turn, .int .i64 s.whose, .int .i8 s.fin, .int .i64 s.winner]) := by unfold Hid; rw [hA]
  rw [HAA.out]
  clear hA hv u0
  go_enter Tryz.func10, Tryz.ntmps10
  go_wp2_with (first | (refine wpList_world hW0 ?_; refine wpList_load_rowG (by rfl) 27 (.tmp 1) (by rfl) w.heap.size (by rfl) 27 A (0, 0) _ gA Tryz.underlying27 (by rfl) (by rw [hA1]; exact infoSt) ?_) | (refine wpList_load_rowG (by rfl) 27 (.tmp 1) (by rfl) w.heap.size (by rfl) 27 A (0, 0) _ gA Tryz.underlying27 (by rfl) (by rw [hA1]; exact infoSt) ?_))
  refine Calls.mono (HMY.out _ HU.out) ?_
  rintro r W1 ⟨rfl, u1⟩
  have gA := u1.heap gA
  have HU : Hid (Up w W1) := HU.out.trans u1
  clear u1 hW0 HMY
  by_cases hf : ff s = none
  · have HF : Hid (encB s = img s ∧ okI s = 0) := enc_img hf
    have HIM := HIM.out hf
    have HIM : Hid _ := HIM
    rw [decide_eq_true hf]
    clear hf
    go_wp2_with (refine wpList_load_rowG (by rfl) 27 (.tmp 1) (by rfl) w.heap.size (by rfl) 27 A (0, 0) _ gA Tryz.underlying27 (by rfl) (by rw [hA1]; exact infoSt) ?_)
    refine Calls.mono (HIM.out _ HU.out) ?_
    rintro r W2 ⟨vb, rfl, ho, u⟩
    have HZ : Hid (W2.ownsRow w.heap.size 5 1 vb (img s).length (bvs (img s)) ∧ Up w W2) := ⟨own_less ho HU.out.size, HU.out.trans u⟩
    obtain ⟨fa, fc, hvs⟩ := row_val ho
    generalize (img s).length = nn at hvs
    subst hvs
    clear ho u gA
    go_wp2_with fail
    rw [HPo.out, HF.out.1, HF.out.2]
    exact ⟨_, rfl, HZ.out⟩
  · have HF : Hid (encB s = [] ∧ okI s = 10) := by unfold Hid encB okI; rw [if_neg hf, if_neg hf]; exact ⟨rfl, rfl⟩
    rw [decide_eq_false hf]
    clear HIM gA hf
    go_wp2_with fail
    rw [HPo.out, HF.out.1, HF.out.2]
    exact ⟨_, rfl, World.ownsRow_nil _ _ _ _, HU.out⟩
set_option maxRecDepth 100000 in
set_option maxHeartbeats 4000000 in
theorem rsum_ (v : Value) (s : Stt) (w : World) (hv : StL w v s) (hth : ThingsOk s) (ht : R4 s.turn) :
    Calls Tryz.prog 11 #[v] w fun x w' => x = .returned (.tuple #[.int .u32 (sumN s : Nat), .int .i64 (okI s)]) ∧ Up w w' := by
  have HEN : Hid (∀ W, Up w W → Calls Tryz.prog 10 #[v] W fun x w' => ∃ vb, x = .returned (.tuple #[vb, .int .i64 (okI s)]) ∧ w'.ownsRow W.heap.size 5 1 vb (encB s).length (bvs (encB s)) ∧ Up W w') := fun W x => rencode_ v s W (hv.up x) hth ht
  have HLN : Hid ((encB s).length ≤ 200000000) := enc_le ht
  obtain ⟨Post, hPost⟩ : ∃ P : Ending → World → Prop, P = fun x w' => x = .returned (.tuple #[.int .u32 (sumN s : Nat), .int .i64 (okI s)]) ∧ Up w w' := ⟨_, rfl⟩
  rw [← hPost]
  have HPo : Hid (Post = fun x w' => x = .returned (.tuple #[.int .u32 (sumN s : Nat), .int .i64 (okI s)]) ∧ Up w w') := hPost
  clear hPost
  have HV : Hid (∀ W, Up w W → StL W v s) := fun W x => hv.up x
  obtain ⟨a1, k1, b1, l1, c1, m1, hvv⟩ := stl_val hv
  obtain ⟨A, hA⟩ : ∃ A : Array Value, A = #[.slice a1 s.ps.length k1, .slice b1 s.cs.length l1, .slice c1 s.zs.length m1, .int .i32 s.turn, .int .i64 s.whose, .int .i8 s.fin, .int .i64 s.winner] := ⟨_, rfl⟩
  have hA1 : A.size = 7 := by rw [hA]; rfl
  rw [← hA] at hvv
  subst hvv
  obtain ⟨W0, hW0⟩ : ∃ W0, w.alloc (.cells A 27) = W0 := ⟨_, rfl⟩
  have gA : W0.heap[w.heap.size]? = some (.cells A 27 (0, 0)) := by rw [← hW0]; exact heap_alloc_new _ _
  have u0 : Up w W0 := by rw [← hW0]; exact (Up.refl _).alloc _
  have HU : Hid (Up w W0) := u0
  rw [hA] at hW0
  have HAA : Hid (Value.agg A = .agg #[.slice a1 s.ps.length k1, .slice b1 s.cs.length l1, .slice c1 s.zs.length m1, .int .i32 s.turn, .int .i64 s.whose, .int .i8 s.fin, .int .i64 s.winner]) := by unfold Hid; rw [hA]
  rw [HAA.out]
  clear hA hv u0
  go_enter Tryz.func11, Tryz.ntmps11
  go_wp2_with (first | (refine wpList_world hW0 ?_; refine wpList_load_rowG (by rfl) 27 (.tmp 1) (by rfl) w.heap.size (by rfl) 27 A (0, 0) _ gA Tryz.underlying27 (by rfl) (by rw [hA1]; exact infoSt) ?_) | (refine wpList_load_rowG (by rfl) 27 (.tmp 1) (by rfl) w.heap.size (by rfl) 27 A (0, 0) _ gA Tryz.underlying27 (by rfl) (by rw [hA1]; exact infoSt) ?_))
  refine Calls.mono (HEN.out _ HU.out) ?_
  rintro r W1 ⟨vb, rfl, ho, u1⟩
  have HU : Hid (Up w W1) := HU.out.trans u1
  have HLI : Hid (SM.Lies W1 vb (bts (encB s))) := own_lies ho (byt_encB s)
  obtain ⟨fa, fc, hvs⟩ := row_val ho
  generalize (encB s).length = nn at hvs
  subst hvs
  clear u1 hW0 HEN ho gA
  by_cases hf : ff s = none
  · have HF : Hid (encB s = img s ∧ okI s = 0 ∧ sumN s = SM.crc 0 (bts (img s))) := by unfold Hid encB okI sumN; rw [if_pos hf, if_pos hf, if_pos hf]; exact ⟨rfl, rfl, rfl⟩
    have HCR : Hid (Calls Tryz.prog 33 #[.slice fa nn fc] W1 fun e w' => e = .returned (.int .u32 (SM.crc 0 (bts (encB s)))) ∧ w' = W1) := SM.refCrc _ _ W1 HLI.out (by rw [bts_len]; have := HLN.out; omega) (bts_bys (byt_encB s))
    rw [HF.out.2.1]
    clear hf HLI
    go_wp2_with fail
    refine Calls.mono HCR.out ?_
    rintro r W2 ⟨rfl, rfl⟩
    rw [HF.out.1]
    generalize SM.crc 0 (bts (img s)) = cc at *
    go_wp2_with fail
    rw [HPo.out, HF.out.2.2, HF.out.2.1]
    exact ⟨rfl, HU.out⟩
  · have HF : Hid (okI s = 10 ∧ sumN s = 0) := by unfold Hid okI sumN; rw [if_neg hf, if_neg hf]; exact ⟨rfl, rfl⟩
    rw [HF.out.1]
    clear HLI hf
    go_wp2_with fail
    rw [HPo.out, HF.out.1, HF.out.2]
    exact ⟨rfl, HU.out⟩
end IM
end Go.Proofs.YtpmdlpjedapbbaaGreatDoor
/-
  A state with marks behind it that is written over: whatever stands there, it is a state in memory.
-/
namespace Go.Proofs.YtpmdlpjedapbbaaGreatDoor
open Go.RowKit

namespace ST
def CK (W : World) (g n : Nat) (cs : List Crd) : Prop := cs.length = n ∧ ∃ cc : Array Value, W.heap[g]? = some (.cells cc 42 (0, 0)) ∧ ∀ j, j < n * 6 → cc[j]? = (cvs cs)[j]?
theorem six_parts (j : Nat) : ∃ a b, j = a * 6 + b ∧ b < 6 := ⟨j / 6, j % 6, by have := Nat.div_add_mod j 6; omega, Nat.mod_lt _ (by decide)⟩
theorem cvs_own (cs : List Crd) (i : Nat) (hi : i < cs.length) (y : Int) (j : Nat) (hj : j < cs.length * 6) : (cvs (cs.set i { cs.getD i dc with owner := y }))[j]? = if i * 6 + 1 = j then some (.int .i64 y) else (cvs cs)[j]? := by
  obtain ⟨a, b, rfl, hb⟩ := six_parts j
  have ha : a < cs.length := by omega
  rw [cvs_get _ a b (by simpa using ha) hb, cvs_get cs a b ha hb]
  by_cases e : a = i
  · subst e
    rw [List.getD_eq_getElem?_getD (l := cs.set a _), List.getElem?_set_self ha]
    simp only [Option.getD_some]
    by_cases e1 : b = 1
    · subst e1
      rw [if_pos rfl]; rfl
    · rw [if_neg (by omega)]
      match b, hb, e1 with
      | 0, _, _ => rfl
      | 2, _, _ => rfl
      | 3, _, _ => rfl
      | 4, _, _ => rfl
      | 5, _, _ => rfl
  · rw [List.getD_eq_getElem?_getD (l := cs.set i _), List.getElem?_set_ne (fun h => e h.symm), ← List.getD_eq_getElem?_getD, if_neg (by omega)]
theorem CK.put {W : World} {g n : Nat} {cs : List Crd} (h : CK W g n cs) (i : Nat) (hi : i < n) (y : Int) : CK (W.setCell ⟨g, i * 6 + 1, none⟩ (.int .i64 y)) g n (cs.set i { cs.getD i dc with owner := y }) := by
  obtain ⟨h1, cc, h2, h3⟩ := h
  refine ⟨by simpa using h1, _, set_cells h2, fun j hj => ?_⟩
  rw [cvs_own cs i (by omega) y j (by omega), Array.getElem?_setIfInBounds]
  have hs : i * 6 + 1 < cc.size := by
    have := h3 (i * 6 + 1) (by omega)
    rw [List.getElem?_eq_getElem (by rw [cvs_len]; omega)] at this
    exact (Array.getElem?_eq_some_iff.1 this).1
  by_cases e : i * 6 + 1 = j
  · rw [if_pos e, if_pos e]
    subst e
    rw [if_pos hs]
  · rw [if_neg e, if_neg e]
    exact h3 j hj
theorem CK.keep {W W' : World} {g n : Nat} {cs : List Crd} (h : CK W g n cs) (k : ∀ cc, W.heap[g]? = some (.cells cc 42 (0, 0)) → W'.heap[g]? = some (.cells cc 42 (0, 0))) : CK W' g n cs := by
  obtain ⟨h1, cc, h2, h3⟩ := h
  exact ⟨h1, cc, k cc h2, h3⟩
theorem CK.own {W : World} {g n : Nat} {cs : List Crd} (h : CK W g n cs) (i : Nat) (hi : i < n) : W.cell? ⟨g, i * 6 + 1, none⟩ = some (.int .i64 (cs.getD i dc).owner) ∧ W.frozen? ⟨g, i * 6 + 1, none⟩ = false := by
  obtain ⟨h1, cc, h2, h3⟩ := h
  refine ⟨?_, seven_f h2 _⟩
  have h4 := h3 (i * 6 + 1) (by omega)
  rw [cvs_get cs i 1 (by omega) (by decide)] at h4
  simp only [World.cell?, h2]
  exact h4
theorem CK.cls {W : World} {g n k : Nat} {cs : List Crd} (h : CK W g n cs) (hk : n ≤ k) : CLs W (.slice (some ⟨g, 0, none⟩) n k) cs := by
  obtain ⟨rfl, cc, h2, h3⟩ := h
  refine ⟨by rw [cvs_len], some ⟨g, 0, none⟩, k, rfl, hk, fun _ => ⟨g, 0, rfl, fun j hj => ?_⟩⟩
  rw [Nat.zero_add, ← h3 j hj]
  simp [World.cell?, h2]
/- a row of ints, whichever -/
def AI (W : World) (g q : Nat) : Prop := ∃ rc : Array Value, W.heap[g]? = some (.cells rc 3 (0, 0)) ∧ ∀ j, j < q → ∃ y : Int, rc[j]? = some (.int .i64 y)
theorem AI.put {W : World} {g q g' k q' : Nat} {y : Int} (h : AI W g q) (h' : AI W g' q') : AI (W.setCell ⟨g', k, none⟩ (.int .i64 y)) g q := by
  obtain ⟨rc, h1, h2⟩ := h
  by_cases e : g = g'
  · subst e
    refine ⟨_, set_cells h1, fun j hj => ?_⟩
    rw [Array.getElem?_setIfInBounds]
    by_cases ek : k = j
    · subst ek
      rw [if_pos rfl]
      obtain ⟨y', hy'⟩ := h2 k hj
      rw [if_pos (Array.getElem?_eq_some_iff.1 hy').1]
      exact ⟨y, rfl⟩
    · rw [if_neg ek]; exact h2 j hj
  · exact ⟨rc, set_other h1 e, h2⟩
theorem AI.keep {W W' : World} {g q : Nat} (h : AI W g q) (k : ∀ cc, W.heap[g]? = some (.cells cc 3 (0, 0)) → W'.heap[g]? = some (.cells cc 3 (0, 0))) : AI W' g q := by
  obtain ⟨rc, h1, h2⟩ := h
  exact ⟨rc, k rc h1, h2⟩
theorem AI.at {W : World} {g q : Nat} (h : AI W g q) (j : Nat) (hj : j < q) : (∃ y : Int, W.cell? ⟨g, j, none⟩ = some (.int .i64 y)) ∧ W.frozen? ⟨g, j, none⟩ = false := by
  obtain ⟨rc, h1, h2⟩ := h
  obtain ⟨y, hy⟩ := h2 j hj
  exact ⟨⟨y, by simp only [World.cell?, h1]; exact hy⟩, seven_f h1 _⟩
theorem AI.il {W : World} {g q k : Nat} (h : AI W g q) (hk : q ≤ k) : ∃ l : List Int, l.length = q ∧ IL W (.slice (some ⟨g, 0, none⟩) q k) l := by
  obtain ⟨rc, h1, h2⟩ := h
  have hc : ∀ j, ∃ y : Int, j < q → rc[j]? = some (.int .i64 y) := fun j => by
    by_cases hj : j < q
    · obtain ⟨y, hy⟩ := h2 j hj
      exact ⟨y, fun _ => hy⟩
    · exact ⟨0, fun h => absurd h hj⟩
  refine ⟨(List.range q).map fun j => Classical.choose (hc j), by simp, ?_⟩
  refine ⟨by simp [ivs_len], some ⟨g, 0, none⟩, k, by simp, by simpa using hk, fun _ => ⟨g, 0, rfl, fun j hj => ?_⟩⟩
  have hj' : j < q := by simpa using hj
  rw [ivs_get _ j (by simpa using hj'), Nat.zero_add]
  simp only [World.cell?, h1]
  rw [Classical.choose_spec (hc j) hj']
  simp [List.getD_eq_getElem?_getD, hj']
def KR (W : World) (b0 : Nat) (vs : List Value) (zs : List (List Int)) : Prop := ∀ i, i < zs.length → ∃ g, b0 ≤ g ∧ vs.getD i nl = .slice (some ⟨g, 0, none⟩) (zs.getD i []).length ((zs.getD i []).length + 64) ∧ AI W g (zs.getD i []).length
def KS (w W : World) (b : Nat) (box : Array Value) (gP gC gZ : Nat) (vs : List Value) (s : Stt) : Prop :=
  W.heap[b]? = some (.cells box 27 (0, 0)) ∧ W.heap[gP]? = some (.cells (wPs s.ps).toArray 44 (0, 0)) ∧ (∃ cs, CK W gC s.cs.length cs) ∧ (W.heap[gZ]? = some (.cells vs.toArray 98 (0, 0)) ∧ vs.length = s.zs.length + 64) ∧ KR W w.heap.size vs s.zs ∧ Up w W ∧ w.heap.size ≤ gC
theorem KS.up {w W W' : World} {b : Nat} {box : Array Value} {gP gC gZ : Nat} {vs : List Value} {s : Stt} (h : KS w W b box gP gC gZ vs s) (u : Up W W') : KS w W' b box gP gC gZ vs s := by
  obtain ⟨h1, h2, ⟨cs, h3⟩, h4, h5, h6, h7⟩ := h
  exact ⟨u.heap h1, u.heap h2, ⟨cs, h3.keep (fun _ h => u.heap h)⟩, ⟨u.heap h4.1, h4.2⟩, fun i hi => by
    obtain ⟨g, a, b, c⟩ := h5 i hi
    exact ⟨g, a, b, c.keep (fun _ h => u.heap h)⟩, h6.trans u, h7⟩
theorem KS.card {w W : World} {b : Nat} {box : Array Value} {gP gC gZ : Nat} {vs : List Value} {s : Stt} (h : KS w W b box gP gC gZ vs s) (i : Nat) (hi : i < s.cs.length) (y : Int) : KS w (W.setCell ⟨gC, i * 6 + 1, none⟩ (.int .i64 y)) b box gP gC gZ vs s := by
  obtain ⟨h1, h2, ⟨cs, h3⟩, h4, h5, h6, h7⟩ := h
  obtain ⟨-, cc, hc, -⟩ := id h3
  exact ⟨set_other h1 (heap_ne h1 hc (by decide)), set_other h2 (heap_ne h2 hc (by decide)), ⟨_, h3.put i hi y⟩, ⟨set_other h4.1 (heap_ne h4.1 hc (by decide)), h4.2⟩, fun i hi => by
    obtain ⟨g, a, b, c⟩ := h5 i hi
    exact ⟨g, a, b, c.keep (fun _ h => set_other h (heap_ne h hc (by decide)))⟩, Up.set h6 _ _ h7, h7⟩
theorem KS.row {w W : World} {b : Nat} {box : Array Value} {gP gC gZ g q k : Nat} {vs : List Value} {s : Stt} (h : KS w W b box gP gC gZ vs s) (hg : AI W g q) (hb : w.heap.size ≤ g) (y : Int) : KS w (W.setCell ⟨g, k, none⟩ (.int .i64 y)) b box gP gC gZ vs s := by
  obtain ⟨h1, h2, ⟨cs, h3⟩, h4, h5, h6, h7⟩ := h
  obtain ⟨rc, hc, -⟩ := id hg
  exact ⟨set_other h1 (heap_ne h1 hc (by decide)), set_other h2 (heap_ne h2 hc (by decide)), ⟨cs, h3.keep (fun _ h => set_other h (heap_ne h hc (by decide)))⟩, ⟨set_other h4.1 (heap_ne h4.1 hc (by decide)), h4.2⟩, fun i hi => by
    obtain ⟨g', a, b, c⟩ := h5 i hi
    exact ⟨g', a, b, c.put hg⟩, Up.set h6 _ _ hb, h7⟩
theorem flat_len_of : ∀ (a b : List (List Int)), a.length = b.length → (∀ i, i < a.length → (a.getD i []).length = (b.getD i []).length) → a.flatten.length = b.flatten.length := by
  intro a
  induction a with
  | nil => intro b h _; cases b with
    | nil => rfl
    | cons _ _ => simp at h
  | cons x a ih =>
    intro b h1 h2
    cases b with
    | nil => simp at h1
    | cons y b =>
      rw [List.flatten_cons, List.flatten_cons, List.length_append, List.length_append]
      have e := h2 0 (by simp)
      have := ih b (by simpa using h1) (fun i hi => by have := h2 (i + 1) (by simpa using hi); simpa using this)
      simp at e
      omega
/- what stands there is a state -/
theorem KS.state {w W : World} {b : Nat} {box : Array Value} {gP gC gZ : Nat} {vs : List Value} {s : Stt} (h : KS w W b box gP gC gZ vs s) (hsm : Small s) : ∃ s2, StL W (sv (.slice (some ⟨gP, 0, none⟩) s.ps.length (s.ps.length + 64)) (.slice (some ⟨gC, 0, none⟩) s.cs.length (s.cs.length + 64)) (.slice (some ⟨gZ, 0, none⟩) s.zs.length (s.zs.length + 64)) s) s2 ∧ Small s2 ∧ (flat s2).length = (flat s).length := by
  obtain ⟨h1, h2, ⟨cs, h3⟩, h4, h5, h6, h7⟩ := h
  have hc : ∀ i, ∃ l : List Int, i < s.zs.length → l.length = (s.zs.getD i []).length ∧ IL W (vs.getD i nl) l := fun i => by
    by_cases hi : i < s.zs.length
    · obtain ⟨g, -, hv, ha⟩ := h5 i hi
      obtain ⟨l, hl, hil⟩ := ha.il (k := (s.zs.getD i []).length + 64) (by omega)
      exact ⟨l, fun _ => ⟨hl, by rw [hv]; exact hil⟩⟩
    · exact ⟨[], fun h => absurd h hi⟩
  obtain ⟨zs, hzs⟩ : ∃ zs : List (List Int), zs = (List.range s.zs.length).map fun i => Classical.choose (hc i) := ⟨_, rfl⟩
  have hzl : zs.length = s.zs.length := by rw [hzs]; simp
  have hz : ∀ i, i < s.zs.length → (zs.getD i []).length = (s.zs.getD i []).length ∧ IL W (vs.getD i nl) (zs.getD i []) := fun i hi => by
    have := Classical.choose_spec (hc i) hi
    have e : zs.getD i [] = Classical.choose (hc i) := by rw [hzs]; simp [List.getD_eq_getElem?_getD, hi]
    rw [e]; exact this
  refine ⟨{ s with cs := cs, zs := zs }, ⟨_, _, _, rfl, WP.il ⟨gP, Nat.zero_le _, rfl, h2⟩, h3.cls (by omega), ?_⟩, ⟨hsm.1, by show cs.length ≤ _; rw [h3.1]; exact hsm.2.1, by show zs.length ≤ _; rw [hzl]; exact hsm.2.2.1, fun r hr => ?_⟩, ?_⟩
  · show ZL W _ zs
    refine ⟨vs.take s.zs.length, ⟨by rw [List.length_take]; omega, some ⟨gZ, 0, none⟩, s.zs.length + 64, by rw [hzl], by omega, fun hn => ⟨gZ, 0, rfl, fun j hj => ?_⟩⟩, fun i hi => ?_⟩
    · rw [Nat.zero_add, List.getElem?_take, if_pos (by omega)]
      simp [World.cell?, h4.1]
    · have hi' : i < s.zs.length := by omega
      have e : (vs.take s.zs.length).getD i nl = vs.getD i nl := by rw [List.getD_eq_getElem?_getD, List.getElem?_take, if_pos hi', ← List.getD_eq_getElem?_getD]
      rw [e]
      exact (hz i hi').2
  · have hr' : r < s.zs.length := by rw [← hzl]; exact hr
    show (zs.getD r []).length ≤ _
    rw [(hz r hr').1]
    exact hsm.2.2.2 r hr'
  · exact flat_len_of zs s.zs hzl (fun i hi => (hz i (by omega)).1)
theorem ks_of {w W : World} {base b : Nat} {v : Value} {s : Stt} {box : Array Value} (h : WS base W v s) (hb : W.heap[b]? = some (.cells box 27 (0, 0))) (u : Up w W) (hw : w.heap.size ≤ base) : ∃ gP gC gZ vs, v = sv (.slice (some ⟨gP, 0, none⟩) s.ps.length (s.ps.length + 64)) (.slice (some ⟨gC, 0, none⟩) s.cs.length (s.cs.length + 64)) (.slice (some ⟨gZ, 0, none⟩) s.zs.length (s.zs.length + 64)) s ∧ KS w W b box gP gC gZ vs s := by
  obtain ⟨vp, vc, vz, rfl, ⟨gP, -, rfl, p2⟩, hc, ⟨gZ, vs, -, rfl, z2, z3, z4⟩⟩ := h
  have hcl := hc.il
  obtain ⟨gC, c0, rfl, c2⟩ := hc
  refine ⟨gP, gC, gZ, vs, rfl, hb, p2, ⟨s.cs, rfl, _, c2, fun j hj => ?_⟩, ⟨z2, z3⟩, fun i hi => ?_, u, by omega⟩
  · obtain ⟨-, a, k, e, -, hc⟩ := hcl
    cases e
    obtain ⟨b', off, e, hcell⟩ := hc (by omega)
    cases e
    have := hcell j hj
    rw [← this, Nat.zero_add]
    simp [World.cell?, c2]
  · have := z4 i (by omega)
    rw [WRow, if_pos hi] at this
    obtain ⟨g, g1, g2, g3⟩ := this
    refine ⟨g, by omega, g2, _, g3, fun j hj => ?_⟩
    have := wIs_get (s.zs.getD i []) j (by omega)
    rw [wI, if_pos hj] at this
    exact ⟨_, by simpa using this⟩
end ST
end Go.Proofs.YtpmdlpjedapbbaaGreatDoor
