/-
  Decode.
-/
import Derived.Test.YtmpamcdobhiipaaGreatDoorWm7Q
import Derived.Laws.Tables
import Derived.Deep.RegionHeld
import Derived.Test.YtmpamcdobhiipaaGreatDoorWhToCt
import Derived.Test.YtmpamcdobhiipaaGreatDoorWrToNw
namespace Go.Proofs.YtmpamcdobhiipaaGreatDoor
open Go.RowKit
attribute [local go_sem ↓] Go.wp_at_zero Go.wp_at_succ

namespace IM
open Go.Proofs.YtmpamcdobhiipaaGreatDoor.ST
/- what Decode answers -/
def noS : Stt := ⟨[], [], [], 0, 0, 0, 0⟩
def deS (B : List Int) : Stt := match decR B with
  | .ok s => if ff s = none then s else noS
  | .error _ => noS
def deE (B : List Int) : Int := match decR B with
  | .ok s => if ff s = none then 0 else 10
  | .error _ => 12
def deA (B : List Int) : Int := match decR B with
  | .ok s => (match ff s with
    | none => 0
    | some k => (k : Int))
  | .error r => ((B.length - r : Nat) : Int)
def zA : Array Value := #[.slice none 0 0, .slice none 0 0, .slice none 0 0, .int .i32 0, .int .i64 0, .int .i8 0, .int .i64 0]
def DeP (w : World) (B : List Int) (x : Ending) (w' : World) : Prop := ∃ v, x = .returned (.tuple #[v, .int .i64 (deE B), .int .i64 (deA B)]) ∧ SOA w.heap.size w' v (deS B) ∧ Up w w'
theorem soa_no (base : Nat) (W : World) : SOA base W (.agg zA) noS :=
  ⟨.slice none 0 0, .slice none 0 0, .slice none 0 0, rfl, World.ownsRow_nil _ _ _ _, World.ownsRow_nil _ _ _ _, [], World.ownsRow_nil _ _ _ _, fun i hi => absurd hi (Nat.not_lt_zero i), RA.nil _⟩
theorem soa_set {b k j : Nat} {W : World} {v u : Value} {s : Stt} (h : SOA b W v s) (hk : k < b) : SOA b (W.setCell ⟨k, j, none⟩ u) v s := by
  obtain ⟨vp, vc, vz, hv, h1, h2, vs, h3, h4, h5⟩ := h
  exact ⟨vp, vc, vz, hv, row_set h1 hk, row_set h2 hk, vs, row_set h3 hk, fun i hi => row_set (h4 i hi) hk, h5⟩
theorem soa_less {b b' : Nat} {W : World} {v : Value} {s : Stt} (h : SOA b W v s) (hb : b' ≤ b) : SOA b' W v s := by
  obtain ⟨vp, vc, vz, hv, h1, h2, vs, h3, h4, h5⟩ := h
  exact ⟨vp, vc, vz, hv, own_less h1 hb, own_less h2 hb, vs, own_less h3 hb, fun i hi => own_less (h4 i hi) hb, h5⟩
theorem RW.soa {w0 : World} {rb : Nat} {vb : Value} {B : List Int} {pb p : Nat} {s : Stt} {W : World} (h : RW w0 rb vb B pb p s.ps s.cs s.zs s.turn s.whose s.fin s.winner W) : ∃ C vp vc vz, RD w0 rb vb B p C W ∧ (C[2]? = some vp ∧ C[3]? = some vc ∧ C[4]? = some vz) ∧ (C[5]? = some (.int .i32 s.turn) ∧ C[6]? = some (.int .i64 s.whose) ∧ C[7]? = some (.int .i8 s.fin) ∧ C[8]? = some (.int .i64 s.winner)) ∧ SOA w0.heap.size W (sv vp vc vz s) s := by
  obtain ⟨C, vp, vc, vz, h1, h2, h3, h4, h5, ⟨vs, -, h6, h7, h8⟩, -⟩ := h
  exact ⟨C, vp, vc, vz, h1, h2, h3, vp, vc, vz, rfl, h4, h5, vs, h6, h7, h8⟩
theorem small_rs {s : Stt} (h : RS s) : Small s := by
  refine ⟨by have := h.nps; omega, by have := h.ncs; omega, by have := h.nps; have := h.nzs; omega, fun r hr => ?_⟩
  have h1 := h.zs (s.zs.getD r []) (by rw [List.getD_eq_getElem?_getD, List.getElem?_eq_getElem hr]; exact List.getElem_mem hr)
  have := h1.1
  omega
theorem res_c2 {P : Program} {fn : Func} {p q r : Tmp} {ty : TypeId} (h : fn.results = #[.cell p ty, .tmp q, .tmp r]) (tmps : Array Value) (w : World) (g : Nat) (t : TypeId) (cs : Array Value) (fr : Nat × Nat) (d : TypeDesc) (x y : Value)
    (hp : tmps.getD p undef = .pointer (some ⟨g, 0, none⟩)) (hq : tmps.getD q undef = x) (hr : tmps.getD r undef = y) (hg : w.heap[g]? = some (.cells cs t fr))
    (hu : P.underlying ty = some d) (hd : (match d with | .struct _ | .array _ _ => true | _ => false) = true) (hi : (P.info? ty).map (·.size) = some cs.size) :
    (results fn tmps).run P w = .ok (.tuple #[.agg cs, x, y]) w := by
  have hp' : tmps[p]?.getD undef = .pointer (some ⟨g, 0, none⟩) := by simpa using hp
  have hq' : tmps[q]?.getD undef = x := by simpa using hq
  have hr' : tmps[r]?.getD undef = y := by simpa using hr
  simp [results, h, hp', hq', hr', asAddr, run_loadVar_row w g t ty cs fr d hg hu hd hi]
/- seven cells of a block are set -/
theorem set7 {W : World} {g b : Nat} {t : TypeId} {x0 x1 x2 x3 x4 x5 x6 y0 y1 y2 y3 y4 y5 y6 : Value} (h : W.heap[g]? = some (.cells #[y0, y1, y2, y3, y4, y5, y6] t (0, 0))) (hb : g < b) :
    (((((((W.setCell ⟨g, 0, none⟩ x0).setCell ⟨g, 1, none⟩ x1).setCell ⟨g, 2, none⟩ x2).setCell ⟨g, 3, none⟩ x3).setCell ⟨g, 4, none⟩ x4).setCell ⟨g, 5, none⟩ x5).setCell ⟨g, 6, none⟩ x6).heap[g]? = some (.cells #[x0, x1, x2, x3, x4, x5, x6] t (0, 0)) ∧
    (∀ v s, SOA b W v s → SOA b (((((((W.setCell ⟨g, 0, none⟩ x0).setCell ⟨g, 1, none⟩ x1).setCell ⟨g, 2, none⟩ x2).setCell ⟨g, 3, none⟩ x3).setCell ⟨g, 4, none⟩ x4).setCell ⟨g, 5, none⟩ x5).setCell ⟨g, 6, none⟩ x6) v s) ∧
    (∀ w, Up w W → w.heap.size ≤ g → Up w (((((((W.setCell ⟨g, 0, none⟩ x0).setCell ⟨g, 1, none⟩ x1).setCell ⟨g, 2, none⟩ x2).setCell ⟨g, 3, none⟩ x3).setCell ⟨g, 4, none⟩ x4).setCell ⟨g, 5, none⟩ x5).setCell ⟨g, 6, none⟩ x6)) := by
  refine ⟨?_, fun v s hs => ?_, fun w u hg => ?_⟩
  · have q0 := set_cells (j := 0) (x := x0) h
    have q1 := set_cells (j := 1) (x := x1) q0
    have q2 := set_cells (j := 2) (x := x2) q1
    have q3 := set_cells (j := 3) (x := x3) q2
    have q4 := set_cells (j := 4) (x := x4) q3
    have q5 := set_cells (j := 5) (x := x5) q4
    have q6 := set_cells (j := 6) (x := x6) q5
    rw [q6]
    simp
  · have q0 := soa_set (j := 0) (u := x0) hs hb
    have q1 := soa_set (j := 1) (u := x1) q0 hb
    have q2 := soa_set (j := 2) (u := x2) q1 hb
    have q3 := soa_set (j := 3) (u := x3) q2 hb
    have q4 := soa_set (j := 4) (u := x4) q3 hb
    have q5 := soa_set (j := 5) (u := x5) q4 hb
    exact soa_set (j := 6) (u := x6) q5 hb
  · have q0 := Up.set u ⟨g, 0, none⟩ x0 hg
    have q1 := Up.set q0 ⟨g, 1, none⟩ x1 hg
    have q2 := Up.set q1 ⟨g, 2, none⟩ x2 hg
    have q3 := Up.set q2 ⟨g, 3, none⟩ x3 hg
    have q4 := Up.set q3 ⟨g, 4, none⟩ x4 hg
    have q5 := Up.set q4 ⟨g, 5, none⟩ x5 hg
    exact Up.set q5 ⟨g, 6, none⟩ x6 hg
set_option maxRecDepth 100000 in
set_option maxHeartbeats 4000000 in
theorem decode_ (vb : Value) (B : List Int) (w : World) (hB : BL w vb B) (hby : Byt B) (hlen : B.length ≤ 4611686018427387904) :
    Calls Tryz.prog 6 #[vb] w (DeP w B) := by
  obtain ⟨Post, hPost⟩ : ∃ P : Ending → World → Prop, P = DeP w B := ⟨_, rfl⟩
  rw [← hPost]
  have HPo : Hid (Post = DeP w B) := hPost
  clear hPost
  obtain ⟨ba, bn, bc, hvb⟩ : ∃ a n c, vb = Value.slice a n c := by
    obtain ⟨-, a, cap, hv, -⟩ := hB
    exact ⟨_, _, _, hv⟩
  subst hvb
  have hrb : (w.alloc (.cells zA 30)).heap.size = w.heap.size + 1 := by simp
  have HWH : Hid (Calls Tryz.prog 16 #[.pointer (some ⟨w.heap.size + 1, 0, none⟩)] ((w.alloc (.cells zA 30)).alloc (.cells #[.slice ba bn bc, .int .i64 0, .slice none 0 0, .slice none 0 0, .slice none 0 0, .int .i32 0, .int .i64 0, .int .i8 0, .int .i64 0] 69)) (WhP (w.alloc (.cells zA 30)) (w.heap.size + 1) (.slice ba bn bc) B)) :=
    whole_ _ _ _ _ #[.slice ba bn bc, .int .i64 0, .slice none 0 0, .slice none 0 0, .slice none 0 0, .int .i32 0, .int .i64 0, .int .i8 0, .int .i64 0] _ ⟨by rw [← hrb]; exact heap_alloc_new _ _, rfl, rfl, rfl, (Up.refl _).alloc _, by rw [hrb]; exact Nat.le_refl _, hB.up ((Up.refl _).alloc _), hby, hlen, Nat.zero_le _⟩ rfl rfl rfl ⟨rfl, rfl, rfl, rfl⟩
  unfold zA at HWH
  go_enter Tryz.func6, Tryz.ntmps6
  go_wp2_with fail
  refine Calls.mono HWH.out ?_
  intro x W1 hx
  clear HWH hrb
  have HZ0 : Hid (∀ {W : World}, Up (w.alloc (.cells zA 30)) W → W.heap[w.heap.size]? = some (.cells zA 30 (0, 0)) ∧ Up w W) := fun u => ⟨u.heap (heap_alloc_new w _), ((Up.refl w).alloc _).trans u⟩
  unfold WhP at hx
  cases hd : decR B with
  | error r =>
    rw [hd] at hx
    obtain ⟨rfl, C, hR⟩ := hx
    have HF : Hid (deE B = 12 ∧ deA B = ((B.length - r : Nat) : Int) ∧ deS B = noS) := by unfold Hid deE deA deS; rw [hd]; exact ⟨rfl, rfl, rfl⟩
    have d1 : W1.cell? ⟨w.heap.size + 1, 1, none⟩ = some (.int .i64 ((B.length - r : Nat) : Int)) := hR.rr.c1
    obtain ⟨g0, HU⟩ := HZ0.out hR.up
    obtain ⟨n, hn⟩ : ∃ n : Nat, n = B.length - r := ⟨_, rfl⟩
    rw [← hn] at d1 HF
    have HR : Hid (Up w W1) := HU
    obtain ⟨y0, y1, y2, y3, y4, y5, y6⟩ := seven_cells g0
    have fz : ∀ j, W1.frozen? ⟨w.heap.size, j, none⟩ = false := fun j => seven_f g0 j
    obtain ⟨W9, hW9, h71, h72, h73⟩ : ∃ W9, (((((((W1.setCell ⟨w.heap.size, 0, none⟩ (.slice none 0 0)).setCell ⟨w.heap.size, 1, none⟩ (.slice none 0 0)).setCell ⟨w.heap.size, 2, none⟩ (.slice none 0 0)).setCell ⟨w.heap.size, 3, none⟩ (.int .i32 0)).setCell ⟨w.heap.size, 4, none⟩ (.int .i64 0)).setCell ⟨w.heap.size, 5, none⟩ (.int .i8 0)).setCell ⟨w.heap.size, 6, none⟩ (.int .i64 0)) = W9 ∧ W9.heap[w.heap.size]? = some (.cells zA 30 (0, 0)) ∧ (∀ v s, SOA (w.heap.size + 1) W1 v s → SOA (w.heap.size + 1) W9 v s) ∧ Up w W9 := by
      obtain ⟨q1, q2, q3⟩ := @set7 W1 w.heap.size (w.heap.size + 1) _ (.slice none 0 0) (.slice none 0 0) (.slice none 0 0) (.int .i32 0) (.int .i64 0) (.int .i8 0) (.int .i64 0) _ _ _ _ _ _ _ g0 (by omega)
      exact ⟨_, rfl, q1, q2, q3 w HR.out (Nat.le_refl _)⟩
    have HS7 : Hid ((∀ v s, SOA (w.heap.size + 1) W1 v s → SOA (w.heap.size + 1) W9 v s) ∧ Up w W9) := ⟨h72, h73⟩
    have HW9 : Hid (_ = W9) := hW9
    clear hR HU hn hd HZ0 hB hby hlen g0 h72 h73 hW9
    go_wp2_with fail
    go_region
    rw [HW9.out]
    go_wp2_with fail
    refine bodyPost_ret (v := .tuple #[.agg zA, .int .i64 12, .int .i64 (n : Int)]) (res_c2 (p := 2) (q := 3) (r := 4) (ty := 30) rfl _ _ w.heap.size 30 zA (0, 0) _ _ _ rfl rfl rfl h71 Tryz.underlying30 rfl infoSt) rfl ?_
    rw [HPo.out]
    refine ⟨.agg zA, ?_, ?_, Up.drew HS7.out.2⟩
    · rw [HF.out.1, HF.out.2.1]
    · rw [HF.out.2.2]
      exact soa_no _ _
  | ok s =>
    rw [hd] at hx
    obtain ⟨rfl, pb, hR⟩ := hx
    obtain ⟨C, vp, vc, vz, hRD, ⟨c2, c3, c4⟩, ⟨c5, c6, c7, c8⟩, hSO⟩ := hR.soa
    have hrs := (dec_back hby hd).2
    obtain ⟨g0, HU⟩ := HZ0.out hRD.up
    have HR : Hid (Up w W1 ∧ W1.heap[w.heap.size]? = some (.cells zA 30 (0, 0)) ∧ SOA (w.heap.size + 1) W1 (sv vp vc vz s) s) := ⟨HU, g0, by simpa using hSO⟩
    have HRH : Hid (W1.heap[w.heap.size + 1]? = some (.cells C 69 (0, 0))) := hRD.hp
    have HCK : Hid (Calls Tryz.prog 17 #[sv vp vc vz s] W1 fun e w' => e = .returned (ckV (ff s)) ∧ Up W1 w') := check_ _ s W1 hSO.so.sl (small_rs hrs)
    have HCL : Hid (∀ {W : World}, Up W1 W → W.cell? ⟨w.heap.size + 1, 2, none⟩ = some vp ∧ W.cell? ⟨w.heap.size + 1, 3, none⟩ = some vc ∧ W.cell? ⟨w.heap.size + 1, 4, none⟩ = some vz ∧ W.cell? ⟨w.heap.size + 1, 5, none⟩ = some (.int .i32 s.turn) ∧ W.cell? ⟨w.heap.size + 1, 6, none⟩ = some (.int .i64 s.whose) ∧ W.cell? ⟨w.heap.size + 1, 7, none⟩ = some (.int .i8 s.fin) ∧ W.cell? ⟨w.heap.size + 1, 8, none⟩ = some (.int .i64 s.winner)) := fun u => by
      have h9 := u.heap hRD.hp
      simp only [World.cell?, h9]
      exact ⟨c2, c3, c4, c5, c6, c7, c8⟩
    obtain ⟨z2, z3, z4, z5, z6, z7, z8⟩ := HCL.out (Up.refl W1)
    obtain ⟨a1, n1, k1, hv1⟩ : ∃ a n c, vp = Value.slice a n c := by
      obtain ⟨x1, x2, x3, hv, h1, -⟩ := hSO
      obtain ⟨ad, cap, h9⟩ := row_val h1
      cases hv
      exact ⟨_, _, _, h9⟩
    obtain ⟨a2, n2, k2, hv2⟩ : ∃ a n c, vc = Value.slice a n c := by
      obtain ⟨x1, x2, x3, hv, -, h1, -⟩ := hSO
      obtain ⟨ad, cap, h9⟩ := row_val h1
      cases hv
      exact ⟨_, _, _, h9⟩
    obtain ⟨a3, n3, k3, hv3⟩ : ∃ a n c, vz = Value.slice a n c := by
      obtain ⟨x1, x2, x3, hv, -, -, vs, h1, -⟩ := hSO
      obtain ⟨ad, cap, h9⟩ := row_val h1
      cases hv
      exact ⟨_, _, _, h9⟩
    subst hv1 hv2 hv3
    unfold sv at HCK
    have HF : Hid ((deE B = if ff s = none then 0 else 10) ∧ (deA B = match ff s with | none => 0 | some k => (k : Int)) ∧ (deS B = if ff s = none then s else noS)) := by unfold Hid deE deA deS; rw [hd]; exact ⟨rfl, rfl, rfl⟩
    clear hR hRD c2 c3 c4 c5 c6 c7 c8 hSO hrs g0 HU HZ0 hd hB hby hlen
    go_wp2_with fail
    refine Calls.mono HCK.out ?_
    rintro r W2 ⟨rfl, u⟩
    obtain ⟨y2, y3, y4, y5, y6, y7, y8⟩ := HCL.out u
    have g0 := u.heap HR.out.2.1
    have HR : Hid (Up w W2 ∧ SOA (w.heap.size + 1) W2 (sv (.slice a1 n1 k1) (.slice a2 n2 k2) (.slice a3 n3 k3) s) s) := ⟨HR.out.1.trans u, HR.out.2.2.up u⟩
    clear z2 z3 z4 z5 z6 z7 z8 HCL HCK u
    obtain ⟨t0, t1, t2, t3, t4, t5, t6⟩ := seven_cells g0
    have fz : ∀ j, W2.frozen? ⟨w.heap.size, j, none⟩ = false := fun j => seven_f g0 j
    unfold ckV
    cases hf : ff s with
    | none =>
      have HF : Hid (deE B = 0 ∧ deA B = 0 ∧ deS B = s) := by
        have h9 := HF.out
        rw [hf] at h9
        simpa [Hid] using h9
      obtain ⟨W9, hW9, h71, h72, h73⟩ : ∃ W9, (((((((W2.setCell ⟨w.heap.size, 0, none⟩ (.slice a1 n1 k1)).setCell ⟨w.heap.size, 1, none⟩ (.slice a2 n2 k2)).setCell ⟨w.heap.size, 2, none⟩ (.slice a3 n3 k3)).setCell ⟨w.heap.size, 3, none⟩ (.int .i32 s.turn)).setCell ⟨w.heap.size, 4, none⟩ (.int .i64 s.whose)).setCell ⟨w.heap.size, 5, none⟩ (.int .i8 s.fin)).setCell ⟨w.heap.size, 6, none⟩ (.int .i64 s.winner)) = W9 ∧ W9.heap[w.heap.size]? = some (.cells #[.slice a1 n1 k1, .slice a2 n2 k2, .slice a3 n3 k3, .int .i32 s.turn, .int .i64 s.whose, .int .i8 s.fin, .int .i64 s.winner] 30 (0, 0)) ∧ (∀ v s, SOA (w.heap.size + 1) W2 v s → SOA (w.heap.size + 1) W9 v s) ∧ Up w W9 := by
        obtain ⟨q1, q2, q3⟩ := @set7 W2 w.heap.size (w.heap.size + 1) _ (.slice a1 n1 k1) (.slice a2 n2 k2) (.slice a3 n3 k3) (.int .i32 s.turn) (.int .i64 s.whose) (.int .i8 s.fin) (.int .i64 s.winner) _ _ _ _ _ _ _ g0 (by omega)
        exact ⟨_, rfl, q1, q2, q3 w HR.out.1 (Nat.le_refl _)⟩
      have HS7 : Hid ((∀ v s, SOA (w.heap.size + 1) W2 v s → SOA (w.heap.size + 1) W9 v s) ∧ Up w W9) := ⟨h72, h73⟩
      clear g0 hf h72 h73
      go_wp2_with fail
      refine bodyPost_ret (v := .tuple #[.agg #[.slice a1 n1 k1, .slice a2 n2 k2, .slice a3 n3 k3, .int .i32 s.turn, .int .i64 s.whose, .int .i8 s.fin, .int .i64 s.winner], .int .i64 0, .int .i64 0]) (res_c2 (p := 2) (q := 3) (r := 4) (ty := 30) rfl _ _ w.heap.size 30 #[.slice a1 n1 k1, .slice a2 n2 k2, .slice a3 n3 k3, .int .i32 s.turn, .int .i64 s.whose, .int .i8 s.fin, .int .i64 s.winner] (0, 0) _ _ _ rfl rfl rfl h71 Tryz.underlying30 rfl infoSt) rfl ?_
      rw [HPo.out]
      refine ⟨.agg #[.slice a1 n1 k1, .slice a2 n2 k2, .slice a3 n3 k3, .int .i32 s.turn, .int .i64 s.whose, .int .i8 s.fin, .int .i64 s.winner], ?_, ?_, HS7.out.2⟩
      · rw [HF.out.1, HF.out.2.1]
      · rw [HF.out.2.2]
        exact soa_less (HS7.out.1 _ _ HR.out.2) (by omega)
    | some k =>
      have HF : Hid (deE B = 10 ∧ deA B = (k : Int) ∧ deS B = noS) := by
        have h9 := HF.out
        rw [hf] at h9
        simpa [Hid] using h9
      obtain ⟨W9, hW9, h71, h72, h73⟩ : ∃ W9, (((((((W2.setCell ⟨w.heap.size, 0, none⟩ (.slice none 0 0)).setCell ⟨w.heap.size, 1, none⟩ (.slice none 0 0)).setCell ⟨w.heap.size, 2, none⟩ (.slice none 0 0)).setCell ⟨w.heap.size, 3, none⟩ (.int .i32 0)).setCell ⟨w.heap.size, 4, none⟩ (.int .i64 0)).setCell ⟨w.heap.size, 5, none⟩ (.int .i8 0)).setCell ⟨w.heap.size, 6, none⟩ (.int .i64 0)) = W9 ∧ W9.heap[w.heap.size]? = some (.cells zA 30 (0, 0)) ∧ (∀ v s, SOA (w.heap.size + 1) W2 v s → SOA (w.heap.size + 1) W9 v s) ∧ Up w W9 := by
        obtain ⟨q1, q2, q3⟩ := @set7 W2 w.heap.size (w.heap.size + 1) _ (.slice none 0 0) (.slice none 0 0) (.slice none 0 0) (.int .i32 0) (.int .i64 0) (.int .i8 0) (.int .i64 0) _ _ _ _ _ _ _ g0 (by omega)
        exact ⟨_, rfl, q1, q2, q3 w HR.out.1 (Nat.le_refl _)⟩
      have HS7 : Hid ((∀ v s, SOA (w.heap.size + 1) W2 v s → SOA (w.heap.size + 1) W9 v s) ∧ Up w W9) := ⟨h72, h73⟩
      clear g0 hf h72 h73
      go_wp2_with fail
      refine bodyPost_ret (v := .tuple #[.agg zA, .int .i64 10, .int .i64 (k : Int)]) (res_c2 (p := 2) (q := 3) (r := 4) (ty := 30) rfl _ _ w.heap.size 30 zA (0, 0) _ _ _ rfl rfl rfl h71 Tryz.underlying30 rfl infoSt) rfl ?_
      rw [HPo.out]
      refine ⟨.agg zA, ?_, ?_, HS7.out.2⟩
      · rw [HF.out.1, HF.out.2.1]
      · rw [HF.out.2.2]
        exact soa_no _ _
end IM
end Go.Proofs.YtmpamcdobhiipaaGreatDoor
/-
  Rows at once: loads, stores and results in regions that draw.
-/
namespace Go.Proofs.YtmpamcdobhiipaaGreatDoor
open Go.RowKit

namespace IM
open Go.Proofs.YtmpamcdobhiipaaGreatDoor.ST
theorem exec_load_row {P : Program} {o : Oper} {a : Act} (ty : TypeId) (x : Operand) (ho : o.op = .load ty x) (g : Nat) (hx : a.eval x = .pointer (some ⟨g, 0, none⟩)) (t : TypeId) (cs : Array Value) (fr : Nat × Nat) (d : TypeDesc)
    (hu : P.underlying ty = some d) (hd : (match d with | .struct _ | .array _ _ => true | _ => false) = true) (hi : (P.info? ty).map (·.size) = some cs.size) (w : World) (hg : w.heap[g]? = some (.cells cs t fr)) : (execOp a.eval o).run P w = .ok (.value (.agg cs)) w := by
  unfold execOp
  simp only [ho, hx, Instr.loadAt, Instr.sureAddr, Sem.run_bind, Sem.run_pure, Result.andThen_ok, run_loadVar_row w g t ty cs fr d hg hu hd hi]
theorem wpAnyH_world {P : Program} {md : Region.Mode} {ops : Array Oper} {Q : Exit → Act → World → Prop} {S : World → Prop} {fuel : Nat} {listed : Array Bool} {a : Act} {w W : World} (h : w = W) (k : wpAnyH P md ops Q S fuel listed a W) : wpAnyH P md ops Q S fuel listed a w := by subst h; exact k
theorem stepH_store {P : Program} {o : Oper} {a : Act} {w : World} {K : Act → World → Prop} {Q : Exit → Act → World → Prop} {c X : Prop} [Decidable c] (hw : c) (ty : TypeId) (x y : Operand) (ho : o.op = .store ty x y)
    (g : Nat) (cells : Array Value) (hx : a.eval x = .pointer (some ⟨g, 0, none⟩)) (hy : a.eval y = .agg cells)
    (t : TypeId) (old : Array Value) (hg : w.heap[g]? = some (.cells old t (0, 0))) (hi : (P.info? ty).map (·.size) = some cells.size)
    (hold : old.size = cells.size) (h1 : cells.all (·.oneCell') = true) (h : K (a.put o.dst undef) (w.setRow g cells)) :
    if c then Oper.wp P o a w K Q else X := by
  rw [if_pos hw]
  exact wp_store_row ty x y ho g cells hx hy t old hg hi hold h1 h
theorem setRow_heap (w : World) (g : Nat) (old : Array Value) (t : TypeId) (fr : Nat × Nat) (C : Array Value) (h : w.heap[g]? = some (.cells old t fr)) : (w.setRow g C).heap[g]? = some (.cells C t fr) := by
  simp only [World.setRow, Array.getElem?_modify]
  rw [if_pos trivial, h]
  rfl
theorem setRow_other (w : World) (g k : Nat) (C : Array Value) (h : k ≠ g) : (w.setRow g C).heap[k]? = w.heap[k]? := by
  simp only [World.setRow, Array.getElem?_modify]
  rw [if_neg (fun e => h e.symm)]
theorem wpList_load_rowG {P : Program} {ops : Array Oper} {rest : List Oper} {o : Oper} {a : Act} {w : World} {Q : Exit → Act → World → Prop} (hw : Region.wanted o (yielded ops a.tmps) = true) (ty : TypeId) (x : Operand) (ho : o.op = .load ty x)
    (g : Nat) (hx : a.eval x = .pointer (some ⟨g, 0, none⟩)) (t : TypeId) (cs : Array Value) (fr : Nat × Nat) (d : TypeDesc) (hg : w.heap[g]? = some (.cells cs t fr))
    (hu : P.underlying ty = some d) (hd : (match d with | .struct _ | .array _ _ => true | _ => false) = true) (hi : (P.info? ty).map (·.size) = some cs.size)
    (h : wpList P ops Q rest (a.put o.dst (.agg cs)) w) : wpList P ops Q (o :: rest) a w := by
  unfold wpList
  rw [if_pos hw]
  exact Or.inl (wp_load_row ty x ho g hx t cs fr d hg hu hd hi h)
theorem up_setRow {w W : World} {g : Nat} (h : Up w W) (hg : w.heap.size ≤ g) (C : Array Value) : Up w (W.setRow g C) := by
  refine ⟨h.os, h.tape, h.output, by have := h.size; simpa [World.setRow] using this, fun k hk => ?_⟩
  rw [← h.block k hk]
  simp only [World.setRow, Array.getElem?_modify]
  rw [if_neg (by omega)]
theorem row_setRow {w : World} {base e s n g : Nat} {v : Value} {xs : List Value} {old C : Array Value} {t : TypeId} {fr : Nat × Nat} (h : w.ownsRow base e s v n xs) (hg : w.heap[g]? = some (.cells old t fr)) (ht : e ≠ t) : (w.setRow g C).ownsRow base e s v n xs := by
  refine ⟨h.1, ?_⟩
  rcases h.2 with h0 | ⟨g', cap, cur, e1, e2, e3, e4⟩
  · exact .inl h0
  · refine .inr ⟨g', cap, cur, e1, e2, ?_, e4⟩
    rw [setRow_other]
    · exact e3
    · rintro rfl
      rw [e3] at hg
      simp only [Option.some.injEq, Obj.cells.injEq] at hg
      exact ht hg.2.1
theorem soa_setRow {w : World} {base g : Nat} {v : Value} {s : Stt} {old C : Array Value} {fr : Nat × Nat} (h : SOA base w v s) (hg : w.heap[g]? = some (.cells old 30 fr)) : SOA base (w.setRow g C) v s := by
  obtain ⟨vp, vc, vz, hv, h1, h2, vs, h3, h4, h5⟩ := h
  exact ⟨vp, vc, vz, hv, row_setRow h1 hg (by decide), row_setRow h2 hg (by decide), vs, row_setRow h3 hg (by decide), fun i hi => row_setRow (h4 i hi) hg (by decide), h5⟩
theorem results_c1 {P : Program} {fn : Func} {p q : Tmp} {ty : TypeId} (h : fn.results = #[.cell p ty, .tmp q]) (tmps : Array Value) (w : World) (g : Nat) (t : TypeId) (cs : Array Value) (fr : Nat × Nat) (d : TypeDesc) (x : Value)
    (hp : tmps.getD p undef = .pointer (some ⟨g, 0, none⟩)) (hq : tmps.getD q undef = x) (hg : w.heap[g]? = some (.cells cs t fr))
    (hu : P.underlying ty = some d) (hd : (match d with | .struct _ | .array _ _ => true | _ => false) = true) (hi : (P.info? ty).map (·.size) = some cs.size) :
    (results fn tmps).run P w = .ok (.tuple #[.agg cs, x]) w := by
  have hp' : tmps[p]?.getD undef = .pointer (some ⟨g, 0, none⟩) := by simpa using hp
  have hq' : tmps[q]?.getD undef = x := by simpa using hq
  simp [results, h, hp', hq', asAddr, run_loadVar_row w g t ty cs fr d hg hu hd hi]
theorem soa_val {base : Nat} {W : World} {v : Value} {s : Stt} (h : SOA base W v s) : ∃ a1 k1 a2 k2 a3 k3, v = .agg #[.slice a1 s.ps.length k1, .slice a2 s.cs.length k2, .slice a3 s.zs.length k3, .int .i32 s.turn, .int .i64 s.whose, .int .i8 s.fin, .int .i64 s.winner] := by
  obtain ⟨vp, vc, vz, hv, h1, h2, vs, h3, -, -⟩ := h
  obtain ⟨a1, k1, rfl⟩ := row_val h1
  obtain ⟨a2, k2, rfl⟩ := row_val h2
  obtain ⟨a3, k3, rfl⟩ := row_val h3
  exact ⟨_, _, _, _, _, _, hv⟩
theorem soa_sl {base : Nat} {W : World} {v : Value} {s : Stt} (h : SOA base W v s) : StL W v s := h.so.sl
/- a state that may be, there and back -/
theorem de_img {s : Stt} (h : ff s = none) (ht : R4 s.turn) : deS (img s) = s ∧ deE (img s) = 0 ∧ deA (img s) = 0 := by
  have h1 := dec_img (rs_of h ht)
  unfold deS deE deA
  rw [h1]
  refine ⟨?_, ?_, ?_⟩ <;> simp [h]
theorem enc_img {s : Stt} (h : ff s = none) : encB s = img s ∧ okI s = 0 := by
  unfold encB okI
  rw [if_pos h, if_pos h]
  exact ⟨rfl, rfl⟩
end IM
end Go.Proofs.YtmpamcdobhiipaaGreatDoor
/-
  The program's copyList: a list of its own.
-/
namespace Go.Proofs.YtmpamcdobhiipaaGreatDoor
open Go.RowKit
attribute [local go_sem ↓] Go.wp_at_zero Go.wp_at_succ

theorem own_made {W : World} {base g e s n : Nat} {xs : List Value} (h : W.heap[g]? = some (.cells xs.toArray e (0, 0))) (hl : xs.length = n * s) (hb : base ≤ g) (hn : n ≤ maxLen) : W.ownsRow base e s (.slice (some ⟨g, 0, none⟩) n n) n xs :=
  ⟨hl, .inr ⟨g, n, xs.toArray, rfl, hb, h, Nat.le_refl _, hn, by simpa using hl, by simp; exact List.take_of_length_le (by omega)⟩⟩
theorem splice_all (z cs : List Value) (h : z.length = cs.length) : splice z 0 cs = cs := by
  unfold splice
  simp [h]
namespace ST
theorem sizeP : (Tryz.prog.info? 95).map (·.size) = some 3 := by kernel_rfl
theorem sizeC : (Tryz.prog.info? 83).map (·.size) = some 6 := by kernel_rfl
theorem sizeI : (Tryz.prog.info? 3).map (·.size) = some 1 := by kernel_rfl
end ST
end Go.Proofs.YtmpamcdobhiipaaGreatDoor
/-
  The program's Copy: a state in memory of its own.
-/
namespace Go.Proofs.YtmpamcdobhiipaaGreatDoor
open Go.RowKit
attribute [local go_sem ↓] Go.wp_at_zero Go.wp_at_succ

theorem row_set_ty {W : World} {base e s n gz j t : Nat} {v u : Value} {xs : List Value} {c : Array Value} (h : W.ownsRow base e s v n xs) (hz : W.heap[gz]? = some (.cells c t (0, 0))) (ht : e ≠ t) : (W.setCell ⟨gz, j, none⟩ u).ownsRow base e s v n xs := by
  refine ⟨h.1, ?_⟩
  rcases h.2 with h | ⟨g, cap, cur, e1, e2, e3, e4⟩
  · exact .inl h
  · exact .inr ⟨g, cap, cur, e1, e2, by
      rw [Below.heap_setCell _ _ _ _ (by
        show g ≠ gz
        rintro rfl
        rw [e3] at hz
        cases hz
        exact ht rfl)]
      exact e3, e4⟩
theorem blocks_3 (w : World) (A B C : Array Value) (t : TypeId) : (((w.alloc (.cells A t)).alloc (.cells B t)).alloc (.cells C t)).heap[w.heap.size]? = some (.cells A t (0, 0)) ∧ (((w.alloc (.cells A t)).alloc (.cells B t)).alloc (.cells C t)).heap[w.heap.size + 1]? = some (.cells B t (0, 0)) ∧ (((w.alloc (.cells A t)).alloc (.cells B t)).alloc (.cells C t)).heap[w.heap.size + 1 + 1]? = some (.cells C t (0, 0)) ∧ (((w.alloc (.cells A t)).alloc (.cells B t)).alloc (.cells C t)).heap.size = w.heap.size + 3 ∧ Up w (((w.alloc (.cells A t)).alloc (.cells B t)).alloc (.cells C t)) := by
  obtain ⟨h1, h2, h3, h4⟩ := two_blocks w A B t
  refine ⟨?_, ?_, ?_, by simp, h4.alloc _⟩
  · rw [Below.heap_alloc _ _ _ (by rw [h3]; omega)]; exact h1
  · rw [Below.heap_alloc _ _ _ (by rw [h3]; omega)]; exact h2
  · have := heap_alloc_new ((w.alloc (.cells A t)).alloc (.cells B t)) (.cells C t)
    rw [h3] at this
    exact this
namespace ST
def zbox : Array Value := #[.slice none 0 0, .slice none 0 0, .slice none 0 0, .int .i32 0, .int .i64 0, .int .i8 0, .int .i64 0]
def CY (w W : World) (B : Nat) (box cbox : Array Value) (gz nz i : Nat) (vs : List Value) (x1 x2 : Value) (s : Stt) : Prop :=
  W.heap[B]? = some (.cells box 30 (0, 0)) ∧ W.heap[B + 1]? = some (.cells zbox 30 (0, 0)) ∧ W.heap[B + 1 + 1]? = some (.cells cbox 30 (0, 0)) ∧
  (W.heap[gz]? = some (.cells vs.toArray 84 (0, 0)) ∧ vs.length = nz ∧ B + 3 ≤ gz) ∧ (∀ j, j < i → IRow (B + 3) W (vs.getD j nl) (s.zs.getD j [])) ∧ PO (B + 3) W x1 s.ps ∧ CO (B + 3) W x2 s.cs ∧ Up w W ∧ B = w.heap.size
theorem CY.up {w W W' : World} {B : Nat} {box cbox : Array Value} {gz nz i : Nat} {vs : List Value} {x1 x2 : Value} {s : Stt} (h : CY w W B box cbox gz nz i vs x1 x2 s) (u : Up W W') : CY w W' B box cbox gz nz i vs x1 x2 s := by
  obtain ⟨h1, h2, h3, ⟨h4, h5, h6⟩, h7, h8, h9, h10, h11⟩ := h
  exact ⟨u.heap h1, u.heap h2, u.heap h3, ⟨u.heap h4, h5, h6⟩, fun j hj => row_up (h7 j hj) u, row_up h8 u, row_up h9 u, h10.trans u, h11⟩
theorem CY.put {w W : World} {B : Nat} {box cbox : Array Value} {gz nz i : Nat} {vs : List Value} {x1 x2 x : Value} {s : Stt} (h : CY w W B box cbox gz nz i vs x1 x2 s) (hi : i < nz) (hx : IRow (B + 3) W x (s.zs.getD i [])) : CY w (W.setCell ⟨gz, i, none⟩ x) B box cbox gz nz (i + 1) (vs.set i x) x1 x2 s := by
  obtain ⟨h1, h2, h3, ⟨h4, h5, h6⟩, h7, h8, h9, h10, h11⟩ := h
  refine ⟨set_other h1 (heap_ne h1 h4 (by decide)), set_other h2 (heap_ne h2 h4 (by decide)), set_other h3 (heap_ne h3 h4 (by decide)), ⟨?_, by simpa using h5, h6⟩, fun j hj => ?_, row_set_ty h8 h4 (by decide), row_set_ty h9 h4 (by decide), Up.set h10 _ _ (by show w.heap.size ≤ gz; omega), h11⟩
  · have := set_cells (j := i) (x := x) h4
    simpa using this
  · by_cases e : j = i
    · subst e
      rw [List.getD_eq_getElem?_getD, List.getElem?_set_self (by omega)]
      exact row_set_ty hx h4 (by decide)
    · rw [List.getD_eq_getElem?_getD, List.getElem?_set_ne (fun h => e h.symm), ← List.getD_eq_getElem?_getD]
      exact row_set_ty (h7 j (by omega)) h4 (by decide)
end ST
end Go.Proofs.YtmpamcdobhiipaaGreatDoor
