
/-
  RowsStacks: the law's walk.
-/
import Derived.Test.YtgonflnmkfgfhaaSyd
import Derived.Test.YtgonflnmkfgfhaaApN
import Derived.Test.YtgonflnmkfgfhaaWorks
import Derived.Test.YtgonflnmkfgfhaaOpenO
import Derived.Test.YtgonflnmkfgfhaaTail
namespace Go.Proofs.Ytgonflnmkfgfhaa
open Go.RowKit
attribute [local go_sem ↓] Go.wp_at_zero Go.wp_at_succ

namespace DS
open IN
theorem on_one (n : Int) : bits .and .i64 n 1 = 0 ∨ bits .and .i64 n 1 = 1 := by
  have h1 : (BitVec.ofInt 64 1).toNat = 2 ^ 1 - 1 := by decide
  have key : (BitVec.ofInt 64 n &&& BitVec.ofInt 64 1).toNat = (n % ((2 ^ 64 : Nat) : Int)).toNat % 2 ^ 1 := by
    rw [BitVec.toNat_and, BitVec.toNat_ofInt, h1, Nat.and_two_pow_sub_one_eq_mod]
  have h2 : bits .and .i64 n 1 = n % 2 := by
    show IntKind.i64.wrap ((BitVec.ofInt 64 n &&& BitVec.ofInt 64 1).toNat : Nat) = n % 2
    rw [key, IntKind.wrap_i64]
    omega
  rw [h2]
  omega
def aS (most : Int) (k : Nat) : Option Addr := if most < 0 then none else some ⟨k, 0, none⟩
theorem newU (most : Int) (w : World) : Calls Try.prog 6 #[.int .i64 most] w fun e w' => ∃ a, e = .returned (.pointer a) ∧ (a = aS most w.heap.size ∧ (0 ≤ most → LIS.StackAt w' w.heap.size (w.heap.size + 1) (.slice none 0 0) [] 0 most)) ∧ Up w w' := by
  by_cases h : most < 0
  · refine (LIS.newStackNil most w h).mono ?_
    rintro e w' ⟨rfl, rfl⟩
    exact ⟨_, rfl, ⟨by unfold aS; rw [if_pos h], fun h2 => by omega⟩, Up.refl _⟩
  · refine (LIS.newStack most w (by omega)).mono ?_
    rintro e w' ⟨rfl, h1, h2, -⟩
    exact ⟨_, rfl, ⟨by unfold aS; rw [if_neg h], fun _ => h1⟩, h2⟩
theorem rnewU (most : Int) (w : World) : Calls Try.prog 7 #[.int .i64 most] w fun e w' => ∃ a, e = .returned (.pointer a) ∧ (a = aS most w.heap.size ∧ (0 ≤ most → RS.RSt w' w.heap.size (w.heap.size + 1) (.slice none 0 0) (.slice none 0 0) most [] [])) ∧ Up w w' := by
  by_cases h : most < 0
  · refine (RS.rnewStackNil most w h).mono ?_
    rintro e w' ⟨rfl, rfl⟩
    exact ⟨_, rfl, ⟨by unfold aS; rw [if_pos h], fun h2 => by omega⟩, Up.refl _⟩
  · refine (RS.rnewStack most w (by omega)).mono ?_
    rintro e w' ⟨rfl, h1, h2, -⟩
    exact ⟨_, rfl, ⟨by unfold aS; rw [if_neg h], fun _ => h1⟩, h2⟩
theorem none_alike {one : Int} {a c : Option Addr} {k q : Nat} (h1 : a = aS one k) (h2 : c = aS one q) : (a.isNone == c.isNone) = true := by
  rw [h1, h2]; unfold aS; by_cases h : one < 0 <;> simp [h]
def oS (sb rb : Nat) (most : Int) : Option G := if most < 0 then none else some (gs sb rb most)
theorem oS_some {sb rb : Nat} {most : Int} {g : G} (h : oS sb rb most = some g) : 0 ≤ most ∧ g = gs sb rb most := by
  unfold oS at h
  by_cases hm : most < 0
  · rw [if_pos hm] at h; cases h
  · rw [if_neg hm] at h
    simp only [Option.some.injEq] at h
    exact ⟨by omega, h.symm⟩
theorem oS_p (sb rb : Nat) (most : Int) : ps (oS sb rb most) = .pointer (aS most sb) ∧ pr (oS sb rb most) = .pointer (aS most rb) := by
  unfold oS aS
  by_cases hm : most < 0 <;> simp [hm, ps, pr, gs]
theorem bes_gs {s r s' r' : Nat} {m m' : Int} (h1 : s ≠ s') (h2 : r ≠ r') : Beside (gs s r m) (gs s' r' m') := ⟨h1, h2, fun k e => by cases e⟩
theorem start_ {w w1 w2 w3 wa w4 w5 W : World} {one two : Int} {a0 a1 c0 c1 : Option Addr} {sa : Nat} (u1 : Up w w1) (u2 : Up w1 w2) (u3 : Up w2 w3) (ua : Up w3 wa) (u4 : Up wa w4) (u5 : Up w4 w5) (u6 : Up w5 W)
    (s0 : a0 = aS one w1.heap.size ∧ (0 ≤ one → LIS.StackAt w2 w1.heap.size (w1.heap.size + 1) (.slice none 0 0) [] 0 one)) (s1 : a1 = aS two w2.heap.size ∧ (0 ≤ two → LIS.StackAt w3 w2.heap.size (w2.heap.size + 1) (.slice none 0 0) [] 0 two))
    (r0 : c0 = aS one wa.heap.size ∧ (0 ≤ one → RS.RSt w4 wa.heap.size (wa.heap.size + 1) (.slice none 0 0) (.slice none 0 0) one [] [])) (r1 : c1 = aS two w4.heap.size ∧ (0 ≤ two → RS.RSt w5 w4.heap.size (w4.heap.size + 1) (.slice none 0 0) (.slice none 0 0) two [] []))
    (hsa : W.heap[sa]? = some (.cells #[.pointer a0, .pointer a1] 26 (0, 0))) (hra : W.heap[w5.heap.size]? = some (.cells #[.pointer c0, .pointer c1] 29 (0, 0))) (hhb : W.heap[w5.heap.size + 1]? = some (.cells #[.slice none 0 0] 30 (0, 0))) :
    JJ w (w5.heap.size + 1) sa w5.heap.size a0 a1 c0 c1 0 W := by
  have z1 := u1.size; have z2 := u2.size; have z3 := u3.size; have za := ua.size; have z4 := u4.size; have z5 := u5.size
  have U3 : Up w3 W := ((ua.trans u4).trans u5).trans u6
  have U2 : Up w2 W := u3.trans U3
  have U5 : Up w5 W := u6
  have U4 : Up w4 W := u5.trans u6
  have hB : w5.heap.size + 1 < W.heap.size := (Array.getElem?_eq_some_iff.1 hhb).1
  refine ⟨oS w1.heap.size wa.heap.size one, oS w2.heap.size w4.heap.size two, [], none, 0, ⟨⟨hhb, World.ownsRow_nil _ _ _ _, Nat.lt_succ_self _, hB, fun p hp => by simp at hp, fun p q g hp => by simp at hp⟩, Nat.le_refl _⟩, ⟨fun g e => ?_, fun g e => ?_, fun g f eg ef => ?_, fun g f eg ef => ?_⟩, ⟨?_, ?_, ?_, ?_⟩, ⟨hsa, hra⟩, u1.trans (u2.trans U2)⟩
  · obtain ⟨h0, rfl⟩ := oS_some e
    exact ⟨gs_ok ((s0.2 h0).up U2) ((r0.2 h0).up U4), fun p k hp => (by simp at hp), z1, by show w.heap.size ≤ wa.heap.size; omega⟩
  · obtain ⟨h0, rfl⟩ := oS_some e
    exact ⟨gs_ok ((s1.2 h0).up U3) ((r1.2 h0).up U5), fun p k hp => (by simp at hp), by show w.heap.size ≤ w2.heap.size; omega, by show w.heap.size ≤ w4.heap.size; omega⟩
  · obtain ⟨h0, rfl⟩ := oS_some eg
    obtain ⟨h1, rfl⟩ := oS_some ef
    have k1 := (Array.getElem?_eq_some_iff.1 (s0.2 h0).1).1
    have k2 := (Array.getElem?_eq_some_iff.1 (r0.2 h0).1).1
    exact bes_gs (by omega) (by omega)
  · obtain ⟨h0, rfl⟩ := oS_some eg
    obtain ⟨h1, rfl⟩ := oS_some ef
    have k1 := (Array.getElem?_eq_some_iff.1 (s0.2 h1).1).1
    have k2 := (Array.getElem?_eq_some_iff.1 (r0.2 h1).1).1
    exact bes_gs (by omega) (by omega)
  · rw [s0.1]; exact (oS_p _ _ _).1
  · rw [r0.1]; exact (oS_p _ _ _).2
  · rw [s1.1]; exact (oS_p _ _ _).1
  · rw [r1.1]; exact (oS_p _ _ _).2
theorem last_facts {W : World} {N : Nat} {g : G} (h : GOk W N g) (hN : N ≤ 50000) :
    (∀ W', Up W W' → Calls Try.prog 11 #[.pointer (some ⟨g.sb, 0, none⟩)] W' fun e w' => ∃ x, e = .returned x ∧ LiesI w' x (g.all.take g.d) ∧ Up W' w') ∧
    (∀ W' x, Up W W' → LiesI W' x (g.all.take g.d) → Calls Try.prog 10 #[x, g.vd] W' fun e w' => e = .returned (.bool true) ∧ Up W' w') ∧ ∀ W', Up W W' → W'.cell? ⟨g.rb, 1, none⟩ = some g.vd := by
  have hl := h.2.2.2
  have hd := h.1.1.2.2.2
  have htl : (g.all.take g.d).length = g.d := by rw [List.length_take]; omega
  refine ⟨fun W' u => ?_, fun W' x u hx => ?_, fun W' u => (RS.three3 (u.heap h.1.2.1)).2.1⟩
  · refine (LIS.done_ g.sb g.b1 g.v g.all g.d g.most W' (h.1.1.up u) (by omega)).mono ?_
    rintro e w' ⟨rfl, h1, h2⟩
    refine ⟨_, rfl, ?_, h2⟩
    have := full_row h1 htl (by omega)
    rw [show (Value.slice (some ⟨W'.heap.size, 0, none⟩) g.d g.d) = .slice (some ⟨W'.heap.size, 0, none⟩) (g.all.take g.d).length g.d by rw [htl]]
    exact own_lies (base := 0) (by rw [htl]; exact this)
  · refine (same_ _ _ (g.all.take g.d) W' hx (own_lies (row_up h.1.2.2.1 u)) (by omega)).mono ?_
    rintro e w' ⟨rfl, m, rfl⟩
    exact ⟨rfl, (Up.refl _).drewN m⟩
set_option maxRecDepth 100000 in
set_option maxHeartbeats 16000000 in
theorem stacksMain (one two : Int) (v : Value) (l : List OP.Opp) (w : World) (hv : OP.OL w v l) (hm : l.length ≤ 140737488355328) :
    Calls Try.prog 3 #[.int .i64 one, .int .i64 two, v] w fun e w' => e = .returned (.bool true) ∧ Below w.heap.size w w' := by
  obtain ⟨Post, hPost⟩ : ∃ P : Ending → World → Prop, P = fun e w' => e = .returned (.bool true) ∧ Below w.heap.size w w' := ⟨_, rfl⟩
  rw [← hPost]
  have HPost : Hid (Post = fun e w' => e = .returned (.bool true) ∧ Below w.heap.size w w') := hPost
  clear hPost
  have HW : Hid _ := works
  have HV : Hid (OP.OL w v l) := hv
  obtain ⟨-, va, vcap, rfl, hvc, -⟩ := hv
  obtain ⟨n, hn⟩ : ∃ n, n = l.length := ⟨_, rfl⟩
  rw [← hn] at HV hm hvc ⊢
  have HN : Hid (n = l.length) := hn
  clear hn
  have HNS : Hid _ := newU
  have HRS : Hid _ := rnewU
  go_enter Try.func3, Try.ntmps3
  go_wp2_with fail
  refine Calls.mono (HW.out _) ?_
  rintro e w1 ⟨rfl, u1⟩
  have HU1 : Hid (Up w w1) := u1
  clear u1
  by_cases hbig : (4096 : Int) < (n : Int)
  · go_wp2
    rw [HPost.out]
    exact ⟨rfl, HU1.out⟩
  · go_wp2_with fail
    refine Calls.mono (HNS.out _ _) ?_
    rintro e w2 ⟨a0, rfl, s0, u2⟩
    have HS0 : Hid _ := s0
    have HU2 : Hid (Up w1 w2) := u2
    clear s0 u2
    go_wp2_with fail
    refine Calls.mono (HNS.out _ _) ?_
    rintro e w3 ⟨a1, rfl, s1, u3⟩
    have HS1 : Hid _ := s1
    have HU3 : Hid (Up w2 w3) := u3
    clear s1 u3
    go_wp2_with fail
    obtain ⟨wa, hwa⟩ : ∃ wa, wa = w3.alloc (.cells #[.pointer a0, .pointer a1] 26) := ⟨_, rfl⟩
    have HUa : Hid (Up w3 wa) := by unfold Hid; rw [hwa]; exact (Up.refl _).alloc _
    have ha3 : wa.heap[w3.heap.size]? = some (.cells #[.pointer a0, .pointer a1] 26 (0, 0)) := by rw [hwa]; exact heap_alloc_new w3 _
    obtain ⟨sa, hsa⟩ : ∃ sa, sa = w3.heap.size := ⟨_, rfl⟩
    rw [← hsa] at ha3
    rw [← hwa, ← hsa]
    have HSA : Hid (sa = w3.heap.size) := hsa
    clear hwa hsa
    refine Calls.mono (HRS.out _ _) ?_
    rintro e w4 ⟨c0, rfl, s2, u4⟩
    have HR0 : Hid _ := s2
    have HU4 : Hid (Up wa w4) := u4
    clear s2 u4
    go_wp2_with fail
    refine Calls.mono (HRS.out _ _) ?_
    rintro e w5 ⟨c1, rfl, s3, u5⟩
    have HR1 : Hid _ := s3
    have HU5 : Hid (Up w4 w5) := u5
    clear s3 u5
    have h35 : w5.heap[sa]? = some (.cells #[.pointer a0, .pointer a1] 26 (0, 0)) := (HU4.out.trans HU5.out).heap ha3
    obtain ⟨ra, hra⟩ : ∃ ra, ra = w5.heap.size := ⟨_, rfl⟩
    have u6 : Up w5 (w5.alloc (.cells #[.pointer c0, .pointer c1] 29)) := (Up.refl _).alloc _
    have h36 := u6.heap h35
    have h56 : (w5.alloc (.cells #[.pointer c0, .pointer c1] 29)).heap[ra]? = some (.cells #[.pointer c0, .pointer c1] 29 (0, 0)) := by rw [hra]; exact heap_alloc_new w5 _
    have x0 : (w5.alloc (.cells #[.pointer c0, .pointer c1] 29)).cell? ⟨sa, 0, none⟩ = some (.pointer a0) := by simp [World.cell?, h36]
    have x1 : (w5.alloc (.cells #[.pointer c0, .pointer c1] 29)).cell? ⟨sa, 1, none⟩ = some (.pointer a1) := by simp [World.cell?, h36]
    have HRA : Hid (ra = w5.heap.size) := hra
    have H36 : Hid _ := h36
    have H56 : Hid _ := h56
    clear h36 h56 u6 hra
    have e0 : (a0.isNone == c0.isNone) = true := none_alike HS0.out.1 HR0.out.1
    have e1 : (a1.isNone == c1.isNone) = true := none_alike HS1.out.1 HR1.out.1
    have HJ : Hid (JJ w (w5.heap.size + 1) sa w5.heap.size a0 a1 c0 c1 0 ((w5.alloc (.cells #[.pointer c0, .pointer c1] 29)).alloc (.cells #[.slice none 0 0] 30))) := by
      have ub : Up (w5.alloc (.cells #[.pointer c0, .pointer c1] 29)) ((w5.alloc (.cells #[.pointer c0, .pointer c1] 29)).alloc (.cells #[.slice none 0 0] 30)) := (Up.refl _).alloc _
      refine start_ HU1.out HU2.out HU3.out HUa.out HU4.out HU5.out (((Up.refl _).alloc _).alloc _) HS0.out HS1.out HR0.out HR1.out (ub.heap H36.out) (ub.heap (by rw [← HRA.out]; exact H56.out)) ?_
      have := heap_alloc_new (w5.alloc (.cells #[.pointer c0, .pointer c1] 29)) (.cells #[.slice none 0 0] 30)
      simpa using this
    have HB : Hid (w.heap.size ≤ w5.heap.size + 1) := by
      have z1 := HU1.out.size; have z2 := HU2.out.size; have z3 := HU3.out.size; have za := HUa.out.size; have z4 := HU4.out.size; have z5 := HU5.out.size
      unfold Hid; omega
    go_wp2_with fail
    obtain ⟨hb, hhb⟩ : ∃ hb, hb = w5.heap.size + 1 := ⟨_, rfl⟩
    rw [← hhb] at HJ HB
    simp only [← hhb]
    rw [← HRA.out] at HJ ⊢
    clear HS0 HS1 HR0 HR1 HNS HRS HW HU2 HU3 HUa HU4 HU5 H36 H56 x0 x1 e0 e1 ha3 h35 HSA hhb HRA
    go_loopw [11] (fun s11 W => ∃ i : Nat, i ≤ n ∧ s11 = .int .i64 i ∧ JJ w hb sa ra a0 a1 c0 c1 i W) (fun s11 _ => n - (intOf s11).toNat)
    case atStart => exact ⟨0, Nat.zero_le _, rfl, HJ.out⟩
    case round =>
      obtain ⟨i, hi, rfl, hj⟩ := hrel
      clear HJ
      have HJ : Hid _ := hj
      by_cases hlt : i < n
      · have hlt2 : (i : Int) < (n : Int) := by omega
        obtain ⟨⟨x0, x1⟩, y0, y1⟩ := hj.cells
        have hup : Up w wr := by
          obtain ⟨_, _, _, _, _, -, -, -, -, u⟩ := hj
          exact u
        obtain ⟨b, off, rfl, k0, k1, k2⟩ := OP.ol_at HV.out hup i hlt
        clear hj hup
        obtain ⟨o, ho⟩ : ∃ o, o = l.getD i OP.dOp := ⟨_, rfl⟩
        rw [← ho] at k0 k1 k2
        clear ho
        obtain ⟨kd, on, nn⟩ := o
        go_wp2_with fail
        have hkv := on_one on
        obtain ⟨kv, hkv'⟩ : ∃ kv, kv = bits .and .i64 on 1 := ⟨_, rfl⟩
        simp only [← hkv'] at hkv ⊢
        clear hkv'
        have HC0 : Hid _ := @JJ.zero
        have HC1 : Hid _ := @JJ.one
        rcases hkv with rfl | rfl
        · refine TailR.wp_region_seq 10 (by kernel_rfl) (by kernel_rfl) ?_
          simp only [List.take_succ_cons, List.take_zero, List.drop_succ_cons, List.drop_zero]
          repeat (go_big_quiet_step (fail))
          refine wpQuiet_nil ?_
          intro _ hw'
          obtain ⟨nq, hw''⟩ := hw'
          subst hw''
          go_wp2_with fail
          refine Calls.mono (HC0.out HB.out (by omega) kd on nn (JJ.up HJ.out ((Up.refl _).drewN nq))) ?_
          rintro e w7 ⟨rfl, j7⟩
          have HJ7 : Hid _ := j7
          clear j7
          go_wp2_with fail
          go_roundw
          case rel => exact ⟨i + 1, by omega, by go_num, HJ7.out⟩
          case measure => simp [intOf] <;> omega
        · refine TailR.wp_region_seq 10 (by kernel_rfl) (by kernel_rfl) ?_
          simp only [List.take_succ_cons, List.take_zero, List.drop_succ_cons, List.drop_zero]
          repeat (go_big_quiet_step (fail))
          refine wpQuiet_nil ?_
          intro _ hw'
          obtain ⟨nq, hw''⟩ := hw'
          subst hw''
          go_wp2_with fail
          refine Calls.mono (HC1.out HB.out (by omega) kd on nn (JJ.up HJ.out ((Up.refl _).drewN nq))) ?_
          rintro e w7 ⟨rfl, j7⟩
          have HJ7 : Hid _ := j7
          clear j7
          go_wp2_with fail
          go_roundw
          case rel => exact ⟨i + 1, by omega, by go_num, HJ7.out⟩
          case measure => simp [intOf] <;> omega
      · have hlt2 : ¬ (i : Int) < (n : Int) := by omega
        obtain ⟨ha, m, hcap, ⟨m1, m2, m3, m4⟩, ⟨z0, zf⟩, hend⟩ := JJ.fin HJ.out HB.out (by omega)
        have HE : Hid _ := hend
        clear hend hj HJ
        by_cases h40 : (40 : Int) < (m : Int)
        · obtain ⟨g, rfl⟩ := m4 (by omega)
          go_wp2_with fail
          refine Calls.mono (HE.out 40 _ (by omega) (by omega) (.inr rfl)) ?_
          rintro e w7 ⟨rfl, ff⟩
          have HF : Hid _ := ff
          clear ff HE z0 zf
          go_wp2_with fail
          go_loopw [13] (fun s13 W => ∃ k : Nat, k ≤ 2 ∧ s13 = .int .i64 k ∧ Up w7 W) (fun s13 _ => 2 - (intOf s13).toNat)
          case atStart => exact ⟨0, by omega, rfl, Up.refl _⟩
          case round =>
            obtain ⟨k, hk, rfl, hu7⟩ := hrel
            have HU7 : Hid (Up w7 wr) := hu7
            have ff := FF.up HF.out hu7
            clear hu7
            have HQ : Hid _ := ff
            obtain ⟨⟨x0, x1⟩, y0, y1⟩ := ff.cells
            clear ff
            by_cases hk2 : k < 2
            · have hk3 : (k : Int) < 2 := by omega
              rcases (show k = 0 ∨ k = 1 by omega) with rfl | rfl
              · obtain ⟨o0, o1, ⟨f0, f1⟩, ⟨p0, p1, p2, p3⟩, -, -⟩ := HQ.out
                have HG : Hid _ := f0
                clear f0 f1
                cases o0 with
                | none =>
                  simp only [ps, pr, Value.pointer.injEq] at p0 p1
                  rw [← p0] at x0
                  rw [← p1] at y0
                  clear p0 p1 p2 p3
                  go_wp2_with fail
                  go_quiet (fail)
                  go_wp2_with fail
                  go_roundw
                  case rel => exact ⟨0 + 1, by omega, by go_num, HU7.out.drewN _⟩
                  case measure => simp [intOf] <;> omega
                | some g =>
                  simp only [ps, pr, Value.pointer.injEq] at p0 p1
                  rw [← p0] at x0
                  rw [← p1] at y0
                  clear p0 p1 p2 p3
                  obtain ⟨hD, hS, hC⟩ := last_facts (HG.out g rfl) (by omega)
                  have HD : Hid _ := hD
                  have HSm : Hid _ := hS
                  have HC : Hid _ := hC
                  have z1 := hC wr (Up.refl _)
                  clear hD hS hC
                  go_wp2_with fail
                  refine (fun key : ∀ (x8 : Value) W8, Up wr W8 → (?G0r : Value → World → Prop) x8 W8 => ?main0r) ?kp0r
                  case main0r =>
                    go_region_with (first
                      | (go_at_call 11; go_loud (refine Calls.mono (HD.out _ (by first | exact (Up.refl _).drew | exact Up.refl _)) ?_; rintro e W9 ⟨x, rfl, lx, u9⟩; have U9 : Hid (Up wr W9) := Up.trans (by first | exact (Up.refl _).drew | exact Up.refl _) u9; have L9 : Hid _ := lx; have z2 := HC.out W9 U9.out; have z3 := U9.out.cell y0; clear lx u9))
                      | (go_at_call 10; refine Calls.mono (HSm.out _ _ U9.out L9.out) ?_; rintro e W8 ⟨rfl, u8⟩; have U8 : Hid (Up wr W8) := U9.out.trans u8; clear u8))
                    all_goals exact key x W8 U8.out
                  case kp0r =>
                    intro x8 W8 hu8
                    have HU8 : Hid (Up w7 W8) := HU7.out.trans hu8
                    clear hu8
                    go_wp2_with fail
                    go_roundw
                    case rel => exact ⟨0 + 1, by omega, by go_num, HU8.out⟩
                    case measure => simp [intOf] <;> omega
              · obtain ⟨o0, o1, ⟨f0, f1⟩, ⟨p0, p1, p2, p3⟩, -, -⟩ := HQ.out
                have HG : Hid _ := f1
                clear f0 f1
                cases o1 with
                | none =>
                  simp only [ps, pr, Value.pointer.injEq] at p2 p3
                  rw [← p2] at x1
                  rw [← p3] at y1
                  clear p0 p1 p2 p3
                  go_wp2_with fail
                  go_quiet (fail)
                  go_wp2_with fail
                  go_roundw
                  case rel => exact ⟨1 + 1, by omega, by go_num, HU7.out.drewN _⟩
                  case measure => simp [intOf] <;> omega
                | some g =>
                  simp only [ps, pr, Value.pointer.injEq] at p2 p3
                  rw [← p2] at x1
                  rw [← p3] at y1
                  clear p0 p1 p2 p3
                  obtain ⟨hD, hS, hC⟩ := last_facts (HG.out g rfl) (by omega)
                  have HD : Hid _ := hD
                  have HSm : Hid _ := hS
                  have HC : Hid _ := hC
                  have z1 := hC wr (Up.refl _)
                  clear hD hS hC
                  go_wp2_with fail
                  refine (fun key : ∀ (x8 : Value) W8, Up wr W8 → (?G1r : Value → World → Prop) x8 W8 => ?main1r) ?kp1r
                  case main1r =>
                    go_region_with (first
                      | (go_at_call 11; go_loud (refine Calls.mono (HD.out _ (by first | exact (Up.refl _).drew | exact Up.refl _)) ?_; rintro e W9 ⟨x, rfl, lx, u9⟩; have U9 : Hid (Up wr W9) := Up.trans (by first | exact (Up.refl _).drew | exact Up.refl _) u9; have L9 : Hid _ := lx; have z2 := HC.out W9 U9.out; have z3 := U9.out.cell y1; clear lx u9))
                      | (go_at_call 10; refine Calls.mono (HSm.out _ _ U9.out L9.out) ?_; rintro e W8 ⟨rfl, u8⟩; have U8 : Hid (Up wr W8) := U9.out.trans u8; clear u8))
                    all_goals exact key x W8 U8.out
                  case kp1r =>
                    intro x8 W8 hu8
                    have HU8 : Hid (Up w7 W8) := HU7.out.trans hu8
                    clear hu8
                    go_wp2_with fail
                    go_roundw
                    case rel => exact ⟨1 + 1, by omega, by go_num, HU8.out⟩
                    case measure => simp [intOf] <;> omega
            · have hk3 : ¬ (k : Int) < 2 := by omega
              have hup : Up w wr := by
                obtain ⟨_, _, -, -, -, u⟩ := HQ.out
                exact u
              have HUP : Hid (Up w wr) := hup
              have hpl : LIS.StackAt (wr.alloc (.cells #[.slice none 0 0, .int .i64 0, .int .i64 0] 42)) wr.heap.size (wr.heap.size + 1) (.slice none 0 0) [] 0 0 := ⟨heap_alloc_new wr _, World.ownsRow_nil _ _ _ _, Nat.lt_succ_self _, Nat.le_refl _⟩
              have HPL : Hid _ := hpl
              clear hup hpl
              go_wp2_with fail
              refine Calls.mono (LIS.undo_none _ _ _ _ _ _ HPL.out) ?_
              rintro e W1 ⟨rfl, v1⟩
              have HV1 : Hid _ := v1
              have HP1 : Hid (LIS.StackAt W1 wr.heap.size (wr.heap.size + 1) (.slice none 0 0) [] 0 0) := LIS.StackAt.up HPL.out v1
              clear v1
              go_wp2_with fail
              refine Calls.mono (LIS.redo_none _ _ _ ([] : List Int) _ _ HP1.out) ?_
              rintro e W2 ⟨rfl, v2⟩
              have HV2 : Hid _ := v2
              have HP2 : Hid (LIS.StackAt W2 wr.heap.size (wr.heap.size + 1) (.slice none 0 0) [] 0 0) := LIS.StackAt.up HP1.out v2
              clear v2
              go_wp2_with fail
              refine Calls.mono (LIS.len_ _ _ _ ([] : List Int) 0 _ _ HP2.out (by simp)) ?_
              rintro e W3 ⟨rfl, v3⟩
              have HV3 : Hid _ := v3
              have HP3 : Hid (LIS.StackAt W3 wr.heap.size (wr.heap.size + 1) (.slice none 0 0) [] 0 0) := LIS.StackAt.up HP2.out v3
              clear v3
              go_wp2_with fail
              refine Calls.mono (LIS.done_ _ _ _ ([] : List Int) 0 _ _ HP3.out (by simp)) ?_
              rintro e W4 ⟨rfl, -, v4⟩
              have HV4 : Hid _ := v4
              have HP4 : Hid (LIS.StackAt W4 wr.heap.size (wr.heap.size + 1) (.slice none 0 0) [] 0 0) := LIS.StackAt.up HP3.out v4
              clear v4
              go_wp2_with fail
              refine Calls.mono (LIS.do_full _ _ _ ([] : List Int) 0 _ 5 _ HP4.out (by simp)) ?_
              rintro e W5 ⟨rfl, v5⟩
              have HV5 : Hid _ := v5
              clear v5
              go_wp2
              rw [HPost.out]
              exact ⟨rfl, ((((((HUP.out.alloc _).trans HV1.out).trans HV2.out).trans HV3.out).trans HV4.out).trans HV5.out)⟩
        · go_wp2_with fail
          refine Calls.mono (HE.out m _ (by omega) (by omega) (.inl rfl)) ?_
          rintro e w7 ⟨rfl, ff⟩
          have HF : Hid _ := ff
          clear ff HE z0 zf
          go_wp2_with fail
          go_loopw [13] (fun s13 W => ∃ k : Nat, k ≤ 2 ∧ s13 = .int .i64 k ∧ Up w7 W) (fun s13 _ => 2 - (intOf s13).toNat)
          case atStart => exact ⟨0, by omega, rfl, Up.refl _⟩
          case round =>
            obtain ⟨k, hk, rfl, hu7⟩ := hrel
            have HU7 : Hid (Up w7 wr) := hu7
            have ff := FF.up HF.out hu7
            clear hu7
            have HQ : Hid _ := ff
            obtain ⟨⟨x0, x1⟩, y0, y1⟩ := ff.cells
            clear ff
            by_cases hk2 : k < 2
            · have hk3 : (k : Int) < 2 := by omega
              rcases (show k = 0 ∨ k = 1 by omega) with rfl | rfl
              · obtain ⟨o0, o1, ⟨f0, f1⟩, ⟨p0, p1, p2, p3⟩, -, -⟩ := HQ.out
                have HG : Hid _ := f0
                clear f0 f1
                cases o0 with
                | none =>
                  simp only [ps, pr, Value.pointer.injEq] at p0 p1
                  rw [← p0] at x0
                  rw [← p1] at y0
                  clear p0 p1 p2 p3
                  go_wp2_with fail
                  go_quiet (fail)
                  go_wp2_with fail
                  go_roundw
                  case rel => exact ⟨0 + 1, by omega, by go_num, HU7.out.drewN _⟩
                  case measure => simp [intOf] <;> omega
                | some g =>
                  simp only [ps, pr, Value.pointer.injEq] at p0 p1
                  rw [← p0] at x0
                  rw [← p1] at y0
                  clear p0 p1 p2 p3
                  obtain ⟨hD, hS, hC⟩ := last_facts (HG.out g rfl) (by omega)
                  have HD : Hid _ := hD
                  have HSm : Hid _ := hS
                  have HC : Hid _ := hC
                  have z1 := hC wr (Up.refl _)
                  clear hD hS hC
                  go_wp2_with fail
                  refine (fun key : ∀ (x8 : Value) W8, Up wr W8 → (?G0l : Value → World → Prop) x8 W8 => ?main0l) ?kp0l
                  case main0l =>
                    go_region_with (first
                      | (go_at_call 11; go_loud (refine Calls.mono (HD.out _ (by first | exact (Up.refl _).drew | exact Up.refl _)) ?_; rintro e W9 ⟨x, rfl, lx, u9⟩; have U9 : Hid (Up wr W9) := Up.trans (by first | exact (Up.refl _).drew | exact Up.refl _) u9; have L9 : Hid _ := lx; have z2 := HC.out W9 U9.out; have z3 := U9.out.cell y0; clear lx u9))
                      | (go_at_call 10; refine Calls.mono (HSm.out _ _ U9.out L9.out) ?_; rintro e W8 ⟨rfl, u8⟩; have U8 : Hid (Up wr W8) := U9.out.trans u8; clear u8))
                    all_goals exact key x W8 U8.out
                  case kp0l =>
                    intro x8 W8 hu8
                    have HU8 : Hid (Up w7 W8) := HU7.out.trans hu8
                    clear hu8
                    go_wp2_with fail
                    go_roundw
                    case rel => exact ⟨0 + 1, by omega, by go_num, HU8.out⟩
                    case measure => simp [intOf] <;> omega
              · obtain ⟨o0, o1, ⟨f0, f1⟩, ⟨p0, p1, p2, p3⟩, -, -⟩ := HQ.out
                have HG : Hid _ := f1
                clear f0 f1
                cases o1 with
                | none =>
                  simp only [ps, pr, Value.pointer.injEq] at p2 p3
                  rw [← p2] at x1
                  rw [← p3] at y1
                  clear p0 p1 p2 p3
                  go_wp2_with fail
                  go_quiet (fail)
                  go_wp2_with fail
                  go_roundw
                  case rel => exact ⟨1 + 1, by omega, by go_num, HU7.out.drewN _⟩
                  case measure => simp [intOf] <;> omega
                | some g =>
                  simp only [ps, pr, Value.pointer.injEq] at p2 p3
                  rw [← p2] at x1
                  rw [← p3] at y1
                  clear p0 p1 p2 p3
                  obtain ⟨hD, hS, hC⟩ := last_facts (HG.out g rfl) (by omega)
                  have HD : Hid _ := hD
                  have HSm : Hid _ := hS
                  have HC : Hid _ := hC
                  have z1 := hC wr (Up.refl _)
                  clear hD hS hC
                  go_wp2_with fail
                  refine (fun key : ∀ (x8 : Value) W8, Up wr W8 → (?G1l : Value → World → Prop) x8 W8 => ?main1l) ?kp1l
                  case main1l =>
                    go_region_with (first
                      | (go_at_call 11; go_loud (refine Calls.mono (HD.out _ (by first | exact (Up.refl _).drew | exact Up.refl _)) ?_; rintro e W9 ⟨x, rfl, lx, u9⟩; have U9 : Hid (Up wr W9) := Up.trans (by first | exact (Up.refl _).drew | exact Up.refl _) u9; have L9 : Hid _ := lx; have z2 := HC.out W9 U9.out; have z3 := U9.out.cell y1; clear lx u9))
                      | (go_at_call 10; refine Calls.mono (HSm.out _ _ U9.out L9.out) ?_; rintro e W8 ⟨rfl, u8⟩; have U8 : Hid (Up wr W8) := U9.out.trans u8; clear u8))
                    all_goals exact key x W8 U8.out
                  case kp1l =>
                    intro x8 W8 hu8
                    have HU8 : Hid (Up w7 W8) := HU7.out.trans hu8
                    clear hu8
                    go_wp2_with fail
                    go_roundw
                    case rel => exact ⟨1 + 1, by omega, by go_num, HU8.out⟩
                    case measure => simp [intOf] <;> omega
            · have hk3 : ¬ (k : Int) < 2 := by omega
              have hup : Up w wr := by
                obtain ⟨_, _, -, -, -, u⟩ := HQ.out
                exact u
              have HUP : Hid (Up w wr) := hup
              have hpl : LIS.StackAt (wr.alloc (.cells #[.slice none 0 0, .int .i64 0, .int .i64 0] 42)) wr.heap.size (wr.heap.size + 1) (.slice none 0 0) [] 0 0 := ⟨heap_alloc_new wr _, World.ownsRow_nil _ _ _ _, Nat.lt_succ_self _, Nat.le_refl _⟩
              have HPL : Hid _ := hpl
              clear hup hpl
              go_wp2_with fail
              refine Calls.mono (LIS.undo_none _ _ _ _ _ _ HPL.out) ?_
              rintro e W1 ⟨rfl, v1⟩
              have HV1 : Hid _ := v1
              have HP1 : Hid (LIS.StackAt W1 wr.heap.size (wr.heap.size + 1) (.slice none 0 0) [] 0 0) := LIS.StackAt.up HPL.out v1
              clear v1
              go_wp2_with fail
              refine Calls.mono (LIS.redo_none _ _ _ ([] : List Int) _ _ HP1.out) ?_
              rintro e W2 ⟨rfl, v2⟩
              have HV2 : Hid _ := v2
              have HP2 : Hid (LIS.StackAt W2 wr.heap.size (wr.heap.size + 1) (.slice none 0 0) [] 0 0) := LIS.StackAt.up HP1.out v2
              clear v2
              go_wp2_with fail
              refine Calls.mono (LIS.len_ _ _ _ ([] : List Int) 0 _ _ HP2.out (by simp)) ?_
              rintro e W3 ⟨rfl, v3⟩
              have HV3 : Hid _ := v3
              have HP3 : Hid (LIS.StackAt W3 wr.heap.size (wr.heap.size + 1) (.slice none 0 0) [] 0 0) := LIS.StackAt.up HP2.out v3
              clear v3
              go_wp2_with fail
              refine Calls.mono (LIS.done_ _ _ _ ([] : List Int) 0 _ _ HP3.out (by simp)) ?_
              rintro e W4 ⟨rfl, -, v4⟩
              have HV4 : Hid _ := v4
              have HP4 : Hid (LIS.StackAt W4 wr.heap.size (wr.heap.size + 1) (.slice none 0 0) [] 0 0) := LIS.StackAt.up HP3.out v4
              clear v4
              go_wp2_with fail
              refine Calls.mono (LIS.do_full _ _ _ ([] : List Int) 0 _ 5 _ HP4.out (by simp)) ?_
              rintro e W5 ⟨rfl, v5⟩
              have HV5 : Hid _ := v5
              clear v5
              go_wp2
              rw [HPost.out]
              exact ⟨rfl, ((((((HUP.out.alloc _).trans HV1.out).trans HV2.out).trans HV3.out).trans HV4.out).trans HV5.out)⟩
end DS
end Go.Proofs.Ytgonflnmkfgfhaa
