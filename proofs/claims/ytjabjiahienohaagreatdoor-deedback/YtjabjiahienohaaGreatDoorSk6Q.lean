/-
  sameCards.
-/
import Derived.Test.YtjabjiahienohaaGreatDoorDr6Q
import Derived.Test.YtjabjiahienohaaGreatDoorGeQ
import Derived.Test.YtjabjiahienohaaGreatDoorSzToCe6
import Derived.Test.YtjabjiahienohaaGreatDoorCf6ToRf
namespace Go.Proofs.YtjabjiahienohaaGreatDoor
open Go.RowKit
attribute [local go_sem ↓] Go.wp_at_zero Go.wp_at_succ

namespace DE
open Go.Proofs.YtjabjiahienohaaGreatDoor.ST
def seenL (l : List Int) (k n : Nat) : List Value := (List.range n).map fun j : Nat => Value.bool (decide ((j : Int) ∈ l.take k))
theorem seenL_len (l : List Int) (k n : Nat) : (seenL l k n).length = n := by simp [seenL]
theorem seenL_get (l : List Int) (k n j : Nat) (hj : j < n) : (seenL l k n)[j]? = some (.bool (decide ((j : Int) ∈ l.take k))) := by simp [seenL, hj]
theorem seenL_set (l : List Int) (k n e : Nat) (he : l[k]? = some (e : Int)) : (seenL l k n).set e (.bool true) = seenL l (k + 1) n := by
  apply List.ext_getElem?
  intro j
  by_cases hj : j < n
  · rw [seenL_get _ _ _ _ hj]
    have ht : l.take (k + 1) = l.take k ++ [(e : Int)] := by rw [List.take_add_one, he]; rfl
    by_cases h : e = j
    · subst h
      rw [List.getElem?_set_self (by rw [seenL_len]; exact hj), ht]
      simp
    · rw [List.getElem?_set_ne h, seenL_get _ _ _ _ hj, ht]
      have : ((j : Int) ∈ l.take k ++ [(e : Int)]) ↔ (j : Int) ∈ l.take k := by simp; omega
      simp [this]
  · rw [List.getElem?_eq_none (by rw [List.length_set, seenL_len]; omega), List.getElem?_eq_none (by rw [seenL_len]; omega)]
theorem seenL_zero (l : List Int) (n : Nat) : seenL l 0 n = List.replicate n (.bool false) := by
  apply List.ext_getElem?
  intro j
  by_cases hj : j < n
  · rw [seenL_get _ _ _ _ hj]
    simp [hj]
  · rw [List.getElem?_eq_none (by rw [seenL_len]; omega), List.getElem?_eq_none (by simp; omega)]
theorem infoB6 : (Tryz.prog.info? 4).map (fun i => (i.zero, i.size, i.bytes)) = some (some (.bool false), 1, 1) := by kernel_rfl
/- the entries so far -/
def SKI (w W : World) (b0 b1 gs : Nat) (x0 x1 : Array Value) (l : List Int) (n k : Nat) : Prop := W.heap[b0]? = some (.cells x0 27 (0, 0)) ∧ W.heap[b1]? = some (.cells x1 27 (0, 0)) ∧ W.heap[gs]? = some (.cells (seenL l k n).toArray 4 (0, 0)) ∧ Up w W
set_option maxRecDepth 100000 in
set_option maxHeartbeats 8000000 in
theorem sameCards_ (v u : Value) (s t : Stt) (w : World) (hv : StL w v s) (hu : StL w u t) (hok : ff t = none) (hk : Keeps s t) :
    Calls Tryz.prog 45 #[v, u] w fun e w' => e = .returned (.bool true) ∧ Up w w' := by
  obtain ⟨iT, hiT, z0, z1, z2⟩ := info_parts infoB6
  obtain ⟨hk1, hk2, hk3⟩ := hk
  obtain ⟨hrest, hent, hfl⟩ := (ff_none t).1 hok
  have hm : t.cs.length ≤ 256 := by
    have h0 := hrest.1
    unfold sizesB ncB at h0
    simp only [Bool.and_eq_true, decide_eq_true_eq] at h0
    exact h0.1.2.2
  have hzz : t.zs.length ≤ 16 := by
    have h0 := hrest.1
    unfold sizesB npB at h0
    simp only [Bool.and_eq_true, decide_eq_true_eq] at h0
    omega
  obtain ⟨vp, vc, vz, rfl, h1, h2, h3⟩ := hv
  obtain ⟨up, uc, uz, rfl, g1, g2, g3⟩ := hu
  obtain ⟨a1, k1, rfl, -, -⟩ := lc_at h1
  obtain ⟨a2, k2, rfl, -, hc2⟩ := cl_at h2
  obtain ⟨a3, k3, rfl, -, -⟩ := zl_at h3
  obtain ⟨b1, l1, rfl, -, -⟩ := lc_at g1
  obtain ⟨b2, l2, rfl, -, hd2⟩ := cl_at g2
  obtain ⟨b3, l3, rfl, -, hd3⟩ := zl_at g3
  have H2 : Hid _ := hc2
  have H3 : Hid _ := hd2
  have H4 : Hid _ := hd3
  rw [hk1] at H3 hm hent hfl ⊢
  rw [hk2] at hzz H4 ⊢
  have HL : Hid (Ent s.cs.length t.zs.flatten ∧ t.zs.flatten.length = s.cs.length ∧ s.zs.length = t.zs.length) := ⟨hent, hfl, hk2.symm⟩
  have HK : Hid _ := hk3
  obtain ⟨nc, hnc⟩ : ∃ n, n = s.cs.length := ⟨_, rfl⟩
  obtain ⟨nz, hnz⟩ : ∃ n, n = s.zs.length := ⟨_, rfl⟩
  rw [← hnc] at H2 H3 HL HK hm ⊢
  rw [← hnz] at H4 HL hzz ⊢
  unfold sv
  generalize s.ps.length = np at *
  generalize t.ps.length = np2 at *
  generalize s.turn = tu at *
  generalize t.turn = tu2 at *
  generalize s.whose = wo at *
  generalize t.whose = wo2 at *
  generalize s.fin = fi at *
  generalize t.fin = fi2 at *
  generalize s.winner = wi at *
  generalize t.winner = wi2 at *
  clear hc2 hd2 hd3 h1 h2 h3 g1 g2 g3 hk1 hk2 hk3 hent hfl hrest hok hnc hnz
  obtain ⟨x0, hx0⟩ : ∃ x : Array Value, x = #[.slice a1 np k1, .slice a2 nc k2, .slice a3 nz k3, .int .i32 tu, .int .i64 wo, .int .i8 fi, .int .i64 wi] := ⟨_, rfl⟩
  obtain ⟨x1, hx1⟩ : ∃ x : Array Value, x = #[.slice b1 np2 l1, .slice b2 nc l2, .slice b3 nz l3, .int .i32 tu2, .int .i64 wo2, .int .i8 fi2, .int .i64 wi2] := ⟨_, rfl⟩
  have HX : Hid _ := And.intro hx0 hx1
  have hb0 : ((w.alloc (.cells x0 27)).alloc (.cells x1 27)).heap[w.heap.size]? = some (.cells x0 27 (0, 0)) := heap_alloc2_old _ _ _
  have hb1 : ((w.alloc (.cells x0 27)).alloc (.cells x1 27)).heap[w.heap.size + 1]? = some (.cells x1 27 (0, 0)) := heap_alloc2_new _ _ _
  rw [hx0, hx1] at hb0 hb1
  have hsz2 : ((w.alloc (.cells x0 27)).alloc (.cells x1 27)).heap.size = w.heap.size + 1 + 1 := by simp
  rw [hx0, hx1] at hsz2
  clear hx0 hx1
  go_enter Tryz.func45, Tryz.ntmps45
  go_wp2_with (at_make; refine wpList_make_full _ rfl _ _ 123 rfl (w.heap.size + 1 + 1) 4 iT (.bool false) 1 Tryz.underlying123 hiT z0 z1 .i64 .i64 _ _ nc rfl rfl rfl rfl (by rw [z2]; omega) (by unfold maxLen; omega) (by simp) ?_; intro w1 hin hg1; have uu := made_up hg1; have HM : Hid _ := And.intro uu hin; have e0 := uu.heap hb0; have e1 := uu.heap hb1; obtain ⟨q0, q1, q2, q3, q4, q5, q6⟩ := seven_cells e0; obtain ⟨p0, p1, p2, p3, p4, p5, p6⟩ := seven_cells e1; clear hin hg1 uu)
  obtain ⟨uu, hin⟩ := HM.out
  rw [hsz2] at hin
  have hrow := row_made hin
  rw [show (madeCells (Value.bool false).cells (nc * 1)).toList = List.replicate nc (Value.bool false) from by rw [Nat.mul_one]; exact toList_madeCells_one _ _, ← seenL_zero t.zs.flatten nc] at hrow
  obtain ⟨gs, hgs⟩ : ∃ g, g = w.heap.size + 1 + 1 := ⟨_, rfl⟩
  have HI : Hid (SKI w w1 w.heap.size (w.heap.size + 1) gs x0 x1 t.zs.flatten nc 0) := by
    refine ⟨by rw [HX.out.1]; exact e0, by rw [HX.out.2]; exact e1, by rw [hgs]; exact hrow, ?_⟩
    exact (((Up.refl _).alloc _).alloc _).trans uu
  rw [← hgs]
  have HG : Hid (w.heap.size + 1 < gs) := by unfold Hid; omega
  clear hin hrow uu HM e0 e1 hb0 hb1 hsz2 hgs q0 q1 q2 q3 q4 q5 q6 p0 p1 p2 p3 p4 p5 p6
  go_loopw [6, 7] (fun s6 s7 W => ∃ z : Nat, z ≤ nz ∧ s7 = .int .i64 z ∧ s6 = .int .i64 ((t.zs.take z).flatten.length : Nat) ∧ SKI w W w.heap.size (w.heap.size + 1) gs x0 x1 t.zs.flatten nc (t.zs.take z).flatten.length) (fun _ s7 _ => nz - (intOf s7).toNat)
  case atStart => exact ⟨0, Nat.zero_le _, rfl, by simp, by simpa using HI.out⟩
  case round =>
    clear HI
    obtain ⟨z, hz, rfl, rfl, hski⟩ := hrel
    have HS : Hid _ := hski
    obtain ⟨i0, i1, -, iu⟩ := hski
    rw [HX.out.1] at i0
    rw [HX.out.2] at i1
    obtain ⟨q0, q1, q2, q3, q4, q5, q6⟩ := seven_cells i0
    obtain ⟨p0, p1, p2, p3, p4, p5, p6⟩ := seven_cells i1
    have HIU : Hid _ := iu
    clear iu
    by_cases hlt : z < nz
    · have hlt2 : (z : Int) < (nz : Int) := by omega
      obtain ⟨zb, zo, rfl, hzr⟩ := H4.out (by omega)
      obtain ⟨ra, rc, hcz, hil⟩ := hzr z (by omega)
      obtain ⟨ra', rc', hx, -, hcell⟩ := il_at hil
      simp only [Value.slice.injEq, true_and] at hx
      obtain ⟨rfl, rfl⟩ := hx
      have HCZ : Hid _ := hcz
      have HCE : Hid _ := hcell
      have hq256 : (t.zs.getD z []).length ≤ 256 := by
        have h1 := row_flat t.zs z (by rw [← HL.out.2.2]; exact hlt)
        have h2 := HL.out.2.1
        omega
      have hnext := flat_next t.zs z (by rw [← HL.out.2.2]; exact hlt)
      have hflat := flat_at t.zs z
      have HFA : Hid (∀ i, i < (t.zs.getD z []).length → t.zs.flatten[(t.zs.take z).flatten.length + i]? = some ((t.zs.getD z []).getD i 0)) := fun i hi => hflat i (by rw [← HL.out.2.2]; exact hlt) hi
      obtain ⟨k0, hk0⟩ : ∃ k, k = (t.zs.take z).flatten.length := ⟨_, rfl⟩
      rw [← hk0] at HS HFA hnext ⊢
      have HNX : Hid _ := hnext
      have hk0b : k0 ≤ nc := by
        have := off_le9 t.zs z
        have := HL.out.2.1
        omega
      clear hil hcz hcell hzr hnext hflat hk0
      have c0 := HCZ.out wr HIU.out
      obtain ⟨q, hq⟩ : ∃ q, q = (t.zs.getD z []).length := ⟨_, rfl⟩
      have HQ : Hid (q = (t.zs.getD z []).length) := hq
      rw [← hq] at c0 hq256 HCZ HCE HFA HNX
      clear hq
      go_wp2_with fail
      clear c0 q0 q1 q2 q3 q4 q5 q6 p0 p1 p2 p3 p4 p5 p6 i0 i1
      have HSS : Hid (∃ i : Nat, i ≤ q ∧ SKI w wr w.heap.size (w.heap.size + 1) gs x0 x1 t.zs.flatten nc (k0 + i) ∧ i = 0) := ⟨0, Nat.zero_le _, HS.out, rfl⟩
      clear HS HIU
      go_loopw [6, 8] (fun s6 s8 W => ∃ i : Nat, i ≤ q ∧ s8 = .int .i64 i ∧ s6 = .int .i64 (k0 + i : Nat) ∧ SKI w W w.heap.size (w.heap.size + 1) gs x0 x1 t.zs.flatten nc (k0 + i)) (fun _ s8 _ => q - (intOf s8).toNat)
      case atStart =>
        obtain ⟨i, h1, h2, rfl⟩ := HSS.out
        exact ⟨0, h1, rfl, rfl, h2⟩
      case round =>
        clear HSS
        obtain ⟨i, hi, rfl, rfl, hski⟩ := hrel
        have HS : Hid _ := hski
        obtain ⟨i0, i1, i2, iu⟩ := hski
        rw [HX.out.1] at i0
        rw [HX.out.2] at i1
        obtain ⟨q0, q1, q2, q3, q4, q5, q6⟩ := seven_cells i0
        obtain ⟨p0, p1, p2, p3, p4, p5, p6⟩ := seven_cells i1
        have c0 := HCZ.out _ iu
        by_cases hl : i < q
        · have hl2 : (i : Int) < (q : Int) := by omega
          obtain ⟨rb, ro, rfl, hce⟩ := HCE.out (by omega)
          have c1 := hce _ iu i (by omega)
          have hfa := HFA.out i hl
          have hmem : (t.zs.getD z []).getD i 0 ∈ t.zs.flatten := List.mem_of_getElem? hfa
          obtain ⟨e, he, hen⟩ := num_nat (HL.out.1.2 _ hmem)
          rw [he] at c1 hfa
          have hno : ¬ ((e : Int) ∈ t.zs.flatten.take (k0 + i)) := by
            intro hm
            obtain ⟨j, hj, hje⟩ := List.mem_iff_getElem.1 hm
            rw [List.getElem_take] at hje
            have hj2 : j < k0 + i := by rw [List.length_take] at hj; omega
            have hki : k0 + i < t.zs.flatten.length := (List.getElem?_eq_some_iff.1 hfa).1
            have h9 := nodup_at HL.out.1.1 (show j < t.zs.flatten.length by omega) hki (by rw [hje]; exact ((List.getElem?_eq_some_iff.1 hfa).2).symm)
            omega
          have s0 : wr.cell? ⟨gs, e, none⟩ = some (.bool false) := by
            rw [World.cell?, i2]
            have := seenL_get t.zs.flatten (k0 + i) nc e hen
            rw [decide_eq_false hno] at this
            simpa using this
          have sf : wr.frozen? ⟨gs, e, none⟩ = false := by simp [World.frozen?, i2]
          have HN : Hid (SKI w (wr.setCell ⟨gs, e, none⟩ (.bool true)) w.heap.size (w.heap.size + 1) gs x0 x1 t.zs.flatten nc (k0 + (i + 1))) := by
            obtain ⟨j0, j1, j2, ju⟩ := HS.out
            have hg := HG.out
            refine ⟨set_other j0 (by omega), set_other j1 (by omega), ?_, Up.set ju _ _ (by show w.heap.size ≤ gs; omega)⟩
            have h9 := set_cells (j := e) (x := .bool true) j2
            rw [h9, List.setIfInBounds_toArray, seenL_set _ _ _ _ hfa]
            rfl
          have hen2 : (e : Int) < (nc : Int) := by omega
          have hen3 : ¬ (nc : Int) ≤ (e : Int) := by omega
          have he0 : ¬ (e : Int) < 0 := by omega
          have hkn : k0 + i ≤ 256 := by
            have h1 := (List.getElem?_eq_some_iff.1 hfa).1
            have h2 := HL.out.2.1
            omega
          clear hce hfa hmem he hno i0 i1 i2 iu HS
          go_wp2_with fail
          go_roundw
          case rel => exact ⟨i + 1, by omega, by go_num, by go_num, HN.out⟩
          case measure => simp [intOf] <;> omega
        · have hl2 : ¬ (i : Int) < (q : Int) := by omega
          have hiq : i = q := by omega
          subst hiq
          have hkn : k0 + i ≤ 256 := by
            have h1 := off_le9 t.zs (z + 1)
            have h2 := HNX.out
            have h3 := HL.out.2.1
            omega
          clear i0 i1 i2 iu
          go_wp2_with fail
          go_roundw
          case rel =>
            refine ⟨z + 1, by omega, by go_num, ?_, ?_⟩
            · rw [HNX.out]
            · rw [HNX.out]; exact HS.out
          case measure => simp [intOf] <;> omega
    · have hlt2 : ¬ (z : Int) < (nz : Int) := by omega
      have hzn : z = nz := by omega
      have hall : (t.zs.take z).flatten.length = nc := by rw [hzn, List.take_of_length_le (by rw [HL.out.2.2]; exact Nat.le_refl _)]; exact HL.out.2.1
      rw [hall]
      have HI : Hid (wr.heap[w.heap.size]? = _ ∧ wr.heap[w.heap.size + 1]? = _ ∧ Up w wr) := ⟨i0, i1, HIU.out⟩
      clear HS i0 i1 hall HIU
      go_wp2_with fail
      clear q0 q1 q2 q3 q4 q5 q6 p0 p1 p2 p3 p4 p5 p6
      go_loopw [10] (fun s10 W => ∃ c : Nat, c ≤ nc ∧ s10 = .int .i64 c ∧ W.heap[w.heap.size]? = some (.cells #[.slice a1 np k1, .slice a2 nc k2, .slice a3 nz k3, .int .i32 tu, .int .i64 wo, .int .i8 fi, .int .i64 wi] 27 (0, 0)) ∧ W.heap[w.heap.size + 1]? = some (.cells #[.slice b1 np2 l1, .slice b2 nc l2, .slice b3 nz l3, .int .i32 tu2, .int .i64 wo2, .int .i8 fi2, .int .i64 wi2] 27 (0, 0)) ∧ Up w W) (fun s10 _ => nc - (intOf s10).toNat)
      case atStart => exact ⟨0, Nat.zero_le _, rfl, HI.out.1, HI.out.2.1, HI.out.2.2⟩
      case round =>
        clear HI
        obtain ⟨c, hc, rfl, i0, i1, iu⟩ := hrel
        obtain ⟨q0, q1, q2, q3, q4, q5, q6⟩ := seven_cells i0
        obtain ⟨p0, p1, p2, p3, p4, p5, p6⟩ := seven_cells i1
        have HJ : Hid _ := And.intro i0 (And.intro i1 iu)
        by_cases hl : c < nc
        · have hl2 : (c : Int) < (nc : Int) := by omega
          obtain ⟨ab, ao, rfl, hca⟩ := H2.out (by omega)
          obtain ⟨bb, bo, rfl, hcb⟩ := H3.out (by omega)
          obtain ⟨m0, m1, -, -, -, -⟩ := hca _ iu c hl
          obtain ⟨n0, n1, -, -, -, -⟩ := hcb _ iu c hl
          obtain ⟨e1, e2⟩ := HK.out c hl
          rw [e1] at n0
          rw [e2] at n1
          generalize (s.cs.getD c dc).kind = kk at *
          generalize (s.cs.getD c dc).owner = oo at *
          clear hca hcb e1 e2 i0 i1 iu
          go_wp2_with fail
          go_quiet (fail)
          go_wp2_with fail
          go_roundw
          case rel => exact ⟨c + 1, by omega, by go_num, HJ.out.1, HJ.out.2.1, HJ.out.2.2.drewN nq⟩
          case measure => simp [intOf] <;> omega
        · have hl2 : ¬ (c : Int) < (nc : Int) := by omega
          clear i0 i1 iu
          go_wp2
          go_ret
          exact ⟨rfl, HJ.out.2.2⟩
end DE
end Go.Proofs.YtjabjiahienohaaGreatDoor
