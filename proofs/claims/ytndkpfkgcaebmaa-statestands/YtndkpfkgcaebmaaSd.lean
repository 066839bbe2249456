/-
  The law StateStands: its way.
-/
import Derived.Test.YtndkpfkgcaebmaaPt
namespace Go.Proofs.Ytndkpfkgcaebmaa
open Go.RowKit
attribute [local go_sem ↓] Go.wp_at_zero Go.wp_at_succ

theorem two_cells_a (w : World) (A B : Array Value) (t t2 : TypeId) : ((w.alloc (.cells A t)).alloc (.cells B t2)).heap[w.heap.size]? = some (.cells A t (0, 0)) := by
  rw [Below.heap_alloc _ _ _ (by simp)]; exact heap_alloc_new w _
theorem two_cells_b (w : World) (A B : Array Value) (t t2 : TypeId) : ((w.alloc (.cells A t)).alloc (.cells B t2)).heap[w.heap.size + 1]? = some (.cells B t2 (0, 0)) := by
  have := heap_alloc_new (w.alloc (.cells A t)) (.cells B t2)
  simpa using this
theorem step_append_lc {P : Program} {ops : Array Oper} {o : Oper} {a : Act} {w : World} {K : Act → World → Prop} {Q : Exit → Act → World → Prop} {E : Prop} (hgd : o.guard = none) (s x : Operand) (t : TypeId)
    (ho : o.op = .call { callee := .builtin .append, args := #[s, x], argTypes := #[t, t] })
    (base : Nat) (e : TypeId) (i : TypeInfo) (z : Value) (size bytes : Nat) (ht : P.underlying t = some (.slice e)) (hi : P.info? e = some i) (hz : i.zero = some z)
    (hsize : i.size = size) (hby : i.bytes = bytes) (hzs : z.cells.size = size) (hsz : 0 < size)
    (v : Value) (n : Nat) (xs : List Value) (hs : a.eval s = v) (hown : w.ownsRow base e size v n xs) (u : Value) (m : Nat) (cs : List Value) (hx : a.eval x = u) (hu : LC w u size m cs) (h1 : ∀ u ∈ cs, u.oneCell' = true)
    (h63 : n + m ≤ maxLen) (hbytes : (n + m) * bytes ≤ 140737488355328) (hbase : base ≤ w.heap.size)
    (h : ∀ v' w', w'.ownsRow base e size v' (n + m) (xs ++ cs) → w.grownBy w' v.ownBlock → K (a.put o.dst v') w') : if Region.wanted o (yielded ops a.tmps) = true then Oper.wp P o a w K Q else E := by
  have hw : Region.wanted o (yielded ops a.tmps) = true := by simp [Region.wanted, hgd]
  rw [if_pos hw]
  obtain ⟨v', w', hr, h2, h3⟩ := run_append_lc (P := P) w base t o.type e i z size bytes ht hi hz hsize hby hzs hsz v n xs hown u m cs hu h1 h63 hbytes hbase
  unfold Oper.wp execOp
  simp only [ho, resolve, invoke, builtin, Sem.run_bind, Sem.run_pure, Result.andThen_ok, List.map_toArray, List.map_cons, List.map_nil, hs, hx, hr]
  exact h v' w' h2 h3
namespace ST
theorem small_ok {s : Stt} (h : ff s = none) : Small s := by
  obtain ⟨hr, he, hl⟩ := (ff_none s).1 h
  have h1 := hr.1
  simp only [sizesB, npB, ncB, Bool.and_eq_true, decide_eq_true_eq] at h1
  refine ⟨by omega, by omega, by omega, fun r hr => ?_⟩
  have h2 := row_flat s.zs r hr
  have h3 : s.zs.flatten.length = s.cs.length := hl
  omega
theorem cpC (v : Value) (s : Stt) (w w0 : World) (hs : StL w0 v s) (u : Up w0 w) (hsm : Small s) : Calls Try.prog 13 #[v] w fun e w' => ∃ v', e = .returned v' ∧ StL w' v' s ∧ Up w w' := by
  refine Calls.mono (copyState_ v s w (hs.up u) hsm) ?_
  rintro e w' ⟨v', h1, h2, h3⟩
  exact ⟨v', h1, h2.sl, h3⟩
set_option maxRecDepth 100000 in
set_option maxHeartbeats 8000000 in
theorem stands (v : Value) (s : Stt) (c pz pa : Int) (w : World) (hs : StL w v s) (hf : Far s) :
    Calls Try.prog 5 #[v, .int .i64 c, .agg #[.int .i64 pz, .int .i64 pa]] w fun e w' => e = .returned (.bool true) ∧ Up w w' := by
  have HS : Hid (StL w v s) := hs
  obtain ⟨vp, vc, vz, rfl, h1, h2, h3⟩ := hs
  obtain ⟨a1, k1, rfl, -, -⟩ := lc_at h1
  obtain ⟨a2, k2, rfl, -, -⟩ := lc_at h2
  obtain ⟨a3, k3, rfl, -, c3⟩ := zl_at h3
  have HC3 : Hid _ := c3
  clear h1 h2 h3 c3
  have hlg := long_ _ s _ (HS.out.up (((Up.refl w).alloc (.cells (sv (.slice a1 s.ps.length k1) (.slice a2 s.cs.length k2) (.slice a3 s.zs.length k3) s).cells 27)).alloc (.cells #[.int .i64 pz, .int .i64 pa] 42))) hf
  unfold sv at HS hlg ⊢
  have HLg : Hid _ := hlg
  clear hlg
  by_cases hl : 2147483647 < lenS s
  · rw [decide_eq_true hl] at HLg
    clear hl hf
    go_enter Try.func5, Try.ntmps5
    go_wp2_with fail
    refine Calls.mono HLg.out ?_
    rintro e w1 ⟨rfl, u1⟩
    have HU : Hid (Up w w1) := (((Up.refl w).alloc _).alloc _).trans u1
    clear HLg u1
    go_wp2
    go_ret
    exact ⟨rfl, HU.out⟩
  · rw [decide_eq_false hl] at HLg
    have HLen : Hid (lenS s ≤ 2147483647) := by unfold Hid; omega
    have HSm : Hid (Small s) := small_of (by omega)
    clear hl hf
    obtain ⟨q3, q5⟩ : _ ∧ _ := And.intro (two_cells_a w #[.slice a1 s.ps.length k1, .slice a2 s.cs.length k2, .slice a3 s.zs.length k3, .int .i32 s.turn, .int .i64 s.whose, .int .i8 s.fin, .int .i64 s.winner] #[.int .i64 pz, .int .i64 pa] 27 42) (two_cells_b w #[.slice a1 s.ps.length k1, .slice a2 s.cs.length k2, .slice a3 s.zs.length k3, .int .i32 s.turn, .int .i64 s.whose, .int .i8 s.fin, .int .i64 s.winner] #[.int .i64 pz, .int .i64 pa] 27 42)
    go_enter Try.func5, Try.ntmps5
    go_wp2_with fail
    refine Calls.mono HLg.out ?_
    rintro e w1 ⟨rfl, u1⟩
    have HU : Hid (Up w w1) := (((Up.refl w).alloc _).alloc _).trans u1
    have HB : Hid (w1.heap[w.heap.size]? = some (.cells #[.slice a1 s.ps.length k1, .slice a2 s.cs.length k2, .slice a3 s.zs.length k3, .int .i32 s.turn, .int .i64 s.whose, .int .i8 s.fin, .int .i64 s.winner] 27 (0, 0)) ∧ w1.heap[w.heap.size + 1]? = some (.cells #[.int .i64 pz, .int .i64 pa] 42 (0, 0))) := ⟨u1.heap q3, u1.heap q5⟩
    clear HLg u1 q3 q5
    /- what every world behind w1 holds -/
    have HX : Hid (∀ W, Up w1 W → W.cell? ⟨w.heap.size, 0, none⟩ = some (.slice a1 s.ps.length k1) ∧ W.cell? ⟨w.heap.size, 1, none⟩ = some (.slice a2 s.cs.length k2) ∧ W.cell? ⟨w.heap.size, 2, none⟩ = some (.slice a3 s.zs.length k3) ∧ W.cell? ⟨w.heap.size, 3, none⟩ = some (.int .i32 s.turn) ∧ W.cell? ⟨w.heap.size, 4, none⟩ = some (.int .i64 s.whose) ∧ W.cell? ⟨w.heap.size, 5, none⟩ = some (.int .i8 s.fin) ∧ W.cell? ⟨w.heap.size, 6, none⟩ = some (.int .i64 s.winner)) := fun W u => seven_cells (u.heap HB.out.1)
    obtain ⟨y0, y1, y2, y3, y4, y5, y6⟩ := HX.out w1 (Up.refl _)
    go_wp2_with fail
    refine Calls.mono (cpC _ s w1 w HS.out HU.out HSm.out) ?_
    rintro e w2 ⟨v1, rfl, hv1, u2⟩
    have HV1 : Hid (StL w2 v1 s) := hv1
    have HU2 : Hid (Up w1 w2) := u2
    clear hv1 u2 y0 y1 y2 y3 y4 y5 y6
    cases hff : ff s with
    | some k =>
      have HCk : Hid (Calls Try.prog 9 #[v1] w2 fun e w' => e = .returned (.tuple #[.int .i64 10, .int .i64 k]) ∧ Up w2 w') := by
        have := check_ v1 s w2 HV1.out HSm.out
        rw [hff] at this
        exact this
      have HWh : Hid (∀ v W, StL W v s → Calls Try.prog 15 #[v, .int .i64 c] W fun e w' => e = .returned (.tuple #[.int .i64 0, .int .i64 0, .bool false]) ∧ Up W w') := fun v W h => by
        have := where_ v s c W h HSm.out
        rw [whereOf, hff] at this
        exact this
      clear hff
      go_wp2_with fail
      refine Calls.mono HCk.out ?_
      rintro e w3 ⟨rfl, u3⟩
      have HU3 : Hid (Up w1 w3) := HU2.out.trans u3
      clear u3 HCk
      obtain ⟨y0, y1, y2, y3, y4, y5, y6⟩ := HX.out w3 HU3.out
      have hk : (0 : Int) ≤ (k : Int) := by omega
      go_wp2_with fail
      refine Calls.mono (cpC _ s w3 w HS.out (HU.out.trans HU3.out) HSm.out) ?_
      rintro e w4 ⟨v2, rfl, hv2, u4⟩
      have HV2 : Hid (StL w4 v2 s) := hv2
      have HU4 : Hid (Up w1 w4) := HU3.out.trans u4
      clear hv2 u4 y0 y1 y2 y3 y4 y5 y6
      go_wp2_with fail
      refine Calls.mono (HWh.out _ _ HV2.out) ?_
      rintro e w5 ⟨rfl, u5⟩
      have HU5 : Hid (Up w1 w5) := HU4.out.trans u5
      clear u5
      go_wp2_with fail
      refine Calls.mono (works_ _) ?_
      rintro e w6 ⟨rfl, u6⟩
      have HU6 : Hid (Up w w6) := (HU.out.trans HU5.out).trans u6
      clear u6
      go_wp2
      go_ret
      exact ⟨rfl, HU6.out⟩
    | none =>
      obtain ⟨hrest, hent, hfl⟩ := (ff_none s).1 hff
      have HFF : Hid (ff s = none) := hff
      have HCk : Hid (Calls Try.prog 9 #[v1] w2 fun e w' => e = .returned (.tuple #[.int .i64 0, .int .i64 0]) ∧ Up w2 w') := by
        have := check_ v1 s w2 HV1.out HSm.out
        rw [hff] at this
        exact this
      have HWh : Hid (∀ x v W z i, wh x s.zs 0 = some (z, i) → StL W v s → Calls Try.prog 15 #[v, .int .i64 x] W fun e w' => e = .returned (.tuple #[.int .i64 (z : Nat), .int .i64 (i : Nat), .bool true]) ∧ Up W w') := fun x v W z i h0 h => by
        have := where_ v s x W h HSm.out
        rw [whereOf, hff, if_pos rfl, h0] at this
        exact this
      obtain ⟨m, hm0⟩ : ∃ n, n = s.cs.length := ⟨_, rfl⟩
      obtain ⟨nz, hnz0⟩ : ∃ n, n = s.zs.length := ⟨_, rfl⟩
      have hmz : 1 ≤ m ∧ m ≤ 256 ∧ 8 ≤ nz ∧ nz ≤ 16 := by
        have := hrest.1
        simp only [sizesB, npB, ncB, Bool.and_eq_true, decide_eq_true_eq] at this
        omega
      have hnod : s.zs.flatten.Nodup := hent.1
      have HEnt : Hid (Ent m (flat s) ∧ (flat s).length = m) := by unfold Hid; rw [hm0]; exact ⟨hent, hfl⟩
      have HNod : Hid _ := hnod
      have HM : Hid (m = s.cs.length ∧ nz = s.zs.length) := ⟨hm0, hnz0⟩
      rw [← hm0] at HX HS
      rw [← hnz0] at HX HS HC3
      have HRl : Hid (∀ r, r < nz → (s.zs.getD r []).length ≤ 256) := fun r hr => by
        have h1 := row_flat s.zs r (by rw [← hnz0]; exact hr)
        have h2 : s.zs.flatten.length = m := by rw [hm0]; exact hfl
        omega
      rw [← hm0, ← hnz0]
      clear hff hrest hent hfl hnod hm0 hnz0
      go_wp2_with fail
      refine Calls.mono HCk.out ?_
      rintro e w3 ⟨rfl, u3⟩
      have HU3 : Hid (Up w1 w3) := HU2.out.trans u3
      clear u3 HCk
      go_wp2_with fail
      go_loopw [6, 12, 13] (fun s6 s12 s13 W => ∃ z k : Nat, z ≤ nz ∧ s13 = .int .i64 z ∧ s12 = .int .i64 k ∧ s6 = .bool false ∧ Up w1 W ∧ k = off s.zs z ∧ k ≤ z * 256) (fun _ _ s13 _ => nz - (intOf s13).toNat)
      case atStart => exact ⟨0, 0, Nat.zero_le _, rfl, rfl, rfl, HU3.out, rfl, by omega⟩
      case round =>
        obtain ⟨z, k, hzn, rfl, rfl, rfl, hu, hk, hkb⟩ := hrel
        have HUr : Hid (Up w1 wr) := hu
        have HK : Hid (k = off s.zs z) := hk
        clear hu hk
        by_cases hlt : z < nz
        · have hlt2 : (z : Int) < (nz : Int) := by omega
          obtain ⟨b3, o3, rfl, hrow⟩ := HC3.out (by omega)
          obtain ⟨ra, rc, hcell, hil⟩ := hrow z hlt
          have hq := HRl.out z hlt
          obtain ⟨_, _, hra, -, hin⟩ := il_at hil
          cases hra
          have HNx : Hid (k + (s.zs.getD z []).length = off s.zs (z + 1)) := by unfold Hid; rw [HK.out]; exact (flat_next s.zs z (by rw [← HM.out.2]; exact hlt)).symm
          have HOne : Hid (∀ i, i < (s.zs.getD z []).length → wh ((s.zs.getD z []).getD i 0) s.zs 0 = some (z, i)) := fun i hi => by
            have := flat_one s.zs HNod.out ((s.zs.getD z []).getD i 0) z i 0 (by rw [← HM.out.2]; exact hlt) hi rfl
            rwa [Nat.zero_add] at this
          have HCell : Hid _ := hcell
          have HIn : Hid _ := hin
          clear hcell hil hrow hin HK
          obtain ⟨r, hr⟩ : ∃ r, r = s.zs.getD z [] := ⟨_, rfl⟩
          rw [← hr] at hq HNx HOne HCell HIn
          obtain ⟨q, hq0⟩ : ∃ q, q = r.length := ⟨_, rfl⟩
          rw [← hq0] at hq HNx HOne HCell HIn
          clear hr hq0
          obtain ⟨-, -, y2, -, -, -, -⟩ := HX.out wr HUr.out
          go_wp2_with fail
          go_loopw [6, 12, 14] (fun s6 s12 s14 W => ∃ i : Nat, i ≤ q ∧ s14 = .int .i64 i ∧ s12 = .int .i64 ((k + i : Nat) : Int) ∧ s6 = .bool false ∧ Up w1 W) (fun _ _ s14 _ => q - (intOf s14).toNat)
          case atStart => exact ⟨0, Nat.zero_le _, rfl, rfl, rfl, HUr.out⟩
          case round =>
            obtain ⟨i, hiq, rfl, rfl, rfl, hu⟩ := hrel
            clear HUr y2
            have HUr : Hid (Up w1 wr) := hu
            clear hu
            obtain ⟨y0, y1, y2, y3, y4, y5, y6⟩ := HX.out wr HUr.out
            have x1 := HCell.out wr (HU.out.trans HUr.out)
            by_cases hlt3 : i < q
            · have hlt4 : (i : Int) < (q : Int) := by omega
              obtain ⟨b4, o4, rfl, hc4⟩ := HIn.out (by omega)
              have x2 := hc4 wr (HU.out.trans HUr.out) i hlt3
              have HWx : Hid _ := HWh.out (r.getD i 0)
              have hone := HOne.out i hlt3
              have HOn : Hid _ := hone
              have HC4 : Hid _ := hc4
              clear hc4 hone
              go_wp2_with fail
              refine (fun key : ∀ v9 W9, Up w1 W9 → (?G : Value → World → Prop) v9 W9 => ?main) ?kp
              case main =>
                go_region_with (first
                  | (go_at_call 13; refine Calls.mono (cpC _ s _ w HS.out (by first | exact (HU.out.trans HUr.out).drew | exact HU.out.trans HUr.out) HSm.out) ?_; rintro e W9 ⟨v9, rfl, hv9, u9⟩; have U9 : Hid (Up w1 W9) := Up.trans (by first | exact HUr.out.drew | exact HUr.out) u9; have V9 : Hid (StL W9 v9 s) := hv9; obtain ⟨y0, y1, y2, y3, y4, y5, y6⟩ := HX.out W9 U9.out; have x1 := HCell.out W9 (HU.out.trans U9.out); have x2 := HC4.out W9 (HU.out.trans U9.out) i hlt3; clear hv9 u9)
                  | (go_at_call 15; refine Calls.mono (HWx.out v9 _ z i HOn.out V9.out) ?_; rintro e W8 ⟨rfl, u8⟩; have U8 : Hid (Up w1 W8) := U9.out.trans u8; clear u8))
                all_goals exact key v9 W8 U8.out
              case kp =>
                intro v9 W9 hu9
                have HU9 : Hid (Up w1 W9) := hu9
                clear hu9
                go_wp2_with fail
                go_roundw
                case rel => exact ⟨i + 1, by omega, by go_num, by go_num, rfl, HU9.out⟩
                case measure => simp [intOf]; omega
            · have hlt4 : ¬ (i : Int) < (q : Int) := by omega
              have hiq2 : i = q := by omega
              subst hiq2
              go_wp2_with fail
              go_roundw
              case rel => exact ⟨z + 1, k + i, by omega, by go_num, rfl, rfl, HUr.out, HNx.out, by omega⟩
              case measure => simp [intOf]; omega
        · have hlt2 : ¬ (z : Int) < (nz : Int) := by omega
          have hkm : k = m := by
            rw [HK.out, off, List.take_of_length_le (by rw [← HM.out.2]; omega)]
            exact HEnt.out.2
          clear HK
          subst hkm
          obtain ⟨y0, y1, y2, y3, y4, y5, y6⟩ := HX.out wr HUr.out
          obtain ⟨cd, hcd⟩ : ∃ n, n = rnd c s.cs.length := ⟨_, rfl⟩
          have hcm : cd < s.cs.length := by rw [hcd]; exact rnd_lt _ _ (by have := HM.out.1; omega)
          have hmem : (cd : Int) ∈ s.zs.flatten := by
            have h := HEnt.out
            rw [HM.out.1] at h
            exact ent_all h.1 h.2 (cd : Int) (by simp [numB]; omega)
          obtain ⟨z0, i0, hwh⟩ := wh_mem (cd : Int) s.zs hmem
          have HWc : Hid _ := HWh.out (cd : Int)
          have HW0 : Hid (wh (cd : Int) s.zs 0 = some (z0, i0)) := hwh
          obtain ⟨-, hz0, hi0, hat0⟩ := wh_some (cd : Int) s.zs 0 z0 i0 hwh
          rw [Nat.sub_zero] at hz0 hi0 hat0
          /- put in twice -/
          have HB1 : Hid (∃ k1, ff (putS s cd pz pa) = some k1 ∧ Small (putS s cd pz pa)) := by
            have hzz : rnd pz s.zs.length < s.zs.length := rnd_lt _ _ (by omega)
            have h1 := put_bad HFF.out (c := (cd : Int)) hzz (ins_perm (s.zs.getD (rnd pz s.zs.length) []) (cd : Int) (rnd pa ((s.zs.getD (rnd pz s.zs.length) []).length + 1)))
            have h2 : Small (putS s cd pz pa) := small_put HLen.out (by have h8 := HRl.out (rnd pz s.zs.length) (by rw [HM.out.2]; exact hzz); have h9 := rnd_lt pa ((s.zs.getD (rnd pz s.zs.length) []).length + 1) (by omega); simp only [List.length_append, List.length_take, List.length_cons, List.length_drop]; omega)
            cases h3 : ff (putS s cd pz pa) with
            | none => exact absurd h3 h1
            | some k1 => exact ⟨k1, rfl, h2⟩
          obtain ⟨kk, hk1, hsm1⟩ := HB1.out
          have HC1 : Hid (∀ v W, StL W v (putS s cd pz pa) → Calls Try.prog 9 #[v] W fun e w' => e = .returned (.tuple #[.int .i64 10, .int .i64 kk]) ∧ Up W w') := fun v W h => by
            have := check_ v _ W h hsm1
            rw [hk1] at this
            exact this
          have HPt : Hid (∀ W, Up w1 W → Calls Try.prog 18 #[.agg #[.slice a1 s.ps.length k1, .slice a2 _ k2, .slice a3 nz k3, .int .i32 s.turn, .int .i64 s.whose, .int .i8 s.fin, .int .i64 s.winner], .int .i64 cd, .agg #[.int .i64 pz, .int .i64 pa]] W fun e w' => ∃ v', e = .returned v' ∧ StL w' v' (putS s cd pz pa) ∧ Up W w') := fun W u => put_ _ s cd pz pa W (HS.out.up (HU.out.trans u)) HSm.out (by omega)
          have HRd : Hid (∀ W, Calls Try.prog 17 #[.int .i64 c, .int .i64 (s.cs.length : Nat)] W fun e w' => e = .returned (.int .i64 (cd : Nat)) ∧ w' = W) := fun W => by
            rw [hcd]; exact round_ c _ (by omega) (by have := HM.out.1; omega) W
          have hkk := HM.out.1
          rw [← hkk] at HRd
          clear hk1 hsm1 HB1 hcd hcm hmem hwh HEnt hkk
          go_wp2_with fail
          refine Calls.mono (HRd.out _) ?_
          rintro e w4 ⟨rfl, rfl⟩
          clear HRd
          go_wp2_with fail
          refine Calls.mono (cpC _ s _ w HS.out (HU.out.trans HUr.out) HSm.out) ?_
          rintro e w5 ⟨v2, rfl, hv2, u5⟩
          have HU5 : Hid (Up w1 w5) := HUr.out.trans u5
          have HV2 : Hid (StL w5 v2 s) := hv2
          clear hv2 u5 y0 y1 y2 y3 y4 y5 y6
          go_wp2_with fail
          refine Calls.mono (HWc.out v2 _ z0 i0 HW0.out HV2.out) ?_
          rintro e w6 ⟨rfl, u6⟩
          have HU6 : Hid (Up w1 w6) := HU5.out.trans u6
          clear u6 HWc HW0
          obtain ⟨y0, y1, y2, y3, y4, y5, y6⟩ := HX.out w6 HU6.out
          have p0 : w6.cell? ⟨w.heap.size + 1, 0, none⟩ = some (.int .i64 pz) := HU6.out.cell (by simp [World.cell?, HB.out.2])
          have p1 : w6.cell? ⟨w.heap.size + 1, 1, none⟩ = some (.int .i64 pa) := HU6.out.cell (by simp [World.cell?, HB.out.2])
          go_wp2_with fail
          refine Calls.mono (HPt.out _ HU6.out) ?_
          rintro e w7 ⟨v3, rfl, hv3, u7⟩
          have HU7 : Hid (Up w1 w7) := HU6.out.trans u7
          have HV3 : Hid _ := hv3
          clear hv3 u7 y0 y1 y2 y3 y4 y5 y6 p0 p1
          go_wp2_with fail
          refine Calls.mono (HC1.out _ _ HV3.out) ?_
          rintro e w8 ⟨rfl, u8⟩
          have HU8 : Hid (Up w1 w8) := HU7.out.trans u8
          clear u8 HC1 HV3
          obtain ⟨y0, y1, y2, y3, y4, y5, y6⟩ := HX.out w8 HU8.out
          go_wp2_with fail
          refine Calls.mono (copyState_ _ s _ (HS.out.up (HU.out.trans HU8.out)) HSm.out) ?_
          rintro e w9 ⟨v4, rfl, hso, u9⟩
          obtain ⟨l, hld⟩ : ∃ l, l = s.zs.getD z0 [] := ⟨_, rfl⟩
          obtain ⟨G, hG⟩ : ∃ g, g = withZ s (s.zs.set z0 (l.take i0 ++ l.drop (i0 + 1))) := ⟨_, rfl⟩
          rw [← hld] at hi0 hat0
          have hperm : ((cd : Int) :: (l.take i0 ++ l.drop (i0 + 1))).Perm (s.zs.getD z0 []) := by rw [← hld]; exact cut_perm l (cd : Int) i0 hi0 hat0
          have hll : l.length ≤ 256 := by rw [hld]; exact HRl.out z0 (by rw [HM.out.2]; exact hz0)
          have hGb : ff G ≠ none := by rw [hG]; exact gone_bad HFF.out hz0 hperm
          have hGs : Small G := by rw [hG]; exact small_put HLen.out (by simp only [List.length_append, List.length_take, List.length_drop]; omega)
          have hGz : G.zs.length = s.zs.length := by rw [hG]; simp [withZ]
          have hMo : ff (putS G cd pz pa) = none := by
            have hzz : rnd pz G.zs.length < s.zs.length := by rw [hGz]; exact rnd_lt _ _ (by omega)
            have e8 : G.zs = s.zs.set z0 (l.take i0 ++ l.drop (i0 + 1)) := by rw [hG]; rfl
            have e9 : ∀ q, withZ G q = withZ s q := fun q => by rw [hG]; rfl
            have h1 := moved_ok HFF.out hz0 hperm (y := rnd pz G.zs.length) hzz (r := (G.zs.getD (rnd pz G.zs.length) []).take (rnd pa ((G.zs.getD (rnd pz G.zs.length) []).length + 1)) ++ (cd : Int) :: (G.zs.getD (rnd pz G.zs.length) []).drop (rnd pa ((G.zs.getD (rnd pz G.zs.length) []).length + 1))) (by rw [← e8]; exact ins_perm _ _ _)
            rw [← e8] at h1
            rw [putS, e9]
            exact h1
          obtain ⟨k2x, hk2⟩ : ∃ k, ff G = some k := by
            cases h3 : ff G with
            | none => exact absurd h3 hGb
            | some k => exact ⟨k, rfl⟩
          have HC2 : Hid (∀ v W, StL W v G → Calls Try.prog 9 #[v] W fun e w' => e = .returned (.tuple #[.int .i64 10, .int .i64 k2x]) ∧ Up W w') := fun v W h => by
            have := check_ v _ W h hGs
            rw [hk2] at this
            exact this
          have HC3' : Hid (∀ v W, StL W v (putS G cd pz pa) → Calls Try.prog 9 #[v] W fun e w' => e = .returned (.tuple #[.int .i64 0, .int .i64 0]) ∧ Up W w') := fun v W h => by
            have := check_ v _ W h (small_ok hMo)
            rw [hMo] at this
            exact this
          have HPg : Hid (∀ v W, StL W v G → Calls Try.prog 18 #[v, .int .i64 cd, .agg #[.int .i64 pz, .int .i64 pa]] W fun e w' => ∃ v', e = .returned v' ∧ StL w' v' (putS G cd pz pa) ∧ Up W w') := fun v W h => put_ v G cd pz pa W h hGs (by rw [hGz]; omega)
          have HCg : Hid (∀ v W, StL W v G → Calls Try.prog 13 #[v] W fun e w' => ∃ v', e = .returned v' ∧ StL w' v' G ∧ Up W w') := fun v W h => cpC v G W W h (Up.refl _) hGs
          clear hGb hGs hGz hMo hk2 hperm hat0
          obtain ⟨vp, vc, vz, rfl, po, co, zo⟩ := id hso
          obtain ⟨xa1, xk1, rfl⟩ := row_val po
          obtain ⟨xa2, xk2, rfl⟩ := row_val co
          obtain ⟨vs, zo1, zo2⟩ := id zo
          obtain ⟨gz, zk, hgz, -, rfl⟩ := row_some zo1 (by omega)
          have hrow := zo2 z0 hz0
          rw [← hld] at hrow
          have hrl := own_lc hrow
          obtain ⟨ra9, rc, hrv, hrc, hra⟩ := lc_at hrl
          obtain ⟨br, og, rfl, -, -⟩ := hra (by omega)
          have hzc : w9.cell? ⟨gz, z0, none⟩ = some (.slice (some ⟨br, og, none⟩) l.length rc) := by
            have hl0 := zo1.1
            rw [World.ownsRow.cellAt zo1 z0 (by omega), ← hrv, List.getD_eq_getElem?_getD, List.getElem?_eq_getElem (by omega)]
            rfl
          rw [hrv] at hrl
          have hfz : ∃ cur : Array Value, w9.heap[gz]? = some (.cells cur 36 (0, 0)) := by
            rcases zo1.2 with ⟨h', _⟩ | ⟨g9, c9, cur9, h', hb9, hg9, -⟩
            · simp at h'
            · simp only [Value.slice.injEq, Option.some.injEq, Addr.mk.injEq, and_true] at h'
              obtain ⟨rfl, -⟩ := h'
              exact ⟨cur9, hg9⟩
          have HR9 : Hid (LC w9 (.slice (some ⟨br, og, none⟩) l.length rc) 1 l.length (ivs l) ∧ w9.cell? ⟨gz, z0, none⟩ = some (.slice (some ⟨br, og, none⟩) l.length rc) ∧ (∃ cur : Array Value, w9.heap[gz]? = some (.cells cur 36 (0, 0))) ∧ w8.heap.size ≤ gz) := ⟨hrl, hzc, hfz, hgz⟩
          have HSO : Hid _ := hso
          have HU9 : Hid (Up w1 w9 ∧ Up w8 w9) := ⟨HU8.out.trans u9, u9⟩
          have HU8s : Hid (w1.heap.size ≤ w8.heap.size) := HU8.out.size
          have HG : Hid _ := hG
          have HZ0 : Hid (z0 < s.zs.length) := hz0
          rw [← HM.out.2] at hz0 HSO ⊢
          clear hso u9 po co zo zo1 zo2 hrow hrl hrv hzc hfz hgz hG hld y0 y1 y2 y3 y4 y5 y6 HU8
          obtain ⟨n, hn⟩ : ∃ n, n = l.length := ⟨_, rfl⟩
          rw [← hn] at hi0 hll HR9 hrc
          have HNl : Hid (n = l.length) := hn
          clear hn
          obtain ⟨iT, hiT, j0, j1, j2⟩ := info_parts infoI
          unfold sv
          have cz : ∀ o, (w9.alloc o).cell? ⟨gz, z0, none⟩ = some (.slice (some ⟨br, og, none⟩) n rc) := fun o => ((Up.refl w9).alloc o).cell HR9.out.2.1
          have hz2 : (z0 : Int) < (nz : Int) := by omega
          obtain ⟨W10, hW10⟩ : ∃ W, W = w9.alloc (.cells #[.slice xa1 s.ps.length xk1, .slice xa2 s.cs.length xk2, .slice (some ⟨gz, 0, none⟩) nz zk, .int .i32 s.turn, .int .i64 s.whose, .int .i8 s.fin, .int .i64 s.winner] 27) := ⟨_, rfl⟩
          have HW10 : Hid (W10 = _) := hW10
          have HU10 : Hid (Up w9 W10 ∧ W10.heap[w9.heap.size]? = some (.cells #[.slice xa1 s.ps.length xk1, .slice xa2 s.cs.length xk2, .slice (some ⟨gz, 0, none⟩) nz zk, .int .i32 s.turn, .int .i64 s.whose, .int .i8 s.fin, .int .i64 s.winner] 27 (0, 0)) ∧ w9.heap.size < W10.heap.size) := by
            unfold Hid
            rw [hW10]
            exact ⟨(Up.refl _).alloc _, heap_alloc_new w9 _, by simp⟩
          clear hW10
          have HL1 : Hid (LC W10 (.slice (some ⟨br, og, none⟩) i0 rc) 1 i0 (ivs (l.take i0))) := by
            have := lc_take (LC.up HR9.out.1 HU10.out.1) (k := i0) (by omega)
            rw [ivs_take] at this
            exact this
          go_wp2_with (first
            | (refine wpList_slice_h (by rfl) 36 (.tmp 139) (.tmp 140) (by rfl) 3 1 Try.underlying36 (by rw [hiT]; simp [j1]) (some ⟨br, og, none⟩) n rc i0 (by rfl) (by rfl) (by omega) ?_)
            | (at_builtin; rw [← HW10.out]; go_loud (refine wpList_append_lc (by rfl) (.tmp 134) (.tmp 141) 36 (by rfl) W10.heap.size 3 iT (.int .i64 0) 1 8 Try.underlying36 hiT j0 j1 j2 (by rfl) (by decide) (.slice none 0 0) 0 [] (by rfl) (World.ownsRow_nil _ _ _ _) (.slice (some ⟨br, og, none⟩) i0 rc) i0 (ivs (l.take i0)) (by rfl) HL1.out (ivs_one _) (by unfold maxLen; omega) (by omega) (Nat.le_refl _) ?_; intro v5 w11 hin hg1; have u11 : Up W10 w11 := made_up hg1; obtain ⟨xa5, xk5, hx5⟩ := row_val hin; have HI5 : Hid (w11.ownsRow W10.heap.size 3 1 v5 i0 (ivs (l.take i0))) := (by unfold Hid; have := hin; simpa using this); rw [Nat.zero_add] at hx5; subst hx5; have HU11 : Hid (Up W10 w11) := u11; clear hin hg1 u11)))
          obtain ⟨A, hA, hAl⟩ : ∃ A : Addr, (if rc = i0 + 1 then some (⟨br, og, none⟩ : Addr) else some ⟨br, og + (i0 + 1), none⟩) = some A ∧ Hid (∀ W, Up w9 W → LC W (.slice (some A) (n - (i0 + 1)) (rc - (i0 + 1))) 1 (n - (i0 + 1)) (ivs (l.drop (i0 + 1)))) := by
            by_cases h : rc = i0 + 1
            · refine ⟨⟨br, og, none⟩, by simp [h], fun W u => ?_⟩
              have := lc_drop (ad := some ⟨br, og, none⟩) (LC.up HR9.out.1 u) (k := i0 + 1) (by omega) (fun hlt => by omega)
              rw [ivs_drop] at this
              exact this
            · refine ⟨⟨br, og + (i0 + 1), none⟩, by simp [h], fun W u => ?_⟩
              have := lc_drop (ad := some ⟨br, og + (i0 + 1), none⟩) (LC.up HR9.out.1 u) (k := i0 + 1) (by omega) (fun _ => by simp [Addr.add])
              rw [ivs_drop] at this
              exact this
          have HCs : Hid (∀ W, Up W10 W → W.cell? ⟨w9.heap.size, 2, none⟩ = some (.slice (some ⟨gz, 0, none⟩) nz zk) ∧ W.cell? ⟨gz, z0, none⟩ = some (.slice (some ⟨br, og, none⟩) n rc) ∧ W.frozen? ⟨gz, z0, none⟩ = false) := fun W u => by
            refine ⟨u.cell (seven_cells HU10.out.2.1).2.2.1, (HU10.out.1.trans u).cell HR9.out.2.1, ?_⟩
            obtain ⟨cur, hcur⟩ := HR9.out.2.2.1
            exact seven_f ((HU10.out.1.trans u).heap hcur) z0
          have HLd : Hid (LC w11.drew (.slice (some A) (n - (i0 + 1)) (rc - (i0 + 1))) 1 (n - (i0 + 1)) (ivs (l.drop (i0 + 1)))) := hAl.out _ ((HU10.out.1.trans HU11.out).drew)
          have HI6 : Hid (w11.drew.ownsRow W10.heap.size 3 1 (.slice xa5 i0 xk5) i0 (ivs (l.take i0))) := row_up HI5.out (Up.refl _).drew
          have HSz : Hid (W10.heap.size ≤ w11.drew.heap.size) := HU11.out.size
          have HEnd : Hid (∀ xa6 xk6 w12, w11.drew.grownBy w12 (Value.slice xa5 i0 xk5).ownBlock → w12.ownsRow W10.heap.size 3 1 (.slice xa6 (i0 + (n - (i0 + 1))) xk6) (i0 + (n - (i0 + 1))) (ivs (l.take i0) ++ ivs (l.drop (i0 + 1))) →
              Up W10 w12 ∧ (w12.setCell ⟨gz, z0, none⟩ (.slice xa6 (i0 + (n - (i0 + 1))) xk6)).heap[w9.heap.size]? = some (.cells #[.slice xa1 s.ps.length xk1, .slice xa2 s.cs.length xk2, .slice (some ⟨gz, 0, none⟩) nz zk, .int .i32 s.turn, .int .i64 s.whose, .int .i8 s.fin, .int .i64 s.winner] 27 (0, 0)) ∧
              SO w8.heap.size (w12.setCell ⟨gz, z0, none⟩ (.slice xa6 (i0 + (n - (i0 + 1))) xk6)) (.agg #[.slice xa1 s.ps.length xk1, .slice xa2 s.cs.length xk2, .slice (some ⟨gz, 0, none⟩) nz zk, .int .i32 s.turn, .int .i64 s.whose, .int .i8 s.fin, .int .i64 s.winner]) G ∧ Up w1 (w12.setCell ⟨gz, z0, none⟩ (.slice xa6 (i0 + (n - (i0 + 1))) xk6))) := fun xa6 xk6 w12 hg h6 => by
            have u12 : Up W10 w12 := by
              refine Below.grown HU11.out.drew hg HSz.out ?_
              intro k hk
              exact (HI6.out.lt k hk).1
            obtain ⟨cur, hcur⟩ := HR9.out.2.2.1
            have hlt9 := (Array.getElem?_eq_some_iff.1 hcur).1
            refine ⟨u12, set_other (u12.heap HU10.out.2.1) (by omega), ?_, Up.set (HU9.out.1.trans (HU10.out.1.trans u12)) _ _ (by have h1 := HR9.out.2.2.2; have h2 := HU8s.out; show w1.heap.size ≤ gz; omega)⟩
            have hnn := HNl.out
            have hio : IRow w8.heap.size w12 (.slice xa6 (i0 + (n - (i0 + 1))) xk6) (l.take i0 ++ l.drop (i0 + 1)) := by
              have e1 : (l.take i0 ++ l.drop (i0 + 1)).length = i0 + (n - (i0 + 1)) := by simp; omega
              unfold IRow
              rw [e1, ivs_app]
              exact own_less h6 (by have h1 := HU9.out.2.size; have h2 := HU10.out.2.2; omega)
            have hso := SO.up HSO.out (HU10.out.1.trans u12)
            rw [HM.out.2] at hso
            have := SO.put hso HZ0.out hio
            rw [← HG.out, ← HM.out.2] at this
            exact this
          obtain ⟨f1, f2, f3⟩ := HCs.out w11 HU11.out
          have hwr : IntKind.i64.wrap ((i0 : Int) + 1) = (i0 : Int) + 1 := by rw [IntKind.wrap_i64]; omega
          have hp0 : (0 : Int) ≤ (i0 : Int) + 1 := by omega
          have hp1 : (i0 : Int) + 1 ≤ (n : Int) := by omega
          have hp2 : ((i0 : Int) + 1).toNat = i0 + 1 := by omega
          refine (fun key : ∀ xa6 xk6 W13, (W13.heap[w9.heap.size]? = some (.cells #[.slice xa1 s.ps.length xk1, .slice xa2 s.cs.length xk2, .slice (some ⟨gz, 0, none⟩) nz zk, .int .i32 s.turn, .int .i64 s.whose, .int .i8 s.fin, .int .i64 s.winner] 27 (0, 0)) ∧ SO w8.heap.size W13 (.agg #[.slice xa1 s.ps.length xk1, .slice xa2 s.cs.length xk2, .slice (some ⟨gz, 0, none⟩) nz zk, .int .i32 s.turn, .int .i64 s.whose, .int .i8 s.fin, .int .i64 s.winner]) G ∧ Up w1 W13) → (?G5 : Option Addr → Nat → World → Prop) xa6 xk6 W13 => ?main5) ?kp5
          case main5 =>
            go_region_law (go_loud (refine step_append_lc rfl (.tmp 146) (.tmp 154) 36 rfl W10.heap.size 3 iT (.int .i64 0) 1 8 Try.underlying36 hiT j0 j1 j2 rfl (by decide) (.slice xa5 i0 xk5) i0 (ivs (l.take i0)) (by simp [Act.eval, Act.put]) HI6.out (.slice (some A) (n - (i0 + 1)) (rc - (i0 + 1))) (n - (i0 + 1)) (ivs (l.drop (i0 + 1))) (by simp [Act.eval, Act.put]) HLd.out (ivs_one _) (by unfold maxLen; omega) (by omega) HSz.out ?_; intro v6 w12 hin hg1; obtain ⟨xa6, xk6, hx6⟩ := row_val hin; subst hx6; have HE : Hid _ := HEnd.out xa6 xk6 w12 hg1 hin; obtain ⟨f1, f2, f3⟩ := HCs.out w12 HE.out.1; clear hin hg1))
            all_goals (have hk := HE.out.2; clear HE; revert hk; generalize w12.setCell _ _ = W13; intro hk; exact key xa6 xk6 W13 hk)
          case kp5 =>
            intro xa6 xk6 W13 hk
            have HK : Hid _ := hk
            have p0 : W13.cell? ⟨w.heap.size + 1, 0, none⟩ = some (.int .i64 pz) := hk.2.2.cell (by simp [World.cell?, HB.out.2])
            have p1 : W13.cell? ⟨w.heap.size + 1, 1, none⟩ = some (.int .i64 pa) := hk.2.2.cell (by simp [World.cell?, HB.out.2])
            obtain ⟨y0, y1, y2, y3, y4, y5, y6⟩ := seven_cells hk.1
            clear hk f1 f2 f3 hA p0 p1
            go_wp2_with fail
            refine Calls.mono (HCg.out _ _ (SO.sl HK.out.2.1)) ?_
            rintro e w14 ⟨v7, rfl, hv7, u14⟩
            have HV7 : Hid _ := hv7
            have HU14 : Hid (Up W13 w14) := u14
            clear hv7 u14 y0 y1 y2 y3 y4 y5 y6
            go_wp2_with fail
            refine Calls.mono (HC2.out _ _ HV7.out) ?_
            rintro e w15 ⟨rfl, u15⟩
            have HU15 : Hid (Up W13 w15) := HU14.out.trans u15
            clear u15
            obtain ⟨y0, y1, y2, y3, y4, y5, y6⟩ := seven_cells (HU15.out.heap HK.out.1)
            have p0 : w15.cell? ⟨w.heap.size + 1, 0, none⟩ = some (.int .i64 pz) := (HK.out.2.2.trans HU15.out).cell (by simp [World.cell?, HB.out.2])
            have p1 : w15.cell? ⟨w.heap.size + 1, 1, none⟩ = some (.int .i64 pa) := (HK.out.2.2.trans HU15.out).cell (by simp [World.cell?, HB.out.2])
            go_wp2_with fail
            refine Calls.mono (HPg.out _ _ (StL.up (SO.sl HK.out.2.1) HU15.out)) ?_
            rintro e w16 ⟨v8, rfl, hv8, u16⟩
            have HV8 : Hid _ := hv8
            have HU16 : Hid (Up W13 w16) := HU15.out.trans u16
            clear hv8 u16 y0 y1 y2 y3 y4 y5 y6 p0 p1
            go_wp2_with fail
            refine Calls.mono (HC3'.out _ _ HV8.out) ?_
            rintro e w17 ⟨rfl, u17⟩
            have HU17 : Hid (Up W13 w17) := HU16.out.trans u17
            clear u17
            go_wp2_with fail
            refine Calls.mono (works_ _) ?_
            rintro e w18 ⟨rfl, u18⟩
            have HU18 : Hid (Up w w18) := (HU.out.trans HK.out.2.2).trans (HU17.out.trans u18)
            clear u18
            go_wp2
            go_ret
            exact ⟨rfl, HU18.out⟩
end ST
end Go.Proofs.Ytndkpfkgcaebmaa
