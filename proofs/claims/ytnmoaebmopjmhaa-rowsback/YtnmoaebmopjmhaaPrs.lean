/-
  Lists of pairs: samePairs, Find, Order.
-/
import Derived.Test.YtnmoaebmopjmhaaSorts
import Derived.Test.YtnmoaebmopjmhaaOr1
import Derived.Defers
import Derived.Recover
import Derived.Laws.Pointers
namespace Go.Proofs.Ytnmoaebmopjmhaa
open Go.RowKit
attribute [local go_sem ↓] Go.wp_at_zero Go.wp_at_succ

namespace PR
open IN AP CU OD
def peq (x y : PX) : Bool := x.1 == y.1 && x.2.toList == y.2.toList
theorem pairEql (x y : PX) (W : World) : (binOp .eql 82 (.agg #[.int .i8 x.1, .string x.2]) (.agg #[.int .i8 y.1, .string y.2])).run Try.prog W = .ok (.bool (peq x y)) W := by
  rw [run_eql_struct, pairEq x y W]
  simp [Result.andThen, peq]
theorem pairNeq' (x : PX) (W : World) : (binOp .neq 82 (.agg #[.int .i8 x.1, .string x.2]) (.agg #[.int .i8 x.1, .string x.2])).run Try.prog W = .ok (.bool false) W := by
  rw [run_neq_struct, pairEq x x W]
  simp [Result.andThen]
theorem pl_at {w : World} {v : Value} {ps : List PX} (h : PL w v ps) : ∃ a cap, v = .slice a ps.length cap ∧ ps.length ≤ cap ∧ (ps.length ≠ 0 → ∃ b off, a = some ⟨b, off, none⟩ ∧ b < w.heap.size ∧ ∀ W, Up w W → ∀ i, i < ps.length → W.cell? ⟨b, off + i * 2, none⟩ = some (.int .i8 (ps.getD i pdx).1) ∧ W.cell? ⟨b, off + i * 2 + 1, none⟩ = some (.string (ps.getD i pdx).2)) := by
  obtain ⟨a, cap, hv, hc, h⟩ := h
  refine ⟨a, cap, hv, hc, fun hn => ?_⟩
  obtain ⟨b, off, ha, hc⟩ := h hn
  exact ⟨b, off, ha, World.block_lt_of_cell? w _ (hc 0 (by omega)).1, fun W hu i hi => ⟨hu.cell (hc i hi).1, hu.cell (hc i hi).2⟩⟩
set_option maxRecDepth 100000 in
set_option maxHeartbeats 2000000 in
theorem sameP_ (v u : Value) (ps : List PX) (w : World) (hv : PL w v ps) (hu : PL w u ps) (hn : ps.length ≤ 100000000) :
    Calls Try.prog 43 #[v, u] w fun e w' => e = .returned (.bool true) ∧ ∃ m, w' = w.drewN m := by
  obtain ⟨a1, k1, rfl, -, h1⟩ := pl_at hv
  obtain ⟨a2, k2, rfl, -, h2⟩ := pl_at hu
  obtain ⟨n, hn0⟩ : ∃ n, n = ps.length := ⟨_, rfl⟩
  rw [← hn0] at hn h1 h2 ⊢
  have H1 : Hid _ := h1
  have H2 : Hid _ := h2
  clear hv hu h1 h2 hn0
  go_enter Try.func43, Try.ntmps43
  go_wp2
  go_loopw [5] (fun s5 wr => ∃ i : Nat, i ≤ n ∧ s5 = .int .i64 i ∧ ∃ m, wr = w.drewN m) (fun s5 _ => n - (intOf s5).toNat)
  case atStart => exact ⟨0, Nat.zero_le _, rfl, 0, rfl⟩
  case round =>
    obtain ⟨i, hi, rfl, m, hm⟩ := hrel
    have HM : Hid (wr = w.drewN m) := hm
    have huw : Up w wr := by rw [hm]; exact (Up.refl w).drewN m
    clear hm
    by_cases hlt : i < n
    · have hlt2 : (i : Int) < (n : Int) := by omega
      obtain ⟨b1, o1, rfl, -, c1⟩ := H1.out (by omega)
      obtain ⟨b2, o2, rfl, -, c2⟩ := H2.out (by omega)
      obtain ⟨x1, x2⟩ := c1 _ huw i hlt
      obtain ⟨y1, y2⟩ := c2 _ huw i hlt
      have nq := pairNeq' (ps.getD i pdx)
      clear c1 c2
      generalize ps.getD i pdx = z at x1 x2 y1 y2 nq
      go_wp2_with fail
      go_quiet (fail)
      go_wp2
      go_roundw
      case rel => exact ⟨i + 1, by omega, by go_num, m + nq, by rw [HM.out, drewN_two]⟩
      case measure => simp [intOf] <;> omega
    · have hlt2 : ¬ (i : Int) < (n : Int) := by omega
      go_wp2
      go_ret
      exact ⟨rfl, m, HM.out⟩
def pfnd (ps : List PX) (x : PX) : Nat → Nat → Int
  | 0, _ => -1
  | f + 1, i => if peq (ps.getD i pdx) x = true then i else pfnd ps x f (i + 1)
theorem findP_idle (p : Addr) (w : World) :
    CallsD Try.prog 65 #[.pointer (some p)] .returning w fun e u' w' => e = .returned (.tuple #[]) ∧ u' = .returning ∧ w' = w := by
  refine callsD_of_wpS Try.func65 rfl fun c₀ cs hu => ?_
  apply wpS_seq
  apply wpS_region
  simp [wpOpsS, go_sem, recoverD, hu, Try.ntmps65, Exit.thenS]
  refine wpS_cond (t := false) (by simp [Act.eval, Array.replicate]) ?_
  simp only [Bool.false_eq_true, if_false]
  refine wpS_of_wp (wp_skip ?_)
  cases c₀
  simp_all [bodyPostS, results, Try.results65]
set_option maxRecDepth 100000 in
set_option maxHeartbeats 2000000 in
theorem findP_ (v : Value) (ps : List PX) (x : PX) (w : World) (hv : PL w v ps) (hn : ps.length ≤ 100000000) :
    Calls Try.prog 42 #[v, .agg #[.int .i8 x.1, .string x.2]] w fun e w' => e = .returned (.int .i64 (pfnd ps x ps.length 0)) ∧ Up w w' := by
  have hmf : ∀ (fn : Fn) (first cap : Array Value) (w : World), (Instr.makeFunc fn first cap).run Try.prog w = .ok (.func fn first cap) w := fun _ _ _ _ => rfl
  obtain ⟨a1, k1, rfl, -, h1⟩ := pl_at hv
  obtain ⟨n, hn0⟩ : ∃ n, n = ps.length := ⟨_, rfl⟩
  obtain ⟨M, hM⟩ : ∃ M, M = pfnd ps x n 0 := ⟨_, rfl⟩
  rw [← hn0] at hn h1 ⊢
  rw [← hM]
  have H1 : Hid _ := h1
  have HM : Hid (M = pfnd ps x n 0) := hM
  clear hv h1 hn0 hM
  go_enter_defers Try.func42, Try.ntmps42
  go_wp2
  obtain ⟨W1, hW1⟩ : ∃ W, W = (w.alloc (.cells #[.int .i8 x.1, .string x.2] 82)).alloc (.cells #[.int .i64 0] 3) := ⟨_, rfl⟩
  have HU : Hid (Up w W1) := by unfold Hid; rw [hW1]; exact ((Up.refl _).alloc _).alloc _
  obtain ⟨xb, hxb⟩ : ∃ xb, xb = w.heap.size := ⟨_, rfl⟩
  obtain ⟨rb, hrb⟩ : ∃ rb, rb = w.heap.size + 1 := ⟨_, rfl⟩
  have HXB : Hid (W1.heap[xb]? = some (.cells #[.int .i8 x.1, .string x.2] 82 (0, 0))) := by
    unfold Hid; rw [hW1, hxb, Below.heap_alloc _ _ _ (by simp)]; exact heap_alloc_new w _
  have HRB : Hid (W1.heap[rb]? = some (.cells #[.int .i64 0] 3 (0, 0))) := by
    unfold Hid
    rw [hW1, hrb]
    have := heap_alloc_new (w.alloc (.cells #[.int .i8 x.1, .string x.2] 82)) (.cells #[.int .i64 0] 3)
    simpa using this
  have HRW : Hid (w.heap.size ≤ rb) := by unfold Hid; omega
  rw [← hW1, ← hrb, ← hxb]
  clear hW1 hrb hxb
  go_loopw [10] (fun s10 wr => ∃ i : Nat, i ≤ n ∧ s10 = .int .i64 i ∧ M = pfnd ps x (n - i) i ∧ Up W1 wr) (fun s10 _ => n - (intOf s10).toNat)
  case atStart => exact ⟨0, Nat.zero_le _, rfl, HM.out, Up.refl _⟩
  case round =>
    obtain ⟨i, hi, rfl, hf, hup⟩ := hrel
    clear HM
    have HF : Hid (M = pfnd ps x (n - i) i) := hf
    have HUP : Hid (Up W1 wr) := hup
    have hxw := hup.heap HXB.out
    have hrw := hup.heap HRB.out
    have bx1 : wr.cell? ⟨xb, 0, none⟩ = some (.int .i8 x.1) := by simp [World.cell?, hxw]
    have bx2 : wr.cell? ⟨xb, 1, none⟩ = some (.string x.2) := by simp [World.cell?, hxw]
    have br1 : wr.cell? ⟨rb, 0, none⟩ = some (.int .i64 0) := by simp [World.cell?, hrw]
    have br2 : wr.frozen? ⟨rb, 0, none⟩ = false := by simp [World.frozen?, hrw]
    have lx : xb < wr.heap.size := (Array.getElem?_eq_some_iff.1 hxw).1
    have lr : rb < wr.heap.size := (Array.getElem?_eq_some_iff.1 hrw).1
    clear hf hup hxw hrw
    by_cases hlt : i < n
    · have hlt2 : (i : Int) < (n : Int) := by omega
      obtain ⟨bb, o1, rfl, -, c1⟩ := H1.out (by omega)
      obtain ⟨x1, x2⟩ := c1 _ (HU.out.trans HUP.out) i hlt
      clear c1
      have HF2 : Hid (M = if peq (ps.getD i pdx) x = true then (i : Int) else pfnd ps x (n - (i + 1)) (i + 1)) := by
        unfold Hid
        rw [HF.out, show n - i = n - (i + 1) + 1 by omega, pfnd]
      clear HF
      have eq := pairEql (ps.getD i pdx) x
      generalize ps.getD i pdx = y at *
      by_cases hyz : peq y x = true
      · rw [if_pos hyz] at HF2
        rw [hyz] at eq
        go_wp2
        refine leaves_cons (f := 65) (args := #[.pointer (some ⟨rb, 0, none⟩)]) (by simp) (by simp [go_sem]) ?_
        refine (findP_idle ⟨rb, 0, none⟩ _).mono ?_
        rintro e u' w'' ⟨rfl, rfl, rfl⟩
        have hbe : Up w ((wr.setCell ⟨rb, 0, none⟩ (.int .i64 (i : Int))).alloc (.cells #[.int .i8 y.1, .string y.2] 82)) := Up.alloc (Below.setCell (HU.out.trans HUP.out) HRW.out _) _
        simp [Leaves, settle, results, Try.results42, go_sem, HF2.out, hbe, br1, lr]
      · have hyz2 : peq y x = false := by simpa using hyz
        rw [if_neg hyz] at HF2
        rw [hyz2] at eq
        clear hyz hyz2
        go_wp2
        go_roundw
        case rel => exact ⟨i + 1, by omega, by go_num, HF2.out, HUP.out.alloc _⟩
        case measure => simp [intOf] <;> omega
    · have hlt2 : ¬ (i : Int) < (n : Int) := by omega
      have HM2 : Hid (M = -1) := by unfold Hid; rw [HF.out, show n - i = 0 by omega, pfnd]
      go_wp2
      refine leaves_cons (f := 65) (args := #[.pointer (some ⟨rb, 0, none⟩)]) (by simp) (by simp [go_sem]) ?_
      refine (findP_idle ⟨rb, 0, none⟩ _).mono ?_
      rintro e u' w'' ⟨rfl, rfl, rfl⟩
      have hbe : Up w (wr.setCell ⟨rb, 0, none⟩ (.int .i64 (-1))) := Below.setCell (HU.out.trans HUP.out) HRW.out _
      simp [Leaves, settle, results, Try.results42, go_sem, HM2.out, hbe, br1]
theorem infoPr : (Try.prog.info? 82).map (fun i => (i.zero, i.size, i.bytes)) = some (some (.agg #[.int .i8 0, .string ⟨#[]⟩]), 2, 24) := by kernel_rfl
def olP (ps : List PX) (zs : List Int) : List PX := zs.map (fun z => ps.getD z.toNat pdx)
theorem olP_get (ps : List PX) (zs : List Int) (i : Nat) (hi : i < zs.length) : (olP ps zs).getD i pdx = ps.getD (zs.getD i 0).toNat pdx := by simp [olP, List.getD, hi]
theorem olP_len (ps : List PX) (zs : List Int) : (olP ps zs).length = zs.length := by simp [olP]
def ordLP (ps : List PX) (zs : List Int) : List PX := if zs.length = ps.length ∧ (bk zs).isSome = true then olP ps zs else []
def ordOkP (ps : List PX) (zs : List Int) : Bool := decide (zs.length = ps.length ∧ (bk zs).isSome = true)
def OPostP (w : World) (ps : List PX) (zs : List Int) (e : Ending) (w' : World) : Prop := ∃ cv, e = .returned (.tuple #[cv, .bool (ordOkP ps zs)]) ∧ PL w' cv (ordLP ps zs) ∧ Up w w'
theorem pl_nil (W : World) : PL W (.slice none 0 0) [] := ⟨none, 0, rfl, Nat.le_refl _, fun h => absurd rfl h⟩
theorem oP_none {w w' : World} {ps : List PX} {zs : List Int} (h : ¬ (zs.length = ps.length ∧ (bk zs).isSome = true)) (u : Up w w') : OPostP w ps zs (.returned (.tuple #[.slice none 0 0, .bool false])) w' :=
  ⟨.slice none 0 0, by rw [ordOkP, decide_eq_false h], by rw [ordLP, if_neg h]; exact pl_nil _, u⟩
theorem row_atP {W : World} {gl : Nat} {cs : List Value} (h : W.heap[gl]? = some (.cells cs.toArray 82 (0, 0))) (i : Nat) : W.cell? ⟨gl, i, none⟩ = cs[i]? ∧ W.frozen? ⟨gl, i, none⟩ = false := ⟨by simp [World.cell?, h], by simp [World.frozen?, h]⟩
theorem row_putP {W : World} {gl : Nat} {cs : List Value} (h : W.heap[gl]? = some (.cells cs.toArray 82 (0, 0))) (i : Nat) (a b : Value) : ((W.setCell ⟨gl, i, none⟩ a).setCell ⟨gl, i + 1, none⟩ b).heap[gl]? = some (.cells ((cs.set i a).set (i + 1) b).toArray 82 (0, 0)) := by
  simp only [World.setCell, Array.getElem?_modify]
  rw [h]
  simp
set_option maxRecDepth 100000 in
set_option maxHeartbeats 4000000 in
theorem orderP_ (v u : Value) (ps : List PX) (zs : List Int) (w : World) (hv : PL w v ps) (hu : LiesI w u zs) (hn : ps.length ≤ 10000000) (hm : zs.length ≤ 10000000) :
    Calls Try.prog 44 #[v, u] w (OPostP w ps zs) := by
  obtain ⟨iT, hiT, z0, z1, z2⟩ := info_parts infoPr
  obtain ⟨Post, hPost⟩ : ∃ P : Ending → World → Prop, P = OPostP w ps zs := ⟨_, rfl⟩
  rw [← hPost]
  have HPo : Hid (Post = OPostP w ps zs) := hPost
  have HIS : Hid _ := is_ u zs w hu hm
  obtain ⟨a1, k1, rfl, -, h1⟩ := pl_at hv
  obtain ⟨a2, k2, rfl, h2⟩ := lies_at hu
  have H1 : Hid _ := h1
  have H2 : Hid _ := h2
  clear hv hu h1 h2 hPost
  by_cases hne : zs.length = ps.length
  · rw [hne] at HIS ⊢
    obtain ⟨n, hn0⟩ : ∃ n, n = ps.length := ⟨_, rfl⟩
    have HN : Hid (zs.length = n ∧ ps.length = n) := ⟨by rw [hne, hn0], hn0.symm⟩
    rw [← hn0] at HIS hn ⊢
    clear hne hn0 hm
    go_enter Try.func44, Try.ntmps44
    go_wp2_with fail
    refine Calls.mono HIS.out ?_
    rintro e w1 ⟨rfl, u1⟩
    have HU1 : Hid (Up w w1) := u1
    clear u1 HIS
    by_cases hb : (bk zs).isSome = true
    · have HIN := bk_in zs hb
      have HIN2 : Hid _ := HIN
      have HOK : Hid (ordOkP ps zs = true ∧ ordLP ps zs = olP ps zs) := ⟨by rw [ordOkP, decide_eq_true ⟨by rw [HN.out.1, HN.out.2], hb⟩], by rw [ordLP, if_pos ⟨by rw [HN.out.1, HN.out.2], hb⟩]⟩
      rw [hb]
      clear hb HIN
      obtain ⟨g, hg⟩ : ∃ g, g = w1.heap.size := ⟨_, rfl⟩
      have HG : Hid (g = w1.heap.size) := hg
      go_wp2_with (at_make; refine wpList_make_full _ rfl _ _ 79 rfl w1.heap.size 82 iT (.agg #[.int .i8 0, .string ⟨#[]⟩]) 2 Try.underlying79 hiT z0 z1 .i64 .i64 _ _ n rfl rfl rfl rfl (by rw [z2]; omega) (by unfold maxLen; omega) (Nat.le_refl _) ?_; intro w2 hin hg1)
      have HI : Hid (∃ cs : List Value, w2.heap[g]? = some (.cells cs.toArray 82 (0, 0)) ∧ cs.length = n * 2 ∧ Up w1 w2) := ⟨_, by rw [hg]; exact row_made hin, by have := hin.1; omega, made_up hg1⟩
      rw [← hg]
      clear hin hg1 hg
      go_loopw [24] (fun s24 W => ∃ (i : Nat) (cs : List Value), i ≤ n ∧ s24 = .int .i64 i ∧ W.heap[g]? = some (.cells cs.toArray 82 (0, 0)) ∧ cs.length = n * 2 ∧ (∀ q, q < i → cs[q * 2]? = some (.int .i8 ((olP ps zs).getD q pdx).1) ∧ cs[q * 2 + 1]? = some (.string ((olP ps zs).getD q pdx).2)) ∧ Up w1 W) (fun s24 _ => n - (intOf s24).toNat)
      case atStart => obtain ⟨cs, x1, x2, x3⟩ := HI.out; exact ⟨0, cs, Nat.zero_le _, rfl, x1, x2, fun q hq => by omega, x3⟩
      case round =>
        obtain ⟨i, cs, hi, rfl, hrow, hcl, hq, hu⟩ := hrel
        clear HI
        by_cases hlt : i < n
        · have hlt2 : (i : Int) < (n : Int) := by omega
          obtain ⟨y, hy, hyl⟩ := HIN2.out i (by rw [HN.out.1]; exact hlt)
          rw [HN.out.1] at hyl
          obtain ⟨b1, o1, rfl, -, c1⟩ := H1.out (by rw [HN.out.2]; omega)
          obtain ⟨b2, o2, rfl, -, c2⟩ := H2.out (by rw [HN.out.1]; omega)
          have x2 := c2 _ (HU1.out.trans hu) i (by rw [HN.out.1]; exact hlt)
          obtain ⟨x1, x3⟩ := c1 _ (HU1.out.trans hu) y (by rw [HN.out.2]; exact hyl)
          rw [hy] at x2
          have hyl2 : (y : Int) < (n : Int) := by omega
          have hog := olP_get ps zs i (by rw [HN.out.1]; exact hlt)
          rw [hy, Int.toNat_natCast] at hog
          obtain ⟨z, hz⟩ : ∃ z, z = ps.getD y pdx := ⟨_, rfl⟩
          rw [← hz] at x1 x3 hog
          obtain ⟨p1, pf1⟩ := row_atP hrow (i * 2)
          obtain ⟨p2, pf2⟩ := row_atP hrow (i * 2 + 1)
          rw [List.getElem?_eq_getElem (by omega)] at p1 p2
          generalize cs[i * 2]'(by omega) = q1 at p1
          generalize cs[i * 2 + 1]'(by omega) = q2 at p2
          have pf3 : ∀ a, (wr.setCell ⟨g, i * 2, none⟩ a).frozen? ⟨g, i * 2 + 1, none⟩ = false := fun a => by rw [World.frozen?_setCell]; exact pf2
          have HR : Hid (∃ cs : List Value, ((wr.setCell ⟨g, i * 2, none⟩ (.int .i8 z.1)).setCell ⟨g, i * 2 + 1, none⟩ (.string z.2)).heap[g]? = some (.cells cs.toArray 82 (0, 0)) ∧ cs.length = n * 2 ∧ (∀ q, q < i + 1 → cs[q * 2]? = some (.int .i8 ((olP ps zs).getD q pdx).1) ∧ cs[q * 2 + 1]? = some (.string ((olP ps zs).getD q pdx).2)) ∧ Up w1 ((wr.setCell ⟨g, i * 2, none⟩ (.int .i8 z.1)).setCell ⟨g, i * 2 + 1, none⟩ (.string z.2))) := by
            refine ⟨(cs.set (i * 2) (.int .i8 z.1)).set (i * 2 + 1) (.string z.2), row_putP hrow (i * 2) _ _, by simpa using hcl, fun q hq' => ?_, Below.setCell (Below.setCell hu (by rw [HG.out]; exact Nat.le_refl _) _) (by rw [HG.out]; exact Nat.le_refl _) _⟩
            by_cases e : q = i
            · subst e
              rw [hog]
              exact ⟨by rw [List.getElem?_set_ne (by omega), List.getElem?_set_self (by omega)], by rw [List.getElem?_set_self (by simp; omega)]⟩
            · have := hq q (by omega)
              exact ⟨by rw [List.getElem?_set_ne (by omega), List.getElem?_set_ne (by omega)]; exact this.1, by rw [List.getElem?_set_ne (by omega), List.getElem?_set_ne (by omega)]; exact this.2⟩
          clear hrow hcl hq hu c1 c2 hy hz hog
          go_wp2
          go_roundw
          case rel => obtain ⟨cs, x1, x2, x3, x4⟩ := HR.out; exact ⟨i + 1, cs, by omega, by go_num, x1, x2, x3, x4⟩
          case measure => simp [intOf] <;> omega
        · obtain rfl : i = n := by omega
          have hlt2 : ¬ (i : Int) < (i : Int) := by omega
          have HF : Hid (OPostP w ps zs (.returned (.tuple #[.slice (some ⟨g, 0, none⟩) i i, .bool true])) wr) := by
            refine ⟨.slice (some ⟨g, 0, none⟩) i i, by rw [HOK.out.1], ?_, HU1.out.trans hu⟩
            rw [HOK.out.2]
            refine ⟨some ⟨g, 0, none⟩, i, by rw [olP_len, HN.out.1], by rw [olP_len, HN.out.1]; exact Nat.le_refl _, fun _ => ⟨g, 0, rfl, fun q hq' => ?_⟩⟩
            rw [olP_len, HN.out.1] at hq'
            rw [Nat.zero_add, (row_atP hrow _).1, (row_atP hrow _).1]
            exact hq q hq'
          clear hrow hcl hq hu
          go_wp2
          rw [HPo.out]
          exact HF.out
    · have hb2 : (bk zs).isSome = false := by simpa using hb
      rw [hb2]
      have HF : Hid _ := oP_none (w := w) (w' := w1) (ps := ps) (zs := zs) (fun h => hb h.2) HU1.out
      clear hb hb2
      go_wp2
      rw [HPo.out]
      exact HF.out
  · have HF : Hid _ := oP_none (w := w) (w' := w) (ps := ps) (zs := zs) (fun h => hne h.1) (Up.refl _)
    generalize zs.length = m at *
    generalize ps.length = n at *
    have hne2 : ((m : Int) == (n : Int)) = false := beq_eq_false_iff_ne.2 (by omega)
    have hne3 : ¬ m = n := hne
    clear HIS H1 H2
    go_enter Try.func44, Try.ntmps44
    go_wp2
    rw [HPo.out]
    exact HF.out
end PR
end Go.Proofs.Ytnmoaebmopjmhaa
