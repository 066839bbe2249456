/-
  within, nexts, sameDraws.
-/
import Derived.Test.YthnpdlbcdaodkaaDoorRD
import Derived.Deep.QuietTactic
namespace Go.Proofs.YthnpdlbcdaodkaaDoor
open Go.RowKit

theorem within_ (n : Int) (most : Nat) (w : World) (hn : -9223372036854775808 ≤ n ∧ n ≤ 9223372036854775807) (hm : most ≤ 1000) :
    Calls Tryd.prog 23 #[.int .i64 n, .int .i64 most] w fun e w' => ∃ k : Nat, k ≤ most ∧ e = .returned (.int .i64 k) ∧ w' = w := by
  by_cases h : n < 0
  · go_enter Tryd.func23, Tryd.ntmps23
    go_wp2
    go_ret
    have h1 := Int.emod_nonneg (-(n + 1)) (b := (most : Int) + 1) (by omega)
    have h2 := Int.emod_lt_of_pos (-(n + 1)) (b := (most : Int) + 1) (by omega)
    refine ⟨(-(n + 1) % ((most : Int) + 1)).toNat, by omega, ret_int ?_, rfl⟩
    rw [Int.toNat_of_nonneg h1, ← Int.tmod_eq_emod_of_nonneg (by omega), Int.neg_tmod]
  · go_enter Tryd.func23, Tryd.ntmps23
    go_wp2
    go_ret
    have h1 := Int.emod_nonneg n (b := (most : Int) + 1) (by omega)
    have h2 := Int.emod_lt_of_pos n (b := (most : Int) + 1) (by omega)
    refine ⟨(n % ((most : Int) + 1)).toNat, by omega, ret_int ?_, rfl⟩
    rw [Int.toNat_of_nonneg h1]
def wv (x : Nat) : Value := .int .u64 (x : Int)
/- the first n draws from the place z on -/
def drw : Nat → Nat → List Nat
  | 0, _ => []
  | n + 1, z => mx (stp z) :: drw n (stp z)
def OwnW (W : World) (N : Nat) (v : Value) (l : List Nat) : Prop := W.ownsRow N 22 1 v l.length (l.map wv)
theorem drw_len (n : Nat) : ∀ z, (drw n z).length = n := by
  induction n with
  | zero => intro z; rfl
  | succ n ih => intro z; simp [drw, ih]
theorem drw_more (n : Nat) : ∀ z, drw (n + 1) z = drw n z ++ [mx (stp (stpN n z))] := by
  induction n with
  | zero => intro z; simp [drw, stpN_zero]
  | succ n ih => intro z; rw [drw, ih, drw, stpN_succ]; rfl
theorem stpN_more (n : Nat) : ∀ z, stp (stpN n z) = stpN (n + 1) z := by
  induction n with
  | zero => intro z; simp [stpN_zero, stpN_succ]
  | succ n ih => intro z; rw [stpN_succ, ih, stpN_succ (n + 1) z]
theorem infoW : (Tryd.prog.info? 22).map (fun i => (i.zero, i.size, i.bytes)) = some (some (.int .u64 0), 1, 8) := by kernel_rfl
theorem onesW (l : List Nat) : ∀ u ∈ l.map wv, u.oneCell' = true := by
  intro u hu
  obtain ⟨c, _, rfl⟩ := List.mem_map.1 hu
  rfl
def NxRel (b z n : Nat) (w : World) (lv i : Value) (wr : World) : Prop := ∃ k : Nat, k ≤ n ∧ i = .int .i64 k ∧ wr.ownsRow w.heap.size 22 1 lv k ((drw k z).map wv) ∧ RDie wr b (stpN k z) ∧ Only b w wr
theorem NxRel.app {b z k : Nat} {w wr W1 : World} {lv v' : Value} {o : Obj} (hb : b < w.heap.size) (hr : wr.ownsRow w.heap.size 22 1 lv k ((drw k z).map wv)) (hd : RDie wr b (stpN k z)) (hO : Only b w wr)
    (hown : W1.ownsRow w.heap.size 22 1 v' (k + 1) ((drw k z).map wv ++ [wv (mx (stp (stpN k z)))])) (hg : ((wr.setCell ⟨b, 0, none⟩ (.int .u64 (stp (stpN k z) : Nat))).alloc o).grownBy W1 lv.ownBlock) :
    W1.ownsRow w.heap.size 22 1 v' (k + 1) ((drw (k + 1) z).map wv) ∧ RDie W1 b (stpN (k + 1) z) ∧ Only b w W1 := by
  have hne : ∀ g, lv.ownBlock = some g → w.heap.size ≤ g := fun g h => (hr.lt g h).1
  have hs : wr.heap.size ≤ W1.heap.size := by have := hg.size; simp at this; omega
  have hs0 := hO.2.1
  refine ⟨?_, ?_, ⟨hg.os.trans hO.1.1, hg.tape.trans hO.1.2.1, hg.output.trans hO.1.2.2⟩, by omega, fun g hgl hgb => ?_⟩
  · rw [drw_more, List.map_append]; exact hown
  · have h1 := hd.set (stp (stpN k z))
    have hbl : b < wr.heap.size := by omega
    unfold RDie
    rw [hg.block b (by simp; omega) (fun e => by have := hne b e.symm; omega), Below.heap_alloc _ _ _ (by simpa using hbl), ← stpN_more]
    exact h1
  · rw [hg.block g (by simp; omega) (fun e => by have := hne g e.symm; omega), Below.heap_alloc _ _ _ (by simp; omega), Below.heap_setCell _ _ _ _ hgb]
    exact hO.2.2 g hgl hgb
theorem cell_new (W : World) (v : Value) (e n : Nat) (h : n = W.heap.size) : (W.alloc (.cells #[v] e)).cell? ⟨n, 0, none⟩ = some v := by subst h; simp
set_option maxRecDepth 100000 in
set_option maxHeartbeats 1000000 in
theorem nexts_ (b n z : Nat) (w : World) (h : RDie w b z) (hn : n ≤ 1000) :
    Calls Tryd.prog 27 #[dieA b, .int .i64 n] w fun e w' => ∃ v, e = .returned v ∧ OwnW w' w.heap.size v (drw n z) ∧ RDie w' b (stpN n z) ∧ Only b w w' := by
  obtain ⟨iW, hiW, z0, z1, z2⟩ := info_parts infoW
  have hlt : b < w.heap.size := (Array.getElem?_eq_some_iff.1 h).1
  obtain ⟨Post, hPost⟩ : ∃ P : Ending → World → Prop, P = fun e w' => ∃ v, e = .returned v ∧ OwnW w' w.heap.size v (drw n z) ∧ RDie w' b (stpN n z) ∧ Only b w w' := ⟨_, rfl⟩
  rw [← hPost]
  have HPost : Hid (Post = fun e w' => ∃ v, e = .returned v ∧ OwnW w' w.heap.size v (drw n z) ∧ RDie w' b (stpN n z) ∧ Only b w w') := hPost
  have HR : Hid (NxRel b z n w (.slice none 0 0) (.int .i64 0) w) := ⟨0, Nat.zero_le _, rfl, World.ownsRow_nil _ _ _ _, by rw [stpN_zero]; exact h, Only.refl _ _⟩
  clear hPost h
  unfold dieA
  go_enter Tryd.func27, Tryd.ntmps27
  go_wp2_with fail
  go_loopw [5, 6] (fun lv i wr => NxRel b z n w lv i wr) (fun _ i _ => n - (intOf i).toNat)
  case atStart => exact HR.out
  case round =>
    obtain ⟨k, hk, rfl, hr, hd, hO⟩ := hrel
    clear HR
    by_cases hlk : k < n
    · have hki : (k : Int) < (n : Int) := by omega
      obtain ⟨ad, lcap, rfl⟩ := row_val hr
      have HD : Hid (RDie wr b (stpN k z)) := hd
      have hrA := (ownsRow_setCell_below hr (a := ⟨b, 0, none⟩) hlt (.int .u64 (stp (stpN k z) : Nat))).alloc (.cells #[wv (mx (stp (stpN k z)))] 22)
      have hc1 := cell_new (wr.setCell ⟨b, 0, none⟩ (.int .u64 (stp (stpN k z) : Nat))) (wv (mx (stp (stpN k z)))) 22 wr.heap.size (by simp)
      have hsz := hO.2.1
      have HA : Hid (∀ (W1 : World) (v' : Value), W1.ownsRow w.heap.size 22 1 v' (k + 1) ((drw k z).map wv ++ [wv (mx (stp (stpN k z)))]) → ((wr.setCell ⟨b, 0, none⟩ (.int .u64 (stp (stpN k z) : Nat))).alloc (.cells #[wv (mx (stp (stpN k z)))] 22)).grownBy W1 (Value.slice ad k lcap).ownBlock → NxRel b z n w v' (.int .i64 ((k + 1 : Nat) : Int)) W1) :=
        fun W1 v' h1 h2 => ⟨k + 1, by omega, rfl, NxRel.app hlt hr hd hO h1 h2⟩
      clear hr hd hO
      unfold wv at hrA hc1
      go_wp2_with fail
      refine (rnext b (stpN k z) wr HD.out).mono ?_
      rintro e w2 ⟨rfl, rfl⟩
      go_wp2_with (at_builtin; refine wpList_append_own _ rfl (.tmp 12) (.tmp 15) 85 rfl w.heap.size 22 iW (.int .u64 0) 1 8 Tryd.underlying85 hiW z0 z1 z2 rfl (by decide) _ _ _ rfl hrA ⟨wr.heap.size, 0, none⟩ 1 1 [wv (mx (stp (stpN k z)))] rfl rfl ?c1 (onesW [mx (stp (stpN k z))]) ?c3 ?c4 ?c5 ?_)
      case c1 =>
        intro j u hj
        cases j with
        | zero => rw [Addr.add_mid, ← hj]; exact hc1
        | succ j => simp at hj
      case c3 => unfold maxLen; omega
      case c4 => omega
      case c5 => simp; omega
      intro v' W1 hown hgrow _
      have HX : Hid (NxRel b z n w v' (.int .i64 ((k + 1 : Nat) : Int)) W1) := HA.out _ _ hown hgrow
      clear hown hgrow hrA hc1 HA HD
      go_wp2
      go_roundw
      case rel => first | exact HX.out | ((repeat apply Exists.intro); exact ⟨HX.out, rfl⟩)
      case measure => simp [intOf]; omega
    · obtain rfl : k = n := by omega
      have HF : Hid (Post (.returned u5) wr) := by
        unfold Hid; rw [HPost.out]
        refine ⟨u5, rfl, ?_, hd, hO⟩
        unfold OwnW
        rw [drw_len]; exact hr
      clear hr hd hO
      go_wp2
      first | exact HF.out | (go_ret; exact HF.out)
def LiesW (W : World) (v : Value) (l : List Nat) : Prop := ∃ a cap, v = .slice a l.length cap ∧ (l.length ≠ 0 → ∃ b, a = some ⟨b, 0, none⟩ ∧ ∀ i, i < l.length → W.cell? ⟨b, i, none⟩ = some (.int .u64 ((l.getD i 0 : Nat) : Int)))
theorem OwnW.lies {W : World} {N : Nat} {v : Value} {l : List Nat} (h : OwnW W N v l) : LiesW W v l := by
  obtain ⟨ad, cap, rfl⟩ := row_val h
  refine ⟨ad, cap, rfl, fun hn => ?_⟩
  obtain ⟨g, cap', _, hge⟩ := row_some h (by omega)
  cases hge
  refine ⟨g, rfl, fun i hi => ?_⟩
  rw [World.ownsRow.cellAt h i (by simpa using hi)]
  simp [List.getD, hi, wv]
set_option maxRecDepth 100000 in
theorem sameDraws_ (v u : Value) (l : List Nat) (w : World) (hv : LiesW w v l) (hu : LiesW w u l) (hm : l.length ≤ 1000) :
    Calls Tryd.prog 26 #[v, u] w fun e w' => e = .returned (.bool true) ∧ Up w w' := by
  obtain ⟨a, cap, rfl, h1⟩ := hv
  obtain ⟨a2, cap2, rfl, h2⟩ := hu
  have H1 : Hid (l.length ≠ 0 → ∃ b, a = some ⟨b, 0, none⟩ ∧ ∀ i, i < l.length → w.cell? ⟨b, i, none⟩ = some (.int .u64 ((l.getD i 0 : Nat) : Int))) := h1
  have H2 : Hid (l.length ≠ 0 → ∃ b, a2 = some ⟨b, 0, none⟩ ∧ ∀ i, i < l.length → w.cell? ⟨b, i, none⟩ = some (.int .u64 ((l.getD i 0 : Nat) : Int))) := h2
  clear h1 h2
  obtain ⟨n, hn⟩ : ∃ n, n = l.length := ⟨_, rfl⟩
  rw [← hn]
  have HN : Hid (n = l.length) := hn
  rw [← hn] at hm
  clear hn
  go_enter Tryd.func26, Tryd.ntmps26
  go_wp2_with fail
  go_loopw [5] (fun i wr => ∃ k : Nat, k ≤ n ∧ i = .int .i64 k ∧ Up w wr) (fun i _ => n - (intOf i).toNat)
  case atStart => exact ⟨0, Nat.zero_le _, rfl, Up.refl _⟩
  case round =>
    obtain ⟨k, hk, rfl, hup⟩ := hrel
    have HU : Hid (Up w wr) := hup
    clear hup
    by_cases hlt : k < n
    · have hki : (k : Int) < (n : Int) := by omega
      obtain ⟨b, rfl, hc⟩ := H1.out (by have := HN.out; omega)
      obtain ⟨b2, rfl, hc2⟩ := H2.out (by have := HN.out; omega)
      have c1 := HU.out.cell (hc k (by have := HN.out; omega))
      have c2 := HU.out.cell (hc2 k (by have := HN.out; omega))
      clear hc hc2 H1 H2
      generalize l.getD k 0 = q at c1 c2
      go_wp2_with fail
      go_quiet (fail)
      go_wp2
      go_roundw
      case rel => first | exact ⟨k + 1, by omega, by go_num, HU.out.drewN nq⟩ | ((repeat apply Exists.intro); exact ⟨⟨k + 1, by omega, by go_num, HU.out.drewN nq⟩, rfl⟩)
      case measure => simp [intOf]; omega
    · obtain rfl : k = n := by omega
      go_wp2
      go_ret
      exact ⟨rfl, HU.out⟩
end Go.Proofs.YthnpdlbcdaodkaaDoor
