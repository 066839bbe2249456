
/-
  The document's Find, Cut and Put over ints.
-/
import Derived.Test.YtgonflnmkfgfhaaInts
namespace Go.Proofs.Ytgonflnmkfgfhaa
open Go.RowKit
attribute [local go_sem ↓] Go.wp_at_zero Go.wp_at_succ

namespace IN
def fnd (zs : List Int) (z : Int) : Nat → Nat → Int
  | 0, _ => -1
  | f + 1, i => if zs.getD i 0 = z then i else fnd zs z f (i + 1)
def iv (zs : List Int) : List Value := zs.flatMap fun z => [.int .i64 z]
theorem iv_len (zs : List Int) : (iv zs).length = zs.length := by
  have := flat_len (fun z : Int => [Value.int .i64 z]) 1 (fun _ => rfl) zs
  rw [Nat.mul_one] at this
  exact this
theorem iv_get (zs : List Int) (i : Nat) (hi : i < zs.length) : (iv zs)[i]? = some (.int .i64 (zs.getD i 0)) := by
  have := flat_get (fun z : Int => [Value.int .i64 z]) 1 (fun _ => rfl) 0 zs i 0 hi (by decide)
  rw [Nat.mul_one, Nat.add_zero] at this
  exact this
theorem iv_app (a b : List Int) : iv (a ++ b) = iv a ++ iv b := by simp [iv]
theorem own_lies {W : World} {base : Nat} {v : Value} {zs : List Int} (h : W.ownsRow base 3 1 v zs.length (iv zs)) : LiesI W v zs := by
  obtain ⟨a, cap, rfl⟩ := row_val h
  refine ⟨a, cap, rfl, fun hn => ?_⟩
  obtain ⟨g, cap', -, -, e⟩ := row_some h (by omega)
  cases e
  refine ⟨g, 0, rfl, fun i hi => ?_⟩
  rw [Nat.zero_add, h.cellAt i (by omega)]
  exact iv_get zs i hi
set_option maxHeartbeats 1000000 in
theorem rcut_bad (v : Value) (zs : List Int) (at_ : Int) (w : World) (hv : LiesI w v zs) (hb : at_ < 0 ∨ (zs.length : Int) ≤ at_) :
    Calls Try.prog 41 #[v, .int .i64 at_] w fun e w' => e = .returned (.tuple #[.slice none 0 0, .int .i64 0, .bool false]) ∧ w' = w := by
  obtain ⟨a, cap, rfl, -⟩ := hv
  generalize zs.length = n at *
  have hb' : at_ < 0 ∨ (0 ≤ at_ ∧ (n : Int) ≤ at_) := by omega
  clear hb
  rcases hb' with hb | ⟨hb, hb2⟩
  · go_enter Try.func41, Try.ntmps41
    go_wp2
    go_ret3
    exact ⟨rfl, rfl⟩
  · go_enter Try.func41, Try.ntmps41
    go_wp2
    go_ret3
    exact ⟨rfl, rfl⟩
set_option maxHeartbeats 1000000 in
theorem rput_bad (v : Value) (zs : List Int) (at_ x : Int) (w : World) (hv : LiesI w v zs) (hb : at_ < 0 ∨ (zs.length : Int) < at_) :
    Calls Try.prog 37 #[v, .int .i64 at_, .int .i64 x] w fun e w' => e = .returned (.tuple #[.slice none 0 0, .bool false]) ∧ w' = w := by
  obtain ⟨a, cap, rfl, -⟩ := hv
  generalize zs.length = n at *
  have hb' : at_ < 0 ∨ (0 ≤ at_ ∧ (n : Int) < at_) := by omega
  clear hb
  rcases hb' with hb | ⟨hb, hb2⟩
  · go_enter Try.func37, Try.ntmps37
    go_wp2
    go_ret2
    exact ⟨rfl, rfl⟩
  · go_enter Try.func37, Try.ntmps37
    go_wp2
    go_ret2
    exact ⟨rfl, rfl⟩
/- one int more at a list's end -/
theorem own_app {w W W4 : World} {v v' : Value} {xs : List Int} {y : Int} {o : Obj} (hup : Up w W) (hrow : W.ownsRow w.heap.size 3 1 v xs.length (iv xs)) (hown : W4.ownsRow w.heap.size 3 1 v' (xs.length + 1) (iv xs ++ [.int .i64 y])) (hg : (W.alloc o).grownBy W4 v.ownBlock) :
    Up w W4 ∧ W4.ownsRow w.heap.size 3 1 v' (xs ++ [y]).length (iv (xs ++ [y])) := by
  refine ⟨Below.grown (hup.alloc o) hg (Nat.le_trans hup.size (by simp)) (fun k hk => (hrow.lt k hk).1), ?_⟩
  rw [iv_app, List.length_append, List.length_singleton]
  exact hown
theorem out_skipI (L : List Int) (k : Nat) (hk : k < L.length) : (L.take (k + 1)).eraseIdx k = (L.take k).eraseIdx k := by
  have hl : (L.take k).length = k := by rw [List.length_take]; omega
  rw [List.take_add_one, List.getElem?_eq_getElem hk, Option.toList_some, List.eraseIdx_append_of_length_le (by rw [hl]; exact Nat.le_refl _), hl, Nat.sub_self, List.eraseIdx_of_length_le (l := L.take k) (by rw [hl]; exact Nat.le_refl _)]
  simp
theorem out_stepI (L : List Int) (k at_ : Nat) (hk : k < L.length) (h : k ≠ at_) : (L.take (k + 1)).eraseIdx at_ = (L.take k).eraseIdx at_ ++ [L.getD k 0] := by
  have e : L.getD k 0 = L[k] := by rw [List.getD_eq_getElem?_getD, List.getElem?_eq_getElem hk]; rfl
  have hl : (L.take k).length = k := by rw [List.length_take]; omega
  rw [List.take_add_one, List.getElem?_eq_getElem hk, Option.toList_some, e]
  by_cases hlt : at_ < k
  · rw [List.eraseIdx_append_of_lt_length (by rw [hl]; exact hlt)]
  · rw [List.eraseIdx_append_of_length_le (by rw [hl]; omega), List.eraseIdx_of_length_le (l := L.take k) (by rw [hl]; omega), List.eraseIdx_of_length_le (by rw [hl, List.length_singleton]; omega)]
def RCutPost (w : World) (zs : List Int) (k : Nat) (e : Ending) (w' : World) : Prop := ∃ v', e = .returned (.tuple #[v', .int .i64 (zs.getD k 0), .bool true]) ∧ LiesI w' v' (zs.eraseIdx k) ∧ Up w w'
set_option maxRecDepth 100000 in
set_option maxHeartbeats 4000000 in
theorem rcut (v : Value) (zs : List Int) (k : Nat) (w : World) (hv : LiesI w v zs) (hk : k < zs.length) (hn : zs.length ≤ 10000000) :
    Calls Try.prog 41 #[v, .int .i64 k] w (RCutPost w zs k) := by
  obtain ⟨iT, hiT, z0, z1, z2⟩ := info_parts infoT
  obtain ⟨Post, hPost⟩ : ∃ P : Ending → World → Prop, P = RCutPost w zs k := ⟨_, rfl⟩
  rw [← hPost]
  have HPost : Hid (Post = RCutPost w zs k) := hPost
  obtain ⟨a1, k1, rfl, h1⟩ := lies_at hv
  obtain ⟨n, hn0⟩ : ∃ n, n = zs.length := ⟨_, rfl⟩
  have HN : Hid (n = zs.length) := hn0
  rw [← hn0] at hn hk h1 ⊢
  obtain ⟨b1, o1, rfl, hb1, c1⟩ := h1 (by omega)
  have H1 : Hid _ := c1
  have hk2 : (k : Int) < (n : Int) := by omega
  have hk0 : ¬ (k : Int) < 0 := by omega
  have hk3 : ¬ (n : Int) ≤ (k : Int) := by omega
  have hk4 : ¬ n ≤ k := by omega
  clear hv h1 hn0 hPost c1
  go_enter Try.func41, Try.ntmps41
  go_wp2_with fail
  go_loopw [7, 8] (fun ov s8 wq => ∃ q : Nat, q ≤ n ∧ s8 = .int .i64 q ∧ wq.ownsRow w.heap.size 3 1 ov ((zs.take q).eraseIdx k).length (iv ((zs.take q).eraseIdx k)) ∧ Up w wq) (fun _ s8 _ => n - (intOf s8).toNat)
  case atStart => exact ⟨0, Nat.zero_le _, rfl, World.ownsRow_nil _ _ _ _, Up.refl _⟩
  case round =>
    obtain ⟨q, hq, rfl, hrow, hup⟩ := hrel
    have HUP : Hid (Up w wr) := hup
    have HROW : Hid (wr.ownsRow w.heap.size 3 1 u7 ((zs.take q).eraseIdx k).length (iv ((zs.take q).eraseIdx k))) := hrow
    have hol : ((zs.take q).eraseIdx k).length ≤ 10000000 := by
      have h1 := List.length_eraseIdx_le (l := zs.take q) (i := k)
      rw [List.length_take] at h1
      omega
    obtain ⟨oad, ocap, hov⟩ := row_val hrow
    subst hov
    have hzw : w.heap.size ≤ wr.heap.size := hup.size
    clear hrow hup
    by_cases hqn : q < n
    · have hq1 : (q : Int) < (n : Int) := by omega
      by_cases hqk : q = k
      · subst hqk
        have e1 : ((q : Int) == (q : Int)) = true := by simp
        have HE : Hid _ := out_skipI zs q (by have := HN.out; omega)
        go_wp2
        go_roundw
        case rel => exact ⟨q + 1, by omega, by go_num, by rw [HE.out]; exact HROW.out, HUP.out⟩
        case measure => simp [intOf] <;> omega
      · have e1 : ((q : Int) == (k : Int)) = false := beq_eq_false_iff_ne.2 (by omega)
        have y1 := H1.out wr HUP.out q hqn
        have HE := out_stepI zs q k (by have := HN.out; omega) hqk
        generalize zs.getD q 0 = y at y1 HE
        have HE2 : Hid _ := HE
        clear HE
        generalize hcn : (zs.take q).eraseIdx k = cl at *
        have hz : b1 < wr.heap.size := World.block_lt_of_cell? wr _ y1
        have HOA : Hid ((wr.alloc (.cells #[.int .i64 y] 3)).ownsRow w.heap.size 3 1 (.slice oad cl.length ocap) cl.length (iv cl)) := HROW.out.alloc _
        generalize hcl : cl.length = cn at *
        have HCN : Hid (cl.length = cn) := hcl
        clear hcn hcl
        go_wp2_with (at_builtin; refine wpList_append_own _ rfl (.tmp 26) (.tmp 31) 37 rfl w.heap.size 3 iT (.int .i64 0) 1 8 Try.underlying37 hiT z0 z1 z2 rfl (by decide) _ _ _ rfl HOA.out ⟨wr.heap.size, 0, none⟩ 1 1 [.int .i64 y] rfl rfl (World.news_of_block (cs := #[.int .i64 y]) (heap_alloc_new wr _)) (by simp [Value.oneCell']) (by unfold maxLen; omega) (by omega) (by simp; omega) ?_; intro v' W4 hown hgrow hkeep)
        have hap := own_app (y := y) (v' := v') HUP.out (by rw [HCN.out]; exact HROW.out) (by rw [HCN.out]; exact hown) hgrow
        have HAP : Hid _ := hap
        clear hown hgrow hkeep hap
        go_wp2
        go_roundw
        case rel => exact ⟨q + 1, by omega, by go_num, by rw [HE2.out]; exact HAP.out.2, HAP.out.1⟩
        case measure => simp [intOf] <;> omega
    · obtain rfl : q = n := by omega
      have hq1 : ¬ (q : Int) < (q : Int) := by omega
      have y1 := H1.out wr HUP.out k hk
      have HF : Hid (LiesI wr (.slice oad ((zs.take q).eraseIdx k).length ocap) (zs.eraseIdx k)) := by
        have := HROW.out
        rw [List.take_of_length_le (by have := HN.out; omega)] at this ⊢
        exact own_lies this
      clear HROW
      generalize ((zs.take q).eraseIdx k).length = cn at *
      obtain ⟨y, hy⟩ : ∃ y, y = zs.getD k 0 := ⟨_, rfl⟩
      have HY : Hid (y = zs.getD k 0) := hy
      rw [← hy] at y1
      clear hy
      go_wp2_with fail
      go_quiet (fail)
      go_wp2
      rw [HPost.out]
      unfold RCutPost
      rw [← HY.out]
      exact ⟨_, rfl, HF.out.up ((Up.refl _).drewN _), HUP.out.drewN _⟩
/- one int put in -/
def pre (zs : List Int) (k : Nat) (x : Int) (i : Nat) : List Int := if k < i then (zs.take i).take k ++ x :: (zs.take i).drop k else zs.take i
theorem take_more (zs : List Int) (i : Nat) (hi : i < zs.length) : zs.take (i + 1) = zs.take i ++ [zs.getD i 0] := by
  rw [List.take_add_one, List.getD_eq_getElem?_getD, List.getElem?_eq_getElem hi]; rfl
theorem pre_at (zs : List Int) (k : Nat) (x : Int) (hk : k < zs.length) : pre zs k x (k + 1) = (pre zs k x k ++ [x]) ++ [zs.getD k 0] := by
  have hl : (zs.take k).length = k := by rw [List.length_take]; omega
  unfold pre
  rw [if_pos (by omega), if_neg (by omega), take_more zs k hk, List.take_append_of_le_length (by omega), List.take_of_length_le (by omega), List.drop_append_of_le_length (by omega), List.drop_of_length_le (by omega)]
  simp
theorem pre_end (zs : List Int) (x : Int) : pre zs zs.length x (zs.length + 1) = pre zs zs.length x zs.length ++ [x] := by
  unfold pre
  rw [if_pos (by omega), if_neg (by omega), List.take_of_length_le (by omega : zs.length ≤ zs.length + 1)]
  simp
theorem pre_step (zs : List Int) (k : Nat) (x : Int) (i : Nat) (hi : i < zs.length) (h : i ≠ k) : pre zs k x (i + 1) = pre zs k x i ++ [zs.getD i 0] := by
  have hl : (zs.take i).length = i := by rw [List.length_take]; omega
  unfold pre
  by_cases hk : k < i
  · rw [if_pos (by omega), if_pos hk, take_more zs i hi, List.take_append_of_le_length (by omega), List.drop_append_of_le_length (by omega)]
    simp
  · rw [if_neg (by omega), if_neg hk, take_more zs i hi]
theorem pre_last (zs : List Int) (k : Nat) (x : Int) (h : k < zs.length) : pre zs k x (zs.length + 1) = pre zs k x zs.length := by
  unfold pre
  rw [if_pos (by omega), if_pos h, List.take_of_length_le (by omega : zs.length ≤ zs.length + 1), List.take_of_length_le (Nat.le_refl _)]
theorem pre_all (zs : List Int) (k : Nat) (x : Int) (h : k ≤ zs.length) : pre zs k x (zs.length + 1) = zs.take k ++ x :: zs.drop k := by
  unfold pre
  rw [if_pos (by omega), List.take_of_length_le (by omega : zs.length ≤ zs.length + 1)]
theorem pre_len (zs : List Int) (k : Nat) (x : Int) (i : Nat) : (pre zs k x i).length ≤ zs.length + 1 := by
  unfold pre
  split
  · simp only [List.length_append, List.length_cons, List.length_take, List.length_drop]; omega
  · rw [List.length_take]; omega
def RPutPost (w : World) (zs : List Int) (k : Nat) (x : Int) (e : Ending) (w' : World) : Prop := ∃ v', e = .returned (.tuple #[v', .bool true]) ∧ LiesI w' v' (zs.take k ++ x :: zs.drop k) ∧ Up w w'
set_option maxRecDepth 100000 in
set_option maxHeartbeats 4000000 in
theorem rput (v : Value) (zs : List Int) (k : Nat) (x : Int) (w : World) (hv : LiesI w v zs) (hk : k ≤ zs.length) (hn : zs.length ≤ 10000000) :
    Calls Try.prog 37 #[v, .int .i64 k, .int .i64 x] w (RPutPost w zs k x) := by
  obtain ⟨iT, hiT, z0, z1, z2⟩ := info_parts infoT
  obtain ⟨Post, hPost⟩ : ∃ P : Ending → World → Prop, P = RPutPost w zs k x := ⟨_, rfl⟩
  rw [← hPost]
  have HPost : Hid (Post = RPutPost w zs k x) := hPost
  obtain ⟨a1, k1, rfl, h1⟩ := lies_at hv
  obtain ⟨n, hn0⟩ : ∃ n, n = zs.length := ⟨_, rfl⟩
  have HN : Hid (n = zs.length) := hn0
  rw [← hn0] at hn hk h1 ⊢
  have H1 : Hid _ := h1
  have hk2 : (k : Int) ≤ (n : Int) := by omega
  have hk0 : ¬ (k : Int) < 0 := by omega
  have hk3 : ¬ (n : Int) < (k : Int) := by omega
  have hk4 : ¬ n < k := by omega
  clear hv h1 hn0 hPost
  go_enter Try.func37, Try.ntmps37
  go_wp2_with fail
  go_loopw [8, 9] (fun ov s9 wq => ∃ q : Nat, q ≤ n + 1 ∧ s9 = .int .i64 q ∧ wq.ownsRow w.heap.size 3 1 ov (pre zs k x q).length (iv (pre zs k x q)) ∧ Up w wq) (fun _ s9 _ => n + 1 - (intOf s9).toNat)
  case atStart => exact ⟨0, Nat.zero_le _, rfl, World.ownsRow_nil _ _ _ _, Up.refl _⟩
  case round =>
    obtain ⟨q, hq, rfl, hrow, hup⟩ := hrel
    have HUP : Hid (Up w wr) := hup
    have HROW : Hid (wr.ownsRow w.heap.size 3 1 u8 (pre zs k x q).length (iv (pre zs k x q))) := hrow
    have hol : (pre zs k x q).length ≤ 10000001 := by
      have h1 := pre_len zs k x q
      have := HN.out
      omega
    obtain ⟨oad, ocap, hov⟩ := row_val hrow
    subst hov
    have hzw : w.heap.size ≤ wr.heap.size := hup.size
    clear hrow hup
    by_cases hqn : q ≤ n
    · have hq1 : (q : Int) ≤ (n : Int) := by omega
      by_cases hqk : q = k
      · subst hqk
        have e1 : ((q : Int) == (q : Int)) = true := by simp
        obtain ⟨cl, hcl⟩ : ∃ cl, cl = pre zs q x q := ⟨_, rfl⟩
        rw [← hcl] at HROW hol ⊢
        have HCL : Hid (cl = pre zs q x q) := hcl
        have HOA : Hid ((wr.alloc (.cells #[.int .i64 x] 3)).ownsRow w.heap.size 3 1 (.slice oad cl.length ocap) cl.length (iv cl)) := HROW.out.alloc _
        generalize hcn : cl.length = cn at *
        have HCN : Hid (cl.length = cn) := hcn
        clear hcn hcl
        by_cases hqn2 : q < n
        · have hq2 : (q : Int) < (n : Int) := by omega
          obtain ⟨b1, o1, rfl, hb1, c1⟩ := H1.out (by omega)
          have H2 : Hid _ := c1
          have HE : Hid (pre zs q x (q + 1) = (cl ++ [x]) ++ [zs.getD q 0]) := by unfold Hid; rw [HCL.out]; exact pre_at zs q x (by have := HN.out; omega)
          obtain ⟨y, hy⟩ : ∃ y, y = zs.getD q 0 := ⟨_, rfl⟩
          have HY : Hid (y = zs.getD q 0) := hy
          clear hy c1
          go_wp2_with (first
            | (at_builtin; refine wpList_append_own _ rfl (.tmp 27) (.tmp 29) 37 rfl w.heap.size 3 iT (.int .i64 0) 1 8 Try.underlying37 hiT z0 z1 z2 rfl (by decide) _ _ _ rfl HOA.out ⟨wr.heap.size, 0, none⟩ 1 1 [.int .i64 x] rfl rfl (World.news_of_block (cs := #[.int .i64 x]) (heap_alloc_new wr _)) (by simp [Value.oneCell']) (by unfold maxLen; omega) (by omega) (by simp; omega) ?_; intro v' W4 hown hgrow hkeep; have HAP : Hid _ := own_app (y := x) (v' := v') HUP.out (by rw [HCN.out]; exact HROW.out) (by rw [HCN.out]; exact hown) hgrow; clear hown hgrow hkeep HOA; obtain ⟨oad4, ocap4, hov4⟩ := row_val HAP.out.2; rw [List.length_append, List.length_singleton, HCN.out] at hov4; subst hov4; have y1 := H2.out W4 HAP.out.1 q hqn2; rw [← HY.out] at y1; have hz4 : b1 < W4.heap.size := World.block_lt_of_cell? W4 _ y1; have hzw4 : w.heap.size ≤ W4.heap.size := HAP.out.1.size; have HOB : Hid ((W4.alloc (.cells #[.int .i64 y] 3)).ownsRow w.heap.size 3 1 (.slice oad4 (cn + 1) ocap4) (cn + 1) (iv (cl ++ [x]))) := (by have := HAP.out.2; rw [List.length_append, List.length_singleton, HCN.out] at this; exact this.alloc _))
            | (at_builtin; refine wpList_append_own _ rfl (.tmp 35) (.tmp 40) 37 rfl w.heap.size 3 iT (.int .i64 0) 1 8 Try.underlying37 hiT z0 z1 z2 rfl (by decide) _ _ _ rfl HOB.out ⟨W4.heap.size, 0, none⟩ 1 1 [.int .i64 y] rfl rfl (World.news_of_block (cs := #[.int .i64 y]) (heap_alloc_new W4 _)) (by simp [Value.oneCell']) (by unfold maxLen; omega) (by omega) (by simp; omega) ?_; intro v5 W5 hown hgrow hkeep; have HAP2 : Hid _ := own_app (xs := cl ++ [x]) (y := y) (v' := v5) HAP.out.1 (by rw [List.length_append, List.length_singleton, HCN.out]; have := HAP.out.2; rw [List.length_append, List.length_singleton, HCN.out] at this; exact this) (by rw [List.length_append, List.length_singleton, HCN.out]; exact hown) hgrow; clear hown hgrow hkeep HOB y1))
          go_roundw
          case rel => exact ⟨q + 1, by omega, by go_num, by rw [HE.out, ← HY.out]; exact HAP2.out.2, HAP2.out.1⟩
          case measure => simp [intOf] <;> omega
        · obtain rfl : q = n := by omega
          have hq2 : ¬ (q : Int) < (q : Int) := by omega
          have HE : Hid (pre zs q x (q + 1) = cl ++ [x]) := by unfold Hid; rw [HCL.out]; have h9 := pre_end zs x; rw [← HN.out] at h9; exact h9
          go_wp2_with (at_builtin; refine wpList_append_own _ rfl (.tmp 27) (.tmp 29) 37 rfl w.heap.size 3 iT (.int .i64 0) 1 8 Try.underlying37 hiT z0 z1 z2 rfl (by decide) _ _ _ rfl HOA.out ⟨wr.heap.size, 0, none⟩ 1 1 [.int .i64 x] rfl rfl (World.news_of_block (cs := #[.int .i64 x]) (heap_alloc_new wr _)) (by simp [Value.oneCell']) (by unfold maxLen; omega) (by omega) (by simp; omega) ?_; intro v' W4 hown hgrow hkeep; have HAP : Hid _ := own_app (y := x) (v' := v') HUP.out (by rw [HCN.out]; exact HROW.out) (by rw [HCN.out]; exact hown) hgrow; clear hown hgrow hkeep HOA)
          go_roundw
          case rel => exact ⟨q + 1, by omega, by go_num, by rw [HE.out]; exact HAP.out.2, HAP.out.1⟩
          case measure => simp [intOf] <;> omega
      · have e1 : ((q : Int) == (k : Int)) = false := beq_eq_false_iff_ne.2 (by omega)
        by_cases hqn2 : q < n
        · have hq2 : (q : Int) < (n : Int) := by omega
          obtain ⟨b1, o1, rfl, hb1, c1⟩ := H1.out (by omega)
          have y1 := c1 wr HUP.out q hqn2
          have HE := pre_step zs k x q (by have := HN.out; omega) hqk
          generalize zs.getD q 0 = y at y1 HE
          have HE2 : Hid _ := HE
          obtain ⟨cl, hcl⟩ : ∃ cl, cl = pre zs k x q := ⟨_, rfl⟩
          rw [← hcl] at HROW hol HE2 ⊢
          have hz4 : b1 < wr.heap.size := World.block_lt_of_cell? wr _ y1
          have HOA : Hid ((wr.alloc (.cells #[.int .i64 y] 3)).ownsRow w.heap.size 3 1 (.slice oad cl.length ocap) cl.length (iv cl)) := HROW.out.alloc _
          generalize hcn : cl.length = cn at *
          have HCN : Hid (cl.length = cn) := hcn
          clear hcn hcl HE c1
          go_wp2_with (at_builtin; refine wpList_append_own _ rfl (.tmp 35) (.tmp 40) 37 rfl w.heap.size 3 iT (.int .i64 0) 1 8 Try.underlying37 hiT z0 z1 z2 rfl (by decide) _ _ _ rfl HOA.out ⟨wr.heap.size, 0, none⟩ 1 1 [.int .i64 y] rfl rfl (World.news_of_block (cs := #[.int .i64 y]) (heap_alloc_new wr _)) (by simp [Value.oneCell']) (by unfold maxLen; omega) (by omega) (by simp; omega) ?_; intro v' W4 hown hgrow hkeep; have HAP : Hid _ := own_app (y := y) (v' := v') HUP.out (by rw [HCN.out]; exact HROW.out) (by rw [HCN.out]; exact hown) hgrow; clear hown hgrow hkeep HOA)
          go_roundw
          case rel => exact ⟨q + 1, by omega, by go_num, by rw [HE2.out]; exact HAP.out.2, HAP.out.1⟩
          case measure => simp [intOf] <;> omega
        · obtain rfl : q = n := by omega
          have hq2 : ¬ (q : Int) < (q : Int) := by omega
          have HE : Hid (pre zs k x (q + 1) = pre zs k x q) := by unfold Hid; rw [HN.out]; exact pre_last zs k x (by have := HN.out; omega)
          generalize hcn : (pre zs k x q).length = cn at *
          have HCN : Hid _ := hcn
          clear hcn
          go_wp2
          go_roundw
          case rel => exact ⟨q + 1, by omega, by go_num, by rw [HE.out, HCN.out]; exact HROW.out, HUP.out⟩
          case measure => simp [intOf] <;> omega
    · obtain rfl : q = n + 1 := by omega
      have hq1 : ¬ (n : Int) + 1 ≤ (n : Int) := by omega
      have HF : Hid (LiesI wr (.slice oad (pre zs k x (n + 1)).length ocap) (zs.take k ++ x :: zs.drop k)) := by
        have h8 := HROW.out
        have h9 := pre_all zs k x (by have := HN.out; omega)
        rw [← HN.out] at h9
        rw [h9] at h8 ⊢
        exact own_lies h8
      clear HROW
      generalize (pre zs k x (n + 1)).length = cn at *
      go_wp2
      rw [HPost.out]
      exact ⟨_, rfl, HF.out, HUP.out⟩
end IN
end Go.Proofs.Ytgonflnmkfgfhaa
