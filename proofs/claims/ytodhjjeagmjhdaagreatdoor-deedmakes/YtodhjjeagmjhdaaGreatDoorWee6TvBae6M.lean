/- Wee6, Bae6 -/
import Derived.Test.YtodhjjeagmjhdaaGreatDoorEe6VM
import Derived.Test.YtodhjjeagmjhdaaGreatDoorEl6TvDw6M
import Derived.Test.YtodhjjeagmjhdaaGreatDoorMt6TvSqM
import Derived.Deep.MidRow
import Derived.Deep.Cut
import Derived.Test.YtodhjjeagmjhdaaGreatDoorBbTvBwM
namespace Go.Proofs.YtodhjjeagmjhdaaGreatDoor
open Go.RowKit
attribute [local go_sem ↓] Go.wp_at_zero Go.wp_at_succ
namespace DE
open Go.Proofs.YtodhjjeagmjhdaaGreatDoor.ST
theorem setCells_heap {g : Nat} {t : Nat} : ∀ (ys : List Value) (a : Nat) {W : World} {cur : Array Value}, W.heap[g]? = some (.cells cur t (0, 0)) -> a + ys.length <= cur.size -> (W.setCells g a ys).heap[g]? = some (.cells (cur.toList.take a ++ ys ++ cur.toList.drop (a + ys.length)).toArray t (0, 0))
 | [], a, W, cur, h, _ => by
  rw [World.setCells, h]
  simp
 | y :: ys, a, W, cur, h, hl => by
  have hl' : a + 1 + ys.length <= cur.size := by simp at hl; omega
  rw [World.setCells, setCells_heap ys (a + 1) (set_cells h) (by simpa using hl')]
  congr 3
  rw [Array.toList_setIfInBounds, List.set_eq_take_append_cons_drop, if_pos (by simp; omega)]
  have e1 : (cur.toList.take a ++ y :: cur.toList.drop (a + 1)).take (a + 1) = cur.toList.take a ++ [y] := by
   rw [List.take_append]
   have : (cur.toList.take a).length = a := by simp; omega
   rw [this, List.take_of_length_le (by omega), show a + 1 - a = 1 by omega]
   rfl
  have e2 : (cur.toList.take a ++ y :: cur.toList.drop (a + 1)).drop (a + 1 + ys.length) = cur.toList.drop (a + (ys.length + 1)) := by
   rw [List.drop_append]
   have : (cur.toList.take a).length = a := by simp; omega
   rw [this, List.drop_of_length_le (by omega), show a + 1 + ys.length - a = ys.length + 1 by omega, List.drop_succ_cons, List.drop_drop, List.nil_append]
   congr 1
   omega
  rw [e1, e2]
  simp
theorem setCells_other {g b : Nat} : ∀ (ys : List Value) (a : Nat) {W : World}, b ≠ g -> (W.setCells g a ys).heap[b]? = W.heap[b]?
 | [], _, _, _ => rfl
 | y :: ys, a, W, h => by rw [World.setCells, setCells_other ys (a + 1) h]; exact Below.heap_setCell _ _ _ _ h
theorem setCells_up {w : World} {g : Nat} : ∀ (ys : List Value) (a : Nat) {W : World}, Up w W -> w.heap.size <= g -> Up w (W.setCells g a ys)
 | [], _, _, h, _ => h
 | y :: ys, a, W, h, hg => by rw [World.setCells]; exact setCells_up ys (a + 1) (Up.set h _ _ hg) hg
def wEv (l : List Ev) (i : Nat) : Ev := if i < l.length then l.getD i dE else { dE with card := numI i }
def WOrd (base : Nat) (W : World) (x : Value) (l : List Ev) (i : Nat) : Prop := if i < l.length then WI base W x (l.getD i dE).ord else x = .slice none 0 0
theorem WOrd.keep {base : Nat} {W W' : World} {x : Value} {l : List Ev} {i : Nat} (h : WOrd base W x l i) (k : ∀ g cs, base <= g -> W.heap[g]? = some (.cells cs 3 (0, 0)) -> W'.heap[g]? = some (.cells cs 3 (0, 0))) : WOrd base W' x l i := by
 unfold WOrd at h ⊢
 split
 ·rename_i hi
  rw [if_pos hi] at h
  obtain ⟨g, h1, h2, h3⟩ := h
  exact ⟨g, h1, h2, k g _ h1 h3⟩
 ·rename_i hi
  rw [if_neg hi] at h
  exact h
def WE (base : Nat) (W : World) (v : Value) (l : List Ev) : Prop := ∃ (g : Nat) (cs : List Value) (f : Nat -> Value), base <= g /\ v = .slice (some ⟨g, 0, none⟩) l.length (l.length + 64) /\ W.heap[g]? = some (.cells cs.toArray 30 (0, 0)) /\ cs.length = (l.length + 64) * 12 /\ ∀ i, i < l.length + 64 -> (∀ j, j < 12 -> cs[i * 12 + j]? = (evc (wEv l i) (f i))[j]?) /\ WOrd base W (f i) l i
theorem WE.up {base : Nat} {W W' : World} {v : Value} {l : List Ev} (h : WE base W v l) (u : Up W W') : WE base W' v l := by
 obtain ⟨g, cs, f, h1, h2, h3, h4, h5⟩ := h
 exact ⟨g, cs, f, h1, h2, u.heap h3, h4, fun i hi => ⟨(h5 i hi).1, (h5 i hi).2.keep (fun g cs _ hg => u.heap hg)⟩⟩
theorem WE.val {base : Nat} {W : World} {v : Value} {l : List Ev} (h : WE base W v l) : ∃ a c, v = .slice a l.length c := by
 obtain ⟨g, cs, f, h1, h2, h3⟩ := h
 exact ⟨_, _, h2⟩
theorem WE.evs {base : Nat} {W : World} {v : Value} {l : List Ev} (h : WE base W v l) : EVS W v l := by
 obtain ⟨g, cs, f, h1, rfl, h3, h4, h5⟩ := h
 have hf : ∀ i, i < l.length -> ((List.range l.length).map f).getD i nl = f i := fun i hi => by simp [List.getD, hi]
 refine ⟨(List.range l.length).map f, ⟨by rw [evsC_len], some ⟨g, 0, none⟩, l.length + 64, rfl, by omega, fun hn => ⟨g, 0, rfl, fun j hj => ?_⟩⟩, fun i hi => ?_⟩
 ·rw [Nat.zero_add]
  have : W.cell? ⟨g, j, none⟩ = cs[j]? := by simp [World.cell?, h3]
  have e : j / 12 * 12 + j % 12 = j := by rw [Nat.mul_comm]; exact Nat.div_add_mod j 12
  have h6 : j / 12 < l.length := by omega
  have h7 := (h5 (j / 12) (by omega)).1 (j % 12) (by omega)
  have h8 := evsC_get l ((List.range l.length).map f) (j / 12) (j % 12) h6 (by omega)
  rw [e] at h7 h8
  rw [this, h7, h8, hf _ h6, wEv, if_pos h6]
 ·rw [hf i hi]
  have h6 := (h5 i (by omega)).2
  rw [WOrd, if_pos hi] at h6
  exact h6.il
def WEs (base : Nat) (w W : World) (g n : Nat) (l : List Ev) (i : Nat) (cs : List Value) (f : Nat -> Value) : Prop := W.heap[g]? = some (.cells cs.toArray 30 (0, 0)) /\ cs.length = (n + 64) * 12 /\ (∀ q, q < i -> (∀ j, j < 12 -> cs[q * 12 + j]? = (evc (wEv l q) (f q))[j]?) /\ WOrd base W (f q) l q) /\ Up w W
theorem WEs.put {base : Nat} {w W W1 : World} {g n : Nat} {l : List Ev} {i : Nat} {cs : List Value} {f : Nat -> Value} {x : Value} {e : Ev} (h : WEs base w W g n l i cs f) (u : Up W W1) (hi : i < n + 64) (he : e = wEv l i) (hx : WOrd base W1 x l i) (hg : w.heap.size <= g) : ∃ cs' f', WEs base w (W1.setCells g (i * 12) (evc e x).toList) g n l (i + 1) cs' f' := by
 obtain ⟨h1, h2, h3, h4⟩ := h
 have k1 := u.heap h1
 have kp : ∀ g' cs', base <= g' -> W1.heap[g']? = some (.cells cs' 3 (0, 0)) -> (W1.setCells g (i * 12) (evc e x).toList).heap[g']? = some (.cells cs' 3 (0, 0)) := fun g' cs' _ h' => by rw [setCells_other _ _ (heap_ne h' k1 (by decide))]; exact h'
 have k2 := setCells_heap (evc e x).toList (i * 12) k1 (by rw [List.size_toArray, h2]; show i * 12 + 12 <= _; omega)
 have hl12 : (evc e x).toList.length = 12 := rfl
 refine ⟨_, fun q => if q = i then x else f q, k2, ?_, fun q hq => ?_, setCells_up _ _ (h4.trans u) hg⟩
 ·rw [List.length_append, List.length_append, List.length_take, List.length_drop, hl12]
  dsimp only
  omega
 ·have htl : (cs.take (i * 12)).length = i * 12 := by rw [List.length_take]; omega
  by_cases e9 : q = i
  ·subst e9
   refine ⟨fun j hj => ?_, ?_⟩
   ·dsimp only
    rw [if_pos rfl, <- he, List.append_assoc, List.getElem?_append_right (by omega), htl, show q * 12 + j - q * 12 = j by omega, List.getElem?_append_left (by omega), Array.getElem?_toList]
   ·dsimp only
    rw [if_pos rfl]
    exact hx.keep kp
  ·have h5 := h3 q (by omega)
   refine ⟨fun j hj => ?_, ?_⟩
   ·dsimp only
    rw [if_neg e9, List.append_assoc, List.getElem?_append_left (by omega), List.getElem?_take, if_pos (by omega)]
    exact h5.1 j hj
   ·dsimp only
    rw [if_neg e9]
    exact (h5.2.keep (fun g' cs' _ h' => u.heap h')).keep kp
set_option maxRecDepth 100000 in
set_option maxHeartbeats 4000000 in
theorem eqEvents_ (va vb : Value) (l : List Ev) (w : World) (ha : EVS w va l) (hb : EVS w vb l) (hn : l.length <= 4294967296) (hl : ∀ r, r < l.length -> (l.getD r dE).ord.length <= 4294967296) :
  Calls Tryz.prog 28 #[va, vb] w fun e w' => e = .returned (.bool true) /\ Up w w' := by
 obtain ⟨aa, ac, rfl, -, h1⟩ := evs_at ha
 obtain ⟨ba, bc, rfl, -, h2⟩ := evs_at hb
 obtain ⟨n, hn0⟩ : ∃ n, n = l.length := ⟨_, rfl⟩
 have HA : Hid _ := h1
 have HB : Hid _ := h2
 have HL : Hid _ := hl
 rw [<- hn0] at hn HA HB HL ⊢
 clear ha hb h1 h2 hl hn0
 go_enter Tryz.func28, Tryz.ntmps28
 go_wp2_with fail
 go_loopw [4, 5] (fun s4 s5 W => ∃ i : Nat, i <= n /\ s4 = .bool false /\ s5 = .int .i64 i /\ Up w W) (fun _ s5 _ => n - (intOf s5).toNat)
 case atStart => exact ⟨0, Nat.zero_le _, rfl, rfl, Up.refl _⟩
 case round =>
  obtain ⟨i, hi, rfl, rfl, hu⟩ := hrel
  by_cases hlt : i < n
  ·have hlt2 : (i : Int) < (n : Int) := by omega
   obtain ⟨b1, o1, rfl, -, c1⟩ := HA.out (by omega)
   obtain ⟨b2, o2, rfl, -, c2⟩ := HB.out (by omega)
   obtain ⟨xa, xc, hca, hia⟩ := c1 i hlt
   obtain ⟨ya, yc, hcb, hib⟩ := c2 i hlt
   have hl1 := HL.out i hlt
   clear c1 c2
   generalize l.getD i dE = e at *
   have HE : Hid (∀ W, Up wr W -> Calls Tryz.prog 15 #[.agg #[.int .i8 e.kind, .int .i8 e.field, .int .i64 e.card, .int .i64 e.player, .int .i64 e.other, .int .i64 e.fr, .int .i64 e.frAt, .int .i64 e.to_, .int .i64 e.toAt, .int .i32 e.was, .int .i32 e.now, .slice xa e.ord.length xc], .agg #[.int .i8 e.kind, .int .i8 e.field, .int .i64 e.card, .int .i64 e.player, .int .i64 e.other, .int .i64 e.fr, .int .i64 e.frAt, .int .i64 e.to_, .int .i64 e.toAt, .int .i32 e.was, .int .i32 e.now, .slice ya e.ord.length yc]] W fun x w' => x = .returned (.bool true) /\ Up W w') := fun W u => by
    have h9 := eqEvent_ e e _ _ W (hia.up (hu.trans u)) (hib.up (hu.trans u)) hl1
    rw [show eqE e e = true by simp [eqE]] at h9
    exact h9
   clear hia hib hl1
   go_wp2_with fail
   refine (fun key : ∀ W : World, Up wr W -> (?G6 : World -> Prop) W => ?main6) ?kp6
   case main6 =>
    refine wp_region_held_drew (S := fun W9 => Up wr W9) (by kernel_rfl) (Up.drew (Up.refl _)) (fun hHeld => ?_)
    have Ua0 : Up wr wr.drew := Up.drew (Up.refl _)
    refine wpAnyH_take (i := 0) (v := ?_) rfl (by kernel_rfl) (by kernel_rfl) (by kernel_rfl) (fun _ _ _ h => h) (Or.inl ⟨by rfl, ?_⟩) (by assumption) ?_
    rotate_left
    ·intro w9 hSw
     go_simp
     try with_reducible rfl
    simp only [Act.put, List.setIfInBounds_toArray, List.set_cons_zero, List.set_cons_succ, List.getElem_toArray, List.getElem_cons_zero]
    refine wpAnyH_take (i := 1) (v := ?_) rfl (by kernel_rfl) (by kernel_rfl) (by kernel_rfl) (fun _ _ _ h => h) (Or.inl ⟨by rfl, ?_⟩) (by assumption) ?_
    rotate_left
    ·intro w9 hSw
     go_simp
     try with_reducible rfl
    simp only [Act.put, List.setIfInBounds_toArray, List.set_cons_zero, List.set_cons_succ, List.getElem_toArray, List.getElem_cons_zero, List.getElem_cons_succ]
    refine wpAnyH_take (i := 2) (v := ?_) rfl (by kernel_rfl) (by kernel_rfl) (by kernel_rfl) (fun _ _ _ h => h) (Or.inl ⟨by rfl, ?_⟩) (by assumption) ?_
    rotate_left
    ·intro w9 hSw
     go_simp
     try with_reducible rfl
    simp only [Act.put, List.setIfInBounds_toArray, List.set_cons_zero, List.set_cons_succ, List.getElem_toArray, List.getElem_cons_zero, List.getElem_cons_succ]
    refine wpAnyH_take (i := 3) (v := ?_) rfl (by kernel_rfl) (by kernel_rfl) (by kernel_rfl) (fun _ _ _ h => h) (Or.inl ⟨by rfl, ?_⟩) (by assumption) ?_
    rotate_left
    ·intro w9 hSw
     obtain ⟨x0, x1, x2, x3, x4, x5, x6, x7, x8, x9, x10, x11⟩ := hca w9 (hu.trans hSw)
     go_simp
     try with_reducible rfl
    simp only [Act.put, List.setIfInBounds_toArray, List.set_cons_zero, List.set_cons_succ, List.getElem_toArray, List.getElem_cons_zero, List.getElem_cons_succ]
    refine wpAnyH_take (i := 4) (v := ?_) rfl (by kernel_rfl) (by kernel_rfl) (by kernel_rfl) (fun _ _ _ h => h) (Or.inl ⟨by rfl, ?_⟩) (by assumption) ?_
    rotate_left
    ·intro w9 hSw
     go_simp
     try with_reducible rfl
    simp only [Act.put, List.setIfInBounds_toArray, List.set_cons_zero, List.set_cons_succ, List.getElem_toArray, List.getElem_cons_zero, List.getElem_cons_succ]
    refine wpAnyH_take (i := 5) (v := ?_) rfl (by kernel_rfl) (by kernel_rfl) (by kernel_rfl) (fun _ _ _ h => h) (Or.inl ⟨by rfl, ?_⟩) (by assumption) ?_
    rotate_left
    ·intro w9 hSw
     go_simp
     try with_reducible rfl
    simp only [Act.put, List.setIfInBounds_toArray, List.set_cons_zero, List.set_cons_succ, List.getElem_toArray, List.getElem_cons_zero, List.getElem_cons_succ]
    refine wpAnyH_take (i := 6) (v := ?_) rfl (by kernel_rfl) (by kernel_rfl) (by kernel_rfl) (fun _ _ _ h => h) (Or.inl ⟨by rfl, ?_⟩) (by assumption) ?_
    rotate_left
    ·intro w9 hSw
     go_simp
     try with_reducible rfl
    simp only [Act.put, List.setIfInBounds_toArray, List.set_cons_zero, List.set_cons_succ, List.getElem_toArray, List.getElem_cons_zero, List.getElem_cons_succ]
    refine wpAnyH_take (i := 7) (v := ?_) rfl (by kernel_rfl) (by kernel_rfl) (by kernel_rfl) (fun _ _ _ h => h) (Or.inl ⟨by rfl, ?_⟩) (by assumption) ?_
    rotate_left
    ·intro w9 hSw
     obtain ⟨x0, x1, x2, x3, x4, x5, x6, x7, x8, x9, x10, x11⟩ := hcb w9 (hu.trans hSw)
     go_simp
     try with_reducible rfl
    simp only [Act.put, List.setIfInBounds_toArray, List.set_cons_zero, List.set_cons_succ, List.getElem_toArray, List.getElem_cons_zero, List.getElem_cons_succ]
    refine wpAnyH_ready (rs := [8]) (by kernel_rfl) (by simp) ?_
    refine AllReadyH.cons rfl (fun K hK => ?_) AllReadyH.nil
    simp only [List.getElem_toArray, List.getElem_cons_zero, List.getElem_cons_succ]
    go_simp
    refine Calls.mono (HE.out _ Ua0) ?_
    rintro r9 Wa1 ⟨rfl, ua1⟩
    go_simp
    have Ua1 := Ua0.trans ua1
    refine hK.out _ _ ?_ (fun hHeld => ?_)
    ·exact Ua1
    clear hK K
    try simp only [Act.put, List.setIfInBounds_toArray, List.set_cons_zero, List.set_cons_succ]
    have hSS := Ua1
    refine wpAnyH_take (i := 9) (v := ?_) rfl (by kernel_rfl) (by kernel_rfl) (by kernel_rfl) (fun _ _ _ h => h) (Or.inl ⟨by rfl, ?_⟩) (by assumption) ?_
    rotate_left
    ·intro w9 hSw
     go_simp
     try with_reducible rfl
    simp only [Act.put, List.setIfInBounds_toArray, List.set_cons_zero, List.set_cons_succ, List.getElem_toArray, List.getElem_cons_zero, List.getElem_cons_succ]
    refine wpAnyH_done (by kernel_rfl) ?_ _
    exact key Wa1 Ua1
   case kp6 =>
    intro W7 U7
    have HU7 : Hid (Up w W7) := hu.trans U7
    clear hu U7 HE hca hcb
    go_wp2
    go_roundw
    case rel => exact ⟨i + 1, by omega, rfl, by go_num, HU7.out⟩
    case measure => simp [intOf]; omega
  ·have hlt2 : ¬ (i : Int) < (n : Int) := by omega
   have HU7 : Hid (Up w wr) := hu
   clear hu
   go_wp2
   go_ret
   exact ⟨rfl, HU7.out⟩
end DE
end Go.Proofs.YtodhjjeagmjhdaaGreatDoor
namespace Go.Proofs.YtodhjjeagmjhdaaGreatDoor
open Go.RowKit
attribute [local go_sem ↓] Go.wp_at_zero Go.wp_at_succ
namespace DE
open Go.Proofs.YtodhjjeagmjhdaaGreatDoor.ST
theorem infoAEvents : (Tryz.prog.info? 32).map (fun i => (i.zero, i.size, i.bytes)) = some (some (.slice none 0 0), 1, 24) := by kernel_rfl
set_option maxRecDepth 100000 in
set_option maxHeartbeats 2000000 in
theorem addEvent_ (gb B lo : Nat) (f : Nat -> Value) (L : Nat -> BG.VL) (e : Ev) (vo : Value) (m : Nat) (w : World) (h : BG.BagG w lo gb B f L) (hx : (∃ xs, w.ownsRow lo 3 1 vo m xs) /\ m <= 4294967296 /\ ∀ g, vo.ownBlock = some g -> g < gb /\ ¬ BG.Blks (L 1) g) :
  Calls Tryz.prog 92 #[.pointer (some ⟨gb, 0, none⟩), .agg (evc e vo)] w (BG.GPost gb lo B f L (fun j g => j = 1 /\ vo.ownBlock = some g) [1] w) := by
 obtain ⟨Post, hPost⟩ : ∃ P : Ending -> World -> Prop, P = BG.GPost gb lo B f L (fun j g => j = 1 /\ vo.ownBlock = some g) [1] w := ⟨_, rfl⟩
 rw [<- hPost]
 have HPost : Hid (Post = BG.GPost gb lo B f L (fun j g => j = 1 /\ vo.ownBlock = some g) [1] w) := hPost
 clear hPost
 have hgw : gb <= w.heap.size := by have := h.lt; omega
 obtain ⟨W0, hW0⟩ : ∃ W0, W0 = w.alloc (.cells (evc e vo) 30) := ⟨_, rfl⟩
 have u0 : Up w W0 := by rw [hW0]; exact (Up.refl _).alloc _
 have g0 : W0.heap[w.heap.size]? = some (.cells (evc e vo) 30 (0, 0)) := by rw [hW0]; exact heap_alloc_new _ _
 have HC : Hid (Calls Tryz.prog 107 #[.pointer (some ⟨gb, 0, none⟩), vo] W0 (BG.GPost gb lo B f L (fun j g => j = 1 /\ vo.ownBlock = some g) [1] W0)) := by
  refine BG.addInts_ gb B lo f L vo m W0 (h.up u0) ⟨?_, hx.2⟩
  obtain ⟨xs, hxs⟩ := hx.1
  exact ⟨xs, row_up hxs u0⟩
 have HF : Hid (∀ W', BG.GPost gb lo B f L (fun j g => j = 1 /\ vo.ownBlock = some g) [1] W0 (.returned (.tuple #[])) W' -> Post (.returned (.tuple #[])) W') := fun W' hq => by
  obtain ⟨-, f2, L2, k1, k2, k3, k4, k5⟩ := hq
  rw [HPost.out]
  refine ⟨rfl, f2, L2, k1, Below.trans (Below.mono u0 hgw) k2, k3, BG.Oth.trans (fun g g1 _ g3 => ⟨u0.block g g1, g3⟩) k4 u0.size, k5⟩
 obtain ⟨xs, hxs⟩ := hx.1
 obtain ⟨oa, ok, hvo⟩ := row_val hxs
 have c11 : W0.cell? ⟨w.heap.size, 11, none⟩ = some vo := by simp only [World.cell?, g0]; rfl
 clear h hx hxs hgw u0 g0
 subst hvo
 unfold evc at hW0 ⊢
 go_enter Tryz.func92, Tryz.ntmps92
 go_wp2_with (first | (refine wpList_world hW0.symm ?_; clear hW0))
 refine Calls.mono HC.out ?_
 rintro r W3 hq
 obtain rfl : r = .returned (.tuple #[]) := hq.1
 have HZ : Hid (Post (.returned (.tuple #[])) W3) := HF.out W3 hq
 clear hq HF HC c11
 go_wp2_with fail
 first | exact HZ.out | (go_end0; exact HZ.out)
set_option maxRecDepth 100000 in
set_option maxHeartbeats 4000000 in
theorem addEvents0_ (gb B lo : Nat) (f : Nat -> Value) (L : Nat -> BG.VL) (w : World) (h : BG.BagG w lo gb B f L) :
  Calls Tryz.prog 35 #[.pointer (some ⟨gb, 0, none⟩), .slice none 0 0] w (BG.GPost gb lo B f L (fun _ _ => False) [14, 1] w) := by
 obtain ⟨iI, hiI, z0, z1, z2⟩ := info_parts infoAEvents
 obtain ⟨Post, hPost⟩ : ∃ P : Ending -> World -> Prop, P = BG.GPost gb lo B f L (fun _ _ => False) [14, 1] w := ⟨_, rfl⟩
 rw [<- hPost]
 have HPost : Hid (Post = BG.GPost gb lo B f L (fun _ _ => False) [14, 1] w) := hPost
 clear hPost
 have hK := h.kinds 14 (by decide)
 have hr : w.ownsRow B 32 1 (f 14) (L 14).length ((L 14).map (·.1)) := hK.row
 have hb := h.blk
 have hbb := h.lt.1
 have hbs := h.lt.2
 obtain ⟨va, vcap, hv⟩ := row_val hr
 have c1 := BG.bag_cell hb 14 (by decide)
 rw [hv] at c1
 have f1 := BG.bag_frozen hb 14
 have hx : (∃ xs, w.ownsRow lo 30 12 (.slice none 0 0) 0 xs) /\ 0 <= 4294967296 /\ ∀ k, Value.ownBlock (.slice none 0 0) = some k -> k < gb /\ ¬ BG.Blks (L 14) k := by
  exact ⟨⟨[], World.ownsRow_nil _ _ _ _⟩, by decide, fun k hk => by simp [Value.ownBlock] at hk⟩
 have HW0 : Hid (BG.GPost gb lo B f L (fun j k => j = 14 /\ Value.ownBlock (.slice none 0 0) = some k) [14] w (.returned (.tuple #[])) w) := ⟨rfl, f, L, h, Below.refl _ _, fun j k hk => .inl hk, BG.Oth.refl _ _ _, fun _ _ => rfl⟩
 have hrA : (w.alloc (.cells #[.slice none 0 0] 32)).ownsRow B 32 1 (f 14) (L 14).length ((L 14).map (·.1)) := row_up hr ((Up.refl _).alloc _)
 rw [hv] at hrA
 have HF : Hid ((L 14).length < 400 -> ∀ v' W1, W1.ownsRow B 32 1 v' ((L 14).length + 1) ((L 14).map (·.1) ++ [.slice none 0 0]) -> (w.alloc (.cells #[.slice none 0 0] 32)).grownBy W1 (Value.slice va (L 14).length vcap).ownBlock -> BG.LiesNew (.slice va (L 14).length vcap) v' (w.alloc (.cells #[.slice none 0 0] 32)) -> BG.GPost gb lo B f L (fun j k => j = 14 /\ Value.ownBlock (.slice none 0 0) = some k) [14] w (.returned (.tuple #[])) (W1.setCell ⟨gb, 14, none⟩ v') /\ W1.cell? ⟨gb, 14, none⟩ = some (.slice va (L 14).length vcap) /\ W1.frozen? ⟨gb, 14, none⟩ = false) := fun hL v' W1 h1 h2 h8 => by
  have hgl : gb < w.heap.size := by omega
  have h3 : W1.heap[gb]? = some (.cells (BG.bagA f) BG.tBag (0, 0)) := by
   rw [h2.block gb (by simp; omega) (fun e => by rw [<- hv] at e; have := BG.row_ge hr e.symm; omega), Below.heap_alloc _ _ _ hgl]
   exact hb
  exact ⟨BG.add_fin (k := 14) (x := (.slice none 0 0, 0)) h (by decide) hx (BG.apost_of (by decide) hb hr hbb hbs hL h1 (by rw [hv]; exact h2) (by rw [hv]; exact h8)), by rw [<- hv]; exact BG.bag_cell h3 14 (by decide), BG.bag_frozen h3 14⟩
 have HNw : Hid _ := BG.newCell1 w (.slice none 0 0) 32
 have HA : Hid _ := hrA
 clear hb hr hrA hv hK h hx hbb
 by_cases hL : (L 14).length < 400
 ·have hlt : ((L 14).length : Int) < 400 := by omega
  clear HW0
  go_enter Tryz.func35, Tryz.ntmps35
  go_wp2_with (at_builtin; go_loud (refine BG.wpList_append_apart _ (by rfl) (.tmp 15) (.tmp 17) 56 (by rfl) B 32 iI (.slice none 0 0) 1 24 Tryz.underlying56 hiI z0 z1 z2 (by rfl) (by decide) (.slice va (L 14).length vcap) (L 14).length ((L 14).map fun y : Value × Nat => y.1) (by rfl) HA.out ⟨w.heap.size, 0, none⟩ 1 [.slice none 0 0] (by rfl) (by rfl) HNw.out (BG.oneSl _ _ _) (by unfold maxLen; omega) (by omega) (by simp; omega) ?_; intro v' W1 a1 a2 a3 a4 a5; obtain ⟨hF, d1, e1⟩ := HF.out hL v' W1 a1 a2 a4; have HF2 : Hid _ := hF; obtain ⟨xa, xk, hx⟩ := row_val a1; subst hx; clear a1 a2 a3 a4 a5 hF))
  generalize W1.setCell ⟨gb, 14, none⟩ _ = W2 at *
  clear HF HNw HA c1 f1 d1 e1
  have HZ : Hid (Post (.returned (.tuple #[])) W2) := by
   obtain ⟨-, f1, L1, d1, d2, d3, d4, d5⟩ := HF2.out
   unfold Hid
   rw [HPost.out]
   refine ⟨rfl, f1, L1, d1, d2, fun j k hk => ?_, d4, fun j hj => d5 j (by simp at hj ⊢; omega)⟩
   rcases d3 j k hk with h9 | ⟨-, h9⟩
   ·exact .inl h9
   ·simp [Value.ownBlock] at h9
  clear HF2
  go_loopw [4] (fun s4 W => s4 = .int .i64 0 /\ W = W2) (fun s4 _ => 1 - (intOf s4).toNat)
  case atStart => exact ⟨rfl, rfl⟩
  case round =>
   obtain ⟨rfl, rfl⟩ := hrel
   go_wp2_with fail
   first | exact HZ.out | (go_end0; exact HZ.out)
 ·have hlt : ¬ ((L 14).length : Int) < 400 := by omega
  clear HF HNw HA
  go_enter Tryz.func35, Tryz.ntmps35
  go_wp2_with fail
  have HF2 : Hid _ := HW0.out
  clear c1 f1 HW0
  have HZ : Hid (Post (.returned (.tuple #[])) w) := by
   obtain ⟨-, f1, L1, d1, d2, d3, d4, d5⟩ := HF2.out
   unfold Hid
   rw [HPost.out]
   refine ⟨rfl, f1, L1, d1, d2, fun j k hk => ?_, d4, fun j hj => d5 j (by simp at hj ⊢; omega)⟩
   rcases d3 j k hk with h9 | ⟨-, h9⟩
   ·exact .inl h9
   ·simp [Value.ownBlock] at h9
  clear HF2
  go_loopw [4] (fun s4 W => s4 = .int .i64 0 /\ W = w) (fun s4 _ => 1 - (intOf s4).toNat)
  case atStart => exact ⟨rfl, rfl⟩
  case round =>
   obtain ⟨rfl, rfl⟩ := hrel
   go_wp2_with fail
   first | exact HZ.out | (go_end0; exact HZ.out)
set_option maxRecDepth 100000 in
set_option maxHeartbeats 4000000 in
theorem addEvents1_ (gb B lo : Nat) (f : Nat -> Value) (L : Nat -> BG.VL) (g : Nat) (e : Ev) (vo : Value) (m : Nat) (w : World) (h : BG.BagG w lo gb B f L) (hg : w.heap[g]? = some (.cells (evc e vo) 30 (0, 0))) (hlo : lo <= g) (hgb : g < gb) (hB : ¬ BG.Blks (L 14) g) (ho : (∃ xs, w.ownsRow lo 3 1 vo m xs) /\ m <= 4294967296 /\ ∀ k, vo.ownBlock = some k -> k < gb /\ ¬ BG.Blks (L 1) k) :
  Calls Tryz.prog 35 #[.pointer (some ⟨gb, 0, none⟩), .slice (some ⟨g, 0, none⟩) 1 1] w (BG.GPost gb lo B f L (fun j k => (j = 14 /\ k = g) ∨ (j = 1 /\ vo.ownBlock = some k)) [14, 1] w) := by
 obtain ⟨iI, hiI, z0, z1, z2⟩ := info_parts infoAEvents
 obtain ⟨Post, hPost⟩ : ∃ P : Ending -> World -> Prop, P = BG.GPost gb lo B f L (fun j k => (j = 14 /\ k = g) ∨ (j = 1 /\ vo.ownBlock = some k)) [14, 1] w := ⟨_, rfl⟩
 rw [<- hPost]
 have HPost : Hid (Post = BG.GPost gb lo B f L (fun j k => (j = 14 /\ k = g) ∨ (j = 1 /\ vo.ownBlock = some k)) [14, 1] w) := hPost
 clear hPost
 have hK := h.kinds 14 (by decide)
 have hr : w.ownsRow B 32 1 (f 14) (L 14).length ((L 14).map (·.1)) := hK.row
 have hb := h.blk
 have hbb := h.lt.1
 have hbs := h.lt.2
 obtain ⟨va, vcap, hv⟩ := row_val hr
 have c1 := BG.bag_cell hb 14 (by decide)
 rw [hv] at c1
 have f1 := BG.bag_frozen hb 14
 have hx : (∃ xs, w.ownsRow lo 30 12 (.slice (some ⟨g, 0, none⟩) 1 1) 1 xs) /\ 1 <= 4294967296 /\ ∀ k, Value.ownBlock (.slice (some ⟨g, 0, none⟩) 1 1) = some k -> k < gb /\ ¬ BG.Blks (L 14) k := by
  refine ⟨⟨(evc e vo).toList, rfl, .inr ⟨g, 1, evc e vo, rfl, hlo, hg, Nat.le_refl _, by unfold maxLen; omega, rfl, rfl⟩⟩, by decide, fun k hk => ?_⟩
  ·obtain rfl : g = k := by simpa [Value.ownBlock] using hk
   exact ⟨hgb, hB⟩
 have HW0 : Hid (BG.GPost gb lo B f L (fun j k => j = 14 /\ Value.ownBlock (.slice (some ⟨g, 0, none⟩) 1 1) = some k) [14] w (.returned (.tuple #[])) w) := ⟨rfl, f, L, h, Below.refl _ _, fun j k hk => .inl hk, BG.Oth.refl _ _ _, fun _ _ => rfl⟩
 have hrA : (w.alloc (.cells #[.slice (some ⟨g, 0, none⟩) 1 1] 32)).ownsRow B 32 1 (f 14) (L 14).length ((L 14).map (·.1)) := row_up hr ((Up.refl _).alloc _)
 rw [hv] at hrA
 have HF : Hid ((L 14).length < 400 -> ∀ v' W1, W1.ownsRow B 32 1 v' ((L 14).length + 1) ((L 14).map (·.1) ++ [.slice (some ⟨g, 0, none⟩) 1 1]) -> (w.alloc (.cells #[.slice (some ⟨g, 0, none⟩) 1 1] 32)).grownBy W1 (Value.slice va (L 14).length vcap).ownBlock -> BG.LiesNew (.slice va (L 14).length vcap) v' (w.alloc (.cells #[.slice (some ⟨g, 0, none⟩) 1 1] 32)) -> BG.GPost gb lo B f L (fun j k => j = 14 /\ Value.ownBlock (.slice (some ⟨g, 0, none⟩) 1 1) = some k) [14] w (.returned (.tuple #[])) (W1.setCell ⟨gb, 14, none⟩ v') /\ W1.cell? ⟨gb, 14, none⟩ = some (.slice va (L 14).length vcap) /\ W1.frozen? ⟨gb, 14, none⟩ = false) := fun hL v' W1 h1 h2 h8 => by
  have hgl : gb < w.heap.size := by omega
  have h3 : W1.heap[gb]? = some (.cells (BG.bagA f) BG.tBag (0, 0)) := by
   rw [h2.block gb (by simp; omega) (fun e => by rw [<- hv] at e; have := BG.row_ge hr e.symm; omega), Below.heap_alloc _ _ _ hgl]
   exact hb
  exact ⟨BG.add_fin (k := 14) (x := (.slice (some ⟨g, 0, none⟩) 1 1, 1)) h (by decide) hx (BG.apost_of (by decide) hb hr hbb hbs hL h1 (by rw [hv]; exact h2) (by rw [hv]; exact h8)), by rw [<- hv]; exact BG.bag_cell h3 14 (by decide), BG.bag_frozen h3 14⟩
 have HNw : Hid _ := BG.newCell1 w (.slice (some ⟨g, 0, none⟩) 1 1) 32
 have HA : Hid _ := hrA
 have HEv : Hid (∀ W f1 L1, Below gb w W -> BG.BagG W lo gb B f1 L1 -> (∀ j, j ∉ [14] -> L1 j = L j) -> W.heap[g]? = some (.cells (evc e vo) 30 (0, 0)) /\ Calls Tryz.prog 92 #[.pointer (some ⟨gb, 0, none⟩), .agg (evc e vo)] W (BG.GPost gb lo B f1 L1 (fun j k => j = 1 /\ vo.ownBlock = some k) [1] W)) := fun W f1 L1 b hB9 hL9 => by
  refine ⟨(b.block g hgb).trans hg, addEvent_ gb B lo f1 L1 e vo m W hB9 ⟨?_, ho.2.1, fun k hk => ⟨(ho.2.2 k hk).1, ?_⟩⟩⟩
  ·obtain ⟨xs, hxs⟩ := ho.1
   exact ⟨xs, BG.own_block hxs fun k hk => b.block k (ho.2.2 k hk).1⟩
  ·rw [hL9 1 (by decide)]
   exact (ho.2.2 k hk).2
 clear hg hlo hgb hB ho
 clear hb hr hrA hv hK h hx hbb
 by_cases hL : (L 14).length < 400
 ·have hlt : ((L 14).length : Int) < 400 := by omega
  clear HW0
  go_enter Tryz.func35, Tryz.ntmps35
  go_wp2_with (at_builtin; go_loud (refine BG.wpList_append_apart _ (by rfl) (.tmp 15) (.tmp 17) 56 (by rfl) B 32 iI (.slice none 0 0) 1 24 Tryz.underlying56 hiI z0 z1 z2 (by rfl) (by decide) (.slice va (L 14).length vcap) (L 14).length ((L 14).map fun y : Value × Nat => y.1) (by rfl) HA.out ⟨w.heap.size, 0, none⟩ 1 [.slice (some ⟨g, 0, none⟩) 1 1] (by rfl) (by rfl) HNw.out (BG.oneSl _ _ _) (by unfold maxLen; omega) (by omega) (by simp; omega) ?_; intro v' W1 a1 a2 a3 a4 a5; obtain ⟨hF, d1, e1⟩ := HF.out hL v' W1 a1 a2 a4; have HF2 : Hid _ := hF; obtain ⟨xa, xk, hx⟩ := row_val a1; subst hx; clear a1 a2 a3 a4 a5 hF))
  generalize W1.setCell ⟨gb, 14, none⟩ _ = W2 at *
  clear HF HNw HA c1 f1 d1 e1
  go_loopw [4] (fun s4 W => (s4 = .int .i64 0 /\ W = W2) ∨ (s4 = .int .i64 1 /\ Post (.returned (.tuple #[])) W)) (fun s4 _ => 1 - (intOf s4).toNat)
  case atStart => exact .inl ⟨rfl, rfl⟩
  case round =>
   rcases hrel with ⟨rfl, rfl⟩ | ⟨rfl, hp⟩
   ·obtain ⟨-, f1, L1, d1, d2, d3, d4, d5⟩ := HF2.out
    obtain ⟨hg, hcall⟩ := HEv.out _ f1 L1 d2 d1 d5
    have HC : Hid _ := hcall
    have HFin : Hid (∀ W', BG.GPost gb lo B f1 L1 (fun j k => j = 1 /\ vo.ownBlock = some k) [1] wr (.returned (.tuple #[])) W' -> Post (.returned (.tuple #[])) W') := fun W' hq => by
     obtain ⟨-, f2, L2, k1, k2, k3, k4, k5⟩ := hq
     rw [HPost.out]
     refine ⟨rfl, f2, L2, k1, Below.trans d2 k2, fun j k hk => ?_, d4.trans k4 d2.size, fun j hj => (k5 j (by simp at hj ⊢; omega)).trans (d5 j (by simp at hj ⊢; omega))⟩
     rcases k3 j k hk with h9 | h9
     ·rcases d3 j k h9 with h8 | ⟨rfl, h8⟩
      ·exact .inl h8
      ·exact .inr (.inl ⟨rfl, by simpa [Value.ownBlock] using h8.symm⟩)
     ·exact .inr (.inr h9)
    clear d1 d2 d3 d4 d5 hcall HEv HF2
    go_wp2_with (first | (refine wpList_load_row (by rfl) 30 (.tmp 34) (by rfl) g (by rfl) 30 (evc e vo) (0, 0) _ hg Tryz.underlying30 (by rfl) infoEv ?_))
    refine Calls.mono HC.out ?_
    rintro r W3 hq
    obtain rfl : r = .returned (.tuple #[]) := hq.1
    have HZ : Hid (Post (.returned (.tuple #[])) W3) := HFin.out W3 hq
    clear hq HFin HC hg
    go_wp2_with fail
    go_roundw
    case rel => exact .inr ⟨by go_num, HZ.out⟩
    case measure => simp [intOf]
   ·have HZ : Hid _ := hp
    clear hp HEv HF2
    go_wp2_with fail
    first | exact HZ.out | (go_end0; exact HZ.out)
 ·have hlt : ¬ ((L 14).length : Int) < 400 := by omega
  clear HF HNw HA
  go_enter Tryz.func35, Tryz.ntmps35
  go_wp2_with fail
  have HF2 : Hid _ := HW0.out
  clear c1 f1 HW0
  go_loopw [4] (fun s4 W => (s4 = .int .i64 0 /\ W = w) ∨ (s4 = .int .i64 1 /\ Post (.returned (.tuple #[])) W)) (fun s4 _ => 1 - (intOf s4).toNat)
  case atStart => exact .inl ⟨rfl, rfl⟩
  case round =>
   rcases hrel with ⟨rfl, rfl⟩ | ⟨rfl, hp⟩
   ·obtain ⟨-, f1, L1, d1, d2, d3, d4, d5⟩ := HF2.out
    obtain ⟨hg, hcall⟩ := HEv.out _ f1 L1 d2 d1 d5
    have HC : Hid _ := hcall
    have HFin : Hid (∀ W', BG.GPost gb lo B f1 L1 (fun j k => j = 1 /\ vo.ownBlock = some k) [1] wr (.returned (.tuple #[])) W' -> Post (.returned (.tuple #[])) W') := fun W' hq => by
     obtain ⟨-, f2, L2, k1, k2, k3, k4, k5⟩ := hq
     rw [HPost.out]
     refine ⟨rfl, f2, L2, k1, Below.trans d2 k2, fun j k hk => ?_, d4.trans k4 d2.size, fun j hj => (k5 j (by simp at hj ⊢; omega)).trans (d5 j (by simp at hj ⊢; omega))⟩
     rcases k3 j k hk with h9 | h9
     ·rcases d3 j k h9 with h8 | ⟨rfl, h8⟩
      ·exact .inl h8
      ·exact .inr (.inl ⟨rfl, by simpa [Value.ownBlock] using h8.symm⟩)
     ·exact .inr (.inr h9)
    clear d1 d2 d3 d4 d5 hcall HEv HF2
    go_wp2_with (first | (refine wpList_load_row (by rfl) 30 (.tmp 34) (by rfl) g (by rfl) 30 (evc e vo) (0, 0) _ hg Tryz.underlying30 (by rfl) infoEv ?_))
    refine Calls.mono HC.out ?_
    rintro r W3 hq
    obtain rfl : r = .returned (.tuple #[]) := hq.1
    have HZ : Hid (Post (.returned (.tuple #[])) W3) := HFin.out W3 hq
    clear hq HFin HC hg
    go_wp2_with fail
    go_roundw
    case rel => exact .inr ⟨by go_num, HZ.out⟩
    case measure => simp [intOf]
   ·have HZ : Hid _ := hp
    clear hp HEv HF2
    go_wp2_with fail
    first | exact HZ.out | (go_end0; exact HZ.out)
def DLI (W : World) (lo hi : Nat) (v : Value) : Option Ev -> Prop
 | none => v = .slice none 0 0
 | some e => ∃ g vo, v = .slice (some ⟨g, 0, none⟩) 1 1 /\ lo <= g /\ g < hi /\ W.heap[g]? = some (.cells (evc e vo) 30 (0, 0)) /\ IRow lo W vo e.ord /\ ∀ k, vo.ownBlock = some k -> k < hi
theorem dli_of {lo : Nat} {W : World} {v : Value} {o : Option Ev} (h : DL lo W v o) : DLI W lo W.heap.size v o := by
 cases o with
 | none => exact h
 | some e =>
  obtain ⟨g, vo, h1, h2, h3, h4⟩ := h
  exact ⟨g, vo, h1, h2, (Array.getElem?_eq_some_iff.1 h3).1, h3, h4, fun k hk => BG.row_lt h4 hk⟩
theorem row_keep {W W' : World} {base e s n : Nat} {v : Value} {xs : List Value} (h : W.ownsRow base e s v n xs) (k : ∀ g o, v.ownBlock = some g -> W.heap[g]? = some o -> W'.heap[g]? = some o) : W'.ownsRow base e s v n xs := by
 refine ⟨h.1, ?_⟩
 rcases h.2 with h0 | ⟨g, cap, cur, e1, e2, e3, e4⟩
 ·exact .inl h0
 ·exact .inr ⟨g, cap, cur, e1, e2, k _ _ (by rw [e1]; rfl) e3, e4⟩
theorem DLI.keep {W W' : World} {lo hi : Nat} {v : Value} {o : Option Ev} (h : DLI W lo hi v o) (k : ∀ g o, lo <= g -> g < hi -> W.heap[g]? = some o -> W'.heap[g]? = some o) : DLI W' lo hi v o := by
 cases o with
 | none => exact h
 | some e =>
  obtain ⟨g, vo, h1, h2, h3, h4, h5, h6⟩ := h
  exact ⟨g, vo, h1, h2, h3, k _ _ h2 h3 h4, row_keep h5 (fun g o hg ho => k g o (BG.row_ge h5 hg) (h6 g hg) ho), h6⟩
theorem DLI.up {W W' : World} {lo hi : Nat} {v : Value} {o : Option Ev} (h : DLI W lo hi v o) (u : Up W W') : DLI W' lo hi v o := h.keep fun _ _ _ _ ho => u.heap ho
theorem DLI.kp {W W' : World} {lo hi k : Nat} {v : Value} {o : Option Ev} (h : DLI W lo hi v o) (u : Kp k W W') (hk : k <= lo) : DLI W' lo hi v o := h.keep fun g _ hg _ ho => u g _ (Nat.le_trans hk hg) ho
theorem DLI.below {W W' : World} {lo hi gb : Nat} {v : Value} {o : Option Ev} (h : DLI W lo hi v o) (b : Below gb W W') (hh : hi <= gb) : DLI W' lo hi v o := h.keep fun g _ _ hg ho => (b.block g (by omega)).trans ho
theorem DLI.evs {W : World} {lo hi : Nat} {v : Value} {o : Option Ev} (h : DLI W lo hi v o) : EVS W v o.toList := by
 cases o with
 | none =>
  have h : v = .slice none 0 0 := h
  rw [h]
  exact ⟨[], ⟨rfl, none, 0, rfl, Nat.le_refl _, fun h => absurd rfl h⟩, fun i hi => absurd hi (Nat.not_lt_zero i)⟩
 | some e =>
  obtain ⟨g, vo, h1, h2, h3, h4, h5, h6⟩ := h
  rw [h1]
  exact evs_one h4 h5.il
theorem addDL_ (gb B lo0 lo hi : Nat) (f : Nat -> Value) (L : Nat -> BG.VL) (v : Value) (o : Option Ev) (w : World) (h : BG.BagG w lo0 gb B f L) (hv : DLI w lo hi v o) (hn : ∀ e, o = some e -> e.ord.length <= 4294967296) (hlo : lo0 <= lo) (hhi : hi <= gb) (hout : ∀ j g, BG.Blks (L j) g -> g < lo ∨ hi <= g) :
  Calls Tryz.prog 35 #[.pointer (some ⟨gb, 0, none⟩), v] w (BG.GPost gb lo0 B f L (fun _ g => lo <= g /\ g < hi) [14, 1] w) := by
 cases o with
 | none =>
  have hv : v = .slice none 0 0 := hv
  rw [hv]
  exact (addEvents0_ gb B lo0 f L w h).mono fun e w' h => BG.GPost.mono h (fun j g hg => hg.elim)
 | some e =>
  obtain ⟨g, vo, rfl, h2, h3, h4, h5, h6⟩ := hv
  have hno : ∀ j k, lo <= k -> k < hi -> ¬ BG.Blks (L j) k := fun j k h1 h2 hb => by rcases hout j k hb with h | h <;> omega
  refine (addEvents1_ gb B lo0 f L g e vo e.ord.length w h h4 (by omega) (by omega) (hno 14 g h2 h3) ⟨⟨_, BG.own_low h5 hlo⟩, hn e rfl, fun k hk => ⟨by have := h6 k hk; omega, hno 1 k (BG.row_ge h5 hk) (h6 k hk)⟩⟩).mono fun x w' h => BG.GPost.mono h (fun j k hk => ?_)
  rcases hk with ⟨-, rfl⟩ | ⟨-, hk⟩
  ·exact ⟨h2, h3⟩
  ·exact ⟨BG.row_ge h5 hk, h6 k hk⟩
end DE
end Go.Proofs.YtodhjjeagmjhdaaGreatDoor
