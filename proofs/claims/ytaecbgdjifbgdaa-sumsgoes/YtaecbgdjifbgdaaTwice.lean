/-
  The document's step done twice, its Join and its Table.
-/
import Derived.Test.YtaecbgdjifbgdaaRefJoin
import Derived.Deep.MidRow
namespace Go.Proofs.Ytaecbgdjifbgdaa
open Go.RowKit

theorem Up.heap {w w' : World} (h : Up w w') {g : Nat} {o : Obj} (hg : w.heap[g]? = some o) : w'.heap[g]? = some o := by
  rw [h.block g (Array.getElem?_eq_some_iff.1 hg).1]; exact hg
def cellV (v : World) (g k : Nat) : Value := (v.cell? ⟨g, k, none⟩).getD undef
/- t is filled up to place k -/
def RB (w : World) (m k : Nat) (v : World) : Prop :=
  v.heap[w.heap.size]? = some (.cells (stpC m 32) 50 (0, 0)) ∧ v.heap[w.heap.size + 1]? = some (.cells (stpC 0 0) 50 (0, 0)) ∧
  (∃ c, v.heap[w.heap.size + 1 + 1]? = some (.cells c 50 (0, 0)) ∧ c.size = 32 ∧ ∀ i, i < k → c[i]? = (stpC (m + m) 32)[i]?) ∧ Up w v
theorem RB.up {w v v' : World} {m k : Nat} (h : RB w m k v) (u : Up v v') : RB w m k v' := by
  obtain ⟨h0, h1, ⟨c, h2, h3, h4⟩, h5⟩ := h
  exact ⟨u.heap h0, u.heap h1, ⟨c, u.heap h2, h3, h4⟩, h5.trans u⟩
theorem RB.drew {w v : World} {m k : Nat} (h : RB w m k v) : RB w m k v.drew := by
  obtain ⟨h0, h1, h2, h5⟩ := h
  exact ⟨h0, h1, h2, h5.drew⟩
theorem heap_setCell_row (v : World) (g k : Nat) (c : Array Value) (t : TypeId) (x : Value) (h : v.heap[g]? = some (.cells c t (0, 0))) :
    (v.setCell ⟨g, k, none⟩ x).heap[g]? = some (.cells (c.setIfInBounds k x) t (0, 0)) := by
  simp only [World.setCell, Array.getElem?_modify]
  rw [h]
  simp
theorem RB.set {w v : World} {m k : Nat} (x : Value) (h : RB w m k v) : RB w m k (v.setCell ⟨w.heap.size + 1 + 1, k, none⟩ x) := by
  obtain ⟨h0, h1, ⟨c, h2, h3, h4⟩, h5⟩ := h
  refine ⟨by rw [Below.heap_setCell _ _ _ _ (by show w.heap.size ≠ w.heap.size + 1 + 1; omega)]; exact h0, by rw [Below.heap_setCell _ _ _ _ (by show w.heap.size + 1 ≠ w.heap.size + 1 + 1; omega)]; exact h1, ⟨_, heap_setCell_row _ _ _ _ _ _ h2, by simp [h3], fun i hi => ?_⟩, Below.setCell h5 (by show w.heap.size ≤ w.heap.size + 1 + 1; omega) x⟩
  rw [Array.getElem?_setIfInBounds, if_neg (by omega)]
  exact h4 i hi
theorem RB.next {w v : World} {m k : Nat} (hk : k < 32) (h : RB w m k v) : RB w m (k + 1) (v.setCell ⟨w.heap.size + 1 + 1, k, none⟩ (.int .u32 (Sn (m + m) (2 ^ k) : Nat))) := by
  obtain ⟨h0, h1, ⟨c, h2, h3, h4⟩, h5⟩ := h
  refine ⟨by rw [Below.heap_setCell _ _ _ _ (by show w.heap.size ≠ w.heap.size + 1 + 1; omega)]; exact h0, by rw [Below.heap_setCell _ _ _ _ (by show w.heap.size + 1 ≠ w.heap.size + 1 + 1; omega)]; exact h1, ⟨_, heap_setCell_row _ _ _ _ _ _ h2, by simp [h3], fun i hi => ?_⟩, Below.setCell h5 (by show w.heap.size ≤ w.heap.size + 1 + 1; omega) _⟩
  by_cases e : k = i
  · subst e
    rw [Array.getElem?_setIfInBounds, if_pos rfl, if_pos (by omega), stpC_at _ _ _ hk, if_pos hk]
  · rw [Array.getElem?_setIfInBounds, if_neg e]
    exact h4 i (by omega)
def stpL (m k : Nat) : List Value := (List.range 32).map fun i => Value.int .u32 ((if i < k then Sn m (2 ^ i) else 0 : Nat) : Int)
theorem stpL_eq (m k : Nat) : (stpL m k).toArray = stpC m k := rfl
theorem stpL_len (m k : Nat) : (stpL m k).length = 32 := by simp [stpL]
theorem limbs {w v : World} {m k : Nat} (h : RB w m k v) (hk : k < 32) :
    RB w m k v ∧ v.rangeAt w.heap.size 0 (stpL m 32) ∧ v.cell? ⟨w.heap.size, k, none⟩ = some (.int .u32 (Sn m (2 ^ k) : Nat)) ∧ v.cell? ⟨w.heap.size + 1 + 1, k, none⟩ = some (cellV v (w.heap.size + 1 + 1) k) ∧ v.frozen? ⟨w.heap.size + 1 + 1, k, none⟩ = false := by
  have h' := h
  obtain ⟨h0, h1, ⟨c, h2, h3, h4⟩, h5⟩ := h
  refine ⟨h', fun j x hj => ?_, ?_, ?_, ?_⟩
  · rw [Nat.zero_add, cell_of_row _ _ j _ _ _ h0, ← stpL_eq]
    simpa using hj
  · rw [cell_of_row _ _ k _ _ _ h0, stpC_at m 32 k hk, if_pos hk]
  · unfold cellV
    rw [cell_of_row _ _ k _ _ _ h2, Array.getElem?_eq_getElem (by omega)]
    rfl
  · simp [World.frozen?, h2]
theorem keepT {w v v' : World} {m k : Nat} {A B C D : Prop} (u : Up v v') (hk : k < 32) (h : RB w m k v ∧ A ∧ B ∧ C ∧ D) :
    RB w m k v' ∧ v'.rangeAt w.heap.size 0 (stpL m 32) ∧ v'.cell? ⟨w.heap.size, k, none⟩ = some (.int .u32 (Sn m (2 ^ k) : Nat)) ∧ v'.cell? ⟨w.heap.size + 1 + 1, k, none⟩ = some (cellV v' (w.heap.size + 1 + 1) k) ∧ v'.frozen? ⟨w.heap.size + 1 + 1, k, none⟩ = false :=
  limbs (h.1.up u) hk
theorem keepTD {w v : World} {m k : Nat} {A B C D : Prop} (hk : k < 32) (h : RB w m k v ∧ A ∧ B ∧ C ∧ D) :
    RB w m k v.drew ∧ v.drew.rangeAt w.heap.size 0 (stpL m 32) ∧ v.drew.cell? ⟨w.heap.size, k, none⟩ = some (.int .u32 (Sn m (2 ^ k) : Nat)) ∧ v.drew.cell? ⟨w.heap.size + 1 + 1, k, none⟩ = some (cellV v.drew (w.heap.size + 1 + 1) k) ∧ v.drew.frozen? ⟨w.heap.size + 1 + 1, k, none⟩ = false :=
  limbs h.1.drew hk
theorem keepTS {w v : World} {m k : Nat} {A B C D : Prop} (x : Value) (hk : k < 32) (h : RB w m k v ∧ A ∧ B ∧ C ∧ D) :
    RB w m k (v.setCell ⟨w.heap.size + 1 + 1, k, none⟩ x) ∧ (v.setCell ⟨w.heap.size + 1 + 1, k, none⟩ x).rangeAt w.heap.size 0 (stpL m 32) ∧ (v.setCell ⟨w.heap.size + 1 + 1, k, none⟩ x).cell? ⟨w.heap.size, k, none⟩ = some (.int .u32 (Sn m (2 ^ k) : Nat)) ∧ (v.setCell ⟨w.heap.size + 1 + 1, k, none⟩ x).cell? ⟨w.heap.size + 1 + 1, k, none⟩ = some (cellV (v.setCell ⟨w.heap.size + 1 + 1, k, none⟩ x) (w.heap.size + 1 + 1) k) ∧ (v.setCell ⟨w.heap.size + 1 + 1, k, none⟩ x).frozen? ⟨w.heap.size + 1 + 1, k, none⟩ = false :=
  limbs (h.1.set x) hk

set_option maxHeartbeats 1000000 in
set_option maxRecDepth 100000 in
theorem twice (m : Nat) (w : World) :
    Calls Try.prog 33 #[.agg (stpC m 32)] w fun e w' => e = .returned (.agg (stpC (m + m) 32)) ∧ Up w w' := by
  obtain ⟨hv50, hi50⟩ := zero_of_info (P := Try.prog) info50
  go_enter Try.func33, Try.ntmps33
  go_wp2_with fail
  clear hv50
  have hst : RB w m 0 (((w.alloc (.cells (stpC m 32) 50)).alloc (.cells (Array.replicate 32 (.int .u32 0)) 50)).alloc (.cells (Array.replicate 32 (.int .u32 0)) 50)) := by
    refine ⟨?_, ?_, ⟨Array.replicate 32 (.int .u32 0), ?_, by simp, fun i hi => absurd hi (Nat.not_lt_zero _)⟩, (((Up.refl _).alloc _).alloc _).alloc _⟩
    · rw [Below.heap_alloc _ _ _ (by simp; omega), Below.heap_alloc _ _ _ (by simp)]; exact heap_alloc_last _ _
    · rw [Below.heap_alloc _ _ _ (by simp), stpC_zero]
      have := heap_alloc_last (w.alloc (.cells (stpC m 32) 50)) (.cells (Array.replicate 32 (.int .u32 0)) 50)
      simpa using this
    · have := heap_alloc_last ((w.alloc (.cells (stpC m 32) 50)).alloc (.cells (Array.replicate 32 (.int .u32 0)) 50)) (.cells (Array.replicate 32 (.int .u32 0)) 50)
      simpa using this
  have HST : Hid (RB w m 0 (((w.alloc (.cells (stpC m 32) 50)).alloc (.cells (Array.replicate 32 (.int .u32 0)) 50)).alloc (.cells (Array.replicate 32 (.int .u32 0)) 50))) := hst
  clear hst
  go_loopw [4] (fun s4 wr => ∃ k : Nat, k ≤ 32 ∧ s4 = .int .i64 k ∧ RB w m k wr) (fun i _ => 32 - (intOf i).toNat)
  case atStart => exact ⟨0, by omega, rfl, HST.out⟩
  case round =>
    obtain ⟨k, hk, rfl, hrb⟩ := hrel
    clear HST
    by_cases hlt : k < 32
    · have hki : (k : Int) < 32 := by omega
      have hS := limbs hrb hlt
      have hsl : Sn m (2 ^ k) < 4294967296 := Sn_lt (Nat.lt_of_lt_of_le (Nat.pow_lt_pow_right (by decide) hlt) (Nat.le_refl (2 ^ 32)))
      have hu50 := Try.underlying50
      have hi2 : (Try.prog.info? 50).map (·.size) = some (stpL m 32).length := by rw [stpL_len]; exact hi50
      clear hrb
      go_wp2_with fail
      go_region_held3 (fun v => RB w m k v ∧ v.rangeAt w.heap.size 0 (stpL m 32) ∧ v.cell? ⟨w.heap.size, k, none⟩ = some (.int .u32 (Sn m (2 ^ k) : Nat)) ∧ v.cell? ⟨w.heap.size + 1 + 1, k, none⟩ = some (cellV v (w.heap.size + 1 + 1) k) ∧ v.frozen? ⟨w.heap.size + 1 + 1, k, none⟩ = false)
        (first | assumption | exact keepTD hlt (by assumption) | exact keepT up hlt (by assumption) | exact keepTS _ hlt (by assumption))
        (first
          | (go_at_call 32; refine (doneS m (Sn m (2 ^ k)) _ hsl).mono ?_; rintro e v ⟨rfl, up⟩))
      rename_i hZ
      clear hZ
      have hR := RB.next hlt ((hS.1.drew).up up)
      rw [Sn_add] at hR
      clear hS up
      go_wp2
      go_roundw
      case rel => first | exact ⟨k + 1, by omega, by go_num, hR⟩ | ((repeat apply Exists.intro); exact ⟨⟨k + 1, by omega, by go_num, hR⟩, rfl⟩)
      case measure => simp [intOf]; omega
    · obtain rfl : k = 32 := by omega
      obtain ⟨h0, h1, ⟨c, h2, h3, h4⟩, h5⟩ := hrb
      obtain rfl : c = stpC (m + m) 32 := by
        apply Array.ext_getElem?
        intro i
        by_cases hi : i < 32
        · exact h4 i hi
        · rw [Array.getElem?_eq_none (by omega), Array.getElem?_eq_none (by rw [stpC_size]; omega)]
      have hi : (Try.prog.info? 50).map (·.size) = some (stpC (m + m) 32).size := by rw [stpC_size]; exact hi50
      clear h4
      go_wp2_with (first
        | (refine wpList_load_row rfl 50 (.tmp 3) rfl (w.heap.size + 1 + 1) rfl 50 (stpC (m + m) 32) (0, 0) _ h2 Try.underlying50 rfl hi ?_)
        | (refine wpList_store_row rfl 50 (.tmp 2) (.tmp 16) rfl (w.heap.size + 1) (stpC (m + m) 32) rfl rfl 50 (stpC 0 0) h1 hi (by rw [stpC_size, stpC_size]) (stpC_one _ _) ?_))
      (try simp only [Exit.inBlock, Exit.then])
      refine bodyPost_ret (v := .agg (stpC (m + m) 32)) (results_cell_row (p := 2) (ty := 50) rfl _ _ (w.heap.size + 1) 50 (stpC (m + m) 32) (0, 0) _ rfl (setRow_heap _ _ (stpC 0 0) _ _ _ h1) Try.underlying50 rfl hi) rfl ⟨rfl, up_row h5 (by omega) _⟩

/- the document's Table -/
set_option maxHeartbeats 1000000 in
set_option maxRecDepth 100000 in
theorem refTable (w : World) :
    Calls Try.prog 22 #[] w fun e w' => e = .returned (.agg (tabC 256)) ∧ Up w w' := by
  obtain ⟨hv34, hi34⟩ := zero_of_info (P := Try.prog) info34
  go_enter Try.func22, Try.ntmps22
  go_wp2_with fail
  rw [← tabC_zero]
  clear hv34
  go_loopw [2] (fun s2 wr => ∃ k : Nat, k ≤ 256 ∧ s2 = .int .i64 k ∧ wr = (w.alloc (.cells (tabC 0) 34)).alloc (.cells (tabC k) 34)) (fun i _ => 256 - (intOf i).toNat)
  case atStart => exact ⟨0, by omega, rfl, rfl⟩
  case round =>
    obtain ⟨k, hk, rfl, rfl⟩ := hrel
    by_cases hlt : k < 256
    · have hki : (k : Int) < 256 := by omega
      have hw : IntKind.u32.wrap (k : Int) = k := by rw [IntKind.wrap_u32']; omega
      have hcell : (tabC k)[k]? = some (.int .u32 0) := by rw [tabC_at k k hlt, if_neg (Nat.lt_irrefl k)]; rfl
      have HW2 : Hid ((tabC k).setIfInBounds k (.int .u32 (Sn 8 k : Nat)) = tabC (k + 1)) := tabC_set k
      go_wp2_with fail
      refine (shifted8 k _ (by omega)).mono ?_
      rintro e w' ⟨rfl, rfl⟩
      go_wp2_with fail
      go_roundw
      case rel => exact ⟨k + 1, by omega, by go_num, by rw [HW2.out]⟩
      case measure => simp [intOf]; omega
    · obtain rfl : k = 256 := by omega
      have hg1 : ((w.alloc (.cells (tabC 0) 34)).alloc (.cells (tabC 256) 34)).heap[w.heap.size + 1]? = some (.cells (tabC 256) 34 (0, 0)) := by
        rw [show w.heap.size + 1 = (w.alloc (.cells (tabC 0) 34)).heap.size by simp]; exact heap_alloc_last _ _
      have hg0 : ((w.alloc (.cells (tabC 0) 34)).alloc (.cells (tabC 256) 34)).heap[w.heap.size]? = some (.cells (tabC 0) 34 (0, 0)) := by
        rw [Below.heap_alloc _ _ _ (by simp)]; exact heap_alloc_last _ _
      have hU : Up w ((w.alloc (.cells (tabC 0) 34)).alloc (.cells (tabC 256) 34)) := ((Up.refl _).alloc _).alloc _
      have hi : (Try.prog.info? 34).map (·.size) = some (tabC 256).size := by rw [tabC_size]; exact hi34
      generalize (w.alloc (.cells (tabC 0) 34)).alloc (.cells (tabC 256) 34) = v at *
      go_wp2_with (first
        | (refine wpList_load_row rfl 34 (.tmp 1) rfl (w.heap.size + 1) rfl 34 (tabC 256) (0, 0) _ hg1 Try.underlying34 rfl hi ?_)
        | (refine wpList_store_row rfl 34 (.tmp 0) (.tmp 12) rfl w.heap.size (tabC 256) rfl rfl 34 (tabC 0) hg0 hi (by rw [tabC_size, tabC_size]) (tabC_one _) ?_))
      (try simp only [Exit.inBlock, Exit.then])
      refine bodyPost_ret (v := .agg (tabC 256)) (results_cell_row (p := 0) (ty := 34) rfl _ _ w.heap.size 34 (tabC 256) (0, 0) _ rfl (setRow_heap _ _ (tabC 0) _ _ _ hg0) Try.underlying34 rfl hi) rfl ⟨rfl, up_row hU (Nat.le_refl _) _⟩

/- the document's Join -/
set_option maxHeartbeats 400000 in
theorem refJoinLow (a b : Nat) (n : Int) (w : World) (hn : n < 0) :
    Calls Try.prog 20 #[.int .u32 a, .int .u32 b, .int .i64 n] w fun e w' => e = .returned (.int .u32 0) ∧ w' = w := by
  go_enter Try.func20, Try.ntmps20
  go_wp2
  go_ret
  exact ⟨rfl, rfl⟩
theorem pow2_lt (k : Nat) (h : k < 32) : 2 ^ k < 4294967296 := Nat.lt_of_lt_of_le (Nat.pow_lt_pow_right (by decide) h) (Nat.le_refl (2 ^ 32))
set_option maxHeartbeats 1000000 in
set_option maxRecDepth 100000 in
theorem refJoin (a b n : Nat) (w : World) (ha : a < 4294967296) (hb : b < 4294967296) (hn : n < 9223372036854775808) :
    Calls Try.prog 20 #[.int .u32 a, .int .u32 b, .int .i64 n] w fun e w' => e = .returned (.int .u32 (Sn (8 * n) a ^^^ b : Nat)) ∧ Up w w' := by
  obtain ⟨hv50, hi50⟩ := zero_of_info (P := Try.prog) info50
  go_enter Try.func20, Try.ntmps20
  go_wp2_with fail
  rw [← stpC_zero 8]
  clear hv50
  go_loopw [8] (fun s8 wr => ∃ k : Nat, k ≤ 32 ∧ s8 = .int .i64 k ∧ wr = w.alloc (.cells (stpC 8 k) 50)) (fun i _ => 32 - (intOf i).toNat)
  case atStart => exact ⟨0, by omega, rfl, rfl⟩
  case round =>
    obtain ⟨k, hk, rfl, rfl⟩ := hrel
    by_cases hlt : k < 32
    · have hki : (k : Int) < 32 := by omega
      have hp := pow2_lt k hlt
      have hw64 : IntKind.u64.wrap (k : Int) = k := by rw [IntKind.wrap_u64]; omega
      have hcell : (stpC 8 k)[k]? = some (.int .u32 0) := by rw [stpC_at 8 k k hlt, if_neg (Nat.lt_irrefl k)]; rfl
      have HW2 : Hid ((stpC 8 k).setIfInBounds k (.int .u32 (Sn 8 (2 ^ k) : Nat)) = stpC 8 (k + 1)) := stpC_set 8 k
      have hpw : (2 : Int) ^ k % 4294967296 = ((2 ^ k : Nat) : Int) := by
        rw [show (2 : Int) ^ k = ((2 ^ k : Nat) : Int) by simp]; exact Int.emod_eq_of_lt (Int.natCast_nonneg _) (Int.ofNat_lt.2 hp)
      generalize 2 ^ k = p at *
      go_wp2_with fail
      refine (shifted8 p _ hp).mono ?_
      rintro e w' ⟨rfl, rfl⟩
      go_wp2_with fail
      go_roundw
      case rel => exact ⟨k + 1, by omega, by go_num, by rw [HW2.out]⟩
      case measure => simp [intOf]; omega
    · obtain rfl : k = 32 := by omega
      have hg0 : (w.alloc (.cells (stpC 8 32) 50)).heap[w.heap.size]? = some (.cells (stpC 8 32) 50 (0, 0)) := heap_alloc_last _ _
      have hU : Up w (w.alloc (.cells (stpC 8 32) 50)) := (Up.refl _).alloc _
      have hi : ∀ m k, (Try.prog.info? 50).map (·.size) = some (stpC m k).size := fun m k => by rw [stpC_size]; exact hi50
      have HI : Hid (∀ m k, (Try.prog.info? 50).map (·.size) = some (stpC m k).size) := hi
      clear hi
      generalize w.alloc (.cells (stpC 8 32) 50) = v at *
      go_wp2_with fail
      go_loopw [0, 2] (fun s0 s2 wr => ∃ l x m : Nat, l < 9223372036854775808 ∧ x < 4294967296 ∧ Sn (m * l) x = Sn (8 * n) a ∧ s0 = .int .u32 x ∧ s2 = .int .i64 l ∧ wr.heap[w.heap.size]? = some (.cells (stpC m 32) 50 (0, 0)) ∧ Up w wr) (fun _ i _ => (intOf i).toNat)
      case atStart => exact ⟨n, a, 8, hn, ha, rfl, rfl, rfl, hg0, hU⟩
      case round =>
        obtain ⟨l, x, m, hl, hx, hm, rfl, rfl, hg, hu⟩ := hrel
        have HM : Hid (Sn (m * l) x = Sn (8 * n) a) := hm
        clear hm hg0 hU
        by_cases h0 : l = 0
        · subst h0
          have HP : Hid (x = Sn (8 * n) a) := HM.out
          have e2 := xor_u32 x b hx hb
          go_wp2
          go_ret
          exact ⟨ret_int (by first | rw [HP.out] | rw [e2, HP.out]), hu⟩
        · have hpos : (0 : Int) < (l : Int) := by omega
          have hsx : Sn m x < 4294967296 := Sn_lt hx
          rcases Nat.mod_two_eq_zero_or_one l with hx2 | hx2
          · have hd : (l : Int) % 2 = 0 := by omega
            have HN : Hid (Sn ((m + m) * (l / 2)) x = Sn (8 * n) a) := by
              have := HM.out; rw [half_even m l hx2] at this; exact this
            clear hx2
            go_wp2_with (refine wpList_load_row rfl 50 (.tmp 7) rfl w.heap.size rfl 50 (stpC m 32) (0, 0) _ hg Try.underlying50 rfl (HI.out m 32) ?_)
            refine (twice m _).mono ?_
            rintro e v2 ⟨rfl, u2⟩
            have hg2 := u2.heap hg
            have hu2 := hu.trans u2
            go_wp2_with (refine wpList_store_row rfl 50 (.tmp 7) (.tmp 30) rfl w.heap.size (stpC (m + m) 32) rfl rfl 50 (stpC m 32) hg2 (HI.out _ _) (by rw [stpC_size, stpC_size]) (stpC_one _ _) ?_)
            have hg3 := setRow_heap v2 w.heap.size (stpC m 32) (stpC (m + m) 32) _ _ hg2
            have hu3 := up_row hu2 (Nat.le_refl _) (stpC (m + m) 32)
            go_roundw
            case rel => first | exact ⟨l / 2, x, m + m, by omega, hx, HN.out, rfl, by go_num, hg3, hu3⟩ | ((repeat apply Exists.intro); exact ⟨⟨l / 2, x, m + m, by omega, hx, HN.out, rfl, by go_num, hg3, hu3⟩, rfl⟩)
            case measure => simp [intOf]; omega
          · have hd : (l : Int) % 2 = 1 := by omega
            have HN : Hid (Sn ((m + m) * (l / 2)) (Sn m x) = Sn (8 * n) a) := by
              have := HM.out; rw [half_odd m l hx2, Sn_add] at this; exact this
            clear hx2
            go_wp2_with (refine wpList_load_row rfl 50 (.tmp 7) rfl w.heap.size rfl 50 (stpC m 32) (0, 0) _ hg Try.underlying50 rfl (HI.out m 32) ?_)
            refine (doneS m x _ hx).mono ?_
            rintro e v1 ⟨rfl, u1⟩
            have hg1 := u1.heap hg
            have hu1 := hu.trans u1
            go_wp2_with (refine wpList_load_row rfl 50 (.tmp 7) rfl w.heap.size rfl 50 (stpC m 32) (0, 0) _ hg1 Try.underlying50 rfl (HI.out m 32) ?_)
            refine (twice m _).mono ?_
            rintro e v2 ⟨rfl, u2⟩
            have hg2 := u2.heap hg1
            have hu2 := hu1.trans u2
            go_wp2_with (refine wpList_store_row rfl 50 (.tmp 7) (.tmp 30) rfl w.heap.size (stpC (m + m) 32) rfl rfl 50 (stpC m 32) hg2 (HI.out _ _) (by rw [stpC_size, stpC_size]) (stpC_one _ _) ?_)
            have hg3 := setRow_heap v2 w.heap.size (stpC m 32) (stpC (m + m) 32) _ _ hg2
            have hu3 := up_row hu2 (Nat.le_refl _) (stpC (m + m) 32)
            go_roundw
            case rel => first | exact ⟨l / 2, Sn m x, m + m, by omega, hsx, HN.out, rfl, by go_num, hg3, hu3⟩ | ((repeat apply Exists.intro); exact ⟨⟨l / 2, Sn m x, m + m, by omega, hsx, HN.out, rfl, by go_num, hg3, hu3⟩, rfl⟩)
            case measure => simp [intOf]; omega
end Go.Proofs.Ytaecbgdjifbgdaa
