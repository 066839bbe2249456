
/-
  Lists of bytes: copies, whether two are the same, lists with marks behind them.
-/
import Derived.Test.YtoaaehgnbapibaaDoorSl
namespace Go.Proofs.YtoaaehgnbapibaaDoor
namespace SM
open Go.RowKit

def Lies (w : World) (v : Value) (zs : List Nat) : Prop :=
  ∃ a cap, v = .slice a zs.length cap ∧ (a = none → cap = 0) ∧ (zs.length ≠ 0 → ∃ b off, a = some ⟨b, off, none⟩ ∧ ∀ i, i < zs.length → w.cell? ⟨b, off + i, none⟩ = some (.int .u8 (zs.getD i 0 : Nat)))
def Bys (zs : List Nat) : Prop := ∀ i, zs.getD i 0 < 256
theorem Lies.up {w w' : World} {v : Value} {zs : List Nat} (h : Lies w v zs) (u : Up w w') : Lies w' v zs := by
  obtain ⟨a, cap, rfl, hz, h⟩ := h
  refine ⟨a, cap, rfl, hz, fun hn => ?_⟩
  obtain ⟨b, off, rfl, hc⟩ := h hn
  exact ⟨b, off, rfl, fun i hi => u.cell (hc i hi)⟩
theorem take_snoc' (zs : List Nat) (k : Nat) (h : k < zs.length) : zs.take (k + 1) = zs.take k ++ [zs.getD k 0] := by
  rw [List.take_succ_eq_append_getElem h]; simp [List.getD, List.getElem?_eq_getElem h]
theorem Bys.mem {zs : List Nat} (h : Bys zs) : ∀ c ∈ zs, c < 256 := by
  intro c hc
  obtain ⟨i, hi, rfl⟩ := List.getElem_of_mem hc
  have := h i
  rwa [List.getD, List.getElem?_eq_getElem hi] at this
theorem Bys.of {zs : List Nat} (h : ∀ c ∈ zs, c < 256) : Bys zs := by
  intro i
  by_cases hi : i < zs.length
  · rw [List.getD, List.getElem?_eq_getElem hi]; exact h _ (List.getElem_mem hi)
  · rw [List.getD, List.getElem?_eq_none (by omega)]; decide
theorem Bys.take {zs : List Nat} (h : Bys zs) (k : Nat) : Bys (zs.take k) := Bys.of fun c hc => h.mem c (List.mem_of_mem_take hc)

def bv (c : Nat) : Value := .int .u8 (c : Int)
def Owns (w : World) (base : Nat) (v : Value) (zs : List Nat) : Prop := w.ownsRow base 5 1 v zs.length (zs.map bv)
theorem Owns.lies {w : World} {base : Nat} {v : Value} {zs : List Nat} (h : Owns w base v zs) : Lies w v zs := by
  have hs : w.ownsRow base 5 1 v zs.length (zs.map bv) := h
  rcases hs.2 with ⟨rfl, hn⟩ | ⟨g, cap, cur, rfl, _⟩
  · exact ⟨none, 0, by rw [hn], fun _ => rfl, fun hz => absurd hn hz⟩
  · refine ⟨_, cap, rfl, (fun h => by cases h), fun _ => ⟨g, 0, rfl, fun i hi => ?_⟩⟩
    rw [Nat.zero_add, hs.cellAt i (by omega)]
    simp [List.getD, List.getElem?_eq_getElem hi, bv]
theorem bv_one (zs : List Nat) : ∀ u ∈ zs.map bv, u.oneCell' = true := by
  intro u hu
  obtain ⟨c, _, rfl⟩ := List.mem_map.1 hu
  rfl
theorem info5 : (Tryd.prog.info? 5).map (fun i => (i.zero, i.size, i.bytes)) = some (some (.int .u8 0), 1, 1) := by kernel_rfl
theorem lies_cells {w : World} {ad : Addr} {cap : Nat} {zs : List Nat} (h : Lies w (.slice (some ad) zs.length cap) zs) : ∀ j u, (zs.map bv)[j]? = some u → w.cell? (ad.add j) = some u := by
  intro j u hj
  have hjl : j < zs.length := by have := (List.getElem?_eq_some_iff.1 hj).1; simpa using this
  obtain ⟨a', cap', hv, _, h⟩ := h
  simp only [Value.slice.injEq] at hv
  obtain ⟨b, off, ha, hc⟩ := h (by omega)
  obtain ⟨e, _, _⟩ := hv
  rw [ha] at e
  simp only [Option.some.injEq] at e
  subst e
  rw [Addr.add_mid, hc j hjl, ← hj]
  simp [List.getD, List.getElem?_eq_getElem hjl, bv]
theorem lies_none {w : World} {len cap : Nat} {zs : List Nat} (h : Lies w (.slice none len cap) zs) : zs = [] := by
  obtain ⟨a', cap', hv, _, h⟩ := h
  simp only [Value.slice.injEq] at hv
  obtain ⟨e, _, _⟩ := hv
  apply List.eq_nil_of_length_eq_zero
  apply Classical.byContradiction
  intro hn
  obtain ⟨b, off, ha, _⟩ := h hn
  rw [← e] at ha
  cases ha
theorem lies_nocap {w : World} {len cap : Nat} {zs : List Nat} (h : Lies w (.slice none len cap) zs) : cap = 0 := by
  obtain ⟨a', cap', hv, hz, _⟩ := h
  simp only [Value.slice.injEq] at hv
  obtain ⟨e, _, e3⟩ := hv
  rw [e3]; exact hz e.symm
theorem up_grown {w W w' : World} {m base : Nat} {va : Value} {ys : List Value} (hO : W.ownsRow base 5 1 va m ys) (hU : Up w W) (hb : w.heap.size ≤ base)
    (hgrow : W.grownBy w' va.ownBlock) : Up w w' := by
  refine Below.grown hU hgrow hU.size ?_
  intro k hk
  have := hO.lt k hk
  omega
set_option maxHeartbeats 400000 in
theorem copyB (v : Value) (zs : List Nat) (w : World) (h : Lies w v zs) (hm : zs.length ≤ 4294967296) :
    Calls Tryd.prog 21 #[v] w fun e w' => ∃ u, e = .returned u ∧ Owns w' w.heap.size u zs ∧ Up w w' := by
  obtain ⟨i5, hi5, z0, z1, z2⟩ := info_parts info5
  obtain ⟨a, cap, hv, h'⟩ := h
  have HH : Hid (Lies w v zs) := ⟨a, cap, hv, h'⟩
  clear h'
  subst hv
  have hO : w.ownsRow w.heap.size 5 1 (.slice none 0 0) 0 [] := World.ownsRow_nil _ _ _ _
  cases a with
  | none =>
    obtain rfl := lies_none HH.out
    obtain rfl := lies_nocap HH.out
    go_enter Tryd.func21, Tryd.ntmps21
    go_wp2
    go_ret
    exact ⟨_, rfl, hO, Up.refl _⟩
  | some ad =>
    have HC : Hid (∀ j u, (zs.map bv)[j]? = some u → w.cell? (ad.add j) = some u) := lies_cells HH.out
    go_enter Tryd.func21, Tryd.ntmps21
    go_wp2_with (at_builtin; refine wpList_append_own _ rfl (.tmp 4) (.tmp 5) 25 rfl w.heap.size 5 i5 (.int .u8 0) 1 1 Tryd.underlying25 hi5 z0 z1 z2 rfl (by decide) _ _ _ rfl hO ad zs.length cap (zs.map bv) rfl (by simp) HC.out (bv_one zs) ?c3 ?c4 ?c5 ?_)
    case c3 => unfold maxLen; omega
    case c4 => omega
    case c5 => omega
    intro v' w' hown hgrow _
    have hown : w'.ownsRow w.heap.size 5 1 v' zs.length (zs.map bv) := by
      simpa using hown
    have hU := up_grown hO (Up.refl _) (Nat.le_refl _) hgrow
    go_wp2
    go_ret
    exact ⟨_, rfl, hown, hU⟩
theorem ret_bool {a b : Bool} (h : a = b) : Ending.returned (.bool a) = .returned (.bool b) := by rw [h]
theorem take_ne (zs ys : List Nat) (k : Nat) (h : zs.getD k 0 ≠ ys.getD k 0) : zs ≠ ys := by
  intro e; subst e; exact h rfl
theorem take_eq_snoc (zs ys : List Nat) (k : Nat) (h1 : k < zs.length) (h2 : k < ys.length) (h : zs.take k = ys.take k) (e : zs.getD k 0 = ys.getD k 0) : zs.take (k + 1) = ys.take (k + 1) := by
  rw [take_snoc' zs k h1, take_snoc' ys k h2, h, e]
set_option maxHeartbeats 400000 in
theorem eq_len (a b : Option Addr) (n m c1 c2 : Nat) (w : World) (h : n ≠ m) :
    Calls Tryd.prog 18 #[.slice a n c1, .slice b m c2] w fun e w' => e = .returned (.bool false) ∧ Up w w' := by
  have hd : ((n : Int) != (m : Int)) = true := by simp; omega
  go_enter Tryd.func18, Tryd.ntmps18
  go_wp2
  go_ret
  exact ⟨rfl, Up.refl _⟩
set_option maxHeartbeats 400000 in
theorem eq_zero (a b : Option Addr) (c1 c2 : Nat) (w : World) :
    Calls Tryd.prog 18 #[.slice a 0 c1, .slice b 0 c2] w fun e w' => e = .returned (.bool true) ∧ Up w w' := by
  go_enter Tryd.func18, Tryd.ntmps18
  go_wp2
  go_rounds 1
  go_ret
  exact ⟨rfl, Up.refl _⟩
set_option maxHeartbeats 1000000 in
theorem eq_some (b1 o1 b2 o2 n c1 c2 : Nat) (zs ys : List Nat) (w : World) (h1 : zs.length = n) (h2 : ys.length = n) (hm : n ≤ 9223372036854775807)
    (hc1 : ∀ i, i < n → w.cell? ⟨b1, o1 + i, none⟩ = some (.int .u8 (zs.getD i 0 : Nat))) (hc2 : ∀ i, i < n → w.cell? ⟨b2, o2 + i, none⟩ = some (.int .u8 (ys.getD i 0 : Nat))) :
    Calls Tryd.prog 18 #[.slice (some ⟨b1, o1, none⟩) n c1, .slice (some ⟨b2, o2, none⟩) n c2] w fun e w' => e = .returned (.bool (decide (zs = ys))) ∧ Up w w' := by
  have HC1 : Hid (∀ i, i < n → w.cell? ⟨b1, o1 + i, none⟩ = some (.int .u8 (zs.getD i 0 : Nat))) := hc1
  have HC2 : Hid (∀ i, i < n → w.cell? ⟨b2, o2 + i, none⟩ = some (.int .u8 (ys.getD i 0 : Nat))) := hc2
  have L1 : Hid (zs.length = n) := h1
  have L2 : Hid (ys.length = n) := h2
  obtain ⟨B, hB⟩ : ∃ B, B = decide (zs = ys) := ⟨_, rfl⟩
  rw [← hB]
  have HB : Hid (B = decide (zs = ys)) := hB
  clear hc1 hc2 h1 h2 hB
  go_enter Tryd.func18, Tryd.ntmps18
  go_wp2_with fail
  go_loopw [5] (fun s5 wr => ∃ k : Nat, k ≤ n ∧ s5 = .int .i64 k ∧ zs.take k = ys.take k ∧ Up w wr) (fun i _ => n - (intOf i).toNat)
  case atStart => exact ⟨0, Nat.zero_le _, rfl, rfl, Up.refl _⟩
  case round =>
    obtain ⟨k, hk, rfl, ht, hu⟩ := hrel
    have HT : Hid (zs.take k = ys.take k) := ht
    clear ht
    by_cases hlt : k < n
    · have hki : (k : Int) < (n : Int) := by omega
      have d0 := hu.cell (HC1.out k hlt)
      have d1 := hu.cell (HC2.out k hlt)
      by_cases hz : zs.getD k 0 = ys.getD k 0
      · have HN : Hid (zs.take (k + 1) = ys.take (k + 1)) := take_eq_snoc zs ys k (by rw [L1.out]; exact hlt) (by rw [L2.out]; exact hlt) HT.out hz
        rw [hz] at d0
        generalize ys.getD k 0 = y at *
        have hzz : ((y : Int) != (y : Int)) = false := by simp
        clear hz HT
        go_wp2_with fail
        go_quiet (fail)
        go_wp2
        go_roundw
        case rel => first | exact ⟨k + 1, by omega, by go_num, HN.out, Up.drewN hu _⟩ | ((repeat apply Exists.intro); exact ⟨⟨k + 1, by omega, by go_num, HN.out, Up.drewN hu _⟩, rfl⟩)
        case measure => simp [intOf]; omega
      · have HN : Hid (B = false) := by
          unfold Hid
          rw [HB.out]
          exact decide_eq_false (take_ne zs ys k hz)
        have hzz : ((zs.getD k 0 : Int) != (ys.getD k 0 : Int)) = true := bne_iff_ne.2 (by omega)
        generalize zs.getD k 0 = z at *
        generalize ys.getD k 0 = y at *
        clear hz HT
        go_wp2_with fail
        go_quiet (fail)
        go_wp2
        go_ret
        exact ⟨ret_bool HN.out.symm, Up.drewN hu _⟩
    · obtain rfl : k = n := by omega
      have HN : Hid (B = true) := by
        have := HT.out
        rw [List.take_of_length_le (by rw [L1.out]; exact Nat.le_refl _), List.take_of_length_le (by rw [L2.out]; exact Nat.le_refl _)] at this
        unfold Hid
        rw [HB.out]
        exact decide_eq_true this
      go_wp2
      go_ret
      exact ⟨ret_bool HN.out.symm, hu⟩
theorem eqB (v u : Value) (zs ys : List Nat) (w : World) (hv : Lies w v zs) (hu : Lies w u ys) (hm : zs.length ≤ 9223372036854775807) :
    Calls Tryd.prog 18 #[v, u] w fun e w' => e = .returned (.bool (decide (zs = ys))) ∧ Up w w' := by
  obtain ⟨a, c1, rfl, _, h1⟩ := hv
  obtain ⟨b, c2, rfl, _, h2⟩ := hu
  by_cases hl : zs.length = ys.length
  · by_cases h0 : zs.length = 0
    · obtain rfl := List.eq_nil_of_length_eq_zero h0
      obtain rfl := List.eq_nil_of_length_eq_zero (l := ys) (by rw [← hl]; rfl)
      exact eq_zero a b c1 c2 w
    · obtain ⟨b1, o1, rfl, hc1⟩ := h1 h0
      obtain ⟨b2, o2, rfl, hc2⟩ := h2 (by rw [← hl]; exact h0)
      rw [← hl] at hc2 ⊢
      exact eq_some b1 o1 b2 o2 zs.length c1 c2 zs ys w rfl hl.symm hm hc1 hc2
  · rw [show decide (zs = ys) = false from decide_eq_false (fun e => hl (by rw [e]))]
    exact eq_len a b _ _ c1 c2 w hl
/- a row of bytes that the call made, written over place by place -/
def Row (w : World) (base g : Nat) (L : List Nat) : Prop := w.ownsRow base 5 1 (.slice (some ⟨g, 0, none⟩) L.length L.length) L.length (L.map bv)
theorem Row.cell {w : World} {base g : Nat} {L : List Nat} (h : Row w base g L) (k : Nat) (hk : k < L.length) : w.cell? ⟨g, k, none⟩ = some (.int .u8 (L.getD k 0 : Nat)) := by
  have h' : w.ownsRow base 5 1 (.slice (some ⟨g, 0, none⟩) L.length L.length) L.length (L.map bv) := h
  rw [h'.cellAt k (by omega)]
  simp [List.getD, List.getElem?_eq_getElem hk, bv]
theorem Row.frozen {w : World} {base g : Nat} {L : List Nat} (h : Row w base g L) (k : Nat) : w.frozen? ⟨g, k, none⟩ = false := World.ownsRow.frozenAt h k
theorem Row.base_le {w : World} {base g : Nat} {L : List Nat} (h : Row w base g L) : base ≤ g ∧ g < w.heap.size := World.ownsRow.lt h g rfl
theorem Row.set {w : World} {base g : Nat} {L : List Nat} (h : Row w base g L) (k c : Nat) : Row (w.setCell ⟨g, k, none⟩ (.int .u8 (c : Int))) base g (L.set k c) := by
  have h' : w.ownsRow base 5 1 (.slice (some ⟨g, 0, none⟩) L.length L.length) L.length (L.map bv) := h
  have := (h'.stored k (.int .u8 (c : Int))).1
  unfold Row
  rw [List.length_set, List.map_set]
  exact this
theorem Row.up {w w' : World} {base g : Nat} {L : List Nat} (h : Row w base g L) (u : Up w w') : Row w' base g L := by
  obtain ⟨h1, h2⟩ := h
  refine ⟨h1, ?_⟩
  rcases h2 with ⟨e, _⟩ | ⟨g', cap, cur, e1, e2, e3, r⟩
  · cases e
  · refine Or.inr ⟨g', cap, cur, e1, e2, ?_, r⟩
    rw [u.block g' (Array.getElem?_eq_some_iff.1 e3).1]; exact e3
theorem Row.lies {w : World} {base g cap : Nat} {L : List Nat} (h : Row w base g L) (n : Nat) (hn : n ≤ L.length) : Lies w (.slice (some ⟨g, 0, none⟩) n cap) (L.take n) := by
  have hl : (L.take n).length = n := by rw [List.length_take]; omega
  refine ⟨_, cap, by rw [hl], (fun e => by cases e), fun _ => ⟨g, 0, rfl, fun i hi => ?_⟩⟩
  rw [Nat.zero_add, h.cell i (by omega)]
  simp only [List.getD]
  rw [List.getElem?_take_of_lt (by omega)]
def mark (j : Nat) : Nat := (282 + 7 * j) % 256
def fillL (zs : List Nat) (k n : Nat) : List Nat := (List.range n).map fun j => if j < k then (if j < zs.length then zs.getD j 0 else mark j) else 0
theorem fillL_len (zs : List Nat) (k n : Nat) : (fillL zs k n).length = n := by simp [fillL]
theorem fillL_zero (zs : List Nat) (n : Nat) : (fillL zs 0 n).map bv = List.replicate n (.int .u8 0) := by
  unfold fillL
  apply List.ext_getElem
  · simp
  · intro i h1 h2; simp [bv]
theorem fillL_set (zs : List Nat) (k n c : Nat) (h : c = if k < zs.length then zs.getD k 0 else mark k) : (fillL zs k n).set k c = fillL zs (k + 1) n := by
  unfold fillL
  apply List.ext_getElem
  · simp
  · intro i h1 h2
    simp only [List.getElem_set, List.getElem_map, List.getElem_range]
    by_cases e : k = i
    · subst e; rw [if_pos rfl, if_pos (Nat.lt_succ_self k), h]
    · rw [if_neg e]
      by_cases hik : i < k
      · rw [if_pos hik, if_pos (show i < k + 1 by omega)]
      · rw [if_neg hik, if_neg (show ¬ i < k + 1 by omega)]
theorem fillL_at (zs : List Nat) (k n j : Nat) (h : j < n) : (fillL zs k n).getD j 0 = if j < k then (if j < zs.length then zs.getD j 0 else mark j) else 0 := by
  simp [fillL, List.getD, h]
theorem fillL_take (zs : List Nat) (n : Nat) (h : zs.length ≤ n) : (fillL zs n n).take zs.length = zs := by
  apply List.ext_getElem
  · simp [fillL]; omega
  · intro i h1 h2
    simp only [List.getElem_take, fillL, List.getElem_map, List.getElem_range]
    rw [if_pos (by omega), if_pos h2, List.getD, List.getElem?_eq_getElem h2]; rfl
set_option maxRecDepth 100000 in
set_option maxHeartbeats 2000000 in
theorem wideB (v : Value) (zs : List Nat) (w : World) (h : Lies w v zs) (hb : Bys zs) (hm : zs.length ≤ 2147483647) :
    Calls Tryd.prog 13 #[v] w fun e w' => ∃ g, e = .returned (.slice (some ⟨g, 0, none⟩) zs.length (zs.length + 64)) ∧ Row w' w.heap.size g (fillL zs (zs.length + 64) (zs.length + 64)) ∧ Up w w' := by
  obtain ⟨i5, hi5, z0, z1, z2⟩ := info_parts info5
  obtain ⟨a, cap, hv, hz, h'⟩ := h
  have HH : Hid (zs.length ≠ 0 → ∃ b off, a = some ⟨b, off, none⟩ ∧ ∀ i, i < zs.length → w.cell? ⟨b, off + i, none⟩ = some (.int .u8 (zs.getD i 0 : Nat))) := h'
  have HB : Hid (Bys zs) := hb
  clear h' hz hb
  subst hv
  obtain ⟨n, hn⟩ : ∃ n, zs.length = n := ⟨_, rfl⟩
  rw [hn] at hm ⊢
  have HL : Hid (zs.length = n) := hn
  clear hn
  go_enter Tryd.func13, Tryd.ntmps13
  go_wp2_with (at_make; refine wpList_make_full _ rfl _ _ 25 rfl w.heap.size 5 i5 (.int .u8 0) 1 Tryd.underlying25 hi5 z0 z1 .i64 .i64 _ _ (n + 64) rfl rfl (by omega) (by omega) (by rw [z2]; omega) (by unfold maxLen; omega) (Nat.le_refl _) ?_; intro w1 hin hg1)
  have hup : Up w w1 := Below.grown (Up.refl _) hg1 (Nat.le_refl _) (fun k hk => by cases hk)
  have hrow : Row w1 w.heap.size w.heap.size (fillL zs 0 (n + 64)) := by
    unfold Row
    rw [fillL_len, fillL_zero, ← toList_madeCells_one]
    rw [Nat.mul_one] at hin
    exact hin
  clear hin hg1
  go_loopw [4] (fun i wr => ∃ k : Nat, k ≤ n + 64 ∧ i = .int .i64 k ∧ Row wr w.heap.size w.heap.size (fillL zs k (n + 64)) ∧ Up w wr)
    (fun i _ => n + 64 - (intOf i).toNat)
  case atStart => exact ⟨0, Nat.zero_le _, rfl, hrow, hup⟩
  case round =>
    obtain ⟨k, hk, rfl, hr, hu⟩ := hrel
    clear hrow hup
    by_cases hlt : k < n + 64
    · have hki : (k : Int) < (n : Int) + 64 := by omega
      have f1 := hr.frozen k
      have c1 := hr.cell k (by rw [fillL_len]; exact hlt)
      rw [fillL_at zs k _ k hlt, if_neg (Nat.lt_irrefl k)] at c1
      by_cases hl0 : k < n
      · have hlz : k < zs.length := by rw [HL.out]; exact hl0
        obtain ⟨b, off, hx, hcell⟩ := HH.out (by omega)
        have hc := hu.cell (hcell k hlz)
        have hbw : b < w.heap.size := World.block_lt_of_cell? w ⟨b, off + k, none⟩ (hcell k hlz)
        subst hx
        clear hcell
        have hz8 := HB.out k
        have hbg : ¬ w.heap.size = b := by omega
        have hR := hr.set k (zs.getD k 0)
        rw [fillL_set zs k _ _ (by rw [if_pos hlz])] at hR
        have hU : Up w (wr.setCell ⟨w.heap.size, k, none⟩ (.int .u8 (zs.getD k 0 : Nat))) := Below.setCell hu (Nat.le_refl _) _
        generalize zs.getD k 0 = z at *
        have hli : (k : Int) < (n : Int) := by omega
        clear hr hu
        go_wp2
        go_roundw
        case rel => first | exact ⟨k + 1, by omega, by go_num, hR, hU⟩ | ((repeat apply Exists.intro); exact ⟨⟨k + 1, by omega, by go_num, hR, hU⟩, rfl⟩)
        case measure => simp [intOf]; omega
      · have hlz : ¬ k < zs.length := by rw [HL.out]; exact hl0
        have hli : ¬ (k : Int) < (n : Int) := by omega
        have hR := hr.set k (mark k)
        rw [fillL_set zs k _ _ (by rw [if_neg hlz])] at hR
        have hU : Up w (wr.setCell ⟨w.heap.size, k, none⟩ (.int .u8 (mark k : Nat))) := Below.setCell hu (Nat.le_refl _) _
        have hmk : IntKind.u8.wrap (279 + 7 * (k : Int) + 3) = (mark k : Nat) := by rw [IntKind.wrap_u8']; unfold mark; omega
        generalize mark k = z at *
        clear hr hu
        go_wp2
        go_roundw
        case rel => first | exact ⟨k + 1, by omega, by go_num, hR, hU⟩ | ((repeat apply Exists.intro); exact ⟨⟨k + 1, by omega, by go_num, hR, hU⟩, rfl⟩)
        case measure => simp [intOf]; omega
    · obtain rfl : k = n + 64 := by omega
      go_wp2
      go_ret
      exact ⟨_, rfl, hr, hu⟩
set_option maxRecDepth 100000 in
set_option maxHeartbeats 2000000 in
theorem spareB (g n : Nat) (w : World) (hm : n ≤ 2147483647) (hc : ∀ j, n ≤ j → j < n + 64 → w.cell? ⟨g, j, none⟩ = some (.int .u8 (mark j : Nat))) :
    Calls Tryd.prog 19 #[.slice (some ⟨g, 0, none⟩) n (n + 64)] w fun e w' => e = .returned (.bool true) ∧ w' = w := by
  have HC : Hid (∀ j, n ≤ j → j < n + 64 → w.cell? ⟨g, j, none⟩ = some (.int .u8 (mark j : Nat))) := hc
  clear hc
  go_enter Tryd.func19, Tryd.ntmps19
  go_wp2_with fail
  go_loop [4] (fun s4 => ∃ k : Nat, n ≤ k ∧ k ≤ n + 64 ∧ s4 = .int .i64 k) (fun i => n + 64 - (intOf i).toNat)
  case atStart => exact ⟨n, Nat.le_refl _, by omega, rfl⟩
  case round =>
    obtain ⟨k, h1, h2, rfl⟩ := hrel
    by_cases hlt : k < n + 64
    · have hki : (k : Int) < (n : Int) + 64 := by omega
      have hcell := HC.out k h1 hlt
      have hmk : IntKind.u8.wrap (279 + 7 * (k : Int) + 3) = (mark k : Nat) := by rw [IntKind.wrap_u8']; unfold mark; omega
      generalize mark k = z at *
      have hzz : ((z : Int) == (z : Int)) = true := by simp
      go_wp2
      go_round
      case rel => exact ⟨k + 1, by omega, by omega, by go_num⟩
      case measure => simp [intOf]; omega
    · obtain rfl : k = n + 64 := by omega
      go_wp2
      go_ret
      exact ⟨rfl, rfl⟩
end SM
end Go.Proofs.YtoaaehgnbapibaaDoor
