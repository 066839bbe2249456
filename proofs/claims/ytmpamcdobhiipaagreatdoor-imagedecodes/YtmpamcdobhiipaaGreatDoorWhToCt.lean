/-
  Check and Where.
-/
import Derived.Test.YtmpamcdobhiipaaGreatDoorFfQ
namespace Go.Proofs.YtmpamcdobhiipaaGreatDoor
open Go.RowKit
attribute [local go_sem ↓] Go.wp_at_zero Go.wp_at_succ

namespace ST
def ckV (r : Option Nat) : Value := .tuple #[.int .i64 (if r = none then 0 else 10), .int .i64 (r.getD 0 : Nat)]
set_option maxHeartbeats 2000000 in
theorem check_ (v : Value) (s : Stt) (w : World) (hs : StL w v s) (hsm : Small s) :
    Calls Tryz.prog 17 #[v] w fun e w' => e = .returned (ckV (ff s)) ∧ Up w w' := by
  have hc := firstFault_ v s _ (hs.up ((Up.refl w).alloc (.cells v.cells 30))) hsm
  obtain ⟨vp, vc, vz, rfl, -, -, -⟩ := hs
  cases hff : ff s with
  | none =>
    rw [hff] at hc
    unfold FPost sv at hc
    have HC : Hid _ := hc
    clear hc hff hsm
    unfold sv
    go_enter Tryz.func17, Tryz.ntmps17
    go_wp2_with fail
    refine Calls.mono HC.out ?_
    rintro e w1 ⟨rfl, u1⟩
    clear HC
    have HU : Hid (Up w w1) := ((Up.refl w).alloc _).trans u1
    clear u1
    go_wp2
    go_ret2
    exact ⟨rfl, HU.out⟩
  | some k =>
    rw [hff] at hc
    unfold FPost sv at hc
    have HC : Hid _ := hc
    clear hc hff hsm
    unfold sv
    go_enter Tryz.func17, Tryz.ntmps17
    go_wp2_with fail
    refine Calls.mono HC.out ?_
    rintro e w1 ⟨rfl, u1⟩
    clear HC
    have HU : Hid (Up w w1) := ((Up.refl w).alloc _).trans u1
    clear u1
    go_wp2
    go_ret2
    exact ⟨rfl, HU.out⟩
theorem wh_hit {c : Int} {zs : List (List Int)} {z i : Nat} (hz : z < zs.length) (hi : i < (zs.getD z []).length) (h1 : ∀ j, j < i → (zs.getD z []).getD j 0 ≠ c) (h2 : (zs.getD z []).getD i 0 = c) : wh c (zs.drop z) z = some (z, i) := by
  have e : zs.drop z = zs.getD z [] :: zs.drop (z + 1) := by rw [List.drop_eq_getElem_cons hz, List.getD_eq_getElem?_getD, List.getElem?_eq_getElem hz]; rfl
  rw [e]
  unfold wh
  have : (zs.getD z []).findIdx? (fun x => decide (x = c)) = some i := by
    have := findIdx_at (zs.getD z []) (fun x => !decide (x = c)) 0 i hi (fun j hj => by simpa using h1 j hj) (by simpa using h2)
    simpa using this
  rw [this]
theorem wh_miss {c : Int} {zs : List (List Int)} {z : Nat} (hz : z < zs.length) (h1 : ∀ j, j < (zs.getD z []).length → (zs.getD z []).getD j 0 ≠ c) : wh c (zs.drop z) z = wh c (zs.drop (z + 1)) (z + 1) := by
  have e : zs.drop z = zs.getD z [] :: zs.drop (z + 1) := by rw [List.drop_eq_getElem_cons hz, List.getD_eq_getElem?_getD, List.getElem?_eq_getElem hz]; rfl
  rw [e, wh]
  have : (zs.getD z []).findIdx? (fun x => decide (x = c)) = none := by
    have := findIdx_no (zs.getD z []) (fun x => !decide (x = c)) 0 (fun j hj => by simpa using h1 j hj)
    simpa using this
  rw [this]
def whV (r : Option (Nat × Nat)) : Value := .tuple #[.int .i64 ((r.map (·.1)).getD 0 : Nat), .int .i64 ((r.map (·.2)).getD 0 : Nat), .bool r.isSome]
def WPost (w : World) (r : Option (Nat × Nat)) (e : Ending) (w' : World) : Prop := e = .returned (whV r) ∧ Up w w'
end ST
end Go.Proofs.YtmpamcdobhiipaaGreatDoor
/-
  Copies in memory of their own: lists of ints, players, cards, lists of lists, states.
-/
namespace Go.Proofs.YtmpamcdobhiipaaGreatDoor
open Go.RowKit
attribute [local go_sem ↓] Go.wp_at_zero Go.wp_at_succ

theorem run_append_lc {P : Program} (w : World) (base : Nat) (t ty e : TypeId) (i : TypeInfo) (z : Value) (size bytes : Nat) (ht : P.underlying t = some (.slice e)) (hi : P.info? e = some i) (hz : i.zero = some z)
    (hsize : i.size = size) (hby : i.bytes = bytes) (hzs : z.cells.size = size) (hsz : 0 < size)
    (v : Value) (n : Nat) (xs : List Value) (hown : w.ownsRow base e size v n xs) (u : Value) (m : Nat) (cs : List Value) (hu : LC w u size m cs) (h1 : ∀ u ∈ cs, u.oneCell' = true)
    (h63 : n + m ≤ maxLen) (hbytes : (n + m) * bytes ≤ 140737488355328) (hbase : base ≤ w.heap.size) :
    ∃ v' w', (Builtin.append_ #[t, t] ty #[v, u]).run P w = .ok v' w' ∧ w'.ownsRow base e size v' (n + m) (xs ++ cs) ∧ w.grownBy w' v.ownBlock := by
  obtain ⟨hl, a, cap, rfl, -, hc⟩ := hu
  by_cases hm : m = 0
  · subst hm
    have hcs : cs = [] := List.eq_nil_of_length_eq_zero (by omega)
    subst hcs
    cases a with
    | some ad =>
      obtain ⟨v', w', h2, h3, h4, -⟩ := run_append_own (P := P) w base t ty e i z size bytes ht hi hz hsize hby hzs hsz v n xs hown ad 0 cap [] (by simp) (by simp) (by simp) h63 hbytes hbase
      exact ⟨v', w', h2, h3, h4⟩
    | none =>
      refine ⟨v, w, ?_, by simpa using hown, ⟨rfl, rfl, rfl, Nat.le_refl _, fun _ _ _ => rfl⟩⟩
      rcases hown.2 with ⟨rfl, rfl⟩ | ⟨g, cap, cur, rfl, _, _, hnc, _⟩
      · simp [Builtin.append_, run_underlying ht, sizeOf, typeInfo, hi, Builtin.lenOf, Builtin.firstCells]
      · simp [Builtin.append_, run_underlying ht, sizeOf, typeInfo, hi, Builtin.lenOf, Builtin.firstCells, hnc, storeCells]
  · obtain ⟨b, off, rfl, hcell⟩ := hc hm
    obtain ⟨v', w', h2, h3, h4, -⟩ := run_append_own (P := P) w base t ty e i z size bytes ht hi hz hsize hby hzs hsz v n xs hown ⟨b, off, none⟩ m cap cs hl (fun j u hj => by
      rw [Addr.add_mid]
      have : j < cs.length := (List.getElem?_eq_some_iff.1 hj).1
      rw [hcell j (by omega)]; exact hj) h1 h63 hbytes hbase
    exact ⟨v', w', h2, h3, h4⟩
theorem wpList_append_lc {P : Program} {w : World} {ops : Array Oper} {rest : List Oper} {o : Oper} {a : Act} {Q : Exit → Act → World → Prop} (hgd : o.guard = none) (s x : Operand) (t : TypeId)
    (ho : o.op = .call { callee := .builtin .append, args := #[s, x], argTypes := #[t, t] })
    (base : Nat) (e : TypeId) (i : TypeInfo) (z : Value) (size bytes : Nat) (ht : P.underlying t = some (.slice e)) (hi : P.info? e = some i) (hz : i.zero = some z)
    (hsize : i.size = size) (hby : i.bytes = bytes) (hzs : z.cells.size = size) (hsz : 0 < size)
    (v : Value) (n : Nat) (xs : List Value) (hs : a.eval s = v) (hown : w.ownsRow base e size v n xs) (u : Value) (m : Nat) (cs : List Value) (hx : a.eval x = u) (hu : LC w u size m cs) (h1 : ∀ u ∈ cs, u.oneCell' = true)
    (h63 : n + m ≤ maxLen) (hbytes : (n + m) * bytes ≤ 140737488355328) (hbase : base ≤ w.heap.size)
    (h : ∀ v' w', w'.ownsRow base e size v' (n + m) (xs ++ cs) → w.grownBy w' v.ownBlock → wpList P ops Q rest (a.put o.dst v') w') : wpList P ops Q (o :: rest) a w := by
  refine wpList_plain hgd fun K hK => ?_
  obtain ⟨v', w', hr, h2, h3⟩ := run_append_lc (P := P) w base t o.type e i z size bytes ht hi hz hsize hby hzs hsz v n xs hown u m cs hu h1 h63 hbytes hbase
  unfold Oper.wp execOp
  simp only [ho, resolve, invoke, builtin, Sem.run_bind, Sem.run_pure, Result.andThen_ok, List.map_toArray, List.map_cons, List.map_nil, hs, hx, hr]
  exact hK _ _ (h v' w' h2 h3)
theorem own_lc {W : World} {base e s n : Nat} {v : Value} {xs : List Value} (h : W.ownsRow base e s v n xs) : LC W v s n xs := by
  refine ⟨h.1, ?_⟩
  rcases h.2 with ⟨rfl, rfl⟩ | ⟨g, cap, cur, rfl, _, _, hnc, _⟩
  · exact ⟨none, 0, rfl, Nat.le_refl _, fun h => absurd rfl h⟩
  · exact ⟨some ⟨g, 0, none⟩, cap, rfl, hnc, fun _ => ⟨g, 0, rfl, fun j hj => by rw [Nat.zero_add]; exact h.cellAt j hj⟩⟩
theorem row_set {w : World} {base e s n b j : Nat} {v u : Value} {xs : List Value} (h : w.ownsRow base e s v n xs) (hb : b < base) : (w.setCell ⟨b, j, none⟩ u).ownsRow base e s v n xs := by
  refine ⟨h.1, ?_⟩
  rcases h.2 with h | ⟨g, cap, cur, e1, e2, e3, e4⟩
  · exact .inl h
  · exact .inr ⟨g, cap, cur, e1, e2, by rw [Below.heap_setCell _ _ _ _ (by show g ≠ b; omega)]; exact e3, e4⟩
theorem row_apart {w : World} {b1 b2 e1 e2 s1 s2 n1 n2 : Nat} {v1 v2 : Value} {x1 x2 : List Value} (h1 : w.ownsRow b1 e1 s1 v1 n1 x1) (h2 : w.ownsRow b2 e2 s2 v2 n2 x2) (he : e1 ≠ e2) : v1.ownBlock = none ∨ v1.ownBlock ≠ v2.ownBlock := by
  rcases h1.2 with ⟨rfl, -⟩ | ⟨g1, c1, k1, rfl, -, hg1, -⟩
  · exact .inl rfl
  · refine .inr ?_
    rcases h2.2 with ⟨rfl, -⟩ | ⟨g2, c2, k2, rfl, -, hg2, -⟩
    · simp [Value.ownBlock]
    · simp only [Value.ownBlock, ne_eq, Option.some.injEq]
      intro e
      subst e
      rw [hg1] at hg2
      cases hg2
      exact he rfl
namespace ST
theorem infoI : (Tryz.prog.info? 3).map (fun i => (i.zero, i.size, i.bytes)) = some (some (.int .i64 0), 1, 8) := by kernel_rfl
theorem infoP : (Tryz.prog.info? 95).map (fun i => (i.zero, i.size, i.bytes)) = some (some (.agg #[.int .i32 0, .int .i32 0, .bool false]), 3, 12) := by kernel_rfl
theorem infoC : (Tryz.prog.info? 83).map (fun i => (i.zero, i.size, i.bytes)) = some (some (.agg #[.int .i64 0, .int .i64 0, .int .i32 0, .int .i32 0, .int .i32 0, .int .i32 0]), 6, 32) := by kernel_rfl
theorem infoR : (Tryz.prog.info? 84).map (fun i => (i.zero, i.size, i.bytes)) = some (some (.slice none 0 0), 1, 24) := by kernel_rfl
theorem ivs_one (l : List Int) : ∀ u ∈ ivs l, u.oneCell' = true := by
  intro u hu
  simp only [ivs, List.mem_map] at hu
  obtain ⟨z, _, rfl⟩ := hu
  rfl
theorem pvs_one (l : List Ply) : ∀ u ∈ pvs l, u.oneCell' = true := by
  intro u hu
  simp only [pvs, List.mem_flatMap, pv, List.mem_cons, List.not_mem_nil, or_false] at hu
  obtain ⟨z, _, rfl | rfl | rfl⟩ := hu <;> rfl
theorem cvs_one (l : List Crd) : ∀ u ∈ cvs l, u.oneCell' = true := by
  intro u hu
  simp only [cvs, List.mem_flatMap, cv, List.mem_cons, List.not_mem_nil, or_false] at hu
  obtain ⟨z, _, rfl | rfl | rfl | rfl | rfl | rfl⟩ := hu <;> rfl
/- own lists -/
def IRow (base : Nat) (W : World) (v : Value) (l : List Int) : Prop := W.ownsRow base 3 1 v l.length (ivs l)
def PO (base : Nat) (W : World) (v : Value) (l : List Ply) : Prop := W.ownsRow base 95 3 v l.length (pvs l)
def CO (base : Nat) (W : World) (v : Value) (l : List Crd) : Prop := W.ownsRow base 83 6 v l.length (cvs l)
def ZO (base : Nat) (W : World) (v : Value) (zs : List (List Int)) : Prop := ∃ vs, W.ownsRow base 84 1 v zs.length vs ∧ ∀ i, i < zs.length → IRow base W (vs.getD i nl) (zs.getD i [])
def SO (base : Nat) (W : World) (v : Value) (s : Stt) : Prop := ∃ vp vc vz, v = sv vp vc vz s ∧ PO base W vp s.ps ∧ CO base W vc s.cs ∧ ZO base W vz s.zs
theorem IRow.il {base : Nat} {W : World} {v : Value} {l : List Int} (h : IRow base W v l) : IL W v l := own_lc h
theorem ZO.zl {base : Nat} {W : World} {v : Value} {zs : List (List Int)} (h : ZO base W v zs) : ZL W v zs := by
  obtain ⟨vs, h1, h2⟩ := h
  exact ⟨vs, own_lc h1, fun i hi => (h2 i hi).il⟩
theorem SO.sl {base : Nat} {W : World} {v : Value} {s : Stt} (h : SO base W v s) : StL W v s := by
  obtain ⟨vp, vc, vz, hv, h1, h2, h3⟩ := h
  exact ⟨vp, vc, vz, hv, own_lc h1, own_lc h2, h3.zl⟩
theorem own_less {W : World} {b b' e s n : Nat} {v : Value} {xs : List Value} (h : W.ownsRow b e s v n xs) (hb : b' ≤ b) : W.ownsRow b' e s v n xs := by
  refine ⟨h.1, ?_⟩
  rcases h.2 with h | ⟨g, cap, cur, e1, e2, e3⟩
  · exact .inl h
  · exact .inr ⟨g, cap, cur, e1, Nat.le_trans hb e2, e3⟩
theorem ZO.less {b b' : Nat} {W : World} {v : Value} {zs : List (List Int)} (h : ZO b W v zs) (hb : b' ≤ b) : ZO b' W v zs := by
  obtain ⟨vs, h1, h2⟩ := h
  exact ⟨vs, own_less h1 hb, fun i hi => own_less (h2 i hi) hb⟩
theorem ZO.up {b : Nat} {W W' : World} {v : Value} {zs : List (List Int)} (h : ZO b W v zs) (u : Up W W') : ZO b W' v zs := by
  obtain ⟨vs, h1, h2⟩ := h
  exact ⟨vs, row_up h1 u, fun i hi => row_up (h2 i hi) u⟩
theorem ZO.set {b k j : Nat} {W : World} {v u : Value} {zs : List (List Int)} (h : ZO b W v zs) (hk : k < b) : ZO b (W.setCell ⟨k, j, none⟩ u) v zs := by
  obtain ⟨vs, h1, h2⟩ := h
  exact ⟨vs, row_set h1 hk, fun i hi => row_set (h2 i hi) hk⟩
def CpPost (w : World) (D : World → Value → Prop) (e : Ending) (w' : World) : Prop := ∃ v', e = .returned v' ∧ D w' v' ∧ Up w w'
end ST
end Go.Proofs.YtmpamcdobhiipaaGreatDoor
/-
  Copies of lists of lists and of states.
-/
namespace Go.Proofs.YtmpamcdobhiipaaGreatDoor
open Go.RowKit
attribute [local go_sem ↓] Go.wp_at_zero Go.wp_at_succ

namespace ST
/- the first i rows, and the list that holds them -/
def ZM (base : Nat) (W : World) (v : Value) (i : Nat) (zs : List (List Int)) : Prop := ∃ vs, W.ownsRow base 84 1 v i vs ∧ ∀ j, j < i → IRow base W (vs.getD j nl) (zs.getD j [])
theorem zm_more {base i : Nat} {W W1 W2 : World} {v v' x : Value} {zs : List (List Int)} (h : ZM base W v i zs) (u : Up W W1) (hx : IRow base W1 x (zs.getD i [])) (hlen : ∀ vs, W.ownsRow base 84 1 v i vs → W2.ownsRow base 84 1 v' (i + 1) (vs ++ [x])) (hg : W1.grownBy W2 v.ownBlock) : ZM base W2 v' (i + 1) zs := by
  obtain ⟨vs, h1, h2⟩ := h
  have hl : vs.length = i := by have := h1.1; omega
  have k1 := row_up h1 u
  refine ⟨vs ++ [x], hlen vs h1, fun j hj => ?_⟩
  by_cases e : j = i
  · subst e
    rw [List.getD_eq_getElem?_getD, List.getElem?_append_right (by omega), hl]
    simp
    exact World.ownsRow.kept hx hg (row_apart hx k1 (by decide))
  · have hj' : j < i := by omega
    rw [List.getD_eq_getElem?_getD, List.getElem?_append_left (by omega), ← List.getD_eq_getElem?_getD]
    have := row_up (h2 j hj') u
    exact World.ownsRow.kept this hg (row_apart this k1 (by decide))
theorem row_same {w : World} {b1 b2 e s n : Nat} {v : Value} {x1 x2 : List Value} (h1 : w.ownsRow b1 e s v n x1) (h2 : w.ownsRow b2 e s v n x2) : x1 = x2 := by
  rcases h1.2 with ⟨rfl, rfl⟩ | ⟨g, cap, cur, rfl, -, hg, -, -, -, ht⟩
  · have e1 : x1 = [] := List.eq_nil_of_length_eq_zero (by rw [h1.1]; simp)
    have e2 : x2 = [] := List.eq_nil_of_length_eq_zero (by rw [h2.1]; simp)
    rw [e1, e2]
  · rcases h2.2 with ⟨h, -⟩ | ⟨g', cap', cur', h, -, hg', -, -, -, ht'⟩
    · cases h
    · cases h
      rw [hg] at hg'
      cases hg'
      rw [← ht, ← ht']
end ST
end Go.Proofs.YtmpamcdobhiipaaGreatDoor
/-
  A copy of a state.
-/
namespace Go.Proofs.YtmpamcdobhiipaaGreatDoor
open Go.RowKit
attribute [local go_sem ↓] Go.wp_at_zero Go.wp_at_succ

theorem seven_f {W : World} {a : Nat} {cs : Array Value} {t : TypeId} (h : W.heap[a]? = some (.cells cs t (0, 0))) : ∀ j, W.frozen? ⟨a, j, none⟩ = false := fun j => by simp [World.frozen?, h]
theorem set_cells {W : World} {a j : Nat} {cs : Array Value} {t : TypeId} {x : Value} (h : W.heap[a]? = some (.cells cs t (0, 0))) : (W.setCell ⟨a, j, none⟩ x).heap[a]? = some (.cells (cs.setIfInBounds j x) t (0, 0)) := by
  simp only [World.setCell, Array.getElem?_modify]; rw [h]; simp
theorem set_other {W : World} {a b j : Nat} {o : Obj} {x : Value} (h : W.heap[a]? = some o) (hn : a ≠ b) : (W.setCell ⟨b, j, none⟩ x).heap[a]? = some o := by
  rw [Below.heap_setCell _ _ _ _ hn]; exact h
theorem Up.get {W W' : World} (u : Up W W') {a : Nat} {o : Obj} (h : W.heap[a]? = some o) : W'.heap[a]? = some o := u.heap h
theorem two_blocks (w : World) (A B : Array Value) (t : TypeId) : ((w.alloc (.cells A t)).alloc (.cells B t)).heap[w.heap.size]? = some (.cells A t (0, 0)) ∧ ((w.alloc (.cells A t)).alloc (.cells B t)).heap[w.heap.size + 1]? = some (.cells B t (0, 0)) ∧ ((w.alloc (.cells A t)).alloc (.cells B t)).heap.size = w.heap.size + 2 ∧ Up w ((w.alloc (.cells A t)).alloc (.cells B t)) := by
  refine ⟨?_, ?_, by simp, ((Up.refl _).alloc _).alloc _⟩
  · rw [Below.heap_alloc _ _ _ (by simp)]; exact heap_alloc_new w _
  · have := heap_alloc_new (w.alloc (.cells A t)) (.cells B t)
    simpa using this
theorem seven_set {W : World} {b : Nat} {y0 y1 y2 y3 y4 y5 y6 x0 x1 x2 x3 x4 x5 x6 : Value} {t : TypeId} (h : W.heap[b]? = some (.cells #[y0, y1, y2, y3, y4, y5, y6] t (0, 0))) :
    (((((((W.setCell ⟨b, 0, none⟩ x0).setCell ⟨b, 1, none⟩ x1).setCell ⟨b, 2, none⟩ x2).setCell ⟨b, 3, none⟩ x3).setCell ⟨b, 4, none⟩ x4).setCell ⟨b, 5, none⟩ x5).setCell ⟨b, 6, none⟩ x6).heap[b]? = some (.cells #[x0, x1, x2, x3, x4, x5, x6] t (0, 0)) := by
  have h0 : (W.setCell ⟨b, 0, none⟩ x0).heap[b]? = some (.cells #[x0, y1, y2, y3, y4, y5, y6] t (0, 0)) := set_cells h
  have h1 : ((W.setCell ⟨b, 0, none⟩ x0).setCell ⟨b, 1, none⟩ x1).heap[b]? = some (.cells #[x0, x1, y2, y3, y4, y5, y6] t (0, 0)) := set_cells h0
  have h2 : (((W.setCell ⟨b, 0, none⟩ x0).setCell ⟨b, 1, none⟩ x1).setCell ⟨b, 2, none⟩ x2).heap[b]? = some (.cells #[x0, x1, x2, y3, y4, y5, y6] t (0, 0)) := set_cells h1
  have h3 : ((((W.setCell ⟨b, 0, none⟩ x0).setCell ⟨b, 1, none⟩ x1).setCell ⟨b, 2, none⟩ x2).setCell ⟨b, 3, none⟩ x3).heap[b]? = some (.cells #[x0, x1, x2, x3, y4, y5, y6] t (0, 0)) := set_cells h2
  have h4 : (((((W.setCell ⟨b, 0, none⟩ x0).setCell ⟨b, 1, none⟩ x1).setCell ⟨b, 2, none⟩ x2).setCell ⟨b, 3, none⟩ x3).setCell ⟨b, 4, none⟩ x4).heap[b]? = some (.cells #[x0, x1, x2, x3, x4, y5, y6] t (0, 0)) := set_cells h3
  have h5 : ((((((W.setCell ⟨b, 0, none⟩ x0).setCell ⟨b, 1, none⟩ x1).setCell ⟨b, 2, none⟩ x2).setCell ⟨b, 3, none⟩ x3).setCell ⟨b, 4, none⟩ x4).setCell ⟨b, 5, none⟩ x5).heap[b]? = some (.cells #[x0, x1, x2, x3, x4, x5, y6] t (0, 0)) := set_cells h4
  have h6 : (((((((W.setCell ⟨b, 0, none⟩ x0).setCell ⟨b, 1, none⟩ x1).setCell ⟨b, 2, none⟩ x2).setCell ⟨b, 3, none⟩ x3).setCell ⟨b, 4, none⟩ x4).setCell ⟨b, 5, none⟩ x5).setCell ⟨b, 6, none⟩ x6).heap[b]? = some (.cells #[x0, x1, x2, x3, x4, x5, x6] t (0, 0)) := set_cells h5
  exact h6
namespace ST
theorem SO.set {b k j : Nat} {W : World} {v u : Value} {s : Stt} (h : SO b W v s) (hk : k < b) : SO b (W.setCell ⟨k, j, none⟩ u) v s := by
  obtain ⟨vp, vc, vz, hv, h1, h2, h3⟩ := h
  exact ⟨vp, vc, vz, hv, row_set h1 hk, row_set h2 hk, h3.set hk⟩
theorem SO.less {b b' : Nat} {W : World} {v : Value} {s : Stt} (h : SO b W v s) (hb : b' ≤ b) : SO b' W v s := by
  obtain ⟨vp, vc, vz, hv, h1, h2, h3⟩ := h
  exact ⟨vp, vc, vz, hv, own_less h1 hb, own_less h2 hb, h3.less hb⟩
theorem SO.up {b : Nat} {W W' : World} {v : Value} {s : Stt} (h : SO b W v s) (u : Up W W') : SO b W' v s := by
  obtain ⟨vp, vc, vz, hv, h1, h2, h3⟩ := h
  exact ⟨vp, vc, vz, hv, row_up h1 u, row_up h2 u, h3.up u⟩
end ST
end Go.Proofs.YtmpamcdobhiipaaGreatDoor
