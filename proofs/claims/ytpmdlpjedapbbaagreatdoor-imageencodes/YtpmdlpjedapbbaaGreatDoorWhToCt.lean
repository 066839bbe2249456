/-
  Check and Where.
-/
import Derived.Test.YtpmdlpjedapbbaaGreatDoorFfQ
namespace Go.Proofs.YtpmdlpjedapbbaaGreatDoor
open Go.RowKit
attribute [local go_sem ↓] Go.wp_at_zero Go.wp_at_succ

namespace ST
def ckV (r : Option Nat) : Value := .tuple #[.int .i64 (if r = none then 0 else 10), .int .i64 (r.getD 0 : Nat)]
set_option maxHeartbeats 2000000 in
theorem check_ (v : Value) (s : Stt) (w : World) (hs : StL w v s) (hsm : Small s) :
    Calls Tryz.prog 28 #[v] w fun e w' => e = .returned (ckV (ff s)) ∧ Up w w' := by
  have hc := firstFault_ v s _ (hs.up ((Up.refl w).alloc (.cells v.cells 27))) hsm
  obtain ⟨vp, vc, vz, rfl, -, -, -⟩ := hs
  cases hff : ff s with
  | none =>
    rw [hff] at hc
    unfold FPost sv at hc
    have HC : Hid _ := hc
    clear hc hff hsm
    unfold sv
    go_enter Tryz.func28, Tryz.ntmps28
    go_wp2_with fail
    refine Calls.mono HC.out ?_
    rintro e w1 ⟨rfl, u1⟩
    clear HC
    have HU : Hid (Up w w1) := ((Up.refl w).alloc _).trans u1
    clear u1
    go_wp2
    go_ret2
    exact ⟨rfl, HU.out⟩
  | some k =>
    rw [hff] at hc
    unfold FPost sv at hc
    have HC : Hid _ := hc
    clear hc hff hsm
    unfold sv
    go_enter Tryz.func28, Tryz.ntmps28
    go_wp2_with fail
    refine Calls.mono HC.out ?_
    rintro e w1 ⟨rfl, u1⟩
    clear HC
    have HU : Hid (Up w w1) := ((Up.refl w).alloc _).trans u1
    clear u1
    go_wp2
    go_ret2
    exact ⟨rfl, HU.out⟩
theorem wh_hit {c : Int} {zs : List (List Int)} {z i : Nat} (hz : z < zs.length) (hi : i < (zs.getD z []).length) (h1 : ∀ j, j < i → (zs.getD z []).getD j 0 ≠ c) (h2 : (zs.getD z []).getD i 0 = c) : wh c (zs.drop z) z = some (z, i) := by
  have e : zs.drop z = zs.getD z [] :: zs.drop (z + 1) := by rw [List.drop_eq_getElem_cons hz, List.getD_eq_getElem?_getD, List.getElem?_eq_getElem hz]; rfl
  rw [e]
  unfold wh
  have : (zs.getD z []).findIdx? (fun x => decide (x = c)) = some i := by
    have := findIdx_at (zs.getD z []) (fun x => !decide (x = c)) 0 i hi (fun j hj => by simpa using h1 j hj) (by simpa using h2)
    simpa using this
  rw [this]
theorem wh_miss {c : Int} {zs : List (List Int)} {z : Nat} (hz : z < zs.length) (h1 : ∀ j, j < (zs.getD z []).length → (zs.getD z []).getD j 0 ≠ c) : wh c (zs.drop z) z = wh c (zs.drop (z + 1)) (z + 1) := by
  have e : zs.drop z = zs.getD z [] :: zs.drop (z + 1) := by rw [List.drop_eq_getElem_cons hz, List.getD_eq_getElem?_getD, List.getElem?_eq_getElem hz]; rfl
  rw [e, wh]
  have : (zs.getD z []).findIdx? (fun x => decide (x = c)) = none := by
    have := findIdx_no (zs.getD z []) (fun x => !decide (x = c)) 0 (fun j hj => by simpa using h1 j hj)
    simpa using this
  rw [this]
def whV (r : Option (Nat × Nat)) : Value := .tuple #[.int .i64 ((r.map (·.1)).getD 0 : Nat), .int .i64 ((r.map (·.2)).getD 0 : Nat), .bool r.isSome]
def WPost (w : World) (r : Option (Nat × Nat)) (e : Ending) (w' : World) : Prop := e = .returned (whV r) ∧ Up w w'
end ST
end Go.Proofs.YtpmdlpjedapbbaaGreatDoor
/-
  Copies in memory of their own: lists of ints, players, cards, lists of lists, states.
-/
namespace Go.Proofs.YtpmdlpjedapbbaaGreatDoor
open Go.RowKit
attribute [local go_sem ↓] Go.wp_at_zero Go.wp_at_succ

theorem run_append_lc {P : Program} (w : World) (base : Nat) (t ty e : TypeId) (i : TypeInfo) (z : Value) (size bytes : Nat) (ht : P.underlying t = some (.slice e)) (hi : P.info? e = some i) (hz : i.zero = some z)
    (hsize : i.size = size) (hby : i.bytes = bytes) (hzs : z.cells.size = size) (hsz : 0 < size)
    (v : Value) (n : Nat) (xs : List Value) (hown : w.ownsRow base e size v n xs) (u : Value) (m : Nat) (cs : List Value) (hu : LC w u size m cs) (h1 : ∀ u ∈ cs, u.oneCell' = true)
    (h63 : n + m ≤ maxLen) (hbytes : (n + m) * bytes ≤ 140737488355328) (hbase : base ≤ w.heap.size) :
    ∃ v' w', (Builtin.append_ #[t, t] ty #[v, u]).run P w = .ok v' w' ∧ w'.ownsRow base e size v' (n + m) (xs ++ cs) ∧ w.grownBy w' v.ownBlock := by
  obtain ⟨hl, a, cap, rfl, -, hc⟩ := hu
  by_cases hm : m = 0
  · subst hm
    have hcs : cs = [] := List.eq_nil_of_length_eq_zero (by omega)
    subst hcs
    cases a with
    | some ad =>
      obtain ⟨v', w', h2, h3, h4, -⟩ := run_append_own (P := P) w base t ty e i z size bytes ht hi hz hsize hby hzs hsz v n xs hown ad 0 cap [] (by simp) (by simp) (by simp) h63 hbytes hbase
      exact ⟨v', w', h2, h3, h4⟩
    | none =>
      refine ⟨v, w, ?_, by simpa using hown, ⟨rfl, rfl, rfl, Nat.le_refl _, fun _ _ _ => rfl⟩⟩
      rcases hown.2 with ⟨rfl, rfl⟩ | ⟨g, cap, cur, rfl, _, _, hnc, _⟩
      · simp [Builtin.append_, run_underlying ht, sizeOf, typeInfo, hi, Builtin.lenOf, Builtin.firstCells]
      · simp [Builtin.append_, run_underlying ht, sizeOf, typeInfo, hi, Builtin.lenOf, Builtin.firstCells, hnc, storeCells]
  · obtain ⟨b, off, rfl, hcell⟩ := hc hm
    obtain ⟨v', w', h2, h3, h4, -⟩ := run_append_own (P := P) w base t ty e i z size bytes ht hi hz hsize hby hzs hsz v n xs hown ⟨b, off, none⟩ m cap cs hl (fun j u hj => by
      rw [Addr.add_mid]
      have : j < cs.length := (List.getElem?_eq_some_iff.1 hj).1
      rw [hcell j (by omega)]; exact hj) h1 h63 hbytes hbase
    exact ⟨v', w', h2, h3, h4⟩
theorem wpList_append_lc {P : Program} {w : World} {ops : Array Oper} {rest : List Oper} {o : Oper} {a : Act} {Q : Exit → Act → World → Prop} (hgd : o.guard = none) (s x : Operand) (t : TypeId)
    (ho : o.op = .call { callee := .builtin .append, args := #[s, x], argTypes := #[t, t] })
    (base : Nat) (e : TypeId) (i : TypeInfo) (z : Value) (size bytes : Nat) (ht : P.underlying t = some (.slice e)) (hi : P.info? e = some i) (hz : i.zero = some z)
    (hsize : i.size = size) (hby : i.bytes = bytes) (hzs : z.cells.size = size) (hsz : 0 < size)
    (v : Value) (n : Nat) (xs : List Value) (hs : a.eval s = v) (hown : w.ownsRow base e size v n xs) (u : Value) (m : Nat) (cs : List Value) (hx : a.eval x = u) (hu : LC w u size m cs) (h1 : ∀ u ∈ cs, u.oneCell' = true)
    (h63 : n + m ≤ maxLen) (hbytes : (n + m) * bytes ≤ 140737488355328) (hbase : base ≤ w.heap.size)
    (h : ∀ v' w', w'.ownsRow base e size v' (n + m) (xs ++ cs) → w.grownBy w' v.ownBlock → wpList P ops Q rest (a.put o.dst v') w') : wpList P ops Q (o :: rest) a w := by
  refine wpList_plain hgd fun K hK => ?_
  obtain ⟨v', w', hr, h2, h3⟩ := run_append_lc (P := P) w base t o.type e i z size bytes ht hi hz hsize hby hzs hsz v n xs hown u m cs hu h1 h63 hbytes hbase
  unfold Oper.wp execOp
  simp only [ho, resolve, invoke, builtin, Sem.run_bind, Sem.run_pure, Result.andThen_ok, List.map_toArray, List.map_cons, List.map_nil, hs, hx, hr]
  exact hK _ _ (h v' w' h2 h3)
theorem own_lc {W : World} {base e s n : Nat} {v : Value} {xs : List Value} (h : W.ownsRow base e s v n xs) : LC W v s n xs := by
  refine ⟨h.1, ?_⟩
  rcases h.2 with ⟨rfl, rfl⟩ | ⟨g, cap, cur, rfl, _, _, hnc, _⟩
  · exact ⟨none, 0, rfl, Nat.le_refl _, fun h => absurd rfl h⟩
  · exact ⟨some ⟨g, 0, none⟩, cap, rfl, hnc, fun _ => ⟨g, 0, rfl, fun j hj => by rw [Nat.zero_add]; exact h.cellAt j hj⟩⟩
theorem row_set {w : World} {base e s n b j : Nat} {v u : Value} {xs : List Value} (h : w.ownsRow base e s v n xs) (hb : b < base) : (w.setCell ⟨b, j, none⟩ u).ownsRow base e s v n xs := by
  refine ⟨h.1, ?_⟩
  rcases h.2 with h | ⟨g, cap, cur, e1, e2, e3, e4⟩
  · exact .inl h
  · exact .inr ⟨g, cap, cur, e1, e2, by rw [Below.heap_setCell _ _ _ _ (by show g ≠ b; omega)]; exact e3, e4⟩
theorem row_apart {w : World} {b1 b2 e1 e2 s1 s2 n1 n2 : Nat} {v1 v2 : Value} {x1 x2 : List Value} (h1 : w.ownsRow b1 e1 s1 v1 n1 x1) (h2 : w.ownsRow b2 e2 s2 v2 n2 x2) (he : e1 ≠ e2) : v1.ownBlock = none ∨ v1.ownBlock ≠ v2.ownBlock := by
  rcases h1.2 with ⟨rfl, -⟩ | ⟨g1, c1, k1, rfl, -, hg1, -⟩
  · exact .inl rfl
  · refine .inr ?_
    rcases h2.2 with ⟨rfl, -⟩ | ⟨g2, c2, k2, rfl, -, hg2, -⟩
    · simp [Value.ownBlock]
    · simp only [Value.ownBlock, ne_eq, Option.some.injEq]
      intro e
      subst e
      rw [hg1] at hg2
      cases hg2
      exact he rfl
namespace ST
theorem infoI : (Tryz.prog.info? 3).map (fun i => (i.zero, i.size, i.bytes)) = some (some (.int .i64 0), 1, 8) := by kernel_rfl
theorem infoP : (Tryz.prog.info? 44).map (fun i => (i.zero, i.size, i.bytes)) = some (some (.agg #[.int .i32 0, .int .i32 0, .bool false]), 3, 12) := by kernel_rfl
theorem infoC : (Tryz.prog.info? 42).map (fun i => (i.zero, i.size, i.bytes)) = some (some (.agg #[.int .i64 0, .int .i64 0, .int .i32 0, .int .i32 0, .int .i32 0, .int .i32 0]), 6, 32) := by kernel_rfl
theorem infoR : (Tryz.prog.info? 98).map (fun i => (i.zero, i.size, i.bytes)) = some (some (.slice none 0 0), 1, 24) := by kernel_rfl
theorem ivs_one (l : List Int) : ∀ u ∈ ivs l, u.oneCell' = true := by
  intro u hu
  simp only [ivs, List.mem_map] at hu
  obtain ⟨z, _, rfl⟩ := hu
  rfl
theorem pvs_one (l : List Ply) : ∀ u ∈ pvs l, u.oneCell' = true := by
  intro u hu
  simp only [pvs, List.mem_flatMap, pv, List.mem_cons, List.not_mem_nil, or_false] at hu
  obtain ⟨z, _, rfl | rfl | rfl⟩ := hu <;> rfl
theorem cvs_one (l : List Crd) : ∀ u ∈ cvs l, u.oneCell' = true := by
  intro u hu
  simp only [cvs, List.mem_flatMap, cv, List.mem_cons, List.not_mem_nil, or_false] at hu
  obtain ⟨z, _, rfl | rfl | rfl | rfl | rfl | rfl⟩ := hu <;> rfl
/- own lists -/
def IRow (base : Nat) (W : World) (v : Value) (l : List Int) : Prop := W.ownsRow base 3 1 v l.length (ivs l)
def PO (base : Nat) (W : World) (v : Value) (l : List Ply) : Prop := W.ownsRow base 44 3 v l.length (pvs l)
def CO (base : Nat) (W : World) (v : Value) (l : List Crd) : Prop := W.ownsRow base 42 6 v l.length (cvs l)
def ZO (base : Nat) (W : World) (v : Value) (zs : List (List Int)) : Prop := ∃ vs, W.ownsRow base 98 1 v zs.length vs ∧ ∀ i, i < zs.length → IRow base W (vs.getD i nl) (zs.getD i [])
def SO (base : Nat) (W : World) (v : Value) (s : Stt) : Prop := ∃ vp vc vz, v = sv vp vc vz s ∧ PO base W vp s.ps ∧ CO base W vc s.cs ∧ ZO base W vz s.zs
theorem IRow.il {base : Nat} {W : World} {v : Value} {l : List Int} (h : IRow base W v l) : IL W v l := own_lc h
theorem ZO.zl {base : Nat} {W : World} {v : Value} {zs : List (List Int)} (h : ZO base W v zs) : ZL W v zs := by
  obtain ⟨vs, h1, h2⟩ := h
  exact ⟨vs, own_lc h1, fun i hi => (h2 i hi).il⟩
theorem SO.sl {base : Nat} {W : World} {v : Value} {s : Stt} (h : SO base W v s) : StL W v s := by
  obtain ⟨vp, vc, vz, hv, h1, h2, h3⟩ := h
  exact ⟨vp, vc, vz, hv, own_lc h1, own_lc h2, h3.zl⟩
theorem own_less {W : World} {b b' e s n : Nat} {v : Value} {xs : List Value} (h : W.ownsRow b e s v n xs) (hb : b' ≤ b) : W.ownsRow b' e s v n xs := by
  refine ⟨h.1, ?_⟩
  rcases h.2 with h | ⟨g, cap, cur, e1, e2, e3⟩
  · exact .inl h
  · exact .inr ⟨g, cap, cur, e1, Nat.le_trans hb e2, e3⟩
theorem ZO.less {b b' : Nat} {W : World} {v : Value} {zs : List (List Int)} (h : ZO b W v zs) (hb : b' ≤ b) : ZO b' W v zs := by
  obtain ⟨vs, h1, h2⟩ := h
  exact ⟨vs, own_less h1 hb, fun i hi => own_less (h2 i hi) hb⟩
theorem ZO.up {b : Nat} {W W' : World} {v : Value} {zs : List (List Int)} (h : ZO b W v zs) (u : Up W W') : ZO b W' v zs := by
  obtain ⟨vs, h1, h2⟩ := h
  exact ⟨vs, row_up h1 u, fun i hi => row_up (h2 i hi) u⟩
theorem ZO.set {b k j : Nat} {W : World} {v u : Value} {zs : List (List Int)} (h : ZO b W v zs) (hk : k < b) : ZO b (W.setCell ⟨k, j, none⟩ u) v zs := by
  obtain ⟨vs, h1, h2⟩ := h
  exact ⟨vs, row_set h1 hk, fun i hi => row_set (h2 i hi) hk⟩
def CpPost (w : World) (D : World → Value → Prop) (e : Ending) (w' : World) : Prop := ∃ v', e = .returned v' ∧ D w' v' ∧ Up w w'
set_option maxHeartbeats 1000000 in
theorem copyInts_ (v : Value) (l : List Int) (w : World) (hv : IL w v l) (hn : l.length ≤ 4294967296) :
    Calls Tryz.prog 81 #[v] w (CpPost w fun W v' => IRow w.heap.size W v' l) := by
  obtain ⟨iT, hiT, z0, z1, z2⟩ := info_parts infoI
  obtain ⟨Post, hPost⟩ : ∃ P : Ending → World → Prop, P = CpPost w fun W v' => IRow w.heap.size W v' l := ⟨_, rfl⟩
  rw [← hPost]
  have HP : Hid (Post = CpPost w fun W v' => IRow w.heap.size W v' l) := hPost
  have HV : Hid _ := hv
  obtain ⟨a, c, rfl, -, -⟩ := lc_at hv
  clear hPost hv
  go_enter Tryz.func81, Tryz.ntmps81
  go_wp2_with (at_builtin; refine wpList_append_lc (by rfl) _ _ 98 (by rfl) w.heap.size 3 iT (.int .i64 0) 1 8 Tryz.underlying98 hiT z0 z1 z2 (by rfl) (by decide) (.slice none 0 0) 0 [] (by rfl) (World.ownsRow_nil _ _ _ _) _ l.length (ivs l) (by rfl) HV.out (ivs_one l) (by unfold maxLen; omega) (by omega) (Nat.le_refl _) ?_; intro v' w1 hin hg1)
  have HF : Hid (IRow w.heap.size w1 v' l ∧ Up w w1) := ⟨by simpa [IRow] using hin, made_up hg1⟩
  clear hin hg1
  go_wp2
  rw [HP.out]
  exact ⟨v', rfl, HF.out.1, HF.out.2⟩
set_option maxHeartbeats 1000000 in
theorem copyPlayers_ (v : Value) (l : List Ply) (w : World) (hv : PLs w v l) (hn : l.length ≤ 4294967296) :
    Calls Tryz.prog 40 #[v] w (CpPost w fun W v' => PO w.heap.size W v' l) := by
  obtain ⟨iT, hiT, z0, z1, z2⟩ := info_parts infoP
  obtain ⟨Post, hPost⟩ : ∃ P : Ending → World → Prop, P = CpPost w fun W v' => PO w.heap.size W v' l := ⟨_, rfl⟩
  rw [← hPost]
  have HP : Hid (Post = CpPost w fun W v' => PO w.heap.size W v' l) := hPost
  have HV : Hid _ := hv
  obtain ⟨a, c, rfl, -, -⟩ := lc_at hv
  clear hPost hv
  go_enter Tryz.func40, Tryz.ntmps40
  go_wp2_with (at_builtin; refine wpList_append_lc (by rfl) _ _ 22 (by rfl) w.heap.size 44 iT _ 3 12 Tryz.underlying22 hiT z0 z1 z2 (by rfl) (by decide) (.slice none 0 0) 0 [] (by rfl) (World.ownsRow_nil _ _ _ _) _ l.length (pvs l) (by rfl) HV.out (pvs_one l) (by unfold maxLen; omega) (by omega) (Nat.le_refl _) ?_; intro v' w1 hin hg1)
  have HF : Hid (PO w.heap.size w1 v' l ∧ Up w w1) := ⟨by simpa [PO] using hin, made_up hg1⟩
  clear hin hg1
  go_wp2
  rw [HP.out]
  exact ⟨v', rfl, HF.out.1, HF.out.2⟩
set_option maxHeartbeats 1000000 in
theorem copyCards_ (v : Value) (l : List Crd) (w : World) (hv : CLs w v l) (hn : l.length ≤ 4294967296) :
    Calls Tryz.prog 41 #[v] w (CpPost w fun W v' => CO w.heap.size W v' l) := by
  obtain ⟨iT, hiT, z0, z1, z2⟩ := info_parts infoC
  obtain ⟨Post, hPost⟩ : ∃ P : Ending → World → Prop, P = CpPost w fun W v' => CO w.heap.size W v' l := ⟨_, rfl⟩
  rw [← hPost]
  have HP : Hid (Post = CpPost w fun W v' => CO w.heap.size W v' l) := hPost
  have HV : Hid _ := hv
  obtain ⟨a, c, rfl, -, -⟩ := lc_at hv
  clear hPost hv
  go_enter Tryz.func41, Tryz.ntmps41
  go_wp2_with (at_builtin; refine wpList_append_lc (by rfl) _ _ 23 (by rfl) w.heap.size 42 iT _ 6 32 Tryz.underlying23 hiT z0 z1 z2 (by rfl) (by decide) (.slice none 0 0) 0 [] (by rfl) (World.ownsRow_nil _ _ _ _) _ l.length (cvs l) (by rfl) HV.out (cvs_one l) (by unfold maxLen; omega) (by omega) (Nat.le_refl _) ?_; intro v' w1 hin hg1)
  have HF : Hid (CO w.heap.size w1 v' l ∧ Up w w1) := ⟨by simpa [CO] using hin, made_up hg1⟩
  clear hin hg1
  go_wp2
  rw [HP.out]
  exact ⟨v', rfl, HF.out.1, HF.out.2⟩
end ST
end Go.Proofs.YtpmdlpjedapbbaaGreatDoor
/-
  Copies of lists of lists and of states.
-/
namespace Go.Proofs.YtpmdlpjedapbbaaGreatDoor
open Go.RowKit
attribute [local go_sem ↓] Go.wp_at_zero Go.wp_at_succ

namespace ST
/- the first i rows, and the list that holds them -/
def ZM (base : Nat) (W : World) (v : Value) (i : Nat) (zs : List (List Int)) : Prop := ∃ vs, W.ownsRow base 98 1 v i vs ∧ ∀ j, j < i → IRow base W (vs.getD j nl) (zs.getD j [])
theorem zm_more {base i : Nat} {W W1 W2 : World} {v v' x : Value} {zs : List (List Int)} (h : ZM base W v i zs) (u : Up W W1) (hx : IRow base W1 x (zs.getD i [])) (hlen : ∀ vs, W.ownsRow base 98 1 v i vs → W2.ownsRow base 98 1 v' (i + 1) (vs ++ [x])) (hg : W1.grownBy W2 v.ownBlock) : ZM base W2 v' (i + 1) zs := by
  obtain ⟨vs, h1, h2⟩ := h
  have hl : vs.length = i := by have := h1.1; omega
  have k1 := row_up h1 u
  refine ⟨vs ++ [x], hlen vs h1, fun j hj => ?_⟩
  by_cases e : j = i
  · subst e
    rw [List.getD_eq_getElem?_getD, List.getElem?_append_right (by omega), hl]
    simp
    exact World.ownsRow.kept hx hg (row_apart hx k1 (by decide))
  · have hj' : j < i := by omega
    rw [List.getD_eq_getElem?_getD, List.getElem?_append_left (by omega), ← List.getD_eq_getElem?_getD]
    have := row_up (h2 j hj') u
    exact World.ownsRow.kept this hg (row_apart this k1 (by decide))
theorem row_same {w : World} {b1 b2 e s n : Nat} {v : Value} {x1 x2 : List Value} (h1 : w.ownsRow b1 e s v n x1) (h2 : w.ownsRow b2 e s v n x2) : x1 = x2 := by
  rcases h1.2 with ⟨rfl, rfl⟩ | ⟨g, cap, cur, rfl, -, hg, -, -, -, ht⟩
  · have e1 : x1 = [] := List.eq_nil_of_length_eq_zero (by rw [h1.1]; simp)
    have e2 : x2 = [] := List.eq_nil_of_length_eq_zero (by rw [h2.1]; simp)
    rw [e1, e2]
  · rcases h2.2 with ⟨h, -⟩ | ⟨g', cap', cur', h, -, hg', -, -, -, ht'⟩
    · cases h
    · cases h
      rw [hg] at hg'
      cases hg'
      rw [← ht, ← ht']
set_option maxRecDepth 100000 in
set_option maxHeartbeats 2000000 in
theorem copyRows_ (v : Value) (zs : List (List Int)) (w : World) (hv : ZL w v zs) (hn : zs.length ≤ 4294967296) (hl : ∀ r, r < zs.length → (zs.getD r []).length ≤ 4294967296) :
    Calls Tryz.prog 42 #[v] w (CpPost w fun W v' => ZO w.heap.size W v' zs) := by
  obtain ⟨iT, hiT, z0, z1, z2⟩ := info_parts infoR
  obtain ⟨Post, hPost⟩ : ∃ P : Ending → World → Prop, P = CpPost w fun W v' => ZO w.heap.size W v' zs := ⟨_, rfl⟩
  rw [← hPost]
  have HP : Hid (Post = CpPost w fun W v' => ZO w.heap.size W v' zs) := hPost
  obtain ⟨a, c, rfl, -, hc⟩ := zl_at hv
  have HC : Hid _ := hc
  have HL : Hid _ := hl
  obtain ⟨n, hn0⟩ : ∃ n, n = zs.length := ⟨_, rfl⟩
  have HN : Hid (n = zs.length) := hn0
  rw [← hn0] at hn HC HL ⊢
  obtain ⟨B, hB⟩ : ∃ B, B = w.heap.size := ⟨_, rfl⟩
  have HB : Hid (B = w.heap.size) := hB
  clear hPost hv hc hl hn0 hB
  go_enter Tryz.func42, Tryz.ntmps42
  go_wp2_with fail
  go_loopw [3, 4] (fun s3 s4 W => ∃ (i : Nat) (va : Option Addr) (vc : Nat), i ≤ n ∧ s4 = .int .i64 i ∧ s3 = .slice va i vc ∧ ZM B W (.slice va i vc) i zs ∧ Up w W) (fun _ s4 _ => n - (intOf s4).toNat)
  case atStart => exact ⟨0, none, 0, Nat.zero_le _, rfl, rfl, ⟨[], World.ownsRow_nil _ _ _ _, fun j hj => by omega⟩, Up.refl _⟩
  case round =>
    obtain ⟨i, va, vc, hi, rfl, rfl, hz, hu⟩ := hrel
    have HZ : Hid (ZM B wr (.slice va i vc) i zs) := hz
    have HU : Hid (Up w wr) := hu
    clear hz hu
    by_cases hlt : i < n
    · have hlt2 : (i : Int) < (n : Int) := by omega
      obtain ⟨b3, o3, rfl, hrow⟩ := HC.out (by omega)
      obtain ⟨ra, rc, hcell, hil⟩ := hrow i hlt
      have x1 := hcell wr HU.out
      have HK : Hid _ := copyInts_ _ (zs.getD i []) wr (hil.up HU.out) (HL.out i hlt)
      clear hcell hrow hil
      go_wp2_with fail
      refine Calls.mono HK.out ?_
      rintro e w1 ⟨x, rfl, hx, u1⟩
      clear HK
      obtain ⟨xa, xc, hxa⟩ := row_val hx
      have HX : Hid (IRow B w1 x (zs.getD i [])) := own_less hx (by have := HU.out.size; have := HB.out; omega)
      have HU1 : Hid (Up wr w1) := u1
      clear hx u1
      subst hxa
      obtain ⟨vs, hz1, -⟩ := id HZ.out
      have HV : Hid ((w1.alloc (.cells #[.slice xa (zs.getD i []).length xc] 98)).ownsRow B 98 1 (.slice va i vc) i vs) := row_up hz1 (HU1.out.alloc _)
      have HM : Hid (∀ j u, [Value.slice xa (zs.getD i []).length xc][j]? = some u → (w1.alloc (.cells #[.slice xa (zs.getD i []).length xc] 98)).cell? ((⟨w1.heap.size, 0, none⟩ : Addr).add j) = some u) := by
        intro j u hj
        cases j with
        | zero => simp at hj; subst hj; simp [Addr.add]
        | succ j => simp at hj
      have HO : Hid (∀ u ∈ [Value.slice xa (zs.getD i []).length xc], u.oneCell' = true) := by intro u hu; simp at hu; subst hu; rfl
      have HS : Hid (B ≤ (w1.alloc (.cells #[.slice xa (zs.getD i []).length xc] 98)).heap.size) := by have h1 := HU.out.size; have h2 := HU1.out.size; have h3 := HB.out; unfold Hid; simp; omega
      have HZ2 : Hid (∀ v' w2, w2.ownsRow B 98 1 v' (i + 1) (vs ++ [.slice xa (zs.getD i []).length xc]) → (w1.alloc (.cells #[.slice xa (zs.getD i []).length xc] 98)).grownBy w2 (Value.slice va i vc).ownBlock → ZM B w2 v' (i + 1) zs ∧ Up w w2) := by
        intro v' w2 h1 h2
        have hvs : ∀ vs', wr.ownsRow B 98 1 (.slice va i vc) i vs' → vs' = vs := fun vs' h => row_same h hz1
        refine ⟨zm_more HZ.out (HU1.out.alloc _) (row_up HX.out ((Up.refl _).alloc _)) (fun vs' h => by rw [hvs vs' h]; exact h1) h2, ?_⟩
        refine Below.grown (HU.out.trans (HU1.out.alloc _)) h2 ?_ ?_
        · have := HS.out; have h3 := HB.out; omega
        · intro k hk
          have := hz1.lt k hk
          have h3 := HB.out; omega
      clear hz1
      go_wp2_with (at_builtin; go_loud (refine wpList_append_own _ (by rfl) (.tmp 11) (.tmp 17) 24 (by rfl) B 98 iT (.slice none 0 0) 1 24 Tryz.underlying24 hiT z0 z1 z2 (by rfl) (by decide) (.slice va i vc) i vs (by rfl) HV.out ⟨w1.heap.size, 0, none⟩ 1 1 [.slice xa (zs.getD i []).length xc] (by rfl) (by rfl) HM.out HO.out (by unfold maxLen; omega) (by omega) HS.out ?_); intro v' w2 hin hg1 _)
      obtain ⟨va', vc', hva⟩ := row_val hin
      have HF : Hid (ZM B w2 v' (i + 1) zs ∧ Up w w2) := HZ2.out v' w2 hin hg1
      clear hin hg1 HZ2 HV HM HO HS HX HU1
      subst hva
      go_wp2
      go_roundw
      case rel => exact ⟨i + 1, va', vc', by omega, by go_num, rfl, HF.out.1, HF.out.2⟩
      case measure => simp [intOf]; omega
    · have hlt2 : ¬ (i : Int) < (n : Int) := by omega
      have hin : i = n := by omega
      subst hin
      go_wp2
      rw [HP.out]
      obtain ⟨vs, h1, h2⟩ := HZ.out
      exact ⟨_, rfl, ⟨vs, by rw [← HB.out, ← HN.out]; exact h1, fun j hj => by rw [← HB.out]; exact h2 j (by rw [HN.out]; exact hj)⟩, HU.out⟩
end ST
end Go.Proofs.YtpmdlpjedapbbaaGreatDoor
/-
  A copy of a state.
-/
namespace Go.Proofs.YtpmdlpjedapbbaaGreatDoor
open Go.RowKit
attribute [local go_sem ↓] Go.wp_at_zero Go.wp_at_succ

theorem seven_f {W : World} {a : Nat} {cs : Array Value} {t : TypeId} (h : W.heap[a]? = some (.cells cs t (0, 0))) : ∀ j, W.frozen? ⟨a, j, none⟩ = false := fun j => by simp [World.frozen?, h]
theorem set_cells {W : World} {a j : Nat} {cs : Array Value} {t : TypeId} {x : Value} (h : W.heap[a]? = some (.cells cs t (0, 0))) : (W.setCell ⟨a, j, none⟩ x).heap[a]? = some (.cells (cs.setIfInBounds j x) t (0, 0)) := by
  simp only [World.setCell, Array.getElem?_modify]; rw [h]; simp
theorem set_other {W : World} {a b j : Nat} {o : Obj} {x : Value} (h : W.heap[a]? = some o) (hn : a ≠ b) : (W.setCell ⟨b, j, none⟩ x).heap[a]? = some o := by
  rw [Below.heap_setCell _ _ _ _ hn]; exact h
theorem Up.get {W W' : World} (u : Up W W') {a : Nat} {o : Obj} (h : W.heap[a]? = some o) : W'.heap[a]? = some o := u.heap h
theorem two_blocks (w : World) (A B : Array Value) (t : TypeId) : ((w.alloc (.cells A t)).alloc (.cells B t)).heap[w.heap.size]? = some (.cells A t (0, 0)) ∧ ((w.alloc (.cells A t)).alloc (.cells B t)).heap[w.heap.size + 1]? = some (.cells B t (0, 0)) ∧ ((w.alloc (.cells A t)).alloc (.cells B t)).heap.size = w.heap.size + 2 ∧ Up w ((w.alloc (.cells A t)).alloc (.cells B t)) := by
  refine ⟨?_, ?_, by simp, ((Up.refl _).alloc _).alloc _⟩
  · rw [Below.heap_alloc _ _ _ (by simp)]; exact heap_alloc_new w _
  · have := heap_alloc_new (w.alloc (.cells A t)) (.cells B t)
    simpa using this
theorem seven_set {W : World} {b : Nat} {y0 y1 y2 y3 y4 y5 y6 x0 x1 x2 x3 x4 x5 x6 : Value} {t : TypeId} (h : W.heap[b]? = some (.cells #[y0, y1, y2, y3, y4, y5, y6] t (0, 0))) :
    (((((((W.setCell ⟨b, 0, none⟩ x0).setCell ⟨b, 1, none⟩ x1).setCell ⟨b, 2, none⟩ x2).setCell ⟨b, 3, none⟩ x3).setCell ⟨b, 4, none⟩ x4).setCell ⟨b, 5, none⟩ x5).setCell ⟨b, 6, none⟩ x6).heap[b]? = some (.cells #[x0, x1, x2, x3, x4, x5, x6] t (0, 0)) := by
  have h0 : (W.setCell ⟨b, 0, none⟩ x0).heap[b]? = some (.cells #[x0, y1, y2, y3, y4, y5, y6] t (0, 0)) := set_cells h
  have h1 : ((W.setCell ⟨b, 0, none⟩ x0).setCell ⟨b, 1, none⟩ x1).heap[b]? = some (.cells #[x0, x1, y2, y3, y4, y5, y6] t (0, 0)) := set_cells h0
  have h2 : (((W.setCell ⟨b, 0, none⟩ x0).setCell ⟨b, 1, none⟩ x1).setCell ⟨b, 2, none⟩ x2).heap[b]? = some (.cells #[x0, x1, x2, y3, y4, y5, y6] t (0, 0)) := set_cells h1
  have h3 : ((((W.setCell ⟨b, 0, none⟩ x0).setCell ⟨b, 1, none⟩ x1).setCell ⟨b, 2, none⟩ x2).setCell ⟨b, 3, none⟩ x3).heap[b]? = some (.cells #[x0, x1, x2, x3, y4, y5, y6] t (0, 0)) := set_cells h2
  have h4 : (((((W.setCell ⟨b, 0, none⟩ x0).setCell ⟨b, 1, none⟩ x1).setCell ⟨b, 2, none⟩ x2).setCell ⟨b, 3, none⟩ x3).setCell ⟨b, 4, none⟩ x4).heap[b]? = some (.cells #[x0, x1, x2, x3, x4, y5, y6] t (0, 0)) := set_cells h3
  have h5 : ((((((W.setCell ⟨b, 0, none⟩ x0).setCell ⟨b, 1, none⟩ x1).setCell ⟨b, 2, none⟩ x2).setCell ⟨b, 3, none⟩ x3).setCell ⟨b, 4, none⟩ x4).setCell ⟨b, 5, none⟩ x5).heap[b]? = some (.cells #[x0, x1, x2, x3, x4, x5, y6] t (0, 0)) := set_cells h4
  have h6 : (((((((W.setCell ⟨b, 0, none⟩ x0).setCell ⟨b, 1, none⟩ x1).setCell ⟨b, 2, none⟩ x2).setCell ⟨b, 3, none⟩ x3).setCell ⟨b, 4, none⟩ x4).setCell ⟨b, 5, none⟩ x5).setCell ⟨b, 6, none⟩ x6).heap[b]? = some (.cells #[x0, x1, x2, x3, x4, x5, x6] t (0, 0)) := set_cells h5
  exact h6
namespace ST
theorem SO.set {b k j : Nat} {W : World} {v u : Value} {s : Stt} (h : SO b W v s) (hk : k < b) : SO b (W.setCell ⟨k, j, none⟩ u) v s := by
  obtain ⟨vp, vc, vz, hv, h1, h2, h3⟩ := h
  exact ⟨vp, vc, vz, hv, row_set h1 hk, row_set h2 hk, h3.set hk⟩
theorem SO.less {b b' : Nat} {W : World} {v : Value} {s : Stt} (h : SO b W v s) (hb : b' ≤ b) : SO b' W v s := by
  obtain ⟨vp, vc, vz, hv, h1, h2, h3⟩ := h
  exact ⟨vp, vc, vz, hv, own_less h1 hb, own_less h2 hb, h3.less hb⟩
theorem SO.up {b : Nat} {W W' : World} {v : Value} {s : Stt} (h : SO b W v s) (u : Up W W') : SO b W' v s := by
  obtain ⟨vp, vc, vz, hv, h1, h2, h3⟩ := h
  exact ⟨vp, vc, vz, hv, row_up h1 u, row_up h2 u, h3.up u⟩
set_option maxRecDepth 100000 in
set_option maxHeartbeats 4000000 in
theorem copyState_ (v : Value) (s : Stt) (w : World) (hs : StL w v s) (hsm : Small s) :
    Calls Tryz.prog 15 #[v] w (CpPost w fun W v' => SO w.heap.size W v' s) := by
  obtain ⟨Post, hPost⟩ : ∃ P : Ending → World → Prop, P = CpPost w fun W v' => SO w.heap.size W v' s := ⟨_, rfl⟩
  rw [← hPost]
  have HP : Hid (Post = CpPost w fun W v' => SO w.heap.size W v' s) := hPost
  obtain ⟨vp, vc, vz, rfl, h1, h2, h3⟩ := hs
  have H1 : Hid _ := h1
  have H2 : Hid _ := h2
  have H3 : Hid _ := h3
  obtain ⟨a1, k1, rfl, -, -⟩ := lc_at h1
  obtain ⟨a2, k2, rfl, -, -⟩ := lc_at h2
  obtain ⟨a3, k3, rfl, -, -⟩ := zl_at h3
  have HM : Hid (Small s) := hsm
  clear hPost h1 h2 h3 hsm
  have HSV : Hid (∀ x y z, sv x y z s = .agg #[x, y, z, .int .i32 s.turn, .int .i64 s.whose, .int .i8 s.fin, .int .i64 s.winner]) := fun _ _ _ => rfl
  unfold sv
  generalize s.turn = tu at HSV ⊢
  generalize s.whose = wo at HSV ⊢
  generalize s.fin = fi at HSV ⊢
  generalize s.winner = wi at HSV ⊢
  go_enter Tryz.func15, Tryz.ntmps15
  go_wp2_with fail
  obtain ⟨W1, hW1⟩ : ∃ W, W = (w.alloc (.cells #[.slice a1 s.ps.length k1, .slice a2 s.cs.length k2, .slice a3 s.zs.length k3, .int .i32 tu, .int .i64 wo, .int .i8 fi, .int .i64 wi] 27)).alloc (.cells #[.slice none 0 0, .slice none 0 0, .slice none 0 0, .int .i32 0, .int .i64 0, .int .i8 0, .int .i64 0] 27) := ⟨_, rfl⟩
  rw [← hW1]
  obtain ⟨b0, hb0⟩ : ∃ b, b = w.heap.size := ⟨_, rfl⟩
  rw [← hb0]
  obtain ⟨g0, g1, gs, gu⟩ := two_blocks w #[.slice a1 s.ps.length k1, .slice a2 s.cs.length k2, .slice a3 s.zs.length k3, .int .i32 tu, .int .i64 wo, .int .i8 fi, .int .i64 wi] #[.slice none 0 0, .slice none 0 0, .slice none 0 0, .int .i32 0, .int .i64 0, .int .i8 0, .int .i64 0] 27
  rw [← hW1] at g0 g1 gs gu
  rw [← hb0] at g0 g1 gs
  have HB : Hid (b0 = w.heap.size) := hb0
  clear hW1 hb0
  refine Calls.mono (copyPlayers_ _ s.ps W1 (PLs.up H1.out gu) HM.out.1) ?_
  rintro e w1 ⟨x1, rfl, d1, u1⟩
  have HG : Hid (w1.heap[b0]? = _ ∧ w1.heap[b0 + 1]? = _ ∧ b0 + 2 ≤ w1.heap.size ∧ Up w w1 ∧ PO (b0 + 2) w1 x1 s.ps) := ⟨u1.heap g0, u1.heap g1, by have := u1.size; omega, gu.trans u1, by rw [gs] at d1; exact d1⟩
  obtain ⟨xa, xc, hx1⟩ := row_val d1
  subst hx1
  clear d1 u1 g0 g1 gs gu
  obtain ⟨y0, y1, y2, y3, y4, y5, y6⟩ := seven_cells HG.out.1
  have yf := seven_f HG.out.1
  have HG2 : Hid ((w1.setCell ⟨b0, 0, none⟩ (.slice xa s.ps.length xc)).heap[b0]? = some (.cells #[.slice xa s.ps.length xc, .slice a2 s.cs.length k2, .slice a3 s.zs.length k3, .int .i32 tu, .int .i64 wo, .int .i8 fi, .int .i64 wi] 27 (0, 0)) ∧ (w1.setCell ⟨b0, 0, none⟩ (.slice xa s.ps.length xc)).heap[b0 + 1]? = some (.cells #[.slice none 0 0, .slice none 0 0, .slice none 0 0, .int .i32 0, .int .i64 0, .int .i8 0, .int .i64 0] 27 (0, 0)) ∧ b0 + 2 ≤ (w1.setCell ⟨b0, 0, none⟩ (.slice xa s.ps.length xc)).heap.size ∧ Up w (w1.setCell ⟨b0, 0, none⟩ (.slice xa s.ps.length xc)) ∧ PO (b0 + 2) (w1.setCell ⟨b0, 0, none⟩ (.slice xa s.ps.length xc)) (.slice xa s.ps.length xc) s.ps) :=
    ⟨set_cells HG.out.1, set_other HG.out.2.1 (by omega), by simpa using HG.out.2.2.1, Up.set HG.out.2.2.2.1 _ _ (by rw [← HB.out]; exact Nat.le_refl _), row_set HG.out.2.2.2.2 (by omega)⟩
  clear HG
  go_wp2_with fail
  obtain ⟨W3, hW3⟩ : ∃ W, W = w1.setCell ⟨b0, 0, none⟩ (.slice xa s.ps.length xc) := ⟨_, rfl⟩
  rw [← hW3] at HG2 ⊢
  clear hW3
  refine Calls.mono (copyCards_ _ s.cs W3 (CLs.up H2.out HG2.out.2.2.2.1) HM.out.2.1) ?_
  rintro e w4 ⟨x2, rfl, d2, u2⟩
  have HG : Hid (w4.heap[b0]? = _ ∧ w4.heap[b0 + 1]? = _ ∧ b0 + 2 ≤ w4.heap.size ∧ Up w w4 ∧ PO (b0 + 2) w4 (.slice xa s.ps.length xc) s.ps ∧ CO (b0 + 2) w4 x2 s.cs) := ⟨u2.heap HG2.out.1, u2.heap HG2.out.2.1, by have := u2.size; have := HG2.out.2.2.1; omega, HG2.out.2.2.2.1.trans u2, row_up HG2.out.2.2.2.2 u2, own_less d2 HG2.out.2.2.1⟩
  obtain ⟨xa2, xc2, hx2⟩ := row_val d2
  subst hx2
  clear d2 u2 HG2 y0 y1 y2 y3 y4 y5 y6 yf
  obtain ⟨y0, y1, y2, y3, y4, y5, y6⟩ := seven_cells HG.out.1
  have yf := seven_f HG.out.1
  have HG2 : Hid ((w4.setCell ⟨b0, 1, none⟩ (.slice xa2 s.cs.length xc2)).heap[b0]? = some (.cells #[.slice xa s.ps.length xc, .slice xa2 s.cs.length xc2, .slice a3 s.zs.length k3, .int .i32 tu, .int .i64 wo, .int .i8 fi, .int .i64 wi] 27 (0, 0)) ∧ (w4.setCell ⟨b0, 1, none⟩ (.slice xa2 s.cs.length xc2)).heap[b0 + 1]? = some (.cells #[.slice none 0 0, .slice none 0 0, .slice none 0 0, .int .i32 0, .int .i64 0, .int .i8 0, .int .i64 0] 27 (0, 0)) ∧ b0 + 2 ≤ (w4.setCell ⟨b0, 1, none⟩ (.slice xa2 s.cs.length xc2)).heap.size ∧ Up w (w4.setCell ⟨b0, 1, none⟩ (.slice xa2 s.cs.length xc2)) ∧ PO (b0 + 2) (w4.setCell ⟨b0, 1, none⟩ (.slice xa2 s.cs.length xc2)) (.slice xa s.ps.length xc) s.ps ∧ CO (b0 + 2) (w4.setCell ⟨b0, 1, none⟩ (.slice xa2 s.cs.length xc2)) (.slice xa2 s.cs.length xc2) s.cs) :=
    ⟨set_cells HG.out.1, set_other HG.out.2.1 (by omega), by simpa using HG.out.2.2.1, Up.set HG.out.2.2.2.1 _ _ (by rw [← HB.out]; exact Nat.le_refl _), row_set HG.out.2.2.2.2.1 (by omega), row_set HG.out.2.2.2.2.2 (by omega)⟩
  clear HG
  go_wp2_with fail
  obtain ⟨W5, hW5⟩ : ∃ W, W = w4.setCell ⟨b0, 1, none⟩ (.slice xa2 s.cs.length xc2) := ⟨_, rfl⟩
  rw [← hW5] at HG2 ⊢
  clear hW5
  refine Calls.mono (copyRows_ _ s.zs W5 (ZL.up H3.out HG2.out.2.2.2.1) HM.out.2.2.1 HM.out.2.2.2) ?_
  rintro e w6 ⟨x3, rfl, d3, u3⟩
  have HG : Hid (w6.heap[b0]? = _ ∧ w6.heap[b0 + 1]? = _ ∧ b0 + 2 ≤ w6.heap.size ∧ Up w w6 ∧ PO (b0 + 2) w6 (.slice xa s.ps.length xc) s.ps ∧ CO (b0 + 2) w6 (.slice xa2 s.cs.length xc2) s.cs ∧ ZO (b0 + 2) w6 x3 s.zs) := ⟨u3.heap HG2.out.1, u3.heap HG2.out.2.1, by have := u3.size; have := HG2.out.2.2.1; omega, HG2.out.2.2.2.1.trans u3, row_up HG2.out.2.2.2.2.1 u3, row_up HG2.out.2.2.2.2.2 u3, d3.less HG2.out.2.2.1⟩
  obtain ⟨xa3, xc3, hx3⟩ : ∃ p q, x3 = .slice p s.zs.length q := by
    obtain ⟨vs, h, -⟩ := d3
    exact row_val h
  subst hx3
  clear d3 u3 HG2 y0 y1 y2 y3 y4 y5 y6 yf
  obtain ⟨y0, y1, y2, y3, y4, y5, y6⟩ := seven_cells HG.out.1
  have yf := seven_f HG.out.1
  have HG2 : Hid ((w6.setCell ⟨b0, 2, none⟩ (.slice xa3 s.zs.length xc3)).heap[b0]? = some (.cells #[.slice xa s.ps.length xc, .slice xa2 s.cs.length xc2, .slice xa3 s.zs.length xc3, .int .i32 tu, .int .i64 wo, .int .i8 fi, .int .i64 wi] 27 (0, 0)) ∧ (w6.setCell ⟨b0, 2, none⟩ (.slice xa3 s.zs.length xc3)).heap[b0 + 1]? = some (.cells #[.slice none 0 0, .slice none 0 0, .slice none 0 0, .int .i32 0, .int .i64 0, .int .i8 0, .int .i64 0] 27 (0, 0)) ∧ Up w (w6.setCell ⟨b0, 2, none⟩ (.slice xa3 s.zs.length xc3)) ∧ SO (b0 + 2) (w6.setCell ⟨b0, 2, none⟩ (.slice xa3 s.zs.length xc3)) (.agg #[.slice xa s.ps.length xc, .slice xa2 s.cs.length xc2, .slice xa3 s.zs.length xc3, .int .i32 tu, .int .i64 wo, .int .i8 fi, .int .i64 wi]) s) :=
    ⟨set_cells HG.out.1, set_other HG.out.2.1 (by omega), Up.set HG.out.2.2.2.1 _ _ (by rw [← HB.out]; exact Nat.le_refl _), _, _, _, (HSV.out _ _ _).symm, row_set HG.out.2.2.2.2.1 (by omega), row_set HG.out.2.2.2.2.2.1 (by omega), HG.out.2.2.2.2.2.2.set (by omega)⟩
  clear HG
  obtain ⟨W7, hW7⟩ : ∃ W, W = w6.setCell ⟨b0, 2, none⟩ (.slice xa3 s.zs.length xc3) := ⟨_, rfl⟩
  rw [← hW7] at HG2
  have HW7 : Hid (W7 = _) := hW7
  obtain ⟨q0, q1, q2, q3, q4, q5, q6⟩ := seven_cells HG2.out.1
  obtain ⟨r0, r1, r2, r3, r4, r5, r6⟩ := seven_cells HG2.out.2.1
  have rf := seven_f HG2.out.2.1
  rw [hW7] at q0 q1 q2 q3 q4 q5 q6 r0 r1 r2 r3 r4 r5 r6 rf
  clear hW7
  go_wp2_with fail
  rw [← HW7.out]
  obtain ⟨p0, p1, p2, p3, p4, p5, p6⟩ := seven_cells (seven_set (x0 := .slice xa s.ps.length xc) (x1 := .slice xa2 s.cs.length xc2) (x2 := .slice xa3 s.zs.length xc3) (x3 := .int .i32 tu) (x4 := .int .i64 wo) (x5 := .int .i8 fi) (x6 := .int .i64 wi) HG2.out.2.1)
  have hs1 : b0 + 1 < b0 + 2 := by omega
  have hb1 : w.heap.size ≤ b0 + 1 := by rw [← HB.out]; omega
  refine bodyPost_ret (v := .agg #[.slice xa s.ps.length xc, .slice xa2 s.cs.length xc2, .slice xa3 s.zs.length xc3, .int .i32 tu, .int .i64 wo, .int .i8 fi, .int .i64 wi]) (by simp [results, Tryz.results15, go_sem, p0, p1, p2, p3, p4, p5, p6]) rfl ?_
  rw [HP.out]
  refine ⟨_, rfl, ?_, ?_⟩
  · exact ((((((((HG2.out.2.2.2.set hs1).set hs1).set hs1).set hs1).set hs1).set hs1).set hs1)).less (by rw [HB.out]; omega)
  · exact ((((((((HG2.out.2.2.1.set _ _ hb1).set _ _ hb1).set _ _ hb1).set _ _ hb1).set _ _ hb1).set _ _ hb1).set _ _ hb1))
end ST
end Go.Proofs.YtpmdlpjedapbbaaGreatDoor
