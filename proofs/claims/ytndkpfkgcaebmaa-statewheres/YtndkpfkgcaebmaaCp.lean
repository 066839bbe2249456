/-
  Copies in memory of their own: lists of ints, players, cards, lists of lists, states.
-/
import Derived.Test.YtndkpfkgcaebmaaWh
namespace Go.Proofs.Ytndkpfkgcaebmaa
open Go.RowKit
attribute [local go_sem ↓] Go.wp_at_zero Go.wp_at_succ

theorem run_append_lc {P : Program} (w : World) (base : Nat) (t ty e : TypeId) (i : TypeInfo) (z : Value) (size bytes : Nat) (ht : P.underlying t = some (.slice e)) (hi : P.info? e = some i) (hz : i.zero = some z)
    (hsize : i.size = size) (hby : i.bytes = bytes) (hzs : z.cells.size = size) (hsz : 0 < size)
    (v : Value) (n : Nat) (xs : List Value) (hown : w.ownsRow base e size v n xs) (u : Value) (m : Nat) (cs : List Value) (hu : LC w u size m cs) (h1 : ∀ u ∈ cs, u.oneCell' = true)
    (h63 : n + m ≤ maxLen) (hbytes : (n + m) * bytes ≤ 140737488355328) (hbase : base ≤ w.heap.size) :
    ∃ v' w', (Builtin.append_ #[t, t] ty #[v, u]).run P w = .ok v' w' ∧ w'.ownsRow base e size v' (n + m) (xs ++ cs) ∧ w.grownBy w' v.ownBlock := by
  obtain ⟨hl, a, cap, rfl, -, hc⟩ := hu
  by_cases hm : m = 0
  · subst hm
    have hcs : cs = [] := List.eq_nil_of_length_eq_zero (by omega)
    subst hcs
    cases a with
    | some ad =>
      obtain ⟨v', w', h2, h3, h4, -⟩ := run_append_own (P := P) w base t ty e i z size bytes ht hi hz hsize hby hzs hsz v n xs hown ad 0 cap [] (by simp) (by simp) (by simp) h63 hbytes hbase
      exact ⟨v', w', h2, h3, h4⟩
    | none =>
      refine ⟨v, w, ?_, by simpa using hown, ⟨rfl, rfl, rfl, Nat.le_refl _, fun _ _ _ => rfl⟩⟩
      rcases hown.2 with ⟨rfl, rfl⟩ | ⟨g, cap, cur, rfl, _, _, hnc, _⟩
      · simp [Builtin.append_, run_underlying ht, sizeOf, typeInfo, hi, Builtin.lenOf, Builtin.firstCells]
      · simp [Builtin.append_, run_underlying ht, sizeOf, typeInfo, hi, Builtin.lenOf, Builtin.firstCells, hnc, storeCells]
  · obtain ⟨b, off, rfl, hcell⟩ := hc hm
    obtain ⟨v', w', h2, h3, h4, -⟩ := run_append_own (P := P) w base t ty e i z size bytes ht hi hz hsize hby hzs hsz v n xs hown ⟨b, off, none⟩ m cap cs hl (fun j u hj => by
      rw [Addr.add_mid]
      have : j < cs.length := (List.getElem?_eq_some_iff.1 hj).1
      rw [hcell j (by omega)]; exact hj) h1 h63 hbytes hbase
    exact ⟨v', w', h2, h3, h4⟩
theorem wpList_append_lc {P : Program} {w : World} {ops : Array Oper} {rest : List Oper} {o : Oper} {a : Act} {Q : Exit → Act → World → Prop} (hgd : o.guard = none) (s x : Operand) (t : TypeId)
    (ho : o.op = .call { callee := .builtin .append, args := #[s, x], argTypes := #[t, t] })
    (base : Nat) (e : TypeId) (i : TypeInfo) (z : Value) (size bytes : Nat) (ht : P.underlying t = some (.slice e)) (hi : P.info? e = some i) (hz : i.zero = some z)
    (hsize : i.size = size) (hby : i.bytes = bytes) (hzs : z.cells.size = size) (hsz : 0 < size)
    (v : Value) (n : Nat) (xs : List Value) (hs : a.eval s = v) (hown : w.ownsRow base e size v n xs) (u : Value) (m : Nat) (cs : List Value) (hx : a.eval x = u) (hu : LC w u size m cs) (h1 : ∀ u ∈ cs, u.oneCell' = true)
    (h63 : n + m ≤ maxLen) (hbytes : (n + m) * bytes ≤ 140737488355328) (hbase : base ≤ w.heap.size)
    (h : ∀ v' w', w'.ownsRow base e size v' (n + m) (xs ++ cs) → w.grownBy w' v.ownBlock → wpList P ops Q rest (a.put o.dst v') w') : wpList P ops Q (o :: rest) a w := by
  refine wpList_plain hgd fun K hK => ?_
  obtain ⟨v', w', hr, h2, h3⟩ := run_append_lc (P := P) w base t o.type e i z size bytes ht hi hz hsize hby hzs hsz v n xs hown u m cs hu h1 h63 hbytes hbase
  unfold Oper.wp execOp
  simp only [ho, resolve, invoke, builtin, Sem.run_bind, Sem.run_pure, Result.andThen_ok, List.map_toArray, List.map_cons, List.map_nil, hs, hx, hr]
  exact hK _ _ (h v' w' h2 h3)
theorem own_lc {W : World} {base e s n : Nat} {v : Value} {xs : List Value} (h : W.ownsRow base e s v n xs) : LC W v s n xs := by
  refine ⟨h.1, ?_⟩
  rcases h.2 with ⟨rfl, rfl⟩ | ⟨g, cap, cur, rfl, _, _, hnc, _⟩
  · exact ⟨none, 0, rfl, Nat.le_refl _, fun h => absurd rfl h⟩
  · exact ⟨some ⟨g, 0, none⟩, cap, rfl, hnc, fun _ => ⟨g, 0, rfl, fun j hj => by rw [Nat.zero_add]; exact h.cellAt j hj⟩⟩
theorem row_set {w : World} {base e s n b j : Nat} {v u : Value} {xs : List Value} (h : w.ownsRow base e s v n xs) (hb : b < base) : (w.setCell ⟨b, j, none⟩ u).ownsRow base e s v n xs := by
  refine ⟨h.1, ?_⟩
  rcases h.2 with h | ⟨g, cap, cur, e1, e2, e3, e4⟩
  · exact .inl h
  · exact .inr ⟨g, cap, cur, e1, e2, by rw [Below.heap_setCell _ _ _ _ (by show g ≠ b; omega)]; exact e3, e4⟩
theorem row_apart {w : World} {b1 b2 e1 e2 s1 s2 n1 n2 : Nat} {v1 v2 : Value} {x1 x2 : List Value} (h1 : w.ownsRow b1 e1 s1 v1 n1 x1) (h2 : w.ownsRow b2 e2 s2 v2 n2 x2) (he : e1 ≠ e2) : v1.ownBlock = none ∨ v1.ownBlock ≠ v2.ownBlock := by
  rcases h1.2 with ⟨rfl, -⟩ | ⟨g1, c1, k1, rfl, -, hg1, -⟩
  · exact .inl rfl
  · refine .inr ?_
    rcases h2.2 with ⟨rfl, -⟩ | ⟨g2, c2, k2, rfl, -, hg2, -⟩
    · simp [Value.ownBlock]
    · simp only [Value.ownBlock, ne_eq, Option.some.injEq]
      intro e
      subst e
      rw [hg1] at hg2
      cases hg2
      exact he rfl
namespace ST
theorem infoI : (Try.prog.info? 3).map (fun i => (i.zero, i.size, i.bytes)) = some (some (.int .i64 0), 1, 8) := by kernel_rfl
theorem infoP : (Try.prog.info? 70).map (fun i => (i.zero, i.size, i.bytes)) = some (some (.agg #[.int .i32 0, .int .i32 0, .bool false]), 3, 12) := by kernel_rfl
theorem infoC : (Try.prog.info? 35).map (fun i => (i.zero, i.size, i.bytes)) = some (some (.agg #[.int .i64 0, .int .i64 0, .int .i32 0, .int .i32 0, .int .i32 0, .int .i32 0]), 6, 32) := by kernel_rfl
theorem infoR : (Try.prog.info? 36).map (fun i => (i.zero, i.size, i.bytes)) = some (some (.slice none 0 0), 1, 24) := by kernel_rfl
theorem ivs_one (l : List Int) : ∀ u ∈ ivs l, u.oneCell' = true := by
  intro u hu
  simp only [ivs, List.mem_map] at hu
  obtain ⟨z, _, rfl⟩ := hu
  rfl
theorem pvs_one (l : List Ply) : ∀ u ∈ pvs l, u.oneCell' = true := by
  intro u hu
  simp only [pvs, List.mem_flatMap, pv, List.mem_cons, List.not_mem_nil, or_false] at hu
  obtain ⟨z, _, rfl | rfl | rfl⟩ := hu <;> rfl
theorem cvs_one (l : List Crd) : ∀ u ∈ cvs l, u.oneCell' = true := by
  intro u hu
  simp only [cvs, List.mem_flatMap, cv, List.mem_cons, List.not_mem_nil, or_false] at hu
  obtain ⟨z, _, rfl | rfl | rfl | rfl | rfl | rfl⟩ := hu <;> rfl
/- own lists -/
def IRow (base : Nat) (W : World) (v : Value) (l : List Int) : Prop := W.ownsRow base 3 1 v l.length (ivs l)
def PO (base : Nat) (W : World) (v : Value) (l : List Ply) : Prop := W.ownsRow base 70 3 v l.length (pvs l)
def CO (base : Nat) (W : World) (v : Value) (l : List Crd) : Prop := W.ownsRow base 35 6 v l.length (cvs l)
def ZO (base : Nat) (W : World) (v : Value) (zs : List (List Int)) : Prop := ∃ vs, W.ownsRow base 36 1 v zs.length vs ∧ ∀ i, i < zs.length → IRow base W (vs.getD i nl) (zs.getD i [])
def SO (base : Nat) (W : World) (v : Value) (s : Stt) : Prop := ∃ vp vc vz, v = sv vp vc vz s ∧ PO base W vp s.ps ∧ CO base W vc s.cs ∧ ZO base W vz s.zs
theorem IRow.il {base : Nat} {W : World} {v : Value} {l : List Int} (h : IRow base W v l) : IL W v l := own_lc h
theorem ZO.zl {base : Nat} {W : World} {v : Value} {zs : List (List Int)} (h : ZO base W v zs) : ZL W v zs := by
  obtain ⟨vs, h1, h2⟩ := h
  exact ⟨vs, own_lc h1, fun i hi => (h2 i hi).il⟩
theorem SO.sl {base : Nat} {W : World} {v : Value} {s : Stt} (h : SO base W v s) : StL W v s := by
  obtain ⟨vp, vc, vz, hv, h1, h2, h3⟩ := h
  exact ⟨vp, vc, vz, hv, own_lc h1, own_lc h2, h3.zl⟩
theorem own_less {W : World} {b b' e s n : Nat} {v : Value} {xs : List Value} (h : W.ownsRow b e s v n xs) (hb : b' ≤ b) : W.ownsRow b' e s v n xs := by
  refine ⟨h.1, ?_⟩
  rcases h.2 with h | ⟨g, cap, cur, e1, e2, e3⟩
  · exact .inl h
  · exact .inr ⟨g, cap, cur, e1, Nat.le_trans hb e2, e3⟩
theorem ZO.less {b b' : Nat} {W : World} {v : Value} {zs : List (List Int)} (h : ZO b W v zs) (hb : b' ≤ b) : ZO b' W v zs := by
  obtain ⟨vs, h1, h2⟩ := h
  exact ⟨vs, own_less h1 hb, fun i hi => own_less (h2 i hi) hb⟩
theorem ZO.up {b : Nat} {W W' : World} {v : Value} {zs : List (List Int)} (h : ZO b W v zs) (u : Up W W') : ZO b W' v zs := by
  obtain ⟨vs, h1, h2⟩ := h
  exact ⟨vs, row_up h1 u, fun i hi => row_up (h2 i hi) u⟩
theorem ZO.set {b k j : Nat} {W : World} {v u : Value} {zs : List (List Int)} (h : ZO b W v zs) (hk : k < b) : ZO b (W.setCell ⟨k, j, none⟩ u) v zs := by
  obtain ⟨vs, h1, h2⟩ := h
  exact ⟨vs, row_set h1 hk, fun i hi => row_set (h2 i hi) hk⟩
def CpPost (w : World) (D : World → Value → Prop) (e : Ending) (w' : World) : Prop := ∃ v', e = .returned v' ∧ D w' v' ∧ Up w w'
set_option maxHeartbeats 1000000 in
theorem copyInts_ (v : Value) (l : List Int) (w : World) (hv : IL w v l) (hn : l.length ≤ 4294967296) :
    Calls Try.prog 64 #[v] w (CpPost w fun W v' => IRow w.heap.size W v' l) := by
  obtain ⟨iT, hiT, z0, z1, z2⟩ := info_parts infoI
  obtain ⟨Post, hPost⟩ : ∃ P : Ending → World → Prop, P = CpPost w fun W v' => IRow w.heap.size W v' l := ⟨_, rfl⟩
  rw [← hPost]
  have HP : Hid (Post = CpPost w fun W v' => IRow w.heap.size W v' l) := hPost
  have HV : Hid _ := hv
  obtain ⟨a, c, rfl, -, -⟩ := lc_at hv
  clear hPost hv
  go_enter Try.func64, Try.ntmps64
  go_wp2_with (at_builtin; refine wpList_append_lc (by rfl) _ _ 36 (by rfl) w.heap.size 3 iT (.int .i64 0) 1 8 Try.underlying36 hiT z0 z1 z2 (by rfl) (by decide) (.slice none 0 0) 0 [] (by rfl) (World.ownsRow_nil _ _ _ _) _ l.length (ivs l) (by rfl) HV.out (ivs_one l) (by unfold maxLen; omega) (by omega) (Nat.le_refl _) ?_; intro v' w1 hin hg1)
  have HF : Hid (IRow w.heap.size w1 v' l ∧ Up w w1) := ⟨by simpa [IRow] using hin, made_up hg1⟩
  clear hin hg1
  go_wp2
  rw [HP.out]
  exact ⟨v', rfl, HF.out.1, HF.out.2⟩
set_option maxHeartbeats 1000000 in
theorem copyPlayers_ (v : Value) (l : List Ply) (w : World) (hv : PLs w v l) (hn : l.length ≤ 4294967296) :
    Calls Try.prog 36 #[v] w (CpPost w fun W v' => PO w.heap.size W v' l) := by
  obtain ⟨iT, hiT, z0, z1, z2⟩ := info_parts infoP
  obtain ⟨Post, hPost⟩ : ∃ P : Ending → World → Prop, P = CpPost w fun W v' => PO w.heap.size W v' l := ⟨_, rfl⟩
  rw [← hPost]
  have HP : Hid (Post = CpPost w fun W v' => PO w.heap.size W v' l) := hPost
  have HV : Hid _ := hv
  obtain ⟨a, c, rfl, -, -⟩ := lc_at hv
  clear hPost hv
  go_enter Try.func36, Try.ntmps36
  go_wp2_with (at_builtin; refine wpList_append_lc (by rfl) _ _ 22 (by rfl) w.heap.size 70 iT _ 3 12 Try.underlying22 hiT z0 z1 z2 (by rfl) (by decide) (.slice none 0 0) 0 [] (by rfl) (World.ownsRow_nil _ _ _ _) _ l.length (pvs l) (by rfl) HV.out (pvs_one l) (by unfold maxLen; omega) (by omega) (Nat.le_refl _) ?_; intro v' w1 hin hg1)
  have HF : Hid (PO w.heap.size w1 v' l ∧ Up w w1) := ⟨by simpa [PO] using hin, made_up hg1⟩
  clear hin hg1
  go_wp2
  rw [HP.out]
  exact ⟨v', rfl, HF.out.1, HF.out.2⟩
set_option maxHeartbeats 1000000 in
theorem copyCards_ (v : Value) (l : List Crd) (w : World) (hv : CLs w v l) (hn : l.length ≤ 4294967296) :
    Calls Try.prog 20 #[v] w (CpPost w fun W v' => CO w.heap.size W v' l) := by
  obtain ⟨iT, hiT, z0, z1, z2⟩ := info_parts infoC
  obtain ⟨Post, hPost⟩ : ∃ P : Ending → World → Prop, P = CpPost w fun W v' => CO w.heap.size W v' l := ⟨_, rfl⟩
  rw [← hPost]
  have HP : Hid (Post = CpPost w fun W v' => CO w.heap.size W v' l) := hPost
  have HV : Hid _ := hv
  obtain ⟨a, c, rfl, -, -⟩ := lc_at hv
  clear hPost hv
  go_enter Try.func20, Try.ntmps20
  go_wp2_with (at_builtin; refine wpList_append_lc (by rfl) _ _ 23 (by rfl) w.heap.size 35 iT _ 6 32 Try.underlying23 hiT z0 z1 z2 (by rfl) (by decide) (.slice none 0 0) 0 [] (by rfl) (World.ownsRow_nil _ _ _ _) _ l.length (cvs l) (by rfl) HV.out (cvs_one l) (by unfold maxLen; omega) (by omega) (Nat.le_refl _) ?_; intro v' w1 hin hg1)
  have HF : Hid (CO w.heap.size w1 v' l ∧ Up w w1) := ⟨by simpa [CO] using hin, made_up hg1⟩
  clear hin hg1
  go_wp2
  rw [HP.out]
  exact ⟨v', rfl, HF.out.1, HF.out.2⟩
end ST
end Go.Proofs.Ytndkpfkgcaebmaa
