/-
  CopyNodes; a pack with one ability.
-/
import Derived.Test.YtgahdppcdeefaaaNa9
import Derived.Laws.AppendOwn
import Derived.Deep.Cut
namespace Go.Proofs.Ytgahdppcdeefaaa
open Go.RowKit
attribute [local go_sem ↓] Go.wp_at_zero Go.wp_at_succ
namespace TR
theorem run_append_lc {P : Program} (w : World) (base : Nat) (t ty e : TypeId) (i : TypeInfo) (z : Value) (size bytes : Nat) (ht : P.underlying t = some (.slice e)) (hi : P.info? e = some i) (hz : i.zero = some z)
    (hsize : i.size = size) (hby : i.bytes = bytes) (hzs : z.cells.size = size) (hsz : 0 < size)
    (v : Value) (n : Nat) (xs : List Value) (hown : w.ownsRow base e size v n xs) (u : Value) (m : Nat) (cs : List Value) (hu : LC w u size m cs) (h1 : ∀ u ∈ cs, u.oneCell' = true)
    (h63 : n + m ≤ maxLen) (hbytes : (n + m) * bytes ≤ 140737488355328) (hbase : base ≤ w.heap.size) :
    ∃ v' w', (Builtin.append_ #[t, t] ty #[v, u]).run P w = .ok v' w' ∧ w'.ownsRow base e size v' (n + m) (xs ++ cs) ∧ w.grownBy w' v.ownBlock := by
  obtain ⟨hl, a, cap, rfl, -, hc⟩ := hu
  by_cases hm : m = 0
  · subst hm
    have hcs : cs = [] := List.eq_nil_of_length_eq_zero (by omega)
    subst hcs
    cases a with
    | some ad =>
      obtain ⟨v', w', h2, h3, h4, -⟩ := run_append_own (P := P) w base t ty e i z size bytes ht hi hz hsize hby hzs hsz v n xs hown ad 0 cap [] (by simp) (by simp) (by simp) h63 hbytes hbase
      exact ⟨v', w', h2, h3, h4⟩
    | none =>
      refine ⟨v, w, ?_, by simpa using hown, ⟨rfl, rfl, rfl, Nat.le_refl _, fun _ _ _ => rfl⟩⟩
      rcases hown.2 with ⟨rfl, rfl⟩ | ⟨g, cap, cur, rfl, _, _, hnc, _⟩
      · simp [Builtin.append_, run_underlying ht, sizeOf, typeInfo, hi, Builtin.lenOf, Builtin.firstCells]
      · simp [Builtin.append_, run_underlying ht, sizeOf, typeInfo, hi, Builtin.lenOf, Builtin.firstCells, hnc, storeCells]
  · obtain ⟨b, off, rfl, hcell⟩ := hc hm
    obtain ⟨v', w', h2, h3, h4, -⟩ := run_append_own (P := P) w base t ty e i z size bytes ht hi hz hsize hby hzs hsz v n xs hown ⟨b, off, none⟩ m cap cs hl (fun j u hj => by
      rw [Addr.add_mid]
      have : j < cs.length := (List.getElem?_eq_some_iff.1 hj).1
      rw [hcell j (by omega)]; exact hj) h1 h63 hbytes hbase
    exact ⟨v', w', h2, h3, h4⟩
theorem wpList_append_lc {P : Program} {w : World} {ops : Array Oper} {rest : List Oper} {o : Oper} {a : Act} {Q : Exit → Act → World → Prop} (hgd : o.guard = none) (s x : Operand) (t : TypeId)
    (ho : o.op = .call { callee := .builtin .append, args := #[s, x], argTypes := #[t, t] })
    (base : Nat) (e : TypeId) (i : TypeInfo) (z : Value) (size bytes : Nat) (ht : P.underlying t = some (.slice e)) (hi : P.info? e = some i) (hz : i.zero = some z)
    (hsize : i.size = size) (hby : i.bytes = bytes) (hzs : z.cells.size = size) (hsz : 0 < size)
    (v : Value) (n : Nat) (xs : List Value) (hs : a.eval s = v) (hown : w.ownsRow base e size v n xs) (u : Value) (m : Nat) (cs : List Value) (hx : a.eval x = u) (hu : LC w u size m cs) (h1 : ∀ u ∈ cs, u.oneCell' = true)
    (h63 : n + m ≤ maxLen) (hbytes : (n + m) * bytes ≤ 140737488355328) (hbase : base ≤ w.heap.size)
    (h : ∀ v' w', w'.ownsRow base e size v' (n + m) (xs ++ cs) → w.grownBy w' v.ownBlock → wpList P ops Q rest (a.put o.dst v') w') : wpList P ops Q (o :: rest) a w := by
  refine wpList_plain hgd fun K hK => ?_
  obtain ⟨v', w', hr, h2, h3⟩ := run_append_lc (P := P) w base t o.type e i z size bytes ht hi hz hsize hby hzs hsz v n xs hown u m cs hu h1 h63 hbytes hbase
  unfold Oper.wp execOp
  simp only [ho, resolve, invoke, builtin, Sem.run_bind, Sem.run_pure, Result.andThen_ok, List.map_toArray, List.map_cons, List.map_nil, hs, hx, hr]
  exact hK _ _ (h v' w' h2 h3)
theorem own_lc {W : World} {base e s n : Nat} {v : Value} {xs : List Value} (h : W.ownsRow base e s v n xs) : LC W v s n xs := by
  refine ⟨h.1, ?_⟩
  rcases h.2 with ⟨rfl, rfl⟩ | ⟨g, cap, cur, rfl, _, _, hnc, _⟩
  · exact ⟨none, 0, rfl, Nat.le_refl _, fun h => absurd rfl h⟩
  · exact ⟨some ⟨g, 0, none⟩, cap, rfl, hnc, fun _ => ⟨g, 0, rfl, fun j hj => by rw [Nat.zero_add]; exact h.cellAt j hj⟩⟩
theorem nvs_app (a b : List Nd) : nvs (a ++ b) = nvs a ++ nvs b := List.flatMap_append
theorem nvs_one (l : List Nd) : ∀ u ∈ nvs l, u.oneCell' = true := by
  intro u hu
  unfold nvs at hu
  obtain ⟨x, -, hx⟩ := List.mem_flatMap.1 hu
  unfold ndc at hx
  simp only [List.mem_cons, List.not_mem_nil, or_false] at hx
  rcases hx with rfl | rfl | rfl | rfl | rfl | rfl | rfl <;> rfl
theorem own_nl {W : World} {base : Nat} {v : Value} {l : List Nd} (h : W.ownsRow base 33 7 v l.length (nvs l)) : NLs W v l := own_lc h
set_option maxRecDepth 100000 in
set_option maxHeartbeats 4000000 in
theorem copyN_ (v : Value) (l : List Nd) (w : World) (hv : NLs w v l) (hn : l.length ≤ 4294967296) :
    Calls Try.prog 19 #[v] w (CpN w fun W v' => W.ownsRow w.heap.size 33 7 v' l.length (nvs l)) := by
  obtain ⟨iT, hiT, z0, z1, z2⟩ := info_parts infoNdW
  obtain ⟨Post, hPost⟩ : ∃ P : Ending → World → Prop, P = (CpN w fun W v' => W.ownsRow w.heap.size 33 7 v' l.length (nvs l)) := ⟨_, rfl⟩
  rw [← hPost]
  have HPo : Hid (Post = (CpN w fun W v' => W.ownsRow w.heap.size 33 7 v' l.length (nvs l))) := hPost
  have HV : Hid (LC w v 7 l.length (nvs l)) := hv
  clear hPost hv
  go_enter Try.func19, Try.ntmps19
  go_wp2_with (at_builtin; refine wpList_append_lc (by rfl) _ _ 22 (by rfl) w.heap.size 33 iT _ 7 56 Try.underlying22 hiT z0 z1 z2 (by rfl) (by decide) (.slice none 0 0) 0 [] (by rfl) (World.ownsRow_nil _ _ _ _) _ l.length (nvs l) (by rfl) HV.out (nvs_one l) (by unfold maxLen; omega) (by omega) (Nat.le_refl _) ?_; intro v' w1 hin hg1)
  have HU : Hid (Up w w1) := made_up hg1
  have HI : Hid (w1.ownsRow w.heap.size 33 7 v' l.length (nvs l)) := by unfold Hid; have := hin; rw [Nat.zero_add, List.nil_append] at this; exact this
  clear hin hg1
  go_wp2_with fail
  rw [HPo.out]
  exact ⟨_, rfl, HI.out, HU.out⟩
def one3 (k : Int) : List Nd := [⟨1, 0, 0, 0, [], 0, 1⟩, ⟨2, 0, 0, 0, [97], 0, 1⟩, ⟨7, 0, 0, 0, [], 0, k⟩]
def oneL (wh bl : List Nd) : List Nd := one3 (if wh.length = 0 then 1 else 2) ++ wh ++ bl
set_option maxRecDepth 100000 in
set_option maxHeartbeats 8000000 in
theorem one_ (v u : Value) (wh bl : List Nd) (w : World) (hv : NLs w v wh) (hu : NLs w u bl) (hn : wh.length ≤ 4294967296) (hm : bl.length ≤ 4294967296) : Calls Try.prog 24 #[v, u] w (CpN w fun W v' => W.ownsRow w.heap.size 33 7 v' (oneL wh bl).length (nvs (oneL wh bl))) := by
  obtain ⟨iT, hiT, z0, z1, z2⟩ := info_parts infoNdW
  obtain ⟨Post, hPost⟩ : ∃ P : Ending → World → Prop, P = (CpN w fun W v' => W.ownsRow w.heap.size 33 7 v' (oneL wh bl).length (nvs (oneL wh bl))) := ⟨_, rfl⟩
  rw [← hPost]
  have HPo : Hid (Post = (CpN w fun W v' => W.ownsRow w.heap.size 33 7 v' (oneL wh bl).length (nvs (oneL wh bl)))) := hPost
  clear hPost
  obtain ⟨a1, k1, rfl, -, -⟩ := nl_at hv
  obtain ⟨a2, k2, rfl, -, -⟩ := nl_at hu
  replace hv : LC w (.slice a1 wh.length k1) 7 wh.length (nvs wh) := hv
  replace hu : LC w (.slice a2 bl.length k2) 7 bl.length (nvs bl) := hu
  obtain ⟨n, hn0⟩ : ∃ n, n = wh.length := ⟨_, rfl⟩
  obtain ⟨m, hm0⟩ : ∃ m, m = bl.length := ⟨_, rfl⟩
  have HN : Hid (n = wh.length) := hn0
  have HM : Hid (m = bl.length) := hm0
  rw [← hn0] at hn hv ⊢
  rw [← hm0] at hm hu ⊢
  have HL1 : Hid (LC w (.slice a1 n k1) 7 n (nvs wh)) := hv
  have HL2 : Hid (LC w (.slice a2 m k2) 7 m (nvs bl)) := hu
  clear hv hu hm0
  by_cases hn9 : n = 0
  · subst hn9
    clear hn0
    have HL3 : Hid (Try.prog.info? 33 = some iT) := hiT
    have HA : Hid ((w.alloc (.cells #[.int .i8 1, .int .i8 0, .int .i64 0, .int .i64 0, .string ⟨#[]⟩, .int .i64 0, .int .i64 1, .int .i8 2, .int .i8 0, .int .i64 0, .int .i64 0, .string ⟨#[97]⟩, .int .i64 0, .int .i64 1, .int .i8 7, .int .i8 0, .int .i64 0, .int .i64 0, .string ⟨#[]⟩, .int .i64 0, .int .i64 1] 33)).ownsRow w.heap.size 33 7 (.slice (some ⟨w.heap.size, 0, none⟩) 3 3) 3 (nvs (one3 1))) := World.ownsRow_lit (base := w.heap.size) w #[.int .i8 1, .int .i8 0, .int .i64 0, .int .i64 0, .string ⟨#[]⟩, .int .i64 0, .int .i64 1, .int .i8 2, .int .i8 0, .int .i64 0, .int .i64 0, .string ⟨#[97]⟩, .int .i64 0, .int .i64 1, .int .i8 7, .int .i8 0, .int .i64 0, .int .i64 0, .string ⟨#[]⟩, .int .i64 0, .int .i64 1] 3 (Nat.le_refl _) (by unfold maxLen; omega) rfl
    have HE : Hid (oneL wh bl = one3 1 ++ wh ++ bl) := by unfold Hid oneL; rw [← HN.out, if_pos rfl]
    have HL1A : Hid (LC (w.alloc (.cells #[.int .i8 1, .int .i8 0, .int .i64 0, .int .i64 0, .string ⟨#[]⟩, .int .i64 0, .int .i64 1, .int .i8 2, .int .i8 0, .int .i64 0, .int .i64 0, .string ⟨#[97]⟩, .int .i64 0, .int .i64 1, .int .i8 7, .int .i8 0, .int .i64 0, .int .i64 0, .string ⟨#[]⟩, .int .i64 0, .int .i64 1] 33)) (.slice a1 0 k1) 7 0 (nvs wh)) := HL1.out.up ((Up.refl _).alloc _)
    have HBS : Hid (w.heap.size ≤ (w.alloc (.cells #[.int .i8 1, .int .i8 0, .int .i64 0, .int .i64 0, .string ⟨#[]⟩, .int .i64 0, .int .i64 1, .int .i8 2, .int .i8 0, .int .i64 0, .int .i64 0, .string ⟨#[97]⟩, .int .i64 0, .int .i64 1, .int .i8 7, .int .i8 0, .int .i64 0, .int .i64 0, .string ⟨#[]⟩, .int .i64 0, .int .i64 1] 33)).heap.size) := by unfold Hid; simp
    go_enter Try.func24, Try.ntmps24
    go_upto_region 6 with (at_builtin; refine wpList_append_lc (by rfl) (.tmp 15) (.tmp 16) 22 (by rfl) w.heap.size 33 iT _ 7 56 Try.underlying22 hiT z0 z1 z2 (by rfl) (by decide) (.slice (some ⟨w.heap.size, 0, none⟩) 3 3) 3 (nvs (one3 1)) (by rfl) HA.out (.slice a1 0 k1) 0 (nvs wh) (by rfl) HL1A.out (nvs_one _) (by unfold maxLen; omega) (by omega) HBS.out ?_; intro v1 w1 hin1 hg1)
    have u1 : Up w w1 := Below.grown ((Up.refl w).alloc _) hg1 HBS.out (fun k9 hk9 => (World.ownsRow.lt HA.out k9 hk9).1)
    have HU1 : Hid (Up w w1) := u1
    have HL2A : Hid (LC w1 (.slice a2 m k2) 7 m (nvs bl)) := HL2.out.up u1
    obtain ⟨va, vc, rfl⟩ := row_val hin1
    have HI1 : Hid (w1.ownsRow w.heap.size 33 7 (.slice va (3 + 0) vc) (3 + 0) (nvs (one3 1) ++ nvs wh)) := hin1
    have HBS1 : Hid (w.heap.size ≤ w1.heap.size) := u1.size
    clear hin1 hg1 u1 HA HL1A HBS
    go_wp2_with (at_builtin; refine wpList_append_lc (by rfl) (.tmp 18) (.tmp 19) 22 (by rfl) w.heap.size 33 iT _ 7 56 Try.underlying22 hiT z0 z1 z2 (by rfl) (by decide) (.slice va (3 + 0) vc) (3 + 0) (nvs (one3 1) ++ nvs wh) (by rfl) HI1.out (.slice a2 m k2) m (nvs bl) (by rfl) HL2A.out (nvs_one _) (by unfold maxLen; omega) (by omega) HBS1.out ?_; intro v2 w2 hin2 hg2)
    have HU2 : Hid (Up w w2) := Below.grown HU1.out hg2 HBS1.out (fun k9 hk9 => (World.ownsRow.lt HI1.out k9 hk9).1)
    have HI2 : Hid (w2.ownsRow w.heap.size 33 7 v2 (oneL wh bl).length (nvs (oneL wh bl))) := by
      unfold Hid
      rw [HE.out, nvs_app, nvs_app, List.length_append, List.length_append, ← HN.out, ← HM.out]
      exact hin2
    clear hin2 hg2
    go_wp2_with fail
    rw [HPo.out]
    exact ⟨_, rfl, HI2.out, HU2.out⟩
  · have hn8 : (0 : Int) < (n : Int) := by omega
    have HNP : Hid (0 < n) := by unfold Hid; omega
    clear hn0 hn9
    have HL3 : Hid (Try.prog.info? 33 = some iT) := hiT
    have HA : Hid ((w.alloc (.cells #[.int .i8 1, .int .i8 0, .int .i64 0, .int .i64 0, .string ⟨#[]⟩, .int .i64 0, .int .i64 1, .int .i8 2, .int .i8 0, .int .i64 0, .int .i64 0, .string ⟨#[97]⟩, .int .i64 0, .int .i64 1, .int .i8 7, .int .i8 0, .int .i64 0, .int .i64 0, .string ⟨#[]⟩, .int .i64 0, .int .i64 2] 33)).ownsRow w.heap.size 33 7 (.slice (some ⟨w.heap.size, 0, none⟩) 3 3) 3 (nvs (one3 2))) := World.ownsRow_lit (base := w.heap.size) w #[.int .i8 1, .int .i8 0, .int .i64 0, .int .i64 0, .string ⟨#[]⟩, .int .i64 0, .int .i64 1, .int .i8 2, .int .i8 0, .int .i64 0, .int .i64 0, .string ⟨#[97]⟩, .int .i64 0, .int .i64 1, .int .i8 7, .int .i8 0, .int .i64 0, .int .i64 0, .string ⟨#[]⟩, .int .i64 0, .int .i64 2] 3 (Nat.le_refl _) (by unfold maxLen; omega) rfl
    have HE : Hid (oneL wh bl = one3 2 ++ wh ++ bl) := by unfold Hid oneL; rw [← HN.out, if_neg (by have := HNP.out; omega)]
    have HL1A : Hid (LC (w.alloc (.cells #[.int .i8 1, .int .i8 0, .int .i64 0, .int .i64 0, .string ⟨#[]⟩, .int .i64 0, .int .i64 1, .int .i8 2, .int .i8 0, .int .i64 0, .int .i64 0, .string ⟨#[97]⟩, .int .i64 0, .int .i64 1, .int .i8 7, .int .i8 0, .int .i64 0, .int .i64 0, .string ⟨#[]⟩, .int .i64 0, .int .i64 2] 33)) (.slice a1 n k1) 7 n (nvs wh)) := HL1.out.up ((Up.refl _).alloc _)
    have HBS : Hid (w.heap.size ≤ (w.alloc (.cells #[.int .i8 1, .int .i8 0, .int .i64 0, .int .i64 0, .string ⟨#[]⟩, .int .i64 0, .int .i64 1, .int .i8 2, .int .i8 0, .int .i64 0, .int .i64 0, .string ⟨#[97]⟩, .int .i64 0, .int .i64 1, .int .i8 7, .int .i8 0, .int .i64 0, .int .i64 0, .string ⟨#[]⟩, .int .i64 0, .int .i64 2] 33)).heap.size) := by unfold Hid; simp
    go_enter Try.func24, Try.ntmps24
    go_upto_region 6 with (at_builtin; refine wpList_append_lc (by rfl) (.tmp 15) (.tmp 16) 22 (by rfl) w.heap.size 33 iT _ 7 56 Try.underlying22 hiT z0 z1 z2 (by rfl) (by decide) (.slice (some ⟨w.heap.size, 0, none⟩) 3 3) 3 (nvs (one3 2)) (by rfl) HA.out (.slice a1 n k1) n (nvs wh) (by rfl) HL1A.out (nvs_one _) (by unfold maxLen; omega) (by omega) HBS.out ?_; intro v1 w1 hin1 hg1)
    have u1 : Up w w1 := Below.grown ((Up.refl w).alloc _) hg1 HBS.out (fun k9 hk9 => (World.ownsRow.lt HA.out k9 hk9).1)
    have HU1 : Hid (Up w w1) := u1
    have HL2A : Hid (LC w1 (.slice a2 m k2) 7 m (nvs bl)) := HL2.out.up u1
    obtain ⟨va, vc, rfl⟩ := row_val hin1
    have HI1 : Hid (w1.ownsRow w.heap.size 33 7 (.slice va (3 + n) vc) (3 + n) (nvs (one3 2) ++ nvs wh)) := hin1
    have HBS1 : Hid (w.heap.size ≤ w1.heap.size) := u1.size
    clear hin1 hg1 u1 HA HL1A HBS
    go_wp2_with (at_builtin; refine wpList_append_lc (by rfl) (.tmp 18) (.tmp 19) 22 (by rfl) w.heap.size 33 iT _ 7 56 Try.underlying22 hiT z0 z1 z2 (by rfl) (by decide) (.slice va (3 + n) vc) (3 + n) (nvs (one3 2) ++ nvs wh) (by rfl) HI1.out (.slice a2 m k2) m (nvs bl) (by rfl) HL2A.out (nvs_one _) (by unfold maxLen; omega) (by omega) HBS1.out ?_; intro v2 w2 hin2 hg2)
    have HU2 : Hid (Up w w2) := Below.grown HU1.out hg2 HBS1.out (fun k9 hk9 => (World.ownsRow.lt HI1.out k9 hk9).1)
    have HI2 : Hid (w2.ownsRow w.heap.size 33 7 v2 (oneL wh bl).length (nvs (oneL wh bl))) := by
      unfold Hid
      rw [HE.out, nvs_app, nvs_app, List.length_append, List.length_append, ← HN.out, ← HM.out]
      exact hin2
    clear hin2 hg2
    go_wp2_with fail
    rw [HPo.out]
    exact ⟨_, rfl, HI2.out, HU2.out⟩
end TR
end Go.Proofs.Ytgahdppcdeefaaa
