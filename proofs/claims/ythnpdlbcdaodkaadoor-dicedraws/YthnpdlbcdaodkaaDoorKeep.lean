/-
  An append to a row of the call's own, and what stays: every cell that lay there, but for the row's own spare room.
-/
import Derived.Test.YthnpdlbcdaodkaaDoorBag
import Derived.OwnWalk
namespace Go.Proofs.YthnpdlbcdaodkaaDoor
open Go.RowKit

/- what an append keeps -/
def Kept (v : Value) (n : Nat) (w w' : World) : Prop := ∀ (g k : Nat) (x : Value), w.cell? ⟨g, k, none⟩ = some x → (v.ownBlock = some g → k < n) → w'.cell? ⟨g, k, none⟩ = some x
theorem run_append_keep {P : Program} (w : World) (base : Nat) (t ty e : TypeId) (i : TypeInfo) (z : Value) (bytes : Nat) (ht : P.underlying t = some (.slice e)) (hi : P.info? e = some i) (hz : i.zero = some z)
    (hsize : i.size = 1) (hby : i.bytes = bytes) (hzs : z.cells.size = 1)
    (v : Value) (n : Nat) (xs : List Value) (hown : w.ownsRow base e 1 v n xs)
    (a : Addr) (c : Nat) (y : Value) (hnew : w.cell? a = some y) (h1 : y.oneCell' = true)
    (h63 : n + 1 ≤ maxLen) (hbytes : (n + 1) * bytes ≤ 140737488355328) (hbase : base ≤ w.heap.size) :
    ∃ v' w', (Builtin.append_ #[t, t] ty #[v, .slice (some a) 1 c]).run P w = .ok v' w' ∧ w'.ownsRow base e 1 v' (n + 1) (xs ++ [y]) ∧ w.grownBy w' v.ownBlock ∧ Kept v n w w' := by
  subst hby
  have hnews : ∀ j u, [y][j]? = some u → w.cell? (a.add j) = some u := by
    intro j u hj
    cases j with
    | zero => simp at hj; subst hj; simpa [Addr.add] using hnew
    | succ j => simp at hj
  have hone : ∀ u ∈ [y], u.oneCell' = true := by intro u hu; simp at hu; subst hu; exact h1
  obtain ⟨v', w', hr, h2, h3, _⟩ := run_append_own (P := P) w base t ty e i z 1 i.bytes ht hi hz hsize rfl hzs (by decide) v n xs hown a 1 c [y] rfl hnews hone h63 hbytes hbase
  refine ⟨v', w', hr, h2, h3, ?_⟩
  intro g k x hx hlt
  have hgl : g < w.heap.size := World.block_lt_of_cell? w ⟨g, k, none⟩ hx
  by_cases hg : v.ownBlock = some g
  · rcases hown.2 with ⟨rfl, rfl⟩ | ⟨g', cap, cur, rfl, hbg, hgc, hnc, hcm, hcs, htake⟩
    · cases hg
    · cases hg
      have hk := hlt rfl
      by_cases hroom : n + 1 ≤ cap
      · have hr2 := run_append_room (P := P) w t ty e i ht hi g' n cap cur hgc a 1 c [y] (by rw [hsize]; rfl) hnews hone hroom (by rw [hsize, hcs]; simp; omega)
        rw [hr] at hr2
        cases hr2
        rw [hsize, Nat.mul_one]
        have hcell : w.cell? ⟨g', k, none⟩ = cur[k]? := by simp [World.cell?, hgc]
        rw [hcell] at hx
        have hrow := setRow_heap w g' cur (cur.toList.take n ++ [y] ++ cur.toList.drop (n + [y].length)).toArray e _ hgc
        simp only [World.cell?, hrow]
        have hkl : k < cur.size := (Array.getElem?_eq_some_iff.1 hx).1
        rw [← hx]
        simp only [List.getElem?_toArray]
        rw [List.append_assoc, List.getElem?_append_left (by simp; omega), List.getElem?_take_of_lt (by omega), Array.getElem?_toList]
        rfl
      · have holds : ∀ j u, xs[j]? = some u → w.cell? ((⟨g', 0, none⟩ : Addr).add j) = some u := hown.cells (g := g') rfl
        have hr2 := run_append_grow (P := P) w t ty e i z ht hi hz ⟨g', 0, none⟩ n cap xs (by rw [hsize]; exact hown.1) holds a 1 c [y] (by rw [hsize]; rfl) hnews (by omega) (by simp only [maxLen] at h63; omega) (growslice_fits (by omega) hbytes)
        rw [hr] at hr2
        cases hr2
        have : (w.drew.alloc (.cells (xs.toArray ++ [y].toArray ++ Builtin.zeroCells z.cells (grownCap w (n + 1) cap e - (n + 1))) e)).cell? ⟨g', k, none⟩ = w.cell? ⟨g', k, none⟩ := World.cell?_of_block (w := w) (Below.heap_alloc w.drew _ g' hgl)
        rw [this]; exact hx
  · rw [World.cell?_of_block (w := w) (w' := w') (a := ⟨g, k, none⟩) (h3.block g hgl (fun e => hg e.symm))]
    exact hx
theorem wpList_append_keep {P : Program} (w : World) {ops : Array Oper} {rest : List Oper} {o : Oper} {a : Act} {Q : Exit → Act → World → Prop} (hgd : o.guard = none) (s x : Operand) (t : TypeId)
    (ho : o.op = .call { callee := .builtin .append, args := #[s, x], argTypes := #[t, t] })
    (base : Nat) (e : TypeId) (i : TypeInfo) (z : Value) (bytes : Nat) (ht : P.underlying t = some (.slice e)) (hi : P.info? e = some i) (hz : i.zero = some z)
    (hsize : i.size = 1) (hby : i.bytes = bytes) (hzs : z.cells.size = 1)
    (v : Value) (n : Nat) (xs : List Value) (hs : a.eval s = v) (hown : w.ownsRow base e 1 v n xs)
    (ad : Addr) (c : Nat) (y : Value) (hx : a.eval x = .slice (some ad) 1 c) (hnew : w.cell? ad = some y) (h1 : y.oneCell' = true)
    (h63 : n + 1 ≤ maxLen) (hbytes : (n + 1) * bytes ≤ 140737488355328) (hbase : base ≤ w.heap.size)
    (h : ∀ v' w', w'.ownsRow base e 1 v' (n + 1) (xs ++ [y]) → w.grownBy w' v.ownBlock → Kept v n w w' → wpList P ops Q rest (a.put o.dst v') w') : wpList P ops Q (o :: rest) a w := by
  refine wpList_plain hgd fun _ hK => ?_
  obtain ⟨v', w', hr, h2, h3, h4⟩ := run_append_keep (P := P) w base t o.type e i z bytes ht hi hz hsize hby hzs v n xs hown ad c y hnew h1 h63 hbytes hbase
  unfold Oper.wp execOp
  simp only [ho, resolve, invoke, builtin, Sem.run_bind, Sem.run_pure, Result.andThen_ok, List.map_toArray, List.map_cons, List.map_nil, hs, hx, hr]
  exact hK _ _ (h v' w' h2 h3 h4)
theorem row_valB {w : World} {base e n : Nat} {v : Value} {xs : List Value} (h : w.ownsRow base e 1 v n xs) : ∃ ad cap, v = .slice ad n cap := by
  rcases h.2 with ⟨rfl, hn⟩ | ⟨g, cap, cur, rfl, _⟩
  · exact ⟨none, 0, by rw [hn]⟩
  · exact ⟨_, cap, rfl⟩
/- a mark of its own for a place of the list n -/
def numN (n i : Nat) : Nat := 1048576 * n + i + 1
theorem num (n i : Nat) (w : World) (hn : n ≤ 1000) (hi : i ≤ 1000000) :
    Calls Tryd.prog 56 #[.int .i64 n, .int .i64 i] w fun e w' => e = .returned (.int .i64 (numN n i : Nat)) ∧ w' = w := by
  go_enter Tryd.func56, Tryd.ntmps56
  go_wp2
  go_ret
  refine ⟨ret_int ?_, rfl⟩
  unfold numN
  omega
end Go.Proofs.YthnpdlbcdaodkaaDoor
