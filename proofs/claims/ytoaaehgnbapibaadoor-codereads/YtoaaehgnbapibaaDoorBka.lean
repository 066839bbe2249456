
/-
  An append of one element to a row of the call's own, elements of whatever size: what stays, and where it lies.
-/
import Derived.Test.YtoaaehgnbapibaaDoorBz
import Derived.OwnWalk
namespace Go.Proofs.YtoaaehgnbapibaaDoor.BG
open Go.RowKit

/- what an append keeps: every cell but the row's own spare room -/
def KeptS (v : Value) (m : Nat) (w w' : World) : Prop := ∀ (g k : Nat) (x : Value), w.cell? ⟨g, k, none⟩ = some x → (v.ownBlock = some g → k < m) → w'.cell? ⟨g, k, none⟩ = some x
/- where the longer row lies: in its block, or in a new one -/
def LiesNew (v v' : Value) (w : World) : Prop := v'.ownBlock = v.ownBlock ∨ ∃ g, v'.ownBlock = some g ∧ w.heap.size ≤ g
/- the blocks keep their types -/
def TyK (w w' : World) : Prop := ∀ (g : Nat) (cur : Array Value) (t : Nat), w.heap[g]? = some (.cells cur t (0, 0)) → ∃ cur', w'.heap[g]? = some (.cells cur' t (0, 0))
theorem run_append_apart {P : Program} (w : World) (base : Nat) (t ty e : TypeId) (i : TypeInfo) (z : Value) (size bytes : Nat) (ht : P.underlying t = some (.slice e)) (hi : P.info? e = some i) (hz : i.zero = some z)
    (hsize : i.size = size) (hby : i.bytes = bytes) (hzs : z.cells.size = size) (hsz : 0 < size)
    (v : Value) (n : Nat) (xs : List Value) (hown : w.ownsRow base e size v n xs)
    (a : Addr) (c : Nat) (ys : List Value) (hys : ys.length = size) (hnews : ∀ j u, ys[j]? = some u → w.cell? (a.add j) = some u) (hone : ∀ u ∈ ys, u.oneCell' = true)
    (h63 : n + 1 ≤ maxLen) (hbytes : (n + 1) * bytes ≤ 140737488355328) (hbase : base ≤ w.heap.size) :
    ∃ v' w', (Builtin.append_ #[t, t] ty #[v, .slice (some a) 1 c]).run P w = .ok v' w' ∧ w'.ownsRow base e size v' (n + 1) (xs ++ ys) ∧ w.grownBy w' v.ownBlock ∧ KeptS v (n * size) w w' ∧ LiesNew v v' w ∧ TyK w w' := by
  subst hby
  subst hsize
  obtain ⟨v', w', hr, h2, h3, _⟩ := run_append_own (P := P) w base t ty e i z i.size i.bytes ht hi hz rfl rfl hzs hsz v n xs hown a 1 c ys (by rw [hys]; simp) hnews hone h63 hbytes hbase
  refine ⟨v', w', hr, h2, h3, ?_⟩
  rcases hown.2 with ⟨rfl, rfl⟩ | ⟨g', cap, cur, rfl, hbg, hgc, hnc, hcm, hcs, htake⟩
  · obtain ⟨v9, w9, hr9, h9, _, _⟩ := run_append_own (P := P) w w.heap.size t ty e i z i.size i.bytes ht hi hz rfl rfl hzs hsz (.slice none 0 0) 0 [] (World.ownsRow_nil _ _ _ _) a 1 c ys (by rw [hys]; simp) hnews hone h63 hbytes (Nat.le_refl _)
    rw [hr] at hr9
    cases hr9
    refine ⟨fun g k x hx _ => ?_, .inr ?_, fun g cur t hg => ⟨cur, by rw [h3.block g (Array.getElem?_eq_some_iff.1 hg).1 (fun e => by cases e)]; exact hg⟩⟩
    · have hgl : g < w.heap.size := World.block_lt_of_cell? w ⟨g, k, none⟩ hx
      rw [World.cell?_of_block (w := w) (w' := w') (a := ⟨g, k, none⟩) (h3.block g hgl (fun e => by cases e))]
      exact hx
    · rcases h9.2 with ⟨-, h0⟩ | ⟨g, cap, cur, rfl, hb, _⟩
      · omega
      · exact ⟨g, rfl, hb⟩
  · by_cases hroom : n + 1 ≤ cap
    · have hr2 := run_append_room (P := P) w t ty e i ht hi g' n cap cur hgc a 1 c ys (by rw [hys]; simp) hnews hone hroom (by rw [hcs]; exact Nat.le_trans (by rw [hys, Nat.succ_mul]; exact Nat.le_refl _) (Nat.mul_le_mul_right _ hroom))
      rw [hr] at hr2
      cases hr2
      refine ⟨fun g k x hx hlt => ?_, .inl rfl, fun g cur9 t hg => ?_⟩
      rotate_left
      · by_cases hgg : g = g'
        · subst hgg
          rw [hgc] at hg
          cases hg
          exact ⟨_, setRow_heap w g cur _ e _ hgc⟩
        · exact ⟨cur9, by rw [h3.block g (Array.getElem?_eq_some_iff.1 hg).1 (fun e => hgg (by simpa [Value.ownBlock] using e))]; exact hg⟩
      by_cases hg : g = g'
      · subst hg
        have hk := hlt rfl
        have hcell : w.cell? ⟨g, k, none⟩ = cur[k]? := by simp [World.cell?, hgc]
        rw [hcell] at hx
        have hrow := setRow_heap w g cur (cur.toList.take (n * i.size) ++ ys ++ cur.toList.drop (n * i.size + ys.length)).toArray e _ hgc
        simp only [World.cell?, hrow]
        have hkl : k < cur.size := (Array.getElem?_eq_some_iff.1 hx).1
        rw [← hx]
        simp only [List.getElem?_toArray]
        rw [List.append_assoc, List.getElem?_append_left (by simp; omega), List.getElem?_take_of_lt (by omega), Array.getElem?_toList]
        rfl
      · have hgl : g < w.heap.size := World.block_lt_of_cell? w ⟨g, k, none⟩ hx
        rw [World.cell?_of_block (w := w) (a := ⟨g, k, none⟩) (h3.block g hgl (fun e => hg (by simpa [Value.ownBlock] using e)))]
        exact hx
    · have holds : ∀ j u, xs[j]? = some u → w.cell? ((⟨g', 0, none⟩ : Addr).add j) = some u := hown.cells (g := g') rfl
      have hr2 := run_append_grow (P := P) w t ty e i z ht hi hz ⟨g', 0, none⟩ n cap xs hown.1 holds a 1 c ys (by rw [hys]; simp) hnews (by omega) (by simp only [maxLen] at h63; omega) (growslice_fits (by omega) hbytes)
      rw [hr] at hr2
      cases hr2
      refine ⟨fun g k x hx _ => ?_, .inr ⟨_, rfl, Nat.le_refl _⟩, fun g cur9 t hg => ⟨cur9, by rw [Below.heap_alloc w.drew _ g (Array.getElem?_eq_some_iff.1 hg).1]; exact hg⟩⟩
      have hgl : g < w.heap.size := World.block_lt_of_cell? w ⟨g, k, none⟩ hx
      rw [World.cell?_of_block (w := w) (a := ⟨g, k, none⟩) (Below.heap_alloc w.drew _ g hgl)]
      exact hx
theorem wpList_append_apart {P : Program} (w : World) {ops : Array Oper} {rest : List Oper} {o : Oper} {a : Act} {Q : Exit → Act → World → Prop} (hgd : o.guard = none) (s x : Operand) (t : TypeId)
    (ho : o.op = .call { callee := .builtin .append, args := #[s, x], argTypes := #[t, t] })
    (base : Nat) (e : TypeId) (i : TypeInfo) (z : Value) (size bytes : Nat) (ht : P.underlying t = some (.slice e)) (hi : P.info? e = some i) (hz : i.zero = some z)
    (hsize : i.size = size) (hby : i.bytes = bytes) (hzs : z.cells.size = size) (hsz : 0 < size)
    (v : Value) (n : Nat) (xs : List Value) (hs : a.eval s = v) (hown : w.ownsRow base e size v n xs)
    (ad : Addr) (c : Nat) (ys : List Value) (hx : a.eval x = .slice (some ad) 1 c) (hys : ys.length = size) (hnews : ∀ j u, ys[j]? = some u → w.cell? (ad.add j) = some u) (hone : ∀ u ∈ ys, u.oneCell' = true)
    (h63 : n + 1 ≤ maxLen) (hbytes : (n + 1) * bytes ≤ 140737488355328) (hbase : base ≤ w.heap.size)
    (h : ∀ v' w', w'.ownsRow base e size v' (n + 1) (xs ++ ys) → w.grownBy w' v.ownBlock → KeptS v (n * size) w w' → LiesNew v v' w → TyK w w' → wpList P ops Q rest (a.put o.dst v') w') : wpList P ops Q (o :: rest) a w := by
  refine wpList_plain hgd fun _ hK => ?_
  obtain ⟨v', w', hr, h2, h3, h4, h5, h6⟩ := run_append_apart (P := P) w base t o.type e i z size bytes ht hi hz hsize hby hzs hsz v n xs hown ad c ys hys hnews hone h63 hbytes hbase
  unfold Oper.wp execOp
  simp only [ho, resolve, invoke, builtin, Sem.run_bind, Sem.run_pure, Result.andThen_ok, List.map_toArray, List.map_cons, List.map_nil, hs, hx, hr]
  exact hK _ _ (h v' w' h2 h3 h4 h5 h6)
end Go.Proofs.YtoaaehgnbapibaaDoor.BG
