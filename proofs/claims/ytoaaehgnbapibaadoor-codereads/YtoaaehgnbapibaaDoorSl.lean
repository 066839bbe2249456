
/-
  A list cut at its end, as one step of a walk.
-/
import Derived.Test.YtoaaehgnbapibaaDoorLc
namespace Go.Proofs.YtoaaehgnbapibaaDoor
open Go.RowKit

theorem wpList_slice_h {P : Program} {w : World} {ops : Array Oper} {rest : List Oper} {o : Oper} {a : Act} {Q : Exit → Act → World → Prop} (hgd : o.guard = none) (t : TypeId) (x hi : Operand) (ho : o.op = .slice t x none (some hi) none)
    (e : TypeId) (size : Nat) (hu : P.underlying t = some (.slice e)) (hsz : (P.info? e).map (·.size) = some size) (ad : Option Addr) (n cap k : Nat) (hx : a.eval x = .slice ad n cap) (hk : a.eval hi = .int .i64 (k : Int)) (hle : k ≤ cap)
    (h : wpList P ops Q rest (a.put o.dst (.slice ad k cap)) w) : wpList P ops Q (o :: rest) a w := by
  refine wpList_plain hgd fun K hK => ?_
  have hrun : (Instr.sliceAt t (.slice ad n cap) none (some (.int .i64 (k : Int))) none).run P w = .ok (.slice ad k cap) w := by
    have hadd : ∀ z : Addr, z.add 0 = z := fun z => by cases z with | mk b o s => cases s <;> rfl
    cases hq : P.info? e with
    | none => simp [hq] at hsz
    | some i =>
      simp only [Instr.sliceAt, Sem.run_bind, run_underlying hu, Result.andThen]
      simp [Instr.slice, run_underlying hu, Instr.sliceBounds, run_sliceBound, sizeOf, typeInfo, hq, hle]
      cases ad <;> simp [hadd]
  unfold Oper.wp execOp
  simp only [ho, Option.map, hx, hk, Sem.run_bind, hrun, Result.andThen_ok, Sem.run_pure]
  exact hK _ _ h
theorem wpList_slice_l {P : Program} {w : World} {ops : Array Oper} {rest : List Oper} {o : Oper} {a : Act} {Q : Exit → Act → World → Prop} (hgd : o.guard = none) (t : TypeId) (x lo : Operand) (ho : o.op = .slice t x (some lo) none none)
    (e : TypeId) (size : Nat) (hu : P.underlying t = some (.slice e)) (hsz : (P.info? e).map (·.size) = some size) (ad : Option Addr) (n cap k : Nat) (hx : a.eval x = .slice ad n cap) (hk : a.eval lo = .int .i64 (k : Int)) (hle : k ≤ n) (hnc : n ≤ cap)
    (h : ∀ ad', (k < n → ad' = ad.map (·.add (k * size))) → wpList P ops Q rest (a.put o.dst (.slice ad' (n - k) (cap - k))) w) : wpList P ops Q (o :: rest) a w := by
  refine wpList_plain hgd fun K hK => ?_
  have hrun : (Instr.sliceAt t (.slice ad n cap) (some (.int .i64 (k : Int))) none none).run P w = .ok (.slice (if cap = k then ad else ad.map (·.add (k * size))) (n - k) (cap - k)) w := by
    cases hq : P.info? e with
    | none => simp [hq] at hsz
    | some i =>
      have hi : i.size = size := by simpa [hq] using hsz
      simp only [Instr.sliceAt, Sem.run_bind, run_underlying hu, Result.andThen]
      simp [Instr.slice, run_underlying hu, Instr.sliceBounds, run_sliceBound, sizeOf, typeInfo, hq, hle, hi]
  unfold Oper.wp execOp
  simp only [ho, Option.map, hx, hk, Sem.run_bind, hrun, Result.andThen_ok, Sem.run_pure]
  exact hK _ _ (h _ (fun hlt => if_neg (by omega)))
theorem src_take {w w1 : World} {b off n : Nat} {cs c : List Value} (h : ∀ j x, cs[j]? = some x → w.cell? ⟨b, off + j, none⟩ = some x) (u : Up w w1) (hc : c = cs.take n) : ∀ j v, c[j]? = some v → w1.cell? ((⟨b, off, none⟩ : Addr).add j) = some v := by
  intro j v hv
  rw [Addr.add_mid]
  refine u.cell (h j v ?_)
  rw [hc, List.getElem?_take] at hv
  split at hv
  · exact hv
  · cases hv
theorem src_drop {w w1 : World} {b off n : Nat} {cs c : List Value} (h : ∀ j x, cs[j]? = some x → w.cell? ⟨b, off + j, none⟩ = some x) (u : Up w w1) (hc : c = cs.drop n) : ∀ j v, c[j]? = some v → w1.cell? ((⟨b, off + n, none⟩ : Addr).add j) = some v := by
  intro j v hv
  rw [Addr.add_mid, Nat.add_assoc]
  refine u.cell (h (n + j) v ?_)
  rw [hc, List.getElem?_drop] at hv
  exact hv
theorem run_copy0 {P : Program} (w : World) (dT sT ty elem : TypeId) (size : Nat) (hu : P.underlying dT = some (.slice elem)) (hsz : (P.info? elem).map (·.size) = some size) (dp sp : Option Addr) (dLen dCap sCap : Nat) :
    (Builtin.copy_ #[dT, sT] ty #[.slice dp dLen dCap, .slice sp 0 sCap]).run P w = .ok (goInt 0) w := by
  cases hq : P.info? elem with
  | none => simp [hq] at hsz
  | some i =>
    have hm : Nat.min 0 dLen = 0 := Nat.zero_min _
    have hl0 : ∀ (x : Addr), (loadCells x 0).run P w = .ok #[] w := fun x => by simpa using run_loadCells_list (P := P) w x [] (by simp)
    cases sp <;> cases dp <;> simp [Builtin.copy_, run_underlying hu, Builtin.lenOf, Builtin.firstCells, sizeOf, typeInfo, hq, hm, storeCells, hl0]
theorem made_up {w w1 : World} (h : w.grownBy w1 none) : Up w w1 := Below.grown (Up.refl _) h (Nat.le_refl _) (fun k hk => by cases hk)
end Go.Proofs.YtoaaehgnbapibaaDoor
