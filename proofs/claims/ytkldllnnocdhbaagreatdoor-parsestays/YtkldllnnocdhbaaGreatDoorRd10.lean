/-
  A list that may be parsed is read.
-/
import Derived.Test.YtkldllnnocdhbaaGreatDoorRh10
import Derived.WalkLawsBesides
import Derived.LaidEql
import Derived.Stop.Asserts
import Derived.RowKitTokens
import Derived.Test.YtkldllnnocdhbaaGreatDoorWk10
import Derived.RegionTactic
import Derived.ChangeAlike
namespace Go.Proofs.YtkldllnnocdhbaaGreatDoor
open Go.RowKit Go.Extern.Stop Go.Stop Go.Extern
attribute [local go_sem ↓] Go.wp_at_zero Go.wp_at_succ
namespace TP
set_option maxRecDepth 100000 in
set_option maxHeartbeats 4000000 in
theorem as_nil (t : Value) (w : World) : Calls Tryz.prog 71 #[.nilIface, t] w fun r w' => r = .returned (.bool false) ∧ w' = w := by
  go_enter Tryz.func71, Tryz.ntmps71
  go_wp2_with fail
  go_ret
  exact ⟨rfl, rfl⟩
theorem valueOfP (t : Addr) (w : World) : (ReflectliteValue.unpack (.iface 100 (.pointer (some t)))).run Tryz.prog w = .ok (.agg #[.pointer (some ⟨4, 100, none⟩), .pointer (some ⟨w.heap.size, 0, none⟩), .int .u64 150]) (w.alloc (.cells #[.pointer (some t)] 100)) := by kernel_rfl
theorem typeP (a : Addr) (w : World) : (ReflectliteValue.methodAny (ReflectliteValue.valueError "reflectlite.Value.Type" 0) (fun t _ _ _ => ReflectliteType.toType t) #[.agg #[.pointer (some ⟨4, 100, none⟩), .pointer (some a), .int .u64 150]]).run Tryz.prog w = .ok (.iface 181 (.agg #[.pointer (some ⟨4, 100, none⟩)])) w := by kernel_rfl
theorem methodKind (h : Value) (w : World) : (Go.method 351 181 (.agg #[h]) "Kind").run Tryz.prog w = .ok (221, h) w := by kernel_rfl
theorem kindP (w : World) : ((ReflectliteType.abiMethod fun t => (fun a : Nat => Value.int IntKind.u8 (a : Int)) <$> Rtype.kind t) #[.pointer (some ⟨4, 100, none⟩)]).run Tryz.prog w = .ok (.int .u8 22) w := by kernel_rfl
theorem kindF (w : World) : ((ReflectliteType.abiMethod fun t => (fun a : Nat => Value.int IntKind.u8 (a : Int)) <$> Rtype.kind t) #[.pointer (some ⟨4, 98, none⟩)]).run Tryz.prog w = .ok (.int .u8 25) w := by kernel_rfl
theorem rlm (z : Sem Value) (f : TypeId → Addr → Nat → Nat → Sem Value) (v : Value) : ReflectliteValue.method z f #[v] = (do match ← ReflectliteValue.parts v with | none => z | some (t, a, fl) => f t a fl (fl % 32)) := rfl
theorem partsP (a : Addr) (w : World) : (ReflectliteValue.parts (.agg #[.pointer (some ⟨4, 100, none⟩), .pointer (some a), .int .u64 150])).run Tryz.prog w = .ok (some (100, a, 150)) w := by kernel_rfl
theorem isNilP (a p : Addr) (W : World) (ha : W.cell? a = some (.pointer (some p))) :
    (ReflectliteValue.method (ReflectliteValue.valueError "reflectlite.Value.IsNil" 0) ReflectliteValue.isNil #[.agg #[.pointer (some ⟨4, 100, none⟩), .pointer (some a), .int .u64 150]]).run Tryz.prog W = .ok (.bool false) W := by
  rw [rlm]
  simp only [Sem.run_bind, partsP, Result.andThen]
  simp [ReflectliteValue.isNil, loadVar, isAgg, underlying, Tryz.underlying100, ha, Result.andThen]
theorem methodElem (h : Value) (w : World) : (Go.method 351 181 (.agg #[h]) "Elem").run Tryz.prog w = .ok (231, .agg #[h]) w := by kernel_rfl
theorem methodImplements (h : Value) (w : World) : (Go.method 351 181 (.agg #[h]) "Implements").run Tryz.prog w = .ok (232, .agg #[h]) w := by kernel_rfl
theorem methodAssignableTo (h : Value) (w : World) : (Go.method 351 181 (.agg #[h]) "AssignableTo").run Tryz.prog w = .ok (229, .agg #[h]) w := by kernel_rfl
theorem elemP (w : World) : (ReflectliteType.method ReflectliteType.elem #[.agg #[.pointer (some ⟨4, 100, none⟩)]]).run Tryz.prog w = .ok (.iface 181 (.agg #[.pointer (some ⟨4, 98, none⟩)])) w := by kernel_rfl
theorem implementsF (w : World) : (ReflectliteType.relation "Implements" ReflectliteType.implements_ #[.agg #[.pointer (some ⟨4, 98, none⟩)], .iface 181 (.agg #[.pointer (some ⟨4, 93, none⟩)])]).run Tryz.prog w = .ok (.bool true) w := by kernel_rfl
theorem typeOfF (v : Value) (w : World) : (ReflectliteType.typeOf #[.iface 98 v]).run Tryz.prog w = .ok (.iface 181 (.agg #[.pointer (some ⟨4, 98, none⟩)])) w := by kernel_rfl
theorem assignableF (w : World) : (ReflectliteType.relation "AssignableTo" ReflectliteType.assignableTo #[.agg #[.pointer (some ⟨4, 98, none⟩)], .iface 181 (.agg #[.pointer (some ⟨4, 98, none⟩)])]).run Tryz.prog w = .ok (.bool true) w := by kernel_rfl
theorem valueOfF (er pp : Int) (w : World) : (ReflectliteValue.unpack (.iface 98 (.agg #[.int .i64 er, .int .i64 pp]))).run Tryz.prog w = .ok (.agg #[.pointer (some ⟨4, 98, none⟩), .pointer (some ⟨w.heap.size, 0, none⟩), .int .u64 153]) (w.alloc (.cells #[.int .i64 er, .int .i64 pp] 98)) := by kernel_rfl
theorem elemOfP (w : World) : (Rtype.elem? 100).run Tryz.prog w = .ok (some 98) w := by kernel_rfl
theorem mkF (p : Addr) (w : World) : (ReflectliteValue.mk 98 p ReflectliteValue.flagAddr).run Tryz.prog w = .ok (.agg #[.pointer (some ⟨4, 98, none⟩), .pointer (some p), .int .u64 409]) w := by kernel_rfl
theorem elemVP (a p : Addr) (W : World) (ha : W.cell? a = some (.pointer (some p))) :
    (ReflectliteValue.method (ReflectliteValue.valueError "reflectlite.Value.Elem" 0) ReflectliteValue.elem #[.agg #[.pointer (some ⟨4, 100, none⟩), .pointer (some a), .int .u64 150]]).run Tryz.prog W = .ok (.agg #[.pointer (some ⟨4, 98, none⟩), .pointer (some p), .int .u64 409]) W := by
  rw [rlm]
  simp only [Sem.run_bind, partsP, Result.andThen]
  simp [ReflectliteValue.elem, loadVar, isAgg, underlying, Tryz.underlying100, ha, Result.andThen, elemOfP, mkF]
theorem rls (v x : Value) : ReflectliteValue.set #[v, x] = (do
    let (some (dst, a, fl), some (src, b, _)) := (← ReflectliteValue.parts v, ← ReflectliteValue.parts x)
      | unsupported (.noEntry "extern/(internal/reflectlite.Value).Set.zeroValue")
    if fl / ReflectliteValue.flagAddr % 2 == 0 then unsupported (.noEntry "extern/(internal/reflectlite.Value).Set.unaddressable")
    let val ← loadVar src b
    if ← Rtype.directlyAssignable dst src then storeVar dst a val
    else if ← Rtype.implements dst src then
      if (← Rtype.kind src) == 20 then
        match val with
        | .nilIface => unsupported (.noEntry "extern/reflectlite: a nil value of one interface type handed on as a value of another")
        | _ => storeVar dst a val
      else storeVar dst a (.iface src val)
    else panicString ("reflectlite.Set: value of type " ++ (← Rtype.spelt src) ++ " is not assignable to type " ++ (← Rtype.spelt dst))
    pure (.tuple #[])) := rfl
theorem partsFa (a : Addr) (w : World) : (ReflectliteValue.parts (.agg #[.pointer (some ⟨4, 98, none⟩), .pointer (some a), .int .u64 409])).run Tryz.prog w = .ok (some (98, a, 409)) w := by kernel_rfl
theorem partsF (a : Addr) (w : World) : (ReflectliteValue.parts (.agg #[.pointer (some ⟨4, 98, none⟩), .pointer (some a), .int .u64 153])).run Tryz.prog w = .ok (some (98, a, 153)) w := by kernel_rfl
theorem directF (w : World) : (Rtype.directlyAssignable 98 98).run Tryz.prog w = .ok true w := by kernel_rfl
theorem infoF : (Tryz.prog.info? 98).map (·.size) = some 2 := by kernel_rfl
theorem setF (g b : Nat) (er pp o0 o1 : Int) (W : World) (hb : W.heap[b]? = some (.cells #[.int .i64 er, .int .i64 pp] 98 (0, 0))) (ht : W.heap[g]? = some (.cells #[.int .i64 o0, .int .i64 o1] 98 (0, 0))) :
    (ReflectliteValue.set #[.agg #[.pointer (some ⟨4, 98, none⟩), .pointer (some ⟨g, 0, none⟩), .int .u64 409], .agg #[.pointer (some ⟨4, 98, none⟩), .pointer (some ⟨b, 0, none⟩), .int .u64 153]]).run Tryz.prog W = .ok (.tuple #[]) ((W.setCell ⟨g, 0, none⟩ (.int .i64 er)).setCell ⟨g, 1, none⟩ (.int .i64 pp)) := by
  rw [rls]
  simp only [Sem.run_bind, partsFa, partsF, Result.andThen]
  have hl := run_loadVar_row (P := Tryz.prog) W b 98 98 #[.int .i64 er, .int .i64 pp] (0, 0) _ hb Tryz.underlying98 rfl infoF
  simp [ReflectliteValue.flagAddr, hl, Result.andThen, directF, storeVar, Value.cells, storeCells, Addr.add]
  have ht0 : W.cell? ⟨g, 0, none⟩ = some (.int .i64 o0) := by simp [World.cell?, ht]
  have hf0 : W.frozen? ⟨g, 0, none⟩ = false := by simp [World.frozen?, ht]
  have k1 := set_cells (j := 0) (x := .int .i64 er) ht
  have ht1 : (W.setCell ⟨g, 0, none⟩ (.int .i64 er)).cell? ⟨g, 1, none⟩ = some (.int .i64 o1) := by simp [World.cell?, k1]
  have hf1 : (W.setCell ⟨g, 0, none⟩ (.int .i64 er)).frozen? ⟨g, 1, none⟩ = false := by simp [World.frozen?, k1]
  rw [run_store Tryz.prog W ⟨g, 0, none⟩ _ _ (by rfl)]
  simp only [ht0, hf0, Bool.false_eq_true, if_false]
  rw [run_store Tryz.prog _ ⟨g, 1, none⟩ _ _ (by rfl)]
  simp only [ht1, hf1, Bool.false_eq_true, if_false]
set_option maxRecDepth 100000 in
set_option maxHeartbeats 8000000 in
theorem as2_ (er pp o0 o1 : Int) (g a : Nat) (w : World) (ha : w.cell? ⟨a, 0, none⟩ = some (.pointer (some ⟨g, 0, none⟩))) (ht : w.heap[g]? = some (.cells #[.int .i64 o0, .int .i64 o1] 98 (0, 0))) :
    Calls Tryz.prog 109 #[.iface 98 (.agg #[.int .i64 er, .int .i64 pp]), .iface 100 (.pointer (some ⟨g, 0, none⟩)), .agg #[.pointer (some ⟨4, 100, none⟩), .pointer (some ⟨a, 0, none⟩), .int .u64 150], .iface 181 (.agg #[.pointer (some ⟨4, 98, none⟩)])] w fun r w' => r = .returned (.bool true) ∧ w' = ((((w.alloc (.cells #[.pointer (some ⟨4, 100, none⟩), .pointer (some ⟨a, 0, none⟩), .int .u64 150] 159)).alloc (.cells #[.int .i64 er, .int .i64 pp] 98)).setCell ⟨g, 0, none⟩ (.int .i64 er)).setCell ⟨g, 1, none⟩ (.int .i64 pp)) := by
  have h6 := @run_callFunc_extern Tryz.prog 106 _ (fun args => ReflectliteValue.unpack (args.getD 0 (.tuple #[]))) Tryz.func106 (by kernel_rfl) (by kernel_rfl) (by kernel_rfl) (by kernel_rfl)
  have h7 := @run_callFunc_extern Tryz.prog 107 _ (ReflectliteValue.methodAny (ReflectliteValue.valueError "reflectlite.Value.Type" 0) (fun t _ _ _ => ReflectliteType.toType t)) Tryz.func107 (by kernel_rfl) (by kernel_rfl) (by kernel_rfl) (by kernel_rfl)
  have h8 := @run_callFunc_extern Tryz.prog 108 _ (ReflectliteValue.method (ReflectliteValue.valueError "reflectlite.Value.IsNil" 0) ReflectliteValue.isNil) Tryz.func108 (by kernel_rfl) (by kernel_rfl) (by kernel_rfl) (by kernel_rfl)
  have h27 := @run_callFunc_extern Tryz.prog 221 _ (ReflectliteType.abiMethod fun t => do pure (.int .u8 (← Rtype.kind t))) Tryz.func221 (by kernel_rfl) (by kernel_rfl) (by kernel_rfl) (by kernel_rfl)
  have h37 := @run_callFunc_extern Tryz.prog 231 _ (ReflectliteType.method ReflectliteType.elem) Tryz.func231 (by kernel_rfl) (by kernel_rfl) (by kernel_rfl) (by kernel_rfl)
  have h38 := @run_callFunc_extern Tryz.prog 232 _ (ReflectliteType.relation "Implements" ReflectliteType.implements_) Tryz.func232 (by kernel_rfl) (by kernel_rfl) (by kernel_rfl) (by kernel_rfl)
  have h10 := @run_callFunc_extern Tryz.prog 149 _ ReflectliteType.typeOf Tryz.func149 (by kernel_rfl) (by kernel_rfl) (by kernel_rfl) (by kernel_rfl)
  have h35 := @run_callFunc_extern Tryz.prog 229 _ (ReflectliteType.relation "AssignableTo" ReflectliteType.assignableTo) Tryz.func229 (by kernel_rfl) (by kernel_rfl) (by kernel_rfl) (by kernel_rfl)
  have h11 := @run_callFunc_extern Tryz.prog 150 _ (ReflectliteValue.method (ReflectliteValue.valueError "reflectlite.Value.Elem" 0) ReflectliteValue.elem) Tryz.func150 (by kernel_rfl) (by kernel_rfl) (by kernel_rfl) (by kernel_rfl)
  have h12 := @run_callFunc_extern Tryz.prog 151 _ ReflectliteValue.set Tryz.func151 (by kernel_rfl) (by kernel_rfl) (by kernel_rfl) (by kernel_rfl)
  have tO := typeOfF
  have mA := methodAssignableTo
  have aF := assignableF
  have vF := valueOfF
  have f6 := valueOfP
  have f7 := typeP
  have mK := methodKind
  have mE := methodElem
  have mI := methodImplements
  have kP := kindP
  have kF := kindF
  have eP := elemP
  have iF := implementsF
  have el := elemVP ⟨a, 0, none⟩ ⟨g, 0, none⟩ (w.alloc (.cells #[.pointer (some ⟨4, 100, none⟩), .pointer (some ⟨a, 0, none⟩), .int .u64 150] 159)) (((Up.refl w).alloc _).cell ha)
  have st := setF g (w.heap.size + 1) er pp o0 o1 ((w.alloc (.cells #[.pointer (some ⟨4, 100, none⟩), .pointer (some ⟨a, 0, none⟩), .int .u64 150] 159)).alloc (.cells #[.int .i64 er, .int .i64 pp] 98)) (by simpa using heap_alloc_new (w.alloc (.cells #[.pointer (some ⟨4, 100, none⟩), .pointer (some ⟨a, 0, none⟩), .int .u64 150] 159)) (.cells #[.int .i64 er, .int .i64 pp] 98)) ((((Up.refl w).alloc _).alloc _).heap ht)
  clear ht ha
  go_enter Tryz.func109, Tryz.ntmps109
  go_wp2_with fail
  refine wp_loop_rounds 1 ?_
  rw [rounds_succ]
  go_wp2_with fail
  go_ret
  exact ⟨rfl, rfl⟩
set_option maxRecDepth 100000 in
set_option maxHeartbeats 8000000 in
theorem as_hit (er pp o0 o1 : Int) (g : Nat) (w : World) (hg : w.cell? ⟨0, 0, none⟩ = some (.iface 181 (.agg #[.pointer (some ⟨4, 93, none⟩)]))) (ht : w.heap[g]? = some (.cells #[.int .i64 o0, .int .i64 o1] 98 (0, 0))) :
    Calls Tryz.prog 71 #[.iface 98 (.agg #[.int .i64 er, .int .i64 pp]), .iface 100 (.pointer (some ⟨g, 0, none⟩))] w fun r w' => r = .returned (.bool true) ∧ w' = ((((((w.alloc (.cells #[.pointer (some ⟨g, 0, none⟩)] 100)).alloc (.cells #[.pointer (some ⟨4, 100, none⟩), .pointer (some ⟨w.heap.size, 0, none⟩), .int .u64 150] 159)).alloc (.cells #[.pointer (some ⟨4, 100, none⟩), .pointer (some ⟨w.heap.size, 0, none⟩), .int .u64 150] 159)).alloc (.cells #[.int .i64 er, .int .i64 pp] 98)).setCell ⟨g, 0, none⟩ (.int .i64 er)).setCell ⟨g, 1, none⟩ (.int .i64 pp)) := by
  have h6 := @run_callFunc_extern Tryz.prog 106 _ (fun args => ReflectliteValue.unpack (args.getD 0 (.tuple #[]))) Tryz.func106 (by kernel_rfl) (by kernel_rfl) (by kernel_rfl) (by kernel_rfl)
  have h7 := @run_callFunc_extern Tryz.prog 107 _ (ReflectliteValue.methodAny (ReflectliteValue.valueError "reflectlite.Value.Type" 0) (fun t _ _ _ => ReflectliteType.toType t)) Tryz.func107 (by kernel_rfl) (by kernel_rfl) (by kernel_rfl) (by kernel_rfl)
  have h8 := @run_callFunc_extern Tryz.prog 108 _ (ReflectliteValue.method (ReflectliteValue.valueError "reflectlite.Value.IsNil" 0) ReflectliteValue.isNil) Tryz.func108 (by kernel_rfl) (by kernel_rfl) (by kernel_rfl) (by kernel_rfl)
  have h27 := @run_callFunc_extern Tryz.prog 221 _ (ReflectliteType.abiMethod fun t => do pure (.int .u8 (← Rtype.kind t))) Tryz.func221 (by kernel_rfl) (by kernel_rfl) (by kernel_rfl) (by kernel_rfl)
  have h37 := @run_callFunc_extern Tryz.prog 231 _ (ReflectliteType.method ReflectliteType.elem) Tryz.func231 (by kernel_rfl) (by kernel_rfl) (by kernel_rfl) (by kernel_rfl)
  have h38 := @run_callFunc_extern Tryz.prog 232 _ (ReflectliteType.relation "Implements" ReflectliteType.implements_) Tryz.func232 (by kernel_rfl) (by kernel_rfl) (by kernel_rfl) (by kernel_rfl)
  have h10 := @run_callFunc_extern Tryz.prog 149 _ ReflectliteType.typeOf Tryz.func149 (by kernel_rfl) (by kernel_rfl) (by kernel_rfl) (by kernel_rfl)
  have h35 := @run_callFunc_extern Tryz.prog 229 _ (ReflectliteType.relation "AssignableTo" ReflectliteType.assignableTo) Tryz.func229 (by kernel_rfl) (by kernel_rfl) (by kernel_rfl) (by kernel_rfl)
  have h11 := @run_callFunc_extern Tryz.prog 150 _ (ReflectliteValue.method (ReflectliteValue.valueError "reflectlite.Value.Elem" 0) ReflectliteValue.elem) Tryz.func150 (by kernel_rfl) (by kernel_rfl) (by kernel_rfl) (by kernel_rfl)
  have h12 := @run_callFunc_extern Tryz.prog 151 _ ReflectliteValue.set Tryz.func151 (by kernel_rfl) (by kernel_rfl) (by kernel_rfl) (by kernel_rfl)
  have tO := typeOfF
  have mA := methodAssignableTo
  have aF := assignableF
  have vF := valueOfF
  have f6 := valueOfP
  have f7 := typeP
  have mK := methodKind
  have mE := methodElem
  have mI := methodImplements
  have kP := kindP
  have kF := kindF
  have eP := elemP
  have iF := implementsF
  have hgl : g < w.heap.size := (Array.getElem?_eq_some_iff.1 ht).1
  have n8 := isNilP ⟨w.heap.size, 0, none⟩ ⟨g, 0, none⟩ ((w.alloc (.cells #[.pointer (some ⟨g, 0, none⟩)] 100)).alloc (.cells #[.pointer (some ⟨4, 100, none⟩), .pointer (some ⟨w.heap.size, 0, none⟩), .int .u64 150] 159)) (by simp)
  have hlt : 0 < w.heap.size := by
    rcases Nat.eq_zero_or_pos w.heap.size with h0 | h
    · simp [World.cell?, h0] at hg
    · exact h
  have hg2 : ((w.alloc (.cells #[.pointer (some ⟨g, 0, none⟩)] 100)).alloc (.cells #[.pointer (some ⟨4, 100, none⟩), .pointer (some ⟨w.heap.size, 0, none⟩), .int .u64 150] 159)).cell? ⟨0, 0, none⟩ = some (.iface 181 (.agg #[.pointer (some ⟨4, 93, none⟩)])) := by
    rw [World.cell?_alloc_lt _ _ ⟨0, 0, none⟩ (by simp), World.cell?_alloc_lt _ _ ⟨0, 0, none⟩ hlt]; exact hg
  have st := as2_ er pp o0 o1 g w.heap.size ((w.alloc (.cells #[.pointer (some ⟨g, 0, none⟩)] 100)).alloc (.cells #[.pointer (some ⟨4, 100, none⟩), .pointer (some ⟨w.heap.size, 0, none⟩), .int .u64 150] 159)) (by rw [World.cell?_alloc_lt _ _ ⟨w.heap.size, 0, none⟩ (by simp), World.cell?_alloc_at _ _ _ _ (by simp)]; rfl) ((((Up.refl w).alloc _).alloc _).heap ht)
  have HST : Hid _ := st
  clear ht st
  go_enter Tryz.func71, Tryz.ntmps71
  go_wp2_with fail
  refine Calls.mono HST.out ?_
  rintro r w9 ⟨rfl, rfl⟩
  go_wp2_with fail
  go_ret
  exact ⟨rfl, rfl⟩
end TP
end Go.Proofs.YtkldllnnocdhbaaGreatDoor
namespace Go.Proofs.YtkldllnnocdhbaaGreatDoor
open Go.RowKit
attribute [local go_sem ↓] Go.wp_at_zero Go.wp_at_succ
namespace TP
open TR (Nd Byt nums_inj)
open TK (Tok)
/- a list that may be parsed, where it lies -/
structure TL (W : World) (bt off n c : Nat) (l : List Tok) : Prop where
  len : n = l.length
  cap : n ≤ c
  pos : 0 < n
  small : n ≤ 1048576
  cells : ∀ i, i < n → ∀ j x, (tvs1 (tk l i))[j]? = some x → W.cell? ⟨bt, off + i * 4 + j, none⟩ = some x
  more : ∀ i, i + 1 < n → (tk l i).kind ≠ 0
  last : (tk l (n - 1)).kind = 0
  byt : ∀ i, i < n → Byt (tk l i).text
theorem TL.ev {W w1 : World} {b bt off n c : Nat} {l : List Tok} (h : TL W bt off n c l) (u : Up W w1) (hb : W.heap.size ≤ b) (hl : b < w1.heap.size) : Ev w1 b bt off n c l := by
  refine ⟨hl, ?_, h.len, h.cap, h.pos, h.small, fun i hi j x hx => u.cell (h.cells i hi j x hx), h.more, h.last, h.byt⟩
  have h1 := World.block_lt_of_cell? W _ (h.cells 0 h.pos 0 (.int .i8 (tk l 0).kind) rfl)
  have h2 : bt < W.heap.size := h1
  omega
/- what read answers -/
def QR (l : List Tok) (R : Rs) (W : World) (e : Ending) (w' : World) : Prop := Up W w' ∧ match R with
  | .bad er pp => e = .returned (.tuple #[.slice none 0 0, .int .i64 er, .int .i64 pp])
  | .ok f j => if (tk l j).kind = 0 then ∃ v, e = .returned (.tuple #[v, .int .i64 0, .int .i64 0]) ∧ OwN W.heap.size w' v (flF f) else e = .returned (.tuple #[.slice none 0 0, .int .i64 22, .int .i64 (tk l j).pos])
theorem one_tree {W : World} {S : Nat → Prop} {f : Fo} {g : Nat} (h : PF W S f [ptr g]) : ∃ a k, f = .cons a k .nil := by
  cases f with
  | nil => cases h
  | cons a k r =>
    obtain ⟨g2, sv, kv, ws, h1, h2, h3, h4, h5, h6, h7⟩ := h
    have h8 : ws = [] := by
      injection h1 with h9 h10
      exact h10.symm
    subst h8
    cases r with
    | nil => exact ⟨a, k, rfl⟩
    | cons a2 k2 r2 =>
      obtain ⟨g3, sv3, kv3, ws3, e1, -⟩ := h7
      cases e1
set_option maxRecDepth 100000 in
set_option maxHeartbeats 16000000 in
theorem read_ (W : World) (bt off n c : Nat) (l : List Tok) (hT : TL W bt off n c l) (f : FuncId) (hen : Ent f) (R : Rs) (hF : ∀ (w0 : World) (b ml ms : Nat), Ev w0 b bt off n c l → Mps w0 b ml ms lkey → ∀ W', Only b w0 W' → QS W' b bt off n c ml ms 0 0 → Calls Tryz.prog f #[.pointer (some ⟨b, 0, none⟩)] W' (QG b bt off n c ml ms 0 R W')) (hj : ∀ x j, R = .ok x j → j < n) (hw : ∀ x j, R = .ok x j → WfF x ∧ (flF x).length ≤ 100000000) (hM : Calls Tryz.prog 68 #[.slice (some ⟨bt, off, none⟩) n c] W (fun r w' => r = .returned (.bool true) ∧ Up W w')) (hRT : W.cell? ⟨0, 0, none⟩ = some (.iface 181 (.agg #[.pointer (some ⟨4, 93, none⟩)]))) : Calls Tryz.prog 26 #[.slice (some ⟨bt, off, none⟩) n c, .func (.func f) #[] #[]] W (QR l R W) := by
  obtain ⟨Post, hPost⟩ : ∃ P : Ending → World → Prop, P = QR l R W := ⟨_, rfl⟩
  rw [← hPost]
  have HPo : Hid (Post = QR l R W) := hPost
  clear hPost
  have hmf9 := hmf
  have HN : Hid _ := fun w1 => newParser_ w1 bt off n c
  have HT : Hid (TL W bt off n c l) := hT
  have HF : Hid _ := hF
  have HJ : Hid (∀ x j, R = .ok x j → j < n) := hj
  have HWF : Hid (∀ x j, R = .ok x j → WfF x ∧ (flF x).length ≤ 100000000) := hw
  have HM : Hid _ := hM
  have HRT : Hid (W.cell? ⟨0, 0, none⟩ = some (.iface 181 (.agg #[.pointer (some ⟨4, 93, none⟩)]))) := hRT
  clear hT hF hj hw hM hRT
  go_enter Tryz.func26, Tryz.ntmps26
  go_wp2_with fail
  refine Calls.mono HM.out ?_
  rintro r9 w1 ⟨rfl, u1⟩
  have HU1 : Hid (Up W w1) := u1
  clear HM u1
  go_wp2_with fail
  refine Calls.mono (HN.out w1) ?_
  rintro r9 w2 ⟨b, ml, ms, rfl, hb, u2, q2, m2⟩
  have HU2 : Hid (Up W w2) := HU1.out.trans u2
  have hbw : W.heap.size ≤ b := by rw [hb]; exact HU1.out.size
  have HBW : Hid (W.heap.size ≤ b) := hbw
  have HEV : Hid (Ev w2 b bt off n c l) := HT.out.ev HU2.out hbw q2.cells.2.2.2.2.2.2
  have HWH : Hid _ := whole_ w2 w2 b bt off n c ml ms l HEV.out (Only.up (Up.refl _)) q2 f hen R (fun W' o q => HF.out w2 b ml ms HEV.out m2 W' o q) HJ.out
  clear HN u2 q2 m2 hb hbw
  go_wp2_with fail
  refine Calls.mono HWH.out ?_
  rintro r9 w3 ⟨o3, h3⟩
  have HU3 : Hid (Up W w3) := up_only HU2.out o3 HBW.out
  have HRT3 : Hid (w3.cell? ⟨0, 0, none⟩ = some (.iface 181 (.agg #[.pointer (some ⟨4, 93, none⟩)]))) := HU3.out.cell HRT.out
  clear HWH o3
  cases R with
  | bad er pp =>
    have h3 : r9 = .returned (.tuple #[.pointer none, .iface 98 (.agg #[.int .i64 er, .int .i64 pp])]) := h3
    subst h3
    have HAS : Hid _ := as_hit er pp 0 0 w3.heap.size (w3.alloc (.cells #[.int .i64 0, .int .i64 0] 98)) (((Up.refl w3).alloc _).cell HRT3.out) (heap_alloc_new w3 _)
    go_wp2_with fail
    refine Calls.mono HAS.out ?_
    rintro r9 w4 ⟨rfl, e4⟩
    have HU4 : Hid (Up W w4) := by
      unfold Hid
      rw [e4]
      exact up_set1 (up_set1 (((((HU3.out.alloc _).alloc _).alloc _).alloc _).alloc _) 0 _ HU3.out.size) 1 _ HU3.out.size
    obtain ⟨g, hg⟩ : ∃ g, g = w3.heap.size := ⟨_, rfl⟩
    have h7 : w4.heap[g]? = some (.cells #[.int .i64 er, .int .i64 pp] 98 (0, 0)) := by
      rw [e4, hg]
      exact set_cells (j := 1) (x := .int .i64 pp) (set_cells (j := 0) (x := .int .i64 er) (((((Up.refl _).alloc _).alloc _).alloc _).alloc _ |>.heap (heap_alloc_new w3 (.cells #[.int .i64 0, .int .i64 0] 98))))
    have q0 : w4.cell? ⟨g, 0, none⟩ = some (.int .i64 er) := by simp [World.cell?, h7]
    have q1 : w4.cell? ⟨g, 1, none⟩ = some (.int .i64 pp) := by simp [World.cell?, h7]
    rw [← hg]
    clear e4 HAS hg h7
    go_wp2_with fail
    go_region
    go_wp2_with fail
    rw [HPo.out]
    refine ⟨⟨HU4.out.os, HU4.out.tape, HU4.out.output, HU4.out.size, HU4.out.block⟩, ?_⟩
    rfl
  | ok x j =>
    have h3 : (if (tk l j).kind = 0 then ∃ g, r9 = .returned (.tuple #[ptr g, .nilIface]) ∧ PF w3 (Sn w2.heap.size w3) x [ptr g] else r9 = .returned (.tuple #[.pointer none, .iface 98 (.agg #[.int .i64 22, .int .i64 (tk l j).pos])])) := h3
    by_cases hk : (tk l j).kind = 0
    · rw [if_pos hk] at h3
      obtain ⟨g, rfl, pf⟩ := h3
      obtain ⟨W5, hW5⟩ : ∃ W5, w3.alloc (.cells #[.int .i64 0, .int .i64 0] 98) = W5 := ⟨_, rfl⟩
      have HU5 : Hid (Up w3 W5) := by unfold Hid; rw [← hW5]; exact (Up.refl _).alloc _
      have HW5 : Hid (w3.alloc (.cells #[.int .i64 0, .int .i64 0] 98) = W5) := hW5
      obtain ⟨a, k, rfl⟩ := one_tree pf
      obtain ⟨g2, e1, hl⟩ := laid_ _ _ (HWF.out _ j rfl).1 (PF.keep (fun y o _ e => HU5.out.heap e) _ _ pf) 0 (Nat.succ_pos _)
      obtain rfl : g2 = g := by
        have h8 : some (ptr g) = some (ptr g2) := e1
        simp only [Option.some.injEq, Value.pointer.injEq, Addr.mk.injEq] at h8
        exact h8.1.symm
      have HLD : Hid _ := hl W5 (.slice none 0 0) [] (Up.refl _) (World.ownsRow_nil _ _ _ _) (by have h8 := (HWF.out _ j rfl).2; have h9 : flF (.cons a k .nil) = a :: (flF k ++ []) := rfl; rw [h9, List.append_nil] at h8; show 0 + (a :: flF k).length ≤ _; omega)
      have HN0 : Hid _ := as_nil
      have HKK : Hid ((tk l j).kind = 0) := hk
      clear hl pf e1 hW5 hk
      unfold ptr at *
      go_wp2_with fail
      rw [HW5.out]
      refine Calls.mono (HN0.out _ _) ?_
      rintro r9 w6 ⟨rfl, rfl⟩
      go_wp2_with fail
      refine Calls.mono HLD.out ?_
      rintro r9 w7 ⟨v, rfl, hown, u7⟩
      have HOW : Hid (OwN w6.heap.size w7 v ([] ++ fl1 (a, k))) := hown
      have HU7 : Hid (Up w6 w7) := u7
      clear hown u7 HLD
      go_wp2_with fail
      rw [HPo.out]
      refine ⟨HU3.out.trans (HU5.out.trans HU7.out), ?_⟩
      show (if (tk l j).kind = 0 then _ else _)
      rw [if_pos HKK.out]
      refine ⟨v, rfl, ?_⟩
      have h9 : flF (.cons a k .nil) = [] ++ fl1 (a, k) := List.append_nil (a :: flF k)
      rw [h9]
      exact ows_base HOW.out (HU3.out.trans HU5.out).size
    · rw [if_neg hk] at h3
      subst h3
      have HKK : Hid (¬ (tk l j).kind = 0) := hk
      clear hk
      have HAS : Hid _ := as_hit 22 (tk l j).pos 0 0 w3.heap.size (w3.alloc (.cells #[.int .i64 0, .int .i64 0] 98)) (((Up.refl w3).alloc _).cell HRT3.out) (heap_alloc_new w3 _)
      go_wp2_with fail
      refine Calls.mono HAS.out ?_
      rintro r9 w4 ⟨rfl, e4⟩
      have HU4 : Hid (Up W w4) := by
        unfold Hid
        rw [e4]
        exact up_set1 (up_set1 (((((HU3.out.alloc _).alloc _).alloc _).alloc _).alloc _) 0 _ HU3.out.size) 1 _ HU3.out.size
      obtain ⟨g, hg⟩ : ∃ g, g = w3.heap.size := ⟨_, rfl⟩
      have h7 : w4.heap[g]? = some (.cells #[.int .i64 22, .int .i64 (tk l j).pos] 98 (0, 0)) := by
        rw [e4, hg]
        exact set_cells (j := 1) (x := .int .i64 (tk l j).pos) (set_cells (j := 0) (x := .int .i64 22) (((((Up.refl _).alloc _).alloc _).alloc _).alloc _ |>.heap (heap_alloc_new w3 (.cells #[.int .i64 0, .int .i64 0] 98))))
      have q0 : w4.cell? ⟨g, 0, none⟩ = some (.int .i64 22) := by simp [World.cell?, h7]
      have q1 : w4.cell? ⟨g, 1, none⟩ = some (.int .i64 (tk l j).pos) := by simp [World.cell?, h7]
      rw [← hg]
      clear e4 HAS hg h7
      go_wp2_with fail
      go_region
      go_wp2_with fail
      rw [HPo.out]
      refine ⟨⟨HU4.out.os, HU4.out.tape, HU4.out.output, HU4.out.size, HU4.out.block⟩, ?_⟩
      show (if (tk l j).kind = 0 then _ else _)
      rw [if_neg HKK.out]
      rfl

end TP
end Go.Proofs.YtkldllnnocdhbaaGreatDoor
