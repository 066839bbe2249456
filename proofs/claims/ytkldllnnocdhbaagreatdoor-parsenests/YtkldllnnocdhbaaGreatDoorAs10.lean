/-
  errors.As, asked of nothing and of a fault, for a variable of faults.
-/
import Derived.Test.YtkldllnnocdhbaaGreatDoorWh10
import Derived.Test.YtkldllnnocdhbaaGreatDoorTail
import Derived.WalkLawsBesides
import Derived.LaidEql
import Derived.Stop.Asserts
import Derived.RowKitTokens
namespace Go.Proofs.YtkldllnnocdhbaaGreatDoor
open Go.RowKit
attribute [local go_sem ↓] Go.wp_at_zero Go.wp_at_succ
namespace TP
open TR (Nd Byt nums_inj)
open TK (Tok)
/- what whole answers -/
def QW (b : Nat) (l : List Tok) (R : Rs) (W : World) (e : Ending) (w' : World) : Prop := Only b W w' ∧ match R with
  | .bad er pp => e = .returned (.tuple #[.pointer none, .iface 98 (.agg #[.int .i64 er, .int .i64 pp])])
  | .ok f j => if (tk l j).kind = 0 then ∃ g, e = .returned (.tuple #[ptr g, .nilIface]) ∧ PF w' (Sn W.heap.size w') f [ptr g] else e = .returned (.tuple #[.pointer none, .iface 98 (.agg #[.int .i64 22, .int .i64 (tk l j).pos])])
set_option maxRecDepth 100000 in
set_option maxHeartbeats 16000000 in
theorem whole_ (w0 W : World) (b bt off n c ml ms : Nat) (l : List Tok) (hE : Ev w0 b bt off n c l) (ho : Only b w0 W) (hP : QS W b bt off n c ml ms 0 0) (f : FuncId) (hen : Ent f) (R : Rs) (hF : ∀ W', Only b w0 W' → QS W' b bt off n c ml ms 0 0 → Calls Tryz.prog f #[.pointer (some ⟨b, 0, none⟩)] W' (QG b bt off n c ml ms 0 R W')) (hj : ∀ x j, R = .ok x j → j < n) : Calls Tryz.prog 70 #[.pointer (some ⟨b, 0, none⟩), .func (.func f) #[] #[]] W (QW b l R W) := by
  obtain ⟨Post, hPost⟩ : ∃ P : Ending → World → Prop, P = QW b l R W := ⟨_, rfl⟩
  rw [← hPost]
  have HPo : Hid (Post = QW b l R W) := hPost
  clear hPost
  have hmf9 := hmf
  obtain ⟨s, hs⟩ : ∃ s, s = W.heap.size := ⟨_, rfl⟩
  obtain ⟨W2, hW2⟩ : ∃ W2, (W.alloc (.cells #[.pointer none] 91)).alloc (.cells #[.nilIface] 93) = W2 := ⟨_, rfl⟩
  have HU2 : Hid (Up W W2) := by unfold Hid; rw [← hW2]; exact ((Up.refl _).alloc _).alloc _
  have HW2 : Hid ((W.alloc (.cells #[.pointer none] 91)).alloc (.cells #[.nilIface] 93) = W2) := hW2
  have HS : Hid (s = W.heap.size) := hs
  have HC : Hid _ := hF W2 (ho.trans (Only.up HU2.out)) (hP.up HU2.out)
  have HE : Hid (Ev w0 b bt off n c l) := hE
  have HO : Hid (Only b w0 W) := ho
  have HBL : Hid (b < W.heap.size) := hP.cells.2.2.2.2.2.2
  have HCX : Hid (W2.heap[s]? = some (.cells #[.pointer none] 91 (0, 0))) := by
    unfold Hid
    rw [← hW2, hs]
    exact ((Up.refl _).alloc _).heap (heap_alloc_new W _)
  have HCY : Hid (W2.heap[s + 1]? = some (.cells #[.nilIface] 93 (0, 0))) := by
    have h9 := heap_alloc_new (W.alloc (.cells #[.pointer none] 91)) (.cells #[.nilIface] 93)
    unfold Hid
    rw [← hW2, show s + 1 = (W.alloc (.cells #[.pointer none] 91)).heap.size by simp [hs]]
    exact h9
  have HS2 : Hid (W2.heap.size = s + 2) := by unfold Hid; rw [← hW2, hs]; simp
  clear hE ho hP hF hW2 hs
  unfold Ent at hen
  go_enter_defers Tryz.func70, Tryz.ntmps70
  go_wp2_with fail
  rw [HW2.out, ← HS.out]
  refine Calls.mono HC.out ?_
  rintro r w1 ⟨o1, h1⟩
  have hbs : b ≠ s := by have := HBL.out; have := HS.out; omega
  have hbs1 : b ≠ s + 1 := by have := HBL.out; have := HS.out; omega
  have HO1 : Hid (Only b W w1) := (Only.up HU2.out).trans o1
  have HX1 : Hid (w1.heap[s]? = some (.cells #[.pointer none] 91 (0, 0))) := o1.heap HCX.out (fun e => hbs e.symm)
  have HY1 : Hid (w1.heap[s + 1]? = some (.cells #[.nilIface] 93 (0, 0))) := o1.heap HCY.out (fun e => hbs1 e.symm)
  have HZ1 : Hid (s + 2 ≤ w1.heap.size) := by have := o1.2.1; have := HS2.out; unfold Hid; omega
  clear HC HCX HCY HW2 o1
  have c1 : w1.cell? ⟨s, 0, none⟩ = some (.pointer none) := by have := HX1.out; simp [World.cell?, this]
  have f1 : w1.frozen? ⟨s, 0, none⟩ = false := by have := HX1.out; simp [World.frozen?, this]
  have c2 : w1.cell? ⟨s + 1, 0, none⟩ = some .nilIface := by have := HY1.out; simp [World.cell?, this]
  have f2 : w1.frozen? ⟨s + 1, 0, none⟩ = false := by have := HY1.out; simp [World.frozen?, this]
  cases R with
  | bad er pp =>
    obtain rfl : r = pnc er pp := h1
    unfold pnc at *
    go_wp2_with fail
    refine leaves_cons (f := 104) (args := #[.pointer (some ⟨s, 0, none⟩), .pointer (some ⟨s + 1, 0, none⟩)]) (by simp) (by simp [go_sem]) ?_
    refine (catch_fault s (s + 1) _ _ _ _ c1 f1 c2 f2 (by omega)).mono ?_
    rintro e9 u9 w9 ⟨rfl, rfl, x1, x2, x3⟩
    simp [Leaves, settle, results, Tryz.results70, go_sem, x2, x3]
    rw [HPo.out]
    exact ⟨only_exc HO1.out x1 (fun k hk => by have := HS.out; omega), rfl⟩
  | ok x j =>
    obtain ⟨g, rfl, pf, qs⟩ := h1
    have hjn := hj x j rfl
    obtain ⟨V1, hV1⟩ : ∃ V1, w1.setCell ⟨s, 0, none⟩ (ptr g) = V1 := ⟨_, rfl⟩
    have HOV : Hid (Only b W V1) := by
      unfold Hid
      refine only_exc (T := fun k => k = s) HO1.out ⟨⟨by rw [← hV1]; rfl, by rw [← hV1]; rfl, by rw [← hV1]; rfl⟩, by rw [← hV1]; simp [World.setCell], fun k _ hn => by rw [← hV1]; exact Below.heap_setCell _ _ _ _ hn⟩ (fun k hk => by have := HS.out; omega)
    have HQV : Hid (QS V1 b bt off n c ml ms j 0) := by
      unfold Hid QS
      rw [← hV1, Below.heap_setCell _ _ _ _ hbs]
      exact qs
    have HPV : Hid (PF V1 (Sn (s + 2) w1) x [ptr g]) := by
      rw [HS2.out] at pf
      exact PF.keep (fun y o hy e => by rw [← hV1, Below.heap_setCell _ _ _ _ (show y ≠ s from fun e => by unfold Sn at hy; omega)]; exact e) x _ pf
    have HXV : Hid (V1.heap[s]? = some (.cells #[ptr g] 91 (0, 0))) := by unfold Hid; rw [← hV1]; exact set_cells (j := 0) (x := ptr g) HX1.out
    have HYV : Hid (V1.heap[s + 1]? = some (.cells #[.nilIface] 93 (0, 0))) := by unfold Hid; rw [← hV1, Below.heap_setCell _ _ _ _ (show s + 1 ≠ s by omega)]; exact HY1.out
    have HSV : Hid (V1.heap.size = w1.heap.size) := by unfold Hid; rw [← hV1]; simp [World.setCell]
    have HV1 : Hid (w1.setCell ⟨s, 0, none⟩ (ptr g) = V1) := hV1
    have HIE : Hid _ := isEnd_ w0 V1 b bt off n c ml ms j 0 l HE.out (HO.out.trans HOV.out) hjn HQV.out
    clear hV1 pf qs hj
    unfold ptr at *
    go_wp2_with fail
    rw [HV1.out]
    refine Calls.mono HIE.out ?_
    rintro r9 w3 ⟨rfl, u3⟩
    have HO3 : Hid (Only b W w3) := HOV.out.trans (Only.up u3)
    have HU3 : Hid (Up V1 w3) := u3
    have HTK := fun may => ptake_ w0 w3 b bt off n c ml ms j 0 l HE.out (HO.out.trans HO3.out) hjn (HQV.out.up u3) may
    have HTK : Hid _ := HTK
    clear HIE u3 c1 f1 c2 f2
    by_cases hk : (tk l j).kind = 0
    · rw [show decide ((tk l j).kind = 0) = true by simp [hk]]
      have HT : Hid _ := HTK.out true
      have HKK : Hid ((tk l j).kind = 0) := hk
      clear HTK hk
      go_wp2_with fail
      refine Calls.mono HT.out ?_
      rintro r9 w4 ⟨o4, ⟨-, rfl, -⟩ | ⟨h9, -⟩⟩
      · have HX4 : Hid (w4.heap[s]? = some (.cells #[.pointer (some ⟨g, 0, none⟩)] 91 (0, 0))) := o4.heap (HU3.out.heap HXV.out) (fun e => hbs e.symm)
        have HY4 : Hid (w4.heap[s + 1]? = some (.cells #[.nilIface] 93 (0, 0))) := o4.heap (HU3.out.heap HYV.out) (fun e => hbs1 e.symm)
        have HO4 : Hid (Only b W w4) := HO3.out.trans o4
        have HZ4 : Hid (w3.heap.size ≤ w4.heap.size) := o4.2.1
        have HP4 : Hid (PF w4 (Sn (s + 2) w1) x [.pointer (some ⟨g, 0, none⟩)]) := PF.keep (fun y o hy e => o4.heap (HU3.out.heap e) (fun e9 => by have := HBL.out; have := HS.out; unfold Sn at hy; omega)) x _ HPV.out
        have c1 : w4.cell? ⟨s, 0, none⟩ = some (.pointer (some ⟨g, 0, none⟩)) := by have := HX4.out; simp [World.cell?, this]
        have f1 : w4.frozen? ⟨s, 0, none⟩ = false := by have := HX4.out; simp [World.frozen?, this]
        have c2 : w4.cell? ⟨s + 1, 0, none⟩ = some .nilIface := by have := HY4.out; simp [World.cell?, this]
        have f2 : w4.frozen? ⟨s + 1, 0, none⟩ = false := by have := HY4.out; simp [World.frozen?, this]
        clear o4 HT HX4 HY4
        go_wp2_with fail
        obtain ⟨V5, hV5⟩ : ∃ V5, (w4.setCell ⟨s, 0, none⟩ (.pointer (some ⟨g, 0, none⟩))).setCell ⟨s + 1, 0, none⟩ .nilIface = V5 := ⟨_, rfl⟩
        have d1 : V5.cell? ⟨s, 0, none⟩ = some (.pointer (some ⟨g, 0, none⟩)) := by rw [← hV5, World.cell?_setCell_far _ _ _ _ (show s + 1 ≠ s by omega), World.cell?_setCell_same _ _ _ c1]
        have d2 : V5.cell? ⟨s + 1, 0, none⟩ = some .nilIface := by
          rw [← hV5]
          exact World.cell?_setCell_same _ _ _ (by rw [World.cell?_setCell_far _ _ _ _ (show s ≠ s + 1 by omega)]; exact c2)
        have HE5 : Hid (Exc (fun k => k = s ∨ k = s + 1) w4 V5) := by
          refine ⟨⟨by rw [← hV5]; rfl, by rw [← hV5]; rfl, by rw [← hV5]; rfl⟩, by rw [← hV5]; simp [World.setCell], fun k _ hn => ?_⟩
          rw [← hV5, Below.heap_setCell _ _ _ _ (show k ≠ s + 1 from fun e => hn (.inr e)), Below.heap_setCell _ _ _ _ (show k ≠ s from fun e => hn (.inl e))]
        rw [hV5]
        refine leaves_cons (f := 104) (args := #[.pointer (some ⟨s, 0, none⟩), .pointer (some ⟨s + 1, 0, none⟩)]) (by simp) (by simp [go_sem]) ?_
        refine (catch_idle ⟨s, 0, none⟩ ⟨s + 1, 0, none⟩ V5).mono ?_
        rintro e9 u9 w9 ⟨rfl, rfl, u9⟩
        have d3 := u9.cell d1
        have d4 := u9.cell d2
        simp [Leaves, settle, results, Tryz.results70, go_sem, d3, d4]
        rw [HPo.out]
        have hon : Only b W V5 := only_exc HO4.out HE5.out (fun k hk => by have := HS.out; omega)
        refine ⟨hon.trans (Only.up u9), ?_⟩
        show (if (tk l j).kind = 0 then _ else _)
        rw [if_pos HKK.out]
        refine ⟨g, rfl, PF.mono (fun y hy => ?_) x _ (PF.keep (fun y o hy e => ?_) x _ HP4.out)⟩
        · have h1 := HS.out
          have h2 := (hon.trans (Only.up u9)).2.1
          have h3 := HSV.out
          have h4 := HU3.out.size
          have h5 := HZ4.out
          have h6 := HE5.out.2.1
          have h7 := u9.size
          unfold Sn at hy ⊢
          omega
        · refine u9.heap ?_
          rw [HE5.out.2.2 y (Array.getElem?_eq_some_iff.1 e).1 (fun hn => by unfold Sn at hy; omega)]
          exact e
      · cases h9
    · rw [show decide ((tk l j).kind = 0) = false by simp [hk]]
      have HT : Hid _ := HTK.out false
      have HKK : Hid (¬ (tk l j).kind = 0) := hk
      clear HTK hk
      go_wp2_with fail
      refine Calls.mono HT.out ?_
      rintro r9 w4 ⟨o4, ⟨h9, -, -⟩ | ⟨-, rfl⟩⟩
      · cases h9
      · have HX4 : Hid (w4.heap[s]? = some (.cells #[.pointer (some ⟨g, 0, none⟩)] 91 (0, 0))) := o4.heap (HU3.out.heap HXV.out) (fun e => hbs e.symm)
        have HY4 : Hid (w4.heap[s + 1]? = some (.cells #[.nilIface] 93 (0, 0))) := o4.heap (HU3.out.heap HYV.out) (fun e => hbs1 e.symm)
        have HO4 : Hid (Only b W w4) := HO3.out.trans o4
        have c1 : w4.cell? ⟨s, 0, none⟩ = some (.pointer (some ⟨g, 0, none⟩)) := by have := HX4.out; simp [World.cell?, this]
        have f1 : w4.frozen? ⟨s, 0, none⟩ = false := by have := HX4.out; simp [World.frozen?, this]
        have c2 : w4.cell? ⟨s + 1, 0, none⟩ = some .nilIface := by have := HY4.out; simp [World.cell?, this]
        have f2 : w4.frozen? ⟨s + 1, 0, none⟩ = false := by have := HY4.out; simp [World.frozen?, this]
        clear o4 HT HX4 HY4
        unfold pnc at *
        go_wp2_with fail
        refine leaves_cons (f := 104) (args := #[.pointer (some ⟨s, 0, none⟩), .pointer (some ⟨s + 1, 0, none⟩)]) (by simp) (by simp [go_sem]) ?_
        refine (catch_fault s (s + 1) _ _ _ _ c1 f1 c2 f2 (by omega)).mono ?_
        rintro e9 u9 w9 ⟨rfl, rfl, x1, x2, x3⟩
        simp [Leaves, settle, results, Tryz.results70, go_sem, x2, x3]
        rw [HPo.out]
        refine ⟨only_exc HO4.out x1 (fun k hk => by have := HS.out; omega), ?_⟩
        show (if (tk l j).kind = 0 then _ else _)
        rw [if_neg HKK.out]
end TP
end Go.Proofs.YtkldllnnocdhbaaGreatDoor
namespace Go.Proofs.YtkldllnnocdhbaaGreatDoor
open Go.RowKit Go.Extern.Stop Go.Stop Go.Extern
attribute [local go_sem ↓] Go.wp_at_zero Go.wp_at_succ
namespace TP
set_option maxRecDepth 100000 in
set_option maxHeartbeats 4000000 in
theorem as_nil (t : Value) (w : World) : Calls Tryz.prog 71 #[.nilIface, t] w fun r w' => r = .returned (.bool false) ∧ w' = w := by
  go_enter Tryz.func71, Tryz.ntmps71
  go_wp2_with fail
  go_ret
  exact ⟨rfl, rfl⟩
theorem valueOfP (t : Addr) (w : World) : (ReflectliteValue.unpack (.iface 100 (.pointer (some t)))).run Tryz.prog w = .ok (.agg #[.pointer (some ⟨4, 100, none⟩), .pointer (some ⟨w.heap.size, 0, none⟩), .int .u64 150]) (w.alloc (.cells #[.pointer (some t)] 100)) := by kernel_rfl
theorem typeP (a : Addr) (w : World) : (ReflectliteValue.methodAny (ReflectliteValue.valueError "reflectlite.Value.Type" 0) (fun t _ _ _ => ReflectliteType.toType t) #[.agg #[.pointer (some ⟨4, 100, none⟩), .pointer (some a), .int .u64 150]]).run Tryz.prog w = .ok (.iface 181 (.agg #[.pointer (some ⟨4, 100, none⟩)])) w := by kernel_rfl
theorem methodKind (h : Value) (w : World) : (Go.method 351 181 (.agg #[h]) "Kind").run Tryz.prog w = .ok (221, h) w := by kernel_rfl
theorem kindP (w : World) : ((ReflectliteType.abiMethod fun t => (fun a : Nat => Value.int IntKind.u8 (a : Int)) <$> Rtype.kind t) #[.pointer (some ⟨4, 100, none⟩)]).run Tryz.prog w = .ok (.int .u8 22) w := by kernel_rfl
theorem kindF (w : World) : ((ReflectliteType.abiMethod fun t => (fun a : Nat => Value.int IntKind.u8 (a : Int)) <$> Rtype.kind t) #[.pointer (some ⟨4, 98, none⟩)]).run Tryz.prog w = .ok (.int .u8 25) w := by kernel_rfl
theorem rlm (z : Sem Value) (f : TypeId → Addr → Nat → Nat → Sem Value) (v : Value) : ReflectliteValue.method z f #[v] = (do match ← ReflectliteValue.parts v with | none => z | some (t, a, fl) => f t a fl (fl % 32)) := rfl
theorem partsP (a : Addr) (w : World) : (ReflectliteValue.parts (.agg #[.pointer (some ⟨4, 100, none⟩), .pointer (some a), .int .u64 150])).run Tryz.prog w = .ok (some (100, a, 150)) w := by kernel_rfl
theorem isNilP (a p : Addr) (W : World) (ha : W.cell? a = some (.pointer (some p))) :
    (ReflectliteValue.method (ReflectliteValue.valueError "reflectlite.Value.IsNil" 0) ReflectliteValue.isNil #[.agg #[.pointer (some ⟨4, 100, none⟩), .pointer (some a), .int .u64 150]]).run Tryz.prog W = .ok (.bool false) W := by
  rw [rlm]
  simp only [Sem.run_bind, partsP, Result.andThen]
  simp [ReflectliteValue.isNil, loadVar, isAgg, underlying, Tryz.underlying100, ha, Result.andThen]
theorem methodElem (h : Value) (w : World) : (Go.method 351 181 (.agg #[h]) "Elem").run Tryz.prog w = .ok (231, .agg #[h]) w := by kernel_rfl
theorem methodImplements (h : Value) (w : World) : (Go.method 351 181 (.agg #[h]) "Implements").run Tryz.prog w = .ok (232, .agg #[h]) w := by kernel_rfl
theorem methodAssignableTo (h : Value) (w : World) : (Go.method 351 181 (.agg #[h]) "AssignableTo").run Tryz.prog w = .ok (229, .agg #[h]) w := by kernel_rfl
theorem elemP (w : World) : (ReflectliteType.method ReflectliteType.elem #[.agg #[.pointer (some ⟨4, 100, none⟩)]]).run Tryz.prog w = .ok (.iface 181 (.agg #[.pointer (some ⟨4, 98, none⟩)])) w := by kernel_rfl
theorem implementsF (w : World) : (ReflectliteType.relation "Implements" ReflectliteType.implements_ #[.agg #[.pointer (some ⟨4, 98, none⟩)], .iface 181 (.agg #[.pointer (some ⟨4, 93, none⟩)])]).run Tryz.prog w = .ok (.bool true) w := by kernel_rfl
theorem typeOfF (v : Value) (w : World) : (ReflectliteType.typeOf #[.iface 98 v]).run Tryz.prog w = .ok (.iface 181 (.agg #[.pointer (some ⟨4, 98, none⟩)])) w := by kernel_rfl
theorem assignableF (w : World) : (ReflectliteType.relation "AssignableTo" ReflectliteType.assignableTo #[.agg #[.pointer (some ⟨4, 98, none⟩)], .iface 181 (.agg #[.pointer (some ⟨4, 98, none⟩)])]).run Tryz.prog w = .ok (.bool true) w := by kernel_rfl
theorem valueOfF (er pp : Int) (w : World) : (ReflectliteValue.unpack (.iface 98 (.agg #[.int .i64 er, .int .i64 pp]))).run Tryz.prog w = .ok (.agg #[.pointer (some ⟨4, 98, none⟩), .pointer (some ⟨w.heap.size, 0, none⟩), .int .u64 153]) (w.alloc (.cells #[.int .i64 er, .int .i64 pp] 98)) := by kernel_rfl
theorem elemOfP (w : World) : (Rtype.elem? 100).run Tryz.prog w = .ok (some 98) w := by kernel_rfl
theorem mkF (p : Addr) (w : World) : (ReflectliteValue.mk 98 p ReflectliteValue.flagAddr).run Tryz.prog w = .ok (.agg #[.pointer (some ⟨4, 98, none⟩), .pointer (some p), .int .u64 409]) w := by kernel_rfl
theorem elemVP (a p : Addr) (W : World) (ha : W.cell? a = some (.pointer (some p))) :
    (ReflectliteValue.method (ReflectliteValue.valueError "reflectlite.Value.Elem" 0) ReflectliteValue.elem #[.agg #[.pointer (some ⟨4, 100, none⟩), .pointer (some a), .int .u64 150]]).run Tryz.prog W = .ok (.agg #[.pointer (some ⟨4, 98, none⟩), .pointer (some p), .int .u64 409]) W := by
  rw [rlm]
  simp only [Sem.run_bind, partsP, Result.andThen]
  simp [ReflectliteValue.elem, loadVar, isAgg, underlying, Tryz.underlying100, ha, Result.andThen, elemOfP, mkF]
theorem rls (v x : Value) : ReflectliteValue.set #[v, x] = (do
    let (some (dst, a, fl), some (src, b, _)) := (← ReflectliteValue.parts v, ← ReflectliteValue.parts x)
      | unsupported (.noEntry "extern/(internal/reflectlite.Value).Set.zeroValue")
    if fl / ReflectliteValue.flagAddr % 2 == 0 then unsupported (.noEntry "extern/(internal/reflectlite.Value).Set.unaddressable")
    let val ← loadVar src b
    if ← Rtype.directlyAssignable dst src then storeVar dst a val
    else if ← Rtype.implements dst src then
      if (← Rtype.kind src) == 20 then
        match val with
        | .nilIface => unsupported (.noEntry "extern/reflectlite: a nil value of one interface type handed on as a value of another")
        | _ => storeVar dst a val
      else storeVar dst a (.iface src val)
    else panicString ("reflectlite.Set: value of type " ++ (← Rtype.spelt src) ++ " is not assignable to type " ++ (← Rtype.spelt dst))
    pure (.tuple #[])) := rfl
theorem partsFa (a : Addr) (w : World) : (ReflectliteValue.parts (.agg #[.pointer (some ⟨4, 98, none⟩), .pointer (some a), .int .u64 409])).run Tryz.prog w = .ok (some (98, a, 409)) w := by kernel_rfl
theorem partsF (a : Addr) (w : World) : (ReflectliteValue.parts (.agg #[.pointer (some ⟨4, 98, none⟩), .pointer (some a), .int .u64 153])).run Tryz.prog w = .ok (some (98, a, 153)) w := by kernel_rfl
theorem directF (w : World) : (Rtype.directlyAssignable 98 98).run Tryz.prog w = .ok true w := by kernel_rfl
theorem infoF : (Tryz.prog.info? 98).map (·.size) = some 2 := by kernel_rfl
theorem setF (g b : Nat) (er pp o0 o1 : Int) (W : World) (hb : W.heap[b]? = some (.cells #[.int .i64 er, .int .i64 pp] 98 (0, 0))) (ht : W.heap[g]? = some (.cells #[.int .i64 o0, .int .i64 o1] 98 (0, 0))) :
    (ReflectliteValue.set #[.agg #[.pointer (some ⟨4, 98, none⟩), .pointer (some ⟨g, 0, none⟩), .int .u64 409], .agg #[.pointer (some ⟨4, 98, none⟩), .pointer (some ⟨b, 0, none⟩), .int .u64 153]]).run Tryz.prog W = .ok (.tuple #[]) ((W.setCell ⟨g, 0, none⟩ (.int .i64 er)).setCell ⟨g, 1, none⟩ (.int .i64 pp)) := by
  rw [rls]
  simp only [Sem.run_bind, partsFa, partsF, Result.andThen]
  have hl := run_loadVar_row (P := Tryz.prog) W b 98 98 #[.int .i64 er, .int .i64 pp] (0, 0) _ hb Tryz.underlying98 rfl infoF
  simp [ReflectliteValue.flagAddr, hl, Result.andThen, directF, storeVar, Value.cells, storeCells, Addr.add]
  have ht0 : W.cell? ⟨g, 0, none⟩ = some (.int .i64 o0) := by simp [World.cell?, ht]
  have hf0 : W.frozen? ⟨g, 0, none⟩ = false := by simp [World.frozen?, ht]
  have k1 := set_cells (j := 0) (x := .int .i64 er) ht
  have ht1 : (W.setCell ⟨g, 0, none⟩ (.int .i64 er)).cell? ⟨g, 1, none⟩ = some (.int .i64 o1) := by simp [World.cell?, k1]
  have hf1 : (W.setCell ⟨g, 0, none⟩ (.int .i64 er)).frozen? ⟨g, 1, none⟩ = false := by simp [World.frozen?, k1]
  rw [run_store Tryz.prog W ⟨g, 0, none⟩ _ _ (by rfl)]
  simp only [ht0, hf0, Bool.false_eq_true, if_false]
  rw [run_store Tryz.prog _ ⟨g, 1, none⟩ _ _ (by rfl)]
  simp only [ht1, hf1, Bool.false_eq_true, if_false]
set_option maxRecDepth 100000 in
set_option maxHeartbeats 8000000 in
theorem as2_ (er pp o0 o1 : Int) (g a : Nat) (w : World) (ha : w.cell? ⟨a, 0, none⟩ = some (.pointer (some ⟨g, 0, none⟩))) (ht : w.heap[g]? = some (.cells #[.int .i64 o0, .int .i64 o1] 98 (0, 0))) :
    Calls Tryz.prog 109 #[.iface 98 (.agg #[.int .i64 er, .int .i64 pp]), .iface 100 (.pointer (some ⟨g, 0, none⟩)), .agg #[.pointer (some ⟨4, 100, none⟩), .pointer (some ⟨a, 0, none⟩), .int .u64 150], .iface 181 (.agg #[.pointer (some ⟨4, 98, none⟩)])] w fun r w' => r = .returned (.bool true) ∧ w' = ((((w.alloc (.cells #[.pointer (some ⟨4, 100, none⟩), .pointer (some ⟨a, 0, none⟩), .int .u64 150] 159)).alloc (.cells #[.int .i64 er, .int .i64 pp] 98)).setCell ⟨g, 0, none⟩ (.int .i64 er)).setCell ⟨g, 1, none⟩ (.int .i64 pp)) := by
  have h6 := @run_callFunc_extern Tryz.prog 106 _ (fun args => ReflectliteValue.unpack (args.getD 0 (.tuple #[]))) Tryz.func106 (by kernel_rfl) (by kernel_rfl) (by kernel_rfl) (by kernel_rfl)
  have h7 := @run_callFunc_extern Tryz.prog 107 _ (ReflectliteValue.methodAny (ReflectliteValue.valueError "reflectlite.Value.Type" 0) (fun t _ _ _ => ReflectliteType.toType t)) Tryz.func107 (by kernel_rfl) (by kernel_rfl) (by kernel_rfl) (by kernel_rfl)
  have h8 := @run_callFunc_extern Tryz.prog 108 _ (ReflectliteValue.method (ReflectliteValue.valueError "reflectlite.Value.IsNil" 0) ReflectliteValue.isNil) Tryz.func108 (by kernel_rfl) (by kernel_rfl) (by kernel_rfl) (by kernel_rfl)
  have h27 := @run_callFunc_extern Tryz.prog 221 _ (ReflectliteType.abiMethod fun t => do pure (.int .u8 (← Rtype.kind t))) Tryz.func221 (by kernel_rfl) (by kernel_rfl) (by kernel_rfl) (by kernel_rfl)
  have h37 := @run_callFunc_extern Tryz.prog 231 _ (ReflectliteType.method ReflectliteType.elem) Tryz.func231 (by kernel_rfl) (by kernel_rfl) (by kernel_rfl) (by kernel_rfl)
  have h38 := @run_callFunc_extern Tryz.prog 232 _ (ReflectliteType.relation "Implements" ReflectliteType.implements_) Tryz.func232 (by kernel_rfl) (by kernel_rfl) (by kernel_rfl) (by kernel_rfl)
  have h10 := @run_callFunc_extern Tryz.prog 149 _ ReflectliteType.typeOf Tryz.func149 (by kernel_rfl) (by kernel_rfl) (by kernel_rfl) (by kernel_rfl)
  have h35 := @run_callFunc_extern Tryz.prog 229 _ (ReflectliteType.relation "AssignableTo" ReflectliteType.assignableTo) Tryz.func229 (by kernel_rfl) (by kernel_rfl) (by kernel_rfl) (by kernel_rfl)
  have h11 := @run_callFunc_extern Tryz.prog 150 _ (ReflectliteValue.method (ReflectliteValue.valueError "reflectlite.Value.Elem" 0) ReflectliteValue.elem) Tryz.func150 (by kernel_rfl) (by kernel_rfl) (by kernel_rfl) (by kernel_rfl)
  have h12 := @run_callFunc_extern Tryz.prog 151 _ ReflectliteValue.set Tryz.func151 (by kernel_rfl) (by kernel_rfl) (by kernel_rfl) (by kernel_rfl)
  have tO := typeOfF
  have mA := methodAssignableTo
  have aF := assignableF
  have vF := valueOfF
  have f6 := valueOfP
  have f7 := typeP
  have mK := methodKind
  have mE := methodElem
  have mI := methodImplements
  have kP := kindP
  have kF := kindF
  have eP := elemP
  have iF := implementsF
  have el := elemVP ⟨a, 0, none⟩ ⟨g, 0, none⟩ (w.alloc (.cells #[.pointer (some ⟨4, 100, none⟩), .pointer (some ⟨a, 0, none⟩), .int .u64 150] 159)) (((Up.refl w).alloc _).cell ha)
  have st := setF g (w.heap.size + 1) er pp o0 o1 ((w.alloc (.cells #[.pointer (some ⟨4, 100, none⟩), .pointer (some ⟨a, 0, none⟩), .int .u64 150] 159)).alloc (.cells #[.int .i64 er, .int .i64 pp] 98)) (by simpa using heap_alloc_new (w.alloc (.cells #[.pointer (some ⟨4, 100, none⟩), .pointer (some ⟨a, 0, none⟩), .int .u64 150] 159)) (.cells #[.int .i64 er, .int .i64 pp] 98)) ((((Up.refl w).alloc _).alloc _).heap ht)
  clear ht ha
  go_enter Tryz.func109, Tryz.ntmps109
  go_wp2_with fail
  refine wp_loop_rounds 1 ?_
  rw [rounds_succ]
  go_wp2_with fail
  go_ret
  exact ⟨rfl, rfl⟩
set_option maxRecDepth 100000 in
set_option maxHeartbeats 8000000 in
theorem as_hit (er pp o0 o1 : Int) (g : Nat) (w : World) (hg : w.cell? ⟨0, 0, none⟩ = some (.iface 181 (.agg #[.pointer (some ⟨4, 93, none⟩)]))) (ht : w.heap[g]? = some (.cells #[.int .i64 o0, .int .i64 o1] 98 (0, 0))) :
    Calls Tryz.prog 71 #[.iface 98 (.agg #[.int .i64 er, .int .i64 pp]), .iface 100 (.pointer (some ⟨g, 0, none⟩))] w fun r w' => r = .returned (.bool true) ∧ w' = ((((((w.alloc (.cells #[.pointer (some ⟨g, 0, none⟩)] 100)).alloc (.cells #[.pointer (some ⟨4, 100, none⟩), .pointer (some ⟨w.heap.size, 0, none⟩), .int .u64 150] 159)).alloc (.cells #[.pointer (some ⟨4, 100, none⟩), .pointer (some ⟨w.heap.size, 0, none⟩), .int .u64 150] 159)).alloc (.cells #[.int .i64 er, .int .i64 pp] 98)).setCell ⟨g, 0, none⟩ (.int .i64 er)).setCell ⟨g, 1, none⟩ (.int .i64 pp)) := by
  have h6 := @run_callFunc_extern Tryz.prog 106 _ (fun args => ReflectliteValue.unpack (args.getD 0 (.tuple #[]))) Tryz.func106 (by kernel_rfl) (by kernel_rfl) (by kernel_rfl) (by kernel_rfl)
  have h7 := @run_callFunc_extern Tryz.prog 107 _ (ReflectliteValue.methodAny (ReflectliteValue.valueError "reflectlite.Value.Type" 0) (fun t _ _ _ => ReflectliteType.toType t)) Tryz.func107 (by kernel_rfl) (by kernel_rfl) (by kernel_rfl) (by kernel_rfl)
  have h8 := @run_callFunc_extern Tryz.prog 108 _ (ReflectliteValue.method (ReflectliteValue.valueError "reflectlite.Value.IsNil" 0) ReflectliteValue.isNil) Tryz.func108 (by kernel_rfl) (by kernel_rfl) (by kernel_rfl) (by kernel_rfl)
  have h27 := @run_callFunc_extern Tryz.prog 221 _ (ReflectliteType.abiMethod fun t => do pure (.int .u8 (← Rtype.kind t))) Tryz.func221 (by kernel_rfl) (by kernel_rfl) (by kernel_rfl) (by kernel_rfl)
  have h37 := @run_callFunc_extern Tryz.prog 231 _ (ReflectliteType.method ReflectliteType.elem) Tryz.func231 (by kernel_rfl) (by kernel_rfl) (by kernel_rfl) (by kernel_rfl)
  have h38 := @run_callFunc_extern Tryz.prog 232 _ (ReflectliteType.relation "Implements" ReflectliteType.implements_) Tryz.func232 (by kernel_rfl) (by kernel_rfl) (by kernel_rfl) (by kernel_rfl)
  have h10 := @run_callFunc_extern Tryz.prog 149 _ ReflectliteType.typeOf Tryz.func149 (by kernel_rfl) (by kernel_rfl) (by kernel_rfl) (by kernel_rfl)
  have h35 := @run_callFunc_extern Tryz.prog 229 _ (ReflectliteType.relation "AssignableTo" ReflectliteType.assignableTo) Tryz.func229 (by kernel_rfl) (by kernel_rfl) (by kernel_rfl) (by kernel_rfl)
  have h11 := @run_callFunc_extern Tryz.prog 150 _ (ReflectliteValue.method (ReflectliteValue.valueError "reflectlite.Value.Elem" 0) ReflectliteValue.elem) Tryz.func150 (by kernel_rfl) (by kernel_rfl) (by kernel_rfl) (by kernel_rfl)
  have h12 := @run_callFunc_extern Tryz.prog 151 _ ReflectliteValue.set Tryz.func151 (by kernel_rfl) (by kernel_rfl) (by kernel_rfl) (by kernel_rfl)
  have tO := typeOfF
  have mA := methodAssignableTo
  have aF := assignableF
  have vF := valueOfF
  have f6 := valueOfP
  have f7 := typeP
  have mK := methodKind
  have mE := methodElem
  have mI := methodImplements
  have kP := kindP
  have kF := kindF
  have eP := elemP
  have iF := implementsF
  have hgl : g < w.heap.size := (Array.getElem?_eq_some_iff.1 ht).1
  have n8 := isNilP ⟨w.heap.size, 0, none⟩ ⟨g, 0, none⟩ ((w.alloc (.cells #[.pointer (some ⟨g, 0, none⟩)] 100)).alloc (.cells #[.pointer (some ⟨4, 100, none⟩), .pointer (some ⟨w.heap.size, 0, none⟩), .int .u64 150] 159)) (by simp)
  have hlt : 0 < w.heap.size := by
    rcases Nat.eq_zero_or_pos w.heap.size with h0 | h
    · simp [World.cell?, h0] at hg
    · exact h
  have hg2 : ((w.alloc (.cells #[.pointer (some ⟨g, 0, none⟩)] 100)).alloc (.cells #[.pointer (some ⟨4, 100, none⟩), .pointer (some ⟨w.heap.size, 0, none⟩), .int .u64 150] 159)).cell? ⟨0, 0, none⟩ = some (.iface 181 (.agg #[.pointer (some ⟨4, 93, none⟩)])) := by
    rw [World.cell?_alloc_lt _ _ ⟨0, 0, none⟩ (by simp), World.cell?_alloc_lt _ _ ⟨0, 0, none⟩ hlt]; exact hg
  have st := as2_ er pp o0 o1 g w.heap.size ((w.alloc (.cells #[.pointer (some ⟨g, 0, none⟩)] 100)).alloc (.cells #[.pointer (some ⟨4, 100, none⟩), .pointer (some ⟨w.heap.size, 0, none⟩), .int .u64 150] 159)) (by rw [World.cell?_alloc_lt _ _ ⟨w.heap.size, 0, none⟩ (by simp), World.cell?_alloc_at _ _ _ _ (by simp)]; rfl) ((((Up.refl w).alloc _).alloc _).heap ht)
  have HST : Hid _ := st
  clear ht st
  go_enter Tryz.func71, Tryz.ntmps71
  go_wp2_with fail
  refine Calls.mono HST.out ?_
  rintro r w9 ⟨rfl, rfl⟩
  go_wp2_with fail
  go_ret
  exact ⟨rfl, rfl⟩
end TP
end Go.Proofs.YtkldllnnocdhbaaGreatDoor
