/-
  The whole of a part.
-/
import Derived.Test.YtkldllnnocdhbaaGreatDoorLa10
import Derived.Defers
import Derived.Recover
import Derived.RegionTactic
import Derived.ChangeAlike
namespace Go.Proofs.YtkldllnnocdhbaaGreatDoor
open Go.RowKit
attribute [local go_sem ↓] Go.wp_at_zero Go.wp_at_succ
namespace TP
open TR (Nd Byt nums_inj)
open TK (Tok)
theorem taF_hit (v : Value) (w : World) : (Instr.typeAssert (.iface 98 v) 20 98 true).run Tryz.prog w = .ok (.tuple #[v, .bool true]) w := by kernel_rfl
theorem taF_nil (w : World) : (Instr.typeAssert .nilIface 20 98 true).run Tryz.prog w = .ok (.tuple #[.agg #[.int .i64 0, .int .i64 0], .bool false]) w := by kernel_rfl
/- a region whose first operation recovers -/
theorem S_rec {P : Program} {d : Option Nat} {ty : TypeId} {ps : String} {af : Array Edge} {l : List Oper} {Q : Exit → Act → List Frame → World → Prop} {rest : List Nat} {a : Act} {cs cs2 : List Frame} {w : World} (v : Value)
    (hv : (recoverD cs = none ∧ cs2 = cs ∧ v = .nilIface) ∨ recoverD cs = some (v, cs2)) (h : wpOpsS P ({ dst := d, op := .call { callee := .builtin .recover, args := #[], argTypes := #[] }, type := ty, pos := ps, after := af, guard := none } :: l).toArray Q rest (a.put d v) cs2 w) : wpOpsS P ({ dst := d, op := .call { callee := .builtin .recover, args := #[], argTypes := #[] }, type := ty, pos := ps, after := af, guard := none } :: l).toArray Q (0 :: rest) a cs w := by
  have hr : (execOp a.eval { dst := d, op := .call { callee := .builtin .recover, args := #[], argTypes := #[] }, type := ty, pos := ps, after := af, guard := none }).run P w = .ok .recover w := by
    unfold execOp
    simp [resolve, invoke, builtin]
  simp only [wpOpsS]
  simp only [List.getElem?_toArray, List.getElem?_cons_zero, Region.wanted]
  rw [if_pos trivial, hr]
  rcases hv with ⟨h1, rfl, rfl⟩ | h1
  · simp only [h1]
    exact h
  · simp only [h1]
    exact h
theorem S_ops {P : Program} {ops : Array Oper} {Q : Exit → Act → List Frame → World → Prop} {cs : List Frame} (hq : ∀ a w, ¬ Q .outgrown a cs w) : ∀ (l : List Nat) (a : Act) (w : World), wpOps P ops (fun e a' w' => Q e a' cs w') l a w → wpOpsS P ops Q l a cs w
  | [], _, _, h => h
  | i :: rest, a, w, h => by
    simp only [wpOps] at h
    simp only [wpOpsS]
    cases ho : ops[i]? with
    | none =>
      simp only [ho] at h ⊢
      exact S_ops hq rest a w h
    | some o =>
      simp only [ho] at h ⊢
      by_cases hw : Region.wanted o (yielded ops a.tmps) = true
      · rw [if_pos hw] at h ⊢
        rcases h with h | ⟨-, a9, w9, h9⟩
        · have hn : (fun a w => wpOps P ops (fun e a' w' => Q e a' cs w') rest a w) = fun a w => wpOps P ops (fun e a' w' => Q e a' cs w') rest a w := rfl
          have hm : o.wp P a w (fun a w => wpOpsS P ops Q rest a cs w) (fun e a' w' => Q e a' cs w') := Oper.wp_mono (fun a w h => S_ops hq rest a w h) h
          unfold Oper.wp at hm
          generalize (execOp a.eval o).run P w = R at hm ⊢
          rcases R with ⟨n, w2⟩ | ⟨h2, w2⟩
          · cases n <;> first | exact hm | exact hm.elim
          · exact hm
        · exact absurd h9 (hq a9 w9)
      · rw [if_neg hw] at h ⊢
        exact S_ops hq rest _ _ h
theorem S_list {P : Program} {o0 : Oper} {l : List Oper} {Q : Exit → Act → List Frame → World → Prop} {cs : List Frame} {a : Act} {w : World} (js : List Nat) (hj : js = List.range' 1 l.length) (hq : ∀ a w, ¬ Q .outgrown a cs w) (h : wpList P (o0 :: l).toArray (fun e a' w' => Q e a' cs w') l a w) : wpOpsS P (o0 :: l).toArray Q js a cs w := by
  subst hj
  refine S_ops hq _ a w ?_
  rw [wpOps_eq_wpList l 1 (fun j => by simp [Nat.add_comm 1 j])]
  exact h
attribute [local irreducible] wpOpsS
set_option maxRecDepth 100000 in
set_option maxHeartbeats 4000000 in
theorem catch_idle (pr pe : Addr) (w : World) :
    CallsD Tryz.prog 104 #[.pointer (some pr), .pointer (some pe)] .returning w fun e u' w' => e = .returned (.tuple #[]) ∧ u' = .returning ∧ Up w w' := by
  have e9 := taF_nil
  refine callsD_of_wpS Tryz.func104 rfl fun c₀ cs hu => ?_
  show Code.wpS Tryz.prog _ _ { tmps := #[.pointer (some pr), .pointer (some pe), undef, undef, undef, undef, undef, undef, undef, undef, undef, undef], defers := [] } _ _
  apply wpS_seq
  apply wpS_region
  show wpOpsS _ _ _ [0, 1, 2, 3, 4, 5, 6, 7] _ _ _
  refine S_rec (cs2 := (c₀ :: cs)) .nilIface (.inl ⟨by simp [recoverD, hu], rfl, rfl⟩) ?_
  refine S_list _ rfl (fun a w h => by simp [Exit.thenS, bodyPostS] at h) ?_
  go_wp2_with fail
  simp only [Exit.thenS]
  refine wpS_of_wp ?_
  go_wp2_with fail
  refine ⟨rfl, .returning, by cases c₀; simp_all, .tuple #[], by simp [results, Tryz.results104, go_sem], rfl, rfl, (Up.refl _).alloc _⟩
set_option maxRecDepth 100000 in
set_option maxHeartbeats 4000000 in
theorem catch_fault (x y : Nat) (er pp : Int) (v0 : Value) (w : World) (hx : w.cell? ⟨x, 0, none⟩ = some v0) (fx : w.frozen? ⟨x, 0, none⟩ = false) (hy : w.cell? ⟨y, 0, none⟩ = some .nilIface) (fy : w.frozen? ⟨y, 0, none⟩ = false) (hxy : x ≠ y) :
    CallsD Tryz.prog 104 #[.pointer (some ⟨x, 0, none⟩), .pointer (some ⟨y, 0, none⟩)] (.panicking [{ v := (.iface 98 (.agg #[.int .i64 er, .int .i64 pp])), recovered := false }]) w fun e u' w' => e = .returned (.tuple #[]) ∧ u' = (.panicking [{ v := (.iface 98 (.agg #[.int .i64 er, .int .i64 pp])), recovered := true }]) ∧ Exc (fun k => k = x ∨ k = y) w w' ∧ w'.cell? ⟨x, 0, none⟩ = some (.pointer none) ∧ w'.cell? ⟨y, 0, none⟩ = some (.iface 98 (.agg #[.int .i64 er, .int .i64 pp])) := by
  have e9 := taF_hit
  refine callsD_of_wpS Tryz.func104 rfl fun c₀ cs hu => ?_
  show Code.wpS Tryz.prog _ _ { tmps := #[.pointer (some ⟨x, 0, none⟩), .pointer (some ⟨y, 0, none⟩), undef, undef, undef, undef, undef, undef, undef, undef, undef, undef], defers := [] } _ _
  apply wpS_seq
  apply wpS_region
  show wpOpsS _ _ _ [0, 1, 2, 3, 4, 5, 6, 7] _ _ _
  refine S_rec (cs2 := ({ c₀ with mode := (.panicking [{ v := (.iface 98 (.agg #[.int .i64 er, .int .i64 pp])), recovered := true }]) } :: cs)) (.iface 98 (.agg #[.int .i64 er, .int .i64 pp])) (.inr (by simp [recoverD, hu])) ?_
  refine S_list _ rfl (fun a w h => by simp [Exit.thenS, bodyPostS] at h) ?_
  go_wp2_with fail
  simp only [Exit.thenS]
  refine wpS_of_wp ?_
  go_wp2_with fail
  obtain ⟨z, hz⟩ : ∃ z, z = w.heap.size := ⟨_, rfl⟩
  have hxl : x < w.heap.size := by have := World.block_lt_of_cell? w ⟨x, 0, none⟩ hx; exact this
  have hyl : y < w.heap.size := by have := World.block_lt_of_cell? w ⟨y, 0, none⟩ hy; exact this
  have HEX : Hid (∀ V : World, V.heap = (((w.alloc (.cells #[.int .i64 er, .int .i64 pp] 98)).setCell ⟨x, 0, none⟩ (.pointer none)).setCell ⟨y, 0, none⟩ (.iface 98 (.agg #[.int .i64 er, .int .i64 pp]))).heap → (V.os = w.os ∧ V.tape = w.tape ∧ V.output = w.output) → Exc (fun k => k = x ∨ k = y) w V ∧ V.cell? ⟨x, 0, none⟩ = some (.pointer none) ∧ V.cell? ⟨y, 0, none⟩ = some (.iface 98 (.agg #[.int .i64 er, .int .i64 pp]))) := fun V hV ho => by
    have hcx := ((Up.refl w).alloc (.cells #[.int .i64 er, .int .i64 pp] 98)).cell hx
    have hcy := ((Up.refl w).alloc (.cells #[.int .i64 er, .int .i64 pp] 98)).cell hy
    have hce : ∀ p, V.cell? p = ((((w.alloc (.cells #[.int .i64 er, .int .i64 pp] 98)).setCell ⟨x, 0, none⟩ (.pointer none)).setCell ⟨y, 0, none⟩ (.iface 98 (.agg #[.int .i64 er, .int .i64 pp])))).cell? p := fun p => by unfold World.cell?; rw [hV]
    refine ⟨⟨ho, by rw [hV]; simp [World.setCell], fun k hk hn => ?_⟩, ?_, ?_⟩
    · rw [hV, Below.heap_setCell _ _ _ _ (show k ≠ y from fun e => hn (.inr e)), Below.heap_setCell _ _ _ _ (show k ≠ x from fun e => hn (.inl e))]
      exact ((Up.refl w).alloc _).block k hk
    · rw [hce, World.cell?_setCell_far _ _ _ _ (show y ≠ x from fun e => hxy e.symm), World.cell?_setCell_same _ _ _ hcx]
    · rw [hce]
      exact World.cell?_setCell_same _ _ _ (by rw [World.cell?_setCell_far _ _ _ _ (show x ≠ y from hxy)]; exact hcy)
  have q0 : (w.alloc (.cells #[.int .i64 er, .int .i64 pp] 98)).cell? ⟨x, 0, none⟩ = some v0 := ((Up.refl w).alloc _).cell hx
  have q1 : (w.alloc (.cells #[.int .i64 er, .int .i64 pp] 98)).cell? ⟨y, 0, none⟩ = some .nilIface := ((Up.refl w).alloc _).cell hy
  have q2 : (w.alloc (.cells #[.int .i64 er, .int .i64 pp] 98)).frozen? ⟨x, 0, none⟩ = false := by rw [World.frozen?_alloc_old w _ _ (Nat.ne_of_lt hxl)]; exact fx
  have q3 : (w.alloc (.cells #[.int .i64 er, .int .i64 pp] 98)).frozen? ⟨y, 0, none⟩ = false := by rw [World.frozen?_alloc_old w _ _ (Nat.ne_of_lt hyl)]; exact fy
  have q4 : (w.alloc (.cells #[.int .i64 er, .int .i64 pp] 98)).cell? ⟨z, 0, none⟩ = some (.int .i64 er) := by rw [hz]; have h9 := heap_alloc_new w (.cells #[.int .i64 er, .int .i64 pp] 98); unfold World.cell?; rw [h9]; rfl
  have q5 : (w.alloc (.cells #[.int .i64 er, .int .i64 pp] 98)).cell? ⟨z, 1, none⟩ = some (.int .i64 pp) := by rw [hz]; have h9 := heap_alloc_new w (.cells #[.int .i64 er, .int .i64 pp] 98); unfold World.cell?; rw [h9]; rfl
  have n1 : z ≠ x := by omega
  have n2 : z ≠ y := by omega
  have n3 : x ≠ z := by omega
  have n4 : y ≠ z := by omega
  have n5 : y ≠ x := fun e => hxy e.symm
  rw [← hz]
  have HZ : Hid (z = w.heap.size) := hz
  generalize hw1 : w.alloc (.cells #[.int .i64 er, .int .i64 pp] 98) = w1 at q0 q1 q2 q3 q4 q5 ⊢
  have HW1 : Hid (w.alloc (.cells #[.int .i64 er, .int .i64 pp] 98) = w1) := hw1
  clear hw1 hz hx hy fx fy hxl hyl
  go_region
  rw [← HW1.out] at *
  obtain ⟨x1, x2, x3⟩ := HEX.out ((((w.alloc (.cells #[.int .i64 er, .int .i64 pp] 98)).setCell ⟨x, 0, none⟩ (.pointer none)).setCell ⟨y, 0, none⟩ (.iface 98 (.agg #[.int .i64 er, .int .i64 pp]))).drew) rfl ⟨rfl, rfl, rfl⟩
  exact ⟨rfl, _, rfl, .tuple #[], by simp [results, Tryz.results104, go_sem], rfl, rfl, x1, x2, x3⟩
end TP
end Go.Proofs.YtkldllnnocdhbaaGreatDoor
namespace Go.Proofs.YtkldllnnocdhbaaGreatDoor
open Go.RowKit
attribute [local go_sem ↓] Go.wp_at_zero Go.wp_at_succ
namespace TP
open TR (Nd Byt nums_inj)
open TK (Tok)
/- what whole answers -/
def QW (b : Nat) (l : List Tok) (R : Rs) (W : World) (e : Ending) (w' : World) : Prop := Only b W w' ∧ match R with
  | .bad er pp => e = .returned (.tuple #[.pointer none, .iface 98 (.agg #[.int .i64 er, .int .i64 pp])])
  | .ok f j => if (tk l j).kind = 0 then ∃ g, e = .returned (.tuple #[ptr g, .nilIface]) ∧ PF w' (Sn W.heap.size w') f [ptr g] else e = .returned (.tuple #[.pointer none, .iface 98 (.agg #[.int .i64 22, .int .i64 (tk l j).pos])])
set_option maxRecDepth 100000 in
set_option maxHeartbeats 16000000 in
theorem whole_ (w0 W : World) (b bt off n c ml ms : Nat) (l : List Tok) (hE : Ev w0 b bt off n c l) (ho : Only b w0 W) (hP : QS W b bt off n c ml ms 0 0) (f : FuncId) (hen : Ent f) (R : Rs) (hF : ∀ W', Only b w0 W' → QS W' b bt off n c ml ms 0 0 → Calls Tryz.prog f #[.pointer (some ⟨b, 0, none⟩)] W' (QG b bt off n c ml ms 0 R W')) (hj : ∀ x j, R = .ok x j → j < n) : Calls Tryz.prog 70 #[.pointer (some ⟨b, 0, none⟩), .func (.func f) #[] #[]] W (QW b l R W) := by
  obtain ⟨Post, hPost⟩ : ∃ P : Ending → World → Prop, P = QW b l R W := ⟨_, rfl⟩
  rw [← hPost]
  have HPo : Hid (Post = QW b l R W) := hPost
  clear hPost
  have hmf9 := hmf
  obtain ⟨s, hs⟩ : ∃ s, s = W.heap.size := ⟨_, rfl⟩
  obtain ⟨W2, hW2⟩ : ∃ W2, (W.alloc (.cells #[.pointer none] 91)).alloc (.cells #[.nilIface] 93) = W2 := ⟨_, rfl⟩
  have HU2 : Hid (Up W W2) := by unfold Hid; rw [← hW2]; exact ((Up.refl _).alloc _).alloc _
  have HW2 : Hid ((W.alloc (.cells #[.pointer none] 91)).alloc (.cells #[.nilIface] 93) = W2) := hW2
  have HS : Hid (s = W.heap.size) := hs
  have HC : Hid _ := hF W2 (ho.trans (Only.up HU2.out)) (hP.up HU2.out)
  have HE : Hid (Ev w0 b bt off n c l) := hE
  have HO : Hid (Only b w0 W) := ho
  have HBL : Hid (b < W.heap.size) := hP.cells.2.2.2.2.2.2
  have HCX : Hid (W2.heap[s]? = some (.cells #[.pointer none] 91 (0, 0))) := by
    unfold Hid
    rw [← hW2, hs]
    exact ((Up.refl _).alloc _).heap (heap_alloc_new W _)
  have HCY : Hid (W2.heap[s + 1]? = some (.cells #[.nilIface] 93 (0, 0))) := by
    have h9 := heap_alloc_new (W.alloc (.cells #[.pointer none] 91)) (.cells #[.nilIface] 93)
    unfold Hid
    rw [← hW2, show s + 1 = (W.alloc (.cells #[.pointer none] 91)).heap.size by simp [hs]]
    exact h9
  have HS2 : Hid (W2.heap.size = s + 2) := by unfold Hid; rw [← hW2, hs]; simp
  clear hE ho hP hF hW2 hs
  unfold Ent at hen
  go_enter_defers Tryz.func70, Tryz.ntmps70
  go_wp2_with fail
  rw [HW2.out, ← HS.out]
  refine Calls.mono HC.out ?_
  rintro r w1 ⟨o1, h1⟩
  have hbs : b ≠ s := by have := HBL.out; have := HS.out; omega
  have hbs1 : b ≠ s + 1 := by have := HBL.out; have := HS.out; omega
  have HO1 : Hid (Only b W w1) := (Only.up HU2.out).trans o1
  have HX1 : Hid (w1.heap[s]? = some (.cells #[.pointer none] 91 (0, 0))) := o1.heap HCX.out (fun e => hbs e.symm)
  have HY1 : Hid (w1.heap[s + 1]? = some (.cells #[.nilIface] 93 (0, 0))) := o1.heap HCY.out (fun e => hbs1 e.symm)
  have HZ1 : Hid (s + 2 ≤ w1.heap.size) := by have := o1.2.1; have := HS2.out; unfold Hid; omega
  clear HC HCX HCY HW2 o1
  have c1 : w1.cell? ⟨s, 0, none⟩ = some (.pointer none) := by have := HX1.out; simp [World.cell?, this]
  have f1 : w1.frozen? ⟨s, 0, none⟩ = false := by have := HX1.out; simp [World.frozen?, this]
  have c2 : w1.cell? ⟨s + 1, 0, none⟩ = some .nilIface := by have := HY1.out; simp [World.cell?, this]
  have f2 : w1.frozen? ⟨s + 1, 0, none⟩ = false := by have := HY1.out; simp [World.frozen?, this]
  cases R with
  | bad er pp =>
    obtain rfl : r = pnc er pp := h1
    unfold pnc at *
    go_wp2_with fail
    refine leaves_cons (f := 104) (args := #[.pointer (some ⟨s, 0, none⟩), .pointer (some ⟨s + 1, 0, none⟩)]) (by simp) (by simp [go_sem]) ?_
    refine (catch_fault s (s + 1) _ _ _ _ c1 f1 c2 f2 (by omega)).mono ?_
    rintro e9 u9 w9 ⟨rfl, rfl, x1, x2, x3⟩
    simp [Leaves, settle, results, Tryz.results70, go_sem, x2, x3]
    rw [HPo.out]
    exact ⟨only_exc HO1.out x1 (fun k hk => by have := HS.out; omega), rfl⟩
  | ok x j =>
    obtain ⟨g, rfl, pf, qs⟩ := h1
    have hjn := hj x j rfl
    obtain ⟨V1, hV1⟩ : ∃ V1, w1.setCell ⟨s, 0, none⟩ (ptr g) = V1 := ⟨_, rfl⟩
    have HOV : Hid (Only b W V1) := by
      unfold Hid
      refine only_exc (T := fun k => k = s) HO1.out ⟨⟨by rw [← hV1]; rfl, by rw [← hV1]; rfl, by rw [← hV1]; rfl⟩, by rw [← hV1]; simp [World.setCell], fun k _ hn => by rw [← hV1]; exact Below.heap_setCell _ _ _ _ hn⟩ (fun k hk => by have := HS.out; omega)
    have HQV : Hid (QS V1 b bt off n c ml ms j 0) := by
      unfold Hid QS
      rw [← hV1, Below.heap_setCell _ _ _ _ hbs]
      exact qs
    have HPV : Hid (PF V1 (Sn (s + 2) w1) x [ptr g]) := by
      rw [HS2.out] at pf
      exact PF.keep (fun y o hy e => by rw [← hV1, Below.heap_setCell _ _ _ _ (show y ≠ s from fun e => by unfold Sn at hy; omega)]; exact e) x _ pf
    have HXV : Hid (V1.heap[s]? = some (.cells #[ptr g] 91 (0, 0))) := by unfold Hid; rw [← hV1]; exact set_cells (j := 0) (x := ptr g) HX1.out
    have HYV : Hid (V1.heap[s + 1]? = some (.cells #[.nilIface] 93 (0, 0))) := by unfold Hid; rw [← hV1, Below.heap_setCell _ _ _ _ (show s + 1 ≠ s by omega)]; exact HY1.out
    have HSV : Hid (V1.heap.size = w1.heap.size) := by unfold Hid; rw [← hV1]; simp [World.setCell]
    have HV1 : Hid (w1.setCell ⟨s, 0, none⟩ (ptr g) = V1) := hV1
    have HIE : Hid _ := isEnd_ w0 V1 b bt off n c ml ms j 0 l HE.out (HO.out.trans HOV.out) hjn HQV.out
    clear hV1 pf qs hj
    unfold ptr at *
    go_wp2_with fail
    rw [HV1.out]
    refine Calls.mono HIE.out ?_
    rintro r9 w3 ⟨rfl, u3⟩
    have HO3 : Hid (Only b W w3) := HOV.out.trans (Only.up u3)
    have HU3 : Hid (Up V1 w3) := u3
    have HTK := fun may => ptake_ w0 w3 b bt off n c ml ms j 0 l HE.out (HO.out.trans HO3.out) hjn (HQV.out.up u3) may
    have HTK : Hid _ := HTK
    clear HIE u3 c1 f1 c2 f2
    by_cases hk : (tk l j).kind = 0
    · rw [show decide ((tk l j).kind = 0) = true by simp [hk]]
      have HT : Hid _ := HTK.out true
      have HKK : Hid ((tk l j).kind = 0) := hk
      clear HTK hk
      go_wp2_with fail
      refine Calls.mono HT.out ?_
      rintro r9 w4 ⟨o4, ⟨-, rfl, -⟩ | ⟨h9, -⟩⟩
      · have HX4 : Hid (w4.heap[s]? = some (.cells #[.pointer (some ⟨g, 0, none⟩)] 91 (0, 0))) := o4.heap (HU3.out.heap HXV.out) (fun e => hbs e.symm)
        have HY4 : Hid (w4.heap[s + 1]? = some (.cells #[.nilIface] 93 (0, 0))) := o4.heap (HU3.out.heap HYV.out) (fun e => hbs1 e.symm)
        have HO4 : Hid (Only b W w4) := HO3.out.trans o4
        have HZ4 : Hid (w3.heap.size ≤ w4.heap.size) := o4.2.1
        have HP4 : Hid (PF w4 (Sn (s + 2) w1) x [.pointer (some ⟨g, 0, none⟩)]) := PF.keep (fun y o hy e => o4.heap (HU3.out.heap e) (fun e9 => by have := HBL.out; have := HS.out; unfold Sn at hy; omega)) x _ HPV.out
        have c1 : w4.cell? ⟨s, 0, none⟩ = some (.pointer (some ⟨g, 0, none⟩)) := by have := HX4.out; simp [World.cell?, this]
        have f1 : w4.frozen? ⟨s, 0, none⟩ = false := by have := HX4.out; simp [World.frozen?, this]
        have c2 : w4.cell? ⟨s + 1, 0, none⟩ = some .nilIface := by have := HY4.out; simp [World.cell?, this]
        have f2 : w4.frozen? ⟨s + 1, 0, none⟩ = false := by have := HY4.out; simp [World.frozen?, this]
        clear o4 HT HX4 HY4
        go_wp2_with fail
        obtain ⟨V5, hV5⟩ : ∃ V5, (w4.setCell ⟨s, 0, none⟩ (.pointer (some ⟨g, 0, none⟩))).setCell ⟨s + 1, 0, none⟩ .nilIface = V5 := ⟨_, rfl⟩
        have d1 : V5.cell? ⟨s, 0, none⟩ = some (.pointer (some ⟨g, 0, none⟩)) := by rw [← hV5, World.cell?_setCell_far _ _ _ _ (show s + 1 ≠ s by omega), World.cell?_setCell_same _ _ _ c1]
        have d2 : V5.cell? ⟨s + 1, 0, none⟩ = some .nilIface := by
          rw [← hV5]
          exact World.cell?_setCell_same _ _ _ (by rw [World.cell?_setCell_far _ _ _ _ (show s ≠ s + 1 by omega)]; exact c2)
        have HE5 : Hid (Exc (fun k => k = s ∨ k = s + 1) w4 V5) := by
          refine ⟨⟨by rw [← hV5]; rfl, by rw [← hV5]; rfl, by rw [← hV5]; rfl⟩, by rw [← hV5]; simp [World.setCell], fun k _ hn => ?_⟩
          rw [← hV5, Below.heap_setCell _ _ _ _ (show k ≠ s + 1 from fun e => hn (.inr e)), Below.heap_setCell _ _ _ _ (show k ≠ s from fun e => hn (.inl e))]
        rw [hV5]
        refine leaves_cons (f := 104) (args := #[.pointer (some ⟨s, 0, none⟩), .pointer (some ⟨s + 1, 0, none⟩)]) (by simp) (by simp [go_sem]) ?_
        refine (catch_idle ⟨s, 0, none⟩ ⟨s + 1, 0, none⟩ V5).mono ?_
        rintro e9 u9 w9 ⟨rfl, rfl, u9⟩
        have d3 := u9.cell d1
        have d4 := u9.cell d2
        simp [Leaves, settle, results, Tryz.results70, go_sem, d3, d4]
        rw [HPo.out]
        have hon : Only b W V5 := only_exc HO4.out HE5.out (fun k hk => by have := HS.out; omega)
        refine ⟨hon.trans (Only.up u9), ?_⟩
        show (if (tk l j).kind = 0 then _ else _)
        rw [if_pos HKK.out]
        refine ⟨g, rfl, PF.mono (fun y hy => ?_) x _ (PF.keep (fun y o hy e => ?_) x _ HP4.out)⟩
        · have h1 := HS.out
          have h2 := (hon.trans (Only.up u9)).2.1
          have h3 := HSV.out
          have h4 := HU3.out.size
          have h5 := HZ4.out
          have h6 := HE5.out.2.1
          have h7 := u9.size
          unfold Sn at hy ⊢
          omega
        · refine u9.heap ?_
          rw [HE5.out.2.2 y (Array.getElem?_eq_some_iff.1 e).1 (fun hn => by unfold Sn at hy; omega)]
          exact e
      · cases h9
    · rw [show decide ((tk l j).kind = 0) = false by simp [hk]]
      have HT : Hid _ := HTK.out false
      have HKK : Hid (¬ (tk l j).kind = 0) := hk
      clear HTK hk
      go_wp2_with fail
      refine Calls.mono HT.out ?_
      rintro r9 w4 ⟨o4, ⟨h9, -, -⟩ | ⟨-, rfl⟩⟩
      · cases h9
      · have HX4 : Hid (w4.heap[s]? = some (.cells #[.pointer (some ⟨g, 0, none⟩)] 91 (0, 0))) := o4.heap (HU3.out.heap HXV.out) (fun e => hbs e.symm)
        have HY4 : Hid (w4.heap[s + 1]? = some (.cells #[.nilIface] 93 (0, 0))) := o4.heap (HU3.out.heap HYV.out) (fun e => hbs1 e.symm)
        have HO4 : Hid (Only b W w4) := HO3.out.trans o4
        have c1 : w4.cell? ⟨s, 0, none⟩ = some (.pointer (some ⟨g, 0, none⟩)) := by have := HX4.out; simp [World.cell?, this]
        have f1 : w4.frozen? ⟨s, 0, none⟩ = false := by have := HX4.out; simp [World.frozen?, this]
        have c2 : w4.cell? ⟨s + 1, 0, none⟩ = some .nilIface := by have := HY4.out; simp [World.cell?, this]
        have f2 : w4.frozen? ⟨s + 1, 0, none⟩ = false := by have := HY4.out; simp [World.frozen?, this]
        clear o4 HT HX4 HY4
        unfold pnc at *
        go_wp2_with fail
        refine leaves_cons (f := 104) (args := #[.pointer (some ⟨s, 0, none⟩), .pointer (some ⟨s + 1, 0, none⟩)]) (by simp) (by simp [go_sem]) ?_
        refine (catch_fault s (s + 1) _ _ _ _ c1 f1 c2 f2 (by omega)).mono ?_
        rintro e9 u9 w9 ⟨rfl, rfl, x1, x2, x3⟩
        simp [Leaves, settle, results, Tryz.results70, go_sem, x2, x3]
        rw [HPo.out]
        refine ⟨only_exc HO4.out x1 (fun k hk => by have := HS.out; omega), ?_⟩
        show (if (tk l j).kind = 0 then _ else _)
        rw [if_neg HKK.out]
end TP
end Go.Proofs.YtkldllnnocdhbaaGreatDoor
