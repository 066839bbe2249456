/-
  Bytes and texts in memory.
-/
import Derived.Test.YtkldllnnocdhbaaGreatDoorAs10
import Derived.RegionTactic
import Derived.ChangeAlike
import Derived.Test.YtkldllnnocdhbaaGreatDoorLc
import Derived.Test.YtkldllnnocdhbaaGreatDoorPa10
import Derived.Laws.BytesArg
namespace Go.Proofs.YtkldllnnocdhbaaGreatDoor
open Go.RowKit
attribute [local go_sem ↓] Go.wp_at_zero Go.wp_at_succ
namespace TP
open TR (Nd Byt nums_inj)
open TK (Tok)
/- a list that may be parsed, where it lies -/
structure TL (W : World) (bt off n c : Nat) (l : List Tok) : Prop where
  len : n = l.length
  cap : n ≤ c
  pos : 0 < n
  small : n ≤ 1048576
  cells : ∀ i, i < n → ∀ j x, (tvs1 (tk l i))[j]? = some x → W.cell? ⟨bt, off + i * 4 + j, none⟩ = some x
  more : ∀ i, i + 1 < n → (tk l i).kind ≠ 0
  last : (tk l (n - 1)).kind = 0
  byt : ∀ i, i < n → Byt (tk l i).text
theorem TL.ev {W w1 : World} {b bt off n c : Nat} {l : List Tok} (h : TL W bt off n c l) (u : Up W w1) (hb : W.heap.size ≤ b) (hl : b < w1.heap.size) : Ev w1 b bt off n c l := by
  refine ⟨hl, ?_, h.len, h.cap, h.pos, h.small, fun i hi j x hx => u.cell (h.cells i hi j x hx), h.more, h.last, h.byt⟩
  have h1 := World.block_lt_of_cell? W _ (h.cells 0 h.pos 0 (.int .i8 (tk l 0).kind) rfl)
  have h2 : bt < W.heap.size := h1
  omega
/- what read answers -/
def QR (l : List Tok) (R : Rs) (W : World) (e : Ending) (w' : World) : Prop := Up W w' ∧ match R with
  | .bad er pp => e = .returned (.tuple #[.slice none 0 0, .int .i64 er, .int .i64 pp])
  | .ok f j => if (tk l j).kind = 0 then ∃ v, e = .returned (.tuple #[v, .int .i64 0, .int .i64 0]) ∧ OwN W.heap.size w' v (flF f) else e = .returned (.tuple #[.slice none 0 0, .int .i64 22, .int .i64 (tk l j).pos])
theorem one_tree {W : World} {S : Nat → Prop} {f : Fo} {g : Nat} (h : PF W S f [ptr g]) : ∃ a k, f = .cons a k .nil := by
  cases f with
  | nil => cases h
  | cons a k r =>
    obtain ⟨g2, sv, kv, ws, h1, h2, h3, h4, h5, h6, h7⟩ := h
    have h8 : ws = [] := by
      injection h1 with h9 h10
      exact h10.symm
    subst h8
    cases r with
    | nil => exact ⟨a, k, rfl⟩
    | cons a2 k2 r2 =>
      obtain ⟨g3, sv3, kv3, ws3, e1, -⟩ := h7
      cases e1
set_option maxRecDepth 100000 in
set_option maxHeartbeats 16000000 in
theorem read_ (W : World) (bt off n c : Nat) (l : List Tok) (hT : TL W bt off n c l) (f : FuncId) (hen : Ent f) (R : Rs) (hF : ∀ (w0 : World) (b ml ms : Nat), Ev w0 b bt off n c l → Mps w0 b ml ms lkey → ∀ W', Only b w0 W' → QS W' b bt off n c ml ms 0 0 → Calls Tryz.prog f #[.pointer (some ⟨b, 0, none⟩)] W' (QG b bt off n c ml ms 0 R W')) (hj : ∀ x j, R = .ok x j → j < n) (hw : ∀ x j, R = .ok x j → WfF x ∧ (flF x).length ≤ 100000000) (hM : Calls Tryz.prog 68 #[.slice (some ⟨bt, off, none⟩) n c] W (fun r w' => r = .returned (.bool true) ∧ Up W w')) (hRT : W.cell? ⟨0, 0, none⟩ = some (.iface 181 (.agg #[.pointer (some ⟨4, 93, none⟩)]))) : Calls Tryz.prog 26 #[.slice (some ⟨bt, off, none⟩) n c, .func (.func f) #[] #[]] W (QR l R W) := by
  obtain ⟨Post, hPost⟩ : ∃ P : Ending → World → Prop, P = QR l R W := ⟨_, rfl⟩
  rw [← hPost]
  have HPo : Hid (Post = QR l R W) := hPost
  clear hPost
  have hmf9 := hmf
  have HN : Hid _ := fun w1 => newParser_ w1 bt off n c
  have HT : Hid (TL W bt off n c l) := hT
  have HF : Hid _ := hF
  have HJ : Hid (∀ x j, R = .ok x j → j < n) := hj
  have HWF : Hid (∀ x j, R = .ok x j → WfF x ∧ (flF x).length ≤ 100000000) := hw
  have HM : Hid _ := hM
  have HRT : Hid (W.cell? ⟨0, 0, none⟩ = some (.iface 181 (.agg #[.pointer (some ⟨4, 93, none⟩)]))) := hRT
  clear hT hF hj hw hM hRT
  go_enter Tryz.func26, Tryz.ntmps26
  go_wp2_with fail
  refine Calls.mono HM.out ?_
  rintro r9 w1 ⟨rfl, u1⟩
  have HU1 : Hid (Up W w1) := u1
  clear HM u1
  go_wp2_with fail
  refine Calls.mono (HN.out w1) ?_
  rintro r9 w2 ⟨b, ml, ms, rfl, hb, u2, q2, m2⟩
  have HU2 : Hid (Up W w2) := HU1.out.trans u2
  have hbw : W.heap.size ≤ b := by rw [hb]; exact HU1.out.size
  have HBW : Hid (W.heap.size ≤ b) := hbw
  have HEV : Hid (Ev w2 b bt off n c l) := HT.out.ev HU2.out hbw q2.cells.2.2.2.2.2.2
  have HWH : Hid _ := whole_ w2 w2 b bt off n c ml ms l HEV.out (Only.up (Up.refl _)) q2 f hen R (fun W' o q => HF.out w2 b ml ms HEV.out m2 W' o q) HJ.out
  clear HN u2 q2 m2 hb hbw
  go_wp2_with fail
  refine Calls.mono HWH.out ?_
  rintro r9 w3 ⟨o3, h3⟩
  have HU3 : Hid (Up W w3) := up_only HU2.out o3 HBW.out
  have HRT3 : Hid (w3.cell? ⟨0, 0, none⟩ = some (.iface 181 (.agg #[.pointer (some ⟨4, 93, none⟩)]))) := HU3.out.cell HRT.out
  clear HWH o3
  cases R with
  | bad er pp =>
    have h3 : r9 = .returned (.tuple #[.pointer none, .iface 98 (.agg #[.int .i64 er, .int .i64 pp])]) := h3
    subst h3
    have HAS : Hid _ := as_hit er pp 0 0 w3.heap.size (w3.alloc (.cells #[.int .i64 0, .int .i64 0] 98)) (((Up.refl w3).alloc _).cell HRT3.out) (heap_alloc_new w3 _)
    go_wp2_with fail
    refine Calls.mono HAS.out ?_
    rintro r9 w4 ⟨rfl, e4⟩
    have HU4 : Hid (Up W w4) := by
      unfold Hid
      rw [e4]
      exact up_set1 (up_set1 (((((HU3.out.alloc _).alloc _).alloc _).alloc _).alloc _) 0 _ HU3.out.size) 1 _ HU3.out.size
    obtain ⟨g, hg⟩ : ∃ g, g = w3.heap.size := ⟨_, rfl⟩
    have h7 : w4.heap[g]? = some (.cells #[.int .i64 er, .int .i64 pp] 98 (0, 0)) := by
      rw [e4, hg]
      exact set_cells (j := 1) (x := .int .i64 pp) (set_cells (j := 0) (x := .int .i64 er) (((((Up.refl _).alloc _).alloc _).alloc _).alloc _ |>.heap (heap_alloc_new w3 (.cells #[.int .i64 0, .int .i64 0] 98))))
    have q0 : w4.cell? ⟨g, 0, none⟩ = some (.int .i64 er) := by simp [World.cell?, h7]
    have q1 : w4.cell? ⟨g, 1, none⟩ = some (.int .i64 pp) := by simp [World.cell?, h7]
    rw [← hg]
    clear e4 HAS hg h7
    go_wp2_with fail
    go_region
    go_wp2_with fail
    rw [HPo.out]
    refine ⟨⟨HU4.out.os, HU4.out.tape, HU4.out.output, HU4.out.size, HU4.out.block⟩, ?_⟩
    rfl
  | ok x j =>
    have h3 : (if (tk l j).kind = 0 then ∃ g, r9 = .returned (.tuple #[ptr g, .nilIface]) ∧ PF w3 (Sn w2.heap.size w3) x [ptr g] else r9 = .returned (.tuple #[.pointer none, .iface 98 (.agg #[.int .i64 22, .int .i64 (tk l j).pos])])) := h3
    by_cases hk : (tk l j).kind = 0
    · rw [if_pos hk] at h3
      obtain ⟨g, rfl, pf⟩ := h3
      obtain ⟨W5, hW5⟩ : ∃ W5, w3.alloc (.cells #[.int .i64 0, .int .i64 0] 98) = W5 := ⟨_, rfl⟩
      have HU5 : Hid (Up w3 W5) := by unfold Hid; rw [← hW5]; exact (Up.refl _).alloc _
      have HW5 : Hid (w3.alloc (.cells #[.int .i64 0, .int .i64 0] 98) = W5) := hW5
      obtain ⟨a, k, rfl⟩ := one_tree pf
      obtain ⟨g2, e1, hl⟩ := laid_ _ _ (HWF.out _ j rfl).1 (PF.keep (fun y o _ e => HU5.out.heap e) _ _ pf) 0 (Nat.succ_pos _)
      obtain rfl : g2 = g := by
        have h8 : some (ptr g) = some (ptr g2) := e1
        simp only [Option.some.injEq, Value.pointer.injEq, Addr.mk.injEq] at h8
        exact h8.1.symm
      have HLD : Hid _ := hl W5 (.slice none 0 0) [] (Up.refl _) (World.ownsRow_nil _ _ _ _) (by have h8 := (HWF.out _ j rfl).2; have h9 : flF (.cons a k .nil) = a :: (flF k ++ []) := rfl; rw [h9, List.append_nil] at h8; show 0 + (a :: flF k).length ≤ _; omega)
      have HN0 : Hid _ := as_nil
      have HKK : Hid ((tk l j).kind = 0) := hk
      clear hl pf e1 hW5 hk
      unfold ptr at *
      go_wp2_with fail
      rw [HW5.out]
      refine Calls.mono (HN0.out _ _) ?_
      rintro r9 w6 ⟨rfl, rfl⟩
      go_wp2_with fail
      refine Calls.mono HLD.out ?_
      rintro r9 w7 ⟨v, rfl, hown, u7⟩
      have HOW : Hid (OwN w6.heap.size w7 v ([] ++ fl1 (a, k))) := hown
      have HU7 : Hid (Up w6 w7) := u7
      clear hown u7 HLD
      go_wp2_with fail
      rw [HPo.out]
      refine ⟨HU3.out.trans (HU5.out.trans HU7.out), ?_⟩
      show (if (tk l j).kind = 0 then _ else _)
      rw [if_pos HKK.out]
      refine ⟨v, rfl, ?_⟩
      have h9 : flF (.cons a k .nil) = [] ++ fl1 (a, k) := List.append_nil (a :: flF k)
      rw [h9]
      exact ows_base HOW.out (HU3.out.trans HU5.out).size
    · rw [if_neg hk] at h3
      subst h3
      have HKK : Hid (¬ (tk l j).kind = 0) := hk
      clear hk
      have HAS : Hid _ := as_hit 22 (tk l j).pos 0 0 w3.heap.size (w3.alloc (.cells #[.int .i64 0, .int .i64 0] 98)) (((Up.refl w3).alloc _).cell HRT3.out) (heap_alloc_new w3 _)
      go_wp2_with fail
      refine Calls.mono HAS.out ?_
      rintro r9 w4 ⟨rfl, e4⟩
      have HU4 : Hid (Up W w4) := by
        unfold Hid
        rw [e4]
        exact up_set1 (up_set1 (((((HU3.out.alloc _).alloc _).alloc _).alloc _).alloc _) 0 _ HU3.out.size) 1 _ HU3.out.size
      obtain ⟨g, hg⟩ : ∃ g, g = w3.heap.size := ⟨_, rfl⟩
      have h7 : w4.heap[g]? = some (.cells #[.int .i64 22, .int .i64 (tk l j).pos] 98 (0, 0)) := by
        rw [e4, hg]
        exact set_cells (j := 1) (x := .int .i64 (tk l j).pos) (set_cells (j := 0) (x := .int .i64 22) (((((Up.refl _).alloc _).alloc _).alloc _).alloc _ |>.heap (heap_alloc_new w3 (.cells #[.int .i64 0, .int .i64 0] 98))))
      have q0 : w4.cell? ⟨g, 0, none⟩ = some (.int .i64 22) := by simp [World.cell?, h7]
      have q1 : w4.cell? ⟨g, 1, none⟩ = some (.int .i64 (tk l j).pos) := by simp [World.cell?, h7]
      rw [← hg]
      clear e4 HAS hg h7
      go_wp2_with fail
      go_region
      go_wp2_with fail
      rw [HPo.out]
      refine ⟨⟨HU4.out.os, HU4.out.tape, HU4.out.output, HU4.out.size, HU4.out.block⟩, ?_⟩
      show (if (tk l j).kind = 0 then _ else _)
      rw [if_neg HKK.out]
      rfl

end TP
end Go.Proofs.YtkldllnnocdhbaaGreatDoor
namespace Go.Proofs.YtkldllnnocdhbaaGreatDoor
open Go.RowKit

theorem wpList_slice_h {P : Program} {w : World} {ops : Array Oper} {rest : List Oper} {o : Oper} {a : Act} {Q : Exit → Act → World → Prop} (hgd : o.guard = none) (t : TypeId) (x hi : Operand) (ho : o.op = .slice t x none (some hi) none)
    (e : TypeId) (size : Nat) (hu : P.underlying t = some (.slice e)) (hsz : (P.info? e).map (·.size) = some size) (ad : Option Addr) (n cap k : Nat) (hx : a.eval x = .slice ad n cap) (hk : a.eval hi = .int .i64 (k : Int)) (hle : k ≤ cap)
    (h : wpList P ops Q rest (a.put o.dst (.slice ad k cap)) w) : wpList P ops Q (o :: rest) a w := by
  refine wpList_plain hgd fun K hK => ?_
  have hrun : (Instr.sliceAt t (.slice ad n cap) none (some (.int .i64 (k : Int))) none).run P w = .ok (.slice ad k cap) w := by
    have hadd : ∀ z : Addr, z.add 0 = z := fun z => by cases z with | mk b o s => cases s <;> rfl
    cases hq : P.info? e with
    | none => simp [hq] at hsz
    | some i =>
      simp only [Instr.sliceAt, Sem.run_bind, run_underlying hu, Result.andThen]
      simp [Instr.slice, run_underlying hu, Instr.sliceBounds, run_sliceBound, sizeOf, typeInfo, hq, hle]
      cases ad <;> simp [hadd]
  unfold Oper.wp execOp
  simp only [ho, Option.map, hx, hk, Sem.run_bind, hrun, Result.andThen_ok, Sem.run_pure]
  exact hK _ _ h
theorem wpList_slice_l {P : Program} {w : World} {ops : Array Oper} {rest : List Oper} {o : Oper} {a : Act} {Q : Exit → Act → World → Prop} (hgd : o.guard = none) (t : TypeId) (x lo : Operand) (ho : o.op = .slice t x (some lo) none none)
    (e : TypeId) (size : Nat) (hu : P.underlying t = some (.slice e)) (hsz : (P.info? e).map (·.size) = some size) (ad : Option Addr) (n cap k : Nat) (hx : a.eval x = .slice ad n cap) (hk : a.eval lo = .int .i64 (k : Int)) (hle : k ≤ n) (hnc : n ≤ cap)
    (h : ∀ ad', (k < n → ad' = ad.map (·.add (k * size))) → wpList P ops Q rest (a.put o.dst (.slice ad' (n - k) (cap - k))) w) : wpList P ops Q (o :: rest) a w := by
  refine wpList_plain hgd fun K hK => ?_
  have hrun : (Instr.sliceAt t (.slice ad n cap) (some (.int .i64 (k : Int))) none none).run P w = .ok (.slice (if cap = k then ad else ad.map (·.add (k * size))) (n - k) (cap - k)) w := by
    cases hq : P.info? e with
    | none => simp [hq] at hsz
    | some i =>
      have hi : i.size = size := by simpa [hq] using hsz
      simp only [Instr.sliceAt, Sem.run_bind, run_underlying hu, Result.andThen]
      simp [Instr.slice, run_underlying hu, Instr.sliceBounds, run_sliceBound, sizeOf, typeInfo, hq, hle, hi]
  unfold Oper.wp execOp
  simp only [ho, Option.map, hx, hk, Sem.run_bind, hrun, Result.andThen_ok, Sem.run_pure]
  exact hK _ _ (h _ (fun hlt => if_neg (by omega)))
theorem src_take {w w1 : World} {b off n : Nat} {cs c : List Value} (h : ∀ j x, cs[j]? = some x → w.cell? ⟨b, off + j, none⟩ = some x) (u : Up w w1) (hc : c = cs.take n) : ∀ j v, c[j]? = some v → w1.cell? ((⟨b, off, none⟩ : Addr).add j) = some v := by
  intro j v hv
  rw [Addr.add_mid]
  refine u.cell (h j v ?_)
  rw [hc, List.getElem?_take] at hv
  split at hv
  · exact hv
  · cases hv
theorem src_drop {w w1 : World} {b off n : Nat} {cs c : List Value} (h : ∀ j x, cs[j]? = some x → w.cell? ⟨b, off + j, none⟩ = some x) (u : Up w w1) (hc : c = cs.drop n) : ∀ j v, c[j]? = some v → w1.cell? ((⟨b, off + n, none⟩ : Addr).add j) = some v := by
  intro j v hv
  rw [Addr.add_mid, Nat.add_assoc]
  refine u.cell (h (n + j) v ?_)
  rw [hc, List.getElem?_drop] at hv
  exact hv
theorem run_copy0 {P : Program} (w : World) (dT sT ty elem : TypeId) (size : Nat) (hu : P.underlying dT = some (.slice elem)) (hsz : (P.info? elem).map (·.size) = some size) (dp sp : Option Addr) (dLen dCap sCap : Nat) :
    (Builtin.copy_ #[dT, sT] ty #[.slice dp dLen dCap, .slice sp 0 sCap]).run P w = .ok (goInt 0) w := by
  cases hq : P.info? elem with
  | none => simp [hq] at hsz
  | some i =>
    have hm : Nat.min 0 dLen = 0 := Nat.zero_min _
    have hl0 : ∀ (x : Addr), (loadCells x 0).run P w = .ok #[] w := fun x => by simpa using run_loadCells_list (P := P) w x [] (by simp)
    cases sp <;> cases dp <;> simp [Builtin.copy_, run_underlying hu, Builtin.lenOf, Builtin.firstCells, sizeOf, typeInfo, hq, hm, storeCells, hl0]
theorem made_up {w w1 : World} (h : w.grownBy w1 none) : Up w w1 := Below.grown (Up.refl _) h (Nat.le_refl _) (fun k hk => by cases hk)
end Go.Proofs.YtkldllnnocdhbaaGreatDoor
namespace Go.Proofs.YtkldllnnocdhbaaGreatDoor
namespace SM
open Go.RowKit

def Lies (w : World) (v : Value) (zs : List Nat) : Prop :=
  ∃ a cap, v = .slice a zs.length cap ∧ (a = none → cap = 0) ∧ (zs.length ≠ 0 → ∃ b off, a = some ⟨b, off, none⟩ ∧ ∀ i, i < zs.length → w.cell? ⟨b, off + i, none⟩ = some (.int .u8 (zs.getD i 0 : Nat)))
def Bys (zs : List Nat) : Prop := ∀ i, zs.getD i 0 < 256
theorem Lies.up {w w' : World} {v : Value} {zs : List Nat} (h : Lies w v zs) (u : Up w w') : Lies w' v zs := by
  obtain ⟨a, cap, rfl, hz, h⟩ := h
  refine ⟨a, cap, rfl, hz, fun hn => ?_⟩
  obtain ⟨b, off, rfl, hc⟩ := h hn
  exact ⟨b, off, rfl, fun i hi => u.cell (hc i hi)⟩
theorem take_snoc' (zs : List Nat) (k : Nat) (h : k < zs.length) : zs.take (k + 1) = zs.take k ++ [zs.getD k 0] := by
  rw [List.take_succ_eq_append_getElem h]; simp [List.getD, List.getElem?_eq_getElem h]
theorem Bys.mem {zs : List Nat} (h : Bys zs) : ∀ c ∈ zs, c < 256 := by
  intro c hc
  obtain ⟨i, hi, rfl⟩ := List.getElem_of_mem hc
  have := h i
  rwa [List.getD, List.getElem?_eq_getElem hi] at this
theorem Bys.of {zs : List Nat} (h : ∀ c ∈ zs, c < 256) : Bys zs := by
  intro i
  by_cases hi : i < zs.length
  · rw [List.getD, List.getElem?_eq_getElem hi]; exact h _ (List.getElem_mem hi)
  · rw [List.getD, List.getElem?_eq_none (by omega)]; decide
theorem Bys.take {zs : List Nat} (h : Bys zs) (k : Nat) : Bys (zs.take k) := Bys.of fun c hc => h.mem c (List.mem_of_mem_take hc)

def bv (c : Nat) : Value := .int .u8 (c : Int)
def Owns (w : World) (base : Nat) (v : Value) (zs : List Nat) : Prop := w.ownsRow base 5 1 v zs.length (zs.map bv)
theorem Owns.lies {w : World} {base : Nat} {v : Value} {zs : List Nat} (h : Owns w base v zs) : Lies w v zs := by
  have hs : w.ownsRow base 5 1 v zs.length (zs.map bv) := h
  rcases hs.2 with ⟨rfl, hn⟩ | ⟨g, cap, cur, rfl, _⟩
  · exact ⟨none, 0, by rw [hn], fun _ => rfl, fun hz => absurd hn hz⟩
  · refine ⟨_, cap, rfl, (fun h => by cases h), fun _ => ⟨g, 0, rfl, fun i hi => ?_⟩⟩
    rw [Nat.zero_add, hs.cellAt i (by omega)]
    simp [List.getD, List.getElem?_eq_getElem hi, bv]
theorem bv_one (zs : List Nat) : ∀ u ∈ zs.map bv, u.oneCell' = true := by
  intro u hu
  obtain ⟨c, _, rfl⟩ := List.mem_map.1 hu
  rfl
theorem info5 : (Tryz.prog.info? 5).map (fun i => (i.zero, i.size, i.bytes)) = some (some (.int .u8 0), 1, 1) := by kernel_rfl
theorem lies_cells {w : World} {ad : Addr} {cap : Nat} {zs : List Nat} (h : Lies w (.slice (some ad) zs.length cap) zs) : ∀ j u, (zs.map bv)[j]? = some u → w.cell? (ad.add j) = some u := by
  intro j u hj
  have hjl : j < zs.length := by have := (List.getElem?_eq_some_iff.1 hj).1; simpa using this
  obtain ⟨a', cap', hv, _, h⟩ := h
  simp only [Value.slice.injEq] at hv
  obtain ⟨b, off, ha, hc⟩ := h (by omega)
  obtain ⟨e, _, _⟩ := hv
  rw [ha] at e
  simp only [Option.some.injEq] at e
  subst e
  rw [Addr.add_mid, hc j hjl, ← hj]
  simp [List.getD, List.getElem?_eq_getElem hjl, bv]
theorem lies_none {w : World} {len cap : Nat} {zs : List Nat} (h : Lies w (.slice none len cap) zs) : zs = [] := by
  obtain ⟨a', cap', hv, _, h⟩ := h
  simp only [Value.slice.injEq] at hv
  obtain ⟨e, _, _⟩ := hv
  apply List.eq_nil_of_length_eq_zero
  apply Classical.byContradiction
  intro hn
  obtain ⟨b, off, ha, _⟩ := h hn
  rw [← e] at ha
  cases ha
theorem lies_nocap {w : World} {len cap : Nat} {zs : List Nat} (h : Lies w (.slice none len cap) zs) : cap = 0 := by
  obtain ⟨a', cap', hv, hz, _⟩ := h
  simp only [Value.slice.injEq] at hv
  obtain ⟨e, _, e3⟩ := hv
  rw [e3]; exact hz e.symm
theorem up_grown {w W w' : World} {m base : Nat} {va : Value} {ys : List Value} (hO : W.ownsRow base 5 1 va m ys) (hU : Up w W) (hb : w.heap.size ≤ base)
    (hgrow : W.grownBy w' va.ownBlock) : Up w w' := by
  refine Below.grown hU hgrow hU.size ?_
  intro k hk
  have := hO.lt k hk
  omega
theorem ret_bool {a b : Bool} (h : a = b) : Ending.returned (.bool a) = .returned (.bool b) := by rw [h]
theorem take_ne (zs ys : List Nat) (k : Nat) (h : zs.getD k 0 ≠ ys.getD k 0) : zs ≠ ys := by
  intro e; subst e; exact h rfl
theorem take_eq_snoc (zs ys : List Nat) (k : Nat) (h1 : k < zs.length) (h2 : k < ys.length) (h : zs.take k = ys.take k) (e : zs.getD k 0 = ys.getD k 0) : zs.take (k + 1) = ys.take (k + 1) := by
  rw [take_snoc' zs k h1, take_snoc' ys k h2, h, e]
/- a row of bytes that the call made, written over place by place -/
def Row (w : World) (base g : Nat) (L : List Nat) : Prop := w.ownsRow base 5 1 (.slice (some ⟨g, 0, none⟩) L.length L.length) L.length (L.map bv)
theorem Row.cell {w : World} {base g : Nat} {L : List Nat} (h : Row w base g L) (k : Nat) (hk : k < L.length) : w.cell? ⟨g, k, none⟩ = some (.int .u8 (L.getD k 0 : Nat)) := by
  have h' : w.ownsRow base 5 1 (.slice (some ⟨g, 0, none⟩) L.length L.length) L.length (L.map bv) := h
  rw [h'.cellAt k (by omega)]
  simp [List.getD, List.getElem?_eq_getElem hk, bv]
theorem Row.frozen {w : World} {base g : Nat} {L : List Nat} (h : Row w base g L) (k : Nat) : w.frozen? ⟨g, k, none⟩ = false := World.ownsRow.frozenAt h k
theorem Row.base_le {w : World} {base g : Nat} {L : List Nat} (h : Row w base g L) : base ≤ g ∧ g < w.heap.size := World.ownsRow.lt h g rfl
theorem Row.set {w : World} {base g : Nat} {L : List Nat} (h : Row w base g L) (k c : Nat) : Row (w.setCell ⟨g, k, none⟩ (.int .u8 (c : Int))) base g (L.set k c) := by
  have h' : w.ownsRow base 5 1 (.slice (some ⟨g, 0, none⟩) L.length L.length) L.length (L.map bv) := h
  have := (h'.stored k (.int .u8 (c : Int))).1
  unfold Row
  rw [List.length_set, List.map_set]
  exact this
theorem Row.up {w w' : World} {base g : Nat} {L : List Nat} (h : Row w base g L) (u : Up w w') : Row w' base g L := by
  obtain ⟨h1, h2⟩ := h
  refine ⟨h1, ?_⟩
  rcases h2 with ⟨e, _⟩ | ⟨g', cap, cur, e1, e2, e3, r⟩
  · cases e
  · refine Or.inr ⟨g', cap, cur, e1, e2, ?_, r⟩
    rw [u.block g' (Array.getElem?_eq_some_iff.1 e3).1]; exact e3
theorem Row.lies {w : World} {base g cap : Nat} {L : List Nat} (h : Row w base g L) (n : Nat) (hn : n ≤ L.length) : Lies w (.slice (some ⟨g, 0, none⟩) n cap) (L.take n) := by
  have hl : (L.take n).length = n := by rw [List.length_take]; omega
  refine ⟨_, cap, by rw [hl], (fun e => by cases e), fun _ => ⟨g, 0, rfl, fun i hi => ?_⟩⟩
  rw [Nat.zero_add, h.cell i (by omega)]
  simp only [List.getD]
  rw [List.getElem?_take_of_lt (by omega)]
def mark (j : Nat) : Nat := (282 + 7 * j) % 256
def fillL (zs : List Nat) (k n : Nat) : List Nat := (List.range n).map fun j => if j < k then (if j < zs.length then zs.getD j 0 else mark j) else 0
theorem fillL_len (zs : List Nat) (k n : Nat) : (fillL zs k n).length = n := by simp [fillL]
theorem fillL_zero (zs : List Nat) (n : Nat) : (fillL zs 0 n).map bv = List.replicate n (.int .u8 0) := by
  unfold fillL
  apply List.ext_getElem
  · simp
  · intro i h1 h2; simp [bv]
theorem fillL_set (zs : List Nat) (k n c : Nat) (h : c = if k < zs.length then zs.getD k 0 else mark k) : (fillL zs k n).set k c = fillL zs (k + 1) n := by
  unfold fillL
  apply List.ext_getElem
  · simp
  · intro i h1 h2
    simp only [List.getElem_set, List.getElem_map, List.getElem_range]
    by_cases e : k = i
    · subst e; rw [if_pos rfl, if_pos (Nat.lt_succ_self k), h]
    · rw [if_neg e]
      by_cases hik : i < k
      · rw [if_pos hik, if_pos (show i < k + 1 by omega)]
      · rw [if_neg hik, if_neg (show ¬ i < k + 1 by omega)]
theorem fillL_at (zs : List Nat) (k n j : Nat) (h : j < n) : (fillL zs k n).getD j 0 = if j < k then (if j < zs.length then zs.getD j 0 else mark j) else 0 := by
  simp [fillL, List.getD, h]
theorem fillL_take (zs : List Nat) (n : Nat) (h : zs.length ≤ n) : (fillL zs n n).take zs.length = zs := by
  apply List.ext_getElem
  · simp [fillL]; omega
  · intro i h1 h2
    simp only [List.getElem_take, fillL, List.getElem_map, List.getElem_range]
    rw [if_pos (by omega), if_pos h2, List.getD, List.getElem?_eq_getElem h2]; rfl
end SM
end Go.Proofs.YtkldllnnocdhbaaGreatDoor
namespace Go.Proofs.YtkldllnnocdhbaaGreatDoor
open Go.RowKit
namespace TK
def Byt (l : List Int) : Prop := ∀ c ∈ l, 0 ≤ c ∧ c < 256
theorem Byt.at {l : List Int} (h : Byt l) (i : Nat) : 0 ≤ l.getD i 0 ∧ l.getD i 0 < 256 := by
  by_cases hi : i < l.length
  · rw [List.getD_eq_getElem?_getD, List.getElem?_eq_getElem hi]
    exact h _ (List.getElem_mem hi)
  · rw [List.getD_eq_getElem?_getD, List.getElem?_eq_none (by omega)]
    decide
def bvs (l : List Int) : List Value := l.map fun z => .int .u8 z
theorem bvs_at {l : List Int} {i : Nat} (h : i < l.length) : (bvs l)[i]? = some (.int .u8 (l.getD i 0)) := by simp [bvs, List.getD, h]
def BL (W : World) (v : Value) (l : List Int) : Prop := LC W v 1 l.length (bvs l)
theorem BL.up {W W' : World} {v : Value} {l : List Int} (h : BL W v l) (u : Up W W') : BL W' v l := LC.up h u
theorem bl_cells {W : World} {v : Value} {B : List Int} (h : BL W v B) : ∃ a c, v = .slice a B.length c ∧ B.length ≤ c ∧ (B.length ≠ 0 → ∃ b off, a = some ⟨b, off, none⟩ ∧ ∀ W', Up W W' → ∀ j, j < B.length → W'.cell? ⟨b, off + j, none⟩ = some (.int .u8 (B.getD j 0))) := by
  obtain ⟨-, a, c, h2, h3, h4⟩ := h
  refine ⟨a, c, h2, h3, fun hn => ?_⟩
  obtain ⟨b, off, h5, h6⟩ := h4 hn
  refine ⟨b, off, h5, fun W' u j hj => ?_⟩
  have h7 := h6 j (by omega)
  rw [bvs_at hj] at h7
  exact u.cell h7
/- a list that is not empty, at its block -/
def BA (W : World) (b o : Nat) (B : List Int) : Prop := ∀ W', Up W W' → ∀ j, j < B.length → W'.cell? ⟨b, o + j, none⟩ = some (.int .u8 (B.getD j 0))
theorem BA.up {W W' : World} {b o : Nat} {B : List Int} (h : BA W b o B) (u : Up W W') : BA W' b o B := fun V x => h V (u.trans x)
theorem sub_getD {B : List Int} {p e i : Nat} (hi : i < e - p) : (sub B p e).getD i 0 = B.getD (p + i) 0 := by
  unfold sub
  rw [List.getD_eq_getElem?_getD, List.getElem?_take_of_lt hi, List.getElem?_drop, ← List.getD_eq_getElem?_getD]
theorem sub_len {B : List Int} {p e : Nat} (he : e ≤ B.length) : (sub B p e).length = e - p := by
  unfold sub
  rw [List.length_take, List.length_drop]
  omega
/- a part of the bytes as a text -/
theorem conv_sub {W : World} {b o : Nat} {B : List Int} (h : BA W b o B) {p e : Nat} (he : e ≤ B.length) (cap : Nat) : (convert 26 9 (.slice (some ⟨b, o + p, none⟩) (e - p) cap)).run Tryz.prog W = .ok (.string (strOfNums (sub B p e))) W := by
  refine run_convert_bytes_arg W 26 5 Tryz.underlying26 Tryz.underlying5 b (o + p) (e - p) cap (sub B p e) (sub_len he) (fun i hi => ?_) 9 Tryz.underlying9
  rw [sub_getD hi, Nat.add_assoc]
  exact h W (Up.refl _) (p + i) (by omega)
/- tokens in memory -/
def sv (l : List Int) : Value := .string (strOfNums l)
def tvs1 (t : Tok) : List Value := [.int .i8 t.kind, sv t.text, .int .i64 t.num, .int .i64 t.pos]
def tvs (l : List Tok) : List Value := l.flatMap tvs1
theorem tvs_app (a b : List Tok) : tvs (a ++ b) = tvs a ++ tvs b := List.flatMap_append
theorem tvs_len (l : List Tok) : (tvs l).length = l.length * 4 := by
  induction l with
  | nil => rfl
  | cons t l ih => unfold tvs at *; rw [List.flatMap_cons, List.length_append, ih]; simp [tvs1]; omega
theorem infoTok : (Tryz.prog.info? 45).map (fun i => (i.zero, i.size, i.bytes)) = some (some (.agg #[.int .i8 0, .string ByteArray.empty, .int .i64 0, .int .i64 0]), 4, 40) := by kernel_rfl
end TK
end Go.Proofs.YtkldllnnocdhbaaGreatDoor
