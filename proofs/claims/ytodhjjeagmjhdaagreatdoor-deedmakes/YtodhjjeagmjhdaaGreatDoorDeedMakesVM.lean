/- The law DeedMakes returns true for every state and every deed that is asked for: what it answers, and whether it is refused, is what the document answers; what was handed in stays, and is not kept; the answers are lists of their own; no conditions. -/
import Derived.Test.YtodhjjeagmjhdaaGreatDoorSzTvCsa6M
import Derived.Test.YtodhjjeagmjhdaaGreatDoorMt6TvSqM
import Derived.Test.YtodhjjeagmjhdaaGreatDoorDpa6VM
import Derived.Test.YtodhjjeagmjhdaaGreatDoorWee6TvBae6M
import Derived.Test.YtodhjjeagmjhdaaGreatDoorBkeTvBxeM
import Derived.WalkKit
import Derived.ProofKit
import Derived.OpenShut
import Derived.ChangeOld
import Derived.SizedLaws
import Derived.Deep.Slices
import Derived.Deep.Strs
import Derived.Test.YtodhjjeagmjhdaaGreatDoorSu6TvAt6M
import Derived.Test.YtodhjjeagmjhdaaGreatDoorRows
import Derived.Test.YtodhjjeagmjhdaaGreatDoorCards
import Derived.Test.YtodhjjeagmjhdaaGreatDoorTie
import Derived.LaidMore
import Derived.ShutString
import Derived.Below
import Derived.SevenTiedAt
import Derived.Stop.Joined
namespace Go.Proofs.YtodhjjeagmjhdaaGreatDoor
open Go.RowKit
attribute [local go_sem ↓] Go.wp_at_zero Go.wp_at_succ
namespace DE
open Go.Proofs.YtodhjjeagmjhdaaGreatDoor.ST
theorem ask_ord (s : Stt) (d : DoT) : ∀ e, (askO s d).2 = some e -> e.ord = [] ∨ e.ord = d.ord := fun e he => by
 have hg := ask_good s d
 by_cases hok : ff s = none
 ·rcases hg.2 hok with h | h | ⟨e', h, -, h2⟩
  ·rw [h] at he; cases he
  ·rw [h] at he; cases he
  ·rw [h] at he
   cases he
   exact h2
 ·rw [hg.1 hok] at he; cases he
def zDo : Array Value := #[.int .i64 0, .int .i64 0, .int .i64 0, .bool false, .int .i8 0, .int .i64 0, .slice none 0 0]
theorem doc_all {d : DoT} {oa : Option Addr} {n oc : Nat} : (doc d (.slice oa n oc)).all (·.oneCell') = true := by simp [doc, Value.oneCell']
set_option maxRecDepth 100000 in
set_option maxHeartbeats 8000000 in
theorem makesW (v vo : Value) (s : Stt) (d : DoT) (w : World) (hv : StL w v s) (hf : Far s) (ho : IL w vo d.ord) (hn0 : d.ord.length <= 140737488355328) (hb1 : -9223372036854775808 <= d.by_) (hb2 : d.by_ <= 9223372036854775807) :
  Calls Tryz.prog 6 #[v, .agg (doc d vo)] w fun x w' => x = .returned (.bool true) /\ Up w w' := by
 have HLV : Hid (∀ W, Calls Tryz.prog 20 #[] W fun x w' => x = .returned (.bool true) /\ Up W w') := lives_
 have HBY : Hid (∀ W g, Up w W -> W.heap[g]? = some (.cells (evc (oEv d.ord) vo) 30 (0, 0)) -> Calls Tryz.prog 8 #[v, .slice (some ⟨g, 0, none⟩) 1 1] W fun x w' => x = .returned (.bool (decide (2147483647 < lenS s + lenE [oEv d.ord]))) /\ Up W w') := fun W g u hg =>
  beyond_ v _ s [oEv d.ord] W (hv.up u) hf (evs_one hg (ho.up u)) ⟨by simp, fun r hr => by
   simp only [List.length_singleton] at hr
   obtain rfl : r = 0 := by omega
   exact hn0⟩
 have HST : Hid (StL w v s) := hv
 have HIL : Hid (IL w vo d.ord) := ho
 obtain ⟨oa, oc, hvo, -, -⟩ := il_at ho
 obtain ⟨vp, vc, vz, hvv, h1, h2, h3⟩ := hv
 obtain ⟨a1, k1, rfl, -, -⟩ := lc_at h1
 obtain ⟨a2, k2, rfl, -, -⟩ := lc_at h2
 obtain ⟨a3, k3, rfl, -, -⟩ := zl_at h3
 unfold sv at hvv
 clear h1 h2 h3 ho
 obtain ⟨A, hA0⟩ : ∃ A : Array Value, A = #[.slice a1 s.ps.length k1, .slice a2 s.cs.length k2, .slice a3 s.zs.length k3, .int .i32 s.turn, .int .i64 s.whose, .int .i8 s.fin, .int .i64 s.winner] := ⟨_, rfl⟩
 have hA1 : A.size = 7 := by rw [hA0]; rfl
 rw [<- hA0] at hvv
 obtain ⟨W1, hW1⟩ : ∃ W1, ((w.alloc (.cells A 27)).alloc (.cells (doc d vo) 73)).alloc (.cells (evc (oEv d.ord) vo) 30) = W1 := ⟨_, rfl⟩
 have hA : W1.heap[w.heap.size]? = some (.cells A 27 (0, 0)) := by rw [<- hW1, Below.heap_alloc _ _ _ (by simp; omega)]; exact heap_alloc2_old _ _ _
 have hD : W1.heap[w.heap.size + 1]? = some (.cells (doc d vo) 73 (0, 0)) := by rw [<- hW1, Below.heap_alloc _ _ _ (by simp)]; exact heap_alloc2_new _ _ _
 have hB : W1.heap[w.heap.size + 1 + 1]? = some (.cells (evc (oEv d.ord) vo) 30 (0, 0)) := by
  rw [<- hW1]
  have := heap_alloc_new ((w.alloc (.cells A 27)).alloc (.cells (doc d vo) 73)) (.cells (evc (oEv d.ord) vo) 30)
  simpa using this
 have HU : Up w W1 := by rw [<- hW1]; exact (((Up.refl _).alloc _).alloc _).alloc _
 have HBC : Hid _ := HBY.out W1 (w.heap.size + 1 + 1) HU hB
 have HAV : Hid (Value.agg A = v) := hvv.symm
 subst hvo
 clear HBY hB
 rw [hA0] at hW1
 unfold evc oEv doc at hW1
 by_cases hlong : 2147483647 < lenS s + lenE [oEv d.ord]
 ·rw [decide_eq_true hlong] at HBC
  clear hb1 hb2
  rw [hvv, hA0] at HBC ⊢
  unfold doc
  clear hA hD hA0 HAV HST HIL HLV hvv hA1
  go_enter Tryz.func6, Tryz.ntmps6
  go_wp2_with fail
  first | (refine Calls.mono HBC.out ?_) | (refine calls_world hW1 (Calls.mono HBC.out ?_))
  rintro r W2 ⟨rfl, u2⟩
  have HZ : Hid (Up w W2) := HU.trans u2
  clear u2 hW1 HU
  go_wp2
  go_ret
  exact ⟨rfl, HZ.out⟩
 ·rw [decide_eq_false hlong] at HBC
  have HSM : Hid (Small s) := small_of (by omega)
  have hn : d.ord.length <= 4294967296 := by
   have : d.ord.length <= lenE [oEv d.ord] := by simp [lenE, ords, oEv]
   omega
  have hfl : (flat s).length <= 4294967296 := by
   have : lenS s <= 2147483647 := by omega
   unfold lenS at this
   omega
  obtain ⟨o, ho9⟩ : ∃ o, o = askO s d := ⟨_, rfl⟩
  have HON : Hid (o.2.toList.length <= 4294967296 /\ (∀ r, r < o.2.toList.length -> (o.2.toList.getD r dE).ord.length <= 4294967296) /\ ∀ e, o.2 = some e -> e.ord.length <= 4294967296) := by
   have hoo : ∀ e, o.2 = some e -> e.ord.length <= 4294967296 := fun e he => by
    rw [ho9] at he
    rcases ask_ord s d e he with h | h
    ·rw [h]; exact Nat.zero_le _
    ·rw [h]; exact hn
   cases hq : o.2 with
   | none => exact ⟨Nat.zero_le _, fun r hr => absurd hr (Nat.not_lt_zero r), fun e he => by cases he⟩
   | some e =>
    refine ⟨by simp, fun r hr => ?_, fun e' he => hoo e' (by rw [hq]; exact he)⟩
    obtain rfl : r = 0 := by simp at hr; exact hr
    exact hoo e hq
  have HAK : Hid (∀ (W : World) (v vn : Value), StL W v s -> IL W vn d.ord -> Calls Tryz.prog 31 #[.agg (doc d vn), v] W (DeV W o)) := fun W v vn h1 h2 => by rw [ho9]; exact asked_ v vn s d W h1 HSM.out h2 hn hb1 hb2
  have HME : Hid (∀ W, Up w W -> Calls Tryz.prog 32 #[.agg (doc d (.slice oa d.ord.length oc)), .agg A] W (DeV W o)) := fun W u => by rw [ho9]; exact meant_ (.agg A) _ s d W (by rw [HAV.out]; exact HST.out.up u) HSM.out hfl (HIL.out.up u) hn
  have HWS : Hid (∀ W, Up w W -> Calls Tryz.prog 9 #[.agg A] W (CpPost W fun W' v => WSA W.heap.size W' v s)) := fun W u => wideStateA_ (.agg A) s W (by rw [HAV.out]; exact HST.out.up u) HSM.out
  have HWI : Hid (∀ W, Up w W -> Calls Tryz.prog 30 #[.slice oa d.ord.length oc] W (CpPost W fun W' v => WI W.heap.size W' v d.ord)) := fun W u => wideInts_ _ d.ord W (HIL.out.up u) hn
  have HEI : Hid (∀ (W : World) (vx : Value), Up w W -> IL W vx d.ord -> Calls Tryz.prog 33 #[vx, .slice oa d.ord.length oc] W fun e w' => e = .returned (.bool true) /\ Up W w') := fun W vx u h => by
   refine (eqInts_ vx _ d.ord d.ord W h (HIL.out.up u) hn).mono ?_
   rintro e w' ⟨rfl, m, rfl⟩
   exact ⟨by simp, (Up.refl _).drewN m⟩
  have HSI : Hid (∀ (W : World) (b : Nat) (vx : Value), WI b W vx d.ord -> Calls Tryz.prog 34 #[vx] W fun e w' => e = .returned (.bool true) /\ w' = W) := fun W b vx h => spareInts_ b vx d.ord W h hn
  have HEE : Hid (∀ (W : World) (va vb : Value), EVS W va o.2.toList -> EVS W vb o.2.toList -> Calls Tryz.prog 28 #[va, vb] W fun x w' => x = .returned (.bool true) /\ Up W w') := fun W va vb h1 h2 => eqEvents_ va vb o.2.toList W h1 h2 HON.out.1 HON.out.2.1
  unfold DeV at HAK HME
  generalize o.1 = g at *
  generalize o.2 = oe at *
  rw [hvv, hA0] at HBC ⊢
  clear hA0 hlong hb1 hb2 ho9 hfl
  have HDC : Hid (∀ (vo : Value), Value.agg (doc d vo) = Value.agg #[.int .i64 d.kind, .int .i64 d.number, .int .i64 d.zone, .bool d.first, .int .i8 d.field, .int .i64 d.by_, vo]) := fun _ => rfl
  rw [HDC.out]
  go_enter Tryz.func6, Tryz.ntmps6
  go_wp2_with fail
  first | (refine Calls.mono HBC.out ?_) | (refine calls_world hW1 (Calls.mono HBC.out ?_))
  rintro r W2 ⟨rfl, u2⟩
  have hA := u2.heap hA
  have hD := u2.heap hD
  have HU := HU.trans u2
  clear u2 hW1 HBC hvv
  have hl2 : w.heap.size + 1 < W2.heap.size := (Array.getElem?_eq_some_iff.1 hD).1
  obtain ⟨n, hn9⟩ : ∃ n, n = d.ord.length := ⟨_, rfl⟩
  have HNn : Hid (n = d.ord.length) := hn9
  rw [<- hn9] at hn hD HME HWI HEI
  clear hn9 hn0
  obtain ⟨D, hD9⟩ : ∃ D, D = doc d (.slice oa n oc) := ⟨_, rfl⟩
  have hD1 : D.size = 7 := by rw [hD9]; rfl
  have hD2 : D.all (·.oneCell') = true := by rw [hD9]; exact doc_all
  have HD9 : Hid (D = doc d (.slice oa n oc)) := hD9
  rw [<- hD9] at hD HME
  clear hD9
  have HW2 : Hid (w.heap.size <= W2.heap.size) := by unfold Hid; omega
  go_wp2_with (first | (refine wpList_load_row (by rfl) 27 (.tmp 2) (by rfl) w.heap.size (by rfl) 27 A (0, 0) _ hA Tryz.underlying27 (by rfl) (by rw [hA1]; exact infoSt) ?_))
  refine Calls.mono (HWS.out _ HU) ?_
  rintro r W3 ⟨vI, rfl, fI, u⟩
  have hA := u.heap hA
  have hD := u.heap hD
  have HU := HU.trans u
  have HS3 : Hid (W2.heap.size <= W3.heap.size) := u.size
  clear u
  obtain ⟨I, rfl, h1I, h2I⟩ := WSA.row fI
  have HFI : Hid (WSA W2.heap.size W3 (.agg I) s) := fI
  have U3 : Up W3 W3 := Up.refl _
  clear fI
  obtain ⟨W4, hwI⟩ : ∃ Wq, (W3.alloc (.cells zS 27)).setRow W3.heap.size I = Wq := ⟨_, rfl⟩
  obtain ⟨rI, u, -⟩ := filled W3 zS I 27
  rw [hwI] at rI u
  have hA := u.heap hA
  have hD := u.heap hD
  have HU := HU.trans u
  have U3 := U3.trans u
  have HS4 : Hid (W3.heap.size <= W4.heap.size) := u.size
  clear u
  have hD4 := hD
  obtain ⟨W5, hwD⟩ : ∃ Wq, (W4.alloc (.cells zDo 73)).setRow W4.heap.size D = Wq := ⟨_, rfl⟩
  obtain ⟨rD, u, -⟩ := filled W4 zDo D 73
  rw [hwD] at rD u
  have hA := u.heap hA
  have hD := u.heap hD
  have HU := HU.trans u
  have U3 := U3.trans u
  have rI := u.heap rI
  have HS5 : Hid (W4.heap.size <= W5.heap.size) := u.size
  clear u
  have c6 : W5.cell? ⟨w.heap.size + 1, 6, none⟩ = some (.slice oa n oc) := by simp only [World.cell?, hD]; rw [HD9.out]; rfl
  go_wp2_with (first | (refine wpList_store_row rfl 27 (.tmp 5) (.tmp 22) rfl W3.heap.size I rfl rfl 27 zS (heap_alloc_new W3 _) (by rw [h1I]; exact infoSt) (by rw [h1I]; rfl) h2I ?_; refine wpList_world hwI ?_) | (refine wpList_load_row (by rfl) 73 (.tmp 3) (by rfl) (w.heap.size + 1) (by rfl) 73 D (0, 0) _ hD4 Tryz.underlying73 (by rfl) (by rw [hD1]; exact infoDo) ?_) | (refine wpList_store_row rfl 73 (.tmp 6) (.tmp 23) rfl W4.heap.size D rfl rfl 73 zDo (heap_alloc_new W4 _) (by rw [hD1]; exact infoDo) (by rw [hD1]; rfl) hD2 ?_; refine wpList_world hwD ?_))
  refine Calls.mono (HWI.out _ HU) ?_
  rintro r W6 ⟨vx, rfl, fx, u⟩
  have hA := u.heap hA
  have hD := u.heap hD
  have HU := HU.trans u
  have U3 := U3.trans u
  have rI := u.heap rI
  have rD := u.heap rD
  have HS6 : Hid (W5.heap.size <= W6.heap.size) := u.size
  clear u
  obtain ⟨gx, hgx1, hvx, hgx2⟩ := id fx
  rw [<- HNn.out] at hvx
  have hgx3 : gx < W6.heap.size := (Array.getElem?_eq_some_iff.1 hgx2).1
  have h45 : W4.heap.size < W5.heap.size := by
   have := (Array.getElem?_eq_some_iff.1 rD).1
   have h9 : W5.heap.size = W4.heap.size + 1 := by rw [<- hwD]; simp
   omega
  have h34 : W3.heap.size < W4.heap.size := by
   have h9 : W4.heap.size = W3.heap.size + 1 := by rw [<- hwI]; simp
   omega
  have c6 : W6.cell? ⟨w.heap.size + 1, 6, none⟩ = some (.slice oa n oc) := by simp only [World.cell?, hD]; rw [HD9.out]; rfl
  have d6 : W6.cell? ⟨W4.heap.size, 6, none⟩ = some (.slice oa n oc) := by simp only [World.cell?, rD]; rw [HD9.out]; rfl
  have cf := seven_f rD 6
  obtain ⟨X, hX9⟩ : ∃ X, X = doc d vx := ⟨_, rfl⟩
  have hX1 : X.size = 7 := by rw [hX9]; rfl
  have rX : (W6.setCell ⟨W4.heap.size, 6, none⟩ vx).heap[W4.heap.size]? = some (.cells X 73 (0, 0)) := by rw [hX9]; rw [HD9.out] at rD; exact doc_set rD
  have hlw : w.heap.size + 1 < W4.heap.size := by have h1 := HS3.out; have h2 := HS4.out; omega
  have HU : Up w (W6.setCell ⟨W4.heap.size, 6, none⟩ vx) := Up.set HU _ _ (by show w.heap.size <= W4.heap.size; omega)
  have U3 : Up W3 (W6.setCell ⟨W4.heap.size, 6, none⟩ vx) := Up.set U3 _ _ (by show W3.heap.size <= W4.heap.size; omega)
  have hA : (W6.setCell ⟨W4.heap.size, 6, none⟩ vx).heap[w.heap.size]? = some (.cells A 27 (0, 0)) := set_other hA (by omega)
  have hD : (W6.setCell ⟨W4.heap.size, 6, none⟩ vx).heap[w.heap.size + 1]? = some (.cells D 73 (0, 0)) := set_other hD (by omega)
  have rI : (W6.setCell ⟨W4.heap.size, 6, none⟩ vx).heap[W3.heap.size]? = some (.cells I 27 (0, 0)) := set_other rI (by omega)
  have fx : WI W5.heap.size (W6.setCell ⟨W4.heap.size, 6, none⟩ vx) vx d.ord := fx.kp (Kp.set h45)
  have hz7 : (W6.setCell ⟨W4.heap.size, 6, none⟩ vx).heap.size = W6.heap.size := by simp
  have HX9 : Hid (X = doc d vx) := hX9
  have HGX : Hid (W5.heap.size <= gx /\ gx < W6.heap.size /\ W4.heap.size < W5.heap.size /\ W3.heap.size < W4.heap.size /\ w.heap.size + 1 < W4.heap.size) := ⟨hgx1, hgx3, h45, h34, hlw⟩
  clear hgx1 hgx2 hgx3 h45 h34 hlw hX9 rD hl2 hD4
  obtain ⟨W7, hW7⟩ : ∃ W7, W6.setCell ⟨W4.heap.size, 6, none⟩ vx = W7 := ⟨_, rfl⟩
  rw [hW7] at rX HU U3 hA hD rI fx hz7
  have HS7 : Hid (W6.heap.size <= W7.heap.size) := by rw [hz7]; exact Nat.le_refl _
  clear hz7
  subst hvx
  have HAX : Hid (∀ (W : World) (v : Value), StL W v s -> IL W (.slice (some ⟨gx, 0, none⟩) n (n + 64)) d.ord -> Calls Tryz.prog 31 #[.agg X, v] W fun x w' => ∃ v, x = .returned (.tuple #[v, .int .i64 g]) /\ DL W.heap.size w' v oe /\ Up W w') := fun W v h1 h2 => by rw [HX9.out]; exact HAK.out W v _ h1 h2
  clear HAK
  go_wp2_with (first | (refine wpList_world hW7 ?_; clear hW7; refine wpList_load_row (by rfl) 73 (.tmp 6) (by rfl) W4.heap.size (by rfl) 73 X (0, 0) _ rX Tryz.underlying73 (by rfl) (by rw [hX1]; exact infoDo) ?_) | (refine wpList_load_row (by rfl) 73 (.tmp 6) (by rfl) W4.heap.size (by rfl) 73 X (0, 0) _ rX Tryz.underlying73 (by rfl) (by rw [hX1]; exact infoDo) ?_) | (refine wpList_load_row (by rfl) 27 (.tmp 5) (by rfl) W3.heap.size (by rfl) 27 I (0, 0) _ rI Tryz.underlying27 (by rfl) (by rw [h1I]; exact infoSt) ?_))
  refine Calls.mono (HAX.out _ _ (WS.sl (WSA.ws (HFI.out.up U3))) fx.il) ?_
  rintro r W8 ⟨va, rfl, fa, u⟩
  have hA := u.heap hA
  have hD := u.heap hD
  have HU := HU.trans u
  have U3 := U3.trans u
  have rI := u.heap rI
  have rX := u.heap rX
  have fx := fx.up u
  have HS8 : Hid (W7.heap.size <= W8.heap.size) := u.size
  clear u
  have fA := dli_of fa
  clear fa
  go_wp2_with (first | (refine wpList_load_row (by rfl) 73 (.tmp 6) (by rfl) W4.heap.size (by rfl) 73 X (0, 0) _ rX Tryz.underlying73 (by rfl) (by rw [hX1]; exact infoDo) ?_) | (refine wpList_load_row (by rfl) 27 (.tmp 5) (by rfl) W3.heap.size (by rfl) 27 I (0, 0) _ rI Tryz.underlying27 (by rfl) (by rw [h1I]; exact infoSt) ?_))
  refine Calls.mono (HAX.out _ _ (WS.sl (WSA.ws (HFI.out.up U3))) fx.il) ?_
  rintro r W9 ⟨vb, rfl, fb, u⟩
  have hA := u.heap hA
  have hD := u.heap hD
  have HU := HU.trans u
  have U3 := U3.trans u
  have rI := u.heap rI
  have rX := u.heap rX
  have fx := fx.up u
  have fA := fA.up u
  have HS9 : Hid (W8.heap.size <= W9.heap.size) := u.size
  clear u
  have fB := dli_of fb
  clear fb HAX
  go_wp2_with (first | (refine wpList_load_row (by rfl) 73 (.tmp 3) (by rfl) (w.heap.size + 1) (by rfl) 73 D (0, 0) _ hD Tryz.underlying73 (by rfl) (by rw [hD1]; exact infoDo) ?_) | (refine wpList_load_row (by rfl) 27 (.tmp 2) (by rfl) w.heap.size (by rfl) 27 A (0, 0) _ hA Tryz.underlying27 (by rfl) (by rw [hA1]; exact infoSt) ?_))
  refine Calls.mono (HME.out _ HU) ?_
  rintro r W10 ⟨vw, rfl, fw, u⟩
  have hA := u.heap hA
  have hD := u.heap hD
  have HU := HU.trans u
  have U3 := U3.trans u
  have rI := u.heap rI
  have rX := u.heap rX
  have fx := fx.up u
  have fA := fA.up u
  have fB := fB.up u
  have HS10 : Hid (W9.heap.size <= W10.heap.size) := u.size
  clear u
  have fW := dli_of fw
  clear fw HME
  go_wp2_with (fail)
  refine Calls.mono (HEE.out _ _ _ fA.evs fW.evs) ?_
  rintro r W11 ⟨rfl, u⟩
  have hA := u.heap hA
  have hD := u.heap hD
  have HU := HU.trans u
  have U3 := U3.trans u
  have rI := u.heap rI
  have rX := u.heap rX
  have fx := fx.up u
  have fA := fA.up u
  have fB := fB.up u
  have fW := fW.up u
  have HS11 : Hid (W10.heap.size <= W11.heap.size) := u.size
  clear u
  go_wp2_with (fail)
  refine Calls.mono (HEE.out _ _ _ fB.evs fW.evs) ?_
  rintro r W12 ⟨rfl, u⟩
  have hA := u.heap hA
  have hD := u.heap hD
  have HU := HU.trans u
  have U3 := U3.trans u
  have rI := u.heap rI
  have rX := u.heap rX
  have fx := fx.up u
  have fA := fA.up u
  have fB := fB.up u
  have fW := fW.up u
  have HS12 : Hid (W11.heap.size <= W12.heap.size) := u.size
  clear u
  go_wp2_with (first | (refine wpList_load_rowG (by rfl) 27 (.tmp 5) (by rfl) W3.heap.size (by rfl) 27 I (0, 0) _ rI Tryz.underlying27 (by rfl) (by rw [h1I]; exact infoSt) ?_) | (refine wpList_load_rowG (by rfl) 27 (.tmp 2) (by rfl) w.heap.size (by rfl) 27 A (0, 0) _ hA Tryz.underlying27 (by rfl) (by rw [hA1]; exact infoSt) ?_))
  refine Calls.mono (stays_ _ (.agg I) (.agg A) s _ (HFI.out.up U3) (by rw [HAV.out]; exact HST.out.up HU) HSM.out) ?_
  rintro r W13 ⟨rfl, u⟩
  have hA := u.heap hA
  have hD := u.heap hD
  have HU := HU.trans u
  have U3 := U3.trans u
  have rI := u.heap rI
  have rX := u.heap rX
  have fx := fx.up u
  have fA := fA.up u
  have fB := fB.up u
  have fW := fW.up u
  have HS13 : Hid (W12.heap.size <= W13.heap.size) := u.size
  clear u
  have x6 : W13.cell? ⟨W4.heap.size, 6, none⟩ = some (.slice (some ⟨gx, 0, none⟩) n (n + 64)) := by simp only [World.cell?, rX]; rw [HX9.out]; rfl
  have c6 : W13.cell? ⟨w.heap.size + 1, 6, none⟩ = some (.slice oa n oc) := by simp only [World.cell?, hD]; rw [HD9.out]; rfl
  go_wp2_with (fail)
  refine Calls.mono (HEI.out _ _ HU fx.il) ?_
  rintro r W14 ⟨rfl, u⟩
  have hA := u.heap hA
  have hD := u.heap hD
  have HU := HU.trans u
  have U3 := U3.trans u
  have rI := u.heap rI
  have rX := u.heap rX
  have fx := fx.up u
  have fA := fA.up u
  have fB := fB.up u
  have fW := fW.up u
  have HS14 : Hid (W13.heap.size <= W14.heap.size) := u.size
  clear u
  have x6 : W14.cell? ⟨W4.heap.size, 6, none⟩ = some (.slice (some ⟨gx, 0, none⟩) n (n + 64)) := by simp only [World.cell?, rX]; rw [HX9.out]; rfl
  have c6 : W14.cell? ⟨w.heap.size + 1, 6, none⟩ = some (.slice oa n oc) := by simp only [World.cell?, hD]; rw [HD9.out]; rfl
  go_wp2_with fail
  refine Calls.mono (HSI.out _ _ _ fx) ?_
  rintro r W15 ⟨rfl, hw15⟩
  subst hw15
  clear x6 c6 hA hD HEI HSI HWI HWS
  have HSZ : Hid (W5.heap.size <= W6.heap.size /\ W6.heap.size <= W7.heap.size /\ W7.heap.size <= W8.heap.size /\ W8.heap.size <= W9.heap.size /\ W9.heap.size <= W10.heap.size /\ W10.heap.size <= W15.heap.size /\ w.heap.size <= W2.heap.size /\ W2.heap.size <= W3.heap.size) := ⟨HS6.out, HS7.out, HS8.out, HS9.out, HS10.out, by have h1 := HS11.out; have h2 := HS12.out; have h3 := HS13.out; have h4 := HS14.out; omega, HW2.out, HS3.out⟩
  have hgx : ∃ A : Array Value, W15.heap[gx]? = some (.cells A 3 (0, 0)) /\ A.size = n + 64 := by
   obtain ⟨g', k1, k2, k3⟩ := fx
   simp only [Value.slice.injEq, Option.some.injEq, Addr.mk.injEq, and_true] at k2
   obtain ⟨rfl, -, -⟩ := k2
   exact ⟨_, k3, by rw [List.size_toArray, wIs_len, HNn.out]⟩
  have HG : Hid _ := hgx
  have HK : Hid _ := And.intro rX (And.intro rI (And.intro U3 (And.intro fA (And.intro fB (And.intro fW HU)))))
  clear hgx rX rI U3 fA fB fW HU fx
  go_wp2_with fail
  go_loopw [13] (fun s13 W => ∃ i : Nat, i <= n /\ s13 = .int .i64 i /\ (∃ A : Array Value, W.heap[gx]? = some (.cells A 3 (0, 0)) /\ A.size = n + 64) /\ Below W5.heap.size W15 W /\ Kp W6.heap.size W15 W) (fun s13 _ => n - (intOf s13).toNat)
  case atStart => exact ⟨0, Nat.zero_le _, rfl, HG.out, Below.refl _ _, Kp.refl _ _⟩
  case round =>
   clear HG
   obtain ⟨i, hi, rfl, ⟨B, hB1, hB2⟩, hbel, hkp⟩ := hrel
   have rX := (hbel.block W4.heap.size HGX.out.2.2.1).trans HK.out.1
   have x6 : wr.cell? ⟨W4.heap.size, 6, none⟩ = some (.slice (some ⟨gx, 0, none⟩) n (n + 64)) := by simp only [World.cell?, rX]; rw [HX9.out]; rfl
   by_cases hlt : i < n
   ·have hlt2 : (i : Int) < (n : Int) := by omega
    have x4 : wr.cell? ⟨gx, i, none⟩ = some (B[i]'(by omega)) := by simp [World.cell?, hB1]
    have x5 := seven_f hB1 i
    generalize B[i]'(by omega) = y at x4
    have HN9 : Hid (∀ z, (∃ A : Array Value, (wr.setCell ⟨gx, i, none⟩ z).heap[gx]? = some (.cells A 3 (0, 0)) /\ A.size = n + 64) /\ Below W5.heap.size W15 (wr.setCell ⟨gx, i, none⟩ z) /\ Kp W6.heap.size W15 (wr.setCell ⟨gx, i, none⟩ z)) := fun z => ⟨⟨_, set_cells hB1, by rw [Array.size_setIfInBounds]; exact hB2⟩, Below.setCell hbel HGX.out.1 z, hkp.trans (Kp.set HGX.out.2.1)⟩
    clear hB1 hB2 hbel hkp rX
    go_wp2_with fail
    go_roundw
    case rel => exact ⟨i + 1, by omega, by go_num, HN9.out _⟩
    case measure => simp [intOf] <;> omega
   ·have hlt2 : ¬ (i : Int) < (n : Int) := by omega
    obtain ⟨-, rI, U3, fA, fB, fW, HU⟩ := HK.out
    have hsz := HSZ.out
    have hgx := HGX.out
    have rI := (hbel.block W3.heap.size (by omega)).trans rI
    have U3 : Up W3 wr := Below.trans U3 (hbel.mono (by omega))
    have fA := fA.kp hkp (by omega)
    have fB := fB.kp hkp (by omega)
    have fW := fW.kp hkp (by omega)
    have HU : Up w wr := Below.trans HU (hbel.mono (by omega))
    have HLT : Hid (W10.heap.size <= wr.heap.size) := by have h2 := hbel.size; unfold Hid; omega
    clear hbel hkp hsz HK hB1 hB2 rX hgx
    go_wp2_with (first | (refine wpList_load_row (by rfl) 27 (.tmp 5) (by rfl) W3.heap.size (by rfl) 27 I (0, 0) _ rI Tryz.underlying27 (by rfl) (by rw [h1I]; exact infoSt) ?_))
    refine Calls.mono (spoil_ W2.heap.size (.agg I) s W3 _ HFI.out HS3.out U3 HSM.out) ?_
    rintro r W16 ⟨rfl, hbel, hkp⟩
    have hsz := HSZ.out
    have hgx := HGX.out
    have fA := fA.kp hkp (by omega)
    have fB := fB.kp hkp (by omega)
    have fW := fW.kp hkp (by omega)
    have HU : Up w W16 := Below.trans HU (Below.mono hbel (by omega))
    have HLT : Hid (W10.heap.size <= W16.heap.size) := by have h1 := HLT.out; have h2 := hbel.size; unfold Hid; omega
    clear hbel hkp hsz hgx U3 rI x6
    go_wp2_with fail
    refine Calls.mono (HEE.out _ _ _ fA.evs fW.evs) ?_
    rintro r W17 ⟨rfl, u⟩
    have fA := fA.up u
    have fB := fB.up u
    have HU := HU.trans u
    have HLT : Hid (W10.heap.size <= W17.heap.size) := Nat.le_trans HLT.out u.size
    clear u fW HEE
    obtain ⟨gb, hgb⟩ : ∃ g, g = W17.heap.size := ⟨_, rfl⟩
    obtain ⟨W18, hW18⟩ : ∃ W, W = W17.alloc (.cells #[.slice none 0 0, .slice none 0 0, .slice none 0 0, .slice none 0 0, .slice none 0 0, .slice none 0 0, .slice none 0 0, .slice none 0 0, .slice none 0 0, .slice none 0 0, .slice none 0 0, .slice none 0 0, .slice none 0 0, .slice none 0 0, .slice none 0 0, .slice none 0 0, .slice none 0 0, .slice none 0 0, .slice none 0 0, .slice none 0 0, .slice none 0 0] 64) := ⟨_, rfl⟩
    have HB0 : Hid (BG.BagG W18 w.heap.size gb (gb + 1) (fun _ => .slice none 0 0) (fun _ => [])) := by
     unfold Hid
     rw [hgb, hW18]
     exact BG.bagG_start _ _
    have u : Up W17 W18 := by rw [hW18]; exact (Up.refl _).alloc _
    have HL2 : Hid (w.heap.size <= W7.heap.size /\ W7.heap.size <= W8.heap.size /\ W8.heap.size <= W9.heap.size /\ W9.heap.size <= gb /\ w.heap.size <= gb) := by
     have l3 := HLT.out
     have l4 := HSZ.out
     have l5 := HGX.out
     rw [hgb]
     exact ⟨by omega, by omega, by omega, by omega, by omega⟩
    have HA9 : Hid (DLI W18 W7.heap.size W8.heap.size va oe) := fA.up u
    have HB9 : Hid (DLI W18 W8.heap.size W9.heap.size vb oe) := fB.up u
    have HU := HU.trans u
    clear u fA fB
    go_wp2_with fail
    first | rw [<- hW18, <- hgb] | rw [<- hgb]
    clear hW18 hgb
    refine Calls.mono (addDL_ gb (gb + 1) w.heap.size W7.heap.size W8.heap.size _ _ va oe W18 HB0.out HA9.out HON.out.2.2 (by have := HL2.out; omega) (by have := HL2.out; omega) (fun j g hg => by obtain ⟨p, hp, -⟩ := hg; exact absurd hp (Nat.not_lt_zero _))) ?_
    rintro r W19 ⟨rfl, f7, L7, d1, d2, d3, -, d5⟩
    have HB7 : Hid (BG.BagG W19 w.heap.size gb (gb + 1) f7 L7) := d1
    have HD7 : Hid (Below gb W18 W19) := d2
    have HK7 : Hid (∀ j g, BG.Blks (L7 j) g -> W7.heap.size <= g /\ g < W8.heap.size) := fun j g hg => by
     rcases d3 j g hg with h | h
     ·obtain ⟨p, hp, -⟩ := h; exact absurd hp (Nat.not_lt_zero _)
     ·exact h
    have HJ7 : Hid (∀ j, j ∉ [14, 1] -> L7 j = []) := d5
    clear d1 d2 d3 d5 HB0 HA9
    go_wp2_with fail
    refine Calls.mono (addDL_ gb (gb + 1) w.heap.size W8.heap.size W9.heap.size _ _ vb oe W19 HB7.out (HB9.out.below HD7.out (by have := HL2.out; omega)) HON.out.2.2 (by have := HL2.out; omega) (by have := HL2.out; omega) (fun j g hg => by have := HK7.out j g hg; have := HL2.out; omega)) ?_
    rintro r W20 ⟨rfl, f8, L8, d1, d2, -, -, d5⟩
    have HB8 : Hid (BG.BagG W20 w.heap.size gb (gb + 1) f8 L8) := d1
    have HD8 : Hid (Below w.heap.size w W20) := Below.trans HU ((Below.trans HD7.out d2).mono (by have := HL2.out; omega))
    have HJ8 : Hid (∀ k, k < 21 -> k ≠ 1 -> k ≠ 14 -> L8 k = []) := fun j _ h1 h14 => (d5 j (by simp; omega)).trans (HJ7.out j (by simp; omega))
    clear d1 d2 d5 HB7 HD7 HK7 HJ7 HB9 HU
    go_wp2_with fail
    refine Calls.mono (BG.apartBxe_ W20 w.heap.size gb (gb + 1) f8 L8 HB8.out HL2.out.2.2.2.2 HJ8.out) ?_
    rintro r W21 ⟨rfl, d1⟩
    have HD9 : Hid (Below w.heap.size w W21) := Below.trans HD8.out d1
    clear d1 HD8 HB8 HJ8
    go_wp2_with fail
    refine Calls.mono (HLV.out _) ?_
    rintro r W22 ⟨rfl, d1⟩
    have HF : Hid (Up w W22) := Below.trans HD9.out (d1.mono HD9.out.size)
    clear d1 HD9
    go_wp2
    go_ret
    exact ⟨rfl, HF.out⟩
end DE
end Go.Proofs.YtodhjjeagmjhdaaGreatDoor
namespace Go.Proofs.YtodhjjeagmjhdaaGreatDoor
open Go.ChangeShapes Go.WideShapes Go.ChangeAt Go.RowKit
theorem weightsAll_mem {H : Type} {P : Program} {e : TypeId} {d : DataW H} {n : Nat} (hn : n ∈ d.weights P e) : ∀ (l : List (DataW H)), d ∈ l -> n ∈ DataW.weightsAll P e l
 | [], h => (List.not_mem_nil h).elim
 | c :: r, h => by
  simp only [DataW.weightsAll, List.mem_append]
  rcases List.mem_cons.1 h with rfl | h
  ·exact .inl hn
  ·exact .inr (weightsAll_mem hn r h)
namespace ST
section
variable {H : Type} {enc : TypeId × Value -> H} {W : World}
theorem open_flat {E : Type} (t e s bytes fuel : Nat) (ht : Tryz.prog.underlying t = some (.slice e)) (ce : Tryz.prog.cellsOf e = s) (hs : 0 < s) (hby : Tryz.prog.bytesOf e = bytes) (hb2 : 2 <= bytes) (f : E -> List Value) (dx : E) (hf : ∀ x, (f x).length = s)
  (he : ∀ cs n y, DataW.trod enc Tryz.prog W 0 (fun _ => true) true n e cs = some y -> ∃ x : E, cs = f x) {v : Value} {d : DataW H} {p : List MemPlace}
  (h : DataW.trod enc Tryz.prog W 0 (fun _ => true) true fuel t [v] = some (d, p)) (hz : ∀ n, n ∈ DataW.weights Tryz.prog t d -> n <= reachBytes) :
  ∃ xs : List E, LC W v s xs.length (xs.flatMap f) /\ xs.length <= 140737488355328 := by
 rcases Deep.open_slice ht h with ⟨hcs, _⟩ | ⟨a, len, cap, m, n, D, Pl, hcs, _, hl, hm, hmm, hx, hel⟩
 ·obtain rfl : v = .slice none 0 0 := by simpa using hcs
  exact ⟨[], ⟨by simp, none, 0, rfl, Nat.le_refl _, fun h => absurd rfl h⟩, Nat.zero_le _⟩
 ·obtain rfl : v = .slice (some a) len cap := by simpa using hcs
  have hmm : m = cap := by simpa using hmm
  subst hmm
  have hd : d = _ := congrArg Prod.fst hx
  have hb := hz ((len + (m - len)) * bytes) (by rw [hd]; simp [DataW.weights, ht, hby])
  have hr : reachBytes <= 281474976710656 := by decide
  have hlen2 : len * 2 <= 281474976710656 := by
   have h1 : len * 2 <= (len + (m - len)) * bytes := Nat.mul_le_mul (by omega) hb2
   omega
  have each : ∀ i, ∃ x : E, i < len -> W.cells? 0 (a.add (i * s)) s = some (f x) := by
   intro i
   by_cases hi : i < len
   ·obtain ⟨cs', h1, h2⟩ := hel i (by omega)
    obtain ⟨x, hx'⟩ := he cs' n _ h2
    rw [ce] at h1
    exact ⟨x, fun _ => by rw [h1, hx']⟩
   ·exact ⟨dx, fun h => absurd h hi⟩
  obtain ⟨X, hX⟩ := Classical.axiomOfChoice each
  have hlen : ((List.range len).map X).length = len := by simp
  refine ⟨(List.range len).map X, ⟨by rw [flat_len f s hf], some a, m, by rw [hlen], by rw [hlen]; exact hl, fun hn => ?_⟩, by rw [hlen]; omega⟩
  rw [hlen] at hn
  have hspot : a.spot = none := by
   obtain ⟨_, hl0, hc0⟩ := World.cells?_some (hX 0 (by omega))
   have := hc0 0 (by omega)
   rw [List.getElem?_eq_getElem (by omega)] at this
   simpa [Addr.add] using World.cell?_spot this
  obtain ⟨b, off, spot⟩ := a
  simp only at hspot
  subst hspot
  refine ⟨b, off, rfl, fun j hj => ?_⟩
  rw [hlen] at hj
  have hi : j / s < len := (Nat.div_lt_iff_lt_mul hs).2 hj
  have hmod : j % s < s := Nat.mod_lt _ hs
  obtain ⟨_, hl0, hc0⟩ := World.cells?_some (hX (j / s) hi)
  have h1 := hc0 (j % s) hmod
  rw [Addr.add_mid, Addr.add_mid] at h1
  have e1 : j / s * s + j % s = j := by rw [Nat.mul_comm]; exact Nat.div_add_mod j s
  rw [Nat.add_assoc, e1] at h1
  rw [h1]
  have h2 := flat_get f s hf dx ((List.range len).map X) (j / s) (j % s) (by rw [hlen]; exact hi) hmod
  rw [e1] at h2
  rw [h2]
  simp [List.getD, hi]
theorem c21 : Tryz.prog.cellsOf 21 = 1 := by kernel_rfl
theorem c3 : Tryz.prog.cellsOf 3 = 1 := by kernel_rfl
theorem c4 : Tryz.prog.cellsOf 4 = 1 := by kernel_rfl
set_option maxRecDepth 100000 in
theorem ply_of (cs : List Value) (n : Nat) (y : DataW H × List MemPlace) (h : DataW.trod enc Tryz.prog W 0 (fun _ => true) true n 97 cs = some y) : ∃ p : Ply, cs = pv p := by
 obtain ⟨y0, y1, y2, k, -, hl, h0, h1, h2⟩ := Deep.trod_struct3 Tryz.underlying97 h
 have hl : cs.length = 3 := by rw [hl]; kernel_rfl
 match cs, hl with
 | [a, b, c], _ =>
  simp only [c21, c4] at h0 h1 h2
  obtain ⟨z0, e0, -, -⟩ := DataW.trod_int Tryz.underlying21 h0
  obtain ⟨z1, e1, -, -⟩ := DataW.trod_int Tryz.underlying21 h1
  obtain ⟨z2, e2, -⟩ := DataW.trod_bool Tryz.underlying4 h2
  simp at e0 e1 e2
  exact ⟨⟨z0, z1, z2⟩, by rw [e0, e1, e2]; rfl⟩
set_option maxRecDepth 100000 in
theorem crd_of (cs : List Value) (n : Nat) (y : DataW H × List MemPlace) (h : DataW.trod enc Tryz.prog W 0 (fun _ => true) true n 95 cs = some y) : ∃ p : Crd, cs = cv p := by
 obtain ⟨xs, k, -, -, hl, hlen, hf⟩ := DataW.trod_struct Tryz.underlying95 h
 have hl : cs.length = 6 := by rw [hl]; kernel_rfl
 have hlen : xs.length = 6 := hlen
 match cs, hl with
 | [a, b, c, d, e, g], _ =>
  have f0 : DataW.trod enc Tryz.prog W 0 (fun _ => true) true k 3 (([a, b, c, d, e, g].drop 0).take (Tryz.prog.cellsOf 3)) = xs[0]? := hf 0 _ rfl
  rw [c3, List.getElem?_eq_getElem (by omega)] at f0
  have f1 : DataW.trod enc Tryz.prog W 0 (fun _ => true) true k 3 (([a, b, c, d, e, g].drop 1).take (Tryz.prog.cellsOf 3)) = xs[1]? := hf 1 _ rfl
  rw [c3, List.getElem?_eq_getElem (by omega)] at f1
  have f2 : DataW.trod enc Tryz.prog W 0 (fun _ => true) true k 21 (([a, b, c, d, e, g].drop 2).take (Tryz.prog.cellsOf 21)) = xs[2]? := hf 2 _ rfl
  rw [c21, List.getElem?_eq_getElem (by omega)] at f2
  have f3 : DataW.trod enc Tryz.prog W 0 (fun _ => true) true k 21 (([a, b, c, d, e, g].drop 3).take (Tryz.prog.cellsOf 21)) = xs[3]? := hf 3 _ rfl
  rw [c21, List.getElem?_eq_getElem (by omega)] at f3
  have f4 : DataW.trod enc Tryz.prog W 0 (fun _ => true) true k 21 (([a, b, c, d, e, g].drop 4).take (Tryz.prog.cellsOf 21)) = xs[4]? := hf 4 _ rfl
  rw [c21, List.getElem?_eq_getElem (by omega)] at f4
  have f5 : DataW.trod enc Tryz.prog W 0 (fun _ => true) true k 21 (([a, b, c, d, e, g].drop 5).take (Tryz.prog.cellsOf 21)) = xs[5]? := hf 5 _ rfl
  rw [c21, List.getElem?_eq_getElem (by omega)] at f5
  obtain ⟨z0, e0, -, -⟩ := DataW.trod_int Tryz.underlying3 f0
  obtain ⟨z1, e1, -, -⟩ := DataW.trod_int Tryz.underlying3 f1
  obtain ⟨z2, e2, -, -⟩ := DataW.trod_int Tryz.underlying21 f2
  obtain ⟨z3, e3, -, -⟩ := DataW.trod_int Tryz.underlying21 f3
  obtain ⟨z4, e4, -, -⟩ := DataW.trod_int Tryz.underlying21 f4
  obtain ⟨z5, e5, -, -⟩ := DataW.trod_int Tryz.underlying21 f5
  simp at e0 e1 e2 e3 e4 e5
  exact ⟨⟨z0, z1, z2, z3, z4, z5⟩, by rw [e0, e1, e2, e3, e4, e5]; rfl⟩
theorem int_of (cs : List Value) (n : Nat) (y : DataW H × List MemPlace) (h : DataW.trod enc Tryz.prog W 0 (fun _ => true) true n 3 cs = some y) : ∃ z : Int, cs = [.int .i64 z] := by
 obtain ⟨z0, e0, -, -⟩ := DataW.trod_int Tryz.underlying3 h
 exact ⟨z0, e0⟩
theorem fl_ivs : ∀ l : List Int, l.flatMap (fun z : Int => [Value.int .i64 z]) = ivs l
 | [] => rfl
 | a :: l => by rw [List.flatMap_cons, fl_ivs l]; rfl
theorem c27 : Tryz.prog.cellsOf 27 = 7 := by kernel_rfl
theorem c22 : Tryz.prog.cellsOf 22 = 1 := by kernel_rfl
theorem c23 : Tryz.prog.cellsOf 23 = 1 := by kernel_rfl
theorem c24 : Tryz.prog.cellsOf 24 = 1 := by kernel_rfl
theorem c25 : Tryz.prog.cellsOf 25 = 1 := by kernel_rfl
theorem open_row {fuel : Nat} {v : Value} {d : DataW H} {p : List MemPlace} (h : DataW.trod enc Tryz.prog W 0 (fun _ => true) true fuel 28 [v] = some (d, p)) (hz : ∀ n, n ∈ DataW.weights Tryz.prog 28 d -> n <= reachBytes) : ∃ l : List Int, IL W v l /\ l.length <= 140737488355328 := by
 obtain ⟨l, h1, h2⟩ := open_flat 28 3 1 8 fuel Tryz.underlying28 c3 (by decide) (by kernel_rfl) (by decide) (fun z : Int => [.int .i64 z]) 0 (fun _ => rfl) int_of h hz
 refine ⟨l, ?_, h2⟩
 rw [fl_ivs l] at h1
 exact h1
theorem open_rows {fuel : Nat} {v : Value} {d : DataW H} {p : List MemPlace} (h : DataW.trod enc Tryz.prog W 0 (fun _ => true) true fuel 24 [v] = some (d, p)) (hz : ∀ n, n ∈ DataW.weights Tryz.prog 24 d -> n <= reachBytes) : ∃ zs : List (List Int), ZL W v zs /\ Near zs := by
 rcases Deep.open_slice1 Tryz.underlying24 (by kernel_rfl) h with ⟨hcs, _⟩ | ⟨a, len, cap, m, n, V, D, Pl, hcs, _, hl, hm, hmm, hx, hel⟩
 ·obtain rfl : v = .slice none 0 0 := by simpa using hcs
  exact ⟨[], ⟨[], ⟨rfl, none, 0, rfl, Nat.le_refl _, fun h => absurd rfl h⟩, fun i hi => by simp at hi⟩, Nat.zero_le _, fun r hr => by simp at hr⟩
 ·obtain rfl : v = .slice (some a) len cap := by simpa using hcs
  have hmm : m = cap := by simpa using hmm
  subst hmm
  have hd : d = _ := congrArg Prod.fst hx
  have hb := hz ((len + (m - len)) * 24) (by rw [hd]; simp [DataW.weights, Tryz.underlying24, show Tryz.prog.bytesOf 28 = 24 by kernel_rfl])
  have hr : reachBytes <= 281474976710656 := by decide
  have each : ∀ i, ∃ l : List Int, i < len -> IL W (V i) l /\ l.length <= 140737488355328 := by
   intro i
   by_cases hi : i < len
   ·obtain ⟨_, h2⟩ := hel i (by omega)
    obtain ⟨l, h3, h4⟩ := open_row h2 (fun n hn => by
     refine hz n ?_
     rw [hd]
     simp only [DataW.weights, Tryz.underlying24]
     exact List.mem_cons_of_mem _ (List.mem_append_left _ (weightsAll_mem hn _ (List.mem_map.2 ⟨i, List.mem_range.2 hi, rfl⟩))))
    exact ⟨l, fun _ => ⟨h3, h4⟩⟩
   ·exact ⟨[], fun h => absurd h hi⟩
  obtain ⟨X, hX⟩ := Classical.axiomOfChoice each
  have hlen : ((List.range len).map X).length = len := by simp
  have hg : ∀ i, i < len -> ((List.range len).map X).getD i [] = X i := fun i hi => by simp [List.getD, hi]
  refine ⟨(List.range len).map X, ⟨(List.range len).map V, ⟨by simp, some a, m, by rw [hlen], by rw [hlen]; exact hl, fun hn => ?_⟩, fun i hi => ?_⟩, by rw [hlen]; omega, fun r hr' => ?_⟩
  ·rw [hlen] at hn
   have hspot : a.spot = none := by
    have := (hel 0 (by omega)).1
    simpa [Addr.add] using World.cell?_spot this
   obtain ⟨b, off, spot⟩ := a
   simp only at hspot
   subst hspot
   refine ⟨b, off, rfl, fun j hj => ?_⟩
   rw [hlen, Nat.mul_one] at hj
   have := (hel j (by omega)).1
   rw [Addr.add_mid] at this
   rw [this]
   simp [hj]
  ·rw [hlen] at hi
   rw [hg i hi]
   have e : ((List.range len).map V).getD i nl = V i := by simp [List.getD, hi]
   rw [e]
   exact (hX i hi).1
  ·rw [hlen] at hr'
   rw [hg r hr']
   exact (hX r hr').2
set_option maxRecDepth 100000 in
theorem open_state {base : Nat} {v : Value} {d : DataW H} {p : List MemPlace} (hv : Value.okWide Tryz.prog W .any base 27 v) (h : DataW.Trod enc Tryz.prog W 0 (fun _ => true) true 27 v d p) (hz : ∀ n, n ∈ DataW.weights Tryz.prog 27 d -> n <= reachBytes) :
  ∃ s, StL W v s /\ Far s := by
 obtain ⟨cs, rfl, hsz⟩ := okWide_struct Tryz.underlying27 hv
 obtain ⟨fuel, hf⟩ := h
 obtain ⟨xs, k, -, hx, hl, hlen, hfd⟩ := DataW.trod_struct Tryz.underlying27 hf
 have hlen : xs.length = 7 := hlen
 have hd : d = .agg (xs.map (·.1)) := congrArg Prod.fst hx
 obtain ⟨l⟩ := cs
 have hl7 : l.length = 7 := by
  rw [c27] at hsz
  simpa using hsz
 match l, hl7 with
 | [a, b, c, d1, e, g, i], _ =>
  have f0 : DataW.trod enc Tryz.prog W 0 (fun _ => true) true k 22 (([a, b, c, d1, e, g, i].drop 0).take (Tryz.prog.cellsOf 22)) = xs[0]? := hfd 0 _ rfl
  rw [c22, List.getElem?_eq_getElem (by omega)] at f0
  have f1 : DataW.trod enc Tryz.prog W 0 (fun _ => true) true k 23 (([a, b, c, d1, e, g, i].drop 1).take (Tryz.prog.cellsOf 23)) = xs[1]? := hfd 1 _ rfl
  rw [c23, List.getElem?_eq_getElem (by omega)] at f1
  have f2 : DataW.trod enc Tryz.prog W 0 (fun _ => true) true k 24 (([a, b, c, d1, e, g, i].drop 2).take (Tryz.prog.cellsOf 24)) = xs[2]? := hfd 2 _ rfl
  rw [c24, List.getElem?_eq_getElem (by omega)] at f2
  have f3 : DataW.trod enc Tryz.prog W 0 (fun _ => true) true k 21 (([a, b, c, d1, e, g, i].drop 3).take (Tryz.prog.cellsOf 21)) = xs[3]? := hfd 3 _ rfl
  rw [c21, List.getElem?_eq_getElem (by omega)] at f3
  have f4 : DataW.trod enc Tryz.prog W 0 (fun _ => true) true k 3 (([a, b, c, d1, e, g, i].drop 4).take (Tryz.prog.cellsOf 3)) = xs[4]? := hfd 4 _ rfl
  rw [c3, List.getElem?_eq_getElem (by omega)] at f4
  have f5 : DataW.trod enc Tryz.prog W 0 (fun _ => true) true k 25 (([a, b, c, d1, e, g, i].drop 5).take (Tryz.prog.cellsOf 25)) = xs[5]? := hfd 5 _ rfl
  rw [c25, List.getElem?_eq_getElem (by omega)] at f5
  have f6 : DataW.trod enc Tryz.prog W 0 (fun _ => true) true k 3 (([a, b, c, d1, e, g, i].drop 6).take (Tryz.prog.cellsOf 3)) = xs[6]? := hfd 6 _ rfl
  rw [c3, List.getElem?_eq_getElem (by omega)] at f6
  obtain ⟨z3, e3, -, -⟩ := DataW.trod_int Tryz.underlying21 f3
  obtain ⟨z4, e4, -, -⟩ := DataW.trod_int Tryz.underlying3 f4
  obtain ⟨z5, e5, -, -⟩ := DataW.trod_int Tryz.underlying25 f5
  obtain ⟨z6, e6, -, -⟩ := DataW.trod_int Tryz.underlying3 f6
  simp at e3 e4 e5 e6
  obtain ⟨ps, p1, p2⟩ := open_flat 22 97 3 12 k Tryz.underlying22 (by kernel_rfl) (by decide) (by kernel_rfl) (by decide) pv dp (fun _ => rfl) ply_of (v := a) (d := (xs[0]'(by omega)).1) (p := (xs[0]'(by omega)).2) f0 (fun n hn => hz n (by
   rw [hd]; simp only [DataW.weights, Tryz.underlying27]; exact DataW.weights_mem_each (j := 0) (t := 22) rfl (by simp [List.getElem?_eq_getElem (show 0 < xs.length by omega)]) n hn))
  obtain ⟨cs, q1, q2⟩ := open_flat 23 95 6 32 k Tryz.underlying23 (by kernel_rfl) (by decide) (by kernel_rfl) (by decide) cv dc (fun _ => rfl) crd_of (v := b) (d := (xs[1]'(by omega)).1) (p := (xs[1]'(by omega)).2) f1 (fun n hn => hz n (by
   rw [hd]; simp only [DataW.weights, Tryz.underlying27]; exact DataW.weights_mem_each (j := 1) (t := 23) rfl (by simp [List.getElem?_eq_getElem (show 1 < xs.length by omega)]) n hn))
  obtain ⟨zs, r1, r2⟩ := open_rows (v := c) (d := (xs[2]'(by omega)).1) (p := (xs[2]'(by omega)).2) f2 (fun n hn => hz n (by
   rw [hd]; simp only [DataW.weights, Tryz.underlying27]; exact DataW.weights_mem_each (j := 2) (t := 24) rfl (by simp [List.getElem?_eq_getElem (show 2 < xs.length by omega)]) n hn))
  exact ⟨⟨ps, cs, zs, z3, z4, z5, z6⟩, ⟨a, b, c, by rw [e3, e4, e5, e6]; rfl, p1, q1, r1⟩, p2, q2, r2⟩
end
end ST
end Go.Proofs.YtodhjjeagmjhdaaGreatDoor
namespace Go.Proofs.YtodhjjeagmjhdaaGreatDoor
open Go.ChangeShapes Go.WideShapes Go.ChangeAt Go.RowKit
namespace DE
open Go.Proofs.YtodhjjeagmjhdaaGreatDoor.ST
section
variable {H : Type} {enc : TypeId × Value -> H} {W : World}
theorem c2x : Tryz.prog.cellsOf 2 = 1 := by kernel_rfl
theorem c28x : Tryz.prog.cellsOf 28 = 1 := by kernel_rfl
set_option maxRecDepth 100000 in
set_option maxHeartbeats 2000000 in
theorem do_of (cs : List Value) (n : Nat) (d : DataW H) (p : List MemPlace) (h : DataW.trod enc Tryz.prog W 0 (fun _ => true) true n 73 cs = some (d, p)) (hz : ∀ n, n ∈ DataW.weights Tryz.prog 73 d -> n <= reachBytes) :
  ∃ e vo, cs = (doc e vo).toList /\ IL W vo e.ord /\ e.ord.length <= 140737488355328 /\ (Lit.int .i64 e.by_).wf = true := by
 obtain ⟨xs, k, -, hx, hl, hlen, hf⟩ := DataW.trod_struct Tryz.underlying73 h
 have hl : cs.length = 7 := by rw [hl]; kernel_rfl
 have hlen : xs.length = 7 := hlen
 have hd : d = .agg (xs.map (·.1)) := congrArg Prod.fst hx
 match cs, hl with
 | [a0, a1, a2, a3, a4, a5, a6], _ =>
  have f0 : DataW.trod enc Tryz.prog W 0 (fun _ => true) true k 3 (([a0, a1, a2, a3, a4, a5, a6].drop 0).take (Tryz.prog.cellsOf 3)) = xs[0]? := hf 0 _ rfl
  rw [c3, List.getElem?_eq_getElem (by omega)] at f0
  obtain ⟨z0, e0, -, -⟩ := DataW.trod_int Tryz.underlying3 f0
  have f1 : DataW.trod enc Tryz.prog W 0 (fun _ => true) true k 3 (([a0, a1, a2, a3, a4, a5, a6].drop 1).take (Tryz.prog.cellsOf 3)) = xs[1]? := hf 1 _ rfl
  rw [c3, List.getElem?_eq_getElem (by omega)] at f1
  obtain ⟨z1, e1, -, -⟩ := DataW.trod_int Tryz.underlying3 f1
  have f2 : DataW.trod enc Tryz.prog W 0 (fun _ => true) true k 3 (([a0, a1, a2, a3, a4, a5, a6].drop 2).take (Tryz.prog.cellsOf 3)) = xs[2]? := hf 2 _ rfl
  rw [c3, List.getElem?_eq_getElem (by omega)] at f2
  obtain ⟨z2, e2, -, -⟩ := DataW.trod_int Tryz.underlying3 f2
  have f3 : DataW.trod enc Tryz.prog W 0 (fun _ => true) true k 4 (([a0, a1, a2, a3, a4, a5, a6].drop 3).take (Tryz.prog.cellsOf 4)) = xs[3]? := hf 3 _ rfl
  rw [c4, List.getElem?_eq_getElem (by omega)] at f3
  obtain ⟨z3, e3, -⟩ := DataW.trod_bool Tryz.underlying4 f3
  have f4 : DataW.trod enc Tryz.prog W 0 (fun _ => true) true k 25 (([a0, a1, a2, a3, a4, a5, a6].drop 4).take (Tryz.prog.cellsOf 25)) = xs[4]? := hf 4 _ rfl
  rw [c25, List.getElem?_eq_getElem (by omega)] at f4
  obtain ⟨z4, e4, -, -⟩ := DataW.trod_int Tryz.underlying25 f4
  have f5 : DataW.trod enc Tryz.prog W 0 (fun _ => true) true k 2 (([a0, a1, a2, a3, a4, a5, a6].drop 5).take (Tryz.prog.cellsOf 2)) = xs[5]? := hf 5 _ rfl
  rw [c2x, List.getElem?_eq_getElem (by omega)] at f5
  obtain ⟨z5, e5, -, wf5⟩ := DataW.trod_int Tryz.underlying2 f5
  simp at e0 e1 e2 e3 e4 e5
  have f6 : DataW.trod enc Tryz.prog W 0 (fun _ => true) true k 28 (([a0, a1, a2, a3, a4, a5, a6].drop 6).take (Tryz.prog.cellsOf 28)) = xs[6]? := hf 6 _ rfl
  rw [c28x, List.getElem?_eq_getElem (by omega)] at f6
  obtain ⟨l, r1, r2⟩ := Go.Proofs.YtodhjjeagmjhdaaGreatDoor.ST.open_row (v := a6) (d := (xs[6]'(by omega)).1) (p := (xs[6]'(by omega)).2) f6 (fun n hn => hz n (by
   rw [hd]; simp only [DataW.weights, Tryz.underlying73]; exact DataW.weights_mem_each (j := 6) (t := 28) rfl (by simp [List.getElem?_eq_getElem (show 6 < xs.length by omega)]) n hn))
  exact ⟨⟨z0, z1, z2, z3, z4, z5, l⟩, a6, by rw [e0, e1, e2, e3, e4, e5]; rfl, r1, r2, wf5⟩
set_option maxRecDepth 100000 in
theorem open_do {base : Nat} {v : Value} {d : DataW H} {p : List MemPlace} (hv : Value.okWide Tryz.prog W .any base 73 v) (h : DataW.Trod enc Tryz.prog W 0 (fun _ => true) true 73 v d p) (hz : ∀ n, n ∈ DataW.weights Tryz.prog 73 d -> n <= reachBytes) :
  ∃ e vo, v = .agg (doc e vo) /\ IL W vo e.ord /\ e.ord.length <= 140737488355328 /\ (Lit.int .i64 e.by_).wf = true := by
 obtain ⟨cs, rfl, hsz⟩ := okWide_struct Tryz.underlying73 hv
 obtain ⟨fuel, hf⟩ := h
 obtain ⟨e, vo, h1, h2, h3, h4⟩ := do_of cs.toList fuel d p hf hz
 refine ⟨e, vo, ?_, h2, h3, h4⟩
 congr 1
 exact Array.toList_inj.1 h1
end
end DE
end Go.Proofs.YtodhjjeagmjhdaaGreatDoor
namespace Go.Proofs.YtodhjjeagmjhdaaGreatDoor.deedMakes
open Go.ChangeShapes Go.WideShapes Go.ChangeAt Go.RowKit
open Go.ChangeMaps (open_string shut_string)
theorem own : ownKnob Tryz.prog.godebug = none := by kernel_rfl
theorem laidOut : laidOutB Tryz.prog = true := by kernel_rfl
theorem door_met (os : Os) (args : Array Value) : laidMetH Tryz.prog Rows.deedMakesRow.laid ((World.doorLaid Tryz.prog 4000 os).forCall (fun _ _ => 0) ⟨#[], args, []⟩).memory :=
 laidMetH_of_parts3 (fuel := 8) (laidMet_of_run' 8 (by kernel_rfl) (by kernel_rfl)) (by kernel_rfl) (by kernel_rfl)
theorem walk {W : World} (v : Value) (s : Stt) (hv : ST.StL W v s) (hf : ST.Far s) (vo : Value) (d : DoT) (ho : ST.IL W vo d.ord) (hn : d.ord.length <= 140737488355328) (hb : (Lit.int .i64 d.by_).wf = true) (w : World) (e0 : w = W) :
  Calls Tryz.prog 6 #[v, .agg (DE.doc d vo)] w fun x w' => x = .returned (.bool true) /\ Below w.heap.size w w' := by
 subst e0
 obtain ⟨h1, h2⟩ := bounds_i64 hb
 exact DE.makesW v vo s d w hv hf ho hn h1 h2
set_option maxRecDepth 100000 in
theorem lifted (os : Os) (started : os.Started) (H : Type) (enc : TypeId × Value -> H) :
  ReturnsInHanded {} Tryz.checked os 6 .any (fun w args => (Rows.deedMakesSpec.pre enc Tryz.prog Tryz.f6 [] false w args /\ laidMetH Tryz.prog Rows.deedMakesRow.laid w) /\ sizedMet enc Tryz.prog Tryz.f6 (OpenSpec.ofChange Rows.deedMakesSpec) false w args)
   (Rows.deedMakesSpec.post enc Tryz.prog Tryz.f6 false true false false) := by
 refine returnsInHanded_of_change_and (C := Tryz.checked) (X := fun w _ => laidMetH Tryz.prog Rows.deedMakesRow.laid w) (fun _ _ _ hh h => h.of_heap hh) own started (by kernel_rfl) Tryz.func6
  (ChangeSpec.witness_shaped (enc := enc) (C := Tryz.checked) (os := os) (X := fun w _ => laidMetH Tryz.prog Rows.deedMakesRow.laid w) false (World.doorLaid Tryz.prog 4000 os) #[.agg #[.slice none 0 0, .slice none 0 0, .slice none 0 0, .int .i32 0, .int .i64 0, .int .i8 0, .int .i64 0], .agg #[.int .i64 0, .int .i64 0, .int .i64 0, .bool false, .int .i8 0, .int .i64 0, .slice none 0 0]] 8 rfl (World.shaped_of_RefB (by kernel_rfl) (by kernel_rfl)) (by kernel_rfl) (by kernel_rfl) (by kernel_rfl) (door_met os _)) ?_
 intro W base args ds gs before hval0 hW hq1 hsz hL hq4
 have hval : ∀ (j : Nat) t v, Tryz.f6.params[j]? = some t -> args[j]? = some v -> Value.okWide Tryz.prog W .any base t v := hval0
 have hW' := hW
 obtain ⟨p, q, hA0, hV, rfl, hfz, hnd⟩ := hW
 have hA : DataW.TrodAll enc Tryz.prog W 0 (fun _ => true) true Tryz.f6.params.toList args.toList ds p := hA0
 rw [Tryz.params6] at hA hval
 obtain ⟨v0, vs0, d0, ds0, p0, q0, hargs, rfl, rfl, h0, r0⟩ := trodAll_cons hA
 obtain ⟨v1, vs1, d1, ds1, p1, q1, rfl, rfl, rfl, h1, r1⟩ := trodAll_cons r0
 obtain ⟨rfl, rfl, rfl⟩ := trodAll_nil r1
 obtain rfl : args = #[v0, v1] := by cases args; simp_all
 obtain ⟨rfl, rfl⟩ := trodVars_none hV
 have k0 := h0
 have lt0 : ∀ x ∈ p0, x.block < W.heap.size := by obtain ⟨m, hm⟩ := k0; exact DataW.trod_lt m _ _ _ hm
 obtain ⟨z0, w0, y0⟩ := ST.open_state (hval 0 27 v0 rfl rfl) h0 (fun n hn => by
  have := List.all_eq_true.1 hsz n (DataW.weights_mem_each (j := 0) (t := 27) rfl rfl n hn)
  simpa using this)
 have k1 := h1
 have lt1 : ∀ x ∈ p1, x.block < W.heap.size := by obtain ⟨m, hm⟩ := k1; exact DataW.trod_lt m _ _ _ hm
 obtain ⟨z1, vo1, rfl, w1, y1, x1⟩ := DE.open_do (hval 1 73 v1 rfl rfl) h1 (fun n hn => by
  have := List.all_eq_true.1 hsz n (DataW.weights_mem_each (j := 1) (t := 73) rfl rfl n hn)
  simpa using this)
 clear hA0 hval0
 refine (walk v0 z0 w0 y0 vo1 z1 w1 y1 x1 W rfl).mono fun e W' ⟨he, bel⟩ => ?_
 subst he
 exact ⟨_, rfl, _, _, _, [], _, [], hW', trodAll_mk1 (shut_bool Tryz.underlying4 _), (trodAll_cons_mk (Below.trod laidOut (by kernel_rfl) (of_decide_eq_true (by kernel_rfl)) k0 bel lt0) (trodAll_cons_mk (Below.trod laidOut (by kernel_rfl) (of_decide_eq_true (by kernel_rfl)) k1 bel lt1) trodAll_mk0)), rfl, bel.frame _, fun h => by cases h⟩
theorem over : Rows.deedMakesRow.holds Tryz.pinned (OpenSpec.ofChange Rows.deedMakesSpec) :=
 OpenClaim.holds_of_wide 6 Tryz.f6 rfl rfl rfl rfl rfl rfl rfl ⟨rfl, rfl, rfl, rfl, rfl⟩ rfl rfl rfl rfl rfl (by kernel_rfl) Tryz.func6 (by kernel_rfl)
  (of_decide_eq_true (by kernel_rfl)) (by unfold Func.isWrapper; first | (rw [if_pos (by decide +kernel)]; kernel_rfl) | (rw [if_neg (by decide +kernel)]; exact ⟨rfl, rfl⟩))
  (fun os started H enc _ => lifted os started H enc)
theorem card : Rows.DeedMakesCardSaid :=
 Claim7.holds_tied_plain_at .later [] [.data, .data, .data] true (true, "59f756f021c4c90a54f3b850f0f08ce44ab33c50a3308a56a7aff00362def548") false
  over (fun _ h => by cases h) (by kernel_rfl) (fun _ h => by cases h) deedMakes_row_tie rfl ⟨rfl, rfl⟩ (by kernel_rfl) rfl
  (fun f fn hf hfn => by
   obtain rfl : f = 6 := Option.some.inj ((show Tryz.prog.funcNamed "tableau/tableaulaw06.DeedMakes" = some 6 by kernel_rfl).symm.trans hf) |>.symm
   obtain rfl : fn = Tryz.f6 := (Option.some.inj (Tryz.func6.symm.trans hfn)).symm
   exact ⟨by kernel_rfl, fun j t ht => by
    rw [Tryz.params6] at ht
    have hj : ([27, 73].all fun t => !(Tryz.prog.wantsStandIn t)) = true := by kernel_rfl
    have hm := List.mem_of_getElem? (l := [27, 73]) (i := j) (by simpa using ht)
    have this := List.all_eq_true.1 hj t hm
    have this : Tryz.prog.wantsStandIn t = false := by simpa using this
    exact this⟩)
  (by kernel_rfl)
end Go.Proofs.YtodhjjeagmjhdaaGreatDoor.deedMakes
namespace Go.Proofs.YtodhjjeagmjhdaaGreatDoor
theorem deedMakes_holds : Rows.DeedMakesCardSaid := deedMakes.card
#print axioms deedMakes_holds
end Go.Proofs.YtodhjjeagmjhdaaGreatDoor
