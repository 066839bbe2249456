/- Dtl6, OpenS2, Num, Sat, Ch6, Oo6 -/
import Derived.Test.YtodhjjeagmjhdaaGreatDoorDpa6VX
import Derived.WalkKit
import Derived.ProofKit
import Derived.OpenShut
import Derived.ChangeOld
import Derived.SizedLaws
import Derived.Deep.Slices
import Derived.Deep.Strs
namespace Go.Proofs.YtodhjjeagmjhdaaGreatDoor
open Go.RowKit
attribute [local go_sem ↓] Go.wp_at_zero Go.wp_at_succ
namespace DE
open Go.Proofs.YtodhjjeagmjhdaaGreatDoor.ST
set_option maxRecDepth 100000 in
theorem long_ (n : Int) (w : World) : Calls Tryz.prog 36 #[.int .i64 n] w fun x w'=>x = .returned (.bool (decide (2147483647 < n))) /\ w' = w := by
 go_enter Tryz.func36,Tryz.ntmps36
 go_wp2
 go_ret
 exact ⟨rfl,rfl⟩
set_option maxRecDepth 100000 in
set_option maxHeartbeats 8000000 in
theorem textsW (vo : Value) (e : Ev) (w : World) (hT : TabP w) (hw : EvW e) (ho : IL w vo e.ord) (hn0 : e.ord.length <= 140737488355328) :
  Calls Tryz.prog 7 #[evv e vo] w fun x w'=>x = .returned (.bool true) /\ Up w w' := by
 have HLV : Hid (∀ W,Calls Tryz.prog 20 #[] W fun x w'=>x = .returned (.bool true) /\ Up W w') := lives_
 have HIL : Hid (IL w vo e.ord) := ho
 obtain ⟨oa,oc,hvo,-,-⟩ := il_at ho
 obtain ⟨W1,hW1⟩ : ∃ W1,w.alloc (.cells (evc e vo) 30) = W1 := ⟨_,rfl⟩
 have hE : W1.heap[w.heap.size]? = some (.cells (evc e vo) 30 (0,0)) := by rw [<- hW1]; exact heap_alloc_new _ _
 have HU : Up w W1 := by rw [<- hW1]; exact (Up.refl _).alloc _
 have HLO : Hid _ := long_ (e.ord.length : Nat) W1
 subst hvo
 have c11 : W1.cell? ⟨w.heap.size,11,none⟩ = some (.slice oa e.ord.length oc) := evc_cells hE 11
 clear ho
 by_cases hlong : 2147483647 < ((e.ord.length : Nat) : Int)
 ·rw [decide_eq_true hlong] at HLO
  clear hE HIL HLV hT hw
  unfold evc at hW1
  unfold evv evc
  go_enter Tryz.func7,Tryz.ntmps7
  go_wp2_with fail
  first | (refine Calls.mono HLO.out ?_) | (refine calls_world hW1 (Calls.mono HLO.out ?_))
  rintro r W2 ⟨rfl,rfl⟩
  have HZ : Hid (Up w W2) := HU
  clear HU hW1
  go_wp2
  go_ret
  exact ⟨rfl,HZ.out⟩
 ·rw [decide_eq_false hlong] at HLO
  have hn : e.ord.length <= 4294967296 := by omega
  have HWE : Hid (∀ W,Up w W -> Calls Tryz.prog 10 #[.agg (evc e (.slice oa e.ord.length oc))] W fun x w'=>∃ vn,x = .returned (evv e vn) /\ WI W.heap.size w' vn e.ord /\ Up W w') := fun W u=>wideEvent_ e _ W (HIL.out.up u) hn
  have HTX : Hid (∀ (W : World) (b : Nat) (vn : Value),Up w W -> WI b W vn e.ord -> Calls Tryz.prog 37 #[.agg (evc e vn)] W fun x w'=>x = .returned (.string ⟨(txtL e).toArray⟩) /\ Up W w') := fun W b vn u h=>by
   obtain ⟨na,nk,rfl⟩ := h.val
   exact text_ e na nk W (hT.up u) hw h.il hn
  have HRT : Hid (∀ W,Up w W -> Calls Tryz.prog 38 #[.agg (evc e (.slice oa e.ord.length oc))] W fun x w'=>x = .returned (.string ⟨(txtL e).toArray⟩) /\ Up W w') := fun W u=>rtext_ e oa oc W (hT.up u) hw (HIL.out.up u) hn
  have HEE : Hid (∀ (W : World) (b : Nat) (vn : Value),Up w W -> WI b W vn e.ord -> Calls Tryz.prog 15 #[.agg (evc e vn),.agg (evc e (.slice oa e.ord.length oc))] W fun x w'=>x = .returned (.bool true) /\ Up W w') := fun W b vn u h=>by
   have h9 := eqEvent_ e e vn _ W h.il (HIL.out.up u) hn
   rw [eqE_selfW] at h9
   exact h9
  have HSE : Hid (∀ (W : World) (b : Nat) (vn : Value),WI b W vn e.ord -> Calls Tryz.prog 16 #[.agg (evc e vn)] W fun x w'=>x = .returned (.bool true) /\ Up W w') := fun W b vn h=>spareEvent_ b e vn W h hn
  clear hT hw HIL
  generalize (⟨(txtL e).toArray⟩ : ByteArray) = T at *
  have hW2 := hW1
  unfold evc at hW1
  unfold evv
  have HX : Hid (Value.agg (evc e (.slice oa e.ord.length oc)) = .agg #[.int .i8 e.kind,.int .i8 e.field,.int .i64 e.card,.int .i64 e.player,.int .i64 e.other,.int .i64 e.fr,.int .i64 e.frAt,.int .i64 e.to_,.int .i64 e.toAt,.int .i32 e.was,.int .i32 e.now,.slice oa e.ord.length oc]) := rfl
  rw [HX.out]
  go_enter Tryz.func7,Tryz.ntmps7
  go_wp2_with fail
  first | (refine Calls.mono HLO.out ?_) | (refine calls_world hW1 (Calls.mono HLO.out ?_))
  rintro r W2 ⟨rfl,rfl⟩
  clear hW1 hW2 HLO HX c11 hlong hn0
  obtain ⟨vo,hvo⟩ : ∃ vo : Value,vo = .slice oa e.ord.length oc := ⟨_,rfl⟩
  rw [<- hvo] at hE HWE HRT HEE
  clear hvo
  go_wp2_with (first | (refine wpList_load_row (by rfl) 30 (.tmp 1) (by rfl) w.heap.size (by rfl) 30 (evc e vo) (0,0) _ hE Tryz.underlying30 (by rfl) (infoEv) ?_))
  refine Calls.mono (HWE.out _ HU) ?_
  rintro r W3 ⟨vn,rfl,fE,u⟩
  have hE := u.heap hE
  have HU := HU.trans u
  have HS3 : Hid (W2.heap.size <= W3.heap.size) := u.size
  clear u
  obtain ⟨na,nk,hvn⟩ := WI.val fE
  have hB2 : (evc e vn).all (·.oneCell') = true := by rw [hvn]; exact evc_one _ _ _ _
  clear hvn
  obtain ⟨W4,hwE⟩ : ∃ Wq,(W3.alloc (.cells (evc dE (.slice none 0 0)) 30)).setRow W3.heap.size (evc e vn) = Wq := ⟨_,rfl⟩
  obtain ⟨rE,u,-⟩ := filled W3 (evc dE (.slice none 0 0)) (evc e vn) 30
  rw [hwE] at rE u
  have hE := u.heap hE
  have HU := HU.trans u
  have HFE : Hid (WI W2.heap.size W4 vn e.ord) := fE.up u
  clear u fE
  go_wp2_with (first | (refine wpList_store_row rfl 30 (.tmp 3) (.tmp 10) rfl W3.heap.size (evc e vn) rfl rfl 30 (evc dE (.slice none 0 0)) (heap_alloc_new W3 _) (infoEv) rfl hB2 ?_; refine wpList_world hwE ?_) | (refine wpList_load_row (by rfl) 30 (.tmp 3) (by rfl) W3.heap.size (by rfl) 30 (evc e vn) (0,0) _ rE Tryz.underlying30 (by rfl) (infoEv) ?_))
  have HTX1 : Hid _ := HTX.out W4 _ vn HU HFE.out
  refine Calls.mono HTX1.out ?_
  rintro r W5 ⟨rfl,u⟩
  have hE := u.heap hE
  have rE := u.heap rE
  have HU := HU.trans u
  have HFE : Hid (WI W2.heap.size W5 vn e.ord) := HFE.out.up u
  clear u HTX1 hwE
  go_wp2_with (first | (refine wpList_load_row (by rfl) 30 (.tmp 1) (by rfl) w.heap.size (by rfl) 30 (evc e vo) (0,0) _ hE Tryz.underlying30 (by rfl) (infoEv) ?_))
  refine Calls.mono (HRT.out _ HU) ?_
  rintro r W6 ⟨rfl,u⟩
  have hE := u.heap hE
  have rE := u.heap rE
  have HU := HU.trans u
  have HFE : Hid (WI W2.heap.size W6 vn e.ord) := HFE.out.up u
  clear u
  go_wp2_with (first | (refine wpList_load_rowG (by rfl) 30 (.tmp 1) (by rfl) w.heap.size (by rfl) 30 (evc e vo) (0,0) _ hE Tryz.underlying30 (by rfl) (infoEv) ?_) | (refine wpList_load_rowG (by rfl) 30 (.tmp 3) (by rfl) W3.heap.size (by rfl) 30 (evc e vn) (0,0) _ rE Tryz.underlying30 (by rfl) (infoEv) ?_))
  have HEE1 : Hid _ := HEE.out W6 _ vn HU HFE.out
  refine Calls.mono HEE1.out ?_
  rintro r W7 ⟨rfl,u⟩
  have hE := u.heap hE
  have rE := u.heap rE
  have HU := HU.trans u
  have HFE : Hid (WI W2.heap.size W7 vn e.ord) := HFE.out.up u
  clear u HEE1
  go_wp2_with (first | (refine wpList_load_rowG (by rfl) 30 (.tmp 3) (by rfl) W3.heap.size (by rfl) 30 (evc e vn) (0,0) _ rE Tryz.underlying30 (by rfl) (infoEv) ?_))
  have HSE1 : Hid _ := HSE.out W7 _ vn HFE.out
  refine Calls.mono HSE1.out ?_
  rintro r W8 ⟨rfl,u⟩
  have HU := HU.trans u
  clear u HSE1 hE rE
  go_wp2_with fail
  refine Calls.mono (HLV.out _) ?_
  rintro r W9 ⟨rfl,u⟩
  have HZ : Hid _ := HU.trans u
  clear u HU
  go_wp2
  go_ret
  exact ⟨rfl,HZ.out⟩
end DE
end Go.Proofs.YtodhjjeagmjhdaaGreatDoor
namespace Go.Proofs.YtodhjjeagmjhdaaGreatDoor
open Go.ChangeShapes Go.WideShapes Go.ChangeAt Go.RowKit
theorem weightsAll_mem {H : Type} {P : Program} {e : TypeId} {d : DataW H} {n : Nat} (hn : n ∈ d.weights P e) : ∀ (l : List (DataW H)),d ∈ l -> n ∈ DataW.weightsAll P e l
 | [],h=>(List.not_mem_nil h).elim
 | c :: r,h=>by
  simp only [DataW.weightsAll,List.mem_append]
  rcases List.mem_cons.1 h with rfl | h
  ·exact .inl hn
  ·exact .inr (weightsAll_mem hn r h)
namespace ST
section
variable {H : Type} {enc : TypeId × Value -> H} {W : World}
theorem c21 : Tryz.prog.cellsOf 21 = 1 := by kernel_rfl
theorem c3 : Tryz.prog.cellsOf 3 = 1 := by kernel_rfl
theorem c4 : Tryz.prog.cellsOf 4 = 1 := by kernel_rfl
theorem fl_ivs : ∀ l : List Int,l.flatMap (fun z : Int=>[Value.int .i64 z]) = ivs l
 | []=>rfl
 | a :: l=>by rw [List.flatMap_cons,fl_ivs l]; rfl
theorem c25 : Tryz.prog.cellsOf 25 = 1 := by kernel_rfl
end
end ST
end Go.Proofs.YtodhjjeagmjhdaaGreatDoor
namespace Go.Proofs.YtodhjjeagmjhdaaGreatDoor
open Go.RowKit
def nz (b : Int) : Bool := !(b == 0)
theorem wrap_i64 (n : Int) : wrap64 n = (n + 9223372036854775808) % 18446744073709551616 - 9223372036854775808 := by unfold wrap64; rfl
end Go.Proofs.YtodhjjeagmjhdaaGreatDoor
namespace Go.Proofs.YtodhjjeagmjhdaaGreatDoor
open Go.RowKit
end Go.Proofs.YtodhjjeagmjhdaaGreatDoor
namespace Go.Proofs.YtodhjjeagmjhdaaGreatDoor
open Go.RowKit
attribute [local go_sem ↓] Go.wp_at_zero Go.wp_at_succ
namespace DE
open Go.Proofs.YtodhjjeagmjhdaaGreatDoor.ST
end DE
end Go.Proofs.YtodhjjeagmjhdaaGreatDoor
namespace Go.Proofs.YtodhjjeagmjhdaaGreatDoor
open Go.RowKit
attribute [local go_sem ↓] Go.wp_at_zero Go.wp_at_succ
namespace DE
open Go.Proofs.YtodhjjeagmjhdaaGreatDoor.ST
def one (e : Ev) : Option Ev := if noneB e = true then none else some e
end DE
end Go.Proofs.YtodhjjeagmjhdaaGreatDoor
