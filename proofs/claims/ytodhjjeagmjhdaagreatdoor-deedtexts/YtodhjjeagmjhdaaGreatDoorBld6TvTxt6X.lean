/- Bld6, Txt6 -/
import Derived.Test.YtodhjjeagmjhdaaGreatDoorEl6TvPtx6X
import Derived.Lib.FrozenHead2
namespace Go.Proofs.YtodhjjeagmjhdaaGreatDoor
open Go.RowKit
attribute [local go_sem ↓] Go.wp_at_zero Go.wp_at_succ
namespace DE
open Go.Proofs.YtodhjjeagmjhdaaGreatDoor.ST
abbrev BAt (B b : Nat) (p : Value) (bs : List Value) (w : World) : Prop := Lib.BuilderAtF 196 5 B b p bs w
abbrev IsB (B b : Nat) (bs : List Value) (w : World) : Prop := Lib.IsBuilderF 196 5 B b bs w
theorem ownF_keep {W W' : World} {base e s n : Nat} {v : Value} {xs : List Value} (h : W.ownsRowF base e s v n xs) (k : ∀ g o,v.ownBlock = some g -> W.heap[g]? = some o -> W'.heap[g]? = some o) : W'.ownsRowF base e s v n xs := by
 refine ⟨h.1,?_⟩
 rcases h.2 with h0 | ⟨g,cap,cur,fz,e1,e2,e3,e4⟩
 ·exact .inl h0
 ·exact .inr ⟨g,cap,cur,fz,e1,e2,k _ _ (by rw [e1]; rfl) e3,e4⟩
theorem bat_up {B b : Nat} {p : Value} {bs : List Value} {w W : World} (h : BAt B b p bs w) (u : Up w W) : BAt B b p bs W := by
 obtain ⟨h1,v,h2,h3,h4⟩ := h
 exact ⟨h1,v,u.heap h2,ownF_keep h3 (fun g o _ hg=>u.heap hg),h4⟩
theorem isb_up {B b : Nat} {bs : List Value} {w W : World} (h : IsB B b bs w) (u : Up w W) : IsB B b bs W := h.imp (fun x=>bat_up x u) (fun x=>bat_up x u)
set_option maxRecDepth 100000 in
set_option maxHeartbeats 2000000 in
theorem copyCheck_ (B b : Nat) (bs : List Value) (w : World) (h : IsB B b bs w) : Calls Tryz.prog 213 #[.pointer (some ⟨b,0,none⟩)] w fun e w'=>e = .returned (.tuple #[]) /\ BAt B b (.pointer (some ⟨b,0,none⟩)) bs w' /\ Below B w w' := by
 rcases h with h | h
 ·obtain ⟨h1,v,h2,h3,h4⟩ := h
  have c0 : w.cell? ⟨b,0,none⟩ = some (.pointer none) := by simp [World.cell?,h2]
  have cf := seven_f h2 0
  have HF : Hid (BAt B b (.pointer (some ⟨b,0,none⟩)) bs (w.setCell ⟨b,0,none⟩ (.pointer (some ⟨b,0,none⟩))) /\ Below B w (w.setCell ⟨b,0,none⟩ (.pointer (some ⟨b,0,none⟩)))) := by
   refine ⟨⟨h1,v,?_,ownF_keep h3 (fun g o hg ho=>set_other ho (fun e=>h4 (by rw [<- e]; exact hg))),h4⟩,Below.setCell (Below.refl _ _) h1 _⟩
   rw [set_cells h2]
   rfl
  have hsh : w.shape? b = some (196,2) := by simp [World.shape?,h2]
  obtain ⟨j,hj,hjs⟩ := Option.map_eq_some_iff.1 Tryz.Builder_Extra_169.sizeBuilder
  clear h1 h2 h3 h4
  go_enter Tryz.func213,Tryz.ntmps213
  go_wp2
  rw [Lib.run_to_unsafe w ⟨b,0,none⟩ Tryz.underlying194 Tryz.underlying225 hj (by rw [hjs]; decide) hsh (Nat.zero_lt_succ 1)]
  simp only [Result.andThen]
  rw [Oper.upon_value]
  go_wp2
  rw [run_callFunc_extern Tryz.func221 (by kernel_rfl) (by kernel_rfl) (by kernel_rfl) (e := Extern.AbiNoEscape.same) (by kernel_rfl)]
  rw [Lib.run_noEscape]
  simp only [Result.andThen]
  rw [Oper.upon_value]
  go_wp2
  rw [Lib.run_from_unsafe w ⟨b,0,none⟩ Tryz.underlying225 Tryz.underlying194 hj hsh Tryz.Builder_Extra_169.liesBuilder]
  simp only [Result.andThen]
  rw [Oper.upon_value]
  go_wp2
  first | exact ⟨rfl,HF.out⟩ | (go_end0; exact ⟨rfl,HF.out⟩)
 ·have HF : Hid (BAt B b (.pointer (some ⟨b,0,none⟩)) bs w) := h
  obtain ⟨h1,v,h2,h3,h4⟩ := h
  have c0 : w.cell? ⟨b,0,none⟩ = some (.pointer (some ⟨b,0,none⟩)) := by simp [World.cell?,h2]
  obtain ⟨j,hj,hjs⟩ := Option.map_eq_some_iff.1 Tryz.Builder_Extra_169.sizeBuilder
  clear h1 h2 h3 h4
  go_enter Tryz.func213,Tryz.ntmps213
  go_wp2
  rw [Lib.run_neq_ptr_same w _ Tryz.underlying194 hj]
  go_wp2
  first | exact ⟨rfl,HF.out,Below.refl _ _⟩ | (go_end0; exact ⟨rfl,HF.out,Below.refl _ _⟩)
theorem infoByte : (Tryz.prog.info? 5).map (fun i=>(i.zero,i.size,i.bytes)) = some (some (.int .u8 0),1,1) := by kernel_rfl
set_option maxRecDepth 100000 in
set_option maxHeartbeats 2000000 in
theorem wstr_ (B b : Nat) (l s : List UInt8) (w : World) (h : IsB B b (Lib.byteCells l) w) (hlen : l.length + s.length <= 140737488355328) (hBw : B <= w.heap.size) : Calls Tryz.prog 193 #[.pointer (some ⟨b,0,none⟩),.string ⟨s.toArray⟩] w fun e w'=>e = .returned (.tuple #[.int .i64 (s.length : Nat),.nilIface]) /\ IsB B b (Lib.byteCells (l ++ s)) w' /\ Below B w w' := by
 obtain ⟨i0,hi,hz0,hz1,hz2⟩ := info_parts infoByte
 have HC : Hid _ := copyCheck_ B b _ w h
 have hbl : (Lib.byteCells l).length = l.length := Lib.byteCells_length l
 have hss : (⟨s.toArray⟩ : ByteArray).size = s.length := by simp [ByteArray.size]
 clear h
 go_enter Tryz.func193,Tryz.ntmps193
 go_wp2_with fail
 refine Calls.mono HC.out ?_
 rintro e w1 ⟨rfl,⟨hB,v,hbk,hown,hne⟩,hb1⟩
 have c1 : w1.cell? ⟨b,1,none⟩ = some v := by simp [World.cell?,hbk]
 have hlt : b < w1.heap.size := (Array.getElem?_eq_some_iff.1 hbk).1
 have HF : Hid (∀ v' w2,w2.ownsRowF B 5 1 v' ((Lib.byteCells l).length + s.length) (Lib.byteCells l ++ Lib.strCells ⟨s.toArray⟩) -> w1.grownBy w2 v.ownBlock -> w2.cell? ⟨b,1,none⟩ = some v /\ w2.frozen? ⟨b,1,none⟩ = false /\ IsB B b (Lib.byteCells (l ++ s)) (w2.setCell ⟨b,1,none⟩ v') /\ Below B w (w2.setCell ⟨b,1,none⟩ v')) := fun v' w2 ho hg=>by
  have hb2 : w2.heap[b]? = some (.cells #[.pointer (some ⟨b,0,none⟩),v] 196 (0,0)) := by
   rw [hg.block b hlt (fun e=>hne e.symm)]
   exact hbk
  have e1 : Lib.byteCells l ++ Lib.strCells ⟨s.toArray⟩ = Lib.byteCells (l ++ s) := by simp [Lib.byteCells,Lib.strCells]
  rw [e1] at ho
  refine ⟨by simp [World.cell?,hb2],seven_f hb2 1,.inr ?_,(hb1.grown hg (by have := hb1.size; omega) (fun k hk=>(hown.lt k hk).1)).setCell (p := ⟨b,1,none⟩) hB _⟩
  exact Lib.BuilderAtF.put (T := 196) (e := 5) hB hb2 (bs' := Lib.byteCells (l ++ s)) (by rw [Lib.byteCells_length] at ho ⊢; rw [List.length_append]; exact ho) (by decide)
 have HO : Hid _ := hown
 have hsz := hb1.size
 have HSZ : Hid (B <= w1.heap.size) := by unfold Hid; omega
 obtain ⟨va,vn,vc,hv⟩ : ∃ a n c,v = .slice a n c := by
  rcases hown.2 with ⟨hv,_⟩ | ⟨g,cap,cur,fz,hv,_⟩
  ·exact ⟨_,_,_,hv⟩
  ·exact ⟨_,_,_,hv⟩
 clear hb1 hbk hne hown hlt hB HC hsz
 subst hv
 go_wp2_with (at_builtin; go_loud (refine Lib.wpList_append_own_stringF _ rfl _ _ 130 9 rfl B 5 i0 Tryz.underlying130 Tryz.underlying9 hi hz0 hz1 hz2 _ _ _ rfl HO.out ⟨s.toArray⟩ rfl (by unfold maxLen; rw [hbl,hss]; omega) (by rw [hbl,hss]; omega) HSZ.out ?_; intro v' w2 a1 a2 _; obtain ⟨d1,d2,d3⟩ := HF.out v' w2 (by rw [hss] at a1; exact a1) a2; have HZ : Hid _ := d3; obtain ⟨ao,n',cap,hx⟩ : ∃ a n c,v' = .slice a n c := (by rcases a1.2 with ⟨hv,_⟩ | ⟨g,cap,cur,fz,hv,_⟩ <;> exact ⟨_,_,_,hv⟩); subst hx; clear a1 a2 d3))
 go_wp2
 go_ret2
 exact ⟨rfl,HZ.out⟩
def shL (l : List Int) : List UInt8 := l.flatMap fun z=>32 :: Lib.itoa z
def preL (e : Ev) : List UInt8 := [115,104,117,102,102,108,101,32] ++ Lib.itoa e.fr ++ [58]
def shuffL (e : Ev) : List UInt8 := preL e ++ shL e.ord
theorem shL_snoc (l : List Int) (i : Nat) (hi : i < l.length) : shL (l.take (i + 1)) = shL (l.take i) ++ (32 :: Lib.itoa (l.getD i 0)) := by
 unfold shL
 rw [List.take_add_one,List.getElem?_eq_getElem hi,List.flatMap_append,List.getD_eq_getElem?_getD,List.getElem?_eq_getElem hi]
 simp
theorem shL_le (l : List Int) (h : ∀ i,i < l.length -> I64 (l.getD i 0)) : ∀ i,i <= l.length -> (shL (l.take i)).length <= 22 * i
 | 0,_=>by simp [shL]
 | i + 1,hi=>by
  rw [shL_snoc l i (by omega),List.length_append,List.length_cons]
  have h1 := shL_le l h i (by omega)
  have h2 := Lib.itoa_length_le (l.getD i 0) (h i (by omega)).1 (h i (by omega)).2
  omega
theorem cat1 (a : UInt8) (l : List UInt8) : (⟨#[a]⟩ ++ ⟨l.toArray⟩ : ByteArray) = ⟨(a :: l).toArray⟩ := by
 apply ByteArray.ext
 simp
set_option maxRecDepth 100000 in
set_option maxHeartbeats 4000000 in
theorem shuffleText_ (e : Ev) (oa : Option Addr) (oc : Nat) (w : World) (hT : TabP w) (hw : EvW e) (ho : IL w (.slice oa e.ord.length oc) e.ord) (hn : e.ord.length <= 4294967296) : Calls Tryz.prog 139 #[.agg #[.int .i8 e.kind,.int .i8 e.field,.int .i64 e.card,.int .i64 e.player,.int .i64 e.other,.int .i64 e.fr,.int .i64 e.frAt,.int .i64 e.to_,.int .i64 e.toAt,.int .i32 e.was,.int .i32 e.now,.slice oa e.ord.length oc]] w fun x w'=>x = .returned (.string ⟨(shuffL e).toArray⟩) /\ Up w w' := by
 obtain ⟨_,_,hra,-,hcell⟩ := il_at ho
 cases hra
 have HCE : Hid _ := hcell
 obtain ⟨W0,hW0⟩ : ∃ W0,(w.alloc (.cells #[.int .i8 e.kind,.int .i8 e.field,.int .i64 e.card,.int .i64 e.player,.int .i64 e.other,.int .i64 e.fr,.int .i64 e.frAt,.int .i64 e.to_,.int .i64 e.toAt,.int .i32 e.was,.int .i32 e.now,.slice oa e.ord.length oc] 30)).alloc (.cells #[.pointer none,.slice none 0 0] 196) = W0 := ⟨_,rfl⟩
 have g0 : W0.heap[w.heap.size]? = some (.cells #[.int .i8 e.kind,.int .i8 e.field,.int .i64 e.card,.int .i64 e.player,.int .i64 e.other,.int .i64 e.fr,.int .i64 e.frAt,.int .i64 e.to_,.int .i64 e.toAt,.int .i32 e.was,.int .i32 e.now,.slice oa e.ord.length oc] 30 (0,0)) := by rw [<- hW0]; exact heap_alloc2_old _ _ _
 have g1 : W0.heap[w.heap.size + 1]? = some (.cells #[.pointer none,.slice none 0 0] 196 (0,0)) := by rw [<- hW0]; exact heap_alloc2_new _ _ _
 have u0 : Up w W0 := by rw [<- hW0]; exact ((Up.refl _).alloc _).alloc _
 have hb0 : IsB (w.heap.size + 1) (w.heap.size + 1) [] W0 := .inl ⟨Nat.le_refl _,.slice none 0 0,g1,⟨rfl,.inl ⟨rfl,rfl⟩⟩,fun h=>by cases h⟩
 have hl0 := Lib.itoa_length_le e.fr hw.fr.1 hw.fr.2
 have HT5 : Hid (∀ W,Up w W -> Calls Tryz.prog 188 #[.int .i64 e.fr] W fun x w'=>x = .returned (.string ⟨(Lib.itoa e.fr).toArray⟩) /\ Up W w') := fun W u=>tens_ e.fr hw.fr W (hT.up u)
 have HTi : Hid (∀ W i,Up w W -> i < e.ord.length -> Calls Tryz.prog 188 #[.int .i64 (e.ord.getD i 0)] W fun x w'=>x = .returned (.string ⟨(Lib.itoa (e.ord.getD i 0)).toArray⟩) /\ Up W w') := fun W i u hi=>tens_ _ (hw.ord i hi) W (hT.up u)
 have HLi : Hid (∀ i,i < e.ord.length -> (Lib.itoa (e.ord.getD i 0)).length <= 21) := fun i hi=>Lib.itoa_length_le _ (hw.ord i hi).1 (hw.ord i hi).2
 have HSL : Hid (∀ i,i <= e.ord.length -> (shL (e.ord.take i)).length <= 22 * i) := shL_le e.ord hw.ord
 have HSN : Hid (∀ i,i < e.ord.length -> shL (e.ord.take (i + 1)) = shL (e.ord.take i) ++ (32 :: Lib.itoa (e.ord.getD i 0))) := shL_snoc e.ord
 have HFI : Hid (shuffL e = preL e ++ shL (e.ord.take e.ord.length)) := by unfold Hid shuffL; rw [List.take_length]
 have HPR : Hid (preL e = [115,104,117,102,102,108,101,32] ++ Lib.itoa e.fr ++ [58]) := rfl
 have c5 : W0.cell? ⟨w.heap.size,5,none⟩ = some (.int .i64 e.fr) := by simp [World.cell?,g0]
 have HG0 : Hid _ := g0
 have HB0 : Hid _ := hb0
 have HU0 : Hid _ := u0
 obtain ⟨n,hn0⟩ : ∃ n,n = e.ord.length := ⟨_,rfl⟩
 obtain ⟨ord,hord⟩ : ∃ l,l = e.ord := ⟨_,rfl⟩
 rw [<- hord] at hn0 HTi HLi HSL HSN HFI HCE hn HG0 hW0 ⊢
 rw [<- hn0] at hn HTi HLi HSL HSN HFI HCE HG0 hW0 ⊢
 generalize shuffL e = fin at *
 generalize preL e = pre at *
 generalize Lib.itoa e.fr = l0 at *
 clear g0 g1 hb0 u0 hw hT ho hcell hord hn0
 go_enter Tryz.func139,Tryz.ntmps139
 go_wp2_with fail
 try rw [hW0]
 refine Calls.mono (HT5.out _ HU0.out) ?_
 rintro r W1 ⟨rfl,u1⟩
 have HB1 : Hid (IsB (w.heap.size + 1) (w.heap.size + 1) (Lib.byteCells []) W1) := isb_up HB0.out u1
 have hlt : w.heap.size + 1 <= W1.heap.size := by
  have h1 := u1.size
  have h2 : W0.heap.size = w.heap.size + 1 + 1 := by rw [<- hW0]; simp
  omega
 have HD1 : Hid (Below (w.heap.size + 1) W0 W1) := u1.mono (by have h2 : W0.heap.size = w.heap.size + 1 + 1 := (by rw [<- hW0]; simp); omega)
 clear u1 hW0 c5 HB0 HT5
 have hcat : ((⟨#[115,104,117,102,102,108,101,32]⟩ ++ ⟨l0.toArray⟩ : ByteArray) ++ ⟨#[58]⟩ : ByteArray) = ⟨pre.toArray⟩ := by
  rw [HPR.out]
  apply ByteArray.ext
  simp
 have hpl : pre.length <= 30 := by rw [HPR.out]; simp; omega
 have HWS : Hid _ := wstr_ (w.heap.size + 1) (w.heap.size + 1) [] pre W1 HB1.out (by simp; omega) hlt
 have HCT : Hid _ := hcat
 clear hcat HB1 HPR
 go_wp2_with fail
 rw [HCT.out]
 refine Calls.mono HWS.out ?_
 rintro r W2 ⟨rfl,hb2,hd2⟩
 have HB2 : Hid (IsB (w.heap.size + 1) (w.heap.size + 1) (Lib.byteCells pre) W2) := by unfold Hid; simpa using hb2
 have HD2 : Hid (Below (w.heap.size + 1) W0 W2) := Below.trans HD1.out hd2
 have c11 : W2.cell? ⟨w.heap.size,11,none⟩ = some (.slice oa n oc) := by
  have h9 := (HD2.out.block w.heap.size (by omega)).trans HG0.out
  simp [World.cell?,h9]
 clear hb2 hd2 HWS HCT HD1 hlt
 go_wp2_with fail
 clear c11
 go_loopw [15] (fun s15 W=>∃ i : Nat,i <= n /\ s15 = .int .i64 i /\ IsB (w.heap.size + 1) (w.heap.size + 1) (Lib.byteCells (pre ++ shL (ord.take i))) W /\ Below (w.heap.size + 1) W0 W /\ w.heap.size + 1 <= W.heap.size) (fun s15 _=>n - (intOf s15).toNat)
 case atStart=>exact ⟨0,Nat.zero_le _,rfl,by simpa [shL] using HB2.out,HD2.out,by have h1 := HD2.out.size; have h2 := (Array.getElem?_eq_some_iff.1 HG0.out).1; omega⟩
 case round =>
  clear HB2 HD2
  obtain ⟨i,hi,rfl,hb,hd,hs⟩ := hrel
  have HB : Hid _ := hb
  have HD : Hid _ := hd
  have HU : Hid (Up w wr) := Below.trans HU0.out (hd.mono (by omega))
  by_cases hlt : i < n
  ·have hlt2 : (i : Int) < (n : Int) := by omega
   obtain ⟨b1,o1,rfl,hc1⟩ := HCE.out (by omega)
   have x1 := hc1 wr HU.out i hlt
   have HK : Hid _ := HTi.out wr i HU.out hlt
   have hli := HLi.out i hlt
   have hsl := HSL.out i (by omega)
   have HS1 : Hid _ := HSN.out i hlt
   clear hc1 hb hd
   generalize ord.getD i 0 = z at *
   generalize Lib.itoa z = l at *
   go_wp2_with fail
   refine Calls.mono HK.out ?_
   rintro r W3 ⟨rfl,u3⟩
   have HW3 : Hid _ := wstr_ (w.heap.size + 1) (w.heap.size + 1) (pre ++ shL (ord.take i)) (32 :: l) W3 (isb_up HB.out u3) (by rw [List.length_append,List.length_cons]; omega) (Nat.le_trans hs u3.size)
   have HD3 : Hid (Below (w.heap.size + 1) W0 W3 /\ w.heap.size + 1 <= W3.heap.size) := ⟨Below.trans HD.out (u3.mono hs),Nat.le_trans hs u3.size⟩
   clear u3 HK x1
   go_wp2_with fail
   rw [cat1]
   refine Calls.mono HW3.out ?_
   rintro r W4 ⟨rfl,hb4,hd4⟩
   rw [List.append_assoc,<- HS1.out] at hb4
   have HB4 : Hid _ := hb4
   have HD4 : Hid (Below (w.heap.size + 1) W0 W4 /\ w.heap.size + 1 <= W4.heap.size) := ⟨Below.trans HD3.out.1 hd4,Nat.le_trans HD3.out.2 hd4.size⟩
   clear hb4 hd4 HW3 HD3 HS1
   go_wp2_with fail
   go_roundw
   case rel=>exact ⟨i + 1,by omega,by go_num,HB4.out,HD4.out.1,HD4.out.2⟩
   case measure=>simp [intOf] <;> omega
  ·have hlt2 : ¬ (i : Int) < (n : Int) := by omega
   have hin : i = n := by omega
   rw [hin] at hb
   rw [<- HFI.out] at hb
   have HST : Hid _ := Tryz.Builder_String_any_k (w.heap.size + 1) (w.heap.size + 1) fin wr hb hs
   clear hb hd hin
   go_wp2_with fail
   refine Calls.mono HST.out ?_
   rintro r W5 ⟨rfl,-,hd5,-⟩
   have HZ : Hid (Up w W5) := Below.trans HU.out (hd5.mono (by omega))
   clear hd5 HST
   go_wp2
   go_ret
   exact ⟨rfl,HZ.out⟩
theorem quiet_index_row {P : Program} {C : World -> Prop} {a : Act} {o : Oper} {K : Act -> Prop} (ty el : TypeId) (x y : Operand) (h : o.op = .index ty x y) (T R : Array Value) (k : IntKind) (i : Int) (len sz : Nat) (hx : a.eval x = .agg T) (hy : a.eval y = .int k i) (hu : P.underlying ty = some (.array len el)) (h0 : 0 <= i /\ i < len)
  (hag : ∀ w,(isAgg el).run P w = .ok true w) (hsz : ∀ w,(Go.sizeOf el).run P w = .ok sz w) (hR : T.extract (i.toNat * sz) (i.toNat * sz + sz) = R) (hk : K (a.put o.dst (.agg R))) : o.quiet P a C K :=
 ⟨.agg R,fun w _=>by
  unfold Oper.quietAt execOp
  simp [h,hx,hy,Instr.index,asIntOf,run_underlying hu,h0,part,hag,hsz,hR]
  exact ⟨rfl,rfl⟩,hk⟩
theorem quiet_field_cell {P : Program} {C : World -> Prop} {a : Act} {o : Oper} {K : Act -> Prop} (ty : TypeId) (x : Operand) (k : Nat) (h : o.op = .field ty x k) (cs : Array Value) (v : Value) (fs : Array Field) (f : Field) (hx : a.eval x = .agg cs) (hu : P.underlying ty = some (.struct fs)) (hf : fs[k]? = some f)
  (hag : ∀ w,(isAgg f.type).run P w = .ok false w) (hv : cs[f.offset]? = some v) (hk : K (a.put o.dst v)) : o.quiet P a C K :=
 ⟨v,fun w _=>by
  unfold Oper.quietAt execOp
  simp [h,hx,Instr.field,run_underlying hu,hf,asAgg,part,hag,hv]
  exact ⟨rfl,rfl⟩,hk⟩
def txtL (e : Ev) : List UInt8 := if e.kind = 1 then moveL e else if e.kind = 2 then cardL e else if e.kind = 3 then playerL e else if e.kind = 4 then shuffL e else if e.kind = 5 then outL e else if e.kind = 6 then turnL e else if e.kind = 7 then endL e else [101,118,101,110,116,32] ++ Lib.itoa e.kind
set_option maxRecDepth 100000 in
set_option maxHeartbeats 4000000 in
theorem text_move (e : Ev) (oa : Option Addr) (oc : Nat) (w : World) (hT : TabP w) (hw : EvW e) (hk : e.kind = 1) : Calls Tryz.prog 37 #[.agg #[.int .i8 e.kind,.int .i8 e.field,.int .i64 e.card,.int .i64 e.player,.int .i64 e.other,.int .i64 e.fr,.int .i64 e.frAt,.int .i64 e.to_,.int .i64 e.toAt,.int .i32 e.was,.int .i32 e.now,.slice oa e.ord.length oc]] w fun x w'=>x = .returned (.string ⟨(moveL e).toArray⟩) /\ Up w w' := by
 obtain ⟨W0,hW0⟩ : ∃ W0,w.alloc (.cells #[.int .i8 e.kind,.int .i8 e.field,.int .i64 e.card,.int .i64 e.player,.int .i64 e.other,.int .i64 e.fr,.int .i64 e.frAt,.int .i64 e.to_,.int .i64 e.toAt,.int .i32 e.was,.int .i32 e.now,.slice oa e.ord.length oc] 30) = W0 := ⟨_,rfl⟩
 have g0 : W0.heap[w.heap.size]? = some (.cells #[.int .i8 e.kind,.int .i8 e.field,.int .i64 e.card,.int .i64 e.player,.int .i64 e.other,.int .i64 e.fr,.int .i64 e.frAt,.int .i64 e.to_,.int .i64 e.toAt,.int .i32 e.was,.int .i32 e.now,.slice oa e.ord.length oc] 30 (0,0)) := by rw [<- hW0]; exact heap_alloc_new _ _
 have u0 : Up w W0 := by rw [<- hW0]; exact (Up.refl _).alloc _
 have ne : Nonempty (UW W0) := ⟨⟨W0,Up.refl _⟩⟩
 have mk : ∀ {f : Nat} {args : Array Value} {Rv : Value} (U : UW W0),Calls Tryz.prog f args U.W (fun e w'=>e = .returned Rv /\ Up U.W w') -> Calls Tryz.prog f args U.W (fun e w'=>e = .returned Rv /\ ∃ V : UW W0,w' = V.W) := fun U h=>h.mono fun e w' ⟨h1,h2⟩=>⟨h1,⟨w',U.up.trans h2⟩,rfl⟩
 have HR : Hid (∀ U : UW W0,Calls Tryz.prog 81 #[] U.W fun x w'=>x = .returned (.agg tabV) /\ ∃ V : UW W0,w' = V.W) := fun U=>mk U (rules_ U.W)
 have HX : Hid (∀ U : UW W0,Calls Tryz.prog 122 #[.agg #[.int .i8 e.kind,.int .i8 e.field,.int .i64 e.card,.int .i64 e.player,.int .i64 e.other,.int .i64 e.fr,.int .i64 e.frAt,.int .i64 e.to_,.int .i64 e.toAt,.int .i32 e.was,.int .i32 e.now,.slice oa e.ord.length oc]] U.W fun x w'=>x = .returned (.string ⟨(moveL e).toArray⟩) /\ ∃ V : UW W0,w' = V.W) := fun U=>mk U (moveText_ e oa _ oc U.W (hT.up (u0.trans U.up)) hw)
 have HK : Hid (∀ w,Calls Tryz.prog 93 #[.int .i8 1] w fun e w'=>e = .returned (.bool true) /\ w' = w) := isKind_ 1
 have e0 : ∀ U : UW W0,U.W.cell? ⟨w.heap.size,0,none⟩ = some (.int .i8 e.kind) := fun U=>by rw [World.cell?,U.up.heap g0]; rfl
 have e1 : ∀ U : UW W0,U.W.cell? ⟨w.heap.size,1,none⟩ = some (.int .i8 e.field) := fun U=>by rw [World.cell?,U.up.heap g0]; rfl
 have e2 : ∀ U : UW W0,U.W.cell? ⟨w.heap.size,2,none⟩ = some (.int .i64 e.card) := fun U=>by rw [World.cell?,U.up.heap g0]; rfl
 have e3 : ∀ U : UW W0,U.W.cell? ⟨w.heap.size,3,none⟩ = some (.int .i64 e.player) := fun U=>by rw [World.cell?,U.up.heap g0]; rfl
 have e4 : ∀ U : UW W0,U.W.cell? ⟨w.heap.size,4,none⟩ = some (.int .i64 e.other) := fun U=>by rw [World.cell?,U.up.heap g0]; rfl
 have e5 : ∀ U : UW W0,U.W.cell? ⟨w.heap.size,5,none⟩ = some (.int .i64 e.fr) := fun U=>by rw [World.cell?,U.up.heap g0]; rfl
 have e6 : ∀ U : UW W0,U.W.cell? ⟨w.heap.size,6,none⟩ = some (.int .i64 e.frAt) := fun U=>by rw [World.cell?,U.up.heap g0]; rfl
 have e7 : ∀ U : UW W0,U.W.cell? ⟨w.heap.size,7,none⟩ = some (.int .i64 e.to_) := fun U=>by rw [World.cell?,U.up.heap g0]; rfl
 have e8 : ∀ U : UW W0,U.W.cell? ⟨w.heap.size,8,none⟩ = some (.int .i64 e.toAt) := fun U=>by rw [World.cell?,U.up.heap g0]; rfl
 have e9 : ∀ U : UW W0,U.W.cell? ⟨w.heap.size,9,none⟩ = some (.int .i32 e.was) := fun U=>by rw [World.cell?,U.up.heap g0]; rfl
 have e10 : ∀ U : UW W0,U.W.cell? ⟨w.heap.size,10,none⟩ = some (.int .i32 e.now) := fun U=>by rw [World.cell?,U.up.heap g0]; rfl
 have e11 : ∀ U : UW W0,U.W.cell? ⟨w.heap.size,11,none⟩ = some (.slice oa e.ord.length oc) := fun U=>by rw [World.cell?,U.up.heap g0]; rfl
 have HU0 : Hid _ := u0
 have hx : tabV.extract 6 12 = row 1 := by kernel_rfl
 unfold row fv at hx
 have hts := tabV_size
 generalize tabV = T at *
 clear mk hT hw g0 u0
 generalize moveL e = l at *
 rw [hk] at HX e0 hW0 ⊢
 clear hk
 have c0 : W0.cell? ⟨w.heap.size,0,none⟩ = some (.int .i8 1) := e0 ⟨W0,Up.refl _⟩
 go_enter Tryz.func37,Tryz.ntmps37
 go_wp2_with fail
 try rw [hW0]
 clear hW0
 refine Calls.mono (HK.out _) ?_
 rintro r W1 ⟨rfl,hw1⟩
 subst hw1
 clear c0
 go_wp2_with fail
 refine TailR.wp_region_seqC 7 (fun w'=>∃ U : UW W1,w' = U.W) ⟨⟨_,(Up.refl _).drewN 1⟩,rfl⟩ (by kernel_rfl) (by kernel_rfl) ?_
 simp only [List.take_succ_cons,List.take_zero,List.drop_succ_cons,List.drop_zero]
 repeat (go_big_quiet_step (first | with_reducible exact HR.out _ | with_reducible exact HX.out _))
 refine BigFrame.wpQuiet_want (by rfl) (fun K hK=>?_)
 refine quiet_index_row 107 106 (.tmp 11) (.tmp 13) (by rfl) T _ .i8 1 8 6 (by rfl) (by rfl) Tryz.underlying107 (by decide) Tryz.isAgg106 Tryz.sizeOf106 hx ?_
 refine hK _ ?_
 clear hK K
 simp only [Act.put,qa1,qa2,qa3]
 refine BigFrame.wpQuiet_want (by rfl) (fun K hK=>?_)
 refine quiet_field_cell 106 (.tmp 14) 5 (by rfl) _ _ _ _ (by rfl) Tryz.underlying106 (by rfl) Tryz.isAgg82 (by rfl) ?_
 refine hK _ ?_
 clear hK K
 simp only [Act.put,qa1,qa2,qa3]
 repeat (go_big_quiet_step (first | with_reducible exact HR.out _ | with_reducible exact HX.out _))
 refine wpQuiet_nil ?_
 intro _ hw'
 obtain ⟨U,hw''⟩ := hw'
 subst hw''
 have HUU : Hid (Up w U.W) := Up.trans HU0.out U.up
 clear e0 e1 e2 e3 e4 e5 e6 e7 e8 e9 e10 e11 HU0
 generalize U.W = V at *
 go_wp2
 go_ret
 exact ⟨rfl,HUU.out⟩
set_option maxRecDepth 100000 in
set_option maxHeartbeats 4000000 in
theorem text_card (e : Ev) (oa : Option Addr) (oc : Nat) (w : World) (hT : TabP w) (hw : EvW e) (hk : e.kind = 2) : Calls Tryz.prog 37 #[.agg #[.int .i8 e.kind,.int .i8 e.field,.int .i64 e.card,.int .i64 e.player,.int .i64 e.other,.int .i64 e.fr,.int .i64 e.frAt,.int .i64 e.to_,.int .i64 e.toAt,.int .i32 e.was,.int .i32 e.now,.slice oa e.ord.length oc]] w fun x w'=>x = .returned (.string ⟨(cardL e).toArray⟩) /\ Up w w' := by
 obtain ⟨W0,hW0⟩ : ∃ W0,w.alloc (.cells #[.int .i8 e.kind,.int .i8 e.field,.int .i64 e.card,.int .i64 e.player,.int .i64 e.other,.int .i64 e.fr,.int .i64 e.frAt,.int .i64 e.to_,.int .i64 e.toAt,.int .i32 e.was,.int .i32 e.now,.slice oa e.ord.length oc] 30) = W0 := ⟨_,rfl⟩
 have g0 : W0.heap[w.heap.size]? = some (.cells #[.int .i8 e.kind,.int .i8 e.field,.int .i64 e.card,.int .i64 e.player,.int .i64 e.other,.int .i64 e.fr,.int .i64 e.frAt,.int .i64 e.to_,.int .i64 e.toAt,.int .i32 e.was,.int .i32 e.now,.slice oa e.ord.length oc] 30 (0,0)) := by rw [<- hW0]; exact heap_alloc_new _ _
 have u0 : Up w W0 := by rw [<- hW0]; exact (Up.refl _).alloc _
 have ne : Nonempty (UW W0) := ⟨⟨W0,Up.refl _⟩⟩
 have mk : ∀ {f : Nat} {args : Array Value} {Rv : Value} (U : UW W0),Calls Tryz.prog f args U.W (fun e w'=>e = .returned Rv /\ Up U.W w') -> Calls Tryz.prog f args U.W (fun e w'=>e = .returned Rv /\ ∃ V : UW W0,w' = V.W) := fun U h=>h.mono fun e w' ⟨h1,h2⟩=>⟨h1,⟨w',U.up.trans h2⟩,rfl⟩
 have HR : Hid (∀ U : UW W0,Calls Tryz.prog 81 #[] U.W fun x w'=>x = .returned (.agg tabV) /\ ∃ V : UW W0,w' = V.W) := fun U=>mk U (rules_ U.W)
 have HX : Hid (∀ U : UW W0,Calls Tryz.prog 128 #[.agg #[.int .i8 e.kind,.int .i8 e.field,.int .i64 e.card,.int .i64 e.player,.int .i64 e.other,.int .i64 e.fr,.int .i64 e.frAt,.int .i64 e.to_,.int .i64 e.toAt,.int .i32 e.was,.int .i32 e.now,.slice oa e.ord.length oc]] U.W fun x w'=>x = .returned (.string ⟨(cardL e).toArray⟩) /\ ∃ V : UW W0,w' = V.W) := fun U=>mk U (cardText_ e oa _ oc U.W (hT.up (u0.trans U.up)) hw)
 have HK : Hid (∀ w,Calls Tryz.prog 93 #[.int .i8 2] w fun e w'=>e = .returned (.bool true) /\ w' = w) := isKind_ 2
 have e0 : ∀ U : UW W0,U.W.cell? ⟨w.heap.size,0,none⟩ = some (.int .i8 e.kind) := fun U=>by rw [World.cell?,U.up.heap g0]; rfl
 have e1 : ∀ U : UW W0,U.W.cell? ⟨w.heap.size,1,none⟩ = some (.int .i8 e.field) := fun U=>by rw [World.cell?,U.up.heap g0]; rfl
 have e2 : ∀ U : UW W0,U.W.cell? ⟨w.heap.size,2,none⟩ = some (.int .i64 e.card) := fun U=>by rw [World.cell?,U.up.heap g0]; rfl
 have e3 : ∀ U : UW W0,U.W.cell? ⟨w.heap.size,3,none⟩ = some (.int .i64 e.player) := fun U=>by rw [World.cell?,U.up.heap g0]; rfl
 have e4 : ∀ U : UW W0,U.W.cell? ⟨w.heap.size,4,none⟩ = some (.int .i64 e.other) := fun U=>by rw [World.cell?,U.up.heap g0]; rfl
 have e5 : ∀ U : UW W0,U.W.cell? ⟨w.heap.size,5,none⟩ = some (.int .i64 e.fr) := fun U=>by rw [World.cell?,U.up.heap g0]; rfl
 have e6 : ∀ U : UW W0,U.W.cell? ⟨w.heap.size,6,none⟩ = some (.int .i64 e.frAt) := fun U=>by rw [World.cell?,U.up.heap g0]; rfl
 have e7 : ∀ U : UW W0,U.W.cell? ⟨w.heap.size,7,none⟩ = some (.int .i64 e.to_) := fun U=>by rw [World.cell?,U.up.heap g0]; rfl
 have e8 : ∀ U : UW W0,U.W.cell? ⟨w.heap.size,8,none⟩ = some (.int .i64 e.toAt) := fun U=>by rw [World.cell?,U.up.heap g0]; rfl
 have e9 : ∀ U : UW W0,U.W.cell? ⟨w.heap.size,9,none⟩ = some (.int .i32 e.was) := fun U=>by rw [World.cell?,U.up.heap g0]; rfl
 have e10 : ∀ U : UW W0,U.W.cell? ⟨w.heap.size,10,none⟩ = some (.int .i32 e.now) := fun U=>by rw [World.cell?,U.up.heap g0]; rfl
 have e11 : ∀ U : UW W0,U.W.cell? ⟨w.heap.size,11,none⟩ = some (.slice oa e.ord.length oc) := fun U=>by rw [World.cell?,U.up.heap g0]; rfl
 have HU0 : Hid _ := u0
 have hx : tabV.extract 12 18 = row 2 := by kernel_rfl
 unfold row fv at hx
 have hts := tabV_size
 generalize tabV = T at *
 clear mk hT hw g0 u0
 generalize cardL e = l at *
 rw [hk] at HX e0 hW0 ⊢
 clear hk
 have c0 : W0.cell? ⟨w.heap.size,0,none⟩ = some (.int .i8 2) := e0 ⟨W0,Up.refl _⟩
 go_enter Tryz.func37,Tryz.ntmps37
 go_wp2_with fail
 try rw [hW0]
 clear hW0
 refine Calls.mono (HK.out _) ?_
 rintro r W1 ⟨rfl,hw1⟩
 subst hw1
 clear c0
 go_wp2_with fail
 refine TailR.wp_region_seqC 7 (fun w'=>∃ U : UW W1,w' = U.W) ⟨⟨_,(Up.refl _).drewN 1⟩,rfl⟩ (by kernel_rfl) (by kernel_rfl) ?_
 simp only [List.take_succ_cons,List.take_zero,List.drop_succ_cons,List.drop_zero]
 repeat (go_big_quiet_step (first | with_reducible exact HR.out _ | with_reducible exact HX.out _))
 refine BigFrame.wpQuiet_want (by rfl) (fun K hK=>?_)
 refine quiet_index_row 107 106 (.tmp 11) (.tmp 13) (by rfl) T _ .i8 2 8 6 (by rfl) (by rfl) Tryz.underlying107 (by decide) Tryz.isAgg106 Tryz.sizeOf106 hx ?_
 refine hK _ ?_
 clear hK K
 simp only [Act.put,qa1,qa2,qa3]
 refine BigFrame.wpQuiet_want (by rfl) (fun K hK=>?_)
 refine quiet_field_cell 106 (.tmp 14) 5 (by rfl) _ _ _ _ (by rfl) Tryz.underlying106 (by rfl) Tryz.isAgg82 (by rfl) ?_
 refine hK _ ?_
 clear hK K
 simp only [Act.put,qa1,qa2,qa3]
 repeat (go_big_quiet_step (first | with_reducible exact HR.out _ | with_reducible exact HX.out _))
 refine wpQuiet_nil ?_
 intro _ hw'
 obtain ⟨U,hw''⟩ := hw'
 subst hw''
 have HUU : Hid (Up w U.W) := Up.trans HU0.out U.up
 clear e0 e1 e2 e3 e4 e5 e6 e7 e8 e9 e10 e11 HU0
 generalize U.W = V at *
 go_wp2
 go_ret
 exact ⟨rfl,HUU.out⟩
set_option maxRecDepth 100000 in
set_option maxHeartbeats 4000000 in
theorem text_player (e : Ev) (oa : Option Addr) (oc : Nat) (w : World) (hT : TabP w) (hw : EvW e) (hk : e.kind = 3) : Calls Tryz.prog 37 #[.agg #[.int .i8 e.kind,.int .i8 e.field,.int .i64 e.card,.int .i64 e.player,.int .i64 e.other,.int .i64 e.fr,.int .i64 e.frAt,.int .i64 e.to_,.int .i64 e.toAt,.int .i32 e.was,.int .i32 e.now,.slice oa e.ord.length oc]] w fun x w'=>x = .returned (.string ⟨(playerL e).toArray⟩) /\ Up w w' := by
 obtain ⟨W0,hW0⟩ : ∃ W0,w.alloc (.cells #[.int .i8 e.kind,.int .i8 e.field,.int .i64 e.card,.int .i64 e.player,.int .i64 e.other,.int .i64 e.fr,.int .i64 e.frAt,.int .i64 e.to_,.int .i64 e.toAt,.int .i32 e.was,.int .i32 e.now,.slice oa e.ord.length oc] 30) = W0 := ⟨_,rfl⟩
 have g0 : W0.heap[w.heap.size]? = some (.cells #[.int .i8 e.kind,.int .i8 e.field,.int .i64 e.card,.int .i64 e.player,.int .i64 e.other,.int .i64 e.fr,.int .i64 e.frAt,.int .i64 e.to_,.int .i64 e.toAt,.int .i32 e.was,.int .i32 e.now,.slice oa e.ord.length oc] 30 (0,0)) := by rw [<- hW0]; exact heap_alloc_new _ _
 have u0 : Up w W0 := by rw [<- hW0]; exact (Up.refl _).alloc _
 have ne : Nonempty (UW W0) := ⟨⟨W0,Up.refl _⟩⟩
 have mk : ∀ {f : Nat} {args : Array Value} {Rv : Value} (U : UW W0),Calls Tryz.prog f args U.W (fun e w'=>e = .returned Rv /\ Up U.W w') -> Calls Tryz.prog f args U.W (fun e w'=>e = .returned Rv /\ ∃ V : UW W0,w' = V.W) := fun U h=>h.mono fun e w' ⟨h1,h2⟩=>⟨h1,⟨w',U.up.trans h2⟩,rfl⟩
 have HR : Hid (∀ U : UW W0,Calls Tryz.prog 81 #[] U.W fun x w'=>x = .returned (.agg tabV) /\ ∃ V : UW W0,w' = V.W) := fun U=>mk U (rules_ U.W)
 have HX : Hid (∀ U : UW W0,Calls Tryz.prog 134 #[.agg #[.int .i8 e.kind,.int .i8 e.field,.int .i64 e.card,.int .i64 e.player,.int .i64 e.other,.int .i64 e.fr,.int .i64 e.frAt,.int .i64 e.to_,.int .i64 e.toAt,.int .i32 e.was,.int .i32 e.now,.slice oa e.ord.length oc]] U.W fun x w'=>x = .returned (.string ⟨(playerL e).toArray⟩) /\ ∃ V : UW W0,w' = V.W) := fun U=>mk U (playerText_ e oa _ oc U.W (hT.up (u0.trans U.up)) hw)
 have HK : Hid (∀ w,Calls Tryz.prog 93 #[.int .i8 3] w fun e w'=>e = .returned (.bool true) /\ w' = w) := isKind_ 3
 have e0 : ∀ U : UW W0,U.W.cell? ⟨w.heap.size,0,none⟩ = some (.int .i8 e.kind) := fun U=>by rw [World.cell?,U.up.heap g0]; rfl
 have e1 : ∀ U : UW W0,U.W.cell? ⟨w.heap.size,1,none⟩ = some (.int .i8 e.field) := fun U=>by rw [World.cell?,U.up.heap g0]; rfl
 have e2 : ∀ U : UW W0,U.W.cell? ⟨w.heap.size,2,none⟩ = some (.int .i64 e.card) := fun U=>by rw [World.cell?,U.up.heap g0]; rfl
 have e3 : ∀ U : UW W0,U.W.cell? ⟨w.heap.size,3,none⟩ = some (.int .i64 e.player) := fun U=>by rw [World.cell?,U.up.heap g0]; rfl
 have e4 : ∀ U : UW W0,U.W.cell? ⟨w.heap.size,4,none⟩ = some (.int .i64 e.other) := fun U=>by rw [World.cell?,U.up.heap g0]; rfl
 have e5 : ∀ U : UW W0,U.W.cell? ⟨w.heap.size,5,none⟩ = some (.int .i64 e.fr) := fun U=>by rw [World.cell?,U.up.heap g0]; rfl
 have e6 : ∀ U : UW W0,U.W.cell? ⟨w.heap.size,6,none⟩ = some (.int .i64 e.frAt) := fun U=>by rw [World.cell?,U.up.heap g0]; rfl
 have e7 : ∀ U : UW W0,U.W.cell? ⟨w.heap.size,7,none⟩ = some (.int .i64 e.to_) := fun U=>by rw [World.cell?,U.up.heap g0]; rfl
 have e8 : ∀ U : UW W0,U.W.cell? ⟨w.heap.size,8,none⟩ = some (.int .i64 e.toAt) := fun U=>by rw [World.cell?,U.up.heap g0]; rfl
 have e9 : ∀ U : UW W0,U.W.cell? ⟨w.heap.size,9,none⟩ = some (.int .i32 e.was) := fun U=>by rw [World.cell?,U.up.heap g0]; rfl
 have e10 : ∀ U : UW W0,U.W.cell? ⟨w.heap.size,10,none⟩ = some (.int .i32 e.now) := fun U=>by rw [World.cell?,U.up.heap g0]; rfl
 have e11 : ∀ U : UW W0,U.W.cell? ⟨w.heap.size,11,none⟩ = some (.slice oa e.ord.length oc) := fun U=>by rw [World.cell?,U.up.heap g0]; rfl
 have HU0 : Hid _ := u0
 have hx : tabV.extract 18 24 = row 3 := by kernel_rfl
 unfold row fv at hx
 have hts := tabV_size
 generalize tabV = T at *
 clear mk hT hw g0 u0
 generalize playerL e = l at *
 rw [hk] at HX e0 hW0 ⊢
 clear hk
 have c0 : W0.cell? ⟨w.heap.size,0,none⟩ = some (.int .i8 3) := e0 ⟨W0,Up.refl _⟩
 go_enter Tryz.func37,Tryz.ntmps37
 go_wp2_with fail
 try rw [hW0]
 clear hW0
 refine Calls.mono (HK.out _) ?_
 rintro r W1 ⟨rfl,hw1⟩
 subst hw1
 clear c0
 go_wp2_with fail
 refine TailR.wp_region_seqC 7 (fun w'=>∃ U : UW W1,w' = U.W) ⟨⟨_,(Up.refl _).drewN 1⟩,rfl⟩ (by kernel_rfl) (by kernel_rfl) ?_
 simp only [List.take_succ_cons,List.take_zero,List.drop_succ_cons,List.drop_zero]
 repeat (go_big_quiet_step (first | with_reducible exact HR.out _ | with_reducible exact HX.out _))
 refine BigFrame.wpQuiet_want (by rfl) (fun K hK=>?_)
 refine quiet_index_row 107 106 (.tmp 11) (.tmp 13) (by rfl) T _ .i8 3 8 6 (by rfl) (by rfl) Tryz.underlying107 (by decide) Tryz.isAgg106 Tryz.sizeOf106 hx ?_
 refine hK _ ?_
 clear hK K
 simp only [Act.put,qa1,qa2,qa3]
 refine BigFrame.wpQuiet_want (by rfl) (fun K hK=>?_)
 refine quiet_field_cell 106 (.tmp 14) 5 (by rfl) _ _ _ _ (by rfl) Tryz.underlying106 (by rfl) Tryz.isAgg82 (by rfl) ?_
 refine hK _ ?_
 clear hK K
 simp only [Act.put,qa1,qa2,qa3]
 repeat (go_big_quiet_step (first | with_reducible exact HR.out _ | with_reducible exact HX.out _))
 refine wpQuiet_nil ?_
 intro _ hw'
 obtain ⟨U,hw''⟩ := hw'
 subst hw''
 have HUU : Hid (Up w U.W) := Up.trans HU0.out U.up
 clear e0 e1 e2 e3 e4 e5 e6 e7 e8 e9 e10 e11 HU0
 generalize U.W = V at *
 go_wp2
 go_ret
 exact ⟨rfl,HUU.out⟩
set_option maxRecDepth 100000 in
set_option maxHeartbeats 4000000 in
theorem text_shuffle (e : Ev) (oa : Option Addr) (oc : Nat) (w : World) (hT : TabP w) (hw : EvW e) (ho : IL w (.slice oa e.ord.length oc) e.ord) (hn : e.ord.length <= 4294967296) (hk : e.kind = 4) : Calls Tryz.prog 37 #[.agg #[.int .i8 e.kind,.int .i8 e.field,.int .i64 e.card,.int .i64 e.player,.int .i64 e.other,.int .i64 e.fr,.int .i64 e.frAt,.int .i64 e.to_,.int .i64 e.toAt,.int .i32 e.was,.int .i32 e.now,.slice oa e.ord.length oc]] w fun x w'=>x = .returned (.string ⟨(shuffL e).toArray⟩) /\ Up w w' := by
 obtain ⟨W0,hW0⟩ : ∃ W0,w.alloc (.cells #[.int .i8 e.kind,.int .i8 e.field,.int .i64 e.card,.int .i64 e.player,.int .i64 e.other,.int .i64 e.fr,.int .i64 e.frAt,.int .i64 e.to_,.int .i64 e.toAt,.int .i32 e.was,.int .i32 e.now,.slice oa e.ord.length oc] 30) = W0 := ⟨_,rfl⟩
 have g0 : W0.heap[w.heap.size]? = some (.cells #[.int .i8 e.kind,.int .i8 e.field,.int .i64 e.card,.int .i64 e.player,.int .i64 e.other,.int .i64 e.fr,.int .i64 e.frAt,.int .i64 e.to_,.int .i64 e.toAt,.int .i32 e.was,.int .i32 e.now,.slice oa e.ord.length oc] 30 (0,0)) := by rw [<- hW0]; exact heap_alloc_new _ _
 have u0 : Up w W0 := by rw [<- hW0]; exact (Up.refl _).alloc _
 have ne : Nonempty (UW W0) := ⟨⟨W0,Up.refl _⟩⟩
 have mk : ∀ {f : Nat} {args : Array Value} {Rv : Value} (U : UW W0),Calls Tryz.prog f args U.W (fun e w'=>e = .returned Rv /\ Up U.W w') -> Calls Tryz.prog f args U.W (fun e w'=>e = .returned Rv /\ ∃ V : UW W0,w' = V.W) := fun U h=>h.mono fun e w' ⟨h1,h2⟩=>⟨h1,⟨w',U.up.trans h2⟩,rfl⟩
 have HR : Hid (∀ U : UW W0,Calls Tryz.prog 81 #[] U.W fun x w'=>x = .returned (.agg tabV) /\ ∃ V : UW W0,w' = V.W) := fun U=>mk U (rules_ U.W)
 have HX : Hid (∀ U : UW W0,Calls Tryz.prog 139 #[.agg #[.int .i8 e.kind,.int .i8 e.field,.int .i64 e.card,.int .i64 e.player,.int .i64 e.other,.int .i64 e.fr,.int .i64 e.frAt,.int .i64 e.to_,.int .i64 e.toAt,.int .i32 e.was,.int .i32 e.now,.slice oa e.ord.length oc]] U.W fun x w'=>x = .returned (.string ⟨(shuffL e).toArray⟩) /\ ∃ V : UW W0,w' = V.W) := fun U=>mk U (shuffleText_ e oa oc U.W (hT.up (u0.trans U.up)) hw (ho.up (u0.trans U.up)) hn)
 have HK : Hid (∀ w,Calls Tryz.prog 93 #[.int .i8 4] w fun e w'=>e = .returned (.bool true) /\ w' = w) := isKind_ 4
 have e0 : ∀ U : UW W0,U.W.cell? ⟨w.heap.size,0,none⟩ = some (.int .i8 e.kind) := fun U=>by rw [World.cell?,U.up.heap g0]; rfl
 have e1 : ∀ U : UW W0,U.W.cell? ⟨w.heap.size,1,none⟩ = some (.int .i8 e.field) := fun U=>by rw [World.cell?,U.up.heap g0]; rfl
 have e2 : ∀ U : UW W0,U.W.cell? ⟨w.heap.size,2,none⟩ = some (.int .i64 e.card) := fun U=>by rw [World.cell?,U.up.heap g0]; rfl
 have e3 : ∀ U : UW W0,U.W.cell? ⟨w.heap.size,3,none⟩ = some (.int .i64 e.player) := fun U=>by rw [World.cell?,U.up.heap g0]; rfl
 have e4 : ∀ U : UW W0,U.W.cell? ⟨w.heap.size,4,none⟩ = some (.int .i64 e.other) := fun U=>by rw [World.cell?,U.up.heap g0]; rfl
 have e5 : ∀ U : UW W0,U.W.cell? ⟨w.heap.size,5,none⟩ = some (.int .i64 e.fr) := fun U=>by rw [World.cell?,U.up.heap g0]; rfl
 have e6 : ∀ U : UW W0,U.W.cell? ⟨w.heap.size,6,none⟩ = some (.int .i64 e.frAt) := fun U=>by rw [World.cell?,U.up.heap g0]; rfl
 have e7 : ∀ U : UW W0,U.W.cell? ⟨w.heap.size,7,none⟩ = some (.int .i64 e.to_) := fun U=>by rw [World.cell?,U.up.heap g0]; rfl
 have e8 : ∀ U : UW W0,U.W.cell? ⟨w.heap.size,8,none⟩ = some (.int .i64 e.toAt) := fun U=>by rw [World.cell?,U.up.heap g0]; rfl
 have e9 : ∀ U : UW W0,U.W.cell? ⟨w.heap.size,9,none⟩ = some (.int .i32 e.was) := fun U=>by rw [World.cell?,U.up.heap g0]; rfl
 have e10 : ∀ U : UW W0,U.W.cell? ⟨w.heap.size,10,none⟩ = some (.int .i32 e.now) := fun U=>by rw [World.cell?,U.up.heap g0]; rfl
 have e11 : ∀ U : UW W0,U.W.cell? ⟨w.heap.size,11,none⟩ = some (.slice oa e.ord.length oc) := fun U=>by rw [World.cell?,U.up.heap g0]; rfl
 have HU0 : Hid _ := u0
 have hx : tabV.extract 24 30 = row 4 := by kernel_rfl
 unfold row fv at hx
 have hts := tabV_size
 generalize tabV = T at *
 clear mk hT hw g0 u0 ho
 generalize shuffL e = l at *
 rw [hk] at HX e0 hW0 ⊢
 clear hk
 have c0 : W0.cell? ⟨w.heap.size,0,none⟩ = some (.int .i8 4) := e0 ⟨W0,Up.refl _⟩
 go_enter Tryz.func37,Tryz.ntmps37
 go_wp2_with fail
 try rw [hW0]
 clear hW0
 refine Calls.mono (HK.out _) ?_
 rintro r W1 ⟨rfl,hw1⟩
 subst hw1
 clear c0
 go_wp2_with fail
 refine TailR.wp_region_seqC 7 (fun w'=>∃ U : UW W1,w' = U.W) ⟨⟨_,(Up.refl _).drewN 1⟩,rfl⟩ (by kernel_rfl) (by kernel_rfl) ?_
 simp only [List.take_succ_cons,List.take_zero,List.drop_succ_cons,List.drop_zero]
 repeat (go_big_quiet_step (first | with_reducible exact HR.out _ | with_reducible exact HX.out _))
 refine BigFrame.wpQuiet_want (by rfl) (fun K hK=>?_)
 refine quiet_index_row 107 106 (.tmp 11) (.tmp 13) (by rfl) T _ .i8 4 8 6 (by rfl) (by rfl) Tryz.underlying107 (by decide) Tryz.isAgg106 Tryz.sizeOf106 hx ?_
 refine hK _ ?_
 clear hK K
 simp only [Act.put,qa1,qa2,qa3]
 refine BigFrame.wpQuiet_want (by rfl) (fun K hK=>?_)
 refine quiet_field_cell 106 (.tmp 14) 5 (by rfl) _ _ _ _ (by rfl) Tryz.underlying106 (by rfl) Tryz.isAgg82 (by rfl) ?_
 refine hK _ ?_
 clear hK K
 simp only [Act.put,qa1,qa2,qa3]
 repeat (go_big_quiet_step (first | with_reducible exact HR.out _ | with_reducible exact HX.out _))
 refine wpQuiet_nil ?_
 intro _ hw'
 obtain ⟨U,hw''⟩ := hw'
 subst hw''
 have HUU : Hid (Up w U.W) := Up.trans HU0.out U.up
 clear e0 e1 e2 e3 e4 e5 e6 e7 e8 e9 e10 e11 HU0
 generalize U.W = V at *
 go_wp2
 go_ret
 exact ⟨rfl,HUU.out⟩
set_option maxRecDepth 100000 in
set_option maxHeartbeats 4000000 in
theorem text_out (e : Ev) (oa : Option Addr) (oc : Nat) (w : World) (hT : TabP w) (hw : EvW e) (hk : e.kind = 5) : Calls Tryz.prog 37 #[.agg #[.int .i8 e.kind,.int .i8 e.field,.int .i64 e.card,.int .i64 e.player,.int .i64 e.other,.int .i64 e.fr,.int .i64 e.frAt,.int .i64 e.to_,.int .i64 e.toAt,.int .i32 e.was,.int .i32 e.now,.slice oa e.ord.length oc]] w fun x w'=>x = .returned (.string ⟨(outL e).toArray⟩) /\ Up w w' := by
 obtain ⟨W0,hW0⟩ : ∃ W0,w.alloc (.cells #[.int .i8 e.kind,.int .i8 e.field,.int .i64 e.card,.int .i64 e.player,.int .i64 e.other,.int .i64 e.fr,.int .i64 e.frAt,.int .i64 e.to_,.int .i64 e.toAt,.int .i32 e.was,.int .i32 e.now,.slice oa e.ord.length oc] 30) = W0 := ⟨_,rfl⟩
 have g0 : W0.heap[w.heap.size]? = some (.cells #[.int .i8 e.kind,.int .i8 e.field,.int .i64 e.card,.int .i64 e.player,.int .i64 e.other,.int .i64 e.fr,.int .i64 e.frAt,.int .i64 e.to_,.int .i64 e.toAt,.int .i32 e.was,.int .i32 e.now,.slice oa e.ord.length oc] 30 (0,0)) := by rw [<- hW0]; exact heap_alloc_new _ _
 have u0 : Up w W0 := by rw [<- hW0]; exact (Up.refl _).alloc _
 have ne : Nonempty (UW W0) := ⟨⟨W0,Up.refl _⟩⟩
 have mk : ∀ {f : Nat} {args : Array Value} {Rv : Value} (U : UW W0),Calls Tryz.prog f args U.W (fun e w'=>e = .returned Rv /\ Up U.W w') -> Calls Tryz.prog f args U.W (fun e w'=>e = .returned Rv /\ ∃ V : UW W0,w' = V.W) := fun U h=>h.mono fun e w' ⟨h1,h2⟩=>⟨h1,⟨w',U.up.trans h2⟩,rfl⟩
 have HR : Hid (∀ U : UW W0,Calls Tryz.prog 81 #[] U.W fun x w'=>x = .returned (.agg tabV) /\ ∃ V : UW W0,w' = V.W) := fun U=>mk U (rules_ U.W)
 have HX : Hid (∀ U : UW W0,Calls Tryz.prog 145 #[.agg #[.int .i8 e.kind,.int .i8 e.field,.int .i64 e.card,.int .i64 e.player,.int .i64 e.other,.int .i64 e.fr,.int .i64 e.frAt,.int .i64 e.to_,.int .i64 e.toAt,.int .i32 e.was,.int .i32 e.now,.slice oa e.ord.length oc]] U.W fun x w'=>x = .returned (.string ⟨(outL e).toArray⟩) /\ ∃ V : UW W0,w' = V.W) := fun U=>mk U (outText_ e oa _ oc U.W (hT.up (u0.trans U.up)) hw.player)
 have HK : Hid (∀ w,Calls Tryz.prog 93 #[.int .i8 5] w fun e w'=>e = .returned (.bool true) /\ w' = w) := isKind_ 5
 have e0 : ∀ U : UW W0,U.W.cell? ⟨w.heap.size,0,none⟩ = some (.int .i8 e.kind) := fun U=>by rw [World.cell?,U.up.heap g0]; rfl
 have e1 : ∀ U : UW W0,U.W.cell? ⟨w.heap.size,1,none⟩ = some (.int .i8 e.field) := fun U=>by rw [World.cell?,U.up.heap g0]; rfl
 have e2 : ∀ U : UW W0,U.W.cell? ⟨w.heap.size,2,none⟩ = some (.int .i64 e.card) := fun U=>by rw [World.cell?,U.up.heap g0]; rfl
 have e3 : ∀ U : UW W0,U.W.cell? ⟨w.heap.size,3,none⟩ = some (.int .i64 e.player) := fun U=>by rw [World.cell?,U.up.heap g0]; rfl
 have e4 : ∀ U : UW W0,U.W.cell? ⟨w.heap.size,4,none⟩ = some (.int .i64 e.other) := fun U=>by rw [World.cell?,U.up.heap g0]; rfl
 have e5 : ∀ U : UW W0,U.W.cell? ⟨w.heap.size,5,none⟩ = some (.int .i64 e.fr) := fun U=>by rw [World.cell?,U.up.heap g0]; rfl
 have e6 : ∀ U : UW W0,U.W.cell? ⟨w.heap.size,6,none⟩ = some (.int .i64 e.frAt) := fun U=>by rw [World.cell?,U.up.heap g0]; rfl
 have e7 : ∀ U : UW W0,U.W.cell? ⟨w.heap.size,7,none⟩ = some (.int .i64 e.to_) := fun U=>by rw [World.cell?,U.up.heap g0]; rfl
 have e8 : ∀ U : UW W0,U.W.cell? ⟨w.heap.size,8,none⟩ = some (.int .i64 e.toAt) := fun U=>by rw [World.cell?,U.up.heap g0]; rfl
 have e9 : ∀ U : UW W0,U.W.cell? ⟨w.heap.size,9,none⟩ = some (.int .i32 e.was) := fun U=>by rw [World.cell?,U.up.heap g0]; rfl
 have e10 : ∀ U : UW W0,U.W.cell? ⟨w.heap.size,10,none⟩ = some (.int .i32 e.now) := fun U=>by rw [World.cell?,U.up.heap g0]; rfl
 have e11 : ∀ U : UW W0,U.W.cell? ⟨w.heap.size,11,none⟩ = some (.slice oa e.ord.length oc) := fun U=>by rw [World.cell?,U.up.heap g0]; rfl
 have HU0 : Hid _ := u0
 have hx : tabV.extract 30 36 = row 5 := by kernel_rfl
 unfold row fv at hx
 have hts := tabV_size
 generalize tabV = T at *
 clear mk hT hw g0 u0
 generalize outL e = l at *
 rw [hk] at HX e0 hW0 ⊢
 clear hk
 have c0 : W0.cell? ⟨w.heap.size,0,none⟩ = some (.int .i8 5) := e0 ⟨W0,Up.refl _⟩
 go_enter Tryz.func37,Tryz.ntmps37
 go_wp2_with fail
 try rw [hW0]
 clear hW0
 refine Calls.mono (HK.out _) ?_
 rintro r W1 ⟨rfl,hw1⟩
 subst hw1
 clear c0
 go_wp2_with fail
 refine TailR.wp_region_seqC 7 (fun w'=>∃ U : UW W1,w' = U.W) ⟨⟨_,(Up.refl _).drewN 1⟩,rfl⟩ (by kernel_rfl) (by kernel_rfl) ?_
 simp only [List.take_succ_cons,List.take_zero,List.drop_succ_cons,List.drop_zero]
 repeat (go_big_quiet_step (first | with_reducible exact HR.out _ | with_reducible exact HX.out _))
 refine BigFrame.wpQuiet_want (by rfl) (fun K hK=>?_)
 refine quiet_index_row 107 106 (.tmp 11) (.tmp 13) (by rfl) T _ .i8 5 8 6 (by rfl) (by rfl) Tryz.underlying107 (by decide) Tryz.isAgg106 Tryz.sizeOf106 hx ?_
 refine hK _ ?_
 clear hK K
 simp only [Act.put,qa1,qa2,qa3]
 refine BigFrame.wpQuiet_want (by rfl) (fun K hK=>?_)
 refine quiet_field_cell 106 (.tmp 14) 5 (by rfl) _ _ _ _ (by rfl) Tryz.underlying106 (by rfl) Tryz.isAgg82 (by rfl) ?_
 refine hK _ ?_
 clear hK K
 simp only [Act.put,qa1,qa2,qa3]
 repeat (go_big_quiet_step (first | with_reducible exact HR.out _ | with_reducible exact HX.out _))
 refine wpQuiet_nil ?_
 intro _ hw'
 obtain ⟨U,hw''⟩ := hw'
 subst hw''
 have HUU : Hid (Up w U.W) := Up.trans HU0.out U.up
 clear e0 e1 e2 e3 e4 e5 e6 e7 e8 e9 e10 e11 HU0
 generalize U.W = V at *
 go_wp2
 go_ret
 exact ⟨rfl,HUU.out⟩
set_option maxRecDepth 100000 in
set_option maxHeartbeats 4000000 in
theorem text_turn (e : Ev) (oa : Option Addr) (oc : Nat) (w : World) (hT : TabP w) (hw : EvW e) (hk : e.kind = 6) : Calls Tryz.prog 37 #[.agg #[.int .i8 e.kind,.int .i8 e.field,.int .i64 e.card,.int .i64 e.player,.int .i64 e.other,.int .i64 e.fr,.int .i64 e.frAt,.int .i64 e.to_,.int .i64 e.toAt,.int .i32 e.was,.int .i32 e.now,.slice oa e.ord.length oc]] w fun x w'=>x = .returned (.string ⟨(turnL e).toArray⟩) /\ Up w w' := by
 obtain ⟨W0,hW0⟩ : ∃ W0,w.alloc (.cells #[.int .i8 e.kind,.int .i8 e.field,.int .i64 e.card,.int .i64 e.player,.int .i64 e.other,.int .i64 e.fr,.int .i64 e.frAt,.int .i64 e.to_,.int .i64 e.toAt,.int .i32 e.was,.int .i32 e.now,.slice oa e.ord.length oc] 30) = W0 := ⟨_,rfl⟩
 have g0 : W0.heap[w.heap.size]? = some (.cells #[.int .i8 e.kind,.int .i8 e.field,.int .i64 e.card,.int .i64 e.player,.int .i64 e.other,.int .i64 e.fr,.int .i64 e.frAt,.int .i64 e.to_,.int .i64 e.toAt,.int .i32 e.was,.int .i32 e.now,.slice oa e.ord.length oc] 30 (0,0)) := by rw [<- hW0]; exact heap_alloc_new _ _
 have u0 : Up w W0 := by rw [<- hW0]; exact (Up.refl _).alloc _
 have ne : Nonempty (UW W0) := ⟨⟨W0,Up.refl _⟩⟩
 have mk : ∀ {f : Nat} {args : Array Value} {Rv : Value} (U : UW W0),Calls Tryz.prog f args U.W (fun e w'=>e = .returned Rv /\ Up U.W w') -> Calls Tryz.prog f args U.W (fun e w'=>e = .returned Rv /\ ∃ V : UW W0,w' = V.W) := fun U h=>h.mono fun e w' ⟨h1,h2⟩=>⟨h1,⟨w',U.up.trans h2⟩,rfl⟩
 have HR : Hid (∀ U : UW W0,Calls Tryz.prog 81 #[] U.W fun x w'=>x = .returned (.agg tabV) /\ ∃ V : UW W0,w' = V.W) := fun U=>mk U (rules_ U.W)
 have HX : Hid (∀ U : UW W0,Calls Tryz.prog 151 #[.agg #[.int .i8 e.kind,.int .i8 e.field,.int .i64 e.card,.int .i64 e.player,.int .i64 e.other,.int .i64 e.fr,.int .i64 e.frAt,.int .i64 e.to_,.int .i64 e.toAt,.int .i32 e.was,.int .i32 e.now,.slice oa e.ord.length oc]] U.W fun x w'=>x = .returned (.string ⟨(turnL e).toArray⟩) /\ ∃ V : UW W0,w' = V.W) := fun U=>mk U (turnText_ e oa _ oc U.W (hT.up (u0.trans U.up)) hw)
 have HK : Hid (∀ w,Calls Tryz.prog 93 #[.int .i8 6] w fun e w'=>e = .returned (.bool true) /\ w' = w) := isKind_ 6
 have e0 : ∀ U : UW W0,U.W.cell? ⟨w.heap.size,0,none⟩ = some (.int .i8 e.kind) := fun U=>by rw [World.cell?,U.up.heap g0]; rfl
 have e1 : ∀ U : UW W0,U.W.cell? ⟨w.heap.size,1,none⟩ = some (.int .i8 e.field) := fun U=>by rw [World.cell?,U.up.heap g0]; rfl
 have e2 : ∀ U : UW W0,U.W.cell? ⟨w.heap.size,2,none⟩ = some (.int .i64 e.card) := fun U=>by rw [World.cell?,U.up.heap g0]; rfl
 have e3 : ∀ U : UW W0,U.W.cell? ⟨w.heap.size,3,none⟩ = some (.int .i64 e.player) := fun U=>by rw [World.cell?,U.up.heap g0]; rfl
 have e4 : ∀ U : UW W0,U.W.cell? ⟨w.heap.size,4,none⟩ = some (.int .i64 e.other) := fun U=>by rw [World.cell?,U.up.heap g0]; rfl
 have e5 : ∀ U : UW W0,U.W.cell? ⟨w.heap.size,5,none⟩ = some (.int .i64 e.fr) := fun U=>by rw [World.cell?,U.up.heap g0]; rfl
 have e6 : ∀ U : UW W0,U.W.cell? ⟨w.heap.size,6,none⟩ = some (.int .i64 e.frAt) := fun U=>by rw [World.cell?,U.up.heap g0]; rfl
 have e7 : ∀ U : UW W0,U.W.cell? ⟨w.heap.size,7,none⟩ = some (.int .i64 e.to_) := fun U=>by rw [World.cell?,U.up.heap g0]; rfl
 have e8 : ∀ U : UW W0,U.W.cell? ⟨w.heap.size,8,none⟩ = some (.int .i64 e.toAt) := fun U=>by rw [World.cell?,U.up.heap g0]; rfl
 have e9 : ∀ U : UW W0,U.W.cell? ⟨w.heap.size,9,none⟩ = some (.int .i32 e.was) := fun U=>by rw [World.cell?,U.up.heap g0]; rfl
 have e10 : ∀ U : UW W0,U.W.cell? ⟨w.heap.size,10,none⟩ = some (.int .i32 e.now) := fun U=>by rw [World.cell?,U.up.heap g0]; rfl
 have e11 : ∀ U : UW W0,U.W.cell? ⟨w.heap.size,11,none⟩ = some (.slice oa e.ord.length oc) := fun U=>by rw [World.cell?,U.up.heap g0]; rfl
 have HU0 : Hid _ := u0
 have hx : tabV.extract 36 42 = row 6 := by kernel_rfl
 unfold row fv at hx
 have hts := tabV_size
 generalize tabV = T at *
 clear mk hT hw g0 u0
 generalize turnL e = l at *
 rw [hk] at HX e0 hW0 ⊢
 clear hk
 have c0 : W0.cell? ⟨w.heap.size,0,none⟩ = some (.int .i8 6) := e0 ⟨W0,Up.refl _⟩
 go_enter Tryz.func37,Tryz.ntmps37
 go_wp2_with fail
 try rw [hW0]
 clear hW0
 refine Calls.mono (HK.out _) ?_
 rintro r W1 ⟨rfl,hw1⟩
 subst hw1
 clear c0
 go_wp2_with fail
 refine TailR.wp_region_seqC 7 (fun w'=>∃ U : UW W1,w' = U.W) ⟨⟨_,(Up.refl _).drewN 1⟩,rfl⟩ (by kernel_rfl) (by kernel_rfl) ?_
 simp only [List.take_succ_cons,List.take_zero,List.drop_succ_cons,List.drop_zero]
 repeat (go_big_quiet_step (first | with_reducible exact HR.out _ | with_reducible exact HX.out _))
 refine BigFrame.wpQuiet_want (by rfl) (fun K hK=>?_)
 refine quiet_index_row 107 106 (.tmp 11) (.tmp 13) (by rfl) T _ .i8 6 8 6 (by rfl) (by rfl) Tryz.underlying107 (by decide) Tryz.isAgg106 Tryz.sizeOf106 hx ?_
 refine hK _ ?_
 clear hK K
 simp only [Act.put,qa1,qa2,qa3]
 refine BigFrame.wpQuiet_want (by rfl) (fun K hK=>?_)
 refine quiet_field_cell 106 (.tmp 14) 5 (by rfl) _ _ _ _ (by rfl) Tryz.underlying106 (by rfl) Tryz.isAgg82 (by rfl) ?_
 refine hK _ ?_
 clear hK K
 simp only [Act.put,qa1,qa2,qa3]
 repeat (go_big_quiet_step (first | with_reducible exact HR.out _ | with_reducible exact HX.out _))
 refine wpQuiet_nil ?_
 intro _ hw'
 obtain ⟨U,hw''⟩ := hw'
 subst hw''
 have HUU : Hid (Up w U.W) := Up.trans HU0.out U.up
 clear e0 e1 e2 e3 e4 e5 e6 e7 e8 e9 e10 e11 HU0
 generalize U.W = V at *
 go_wp2
 go_ret
 exact ⟨rfl,HUU.out⟩
set_option maxRecDepth 100000 in
set_option maxHeartbeats 4000000 in
theorem text_end (e : Ev) (oa : Option Addr) (oc : Nat) (w : World) (hT : TabP w) (hw : EvW e) (hk : e.kind = 7) : Calls Tryz.prog 37 #[.agg #[.int .i8 e.kind,.int .i8 e.field,.int .i64 e.card,.int .i64 e.player,.int .i64 e.other,.int .i64 e.fr,.int .i64 e.frAt,.int .i64 e.to_,.int .i64 e.toAt,.int .i32 e.was,.int .i32 e.now,.slice oa e.ord.length oc]] w fun x w'=>x = .returned (.string ⟨(endL e).toArray⟩) /\ Up w w' := by
 obtain ⟨W0,hW0⟩ : ∃ W0,w.alloc (.cells #[.int .i8 e.kind,.int .i8 e.field,.int .i64 e.card,.int .i64 e.player,.int .i64 e.other,.int .i64 e.fr,.int .i64 e.frAt,.int .i64 e.to_,.int .i64 e.toAt,.int .i32 e.was,.int .i32 e.now,.slice oa e.ord.length oc] 30) = W0 := ⟨_,rfl⟩
 have g0 : W0.heap[w.heap.size]? = some (.cells #[.int .i8 e.kind,.int .i8 e.field,.int .i64 e.card,.int .i64 e.player,.int .i64 e.other,.int .i64 e.fr,.int .i64 e.frAt,.int .i64 e.to_,.int .i64 e.toAt,.int .i32 e.was,.int .i32 e.now,.slice oa e.ord.length oc] 30 (0,0)) := by rw [<- hW0]; exact heap_alloc_new _ _
 have u0 : Up w W0 := by rw [<- hW0]; exact (Up.refl _).alloc _
 have ne : Nonempty (UW W0) := ⟨⟨W0,Up.refl _⟩⟩
 have mk : ∀ {f : Nat} {args : Array Value} {Rv : Value} (U : UW W0),Calls Tryz.prog f args U.W (fun e w'=>e = .returned Rv /\ Up U.W w') -> Calls Tryz.prog f args U.W (fun e w'=>e = .returned Rv /\ ∃ V : UW W0,w' = V.W) := fun U h=>h.mono fun e w' ⟨h1,h2⟩=>⟨h1,⟨w',U.up.trans h2⟩,rfl⟩
 have HR : Hid (∀ U : UW W0,Calls Tryz.prog 81 #[] U.W fun x w'=>x = .returned (.agg tabV) /\ ∃ V : UW W0,w' = V.W) := fun U=>mk U (rules_ U.W)
 have HX : Hid (∀ U : UW W0,Calls Tryz.prog 157 #[.agg #[.int .i8 e.kind,.int .i8 e.field,.int .i64 e.card,.int .i64 e.player,.int .i64 e.other,.int .i64 e.fr,.int .i64 e.frAt,.int .i64 e.to_,.int .i64 e.toAt,.int .i32 e.was,.int .i32 e.now,.slice oa e.ord.length oc]] U.W fun x w'=>x = .returned (.string ⟨(endL e).toArray⟩) /\ ∃ V : UW W0,w' = V.W) := fun U=>mk U (endText_ e oa _ oc U.W (hT.up (u0.trans U.up)) hw)
 have HK : Hid (∀ w,Calls Tryz.prog 93 #[.int .i8 7] w fun e w'=>e = .returned (.bool true) /\ w' = w) := isKind_ 7
 have e0 : ∀ U : UW W0,U.W.cell? ⟨w.heap.size,0,none⟩ = some (.int .i8 e.kind) := fun U=>by rw [World.cell?,U.up.heap g0]; rfl
 have e1 : ∀ U : UW W0,U.W.cell? ⟨w.heap.size,1,none⟩ = some (.int .i8 e.field) := fun U=>by rw [World.cell?,U.up.heap g0]; rfl
 have e2 : ∀ U : UW W0,U.W.cell? ⟨w.heap.size,2,none⟩ = some (.int .i64 e.card) := fun U=>by rw [World.cell?,U.up.heap g0]; rfl
 have e3 : ∀ U : UW W0,U.W.cell? ⟨w.heap.size,3,none⟩ = some (.int .i64 e.player) := fun U=>by rw [World.cell?,U.up.heap g0]; rfl
 have e4 : ∀ U : UW W0,U.W.cell? ⟨w.heap.size,4,none⟩ = some (.int .i64 e.other) := fun U=>by rw [World.cell?,U.up.heap g0]; rfl
 have e5 : ∀ U : UW W0,U.W.cell? ⟨w.heap.size,5,none⟩ = some (.int .i64 e.fr) := fun U=>by rw [World.cell?,U.up.heap g0]; rfl
 have e6 : ∀ U : UW W0,U.W.cell? ⟨w.heap.size,6,none⟩ = some (.int .i64 e.frAt) := fun U=>by rw [World.cell?,U.up.heap g0]; rfl
 have e7 : ∀ U : UW W0,U.W.cell? ⟨w.heap.size,7,none⟩ = some (.int .i64 e.to_) := fun U=>by rw [World.cell?,U.up.heap g0]; rfl
 have e8 : ∀ U : UW W0,U.W.cell? ⟨w.heap.size,8,none⟩ = some (.int .i64 e.toAt) := fun U=>by rw [World.cell?,U.up.heap g0]; rfl
 have e9 : ∀ U : UW W0,U.W.cell? ⟨w.heap.size,9,none⟩ = some (.int .i32 e.was) := fun U=>by rw [World.cell?,U.up.heap g0]; rfl
 have e10 : ∀ U : UW W0,U.W.cell? ⟨w.heap.size,10,none⟩ = some (.int .i32 e.now) := fun U=>by rw [World.cell?,U.up.heap g0]; rfl
 have e11 : ∀ U : UW W0,U.W.cell? ⟨w.heap.size,11,none⟩ = some (.slice oa e.ord.length oc) := fun U=>by rw [World.cell?,U.up.heap g0]; rfl
 have HU0 : Hid _ := u0
 have hx : tabV.extract 42 48 = row 7 := by kernel_rfl
 unfold row fv at hx
 have hts := tabV_size
 generalize tabV = T at *
 clear mk hT hw g0 u0
 generalize endL e = l at *
 rw [hk] at HX e0 hW0 ⊢
 clear hk
 have c0 : W0.cell? ⟨w.heap.size,0,none⟩ = some (.int .i8 7) := e0 ⟨W0,Up.refl _⟩
 go_enter Tryz.func37,Tryz.ntmps37
 go_wp2_with fail
 try rw [hW0]
 clear hW0
 refine Calls.mono (HK.out _) ?_
 rintro r W1 ⟨rfl,hw1⟩
 subst hw1
 clear c0
 go_wp2_with fail
 refine TailR.wp_region_seqC 7 (fun w'=>∃ U : UW W1,w' = U.W) ⟨⟨_,(Up.refl _).drewN 1⟩,rfl⟩ (by kernel_rfl) (by kernel_rfl) ?_
 simp only [List.take_succ_cons,List.take_zero,List.drop_succ_cons,List.drop_zero]
 repeat (go_big_quiet_step (first | with_reducible exact HR.out _ | with_reducible exact HX.out _))
 refine BigFrame.wpQuiet_want (by rfl) (fun K hK=>?_)
 refine quiet_index_row 107 106 (.tmp 11) (.tmp 13) (by rfl) T _ .i8 7 8 6 (by rfl) (by rfl) Tryz.underlying107 (by decide) Tryz.isAgg106 Tryz.sizeOf106 hx ?_
 refine hK _ ?_
 clear hK K
 simp only [Act.put,qa1,qa2,qa3]
 refine BigFrame.wpQuiet_want (by rfl) (fun K hK=>?_)
 refine quiet_field_cell 106 (.tmp 14) 5 (by rfl) _ _ _ _ (by rfl) Tryz.underlying106 (by rfl) Tryz.isAgg82 (by rfl) ?_
 refine hK _ ?_
 clear hK K
 simp only [Act.put,qa1,qa2,qa3]
 repeat (go_big_quiet_step (first | with_reducible exact HR.out _ | with_reducible exact HX.out _))
 refine wpQuiet_nil ?_
 intro _ hw'
 obtain ⟨U,hw''⟩ := hw'
 subst hw''
 have HUU : Hid (Up w U.W) := Up.trans HU0.out U.up
 clear e0 e1 e2 e3 e4 e5 e6 e7 e8 e9 e10 e11 HU0
 generalize U.W = V at *
 go_wp2
 go_ret
 exact ⟨rfl,HUU.out⟩
set_option maxRecDepth 100000 in
set_option maxHeartbeats 2000000 in
theorem text_none (e : Ev) (oa : Option Addr) (oc : Nat) (w : World) (hT : TabP w) (hw : EvW e) (hk : kindB e.kind = false) : Calls Tryz.prog 37 #[.agg #[.int .i8 e.kind,.int .i8 e.field,.int .i64 e.card,.int .i64 e.player,.int .i64 e.other,.int .i64 e.fr,.int .i64 e.frAt,.int .i64 e.to_,.int .i64 e.toAt,.int .i32 e.was,.int .i32 e.now,.slice oa e.ord.length oc]] w fun x w'=>x = .returned (.string ⟨([101,118,101,110,116,32] ++ Lib.itoa e.kind).toArray⟩) /\ Up w w' := by
 have HK : Hid (∀ w,Calls Tryz.prog 93 #[.int .i8 e.kind] w fun r w'=>r = .returned (.bool false) /\ w' = w) := fun w=>by
  have h9 := isKind_ e.kind w
  unfold kindB at hk
  rw [hk] at h9
  exact h9
 have HI : Hid (∀ W,Up w W -> Calls Tryz.prog 94 #[.int .i8 e.kind] W fun x w'=>x = .returned (.string ⟨(Lib.itoa e.kind).toArray⟩) /\ Up W w') := fun W u=>tens8_ e.kind hw.kind W (hT.up u)
 have hl := Lib.itoa_length_le e.kind (by have := hw.kind; omega) (by have := hw.kind; omega)
 obtain ⟨W0,hW0⟩ : ∃ W0,w.alloc (.cells #[.int .i8 e.kind,.int .i8 e.field,.int .i64 e.card,.int .i64 e.player,.int .i64 e.other,.int .i64 e.fr,.int .i64 e.frAt,.int .i64 e.to_,.int .i64 e.toAt,.int .i32 e.was,.int .i32 e.now,.slice oa e.ord.length oc] 30) = W0 := ⟨_,rfl⟩
 have g0 : W0.heap[w.heap.size]? = some (.cells #[.int .i8 e.kind,.int .i8 e.field,.int .i64 e.card,.int .i64 e.player,.int .i64 e.other,.int .i64 e.fr,.int .i64 e.frAt,.int .i64 e.to_,.int .i64 e.toAt,.int .i32 e.was,.int .i32 e.now,.slice oa e.ord.length oc] 30 (0,0)) := by rw [<- hW0]; exact heap_alloc_new _ _
 have HU0 : Hid (Up w W0) := by rw [<- hW0]; exact (Up.refl _).alloc _
 have c0 : W0.cell? ⟨w.heap.size,0,none⟩ = some (.int .i8 e.kind) := by simp [World.cell?,g0]
 generalize Lib.itoa e.kind = l at *
 clear hT hw hk g0
 go_enter Tryz.func37,Tryz.ntmps37
 go_wp2_with fail
 try rw [hW0]
 clear hW0
 refine Calls.mono (HK.out _) ?_
 rintro r W1 ⟨rfl,hw1⟩
 subst hw1
 go_wp2_with fail
 refine Calls.mono (HI.out _ HU0.out) ?_
 rintro r W2 ⟨rfl,u2⟩
 have HU : Hid (Up w W2) := Up.trans HU0.out u2
 clear u2 c0
 go_wp2
 go_ret
 exact ⟨ret_str (by simp),HU.out⟩
theorem text_ (e : Ev) (oa : Option Addr) (oc : Nat) (w : World) (hT : TabP w) (hw : EvW e) (ho : IL w (.slice oa e.ord.length oc) e.ord) (hn : e.ord.length <= 4294967296) : Calls Tryz.prog 37 #[evv e (.slice oa e.ord.length oc)] w fun x w'=>x = .returned (.string ⟨(txtL e).toArray⟩) /\ Up w w' := by
 unfold txtL
 by_cases hk : kindB e.kind = true
 ·rcases kinds hk with h | h | h | h | h | h | h
  ·rw [if_pos h]; exact text_move e oa oc w hT hw h
  ·rw [if_neg (by omega),if_pos h]; exact text_card e oa oc w hT hw h
  ·rw [if_neg (by omega),if_neg (by omega),if_pos h]; exact text_player e oa oc w hT hw h
  ·rw [if_neg (by omega),if_neg (by omega),if_neg (by omega),if_pos h]; exact text_shuffle e oa oc w hT hw ho hn h
  ·rw [if_neg (by omega),if_neg (by omega),if_neg (by omega),if_neg (by omega),if_pos h]; exact text_out e oa oc w hT hw h
  ·rw [if_neg (by omega),if_neg (by omega),if_neg (by omega),if_neg (by omega),if_neg (by omega),if_pos h]; exact text_turn e oa oc w hT hw h
  ·rw [if_neg (by omega),if_neg (by omega),if_neg (by omega),if_neg (by omega),if_neg (by omega),if_neg (by omega),if_pos h]; exact text_end e oa oc w hT hw h
 ·have hk' : kindB e.kind = false := by simpa using hk
  have hz : ¬ (1 <= e.kind /\ e.kind <= 7) := by
   intro h
   unfold kindB at hk
   simp [h.1,h.2] at hk
  rw [if_neg (by omega),if_neg (by omega),if_neg (by omega),if_neg (by omega),if_neg (by omega),if_neg (by omega),if_neg (by omega)]
  exact text_none e oa oc w hT hw hk'
end DE
end Go.Proofs.YtodhjjeagmjhdaaGreatDoor
