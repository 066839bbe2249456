/- Ff6, Fg, Ow, Da, Db -/
import Derived.Test.YtodhjjeagmjhdaaGreatDoorFeVX
namespace Go.Proofs.YtodhjjeagmjhdaaGreatDoor
open Go.RowKit
attribute [local go_sem ↓] Go.wp_at_zero Go.wp_at_succ
namespace DE
open Go.Proofs.YtodhjjeagmjhdaaGreatDoor.ST
def risesB (l : List Int) : Bool := l == (List.range l.length).map (fun i : Nat=>(i : Int))
theorem rises_at {l : List Int} : risesB l = true ↔ ∀ i,i < l.length -> l.getD i 0 = (i : Int) := by
 unfold risesB
 rw [beq_iff_eq]
 constructor
 ·intro h i hi
  rw [List.getD_eq_getElem?_getD,h]
  simp [hi]
 ·intro h
  apply List.ext_getElem (by simp)
  intro i h1 h2
  have := h i h1
  rw [List.getD_eq_getElem?_getD,List.getElem?_eq_getElem h1] at this
  simpa using this
set_option maxRecDepth 100000 in
set_option maxHeartbeats 2000000 in
theorem leavesAll_ (v : Value) (l : List Int) (w : World) (hv : IL w v l) (hn : l.length <= 140737488355328) : Calls Tryz.prog 168 #[v] w fun r w'=>r = .returned (.bool (risesB l)) /\ Up w w' := by
 obtain ⟨a,c,rfl,hc,hcl⟩ := il_at hv
 obtain ⟨n,hn0⟩ : ∃ n,n = l.length := ⟨_,rfl⟩
 have HN : Hid (n = l.length) := hn0
 have HC : Hid _ := hcl
 obtain ⟨R,hR⟩ : ∃ R,R = risesB l := ⟨_,rfl⟩
 have HR : Hid (R = risesB l) := hR
 rw [<- hR]
 rw [<- hn0] at hn hc HC ⊢
 clear hv hcl hn0 hR
 go_enter Tryz.func168,Tryz.ntmps168
 go_wp2_with fail
 go_loopw [7] (fun s7 W=>∃ i : Nat,i <= n /\ s7 = .int .i64 i /\ W = w /\ ∀ j,j < i -> l.getD j 0 = (j : Int)) (fun s7 _=>n - (intOf s7).toNat)
 case atStart=>exact ⟨0,Nat.zero_le _,rfl,rfl,fun j hj=>absurd hj (Nat.not_lt_zero j)⟩
 case round =>
  obtain ⟨i,hi,rfl,rfl,hall⟩ := hrel
  have HA : Hid _ := hall
  clear hall
  by_cases hlt : i < n
  ·have hlt2 : (i : Int) < (n : Int) := by omega
   obtain ⟨b,off,rfl,hcc⟩ := HC.out (by omega)
   have x0 := hcc wr (Up.refl _) i hlt
   obtain ⟨y,hy⟩ : ∃ y,y = l.getD i 0 := ⟨_,rfl⟩
   rw [<- hy] at x0
   have HY : Hid (y = l.getD i 0) := hy
   clear hcc hy
   by_cases he : y = (i : Int)
   ·subst he
    go_wp2_with fail
    go_roundw
    case rel =>
     refine ⟨i + 1,by omega,by go_num,by trivial,fun j hj=>?_⟩
     by_cases e : j = i
     ·subst e; exact HY.out.symm
     ·exact HA.out j (by omega)
    case measure=>simp [intOf]; omega
   ·have f0 : (y == (i : Int)) = false := beq_eq_false_iff_ne.2 he
    have hF : R = false := by
     rw [HR.out]
     cases hr : risesB l
     ·rfl
     ·exact absurd (HY.out.trans (rises_at.1 hr i (by rw [<- HN.out]; exact hlt))) he
    subst hF
    clear he
    go_wp2
    go_ret
    exact ⟨rfl,Up.refl _⟩
  ·have hlt2 : ¬ (i : Int) < (n : Int) := by omega
   have hT : R = true := by
    rw [HR.out,rises_at]
    intro j hj
    exact HA.out j (by have := HN.out; omega)
   subst hT
   go_wp2
   go_ret
   exact ⟨rfl,Up.refl _⟩
def ordB (m : Nat) (l : List Int) : Bool := decide (l.length = m) && (List.range l.length).all (okAt m l)
def OI (w W : World) (g : Nat) (m : Nat) (l : List Int) (k : Nat) : Prop := W.heap[g]? = some (.cells (seenA l k) 206 (0,0)) /\ Up w W /\ ∀ j,j < k -> okAt m l j = true
theorem ok_next {m : Nat} {l : List Int} {i : Nat} {y : Int} (hi : i < l.length) (hy : y = l.getD i 0) : okAt m l i = (numB y m && !decide (y ∈ l.take i)) := by
 unfold okAt
 rw [List.getElem?_eq_getElem hi]
 have : l[i] = y := by rw [hy,List.getD_eq_getElem?_getD,List.getElem?_eq_getElem hi]; rfl
 simp only [this]
 congr 2
 by_cases h : y ∈ l.take i <;> simp [h]
set_option maxRecDepth 100000 in
set_option maxHeartbeats 4000000 in
theorem isOrder_ (v : Value) (l : List Int) (m : Nat) (w : World) (hv : IL w v l) (hm : m <= 256) : Calls Tryz.prog 167 #[v,.int .i64 m] w fun r w'=>r = .returned (.bool (ordB m l)) /\ Up w w' := by
 obtain ⟨a,c,rfl,hc,hcl⟩ := il_at hv
 obtain ⟨hv87,hi87⟩ := zero_of_info (P := Tryz.prog) info87
 obtain ⟨n,hn0⟩ : ∃ n,n = l.length := ⟨_,rfl⟩
 have HN : Hid (n = l.length) := hn0
 have HC : Hid _ := hcl
 obtain ⟨R,hR⟩ : ∃ R,R = ordB m l := ⟨_,rfl⟩
 have HR : Hid (R = ordB m l) := hR
 have HNU : Hid _ := fun y=>isNumber_ y m
 rw [<- hR]
 rw [<- hn0] at hc HC ⊢
 by_cases hnm : n = m
 ·have hl : l.length = m := by rw [<- hn0]; exact hnm
  subst hnm
  have f9 : ((n : Int) == (n : Int)) = true := by simp
  clear hv hcl hn0 hR
  go_enter Tryz.func167,Tryz.ntmps167
  go_wp2_with fail
  rw [seen_zero l]
  clear hv87 hi87
  obtain ⟨g,hg⟩ : ∃ g,g = w.heap.size := ⟨_,rfl⟩
  have HI : Hid (OI w (w.alloc (.cells (seenA l 0) 206)) g n l 0) := ⟨by rw [hg]; exact heap_alloc_new w _,(Up.refl _).alloc _,fun j hj=>absurd hj (Nat.not_lt_zero j)⟩
  have HG : Hid (g = w.heap.size) := hg
  rw [<- hg]
  clear hg
  go_loopw [14] (fun s14 W=>∃ i : Nat,i <= n /\ s14 = .int .i64 i /\ OI w W g n l i) (fun s14 _=>n - (intOf s14).toNat)
  case atStart=>exact ⟨0,Nat.zero_le _,rfl,HI.out⟩
  case round =>
   clear HI
   obtain ⟨i,hi,rfl,hoi⟩ := hrel
   have HO : Hid _ := hoi
   obtain ⟨o1,o2,o3⟩ := hoi
   by_cases hlt : i < n
   ·have hlt2 : (i : Int) < (n : Int) := by omega
    have hil : i < l.length := by rw [<- HN.out]; exact hlt
    obtain ⟨b,off,rfl,hcc⟩ := HC.out (by omega)
    have x0 := hcc wr o2 i hlt
    obtain ⟨y,hy⟩ : ∃ y,y = l.getD i 0 := ⟨_,rfl⟩
    rw [<- hy] at x0
    have hok := ok_next (m := n) hil hy
    have HNy : Hid _ := HNU.out y
    have HUw : Hid (Up w wr) := o2
    have bad : okAt n l i = false -> R = false := fun hb=>by
     rw [HR.out,ordB]
     have : (List.range l.length).all (okAt n l) = false := by
      rw [List.all_eq_false]
      exact ⟨i,List.mem_range.2 hil,by rw [hb]; simp⟩
     rw [this,Bool.and_false]
    cases hn1 : numB y n
    ·rw [hn1] at HNy
     have hF : R = false := bad (by rw [hok,hn1,Bool.false_and])
     subst hF
     clear hcc hy hok bad hn1 o1 o2 o3 HO
     go_wp2_with fail
     refine Calls.mono (HNy.out _) ?_
     rintro r w1 ⟨rfl,rfl⟩
     go_wp2
     go_ret
     exact ⟨rfl,HUw.out⟩
    ·rw [hn1] at HNy
     obtain ⟨e,rfl,he⟩ := num_nat hn1
     obtain ⟨sc,sf⟩ := seen_cell o1 e (by omega)
     have he2 : (e : Int) < 256 := by omega
     cases hmem : decide ((e : Int) ∈ l.take i)
     ·rw [hmem] at sc
      have hget : l[i]? = some (e : Int) := by
       rw [List.getElem?_eq_getElem hil]
       rw [List.getD_eq_getElem?_getD,List.getElem?_eq_getElem hil] at hy
       rw [hy]; rfl
      have HS : Hid (OI w (wr.setCell ⟨g,e,none⟩ (.bool true)) g n l (i + 1)) := by
       refine ⟨seen_set o1 e hget,Up.set o2 _ _ (by rw [HG.out]; exact Nat.le_refl _),fun j hj=>?_⟩
       by_cases ej : j = i
       ·subst ej
        rw [hok,hn1,hmem]
        rfl
       ·exact o3 j (by omega)
      clear hcc hy hok bad hn1 hmem o1 o2 o3 HO hget
      go_wp2_with fail
      refine Calls.mono (HNy.out _) ?_
      rintro r w1 ⟨rfl,rfl⟩
      go_wp2_with fail
      go_roundw
      case rel=>exact ⟨i + 1,by omega,by go_num,HS.out⟩
      case measure=>simp [intOf] <;> omega
     ·rw [hmem] at sc
      have hF : R = false := bad (by rw [hok,hn1,hmem]; rfl)
      subst hF
      clear hcc hy hok bad hn1 hmem o1 o2 o3 HO
      go_wp2_with fail
      refine Calls.mono (HNy.out _) ?_
      rintro r w1 ⟨rfl,rfl⟩
      go_wp2
      go_ret
      exact ⟨rfl,HUw.out⟩
   ·have hlt2 : ¬ (i : Int) < (n : Int) := by omega
    have hT : R = true := by
     rw [HR.out,ordB,decide_eq_true hl,Bool.true_and,List.all_eq_true]
     intro j hj
     exact o3 j (by have := List.mem_range.1 hj; omega)
    subst hT
    have HUw : Hid (Up w wr) := o2
    clear o1 o2 o3 HO
    go_wp2
    go_ret
    exact ⟨rfl,HUw.out⟩
 ·have f9 : ((n : Int) == (m : Int)) = false := beq_eq_false_iff_ne.2 (by omega)
  have hF : R = false := by
   rw [hR,ordB,decide_eq_false (by rw [<- hn0]; exact hnm)]
   rfl
  subst hF
  clear hv hcl hn0 hR hv87 hi87
  go_enter Tryz.func167,Tryz.ntmps167
  go_wp2
  go_ret
  exact ⟨rfl,Up.refl _⟩
end DE
end Go.Proofs.YtodhjjeagmjhdaaGreatDoor
namespace Go.Proofs.YtodhjjeagmjhdaaGreatDoor
open Go.RowKit
attribute [local go_sem ↓] Go.wp_at_zero Go.wp_at_succ
namespace DE
open Go.Proofs.YtodhjjeagmjhdaaGreatDoor.ST
set_option maxRecDepth 100000 in
set_option maxHeartbeats 4000000 in
theorem moveLeads_ (v : Value) (s : Stt) (e : Ev) (oa : Option Addr) (on oc : Nat) (w : World) (hs : StL w v s) (hl : ∀ r ∈ s.zs,r.length <= 140737488355328) : Calls Tryz.prog 119 #[v,evv e (.slice oa on oc)] w fun r w'=>r = .returned (.bool (moveFitsB s (turnedE e))) /\ Up w w' := by
 have HT : Hid _ := turned_ e oa on oc
 have HF : Hid (∀ W,Up w W -> _) := fun W u=>moveFits_ v s (turnedE e) oa on oc W (hs.up u) hl
 obtain ⟨vp,vc,vz,rfl,h1,h2,h3⟩ := hs
 obtain ⟨a1,k1,rfl,-,-⟩ := pl_at h1
 obtain ⟨a2,k2,rfl,-,-⟩ := cl_at h2
 obtain ⟨a3,k3,rfl,-,-⟩ := zl_at h3
 generalize moveFitsB s (turnedE e) = r0 at *
 generalize evv (turnedE e) (.slice oa on oc) = te at *
 clear h1 h2 h3
 unfold evv evc at *
 unfold sv at *
 go_enter Tryz.func119,Tryz.ntmps119
 go_wp2_with fail
 refine (fun key : ∀ W8,Up w W8 -> (?G : World -> Prop) W8=>?main) ?kp
 case main =>
  go_region_with (first
   | (go_at_call 185; go_loud (refine Calls.mono (HT.out _) ?_; rintro r W9 ⟨rfl,u9⟩; have u8 := Up.trans (Up.drew (Up.refl _)) u9; have U9 : Hid (Up w W9) := Up.trans (((Up.refl _).alloc _).alloc _) u8; have s0 := par0 u8 0 _ rfl; have s1 := par0 u8 1 _ rfl; have s2 := par0 u8 2 _ rfl; have s3 := par0 u8 3 _ rfl; have s4 := par0 u8 4 _ rfl; have s5 := par0 u8 5 _ rfl; have s6 := par0 u8 6 _ rfl; clear u9 u8))
   | (go_at_call 118; refine Calls.mono (HF.out _ U9.out) ?_; rintro r W8 ⟨rfl,u8⟩; have U8 : Hid (Up w W8) := U9.out.trans u8; clear u8))
  all_goals exact key W8 U8.out
 case kp =>
  intro W8 hu8
  have HU8 : Hid _ := hu8
  clear hu8
  go_wp2
  go_ret
  exact ⟨rfl,HU8.out⟩
def shuffleFitsB (s : Stt) (e : Ev) : Bool := numB e.fr s.zs.length && (ordB (zn s e.fr).length e.ord && !risesB e.ord)
set_option maxRecDepth 100000 in
set_option maxHeartbeats 4000000 in
theorem shuffleFits_ (v : Value) (s : Stt) (e : Ev) (oa : Option Addr) (oc : Nat) (w : World) (hs : StL w v s) (ho : IL w (.slice oa e.ord.length oc) e.ord) (hn : e.ord.length <= 140737488355328) (hl : ∀ r ∈ s.zs,r.length <= 256) : Calls Tryz.prog 136 #[v,evv e (.slice oa e.ord.length oc)] w fun r w'=>r = .returned (.bool (shuffleFitsB s e)) /\ Up w w' := by
 have HIF : Hid (∀ W,Up w W -> _) := fun W u=>isZone_ v s e.fr W (hs.up u)
 have HLE : Hid (∀ W,Up w W -> _) := fun W u=>leavesAll_ _ e.ord W (LC.up ho u) hn
 have HOR : Hid (∀ m,m <= 256 -> ∀ W,Up w W -> _) := fun m hm W u=>isOrder_ _ e.ord m W (LC.up ho u) hm
 unfold shuffleFitsB
 obtain ⟨vp,vc,vz,rfl,h1,h2,h3⟩ := hs
 obtain ⟨a1,k1,rfl,-,-⟩ := pl_at h1
 obtain ⟨a2,k2,rfl,-,-⟩ := cl_at h2
 obtain ⟨a3,k3,rfl,-,hcl⟩ := zl_at h3
 unfold evv evc at *
 unfold sv at *
 obtain ⟨kind,field,card,player,other,fr,frAt,to_,toAt,was,now,ord⟩ := e
 dsimp only at *
 generalize risesB ord = rb at *
 clear h1 h2 h3
 cases hn2 : numB fr s.zs.length
 ·rw [hn2] at HIF
  rw [Bool.false_and]
  clear hcl HOR HLE hn2 hl hn ho
  generalize ord.length = on at *
  have ne : Nonempty (UW ((w.alloc (.cells #[.slice a1 s.ps.length k1,.slice a2 s.cs.length k2,.slice a3 s.zs.length k3,.int .i32 s.turn,.int .i64 s.whose,.int .i8 s.fin,.int .i64 s.winner] 27)).alloc (.cells #[.int .i8 kind,.int .i8 field,.int .i64 card,.int .i64 player,.int .i64 other,.int .i64 fr,.int .i64 frAt,.int .i64 to_,.int .i64 toAt,.int .i32 was,.int .i32 now,.slice oa on oc] 30))) := ⟨⟨_,Up.refl _⟩⟩
  have mk : ∀ {f : Nat} {args : Array Value} {R : Value} (U : UW ((w.alloc (.cells #[.slice a1 s.ps.length k1,.slice a2 s.cs.length k2,.slice a3 s.zs.length k3,.int .i32 s.turn,.int .i64 s.whose,.int .i8 s.fin,.int .i64 s.winner] 27)).alloc (.cells #[.int .i8 kind,.int .i8 field,.int .i64 card,.int .i64 player,.int .i64 other,.int .i64 fr,.int .i64 frAt,.int .i64 to_,.int .i64 toAt,.int .i32 was,.int .i32 now,.slice oa on oc] 30))),Calls Tryz.prog f args U.W (fun e w'=>e = .returned R /\ Up U.W w') -> Calls Tryz.prog f args U.W (fun e w'=>e = .returned R /\ ∃ V : UW ((w.alloc (.cells #[.slice a1 s.ps.length k1,.slice a2 s.cs.length k2,.slice a3 s.zs.length k3,.int .i32 s.turn,.int .i64 s.whose,.int .i8 s.fin,.int .i64 s.winner] 27)).alloc (.cells #[.int .i8 kind,.int .i8 field,.int .i64 card,.int .i64 player,.int .i64 other,.int .i64 fr,.int .i64 frAt,.int .i64 to_,.int .i64 toAt,.int .i32 was,.int .i32 now,.slice oa on oc] 30)),w' = V.W) := fun U h=>h.mono fun e w' ⟨he,u⟩=>⟨he,⟨w',U.up.trans u⟩,rfl⟩
  have s0 : ∀ U : UW ((w.alloc (.cells #[.slice a1 s.ps.length k1,.slice a2 s.cs.length k2,.slice a3 s.zs.length k3,.int .i32 s.turn,.int .i64 s.whose,.int .i8 s.fin,.int .i64 s.winner] 27)).alloc (.cells #[.int .i8 kind,.int .i8 field,.int .i64 card,.int .i64 player,.int .i64 other,.int .i64 fr,.int .i64 frAt,.int .i64 to_,.int .i64 toAt,.int .i32 was,.int .i32 now,.slice oa on oc] 30)),_ := fun U=>par0 U.up 0 _ rfl
  have s1 : ∀ U : UW ((w.alloc (.cells #[.slice a1 s.ps.length k1,.slice a2 s.cs.length k2,.slice a3 s.zs.length k3,.int .i32 s.turn,.int .i64 s.whose,.int .i8 s.fin,.int .i64 s.winner] 27)).alloc (.cells #[.int .i8 kind,.int .i8 field,.int .i64 card,.int .i64 player,.int .i64 other,.int .i64 fr,.int .i64 frAt,.int .i64 to_,.int .i64 toAt,.int .i32 was,.int .i32 now,.slice oa on oc] 30)),_ := fun U=>par0 U.up 1 _ rfl
  have s2 : ∀ U : UW ((w.alloc (.cells #[.slice a1 s.ps.length k1,.slice a2 s.cs.length k2,.slice a3 s.zs.length k3,.int .i32 s.turn,.int .i64 s.whose,.int .i8 s.fin,.int .i64 s.winner] 27)).alloc (.cells #[.int .i8 kind,.int .i8 field,.int .i64 card,.int .i64 player,.int .i64 other,.int .i64 fr,.int .i64 frAt,.int .i64 to_,.int .i64 toAt,.int .i32 was,.int .i32 now,.slice oa on oc] 30)),_ := fun U=>par0 U.up 2 _ rfl
  have s3 : ∀ U : UW ((w.alloc (.cells #[.slice a1 s.ps.length k1,.slice a2 s.cs.length k2,.slice a3 s.zs.length k3,.int .i32 s.turn,.int .i64 s.whose,.int .i8 s.fin,.int .i64 s.winner] 27)).alloc (.cells #[.int .i8 kind,.int .i8 field,.int .i64 card,.int .i64 player,.int .i64 other,.int .i64 fr,.int .i64 frAt,.int .i64 to_,.int .i64 toAt,.int .i32 was,.int .i32 now,.slice oa on oc] 30)),_ := fun U=>par0 U.up 3 _ rfl
  have s4 : ∀ U : UW ((w.alloc (.cells #[.slice a1 s.ps.length k1,.slice a2 s.cs.length k2,.slice a3 s.zs.length k3,.int .i32 s.turn,.int .i64 s.whose,.int .i8 s.fin,.int .i64 s.winner] 27)).alloc (.cells #[.int .i8 kind,.int .i8 field,.int .i64 card,.int .i64 player,.int .i64 other,.int .i64 fr,.int .i64 frAt,.int .i64 to_,.int .i64 toAt,.int .i32 was,.int .i32 now,.slice oa on oc] 30)),_ := fun U=>par0 U.up 4 _ rfl
  have s5 : ∀ U : UW ((w.alloc (.cells #[.slice a1 s.ps.length k1,.slice a2 s.cs.length k2,.slice a3 s.zs.length k3,.int .i32 s.turn,.int .i64 s.whose,.int .i8 s.fin,.int .i64 s.winner] 27)).alloc (.cells #[.int .i8 kind,.int .i8 field,.int .i64 card,.int .i64 player,.int .i64 other,.int .i64 fr,.int .i64 frAt,.int .i64 to_,.int .i64 toAt,.int .i32 was,.int .i32 now,.slice oa on oc] 30)),_ := fun U=>par0 U.up 5 _ rfl
  have s6 : ∀ U : UW ((w.alloc (.cells #[.slice a1 s.ps.length k1,.slice a2 s.cs.length k2,.slice a3 s.zs.length k3,.int .i32 s.turn,.int .i64 s.whose,.int .i8 s.fin,.int .i64 s.winner] 27)).alloc (.cells #[.int .i8 kind,.int .i8 field,.int .i64 card,.int .i64 player,.int .i64 other,.int .i64 fr,.int .i64 frAt,.int .i64 to_,.int .i64 toAt,.int .i32 was,.int .i32 now,.slice oa on oc] 30)),_ := fun U=>par0 U.up 6 _ rfl
  have e5 : ∀ U : UW ((w.alloc (.cells #[.slice a1 s.ps.length k1,.slice a2 s.cs.length k2,.slice a3 s.zs.length k3,.int .i32 s.turn,.int .i64 s.whose,.int .i8 s.fin,.int .i64 s.winner] 27)).alloc (.cells #[.int .i8 kind,.int .i8 field,.int .i64 card,.int .i64 player,.int .i64 other,.int .i64 fr,.int .i64 frAt,.int .i64 to_,.int .i64 toAt,.int .i32 was,.int .i32 now,.slice oa on oc] 30)),_ := fun U=>par1 U.up 5 _ rfl
  have e11 : ∀ U : UW ((w.alloc (.cells #[.slice a1 s.ps.length k1,.slice a2 s.cs.length k2,.slice a3 s.zs.length k3,.int .i32 s.turn,.int .i64 s.whose,.int .i8 s.fin,.int .i64 s.winner] 27)).alloc (.cells #[.int .i8 kind,.int .i8 field,.int .i64 card,.int .i64 player,.int .i64 other,.int .i64 fr,.int .i64 frAt,.int .i64 to_,.int .i64 toAt,.int .i32 was,.int .i32 now,.slice oa on oc] 30)),_ := fun U=>par1 U.up 11 _ rfl
  have HQ1 : Hid (∀ U : UW ((w.alloc (.cells #[.slice a1 s.ps.length k1,.slice a2 s.cs.length k2,.slice a3 s.zs.length k3,.int .i32 s.turn,.int .i64 s.whose,.int .i8 s.fin,.int .i64 s.winner] 27)).alloc (.cells #[.int .i8 kind,.int .i8 field,.int .i64 card,.int .i64 player,.int .i64 other,.int .i64 fr,.int .i64 frAt,.int .i64 to_,.int .i64 toAt,.int .i32 was,.int .i32 now,.slice oa on oc] 30)),_) := fun U=>mk U (HIF.out U.W (Up.trans (((Up.refl _).alloc _).alloc _) U.up))
  clear mk
  go_enter Tryz.func136,Tryz.ntmps136
  go_wp2_with fail
  refine TailR.wp_region_seqC 22 (fun w'=>∃ U : UW ((w.alloc (.cells #[.slice a1 s.ps.length k1,.slice a2 s.cs.length k2,.slice a3 s.zs.length k3,.int .i32 s.turn,.int .i64 s.whose,.int .i8 s.fin,.int .i64 s.winner] 27)).alloc (.cells #[.int .i8 kind,.int .i8 field,.int .i64 card,.int .i64 player,.int .i64 other,.int .i64 fr,.int .i64 frAt,.int .i64 to_,.int .i64 toAt,.int .i32 was,.int .i32 now,.slice oa on oc] 30)),w' = U.W) ⟨⟨_,(Up.refl _).drewN 1⟩,rfl⟩ (by kernel_rfl) (by kernel_rfl) ?_
  simp only [List.take_succ_cons,List.take_zero,List.drop_succ_cons,List.drop_zero]
  repeat (go_big_quiet_step (first | with_reducible exact HQ1.out _))
  refine wpQuiet_nil ?_
  intro _ hw'
  obtain ⟨U,hw''⟩ := hw'
  subst hw''
  go_wp2
  go_ret
  exact ⟨by simp,Up.trans (((Up.refl _).alloc _).alloc _) U.up⟩
 ·rw [hn2] at HIF
  rw [Bool.true_and]
  obtain ⟨i,rfl,hi⟩ := num_nat hn2
  obtain ⟨b,off,rfl,hc⟩ := hcl (by omega)
  obtain ⟨ra,rc,hcell,-⟩ := hc i hi
  have HCell : Hid _ := hcell
  have hzn : zn s (i : Int) = s.zs.getD i [] := by unfold zn; rw [Int.toNat_natCast]
  rw [hzn]
  have hq : (s.zs.getD i []).length <= 256 := by
   rw [List.getD_eq_getElem?_getD,List.getElem?_eq_getElem hi]
   exact hl _ (List.getElem_mem hi)
  have HO : Hid _ := HOR.out _ hq
  generalize (s.zs.getD i []).length = q at *
  generalize ordB q ord = ob at *
  have hi2 : (i : Int) < (s.zs.length : Int) := by omega
  generalize s.zs.length = m at *
  generalize ord.length = on at *
  clear hcl HOR hn2 hc hcell hzn hl hn ho
  cases ob
  ·rw [Bool.false_and]
   have ne : Nonempty (UW ((w.alloc (.cells #[.slice a1 s.ps.length k1,.slice a2 s.cs.length k2,.slice (some ⟨b,off,none⟩) m k3,.int .i32 s.turn,.int .i64 s.whose,.int .i8 s.fin,.int .i64 s.winner] 27)).alloc (.cells #[.int .i8 kind,.int .i8 field,.int .i64 card,.int .i64 player,.int .i64 other,.int .i64 (i : Int),.int .i64 frAt,.int .i64 to_,.int .i64 toAt,.int .i32 was,.int .i32 now,.slice oa on oc] 30))) := ⟨⟨_,Up.refl _⟩⟩
   have mk : ∀ {f : Nat} {args : Array Value} {R : Value} (U : UW ((w.alloc (.cells #[.slice a1 s.ps.length k1,.slice a2 s.cs.length k2,.slice (some ⟨b,off,none⟩) m k3,.int .i32 s.turn,.int .i64 s.whose,.int .i8 s.fin,.int .i64 s.winner] 27)).alloc (.cells #[.int .i8 kind,.int .i8 field,.int .i64 card,.int .i64 player,.int .i64 other,.int .i64 (i : Int),.int .i64 frAt,.int .i64 to_,.int .i64 toAt,.int .i32 was,.int .i32 now,.slice oa on oc] 30))),Calls Tryz.prog f args U.W (fun e w'=>e = .returned R /\ Up U.W w') -> Calls Tryz.prog f args U.W (fun e w'=>e = .returned R /\ ∃ V : UW ((w.alloc (.cells #[.slice a1 s.ps.length k1,.slice a2 s.cs.length k2,.slice (some ⟨b,off,none⟩) m k3,.int .i32 s.turn,.int .i64 s.whose,.int .i8 s.fin,.int .i64 s.winner] 27)).alloc (.cells #[.int .i8 kind,.int .i8 field,.int .i64 card,.int .i64 player,.int .i64 other,.int .i64 (i : Int),.int .i64 frAt,.int .i64 to_,.int .i64 toAt,.int .i32 was,.int .i32 now,.slice oa on oc] 30)),w' = V.W) := fun U h=>h.mono fun e w' ⟨he,u⟩=>⟨he,⟨w',U.up.trans u⟩,rfl⟩
   have s0 : ∀ U : UW ((w.alloc (.cells #[.slice a1 s.ps.length k1,.slice a2 s.cs.length k2,.slice (some ⟨b,off,none⟩) m k3,.int .i32 s.turn,.int .i64 s.whose,.int .i8 s.fin,.int .i64 s.winner] 27)).alloc (.cells #[.int .i8 kind,.int .i8 field,.int .i64 card,.int .i64 player,.int .i64 other,.int .i64 (i : Int),.int .i64 frAt,.int .i64 to_,.int .i64 toAt,.int .i32 was,.int .i32 now,.slice oa on oc] 30)),_ := fun U=>par0 U.up 0 _ rfl
   have s1 : ∀ U : UW ((w.alloc (.cells #[.slice a1 s.ps.length k1,.slice a2 s.cs.length k2,.slice (some ⟨b,off,none⟩) m k3,.int .i32 s.turn,.int .i64 s.whose,.int .i8 s.fin,.int .i64 s.winner] 27)).alloc (.cells #[.int .i8 kind,.int .i8 field,.int .i64 card,.int .i64 player,.int .i64 other,.int .i64 (i : Int),.int .i64 frAt,.int .i64 to_,.int .i64 toAt,.int .i32 was,.int .i32 now,.slice oa on oc] 30)),_ := fun U=>par0 U.up 1 _ rfl
   have s2 : ∀ U : UW ((w.alloc (.cells #[.slice a1 s.ps.length k1,.slice a2 s.cs.length k2,.slice (some ⟨b,off,none⟩) m k3,.int .i32 s.turn,.int .i64 s.whose,.int .i8 s.fin,.int .i64 s.winner] 27)).alloc (.cells #[.int .i8 kind,.int .i8 field,.int .i64 card,.int .i64 player,.int .i64 other,.int .i64 (i : Int),.int .i64 frAt,.int .i64 to_,.int .i64 toAt,.int .i32 was,.int .i32 now,.slice oa on oc] 30)),_ := fun U=>par0 U.up 2 _ rfl
   have s3 : ∀ U : UW ((w.alloc (.cells #[.slice a1 s.ps.length k1,.slice a2 s.cs.length k2,.slice (some ⟨b,off,none⟩) m k3,.int .i32 s.turn,.int .i64 s.whose,.int .i8 s.fin,.int .i64 s.winner] 27)).alloc (.cells #[.int .i8 kind,.int .i8 field,.int .i64 card,.int .i64 player,.int .i64 other,.int .i64 (i : Int),.int .i64 frAt,.int .i64 to_,.int .i64 toAt,.int .i32 was,.int .i32 now,.slice oa on oc] 30)),_ := fun U=>par0 U.up 3 _ rfl
   have s4 : ∀ U : UW ((w.alloc (.cells #[.slice a1 s.ps.length k1,.slice a2 s.cs.length k2,.slice (some ⟨b,off,none⟩) m k3,.int .i32 s.turn,.int .i64 s.whose,.int .i8 s.fin,.int .i64 s.winner] 27)).alloc (.cells #[.int .i8 kind,.int .i8 field,.int .i64 card,.int .i64 player,.int .i64 other,.int .i64 (i : Int),.int .i64 frAt,.int .i64 to_,.int .i64 toAt,.int .i32 was,.int .i32 now,.slice oa on oc] 30)),_ := fun U=>par0 U.up 4 _ rfl
   have s5 : ∀ U : UW ((w.alloc (.cells #[.slice a1 s.ps.length k1,.slice a2 s.cs.length k2,.slice (some ⟨b,off,none⟩) m k3,.int .i32 s.turn,.int .i64 s.whose,.int .i8 s.fin,.int .i64 s.winner] 27)).alloc (.cells #[.int .i8 kind,.int .i8 field,.int .i64 card,.int .i64 player,.int .i64 other,.int .i64 (i : Int),.int .i64 frAt,.int .i64 to_,.int .i64 toAt,.int .i32 was,.int .i32 now,.slice oa on oc] 30)),_ := fun U=>par0 U.up 5 _ rfl
   have s6 : ∀ U : UW ((w.alloc (.cells #[.slice a1 s.ps.length k1,.slice a2 s.cs.length k2,.slice (some ⟨b,off,none⟩) m k3,.int .i32 s.turn,.int .i64 s.whose,.int .i8 s.fin,.int .i64 s.winner] 27)).alloc (.cells #[.int .i8 kind,.int .i8 field,.int .i64 card,.int .i64 player,.int .i64 other,.int .i64 (i : Int),.int .i64 frAt,.int .i64 to_,.int .i64 toAt,.int .i32 was,.int .i32 now,.slice oa on oc] 30)),_ := fun U=>par0 U.up 6 _ rfl
   have e5 : ∀ U : UW ((w.alloc (.cells #[.slice a1 s.ps.length k1,.slice a2 s.cs.length k2,.slice (some ⟨b,off,none⟩) m k3,.int .i32 s.turn,.int .i64 s.whose,.int .i8 s.fin,.int .i64 s.winner] 27)).alloc (.cells #[.int .i8 kind,.int .i8 field,.int .i64 card,.int .i64 player,.int .i64 other,.int .i64 (i : Int),.int .i64 frAt,.int .i64 to_,.int .i64 toAt,.int .i32 was,.int .i32 now,.slice oa on oc] 30)),_ := fun U=>par1 U.up 5 _ rfl
   have e11 : ∀ U : UW ((w.alloc (.cells #[.slice a1 s.ps.length k1,.slice a2 s.cs.length k2,.slice (some ⟨b,off,none⟩) m k3,.int .i32 s.turn,.int .i64 s.whose,.int .i8 s.fin,.int .i64 s.winner] 27)).alloc (.cells #[.int .i8 kind,.int .i8 field,.int .i64 card,.int .i64 player,.int .i64 other,.int .i64 (i : Int),.int .i64 frAt,.int .i64 to_,.int .i64 toAt,.int .i32 was,.int .i32 now,.slice oa on oc] 30)),_ := fun U=>par1 U.up 11 _ rfl
   have HQ1 : Hid (∀ U : UW ((w.alloc (.cells #[.slice a1 s.ps.length k1,.slice a2 s.cs.length k2,.slice (some ⟨b,off,none⟩) m k3,.int .i32 s.turn,.int .i64 s.whose,.int .i8 s.fin,.int .i64 s.winner] 27)).alloc (.cells #[.int .i8 kind,.int .i8 field,.int .i64 card,.int .i64 player,.int .i64 other,.int .i64 (i : Int),.int .i64 frAt,.int .i64 to_,.int .i64 toAt,.int .i32 was,.int .i32 now,.slice oa on oc] 30)),_) := fun U=>mk U (HIF.out U.W (Up.trans (((Up.refl _).alloc _).alloc _) U.up))
   have x0 : ∀ U : UW ((w.alloc (.cells #[.slice a1 s.ps.length k1,.slice a2 s.cs.length k2,.slice (some ⟨b,off,none⟩) m k3,.int .i32 s.turn,.int .i64 s.whose,.int .i8 s.fin,.int .i64 s.winner] 27)).alloc (.cells #[.int .i8 kind,.int .i8 field,.int .i64 card,.int .i64 player,.int .i64 other,.int .i64 (i : Int),.int .i64 frAt,.int .i64 to_,.int .i64 toAt,.int .i32 was,.int .i32 now,.slice oa on oc] 30)),_ := fun U=>HCell.out U.W (Up.trans (((Up.refl _).alloc _).alloc _) U.up)
   have HQ2 : Hid (∀ U : UW ((w.alloc (.cells #[.slice a1 s.ps.length k1,.slice a2 s.cs.length k2,.slice (some ⟨b,off,none⟩) m k3,.int .i32 s.turn,.int .i64 s.whose,.int .i8 s.fin,.int .i64 s.winner] 27)).alloc (.cells #[.int .i8 kind,.int .i8 field,.int .i64 card,.int .i64 player,.int .i64 other,.int .i64 (i : Int),.int .i64 frAt,.int .i64 to_,.int .i64 toAt,.int .i32 was,.int .i32 now,.slice oa on oc] 30)),_) := fun U=>mk U (HO.out U.W (Up.trans (((Up.refl _).alloc _).alloc _) U.up))
   clear mk
   go_enter Tryz.func136,Tryz.ntmps136
   go_wp2_with fail
   refine TailR.wp_region_seqC 22 (fun w'=>∃ U : UW ((w.alloc (.cells #[.slice a1 s.ps.length k1,.slice a2 s.cs.length k2,.slice (some ⟨b,off,none⟩) m k3,.int .i32 s.turn,.int .i64 s.whose,.int .i8 s.fin,.int .i64 s.winner] 27)).alloc (.cells #[.int .i8 kind,.int .i8 field,.int .i64 card,.int .i64 player,.int .i64 other,.int .i64 (i : Int),.int .i64 frAt,.int .i64 to_,.int .i64 toAt,.int .i32 was,.int .i32 now,.slice oa on oc] 30)),w' = U.W) ⟨⟨_,(Up.refl _).drewN 1⟩,rfl⟩ (by kernel_rfl) (by kernel_rfl) ?_
   simp only [List.take_succ_cons,List.take_zero,List.drop_succ_cons,List.drop_zero]
   repeat (go_big_quiet_step (first | with_reducible exact HQ1.out _ | with_reducible exact HQ2.out _))
   refine wpQuiet_nil ?_
   intro _ hw'
   obtain ⟨U,hw''⟩ := hw'
   subst hw''
   go_wp2
   go_ret
   exact ⟨by simp,Up.trans (((Up.refl _).alloc _).alloc _) U.up⟩
  ·rw [Bool.true_and]
   have ne : Nonempty (UW ((w.alloc (.cells #[.slice a1 s.ps.length k1,.slice a2 s.cs.length k2,.slice (some ⟨b,off,none⟩) m k3,.int .i32 s.turn,.int .i64 s.whose,.int .i8 s.fin,.int .i64 s.winner] 27)).alloc (.cells #[.int .i8 kind,.int .i8 field,.int .i64 card,.int .i64 player,.int .i64 other,.int .i64 (i : Int),.int .i64 frAt,.int .i64 to_,.int .i64 toAt,.int .i32 was,.int .i32 now,.slice oa on oc] 30))) := ⟨⟨_,Up.refl _⟩⟩
   have mk : ∀ {f : Nat} {args : Array Value} {R : Value} (U : UW ((w.alloc (.cells #[.slice a1 s.ps.length k1,.slice a2 s.cs.length k2,.slice (some ⟨b,off,none⟩) m k3,.int .i32 s.turn,.int .i64 s.whose,.int .i8 s.fin,.int .i64 s.winner] 27)).alloc (.cells #[.int .i8 kind,.int .i8 field,.int .i64 card,.int .i64 player,.int .i64 other,.int .i64 (i : Int),.int .i64 frAt,.int .i64 to_,.int .i64 toAt,.int .i32 was,.int .i32 now,.slice oa on oc] 30))),Calls Tryz.prog f args U.W (fun e w'=>e = .returned R /\ Up U.W w') -> Calls Tryz.prog f args U.W (fun e w'=>e = .returned R /\ ∃ V : UW ((w.alloc (.cells #[.slice a1 s.ps.length k1,.slice a2 s.cs.length k2,.slice (some ⟨b,off,none⟩) m k3,.int .i32 s.turn,.int .i64 s.whose,.int .i8 s.fin,.int .i64 s.winner] 27)).alloc (.cells #[.int .i8 kind,.int .i8 field,.int .i64 card,.int .i64 player,.int .i64 other,.int .i64 (i : Int),.int .i64 frAt,.int .i64 to_,.int .i64 toAt,.int .i32 was,.int .i32 now,.slice oa on oc] 30)),w' = V.W) := fun U h=>h.mono fun e w' ⟨he,u⟩=>⟨he,⟨w',U.up.trans u⟩,rfl⟩
   have s0 : ∀ U : UW ((w.alloc (.cells #[.slice a1 s.ps.length k1,.slice a2 s.cs.length k2,.slice (some ⟨b,off,none⟩) m k3,.int .i32 s.turn,.int .i64 s.whose,.int .i8 s.fin,.int .i64 s.winner] 27)).alloc (.cells #[.int .i8 kind,.int .i8 field,.int .i64 card,.int .i64 player,.int .i64 other,.int .i64 (i : Int),.int .i64 frAt,.int .i64 to_,.int .i64 toAt,.int .i32 was,.int .i32 now,.slice oa on oc] 30)),_ := fun U=>par0 U.up 0 _ rfl
   have s1 : ∀ U : UW ((w.alloc (.cells #[.slice a1 s.ps.length k1,.slice a2 s.cs.length k2,.slice (some ⟨b,off,none⟩) m k3,.int .i32 s.turn,.int .i64 s.whose,.int .i8 s.fin,.int .i64 s.winner] 27)).alloc (.cells #[.int .i8 kind,.int .i8 field,.int .i64 card,.int .i64 player,.int .i64 other,.int .i64 (i : Int),.int .i64 frAt,.int .i64 to_,.int .i64 toAt,.int .i32 was,.int .i32 now,.slice oa on oc] 30)),_ := fun U=>par0 U.up 1 _ rfl
   have s2 : ∀ U : UW ((w.alloc (.cells #[.slice a1 s.ps.length k1,.slice a2 s.cs.length k2,.slice (some ⟨b,off,none⟩) m k3,.int .i32 s.turn,.int .i64 s.whose,.int .i8 s.fin,.int .i64 s.winner] 27)).alloc (.cells #[.int .i8 kind,.int .i8 field,.int .i64 card,.int .i64 player,.int .i64 other,.int .i64 (i : Int),.int .i64 frAt,.int .i64 to_,.int .i64 toAt,.int .i32 was,.int .i32 now,.slice oa on oc] 30)),_ := fun U=>par0 U.up 2 _ rfl
   have s3 : ∀ U : UW ((w.alloc (.cells #[.slice a1 s.ps.length k1,.slice a2 s.cs.length k2,.slice (some ⟨b,off,none⟩) m k3,.int .i32 s.turn,.int .i64 s.whose,.int .i8 s.fin,.int .i64 s.winner] 27)).alloc (.cells #[.int .i8 kind,.int .i8 field,.int .i64 card,.int .i64 player,.int .i64 other,.int .i64 (i : Int),.int .i64 frAt,.int .i64 to_,.int .i64 toAt,.int .i32 was,.int .i32 now,.slice oa on oc] 30)),_ := fun U=>par0 U.up 3 _ rfl
   have s4 : ∀ U : UW ((w.alloc (.cells #[.slice a1 s.ps.length k1,.slice a2 s.cs.length k2,.slice (some ⟨b,off,none⟩) m k3,.int .i32 s.turn,.int .i64 s.whose,.int .i8 s.fin,.int .i64 s.winner] 27)).alloc (.cells #[.int .i8 kind,.int .i8 field,.int .i64 card,.int .i64 player,.int .i64 other,.int .i64 (i : Int),.int .i64 frAt,.int .i64 to_,.int .i64 toAt,.int .i32 was,.int .i32 now,.slice oa on oc] 30)),_ := fun U=>par0 U.up 4 _ rfl
   have s5 : ∀ U : UW ((w.alloc (.cells #[.slice a1 s.ps.length k1,.slice a2 s.cs.length k2,.slice (some ⟨b,off,none⟩) m k3,.int .i32 s.turn,.int .i64 s.whose,.int .i8 s.fin,.int .i64 s.winner] 27)).alloc (.cells #[.int .i8 kind,.int .i8 field,.int .i64 card,.int .i64 player,.int .i64 other,.int .i64 (i : Int),.int .i64 frAt,.int .i64 to_,.int .i64 toAt,.int .i32 was,.int .i32 now,.slice oa on oc] 30)),_ := fun U=>par0 U.up 5 _ rfl
   have s6 : ∀ U : UW ((w.alloc (.cells #[.slice a1 s.ps.length k1,.slice a2 s.cs.length k2,.slice (some ⟨b,off,none⟩) m k3,.int .i32 s.turn,.int .i64 s.whose,.int .i8 s.fin,.int .i64 s.winner] 27)).alloc (.cells #[.int .i8 kind,.int .i8 field,.int .i64 card,.int .i64 player,.int .i64 other,.int .i64 (i : Int),.int .i64 frAt,.int .i64 to_,.int .i64 toAt,.int .i32 was,.int .i32 now,.slice oa on oc] 30)),_ := fun U=>par0 U.up 6 _ rfl
   have e5 : ∀ U : UW ((w.alloc (.cells #[.slice a1 s.ps.length k1,.slice a2 s.cs.length k2,.slice (some ⟨b,off,none⟩) m k3,.int .i32 s.turn,.int .i64 s.whose,.int .i8 s.fin,.int .i64 s.winner] 27)).alloc (.cells #[.int .i8 kind,.int .i8 field,.int .i64 card,.int .i64 player,.int .i64 other,.int .i64 (i : Int),.int .i64 frAt,.int .i64 to_,.int .i64 toAt,.int .i32 was,.int .i32 now,.slice oa on oc] 30)),_ := fun U=>par1 U.up 5 _ rfl
   have e11 : ∀ U : UW ((w.alloc (.cells #[.slice a1 s.ps.length k1,.slice a2 s.cs.length k2,.slice (some ⟨b,off,none⟩) m k3,.int .i32 s.turn,.int .i64 s.whose,.int .i8 s.fin,.int .i64 s.winner] 27)).alloc (.cells #[.int .i8 kind,.int .i8 field,.int .i64 card,.int .i64 player,.int .i64 other,.int .i64 (i : Int),.int .i64 frAt,.int .i64 to_,.int .i64 toAt,.int .i32 was,.int .i32 now,.slice oa on oc] 30)),_ := fun U=>par1 U.up 11 _ rfl
   have HQ1 : Hid (∀ U : UW ((w.alloc (.cells #[.slice a1 s.ps.length k1,.slice a2 s.cs.length k2,.slice (some ⟨b,off,none⟩) m k3,.int .i32 s.turn,.int .i64 s.whose,.int .i8 s.fin,.int .i64 s.winner] 27)).alloc (.cells #[.int .i8 kind,.int .i8 field,.int .i64 card,.int .i64 player,.int .i64 other,.int .i64 (i : Int),.int .i64 frAt,.int .i64 to_,.int .i64 toAt,.int .i32 was,.int .i32 now,.slice oa on oc] 30)),_) := fun U=>mk U (HIF.out U.W (Up.trans (((Up.refl _).alloc _).alloc _) U.up))
   have x0 : ∀ U : UW ((w.alloc (.cells #[.slice a1 s.ps.length k1,.slice a2 s.cs.length k2,.slice (some ⟨b,off,none⟩) m k3,.int .i32 s.turn,.int .i64 s.whose,.int .i8 s.fin,.int .i64 s.winner] 27)).alloc (.cells #[.int .i8 kind,.int .i8 field,.int .i64 card,.int .i64 player,.int .i64 other,.int .i64 (i : Int),.int .i64 frAt,.int .i64 to_,.int .i64 toAt,.int .i32 was,.int .i32 now,.slice oa on oc] 30)),_ := fun U=>HCell.out U.W (Up.trans (((Up.refl _).alloc _).alloc _) U.up)
   have HQ2 : Hid (∀ U : UW ((w.alloc (.cells #[.slice a1 s.ps.length k1,.slice a2 s.cs.length k2,.slice (some ⟨b,off,none⟩) m k3,.int .i32 s.turn,.int .i64 s.whose,.int .i8 s.fin,.int .i64 s.winner] 27)).alloc (.cells #[.int .i8 kind,.int .i8 field,.int .i64 card,.int .i64 player,.int .i64 other,.int .i64 (i : Int),.int .i64 frAt,.int .i64 to_,.int .i64 toAt,.int .i32 was,.int .i32 now,.slice oa on oc] 30)),_) := fun U=>mk U (HO.out U.W (Up.trans (((Up.refl _).alloc _).alloc _) U.up))
   have HQ3 : Hid (∀ U : UW ((w.alloc (.cells #[.slice a1 s.ps.length k1,.slice a2 s.cs.length k2,.slice (some ⟨b,off,none⟩) m k3,.int .i32 s.turn,.int .i64 s.whose,.int .i8 s.fin,.int .i64 s.winner] 27)).alloc (.cells #[.int .i8 kind,.int .i8 field,.int .i64 card,.int .i64 player,.int .i64 other,.int .i64 (i : Int),.int .i64 frAt,.int .i64 to_,.int .i64 toAt,.int .i32 was,.int .i32 now,.slice oa on oc] 30)),_) := fun U=>mk U (HLE.out U.W (Up.trans (((Up.refl _).alloc _).alloc _) U.up))
   clear mk
   go_enter Tryz.func136,Tryz.ntmps136
   go_wp2_with fail
   refine TailR.wp_region_seqC 22 (fun w'=>∃ U : UW ((w.alloc (.cells #[.slice a1 s.ps.length k1,.slice a2 s.cs.length k2,.slice (some ⟨b,off,none⟩) m k3,.int .i32 s.turn,.int .i64 s.whose,.int .i8 s.fin,.int .i64 s.winner] 27)).alloc (.cells #[.int .i8 kind,.int .i8 field,.int .i64 card,.int .i64 player,.int .i64 other,.int .i64 (i : Int),.int .i64 frAt,.int .i64 to_,.int .i64 toAt,.int .i32 was,.int .i32 now,.slice oa on oc] 30)),w' = U.W) ⟨⟨_,(Up.refl _).drewN 1⟩,rfl⟩ (by kernel_rfl) (by kernel_rfl) ?_
   simp only [List.take_succ_cons,List.take_zero,List.drop_succ_cons,List.drop_zero]
   repeat (go_big_quiet_step (first | with_reducible exact HQ1.out _ | with_reducible exact HQ2.out _ | with_reducible exact HQ3.out _))
   refine wpQuiet_nil ?_
   intro _ hw'
   obtain ⟨U,hw''⟩ := hw'
   subst hw''
   go_wp2
   go_ret
   exact ⟨by simp,Up.trans (((Up.refl _).alloc _).alloc _) U.up⟩
end DE
end Go.Proofs.YtodhjjeagmjhdaaGreatDoor
namespace Go.Proofs.YtodhjjeagmjhdaaGreatDoor
open Go.RowKit
namespace DE
open Go.Proofs.YtodhjjeagmjhdaaGreatDoor.ST
def OwnC (W : World) (b : Nat) (vp vc vz : Value) (s : Stt) : Prop := W.heap[b]? = some (.cells #[vp,vc,vz,.int .i32 s.turn,.int .i64 s.whose,.int .i8 s.fin,.int .i64 s.winner] 27 (0,0))
def Own (base : Nat) (W : World) (b : Nat) (s : Stt) : Prop := ∃ vp vc vz,OwnC W b vp vc vz s /\ SOA base W (sv vp vc vz s) s
theorem Own.up {base : Nat} {W W' : World} {b : Nat} {s : Stt} (h : Own base W b s) (u : Up W W') : Own base W' b s := by
 obtain ⟨vp,vc,vz,h1,h2⟩ := h
 exact ⟨vp,vc,vz,u.heap h1,h2.up u⟩
theorem Own.lt {base : Nat} {W : World} {b : Nat} {s : Stt} (h : Own base W b s) : b < W.heap.size := by
 obtain ⟨vp,vc,vz,h1,-⟩ := h
 exact (Array.getElem?_eq_some_iff.1 h1).1
def KL (w w' : World) : Prop := ∀ (k : Nat) (cur : Array Value) (t : TypeId),w.heap[k]? = some (.cells cur t (0,0)) -> t ≠ 27 -> w'.heap[k]? = some (.cells cur t (0,0))
theorem KL.row {w w' : World} {base e s n : Nat} {v : Value} {xs : List Value} (k : KL w w') (he : e ≠ 27) (h : w.ownsRow base e s v n xs) : w'.ownsRow base e s v n xs := by
 refine ⟨h.1,?_⟩
 rcases h.2 with h0 | ⟨g,cap,cur,e1,e2,e3,e4⟩
 ·exact .inl h0
 ·exact .inr ⟨g,cap,cur,e1,e2,k _ _ _ e3 he,e4⟩
theorem KL.soa {w w' : World} {base : Nat} {v : Value} {s : Stt} (k : KL w w') (h : SOA base w v s) : SOA base w' v s := by
 obtain ⟨vp,vc,vz,hv,h1,h2,vs,h3,h4,h5⟩ := h
 exact ⟨vp,vc,vz,hv,k.row (by decide) h1,k.row (by decide) h2,vs,k.row (by decide) h3,fun i hi=>k.row (by decide) (h4 i hi),h5⟩
theorem SOA.scal {base : Nat} {W : World} {vp vc vz : Value} {s : Stt} (h : SOA base W (sv vp vc vz s) s) (t wh f wi : Int) : SOA base W (sv vp vc vz { s with turn := t,whose := wh,fin := f,winner := wi }) { s with turn := t,whose := wh,fin := f,winner := wi } := by
 obtain ⟨vp',vc',vz',hv,h1,h2,vs,h3,h4,h5⟩ := h
 unfold sv at hv
 simp only [Value.agg.injEq,Array.mk.injEq,List.cons.injEq,and_true] at hv
 obtain ⟨rfl,rfl,rfl⟩ := hv
 exact ⟨vp,vc,vz,rfl,h1,h2,vs,h3,h4,h5⟩
def KT (w w' : World) : Prop := ∀ (k : Nat) (cur : Array Value) (t : TypeId),w.heap[k]? = some (.cells cur t (0,0)) -> t ≠ 27 -> t ≠ 97 -> t ≠ 95 -> t ≠ 28 -> t ≠ 3 -> w'.heap[k]? = some (.cells cur t (0,0))
theorem KT.kl {w w' : World} (k : KL w w') : KT w w' := fun _ _ _ h h1 _ _ _ _=>k _ _ _ h h1
theorem KT.up {w w' : World} (u : Up w w') : KT w w' := fun _ _ _ h _ _ _ _ _=>u.heap h
theorem KT.trans {a b c : World} (h : KT a b) (k : KT b c) : KT a c := fun x cur t h0 h1 h2 h3 h4 h5=>k x cur t (h x cur t h0 h1 h2 h3 h4 h5) h1 h2 h3 h4 h5
def Did (B base b : Nat) (s' : Stt) (w w' : World) : Prop := Own base w' b s' /\ Below B w w' /\ KT w w'
theorem kl_set {w : World} {b j : Nat} {u : Value} {c : Array Value} (h : w.heap[b]? = some (.cells c 27 (0,0))) : KL w (w.setCell ⟨b,j,none⟩ u) := fun k cur t hk ht=>by
 rw [Below.heap_setCell _ _ _ _ (fun e=>?_)]
 ·exact hk
 ·have e' : k = b := e
  subst e'
  rw [h] at hk
  simp only [Option.some.injEq,Obj.cells.injEq] at hk
  exact ht hk.2.1.symm
theorem KL.up {w w' : World} (u : Up w w') : KL w w' := fun _ _ _ h _=>u.heap h
theorem KL.trans {a b c : World} (h : KL a b) (k : KL b c) : KL a c := fun x cur t h0 h1=>k x cur t (h x cur t h0 h1) h1
theorem did_two {B base b : Nat} {s : Stt} {w w1 : World} {j1 j2 : Nat} {u1 u2 : Value} {t wh f wi : Int} (h : Own base w b s) (hb : B <= b) (u : Up w w1)
  (hj : ∀ vp vc vz,(((#[vp,vc,vz,.int .i32 s.turn,.int .i64 s.whose,.int .i8 s.fin,.int .i64 s.winner] : Array Value).setIfInBounds j1 u1).setIfInBounds j2 u2) = #[vp,vc,vz,.int .i32 t,.int .i64 wh,.int .i8 f,.int .i64 wi]) :
  Did B base b { s with turn := t,whose := wh,fin := f,winner := wi } w ((w1.setCell ⟨b,j1,none⟩ u1).setCell ⟨b,j2,none⟩ u2) := by
 have hlt := h.lt
 obtain ⟨vp,vc,vz,h1,h2⟩ := h
 have g1 := u.heap h1
 have g2 : (w1.setCell ⟨b,j1,none⟩ u1).heap[b]? = some (.cells ((#[vp,vc,vz,.int .i32 s.turn,.int .i64 s.whose,.int .i8 s.fin,.int .i64 s.winner] : Array Value).setIfInBounds j1 u1) 27 (0,0)) := by
  simp only [World.setCell,Array.getElem?_modify]
  rw [if_pos trivial,g1]
  rfl
 have g3 : ((w1.setCell ⟨b,j1,none⟩ u1).setCell ⟨b,j2,none⟩ u2).heap[b]? = some (.cells #[vp,vc,vz,.int .i32 t,.int .i64 wh,.int .i8 f,.int .i64 wi] 27 (0,0)) := by
  rw [<- hj vp vc vz]
  simp only [World.setCell,Array.getElem?_modify] at g2 ⊢
  rw [if_pos trivial,g2]
  rfl
 have k : KL w ((w1.setCell ⟨b,j1,none⟩ u1).setCell ⟨b,j2,none⟩ u2) := (KL.up u).trans ((kl_set g1).trans (kl_set g2))
 exact ⟨⟨vp,vc,vz,g3,SOA.scal (k.soa h2) t wh f wi⟩,Below.setCell (Below.setCell (Below.mono u (by omega)) hb _) hb _,KT.kl k⟩
theorem Did.up {B base b : Nat} {s' : Stt} {w W W' : World} (h : Did B base b s' w W) (u : Up W W') (hB : B <= W.heap.size) : Did B base b s' w W' := ⟨h.1.up u,Below.trans h.2.1 (Below.mono u hB),h.2.2.trans (KT.up u)⟩
theorem Did.size {B base b : Nat} {s' : Stt} {w W : World} (h : Did B base b s' w W) (hb : B <= b) : B <= W.heap.size := Nat.le_trans hb (Nat.le_of_lt h.1.lt)
end DE
end Go.Proofs.YtodhjjeagmjhdaaGreatDoor
namespace Go.Proofs.YtodhjjeagmjhdaaGreatDoor
open Go.RowKit
attribute [local go_sem ↓] Go.wp_at_zero Go.wp_at_succ
namespace DE
open Go.Proofs.YtodhjjeagmjhdaaGreatDoor.ST
set_option maxRecDepth 100000 in
set_option maxHeartbeats 4000000 in
theorem doTurn_ (B base b : Nat) (s : Stt) (e : Ev) (oa : Option Addr) (on oc : Nat) (w : World) (h : Own base w b s) (hb : B <= b) : Calls Tryz.prog 149 #[.pointer (some ⟨b,0,none⟩),evv e (.slice oa on oc)] w fun x w'=>x = .returned (.tuple #[]) /\ Did B base b { s with turn := e.now,whose := e.other } w w' := by
 have hlt := h.lt
 unfold evv evc
 obtain ⟨kind,field,card,player,other,fr,frAt,to_,toAt,was,now,ord⟩ := e
 dsimp only
 have HD : Hid (∀ w1,Up w w1 -> Did B base b { s with turn := now,whose := other,fin := s.fin,winner := s.winner } w ((w1.setCell ⟨b,3,none⟩ (.int .i32 now)).setCell ⟨b,4,none⟩ (.int .i64 other))) := fun w1 u=>did_two h hb u (fun vp vc vz=>rfl)
 obtain ⟨vp,vc,vz,h1,-⟩ := h
 obtain ⟨c0,c1,c2,c3,c4,c5,c6⟩ := seven_cells h1
 have cf : ∀ j,w.frozen? ⟨b,j,none⟩ = false := fun j=>by
  unfold OwnC at h1
  simp [World.frozen?,h1]
 clear h1
 go_enter Tryz.func149,Tryz.ntmps149
 go_wp2_with fail
 go_region
 go_wp2
 exact bodyPost_end (v := .tuple #[]) (by simp [results,go_sem]) rfl ⟨rfl,Did.up (HD.out w (Up.refl _)) (((Up.refl _).alloc _).drew) (Did.size (HD.out w (Up.refl _)) hb)⟩
set_option maxRecDepth 100000 in
set_option maxHeartbeats 4000000 in
theorem undoTurn_ (B base b : Nat) (s : Stt) (e : Ev) (oa : Option Addr) (on oc : Nat) (w : World) (h : Own base w b s) (hb : B <= b) : Calls Tryz.prog 150 #[.pointer (some ⟨b,0,none⟩),evv e (.slice oa on oc)] w fun x w'=>x = .returned (.tuple #[]) /\ Did B base b { s with turn := e.was,whose := e.player } w w' := by
 have hlt := h.lt
 unfold evv evc
 obtain ⟨kind,field,card,player,other,fr,frAt,to_,toAt,was,now,ord⟩ := e
 dsimp only
 have HD : Hid (∀ w1,Up w w1 -> Did B base b { s with turn := was,whose := player,fin := s.fin,winner := s.winner } w ((w1.setCell ⟨b,3,none⟩ (.int .i32 was)).setCell ⟨b,4,none⟩ (.int .i64 player))) := fun w1 u=>did_two h hb u (fun vp vc vz=>rfl)
 obtain ⟨vp,vc,vz,h1,-⟩ := h
 obtain ⟨c0,c1,c2,c3,c4,c5,c6⟩ := seven_cells h1
 have cf : ∀ j,w.frozen? ⟨b,j,none⟩ = false := fun j=>by
  unfold OwnC at h1
  simp [World.frozen?,h1]
 clear h1
 go_enter Tryz.func150,Tryz.ntmps150
 go_wp2_with fail
 go_region
 go_wp2
 exact bodyPost_end (v := .tuple #[]) (by simp [results,go_sem]) rfl ⟨rfl,Did.up (HD.out w (Up.refl _)) (((Up.refl _).alloc _).drew) (Did.size (HD.out w (Up.refl _)) hb)⟩
set_option maxRecDepth 100000 in
set_option maxHeartbeats 4000000 in
theorem doEnd_ (B base b : Nat) (s : Stt) (e : Ev) (oa : Option Addr) (on oc : Nat) (w : World) (h : Own base w b s) (hb : B <= b) : Calls Tryz.prog 155 #[.pointer (some ⟨b,0,none⟩),evv e (.slice oa on oc)] w fun x w'=>x = .returned (.tuple #[]) /\ Did B base b { s with fin := IntKind.i8.wrap e.now,winner := e.player } w w' := by
 have hlt := h.lt
 unfold evv evc
 obtain ⟨kind,field,card,player,other,fr,frAt,to_,toAt,was,now,ord⟩ := e
 dsimp only
 have HD : Hid (∀ w1,Up w w1 -> Did B base b { s with turn := s.turn,whose := s.whose,fin := IntKind.i8.wrap now,winner := player } w ((w1.setCell ⟨b,5,none⟩ (.int .i8 (IntKind.i8.wrap now))).setCell ⟨b,6,none⟩ (.int .i64 player))) := fun w1 u=>did_two h hb u (fun vp vc vz=>rfl)
 obtain ⟨vp,vc,vz,h1,-⟩ := h
 obtain ⟨c0,c1,c2,c3,c4,c5,c6⟩ := seven_cells h1
 have cf : ∀ j,w.frozen? ⟨b,j,none⟩ = false := fun j=>by
  unfold OwnC at h1
  simp [World.frozen?,h1]
 clear h1
 go_enter Tryz.func155,Tryz.ntmps155
 go_wp2_with fail
 go_region
 go_wp2
 exact bodyPost_end (v := .tuple #[]) (by simp [results,go_sem]) rfl ⟨rfl,Did.up (HD.out w (Up.refl _)) (((Up.refl _).alloc _).drew) (Did.size (HD.out w (Up.refl _)) hb)⟩
set_option maxRecDepth 100000 in
set_option maxHeartbeats 4000000 in
theorem undoEnd_ (B base b : Nat) (s : Stt) (e : Ev) (oa : Option Addr) (on oc : Nat) (w : World) (h : Own base w b s) (hb : B <= b) : Calls Tryz.prog 156 #[.pointer (some ⟨b,0,none⟩),evv e (.slice oa on oc)] w fun x w'=>x = .returned (.tuple #[]) /\ Did B base b { s with fin := 0,winner := 0 } w w' := by
 have hlt := h.lt
 unfold evv evc
 obtain ⟨kind,field,card,player,other,fr,frAt,to_,toAt,was,now,ord⟩ := e
 dsimp only
 have HD : Hid (∀ w1,Up w w1 -> Did B base b { s with turn := s.turn,whose := s.whose,fin := 0,winner := 0 } w ((w1.setCell ⟨b,5,none⟩ (.int .i8 0)).setCell ⟨b,6,none⟩ (.int .i64 0))) := fun w1 u=>did_two h hb u (fun vp vc vz=>rfl)
 obtain ⟨vp,vc,vz,h1,-⟩ := h
 obtain ⟨c0,c1,c2,c3,c4,c5,c6⟩ := seven_cells h1
 have cf : ∀ j,w.frozen? ⟨b,j,none⟩ = false := fun j=>by
  unfold OwnC at h1
  simp [World.frozen?,h1]
 clear h1
 go_enter Tryz.func156,Tryz.ntmps156
 go_wp2_with fail
 go_wp2
 exact bodyPost_end (v := .tuple #[]) (by simp [results,go_sem]) rfl ⟨rfl,Did.up (HD.out w (Up.refl _)) ((Up.refl _).alloc _) (Did.size (HD.out w (Up.refl _)) hb)⟩
end DE
end Go.Proofs.YtodhjjeagmjhdaaGreatDoor
namespace Go.Proofs.YtodhjjeagmjhdaaGreatDoor
open Go.RowKit
attribute [local go_sem ↓] Go.wp_at_zero Go.wp_at_succ
namespace DE
open Go.Proofs.YtodhjjeagmjhdaaGreatDoor.ST
theorem flat_set {E : Type} (f : E -> List Value) (sz : Nat) (hf : ∀ e,(f e).length = sz) (x : Value) (y : E) : ∀ (l : List E) (i k : Nat) (z : E),l[i]? = some z -> k < sz -> (f z).set k x = f y -> (l.flatMap f).set (i * sz + k) x = (l.set i y).flatMap f := by
 intro l
 induction l with
 | nil=>intro i k z h; simp at h
 | cons a l ih =>
  intro i k z h hk hy
  cases i with
  | zero =>
   simp only [List.getElem?_cons_zero,Option.some.injEq] at h
   subst h
   rw [Nat.zero_mul,Nat.zero_add,List.flatMap_cons,List.set_append_left _ _ (by rw [hf]; exact hk),hy]
   rfl
  | succ i =>
   rw [List.getElem?_cons_succ] at h
   have e1 : (i + 1) * sz + k = sz + (i * sz + k) := by rw [Nat.succ_mul]; omega
   rw [List.flatMap_cons,List.set_append_right _ _ (by rw [hf,e1]; omega),hf,e1,Nat.add_sub_cancel_left,ih i k z h hk hy]
   rfl
theorem own_setS {W : World} {base e sz n g cap z : Nat} {vs : List Value} {x : Value} (h : W.ownsRow base e sz (.slice (some ⟨g,0,none⟩) n cap) n vs) : (W.setCell ⟨g,z,none⟩ x).ownsRow base e sz (.slice (some ⟨g,0,none⟩) n cap) n (vs.set z x) := by
 refine ⟨by simpa using h.1,?_⟩
 rcases h.2 with ⟨h',_⟩ | ⟨g',cap',cur,h',hb,hg,hnc,hcm,hcs,htake⟩
 ·simp at h'
 ·simp only [Value.slice.injEq,Option.some.injEq,Addr.mk.injEq,and_true,true_and] at h'
  obtain ⟨rfl,rfl⟩ := h'
  refine .inr ⟨g,cap,cur.setIfInBounds z x,rfl,hb,?_,hnc,hcm,by simpa using hcs,?_⟩
  ·simp only [World.setCell,Array.getElem?_modify]
   rw [if_pos trivial,hg]
   rfl
  ·rw [<- htake]
   simp [List.take_set]
theorem own_list {W : World} {base e sz n : Nat} {v : Value} {xs : List Value} (h : W.ownsRow base e sz v n xs) (hn : n ≠ 0) : ∃ g cap cur,v = .slice (some ⟨g,0,none⟩) n cap /\ base <= g /\ W.heap[g]? = some (.cells cur e (0,0)) := by
 rcases h.2 with ⟨_,e1⟩ | ⟨g,cap,cur,e1,e2,e3,-⟩
 ·exact absurd e1 hn
 ·exact ⟨g,cap,cur,e1,e2,e3⟩
theorem kt_set {w : World} {g j : Nat} {u : Value} {c : Array Value} {t0 : TypeId} (h : w.heap[g]? = some (.cells c t0 (0,0))) (ht0 : t0 = 97 ∨ t0 = 95 ∨ t0 = 28 ∨ t0 = 3) : KT w (w.setCell ⟨g,j,none⟩ u) := fun k cur t hk _ h2 h3 h4 h5=>by
 rw [Below.heap_setCell _ _ _ _ (fun e=>?_)]
 ·exact hk
 ·have e' : k = g := e
  subst e'
  rw [h] at hk
  simp only [Option.some.injEq,Obj.cells.injEq] at hk
  rcases ht0 with q | q | q | q
  ·exact h2 (hk.2.1.symm.trans q)
  ·exact h3 (hk.2.1.symm.trans q)
  ·exact h4 (hk.2.1.symm.trans q)
  ·exact h5 (hk.2.1.symm.trans q)
theorem heap_set_ty {w : World} {g b j : Nat} {u : Value} {c c' : Array Value} {t t' : TypeId} (h : w.heap[g]? = some (.cells c t (0,0))) (hb : w.heap[b]? = some (.cells c' t' (0,0))) (ht : t' ≠ t) : (w.setCell ⟨g,j,none⟩ u).heap[b]? = some (.cells c' t' (0,0)) := by
 rw [Below.heap_setCell _ _ _ _ (fun e=>?_)]
 ·exact hb
 ·have e' : b = g := e
  subst e'
  rw [h] at hb
  simp only [Option.some.injEq,Obj.cells.injEq] at hb
  exact ht hb.2.1.symm
theorem own_player {B base b : Nat} {s : Stt} {w : World} (h : Own base w b s) (hB : B <= base) (hb : B <= b) (i : Nat) (hi : i < s.ps.length) : ∃ g cap vc vz,OwnC w b (.slice (some ⟨g,0,none⟩) s.ps.length cap) vc vz s /\ (∀ w1,Up w w1 -> (w1.cell? ⟨g,i * 3,none⟩ = some (.int .i32 (s.ps.getD i dp).life) /\ w1.cell? ⟨g,i * 3 + 1,none⟩ = some (.int .i32 (s.ps.getD i dp).energy) /\ w1.cell? ⟨g,i * 3 + 2,none⟩ = some (.bool (s.ps.getD i dp).out)) /\ (∀ j,w1.frozen? ⟨g,j,none⟩ = false) /\ g ≠ b) /\
  ∀ k x p',k < 3 -> (pv (s.ps.getD i dp)).set k x = pv p' -> ∀ w1,Up w w1 -> Did B base b { s with ps := s.ps.set i p' } w (w1.setCell ⟨g,i * 3 + k,none⟩ x) := by
 have hlt := h.lt
 obtain ⟨vp,vc,vz,h1,h2⟩ := h
 obtain ⟨vp',vc',vz',hv,p1,p2,vs,p3,p4,p5⟩ := h2
 unfold sv at hv
 simp only [Value.agg.injEq,Array.mk.injEq,List.cons.injEq,and_true] at hv
 obtain ⟨rfl,rfl,rfl⟩ := hv
 obtain ⟨g,cap,cur,rfl,hg,hgc⟩ := own_list p1 (by omega)
 have hgb : g ≠ b := fun e=>by
  subst e
  unfold OwnC at h1
  rw [h1] at hgc
  simp at hgc
 refine ⟨g,cap,vc,vz,h1,fun w1 u=>⟨?_,fun j=>by simp [World.frozen?,u.heap hgc],hgb⟩,fun k x p' hk hx w1 u=>⟨⟨_,vc,vz,heap_set_ty (u.heap hgc) (u.heap h1) (by decide),?_⟩,?_,(KT.up u).trans (kt_set (u.heap hgc) (.inl rfl))⟩⟩
 ·have r := row_up p1 u
  have key : ∀ j,j < 3 -> w1.cell? ⟨g,i * 3 + j,none⟩ = (pv (s.ps.getD i dp))[j]? := fun j hj=>by
   rw [r.cellAt _ (by omega)]
   exact flat_get pv 3 (fun _=>rfl) dp s.ps i j hi hj
  exact ⟨key 0 (by decide),key 1 (by decide),key 2 (by decide)⟩
 ·have hz : s.ps[i]? = some (s.ps.getD i dp) := by rw [List.getD_eq_getElem?_getD,List.getElem?_eq_getElem hi]; rfl
  refine ⟨_,vc,vz,rfl,?_,row_set_ty (row_up p2 u) (u.heap hgc) (by decide),vs,row_set_ty (row_up p3 u) (u.heap hgc) (by decide),fun q hq=>row_set_ty (row_up (p4 q hq) u) (u.heap hgc) (by decide),p5⟩
  have r := own_setS (z := i * 3 + k) (x := x) (row_up p1 u)
  unfold PO
  have e1 : (pvs s.ps).set (i * 3 + k) x = pvs (s.ps.set i p') := flat_set pv 3 (fun _=>rfl) x p' s.ps i k _ hz hk hx
  rw [<- e1,List.length_set]
  exact r
 ·exact Below.setCell (Below.mono u (by omega)) (by show B <= g; omega) _
theorem own_card {B base b : Nat} {s : Stt} {w : World} (h : Own base w b s) (hB : B <= base) (hb : B <= b) (i : Nat) (hi : i < s.cs.length) : ∃ g cap vp vz,OwnC w b vp (.slice (some ⟨g,0,none⟩) s.cs.length cap) vz s /\ (∀ w1,Up w w1 -> (w1.cell? ⟨g,i * 6 + 2,none⟩ = some (.int .i32 (s.cs.getD i dc).power) /\ w1.cell? ⟨g,i * 6 + 3,none⟩ = some (.int .i32 (s.cs.getD i dc).health) /\ w1.cell? ⟨g,i * 6 + 4,none⟩ = some (.int .i32 (s.cs.getD i dc).damage) /\ w1.cell? ⟨g,i * 6 + 5,none⟩ = some (.int .i32 (s.cs.getD i dc).marks)) /\ (∀ j,w1.frozen? ⟨g,j,none⟩ = false) /\ g ≠ b) /\
  ∀ k x p',k < 6 -> (cv (s.cs.getD i dc)).set k x = cv p' -> ∀ w1,Up w w1 -> Did B base b { s with cs := s.cs.set i p' } w (w1.setCell ⟨g,i * 6 + k,none⟩ x) := by
 have hlt := h.lt
 obtain ⟨vp,vc,vz,h1,h2⟩ := h
 obtain ⟨vp',vc',vz',hv,p1,p2,vs,p3,p4,p5⟩ := h2
 unfold sv at hv
 simp only [Value.agg.injEq,Array.mk.injEq,List.cons.injEq,and_true] at hv
 obtain ⟨rfl,rfl,rfl⟩ := hv
 obtain ⟨g,cap,cur,rfl,hg,hgc⟩ := own_list p2 (by omega)
 have hgb : g ≠ b := fun e=>by
  subst e
  unfold OwnC at h1
  rw [h1] at hgc
  simp at hgc
 refine ⟨g,cap,vp,vz,h1,fun w1 u=>⟨?_,fun j=>by simp [World.frozen?,u.heap hgc],hgb⟩,fun k x p' hk hx w1 u=>⟨⟨vp,_,vz,heap_set_ty (u.heap hgc) (u.heap h1) (by decide),?_⟩,?_,(KT.up u).trans (kt_set (u.heap hgc) (.inr (.inl rfl)))⟩⟩
 ·have r := row_up p2 u
  have key : ∀ j,j < 6 -> w1.cell? ⟨g,i * 6 + j,none⟩ = (cv (s.cs.getD i dc))[j]? := fun j hj=>by
   rw [r.cellAt _ (by omega)]
   exact flat_get cv 6 (fun _=>rfl) dc s.cs i j hi hj
  exact ⟨key 2 (by decide),key 3 (by decide),key 4 (by decide),key 5 (by decide)⟩
 ·have hz : s.cs[i]? = some (s.cs.getD i dc) := by rw [List.getD_eq_getElem?_getD,List.getElem?_eq_getElem hi]; rfl
  refine ⟨vp,_,vz,rfl,row_set_ty (row_up p1 u) (u.heap hgc) (by decide),?_,vs,row_set_ty (row_up p3 u) (u.heap hgc) (by decide),fun q hq=>row_set_ty (row_up (p4 q hq) u) (u.heap hgc) (by decide),p5⟩
  have r := own_setS (z := i * 6 + k) (x := x) (row_up p2 u)
  unfold CO
  have e1 : (cvs s.cs).set (i * 6 + k) x = cvs (s.cs.set i p') := flat_set cv 6 (fun _=>rfl) x p' s.cs i k _ hz hk hx
  rw [<- e1,List.length_set]
  exact r
 ·exact Below.setCell (Below.mono u (by omega)) (by show B <= g; omega) _
end DE
end Go.Proofs.YtodhjjeagmjhdaaGreatDoor
