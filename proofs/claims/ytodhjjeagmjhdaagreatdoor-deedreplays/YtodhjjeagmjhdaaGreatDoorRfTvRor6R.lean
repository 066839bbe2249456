/- Rf, Sk6, Ror6 -/
import Derived.Test.YtodhjjeagmjhdaaGreatDoorSzTvRl6R
namespace Go.Proofs.YtodhjjeagmjhdaaGreatDoor
open Go.RowKit
attribute [local go_sem ↓] Go.wp_at_zero Go.wp_at_succ
namespace ST
def fromB (x lo hi : Int) : Bool := decide (lo <= x) && decide (x <= hi)
theorem from_num (x : Int) (n : Nat) : fromB x 0 ((n : Int) - 1) = numB x n := by
 simp only [fromB,numB]
 congr 1
 apply decide_eq_decide.2
 omega
set_option maxHeartbeats 1000000 in
theorem rfrom_ (x lo hi : Int) (w : World) : Calls Tryz.prog 199 #[.int .i64 x,.int .i64 lo,.int .i64 hi] w fun e w'=>e = .returned (.bool (fromB x lo hi)) /\ w' = w := by
 by_cases h1 : lo <= x
 ·by_cases h2 : x <= hi
  ·go_enter Tryz.func199,Tryz.ntmps199
   go_wp2
   go_ret
   exact ⟨by simp [fromB,h1,h2],rfl⟩
  ·go_enter Tryz.func199,Tryz.ntmps199
   go_wp2
   go_ret
   exact ⟨by simp [fromB]; omega,rfl⟩
 ·go_enter Tryz.func199,Tryz.ntmps199
  go_wp2
  go_ret
  exact ⟨by simp [fromB]; omega,rfl⟩
theorem rfromB (x lo hi : Int) (b : Bool) (h : fromB x lo hi = b) (w : World) : Calls Tryz.prog 199 #[.int .i64 x,.int .i64 lo,.int .i64 hi] w fun e w'=>e = .returned (.bool b) /\ w' = w := by subst h; exact rfrom_ x lo hi w
set_option maxHeartbeats 1000000 in
theorem rStat_ (n : Int) (w : World) : Calls Tryz.prog 200 #[.int .i32 n] w fun e w'=>e = .returned (.bool (statB n)) /\ w' = w := by
 by_cases h1 : -1000000000 <= n
 ·by_cases h2 : n <= 1000000000
  ·go_enter Tryz.func200,Tryz.ntmps200
   go_wp2
   go_ret
   exact ⟨by simp [statB,h1,h2],rfl⟩
  ·go_enter Tryz.func200,Tryz.ntmps200
   go_wp2
   go_ret
   exact ⟨by simp [statB]; omega,rfl⟩
 ·go_enter Tryz.func200,Tryz.ntmps200
  go_wp2
  go_ret
  exact ⟨by simp [statB]; omega,rfl⟩
theorem rStatB (n : Int) (b : Bool) (h : statB n = b) (w : World) : Calls Tryz.prog 200 #[.int .i32 n] w fun e w'=>e = .returned (.bool b) /\ w' = w := by subst h; exact rStat_ n w
theorem crd_ref (c : Crd) (n : Nat) : crdB n c = (fromB c.kind 0 255 && fromB c.owner 0 ((n : Int) - 1) && statB c.power && statB c.health && statB c.damage && statB c.marks) := by
 rw [from_num]
 have e : fromB c.kind 0 255 = numB c.kind 256 := from_num c.kind 256
 rw [e,crdB,crd0B]
 cases numB c.kind 256 <;> cases numB c.owner n <;> cases statB c.power <;> cases statB c.health <;> cases statB c.damage <;> cases statB c.marks <;> rfl
set_option maxHeartbeats 4000000 in
theorem rcard_ (c : Crd) (n : Nat) (hn : n <= 4294967296) (w : World) : Calls Tryz.prog 201 #[cag c,.int .i64 n] w fun e w'=>e = .returned (.bool (crdB n c)) /\ Up w w' := by
 obtain ⟨R,hR⟩ : ∃ R,R = crdB n c := ⟨_,rfl⟩
 rw [<- hR]
 have HR : Hid (R = (fromB c.kind 0 255 && fromB c.owner 0 ((n : Int) - 1) && statB c.power && statB c.health && statB c.damage && statB c.marks)) := by unfold Hid; rw [hR,crd_ref]
 clear hR
 unfold cag
 cases h0 : fromB c.kind 0 255
 ·go_enter Tryz.func201,Tryz.ntmps201
  go_wp2_with fail
  refine Calls.mono (rfromB _ 0 255 false h0 _) ?_
  rintro e w1 ⟨rfl,rfl⟩
  go_wp2
  go_ret
  exact ⟨by rw [HR.out]; simp [h0],(Up.refl _).alloc _⟩
 ·cases h1 : fromB c.owner 0 ((n : Int) - 1)
  ·go_enter Tryz.func201,Tryz.ntmps201
   go_wp2_with fail
   refine Calls.mono (rfromB _ 0 255 true h0 _) ?_
   rintro e w1 ⟨rfl,rfl⟩
   go_wp2_with fail
   refine Calls.mono (rfromB _ 0 _ false h1 _) ?_
   rintro e w2 ⟨rfl,rfl⟩
   go_wp2
   go_ret
   exact ⟨by rw [HR.out]; simp [h1],(Up.refl _).alloc _⟩
  ·cases h2 : statB c.power
   ·go_enter Tryz.func201,Tryz.ntmps201
    go_wp2_with fail
    refine Calls.mono (rfromB _ 0 255 true h0 _) ?_
    rintro e w1 ⟨rfl,rfl⟩
    go_wp2_with fail
    refine Calls.mono (rfromB _ 0 _ true h1 _) ?_
    rintro e w2 ⟨rfl,rfl⟩
    go_wp2_with fail
    refine Calls.mono (rStatB _ false h2 _) ?_
    rintro e w3 ⟨rfl,rfl⟩
    go_wp2
    go_ret
    exact ⟨by rw [HR.out]; simp [h2],(Up.refl _).alloc _⟩
   ·cases h3 : statB c.health
    ·go_enter Tryz.func201,Tryz.ntmps201
     go_wp2_with fail
     refine Calls.mono (rfromB _ 0 255 true h0 _) ?_
     rintro e w1 ⟨rfl,rfl⟩
     go_wp2_with fail
     refine Calls.mono (rfromB _ 0 _ true h1 _) ?_
     rintro e w2 ⟨rfl,rfl⟩
     go_wp2_with fail
     refine Calls.mono (rStatB _ true h2 _) ?_
     rintro e w3 ⟨rfl,rfl⟩
     go_wp2_with fail
     refine Calls.mono (rStatB _ false h3 _) ?_
     rintro e w4 ⟨rfl,rfl⟩
     go_wp2
     go_ret
     exact ⟨by rw [HR.out]; simp [h3],(Up.refl _).alloc _⟩
    ·cases h4 : statB c.damage
     ·go_enter Tryz.func201,Tryz.ntmps201
      go_wp2_with fail
      refine Calls.mono (rfromB _ 0 255 true h0 _) ?_
      rintro e w1 ⟨rfl,rfl⟩
      go_wp2_with fail
      refine Calls.mono (rfromB _ 0 _ true h1 _) ?_
      rintro e w2 ⟨rfl,rfl⟩
      go_wp2_with fail
      refine Calls.mono (rStatB _ true h2 _) ?_
      rintro e w3 ⟨rfl,rfl⟩
      go_wp2_with fail
      refine Calls.mono (rStatB _ true h3 _) ?_
      rintro e w4 ⟨rfl,rfl⟩
      go_wp2_with fail
      refine Calls.mono (rStatB _ false h4 _) ?_
      rintro e w5 ⟨rfl,rfl⟩
      go_wp2
      go_ret
      exact ⟨by rw [HR.out]; simp [h4],(Up.refl _).alloc _⟩
     ·cases h5 : statB c.marks
      ·go_enter Tryz.func201,Tryz.ntmps201
       go_wp2_with fail
       refine Calls.mono (rfromB _ 0 255 true h0 _) ?_
       rintro e w1 ⟨rfl,rfl⟩
       go_wp2_with fail
       refine Calls.mono (rfromB _ 0 _ true h1 _) ?_
       rintro e w2 ⟨rfl,rfl⟩
       go_wp2_with fail
       refine Calls.mono (rStatB _ true h2 _) ?_
       rintro e w3 ⟨rfl,rfl⟩
       go_wp2_with fail
       refine Calls.mono (rStatB _ true h3 _) ?_
       rintro e w4 ⟨rfl,rfl⟩
       go_wp2_with fail
       refine Calls.mono (rStatB _ true h4 _) ?_
       rintro e w5 ⟨rfl,rfl⟩
       go_wp2_with fail
       refine Calls.mono (rStatB _ false h5 _) ?_
       rintro e w6 ⟨rfl,rfl⟩
       go_wp2
       go_ret
       exact ⟨by rw [HR.out]; simp [h5],(Up.refl _).alloc _⟩
      ·go_enter Tryz.func201,Tryz.ntmps201
       go_wp2_with fail
       refine Calls.mono (rfromB _ 0 255 true h0 _) ?_
       rintro e w1 ⟨rfl,rfl⟩
       go_wp2_with fail
       refine Calls.mono (rfromB _ 0 _ true h1 _) ?_
       rintro e w2 ⟨rfl,rfl⟩
       go_wp2_with fail
       refine Calls.mono (rStatB _ true h2 _) ?_
       rintro e w3 ⟨rfl,rfl⟩
       go_wp2_with fail
       refine Calls.mono (rStatB _ true h3 _) ?_
       rintro e w4 ⟨rfl,rfl⟩
       go_wp2_with fail
       refine Calls.mono (rStatB _ true h4 _) ?_
       rintro e w5 ⟨rfl,rfl⟩
       go_wp2_with fail
       refine Calls.mono (rStatB _ true h5 _) ?_
       rintro e w6 ⟨rfl,rfl⟩
       go_wp2
       go_ret
       exact ⟨by rw [HR.out]; simp [h0,h1,h2,h3,h4,h5],(Up.refl _).alloc _⟩
theorem off_le9 (zs : List (List Int)) (z : Nat) : (zs.take z).flatten.length <= zs.flatten.length := by
 have : zs.flatten = (zs.take z).flatten ++ (zs.drop z).flatten := by rw [<- List.flatten_append,List.take_append_drop]
 rw [this,List.length_append]
 omega
theorem ivs_app9 (a b : List Int) : ivs (a ++ b) = ivs a ++ ivs b := by simp [ivs]
theorem off_flat (zs : List (List Int)) (i : Nat) (hi : i < zs.length) : (zs.take (i + 1)).flatten = (zs.take i).flatten ++ zs.getD i [] := by
 rw [List.take_add_one,List.getElem?_eq_getElem hi,List.flatten_append,List.getD_eq_getElem?_getD,List.getElem?_eq_getElem hi]
 simp
set_option maxRecDepth 100000 in
set_option maxHeartbeats 4000000 in
theorem entries_ (v : Value) (s : Stt) (w : World) (hs : StL w v s) (hz : s.zs.length <= 4294967296) (hfl : (flat s).length <= 4294967296) (hl : ∀ r,r < s.zs.length -> (s.zs.getD r []).length <= 4294967296) :
  Calls Tryz.prog 202 #[v] w (CpPost w fun W v'=>IRow w.heap.size W v' (flat s)) := by
 obtain ⟨iT,hiT,i0,i1,i2⟩ := info_parts infoI
 obtain ⟨Post,hPost⟩ : ∃ P : Ending -> World -> Prop,P = CpPost w fun W v'=>IRow w.heap.size W v' (flat s) := ⟨_,rfl⟩
 rw [<- hPost]
 have HP : Hid (Post = CpPost w fun W v'=>IRow w.heap.size W v' (flat s)) := hPost
 obtain ⟨vp,vc,vz,rfl,-,-,h3⟩ := hs
 obtain ⟨a3,k3,rfl,-,c3⟩ := zl_at h3
 have HC : Hid _ := c3
 have HL : Hid _ := hl
 have HFl : Hid (∀ i,i < s.zs.length -> (s.zs.take i).flatten.length + (s.zs.getD i []).length <= 4294967296) := fun i hi=>by
  have h1 := flat_next s.zs i hi
  have h2 := off_le9 s.zs (i + 1)
  unfold flat at hfl
  omega
 obtain ⟨n,hn0⟩ : ∃ n,n = s.zs.length := ⟨_,rfl⟩
 have HN : Hid (n = s.zs.length) := hn0
 rw [<- hn0] at hz HC HL HFl ⊢
 clear hPost h3 c3 hl hfl hn0
 unfold sv
 obtain ⟨W0,hW0⟩ : ∃ W,W = w.alloc (.cells #[vp,vc,.slice a3 n k3,.int .i32 s.turn,.int .i64 s.whose,.int .i8 s.fin,.int .i64 s.winner] 27) := ⟨_,rfl⟩
 have HW0 : Hid (Up w W0 /\ W0.heap[w.heap.size]? = some (.cells #[vp,vc,.slice a3 n k3,.int .i32 s.turn,.int .i64 s.whose,.int .i8 s.fin,.int .i64 s.winner] 27 (0,0)) /\ W0.heap.size = w.heap.size + 1) := ⟨by rw [hW0]; exact (Up.refl _).alloc _,by rw [hW0]; exact heap_alloc_new w _,by rw [hW0]; simp⟩
 go_enter Tryz.func202,Tryz.ntmps202
 go_wp2_with fail
 rw [<- hW0]
 clear hW0
 go_loopw [3,4] (fun s3 s4 W=>∃ (i : Nat) (va : Option Addr) (vk : Nat),i <= n /\ s4 = .int .i64 i /\ s3 = .slice va (s.zs.take i).flatten.length vk /\ W.ownsRow W0.heap.size 3 1 (.slice va (s.zs.take i).flatten.length vk) (s.zs.take i).flatten.length (ivs (s.zs.take i).flatten) /\ Up W0 W) (fun _ s4 _=>n - (intOf s4).toNat)
 case atStart=>exact ⟨0,none,0,Nat.zero_le _,rfl,rfl,World.ownsRow_nil _ _ _ _,Up.refl _⟩
 case round =>
  obtain ⟨i,va,vk,hi,rfl,rfl,hz9,hu⟩ := hrel
  have HZ : Hid _ := hz9
  have HU : Hid (Up W0 wr) := hu
  clear hz9 hu
  have y2 : wr.cell? ⟨w.heap.size,2,none⟩ = some (.slice a3 n k3) := HU.out.cell (seven_cells HW0.out.2.1).2.2.1
  by_cases hlt : i < n
  ·have hlt2 : (i : Int) < (n : Int) := by omega
   obtain ⟨b3,o3,rfl,hrow⟩ := HC.out (by omega)
   obtain ⟨ra,rc,hcell,hil⟩ := hrow i hlt
   have x1 := hcell wr (HW0.out.1.trans HU.out)
   have hb := HFl.out i hlt
   have HIL : Hid (LC wr (.slice ra (s.zs.getD i []).length rc) 1 (s.zs.getD i []).length (ivs (s.zs.getD i []))) := hil.up (HW0.out.1.trans HU.out)
   have HOf : Hid ((s.zs.take (i + 1)).flatten = (s.zs.take i).flatten ++ s.zs.getD i []) := off_flat s.zs i (by rw [<- HN.out]; exact hlt)
   clear hcell hrow hil
   generalize s.zs.getD i [] = r at x1 hb HIL HOf
   generalize (s.zs.take i).flatten = p at hb HOf HZ ⊢
   have HSz : Hid (W0.heap.size <= wr.heap.size) := HU.out.size
   go_wp2_with (at_builtin; (refine wpList_append_lc (by rfl) (.tmp 12) (.tmp 17) 28 (by rfl) W0.heap.size 3 iT (.int .i64 0) 1 8 Tryz.underlying28 hiT i0 i1 i2 (by rfl) (by decide) (.slice va p.length vk) p.length (ivs p) (by rfl) HZ.out (.slice ra r.length rc) r.length (ivs r) (by rfl) HIL.out (ivs_one _) (by unfold maxLen; omega) (by omega) HSz.out ?_; intro v5 w5 hin hg1; have u5 : Up W0 w5 := (by refine Below.grown HU.out hg1 HSz.out ?_; intro k hk; exact (World.ownsRow.lt HZ.out k hk).1); obtain ⟨xa5,xk5,hx5⟩ := row_val hin; have HI5 : Hid (w5.ownsRow W0.heap.size 3 1 v5 (p.length + r.length) (ivs (p ++ r)) /\ Up W0 w5) := (by refine ⟨?_,u5⟩; rw [ivs_app9]; exact hin); subst hx5; clear hin hg1 u5))
   go_roundw
   case rel =>
    refine ⟨i + 1,xa5,xk5,by omega,by go_num,?_,?_,HI5.out.2⟩
    ·rw [HOf.out,List.length_append]
    ·rw [HOf.out,List.length_append]; exact HI5.out.1
   case measure=>simp [intOf]; omega
  ·have hlt2 : ¬ (i : Int) < (n : Int) := by omega
   have hfl : (s.zs.take i).flatten = flat s := by rw [List.take_of_length_le (by rw [<- HN.out]; omega)]; rfl
   rw [hfl] at HZ ⊢
   clear hfl
   go_wp2
   rw [HP.out]
   exact ⟨_,rfl,own_less HZ.out (by rw [HW0.out.2.2]; omega),HW0.out.1.trans HU.out⟩
end ST
namespace DE
open Go.Proofs.YtodhjjeagmjhdaaGreatDoor.ST
def seenL (l : List Int) (k n : Nat) : List Value := (List.range n).map fun j : Nat=>Value.bool (decide ((j : Int) ∈ l.take k))
theorem seenL_len (l : List Int) (k n : Nat) : (seenL l k n).length = n := by simp [seenL]
theorem seenL_get (l : List Int) (k n j : Nat) (hj : j < n) : (seenL l k n)[j]? = some (.bool (decide ((j : Int) ∈ l.take k))) := by simp [seenL,hj]
theorem seenL_set (l : List Int) (k n e : Nat) (he : l[k]? = some (e : Int)) : (seenL l k n).set e (.bool true) = seenL l (k + 1) n := by
 apply List.ext_getElem?
 intro j
 by_cases hj : j < n
 ·rw [seenL_get _ _ _ _ hj]
  have ht : l.take (k + 1) = l.take k ++ [(e : Int)] := by rw [List.take_add_one,he]; rfl
  by_cases h : e = j
  ·subst h
   rw [List.getElem?_set_self (by rw [seenL_len]; exact hj),ht]
   simp
  ·rw [List.getElem?_set_ne h,seenL_get _ _ _ _ hj,ht]
   have : ((j : Int) ∈ l.take k ++ [(e : Int)]) ↔ (j : Int) ∈ l.take k := by simp; omega
   simp [this]
 ·rw [List.getElem?_eq_none (by rw [List.length_set,seenL_len]; omega),List.getElem?_eq_none (by rw [seenL_len]; omega)]
theorem seenL_zero (l : List Int) (n : Nat) : seenL l 0 n = List.replicate n (.bool false) := by
 apply List.ext_getElem?
 intro j
 by_cases hj : j < n
 ·rw [seenL_get _ _ _ _ hj]
  simp [hj]
 ·rw [List.getElem?_eq_none (by rw [seenL_len]; omega),List.getElem?_eq_none (by simp; omega)]
theorem infoB6 : (Tryz.prog.info? 4).map (fun i=>(i.zero,i.size,i.bytes)) = some (some (.bool false),1,1) := by kernel_rfl
def ROI (w W : World) (g m : Nat) (l : List Int) (k : Nat) : Prop := W.heap[g]? = some (.cells (seenL l k m).toArray 4 (0,0)) /\ Up w W /\ ∀ j,j < k -> okAt m l j = true
set_option maxRecDepth 100000 in
set_option maxHeartbeats 4000000 in
theorem rorder_ (v : Value) (l : List Int) (m : Nat) (w : World) (hv : IL w v l) (hm : m <= 256) : Calls Tryz.prog 172 #[v,.int .i64 m] w fun r w'=>r = .returned (.bool (ordB m l)) /\ Up w w' := by
 obtain ⟨iT,hiT,z0,z1,z2⟩ := info_parts infoB6
 obtain ⟨a,c,rfl,hc,hcl⟩ := il_at hv
 obtain ⟨n,hn0⟩ : ∃ n,n = l.length := ⟨_,rfl⟩
 have HN : Hid (n = l.length) := hn0
 have HC : Hid _ := hcl
 obtain ⟨R,hR⟩ : ∃ R,R = ordB m l := ⟨_,rfl⟩
 have HR : Hid (R = ordB m l) := hR
 have HNU : Hid (∀ (y : Int) (W : World),Calls Tryz.prog 103 #[.int .i64 y,.int .i64 m] W fun e w'=>e = .returned (.bool (numB y m)) /\ w' = W) := fun y W=>ris_ y m W
 rw [<- hR]
 rw [<- hn0] at hc HC ⊢
 by_cases hnm : n = m
 ·have hl : l.length = m := by rw [<- hn0]; exact hnm
  subst hnm
  have f9 : ((n : Int) == (n : Int)) = true := by simp
  clear hv hcl hn0 hR
  go_enter Tryz.func172,Tryz.ntmps172
  go_wp2_with (at_make; refine wpList_make_full _ rfl _ _ 179 rfl w.heap.size 4 iT (.bool false) 1 Tryz.underlying179 hiT z0 z1 .i64 .i64 _ _ n rfl rfl rfl rfl (by rw [z2]; omega) (by unfold maxLen; omega) (by simp) ?_; intro w1 hin hg1; have uu := made_up hg1; have HM : Hid _ := And.intro uu hin; clear hin hg1 uu)
  obtain ⟨uu,hin⟩ := HM.out
  have hrow := row_made hin
  rw [show (madeCells (Value.bool false).cells (n * 1)).toList = List.replicate n (Value.bool false) from by rw [Nat.mul_one]; exact toList_madeCells_one _ _,<- seenL_zero l n] at hrow
  obtain ⟨g,hg⟩ : ∃ g,g = w.heap.size := ⟨_,rfl⟩
  have HI : Hid (ROI w w1 g n l 0) := ⟨by rw [hg]; exact hrow,uu,fun j hj=>absurd hj (Nat.not_lt_zero j)⟩
  have HG : Hid (g = w.heap.size) := hg
  rw [<- hg]
  clear hg hin hrow uu HM
  go_loopw [6] (fun s6 W=>∃ i : Nat,i <= n /\ s6 = .int .i64 i /\ ROI w W g n l i) (fun s6 _=>n - (intOf s6).toNat)
  case atStart=>exact ⟨0,Nat.zero_le _,rfl,HI.out⟩
  case round =>
   clear HI
   obtain ⟨i,hi,rfl,hoi⟩ := hrel
   have HO : Hid _ := hoi
   obtain ⟨o1,o2,o3⟩ := hoi
   by_cases hlt : i < n
   ·have hlt2 : (i : Int) < (n : Int) := by omega
    have hil : i < l.length := by rw [<- HN.out]; exact hlt
    obtain ⟨b,off,rfl,hcc⟩ := HC.out (by omega)
    have x0 := hcc wr o2 i hlt
    obtain ⟨y,hy⟩ : ∃ y,y = l.getD i 0 := ⟨_,rfl⟩
    rw [<- hy] at x0
    have hok := ok_next (m := n) hil hy
    have HNy : Hid _ := HNU.out y
    have HUw : Hid (Up w wr) := o2
    have bad : okAt n l i = false -> R = false := fun hb=>by
     rw [HR.out,ordB]
     have : (List.range l.length).all (okAt n l) = false := by
      rw [List.all_eq_false]
      exact ⟨i,List.mem_range.2 hil,by rw [hb]; simp⟩
     rw [this,Bool.and_false]
    cases hn1 : numB y n
    ·rw [hn1] at HNy
     have hF : R = false := bad (by rw [hok,hn1,Bool.false_and])
     subst hF
     clear hcc hy hok bad hn1 o1 o2 o3 HO
     go_wp2_with fail
     refine Calls.mono (HNy.out _) ?_
     rintro r w1 ⟨rfl,rfl⟩
     go_wp2
     go_ret
     exact ⟨rfl,HUw.out⟩
    ·rw [hn1] at HNy
     obtain ⟨e,rfl,he⟩ := num_nat hn1
     have sc : wr.cell? ⟨g,e,none⟩ = some (.bool (decide ((e : Int) ∈ l.take i))) := by
      rw [World.cell?,o1]
      have := seenL_get l i n e he
      simpa using this
     have sf : wr.frozen? ⟨g,e,none⟩ = false := by simp [World.frozen?,o1]
     have he2 : (e : Int) < (n : Int) := by omega
     cases hmem : decide ((e : Int) ∈ l.take i)
     ·rw [hmem] at sc
      have hget : l[i]? = some (e : Int) := by
       rw [List.getElem?_eq_getElem hil]
       rw [List.getD_eq_getElem?_getD,List.getElem?_eq_getElem hil] at hy
       rw [hy]; rfl
      have HS : Hid (ROI w (wr.setCell ⟨g,e,none⟩ (.bool true)) g n l (i + 1)) := by
       refine ⟨?_,Up.set o2 _ _ (by rw [HG.out]; exact Nat.le_refl _),fun j hj=>?_⟩
       ·have h9 := set_cells (j := e) (x := .bool true) o1
        rw [h9,List.setIfInBounds_toArray,seenL_set _ _ _ _ hget]
       ·by_cases ej : j = i
        ·subst ej
         rw [hok,hn1,hmem]
         rfl
        ·exact o3 j (by omega)
      clear hcc hy hok bad hn1 hmem o1 o2 o3 HO hget
      go_wp2_with fail
      refine Calls.mono (HNy.out _) ?_
      rintro r w1 ⟨rfl,rfl⟩
      go_wp2_with fail
      go_roundw
      case rel=>exact ⟨i + 1,by omega,by go_num,HS.out⟩
      case measure=>simp [intOf] <;> omega
     ·rw [hmem] at sc
      have hF : R = false := bad (by rw [hok,hn1,hmem]; rfl)
      subst hF
      clear hcc hy hok bad hn1 hmem o1 o2 o3 HO
      go_wp2_with fail
      refine Calls.mono (HNy.out _) ?_
      rintro r w1 ⟨rfl,rfl⟩
      go_wp2
      go_ret
      exact ⟨rfl,HUw.out⟩
   ·have hlt2 : ¬ (i : Int) < (n : Int) := by omega
    have hT : R = true := by
     rw [HR.out,ordB,decide_eq_true hl,Bool.true_and,List.all_eq_true]
     intro j hj
     exact o3 j (by have := List.mem_range.1 hj; omega)
    subst hT
    have HUw : Hid (Up w wr) := o2
    clear o1 o2 o3 HO
    go_wp2
    go_ret
    exact ⟨rfl,HUw.out⟩
 ·have hF : R = false := by
   rw [hR,ordB,decide_eq_false (by rw [<- hn0]; exact hnm),Bool.false_and]
  subst hF
  have f9 : ((n : Int) == (m : Int)) = false := beq_eq_false_iff_ne.2 (by omega)
  clear hv hcl hn0 hR HR HC
  go_enter Tryz.func172,Tryz.ntmps172
  go_wp2
  go_ret
  exact ⟨rfl,Up.refl _⟩
end DE
end Go.Proofs.YtodhjjeagmjhdaaGreatDoor
