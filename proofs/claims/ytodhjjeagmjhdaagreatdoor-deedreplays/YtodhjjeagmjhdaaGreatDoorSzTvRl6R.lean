/- Sz, Ze6, Eg, Wn, Csa6, Rl6 -/
import Derived.Test.YtodhjjeagmjhdaaGreatDoorEl6TvRug6R
namespace Go.Proofs.YtodhjjeagmjhdaaGreatDoor
open Go.RowKit
attribute [local go_sem ↓] Go.wp_at_zero Go.wp_at_succ
namespace ST
def szF : List (List Int) -> Nat -> Nat
 | [],n=>n
 | l :: zs,n=>if n <= 2147483647 then szF zs (n + l.length) else n
theorem szF_is : ∀ (zs : List (List Int)) (n : Nat),szF zs n = n + zs.flatten.length ∨ 2147483647 < szF zs n /\ szF zs n <= n + zs.flatten.length := by
 intro zs
 induction zs with
 | nil=>intro n; left; simp [szF]
 | cons l zs ih =>
  intro n
  simp only [szF,List.flatten_cons,List.length_append]
  split
  ·rcases ih (n + l.length) with h | h
   ·left; omega
   ·right; omega
  ·right; omega
def Near (zs : List (List Int)) : Prop := zs.length <= 140737488355328 /\ ∀ r,r < zs.length -> (zs.getD r []).length <= 140737488355328
theorem szF_le : ∀ (zs : List (List Int)) (n : Nat),(∀ r,r < zs.length -> (zs.getD r []).length <= 140737488355328) -> n <= 281474976710656 -> szF zs n <= 281474976710656 := by
 intro zs
 induction zs with
 | nil=>intro n _ h; exact h
 | cons l zs ih =>
  intro n h hn
  simp only [szF]
  split
  ·have := h 0 (by simp)
   simp at this
   exact ih _ (fun r hr=>by have := h (r + 1) (by simpa using hr); simpa using this) (by omega)
  ·exact hn
set_option maxRecDepth 100000 in
set_option maxHeartbeats 2000000 in
theorem sizeRows_ (v : Value) (zs : List (List Int)) (w : World) (hv : ZL w v zs) (hn : Near zs) :
  Calls Tryz.prog 97 #[v] w fun e w'=>e = .returned (.int .i64 (szF zs zs.length : Nat)) /\ w' = w := by
 obtain ⟨a3,k3,rfl,-,c3⟩ := zl_at hv
 obtain ⟨hn1,hl⟩ := hn
 obtain ⟨n,hn0⟩ : ∃ n,n = zs.length := ⟨_,rfl⟩
 obtain ⟨R,hR⟩ : ∃ R,R = szF zs zs.length := ⟨_,rfl⟩
 have HR : Hid (R = szF (zs.drop 0) n) := by unfold Hid; rw [hR,hn0]; rfl
 rw [<- hR]
 rw [<- hn0] at hn1 hl c3 ⊢
 have HC : Hid _ := c3
 have HL : Hid _ := hl
 have HN : Hid (n = zs.length) := hn0
 clear hv c3 hl hn0 hR
 go_enter Tryz.func97,Tryz.ntmps97
 go_wp2_with fail
 go_loopw [3,4] (fun s3 s4 W=>∃ i m : Nat,i <= n /\ s4 = .int .i64 i /\ s3 = .int .i64 m /\ W = w /\ R = szF (zs.drop i) m) (fun _ s4 _=>n - (intOf s4).toNat)
 case atStart=>exact ⟨0,n,Nat.zero_le _,rfl,rfl,rfl,HR.out⟩
 case round =>
  obtain ⟨i,m,hi,rfl,rfl,rfl,hr⟩ := hrel
  clear HR
  have HR : Hid (R = szF (zs.drop i) m) := hr
  clear hr
  by_cases hlt : i < n
  ·have hlt2 : (i : Int) < (n : Int) := by omega
   by_cases hb : m <= 2147483647
   ·have hb2 : (m : Int) <= 2147483647 := by omega
    obtain ⟨b3,o3,rfl,hrow⟩ := HC.out (by omega)
    obtain ⟨ra,rc,hcell,-⟩ := hrow i hlt
    have x1 := hcell _ (Up.refl _)
    have hlen := HL.out i hlt
    have HF : Hid (R = szF (zs.drop (i + 1)) (m + (zs.getD i []).length)) := by
     unfold Hid
     have hz : i < zs.length := by rw [<- HN.out]; exact hlt
     rw [HR.out,List.drop_eq_getElem_cons hz,szF,if_pos hb,List.getD_eq_getElem?_getD,List.getElem?_eq_getElem hz]
     rfl
    clear hcell hrow HR
    generalize (zs.getD i []).length = q at x1 hlen HF
    go_wp2_with fail
    go_roundw
    case rel=>exact ⟨i + 1,m + q,by omega,by go_num,by go_num,by first | rfl | trivial,HF.out⟩
    case measure=>simp [intOf]; omega
   ·have hb2 : ¬ (m : Int) <= 2147483647 := by omega
    have HF : Hid (R = m) := by
     unfold Hid
     have hz : i < zs.length := by rw [<- HN.out]; exact hlt
     rw [HR.out,List.drop_eq_getElem_cons hz,szF,if_neg hb]
    clear HR
    go_wp2
    go_ret
    exact ⟨by rw [HF.out]; rfl,rfl⟩
  ·have hlt2 : ¬ (i : Int) < (n : Int) := by omega
   have HF : Hid (R = m) := by
    unfold Hid
    rw [HR.out,List.drop_of_length_le (by rw [<- HN.out]; omega)]
    rfl
   clear HR
   go_wp2
   go_ret
   exact ⟨by rw [HF.out]; rfl,rfl⟩
def Far (s : Stt) : Prop := s.ps.length <= 140737488355328 /\ s.cs.length <= 140737488355328 /\ Near s.zs
def lenS (s : Stt) : Nat := s.ps.length + s.cs.length + (s.zs.length + (flat s).length)
theorem row_flat : ∀ (zs : List (List Int)) (r : Nat),r < zs.length -> (zs.getD r []).length <= zs.flatten.length := by
 intro zs
 induction zs with
 | nil=>intro r h; simp at h
 | cons l zs ih =>
  intro r h
  rw [List.flatten_cons,List.length_append]
  cases r with
  | zero=>simp
  | succ r =>
   rw [List.getD_cons_succ]
   have := ih r (by simpa using h)
   omega
theorem small_of {s : Stt} (h : lenS s <= 2147483647) : Small s := by
 unfold lenS flat at h
 exact ⟨by omega,by omega,by omega,fun r hr=>by have := row_flat s.zs r hr; omega⟩
set_option maxRecDepth 100000 in
set_option maxHeartbeats 2000000 in
theorem sizeState_ (v : Value) (s : Stt) (w : World) (hv : StL w v s) (hn : Far s) :
  Calls Tryz.prog 39 #[v] w fun e w'=>e = .returned (.int .i64 ((s.ps.length : Int) + s.cs.length + (szF s.zs s.zs.length : Nat))) /\ Up w w' := by
 obtain ⟨vp,vc,vz,rfl,h1,h2,h3⟩ := hv
 have hle := szF_le s.zs s.zs.length hn.2.2.2 (by have := hn.2.2.1; omega)
 have HC : Hid (∀ W,Up w W -> Calls Tryz.prog 97 #[vz] W fun e w'=>e = .returned (.int .i64 (szF s.zs s.zs.length : Nat)) /\ w' = W) := fun W u=>sizeRows_ vz s.zs W (h3.up u) hn.2.2
 have hn1 := hn.1
 have hn2 := hn.2.1
 obtain ⟨a1,k1,rfl,-,-⟩ := lc_at h1
 obtain ⟨a2,k2,rfl,-,-⟩ := lc_at h2
 obtain ⟨a3,k3,rfl,-,-⟩ := zl_at h3
 clear h1 h2 h3 hn
 unfold sv
 generalize szF s.zs s.zs.length = m at *
 generalize s.ps.length = np at *
 generalize s.cs.length = nc at *
 generalize s.zs.length = nz at *
 go_enter Tryz.func39,Tryz.ntmps39
 go_wp2_with fail
 go_quiet (exact Calls.quiet_of_same (HC.out _ (((Up.refl _).alloc _).drewN _)))
 go_wp2
 go_ret
 exact ⟨by go_num,((Up.refl _).alloc _).drewN _⟩
set_option maxHeartbeats 1000000 in
theorem long1_ (n : Int) (w : World) : Calls Tryz.prog 36 #[.int .i64 n] w fun e w'=>e = .returned (.bool (decide (2147483647 < n))) /\ w' = w := by
 by_cases h : 2147483647 < n
 ·go_enter Tryz.func36,Tryz.ntmps36
  go_wp2
  go_ret
  exact ⟨by simp [h],rfl⟩
 ·go_enter Tryz.func36,Tryz.ntmps36
  go_wp2
  go_ret
  exact ⟨by simp [h],rfl⟩
end ST
end Go.Proofs.YtodhjjeagmjhdaaGreatDoor
namespace Go.Proofs.YtodhjjeagmjhdaaGreatDoor
open Go.RowKit
attribute [local go_sem ↓] Go.wp_at_zero Go.wp_at_succ
namespace DE
open Go.Proofs.YtodhjjeagmjhdaaGreatDoor.ST
def ords (l : List Ev) : List (List Int) := l.map Ev.ord
def NearE (l : List Ev) : Prop := l.length <= 140737488355328 /\ ∀ r,r < l.length -> (l.getD r dE).ord.length <= 140737488355328
theorem ords_get {l : List Ev} {i : Nat} (hi : i < l.length) : (ords l).getD i [] = (l.getD i dE).ord := by
 unfold ords
 rw [List.getD_eq_getElem?_getD,List.getElem?_map,List.getElem?_eq_getElem hi,List.getD_eq_getElem?_getD,List.getElem?_eq_getElem hi]
 rfl
theorem NearE.near {l : List Ev} (h : NearE l) : Near (ords l) := ⟨by simpa [ords] using h.1,fun r hr=>by
 have hr : r < l.length := by simpa [ords] using hr
 rw [ords_get hr]
 exact h.2 r hr⟩
set_option maxRecDepth 100000 in
set_option maxHeartbeats 2000000 in
theorem sizeEvents_ (v : Value) (l : List Ev) (w : World) (hv : EVS w v l) (hn : NearE l) :
  Calls Tryz.prog 40 #[v] w fun e w'=>e = .returned (.int .i64 (szF (ords l) l.length : Nat)) /\ w' = w := by
 obtain ⟨a3,k3,rfl,-,c3⟩ := evs_at hv
 obtain ⟨hn1,hl⟩ := hn
 obtain ⟨n,hn0⟩ : ∃ n,n = l.length := ⟨_,rfl⟩
 obtain ⟨R,hR⟩ : ∃ R,R = szF (ords l) l.length := ⟨_,rfl⟩
 have HR : Hid (R = szF ((ords l).drop 0) n) := by unfold Hid; rw [hR,hn0]; rfl
 rw [<- hR]
 rw [<- hn0] at hn1 hl c3 ⊢
 have HC : Hid _ := c3
 have HL : Hid _ := hl
 have HN : Hid (n = l.length) := hn0
 clear hv c3 hl hn0 hR
 go_enter Tryz.func40,Tryz.ntmps40
 go_wp2_with fail
 go_loopw [3,4] (fun s3 s4 W=>∃ i m : Nat,i <= n /\ s4 = .int .i64 i /\ s3 = .int .i64 m /\ W = w /\ R = szF ((ords l).drop i) m) (fun _ s4 _=>n - (intOf s4).toNat)
 case atStart=>exact ⟨0,n,Nat.zero_le _,rfl,rfl,rfl,HR.out⟩
 case round =>
  obtain ⟨i,m,hi,rfl,rfl,rfl,hr⟩ := hrel
  clear HR
  have HR : Hid (R = szF ((ords l).drop i) m) := hr
  clear hr
  have HLn : Hid ((ords l).length = n) := by unfold Hid ords; rw [List.length_map,<- HN.out]
  by_cases hlt : i < n
  ·have hlt2 : (i : Int) < (n : Int) := by omega
   by_cases hb : m <= 2147483647
   ·have hb2 : (m : Int) <= 2147483647 := by omega
    obtain ⟨b3,o3,rfl,-,hrow⟩ := HC.out (by omega)
    obtain ⟨ra,rc,hcell,-⟩ := hrow i hlt
    obtain ⟨-,-,-,-,-,-,-,-,-,-,-,x1⟩ := hcell _ (Up.refl _)
    have hlen := HL.out i hlt
    have HF : Hid (R = szF ((ords l).drop (i + 1)) (m + (l.getD i dE).ord.length)) := by
     unfold Hid
     have hz : i < (ords l).length := by rw [HLn.out]; exact hlt
     rw [HR.out,List.drop_eq_getElem_cons hz,szF,if_pos hb,<- ords_get (by rw [<- HN.out]; exact hlt),List.getD_eq_getElem?_getD,List.getElem?_eq_getElem hz]
     rfl
    clear hcell hrow HR HLn
    generalize (l.getD i dE).ord.length = q at x1 hlen HF
    go_wp2_with fail
    go_roundw
    case rel=>exact ⟨i + 1,m + q,by omega,by go_num,by go_num,by first | rfl | trivial,HF.out⟩
    case measure=>simp [intOf]; omega
   ·have hb2 : ¬ (m : Int) <= 2147483647 := by omega
    have HF : Hid (R = m) := by
     unfold Hid
     have hz : i < (ords l).length := by rw [HLn.out]; exact hlt
     rw [HR.out,List.drop_eq_getElem_cons hz,szF,if_neg hb]
    clear HR HLn
    go_wp2
    go_ret
    exact ⟨by rw [HF.out]; rfl,rfl⟩
  ·have hlt2 : ¬ (i : Int) < (n : Int) := by omega
   have HF : Hid (R = m) := by
    unfold Hid
    rw [HR.out,List.drop_of_length_le (by rw [HLn.out]; omega)]
    rfl
   clear HR HLn
   go_wp2
   go_ret
   exact ⟨by rw [HF.out]; rfl,rfl⟩
def lenE (l : List Ev) : Nat := l.length + (ords l).flatten.length
set_option maxRecDepth 100000 in
set_option maxHeartbeats 2000000 in
theorem beyond_ (v vl : Value) (s : Stt) (l : List Ev) (w : World) (hv : StL w v s) (hn : Far s) (hl : EVS w vl l) (hm : NearE l) :
  Calls Tryz.prog 8 #[v,vl] w fun e w'=>e = .returned (.bool (decide (2147483647 < lenS s + lenE l))) /\ Up w w' := by
 have HC : Hid (∀ W,Up w W -> _) := fun W u=>sizeState_ v s W (hv.up u) hn
 have HD : Hid (∀ W,Up w W -> _) := fun W u=>sizeEvents_ vl l W (hl.up u) hm
 have hle := szF_le s.zs s.zs.length hn.2.2.2 (by have := hn.2.2.1; omega)
 have hle2 := szF_le (ords l) l.length hm.near.2 (by have := hm.1; omega)
 have hsz := szF_is s.zs s.zs.length
 have hsz2 := szF_is (ords l) l.length
 have hR : decide (2147483647 < lenS s + lenE l) = decide (2147483647 < (s.ps.length : Int) + s.cs.length + (szF s.zs s.zs.length : Nat) + (szF (ords l) l.length : Nat)) := by
  apply decide_eq_decide.2
  unfold lenS lenE flat
  omega
 rw [hR]
 have hb : (s.ps.length : Int) + s.cs.length + (szF s.zs s.zs.length : Nat) <= 1000000000000000 := by have := hn.1; have := hn.2.1; omega
 have hb0 : 0 <= (s.ps.length : Int) + s.cs.length + (szF s.zs s.zs.length : Nat) := by omega
 obtain ⟨la,lk,rfl,-,-⟩ := evs_at hl
 obtain ⟨vp,vc,vz,rfl,h1,h2,h3⟩ := hv
 obtain ⟨a1,k1,rfl,-,-⟩ := lc_at h1
 obtain ⟨a2,k2,rfl,-,-⟩ := lc_at h2
 obtain ⟨a3,k3,rfl,-,-⟩ := zl_at h3
 unfold sv at HC ⊢
 generalize (s.ps.length : Int) + s.cs.length + (szF s.zs s.zs.length : Nat) = m at *
 generalize szF (ords l) l.length = q at *
 clear hsz hsz2 hR hn hle hl hm h1 h2 h3
 go_enter Tryz.func8,Tryz.ntmps8
 go_wp2_with fail
 refine Calls.mono (HC.out _ ((Up.refl _).alloc _)) ?_
 rintro e w1 ⟨rfl,u1⟩
 have HU : Hid (Up w w1) := ((Up.refl w).alloc _).trans u1
 clear HC u1
 go_wp2_with fail
 refine Calls.mono (HD.out _ HU.out) ?_
 rintro e w2 ⟨rfl,rfl⟩
 clear HD
 go_wp2_with fail
 refine Calls.mono (long1_ _ _) ?_
 rintro e w2 ⟨rfl,rfl⟩
 go_wp2
 go_ret
 exact ⟨by go_num,HU.out⟩
end DE
end Go.Proofs.YtodhjjeagmjhdaaGreatDoor
namespace Go.Proofs.YtodhjjeagmjhdaaGreatDoor
open Go.RowKit
attribute [local go_sem ↓] Go.wp_at_zero Go.wp_at_succ
namespace ST
end ST
end Go.Proofs.YtodhjjeagmjhdaaGreatDoor
namespace Go.Proofs.YtodhjjeagmjhdaaGreatDoor
open Go.RowKit
namespace ST
def CK (W : World) (g n : Nat) (cs : List Crd) : Prop := cs.length = n /\ ∃ cc : Array Value,W.heap[g]? = some (.cells cc 95 (0,0)) /\ ∀ j,j < n * 6 -> cc[j]? = (cvs cs)[j]?
theorem six_parts (j : Nat) : ∃ a b,j = a * 6 + b /\ b < 6 := ⟨j / 6,j % 6,by have := Nat.div_add_mod j 6; omega,Nat.mod_lt _ (by decide)⟩
theorem cvs_own (cs : List Crd) (i : Nat) (hi : i < cs.length) (y : Int) (j : Nat) (hj : j < cs.length * 6) : (cvs (cs.set i { cs.getD i dc with owner := y }))[j]? = if i * 6 + 1 = j then some (.int .i64 y) else (cvs cs)[j]? := by
 obtain ⟨a,b,rfl,hb⟩ := six_parts j
 have ha : a < cs.length := by omega
 rw [cvs_get _ a b (by simpa using ha) hb,cvs_get cs a b ha hb]
 by_cases e : a = i
 ·subst e
  rw [List.getD_eq_getElem?_getD (l := cs.set a _),List.getElem?_set_self ha]
  simp only [Option.getD_some]
  by_cases e1 : b = 1
  ·subst e1
   rw [if_pos rfl]; rfl
  ·rw [if_neg (by omega)]
   match b,hb,e1 with
   | 0,_,_=>rfl
   | 2,_,_=>rfl
   | 3,_,_=>rfl
   | 4,_,_=>rfl
   | 5,_,_=>rfl
 ·rw [List.getD_eq_getElem?_getD (l := cs.set i _),List.getElem?_set_ne (fun h=>e h.symm),<- List.getD_eq_getElem?_getD,if_neg (by omega)]
theorem CK.put {W : World} {g n : Nat} {cs : List Crd} (h : CK W g n cs) (i : Nat) (hi : i < n) (y : Int) : CK (W.setCell ⟨g,i * 6 + 1,none⟩ (.int .i64 y)) g n (cs.set i { cs.getD i dc with owner := y }) := by
 obtain ⟨h1,cc,h2,h3⟩ := h
 refine ⟨by simpa using h1,_,set_cells h2,fun j hj=>?_⟩
 rw [cvs_own cs i (by omega) y j (by omega),Array.getElem?_setIfInBounds]
 have hs : i * 6 + 1 < cc.size := by
  have := h3 (i * 6 + 1) (by omega)
  rw [List.getElem?_eq_getElem (by rw [cvs_len]; omega)] at this
  exact (Array.getElem?_eq_some_iff.1 this).1
 by_cases e : i * 6 + 1 = j
 ·rw [if_pos e,if_pos e]
  subst e
  rw [if_pos hs]
 ·rw [if_neg e,if_neg e]
  exact h3 j hj
theorem CK.keep {W W' : World} {g n : Nat} {cs : List Crd} (h : CK W g n cs) (k : ∀ cc,W.heap[g]? = some (.cells cc 95 (0,0)) -> W'.heap[g]? = some (.cells cc 95 (0,0))) : CK W' g n cs := by
 obtain ⟨h1,cc,h2,h3⟩ := h
 exact ⟨h1,cc,k cc h2,h3⟩
theorem CK.own {W : World} {g n : Nat} {cs : List Crd} (h : CK W g n cs) (i : Nat) (hi : i < n) : W.cell? ⟨g,i * 6 + 1,none⟩ = some (.int .i64 (cs.getD i dc).owner) /\ W.frozen? ⟨g,i * 6 + 1,none⟩ = false := by
 obtain ⟨h1,cc,h2,h3⟩ := h
 refine ⟨?_,seven_f h2 _⟩
 have h4 := h3 (i * 6 + 1) (by omega)
 rw [cvs_get cs i 1 (by omega) (by decide)] at h4
 simp only [World.cell?,h2]
 exact h4
def AI (W : World) (g q : Nat) : Prop := ∃ rc : Array Value,W.heap[g]? = some (.cells rc 3 (0,0)) /\ ∀ j,j < q -> ∃ y : Int,rc[j]? = some (.int .i64 y)
theorem AI.put {W : World} {g q g' k q' : Nat} {y : Int} (h : AI W g q) (h' : AI W g' q') : AI (W.setCell ⟨g',k,none⟩ (.int .i64 y)) g q := by
 obtain ⟨rc,h1,h2⟩ := h
 by_cases e : g = g'
 ·subst e
  refine ⟨_,set_cells h1,fun j hj=>?_⟩
  rw [Array.getElem?_setIfInBounds]
  by_cases ek : k = j
  ·subst ek
   rw [if_pos rfl]
   obtain ⟨y',hy'⟩ := h2 k hj
   rw [if_pos (Array.getElem?_eq_some_iff.1 hy').1]
   exact ⟨y,rfl⟩
  ·rw [if_neg ek]; exact h2 j hj
 ·exact ⟨rc,set_other h1 e,h2⟩
theorem AI.keep {W W' : World} {g q : Nat} (h : AI W g q) (k : ∀ cc,W.heap[g]? = some (.cells cc 3 (0,0)) -> W'.heap[g]? = some (.cells cc 3 (0,0))) : AI W' g q := by
 obtain ⟨rc,h1,h2⟩ := h
 exact ⟨rc,k rc h1,h2⟩
theorem AI.at {W : World} {g q : Nat} (h : AI W g q) (j : Nat) (hj : j < q) : (∃ y : Int,W.cell? ⟨g,j,none⟩ = some (.int .i64 y)) /\ W.frozen? ⟨g,j,none⟩ = false := by
 obtain ⟨rc,h1,h2⟩ := h
 obtain ⟨y,hy⟩ := h2 j hj
 exact ⟨⟨y,by simp only [World.cell?,h1]; exact hy⟩,seven_f h1 _⟩
theorem AI.il {W : World} {g q k : Nat} (h : AI W g q) (hk : q <= k) : ∃ l : List Int,l.length = q /\ IL W (.slice (some ⟨g,0,none⟩) q k) l := by
 obtain ⟨rc,h1,h2⟩ := h
 have hc : ∀ j,∃ y : Int,j < q -> rc[j]? = some (.int .i64 y) := fun j=>by
  by_cases hj : j < q
  ·obtain ⟨y,hy⟩ := h2 j hj
   exact ⟨y,fun _=>hy⟩
  ·exact ⟨0,fun h=>absurd h hj⟩
 refine ⟨(List.range q).map fun j=>Classical.choose (hc j),by simp,?_⟩
 refine ⟨by simp [ivs_len],some ⟨g,0,none⟩,k,by simp,by simpa using hk,fun _=>⟨g,0,rfl,fun j hj=>?_⟩⟩
 have hj' : j < q := by simpa using hj
 rw [ivs_get _ j (by simpa using hj'),Nat.zero_add]
 simp only [World.cell?,h1]
 rw [Classical.choose_spec (hc j) hj']
 simp [List.getD_eq_getElem?_getD,hj']
def KR (W : World) (b0 : Nat) (vs : List Value) (zs : List (List Int)) : Prop := ∀ i,i < zs.length -> ∃ g,b0 <= g /\ vs.getD i nl = .slice (some ⟨g,0,none⟩) (zs.getD i []).length ((zs.getD i []).length + 64) /\ AI W g (zs.getD i []).length
def KS (w W : World) (b : Nat) (box : Array Value) (gP gC gZ : Nat) (vs : List Value) (s : Stt) : Prop :=
 W.heap[b]? = some (.cells box 27 (0,0)) /\ W.heap[gP]? = some (.cells (wPs s.ps).toArray 97 (0,0)) /\ (∃ cs,CK W gC s.cs.length cs) /\ (W.heap[gZ]? = some (.cells vs.toArray 28 (0,0)) /\ vs.length = s.zs.length + 64) /\ KR W w.heap.size vs s.zs /\ Up w W /\ w.heap.size <= gC
theorem KS.up {w W W' : World} {b : Nat} {box : Array Value} {gP gC gZ : Nat} {vs : List Value} {s : Stt} (h : KS w W b box gP gC gZ vs s) (u : Up W W') : KS w W' b box gP gC gZ vs s := by
 obtain ⟨h1,h2,⟨cs,h3⟩,h4,h5,h6,h7⟩ := h
 exact ⟨u.heap h1,u.heap h2,⟨cs,h3.keep (fun _ h=>u.heap h)⟩,⟨u.heap h4.1,h4.2⟩,fun i hi=>by
  obtain ⟨g,a,b,c⟩ := h5 i hi
  exact ⟨g,a,b,c.keep (fun _ h=>u.heap h)⟩,h6.trans u,h7⟩
theorem KS.card {w W : World} {b : Nat} {box : Array Value} {gP gC gZ : Nat} {vs : List Value} {s : Stt} (h : KS w W b box gP gC gZ vs s) (i : Nat) (hi : i < s.cs.length) (y : Int) : KS w (W.setCell ⟨gC,i * 6 + 1,none⟩ (.int .i64 y)) b box gP gC gZ vs s := by
 obtain ⟨h1,h2,⟨cs,h3⟩,h4,h5,h6,h7⟩ := h
 obtain ⟨-,cc,hc,-⟩ := id h3
 exact ⟨set_other h1 (heap_ne h1 hc (by decide)),set_other h2 (heap_ne h2 hc (by decide)),⟨_,h3.put i hi y⟩,⟨set_other h4.1 (heap_ne h4.1 hc (by decide)),h4.2⟩,fun i hi=>by
  obtain ⟨g,a,b,c⟩ := h5 i hi
  exact ⟨g,a,b,c.keep (fun _ h=>set_other h (heap_ne h hc (by decide)))⟩,Up.set h6 _ _ h7,h7⟩
theorem KS.row {w W : World} {b : Nat} {box : Array Value} {gP gC gZ g q k : Nat} {vs : List Value} {s : Stt} (h : KS w W b box gP gC gZ vs s) (hg : AI W g q) (hb : w.heap.size <= g) (y : Int) : KS w (W.setCell ⟨g,k,none⟩ (.int .i64 y)) b box gP gC gZ vs s := by
 obtain ⟨h1,h2,⟨cs,h3⟩,h4,h5,h6,h7⟩ := h
 obtain ⟨rc,hc,-⟩ := id hg
 exact ⟨set_other h1 (heap_ne h1 hc (by decide)),set_other h2 (heap_ne h2 hc (by decide)),⟨cs,h3.keep (fun _ h=>set_other h (heap_ne h hc (by decide)))⟩,⟨set_other h4.1 (heap_ne h4.1 hc (by decide)),h4.2⟩,fun i hi=>by
  obtain ⟨g',a,b,c⟩ := h5 i hi
  exact ⟨g',a,b,c.put hg⟩,Up.set h6 _ _ hb,h7⟩
end ST
end Go.Proofs.YtodhjjeagmjhdaaGreatDoor
namespace Go.Proofs.YtodhjjeagmjhdaaGreatDoor
open Go.RowKit
attribute [local go_sem ↓] Go.wp_at_zero Go.wp_at_succ
namespace ST
theorem RA.push {i : Nat} {vs : List Value} {x : Value} (h : RA i vs) (hi : vs.length = i) (hx : ∀ p g,p < i -> (vs.getD p nl).ownBlock = some g -> x.ownBlock ≠ some g) : RA (i + 1) (vs ++ [x]) := by
 have e1 : (vs ++ [x]).getD i nl = x := by rw [List.getD_eq_getElem?_getD,List.getElem?_append_right (by omega),hi]; simp
 have e2 : ∀ p,p < i -> (vs ++ [x]).getD p nl = vs.getD p nl := fun p hp=>by rw [List.getD_eq_getElem?_getD,List.getElem?_append_left (by omega),<- List.getD_eq_getElem?_getD]
 intro p q g hp hq hpq h1 h2
 by_cases ep : p = i
 ·subst ep
  rw [e1] at h1
  rw [e2 q (by omega)] at h2
  exact hx q g (by omega) h2 h1
 ·rw [e2 p (by omega)] at h1
  by_cases eq : q = i
  ·subst eq
   rw [e1] at h2
   exact hx p g (by omega) h1 h2
  ·rw [e2 q (by omega)] at h2
   exact h p q g (by omega) (by omega) hpq h1 h2
def ZMA (base : Nat) (W : World) (v : Value) (i : Nat) (zs : List (List Int)) : Prop := ∃ vs,W.ownsRow base 28 1 v i vs /\ (∀ j,j < i -> IRow base W (vs.getD j nl) (zs.getD j [])) /\ RA i vs
theorem zma_more {base i : Nat} {W W1 W2 : World} {v v' x : Value} {zs : List (List Int)} (h : ZMA base W v i zs) (u : Up W W1) (hx : IRow base W1 x (zs.getD i [])) (hxl : ∀ g,x.ownBlock = some g -> W.heap.size <= g) (hlen : ∀ vs,W.ownsRow base 28 1 v i vs -> W2.ownsRow base 28 1 v' (i + 1) (vs ++ [x])) (hg : W1.grownBy W2 v.ownBlock) : ZMA base W2 v' (i + 1) zs := by
 obtain ⟨vs,h1,h2,h3⟩ := h
 have hl : vs.length = i := by have := h1.1; omega
 have k1 := row_up h1 u
 refine ⟨vs ++ [x],hlen vs h1,fun j hj=>?_,h3.push hl (fun p g hp hg2 hg3=>?_)⟩
 ·by_cases e : j = i
  ·subst e
   rw [List.getD_eq_getElem?_getD,List.getElem?_append_right (by omega),hl]
   simp
   exact World.ownsRow.kept hx hg (row_apart hx k1 (by decide))
  ·have hj' : j < i := by omega
   rw [List.getD_eq_getElem?_getD,List.getElem?_append_left (by omega),<- List.getD_eq_getElem?_getD]
   have := row_up (h2 j hj') u
   exact World.ownsRow.kept this hg (row_apart this k1 (by decide))
 ·have a := hxl g hg3
  have b := ((h2 p hp).lt g hg2).2
  omega
def ZOA (base : Nat) (W : World) (v : Value) (zs : List (List Int)) : Prop := ∃ vs,W.ownsRow base 28 1 v zs.length vs /\ (∀ i,i < zs.length -> IRow base W (vs.getD i nl) (zs.getD i [])) /\ RA zs.length vs
theorem ZOA.set {b k j : Nat} {W : World} {v u : Value} {zs : List (List Int)} (h : ZOA b W v zs) (hk : k < b) : ZOA b (W.setCell ⟨k,j,none⟩ u) v zs := by
 obtain ⟨vs,h1,h2,h3⟩ := h
 exact ⟨vs,row_set h1 hk,fun i hi=>row_set (h2 i hi) hk,h3⟩
theorem ZOA.less {b b' : Nat} {W : World} {v : Value} {zs : List (List Int)} (h : ZOA b W v zs) (hb : b' <= b) : ZOA b' W v zs := by
 obtain ⟨vs,h1,h2,h3⟩ := h
 exact ⟨vs,own_less h1 hb,fun i hi=>own_less (h2 i hi) hb,h3⟩
theorem SOA.set {b k j : Nat} {W : World} {v u : Value} {s : Stt} (h : SOA b W v s) (hk : k < b) : SOA b (W.setCell ⟨k,j,none⟩ u) v s := by
 obtain ⟨vp,vc,vz,hv,h1,h2,vs,h3,h4,h5⟩ := h
 exact ⟨vp,vc,vz,hv,row_set h1 hk,row_set h2 hk,vs,row_set h3 hk,fun i hi=>row_set (h4 i hi) hk,h5⟩
set_option maxRecDepth 100000 in
set_option maxHeartbeats 2000000 in
theorem copyRowsA_ (v : Value) (zs : List (List Int)) (w : World) (hv : ZL w v zs) (hn : zs.length <= 4294967296) (hl : ∀ r,r < zs.length -> (zs.getD r []).length <= 4294967296) :
  Calls Tryz.prog 112 #[v] w (CpPost w fun W v'=>ZOA w.heap.size W v' zs) := by
 obtain ⟨iT,hiT,z0,z1,z2⟩ := info_parts infoR
 obtain ⟨Post,hPost⟩ : ∃ P : Ending -> World -> Prop,P = CpPost w fun W v'=>ZOA w.heap.size W v' zs := ⟨_,rfl⟩
 rw [<- hPost]
 have HP : Hid (Post = CpPost w fun W v'=>ZOA w.heap.size W v' zs) := hPost
 obtain ⟨a,c,rfl,-,hc⟩ := zl_at hv
 have HC : Hid _ := hc
 have HL : Hid _ := hl
 obtain ⟨n,hn0⟩ : ∃ n,n = zs.length := ⟨_,rfl⟩
 have HN : Hid (n = zs.length) := hn0
 rw [<- hn0] at hn HC HL ⊢
 obtain ⟨B,hB⟩ : ∃ B,B = w.heap.size := ⟨_,rfl⟩
 have HB : Hid (B = w.heap.size) := hB
 clear hPost hv hc hl hn0 hB
 go_enter Tryz.func112,Tryz.ntmps112
 go_wp2_with fail
 go_loopw [3,4] (fun s3 s4 W=>∃ (i : Nat) (va : Option Addr) (vc : Nat),i <= n /\ s4 = .int .i64 i /\ s3 = .slice va i vc /\ ZMA B W (.slice va i vc) i zs /\ Up w W) (fun _ s4 _=>n - (intOf s4).toNat)
 case atStart=>exact ⟨0,none,0,Nat.zero_le _,rfl,rfl,⟨[],World.ownsRow_nil _ _ _ _,fun j hj=>by omega,RA.nil _⟩,Up.refl _⟩
 case round =>
  obtain ⟨i,va,vc,hi,rfl,rfl,hz,hu⟩ := hrel
  have HZ : Hid (ZMA B wr (.slice va i vc) i zs) := hz
  have HU : Hid (Up w wr) := hu
  clear hz hu
  by_cases hlt : i < n
  ·have hlt2 : (i : Int) < (n : Int) := by omega
   obtain ⟨b3,o3,rfl,hrow⟩ := HC.out (by omega)
   obtain ⟨ra,rc,hcell,hil⟩ := hrow i hlt
   have x1 := hcell wr HU.out
   have HK : Hid _ := copyInts_ _ (zs.getD i []) wr (hil.up HU.out) (HL.out i hlt)
   clear hcell hrow hil
   go_wp2_with fail
   refine Calls.mono HK.out ?_
   rintro e w1 ⟨x,rfl,hx,u1⟩
   clear HK
   obtain ⟨xa,xc,hxa⟩ := row_val hx
   have HXL : Hid (∀ g,x.ownBlock = some g -> wr.heap.size <= g) := fun g hg=>(World.ownsRow.lt hx g hg).1
   have HX : Hid (IRow B w1 x (zs.getD i [])) := own_less hx (by have := HU.out.size; have := HB.out; omega)
   have HU1 : Hid (Up wr w1) := u1
   clear hx u1
   subst hxa
   obtain ⟨vs,hz1,-⟩ := id HZ.out
   have HV : Hid ((w1.alloc (.cells #[.slice xa (zs.getD i []).length xc] 28)).ownsRow B 28 1 (.slice va i vc) i vs) := row_up hz1 (HU1.out.alloc _)
   have HM : Hid (∀ j u,[Value.slice xa (zs.getD i []).length xc][j]? = some u -> (w1.alloc (.cells #[.slice xa (zs.getD i []).length xc] 28)).cell? ((⟨w1.heap.size,0,none⟩ : Addr).add j) = some u) := by
    intro j u hj
    cases j with
    | zero=>simp at hj; subst hj; simp [Addr.add]
    | succ j=>simp at hj
   have HO : Hid (∀ u ∈ [Value.slice xa (zs.getD i []).length xc],u.oneCell' = true) := by intro u hu; simp at hu; subst hu; rfl
   have HS : Hid (B <= (w1.alloc (.cells #[.slice xa (zs.getD i []).length xc] 28)).heap.size) := by have h1 := HU.out.size; have h2 := HU1.out.size; have h3 := HB.out; unfold Hid; simp; omega
   have HZ2 : Hid (∀ v' w2,w2.ownsRow B 28 1 v' (i + 1) (vs ++ [.slice xa (zs.getD i []).length xc]) -> (w1.alloc (.cells #[.slice xa (zs.getD i []).length xc] 28)).grownBy w2 (Value.slice va i vc).ownBlock -> ZMA B w2 v' (i + 1) zs /\ Up w w2) := by
    intro v' w2 h1 h2
    have hvs : ∀ vs',wr.ownsRow B 28 1 (.slice va i vc) i vs' -> vs' = vs := fun vs' h=>row_same h hz1
    refine ⟨zma_more HZ.out (HU1.out.alloc _) (row_up HX.out ((Up.refl _).alloc _)) HXL.out (fun vs' h=>by rw [hvs vs' h]; exact h1) h2,?_⟩
    refine Below.grown (HU.out.trans (HU1.out.alloc _)) h2 ?_ ?_
    ·have := HS.out; have h3 := HB.out; omega
    ·intro k hk
     have := hz1.lt k hk
     have h3 := HB.out; omega
   clear hz1
   go_wp2_with (at_builtin; go_loud (refine wpList_append_own _ (by rfl) (.tmp 11) (.tmp 17) 24 (by rfl) B 28 iT (.slice none 0 0) 1 24 Tryz.underlying24 hiT z0 z1 z2 (by rfl) (by decide) (.slice va i vc) i vs (by rfl) HV.out ⟨w1.heap.size,0,none⟩ 1 1 [.slice xa (zs.getD i []).length xc] (by rfl) (by rfl) HM.out HO.out (by unfold maxLen; omega) (by omega) HS.out ?_); intro v' w2 hin hg1 _)
   obtain ⟨va',vc',hva⟩ := row_val hin
   have HF : Hid (ZMA B w2 v' (i + 1) zs /\ Up w w2) := HZ2.out v' w2 hin hg1
   clear hin hg1 HZ2 HV HM HO HS HX HU1
   subst hva
   go_wp2
   go_roundw
   case rel=>exact ⟨i + 1,va',vc',by omega,by go_num,rfl,HF.out.1,HF.out.2⟩
   case measure=>simp [intOf]; omega
  ·have hlt2 : ¬ (i : Int) < (n : Int) := by omega
   have hin : i = n := by omega
   subst hin
   go_wp2
   rw [HP.out]
   obtain ⟨vs,h1,h2,h3⟩ := HZ.out
   exact ⟨_,rfl,⟨vs,by rw [<- HB.out,<- HN.out]; exact h1,fun j hj=>by rw [<- HB.out]; exact h2 j (by rw [HN.out]; exact hj),by rw [<- HN.out]; exact h3⟩,HU.out⟩
set_option maxRecDepth 100000 in
set_option maxHeartbeats 4000000 in
theorem copyStateA_ (v : Value) (s : Stt) (w : World) (hs : StL w v s) (hsm : Small s) :
  Calls Tryz.prog 76 #[v] w (CpPost w fun W v'=>SOA w.heap.size W v' s) := by
 obtain ⟨Post,hPost⟩ : ∃ P : Ending -> World -> Prop,P = CpPost w fun W v'=>SOA w.heap.size W v' s := ⟨_,rfl⟩
 rw [<- hPost]
 have HP : Hid (Post = CpPost w fun W v'=>SOA w.heap.size W v' s) := hPost
 obtain ⟨vp,vc,vz,rfl,h1,h2,h3⟩ := hs
 have H1 : Hid _ := h1
 have H2 : Hid _ := h2
 have H3 : Hid _ := h3
 obtain ⟨a1,k1,rfl,-,-⟩ := lc_at h1
 obtain ⟨a2,k2,rfl,-,-⟩ := lc_at h2
 obtain ⟨a3,k3,rfl,-,-⟩ := zl_at h3
 have HM : Hid (Small s) := hsm
 clear hPost h1 h2 h3 hsm
 have HSV : Hid (∀ x y z,sv x y z s = .agg #[x,y,z,.int .i32 s.turn,.int .i64 s.whose,.int .i8 s.fin,.int .i64 s.winner]) := fun _ _ _=>rfl
 unfold sv
 generalize s.turn = tu at HSV ⊢
 generalize s.whose = wo at HSV ⊢
 generalize s.fin = fi at HSV ⊢
 generalize s.winner = wi at HSV ⊢
 go_enter Tryz.func76,Tryz.ntmps76
 go_wp2_with fail
 obtain ⟨W1,hW1⟩ : ∃ W,W = (w.alloc (.cells #[.slice a1 s.ps.length k1,.slice a2 s.cs.length k2,.slice a3 s.zs.length k3,.int .i32 tu,.int .i64 wo,.int .i8 fi,.int .i64 wi] 27)).alloc (.cells #[.slice none 0 0,.slice none 0 0,.slice none 0 0,.int .i32 0,.int .i64 0,.int .i8 0,.int .i64 0] 27) := ⟨_,rfl⟩
 rw [<- hW1]
 obtain ⟨b0,hb0⟩ : ∃ b,b = w.heap.size := ⟨_,rfl⟩
 rw [<- hb0]
 obtain ⟨g0,g1,gs,gu⟩ := two_blocks w #[.slice a1 s.ps.length k1,.slice a2 s.cs.length k2,.slice a3 s.zs.length k3,.int .i32 tu,.int .i64 wo,.int .i8 fi,.int .i64 wi] #[.slice none 0 0,.slice none 0 0,.slice none 0 0,.int .i32 0,.int .i64 0,.int .i8 0,.int .i64 0] 27
 rw [<- hW1] at g0 g1 gs gu
 rw [<- hb0] at g0 g1 gs
 have HB : Hid (b0 = w.heap.size) := hb0
 clear hW1 hb0
 refine Calls.mono (copyPlayers_ _ s.ps W1 (PLs.up H1.out gu) HM.out.1) ?_
 rintro e w1 ⟨x1,rfl,d1,u1⟩
 have HG : Hid (w1.heap[b0]? = _ /\ w1.heap[b0 + 1]? = _ /\ b0 + 2 <= w1.heap.size /\ Up w w1 /\ PO (b0 + 2) w1 x1 s.ps) := ⟨u1.heap g0,u1.heap g1,by have := u1.size; omega,gu.trans u1,by rw [gs] at d1; exact d1⟩
 obtain ⟨xa,xc,hx1⟩ := row_val d1
 subst hx1
 clear d1 u1 g0 g1 gs gu
 obtain ⟨y0,y1,y2,y3,y4,y5,y6⟩ := seven_cells HG.out.1
 have yf := seven_f HG.out.1
 have HG2 : Hid ((w1.setCell ⟨b0,0,none⟩ (.slice xa s.ps.length xc)).heap[b0]? = some (.cells #[.slice xa s.ps.length xc,.slice a2 s.cs.length k2,.slice a3 s.zs.length k3,.int .i32 tu,.int .i64 wo,.int .i8 fi,.int .i64 wi] 27 (0,0)) /\ (w1.setCell ⟨b0,0,none⟩ (.slice xa s.ps.length xc)).heap[b0 + 1]? = some (.cells #[.slice none 0 0,.slice none 0 0,.slice none 0 0,.int .i32 0,.int .i64 0,.int .i8 0,.int .i64 0] 27 (0,0)) /\ b0 + 2 <= (w1.setCell ⟨b0,0,none⟩ (.slice xa s.ps.length xc)).heap.size /\ Up w (w1.setCell ⟨b0,0,none⟩ (.slice xa s.ps.length xc)) /\ PO (b0 + 2) (w1.setCell ⟨b0,0,none⟩ (.slice xa s.ps.length xc)) (.slice xa s.ps.length xc) s.ps) :=
  ⟨set_cells HG.out.1,set_other HG.out.2.1 (by omega),by simpa using HG.out.2.2.1,Up.set HG.out.2.2.2.1 _ _ (by rw [<- HB.out]; exact Nat.le_refl _),row_set HG.out.2.2.2.2 (by omega)⟩
 clear HG
 go_wp2_with fail
 obtain ⟨W3,hW3⟩ : ∃ W,W = w1.setCell ⟨b0,0,none⟩ (.slice xa s.ps.length xc) := ⟨_,rfl⟩
 rw [<- hW3] at HG2 ⊢
 clear hW3
 refine Calls.mono (copyCards_ _ s.cs W3 (CLs.up H2.out HG2.out.2.2.2.1) HM.out.2.1) ?_
 rintro e w4 ⟨x2,rfl,d2,u2⟩
 have HG : Hid (w4.heap[b0]? = _ /\ w4.heap[b0 + 1]? = _ /\ b0 + 2 <= w4.heap.size /\ Up w w4 /\ PO (b0 + 2) w4 (.slice xa s.ps.length xc) s.ps /\ CO (b0 + 2) w4 x2 s.cs) := ⟨u2.heap HG2.out.1,u2.heap HG2.out.2.1,by have := u2.size; have := HG2.out.2.2.1; omega,HG2.out.2.2.2.1.trans u2,row_up HG2.out.2.2.2.2 u2,own_less d2 HG2.out.2.2.1⟩
 obtain ⟨xa2,xc2,hx2⟩ := row_val d2
 subst hx2
 clear d2 u2 HG2 y0 y1 y2 y3 y4 y5 y6 yf
 obtain ⟨y0,y1,y2,y3,y4,y5,y6⟩ := seven_cells HG.out.1
 have yf := seven_f HG.out.1
 have HG2 : Hid ((w4.setCell ⟨b0,1,none⟩ (.slice xa2 s.cs.length xc2)).heap[b0]? = some (.cells #[.slice xa s.ps.length xc,.slice xa2 s.cs.length xc2,.slice a3 s.zs.length k3,.int .i32 tu,.int .i64 wo,.int .i8 fi,.int .i64 wi] 27 (0,0)) /\ (w4.setCell ⟨b0,1,none⟩ (.slice xa2 s.cs.length xc2)).heap[b0 + 1]? = some (.cells #[.slice none 0 0,.slice none 0 0,.slice none 0 0,.int .i32 0,.int .i64 0,.int .i8 0,.int .i64 0] 27 (0,0)) /\ b0 + 2 <= (w4.setCell ⟨b0,1,none⟩ (.slice xa2 s.cs.length xc2)).heap.size /\ Up w (w4.setCell ⟨b0,1,none⟩ (.slice xa2 s.cs.length xc2)) /\ PO (b0 + 2) (w4.setCell ⟨b0,1,none⟩ (.slice xa2 s.cs.length xc2)) (.slice xa s.ps.length xc) s.ps /\ CO (b0 + 2) (w4.setCell ⟨b0,1,none⟩ (.slice xa2 s.cs.length xc2)) (.slice xa2 s.cs.length xc2) s.cs) :=
  ⟨set_cells HG.out.1,set_other HG.out.2.1 (by omega),by simpa using HG.out.2.2.1,Up.set HG.out.2.2.2.1 _ _ (by rw [<- HB.out]; exact Nat.le_refl _),row_set HG.out.2.2.2.2.1 (by omega),row_set HG.out.2.2.2.2.2 (by omega)⟩
 clear HG
 go_wp2_with fail
 obtain ⟨W5,hW5⟩ : ∃ W,W = w4.setCell ⟨b0,1,none⟩ (.slice xa2 s.cs.length xc2) := ⟨_,rfl⟩
 rw [<- hW5] at HG2 ⊢
 clear hW5
 refine Calls.mono (copyRowsA_ _ s.zs W5 (ZL.up H3.out HG2.out.2.2.2.1) HM.out.2.2.1 HM.out.2.2.2) ?_
 rintro e w6 ⟨x3,rfl,d3,u3⟩
 have HG : Hid (w6.heap[b0]? = _ /\ w6.heap[b0 + 1]? = _ /\ b0 + 2 <= w6.heap.size /\ Up w w6 /\ PO (b0 + 2) w6 (.slice xa s.ps.length xc) s.ps /\ CO (b0 + 2) w6 (.slice xa2 s.cs.length xc2) s.cs /\ ZOA (b0 + 2) w6 x3 s.zs) := ⟨u3.heap HG2.out.1,u3.heap HG2.out.2.1,by have := u3.size; have := HG2.out.2.2.1; omega,HG2.out.2.2.2.1.trans u3,row_up HG2.out.2.2.2.2.1 u3,row_up HG2.out.2.2.2.2.2 u3,d3.less HG2.out.2.2.1⟩
 obtain ⟨xa3,xc3,hx3⟩ : ∃ p q,x3 = .slice p s.zs.length q := by
  obtain ⟨vs,h,-⟩ := d3
  exact row_val h
 subst hx3
 clear d3 u3 HG2 y0 y1 y2 y3 y4 y5 y6 yf
 obtain ⟨y0,y1,y2,y3,y4,y5,y6⟩ := seven_cells HG.out.1
 have yf := seven_f HG.out.1
 have HG2 : Hid ((w6.setCell ⟨b0,2,none⟩ (.slice xa3 s.zs.length xc3)).heap[b0]? = some (.cells #[.slice xa s.ps.length xc,.slice xa2 s.cs.length xc2,.slice xa3 s.zs.length xc3,.int .i32 tu,.int .i64 wo,.int .i8 fi,.int .i64 wi] 27 (0,0)) /\ (w6.setCell ⟨b0,2,none⟩ (.slice xa3 s.zs.length xc3)).heap[b0 + 1]? = some (.cells #[.slice none 0 0,.slice none 0 0,.slice none 0 0,.int .i32 0,.int .i64 0,.int .i8 0,.int .i64 0] 27 (0,0)) /\ Up w (w6.setCell ⟨b0,2,none⟩ (.slice xa3 s.zs.length xc3)) /\ SOA (b0 + 2) (w6.setCell ⟨b0,2,none⟩ (.slice xa3 s.zs.length xc3)) (.agg #[.slice xa s.ps.length xc,.slice xa2 s.cs.length xc2,.slice xa3 s.zs.length xc3,.int .i32 tu,.int .i64 wo,.int .i8 fi,.int .i64 wi]) s) :=
  ⟨set_cells HG.out.1,set_other HG.out.2.1 (by omega),Up.set HG.out.2.2.2.1 _ _ (by rw [<- HB.out]; exact Nat.le_refl _),_,_,_,(HSV.out _ _ _).symm,row_set HG.out.2.2.2.2.1 (by omega),row_set HG.out.2.2.2.2.2.1 (by omega),HG.out.2.2.2.2.2.2.set (by omega)⟩
 clear HG
 obtain ⟨W7,hW7⟩ : ∃ W,W = w6.setCell ⟨b0,2,none⟩ (.slice xa3 s.zs.length xc3) := ⟨_,rfl⟩
 rw [<- hW7] at HG2
 have HW7 : Hid (W7 = _) := hW7
 obtain ⟨q0,q1,q2,q3,q4,q5,q6⟩ := seven_cells HG2.out.1
 obtain ⟨r0,r1,r2,r3,r4,r5,r6⟩ := seven_cells HG2.out.2.1
 have rf := seven_f HG2.out.2.1
 rw [hW7] at q0 q1 q2 q3 q4 q5 q6 r0 r1 r2 r3 r4 r5 r6 rf
 clear hW7
 go_wp2_with fail
 rw [<- HW7.out]
 obtain ⟨p0,p1,p2,p3,p4,p5,p6⟩ := seven_cells (seven_set (x0 := .slice xa s.ps.length xc) (x1 := .slice xa2 s.cs.length xc2) (x2 := .slice xa3 s.zs.length xc3) (x3 := .int .i32 tu) (x4 := .int .i64 wo) (x5 := .int .i8 fi) (x6 := .int .i64 wi) HG2.out.2.1)
 have hs1 : b0 + 1 < b0 + 2 := by omega
 have hb1 : w.heap.size <= b0 + 1 := by rw [<- HB.out]; omega
 refine bodyPost_ret (v := .agg #[.slice xa s.ps.length xc,.slice xa2 s.cs.length xc2,.slice xa3 s.zs.length xc3,.int .i32 tu,.int .i64 wo,.int .i8 fi,.int .i64 wi]) (by simp [results,Tryz.results76,go_sem,p0,p1,p2,p3,p4,p5,p6]) rfl ?_
 rw [HP.out]
 refine ⟨_,rfl,?_,?_⟩
 ·exact ((((((((HG2.out.2.2.2.set hs1).set hs1).set hs1).set hs1).set hs1).set hs1).set hs1)).less (by rw [HB.out]; omega)
 ·exact ((((((((HG2.out.2.2.1.set _ _ hb1).set _ _ hb1).set _ _ hb1).set _ _ hb1).set _ _ hb1).set _ _ hb1).set _ _ hb1))
end ST
end Go.Proofs.YtodhjjeagmjhdaaGreatDoor
namespace Go.Proofs.YtodhjjeagmjhdaaGreatDoor
open Go.RowKit
attribute [local go_sem ↓] Go.wp_at_zero Go.wp_at_succ
namespace DE
open Go.Proofs.YtodhjjeagmjhdaaGreatDoor.ST
set_option maxHeartbeats 1000000 in
theorem ris_ (k : Int) (m : Nat) (w : World) : Calls Tryz.prog 103 #[.int .i64 k,.int .i64 m] w fun e w'=>e = .returned (.bool (numB k m)) /\ w' = w := by
 unfold numB
 by_cases h0 : 0 <= k
 ·have e0 : decide (0 <= k) = true := decide_eq_true h0
  go_enter Tryz.func103,Tryz.ntmps103
  go_wp2
  go_ret
  exact ⟨by simp [h0],rfl⟩
 ·have e0 : decide (0 <= k) = false := decide_eq_false h0
  go_enter Tryz.func103,Tryz.ntmps103
  go_wp2
  go_ret
  exact ⟨by simp,rfl⟩
def standB (s : Stt) (c z a : Int) : Bool := numB z s.zs.length && (numB a (zn s z).length && decide ((zn s z).getD a.toNat 0 = c))
set_option maxRecDepth 100000 in
set_option maxHeartbeats 2000000 in
theorem rstands_ (v : Value) (s : Stt) (c z a : Int) (w : World) (hs : StL w v s) : Calls Tryz.prog 178 #[v,.int .i64 c,.int .i64 z,.int .i64 a] w fun r w'=>r = .returned (.bool (standB s c z a)) /\ Up w w' := by
 have HI : Hid (∀ (k : Int) (m : Nat) (W : World),Calls Tryz.prog 103 #[.int .i64 k,.int .i64 m] W fun e w'=>e = .returned (.bool (numB k m)) /\ w' = W) := ris_
 obtain ⟨vp,vc,vz,rfl,h1,h2,h3⟩ := hs
 obtain ⟨a1,k1,rfl,-,-⟩ := lc_at h1
 obtain ⟨a2,k2,rfl,-,-⟩ := lc_at h2
 obtain ⟨a3,k3,rfl,-,hzl⟩ := zl_at h3
 unfold sv standB
 have HU : Hid (Up w (w.alloc (.cells #[.slice a1 s.ps.length k1,.slice a2 s.cs.length k2,.slice a3 s.zs.length k3,.int .i32 s.turn,.int .i64 s.whose,.int .i8 s.fin,.int .i64 s.winner] 27))) := (Up.refl _).alloc _
 clear h1 h2 h3
 cases hz : numB z s.zs.length with
 | false =>
  have H1 : Hid _ := HI.out z s.zs.length
  rw [hz] at H1
  clear hz HI hzl
  go_enter Tryz.func178,Tryz.ntmps178
  go_wp2_with fail
  refine Calls.mono (H1.out _) ?_
  rintro r W1 ⟨rfl,rfl⟩
  go_wp2
  go_ret
  exact ⟨rfl,HU.out⟩
 | true =>
  have H1 : Hid _ := HI.out z s.zs.length
  rw [hz] at H1
  obtain ⟨i,rfl,hi⟩ := num_nat hz
  obtain ⟨zb,zo,rfl,hzr⟩ := hzl (by omega)
  obtain ⟨ra,rc,hcz,hil⟩ := hzr i hi
  have hzn : zn s (i : Int) = s.zs.getD i [] := by unfold zn; rw [Int.toNat_natCast]
  rw [hzn]
  obtain ⟨ra',rc',hx,-,hcell⟩ := il_at hil
  simp only [Value.slice.injEq,true_and] at hx
  obtain ⟨rfl,rfl⟩ := hx
  have c0 := hcz _ HU.out
  have hi2 : (i : Int) < (s.zs.length : Int) := by omega
  have H2 : Hid _ := HI.out a (s.zs.getD i []).length
  clear hz HI hzl hzr hcz hil hzn
  cases ha : numB a (s.zs.getD i []).length with
  | false =>
   rw [ha] at H2
   generalize (s.zs.getD i []).length = m at *
   clear ha hcell
   go_enter Tryz.func178,Tryz.ntmps178
   go_wp2_with fail
   refine Calls.mono (H1.out _) ?_
   rintro r W1 ⟨rfl,rfl⟩
   go_wp2_with fail
   refine Calls.mono (H2.out _) ?_
   rintro r W1 ⟨rfl,rfl⟩
   go_wp2
   go_ret
   exact ⟨rfl,HU.out⟩
  | true =>
   rw [ha] at H2
   obtain ⟨q,rfl,hq⟩ := num_nat ha
   obtain ⟨rb,ro,rfl,hcc⟩ := hcell (by omega)
   have c1 := hcc _ HU.out q hq
   rw [Int.toNat_natCast]
   have hq2 : (q : Int) < ((s.zs.getD i []).length : Int) := by omega
   generalize (s.zs.getD i []).getD q 0 = y at *
   generalize (s.zs.getD i []).length = m at *
   clear ha hcell hcc
   go_enter Tryz.func178,Tryz.ntmps178
   go_wp2_with fail
   refine Calls.mono (H1.out _) ?_
   rintro r W1 ⟨rfl,rfl⟩
   go_wp2_with fail
   refine Calls.mono (H2.out _) ?_
   rintro r W1 ⟨rfl,rfl⟩
   go_wp2
   go_ret
   exact ⟨by rw [Bool.true_and,Bool.true_and,show decide (y = c) = (y == c) from by by_cases h : y = c <;> simp [h]]; rfl,HU.out⟩
set_option maxRecDepth 100000 in
set_option maxHeartbeats 2000000 in
theorem rrises_ (v : Value) (l : List Int) (w : World) (hv : IL w v l) (hn : l.length <= 140737488355328) : Calls Tryz.prog 173 #[v] w fun r w'=>r = .returned (.bool (risesB l)) /\ Up w w' := by
 obtain ⟨a,c,rfl,hc,hcl⟩ := il_at hv
 obtain ⟨n,hn0⟩ : ∃ n,n = l.length := ⟨_,rfl⟩
 have HN : Hid (n = l.length) := hn0
 have HC : Hid _ := hcl
 obtain ⟨R,hR⟩ : ∃ R,R = risesB l := ⟨_,rfl⟩
 have HR : Hid (R = risesB l) := hR
 rw [<- hR]
 rw [<- hn0] at hn hc HC ⊢
 clear hv hcl hn0 hR
 go_enter Tryz.func173,Tryz.ntmps173
 go_wp2_with fail
 go_loopw [3] (fun s3 W=>∃ i : Nat,i <= n /\ s3 = .int .i64 i /\ W = w /\ ∀ j,j < i -> l.getD j 0 = (j : Int)) (fun s3 _=>n - (intOf s3).toNat)
 case atStart=>exact ⟨0,Nat.zero_le _,rfl,rfl,fun j hj=>absurd hj (Nat.not_lt_zero j)⟩
 case round =>
  obtain ⟨i,hi,rfl,rfl,hall⟩ := hrel
  have HA : Hid _ := hall
  clear hall
  by_cases hlt : i < n
  ·have hlt2 : (i : Int) < (n : Int) := by omega
   obtain ⟨b,off,rfl,hcc⟩ := HC.out (by omega)
   have x0 := hcc wr (Up.refl _) i hlt
   obtain ⟨y,hy⟩ : ∃ y,y = l.getD i 0 := ⟨_,rfl⟩
   rw [<- hy] at x0
   have HY : Hid (y = l.getD i 0) := hy
   clear hcc hy
   by_cases he : y = (i : Int)
   ·subst he
    go_wp2_with fail
    go_roundw
    case rel =>
     refine ⟨i + 1,by omega,by go_num,by trivial,fun j hj=>?_⟩
     by_cases e : j = i
     ·subst e; exact HY.out.symm
     ·exact HA.out j (by omega)
    case measure=>simp [intOf]; omega
   ·have f0 : (y == (i : Int)) = false := beq_eq_false_iff_ne.2 he
    have hF : R = false := by
     rw [HR.out]
     cases hr : risesB l
     ·rfl
     ·exact absurd (HY.out.trans (rises_at.1 hr i (by rw [<- HN.out]; exact hlt))) he
    subst hF
    clear he
    go_wp2
    go_ret
    exact ⟨rfl,Up.refl _⟩
  ·have hlt2 : ¬ (i : Int) < (n : Int) := by omega
   have hT : R = true := by
    rw [HR.out,rises_at]
    intro j hj
    exact HA.out j (by have := HN.out; omega)
   subst hT
   go_wp2
   go_ret
   exact ⟨rfl,Up.refl _⟩
end DE
end Go.Proofs.YtodhjjeagmjhdaaGreatDoor
