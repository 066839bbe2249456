/- St, Mem, Sm, Ge, Last -/
import Derived.Test.YtodhjjeagmjhdaaGreatDoorSh7TvSlX
import Derived.Deep.WholeRow
namespace Go.Proofs.YtodhjjeagmjhdaaGreatDoor
structure Ply where
 life : Int
 energy : Int
 out : Bool
 deriving DecidableEq
structure Crd where
 kind : Int
 owner : Int
 power : Int
 health : Int
 damage : Int
 marks : Int
 deriving DecidableEq
structure Stt where
 ps : List Ply
 cs : List Crd
 zs : List (List Int)
 turn : Int
 whose : Int
 fin : Int
 winner : Int
namespace ST
def dp : Ply := ⟨0,0,false⟩
def dc : Crd := ⟨0,0,0,0,0,0⟩
def statB (x : Int) : Bool := decide (-1000000000 <= x) && decide (x <= 1000000000)
def numB (x : Int) (n : Nat) : Bool := decide (0 <= x) && decide (x < (n : Int))
def plyB (p : Ply) : Bool := statB p.life && statB p.energy
def crd0B (c : Crd) : Bool := numB c.kind 256 && statB c.power && statB c.health && statB c.damage && statB c.marks
def crdB (n : Nat) (c : Crd) : Bool := crd0B c && numB c.owner n
def npB (n : Nat) : Bool := decide (2 <= n) && decide (n <= 4)
def ncB (m : Nat) : Bool := decide (1 <= m) && decide (m <= 256)
def sizesB (s : Stt) : Bool := npB s.ps.length && ncB s.cs.length && decide (s.zs.length = 4 * s.ps.length)
def okAt (m : Nat) (l : List Int) (k : Nat) : Bool := match l[k]? with
 | some x=>numB x m && !(l.take k).contains x
 | none=>false
def goodF (m : Nat) (l : List Int) : Nat -> Nat -> Nat
 | 0,k=>k
 | f + 1,k=>if okAt m l k then goodF m l f (k + 1) else k
def good (m : Nat) (l : List Int) : Nat := goodF m l l.length 0
theorem goodF_at (m : Nat) (l : List Int) (k : Nat) (hk : k < l.length -> okAt m l k = false) : ∀ f j,j <= k -> k <= j + f -> j + f = l.length -> (∀ i,j <= i -> i < k -> okAt m l i = true) -> goodF m l f j = k := by
 intro f
 induction f with
 | zero=>intro j h1 h2 _ _; simp only [goodF]; omega
 | succ f ih =>
  intro j h1 h2 h3 h
  by_cases e : j = k
  ·subst e
   simp only [goodF]
   rw [hk (by omega)]; simp
  ·simp only [goodF]
   rw [h j (Nat.le_refl _) (by omega),if_pos rfl]
   exact ih (j + 1) (by omega) (by omega) (by omega) (fun i h4 h5=>h i (by omega) h5)
theorem good_at (m : Nat) (l : List Int) (k : Nat) (h1 : k <= l.length) (h2 : ∀ i,i < k -> okAt m l i = true) (h3 : k < l.length -> okAt m l k = false) : good m l = k :=
 goodF_at m l k h3 l.length 0 (Nat.zero_le _) (by omega) (by omega) (fun i _ h=>h2 i h)
theorem goodF_ok (m : Nat) (l : List Int) : ∀ f j,(∀ i,j <= i -> i < goodF m l f j -> okAt m l i = true) /\ j <= goodF m l f j /\ goodF m l f j <= j + f := by
 intro f
 induction f with
 | zero=>intro j; simp only [goodF]; exact ⟨fun i h1 h2=>by omega,Nat.le_refl _,by omega⟩
 | succ f ih =>
  intro j
  simp only [goodF]
  split
  ·rename_i h
   obtain ⟨a,b,c⟩ := ih (j + 1)
   refine ⟨fun i h1 h2=>?_,by omega,by omega⟩
   by_cases e : i = j
   ·subst e; exact h
   ·exact a i (by omega) h2
  ·exact ⟨fun i h1 h2=>by omega,Nat.le_refl _,by omega⟩
theorem good_le (m : Nat) (l : List Int) : good m l <= l.length := by have := (goodF_ok m l l.length 0).2.2; unfold good; omega
theorem good_ok (m : Nat) (l : List Int) (i : Nat) (h : i < good m l) : okAt m l i = true := (goodF_ok m l l.length 0).1 i (Nat.zero_le _) h
def Ent (m : Nat) (l : List Int) : Prop := l.Nodup /\ ∀ x ∈ l,numB x m = true
theorem good_ent (m : Nat) (l : List Int) (k : Nat) (hk : k <= l.length) (h : ∀ i,i < k -> okAt m l i = true) : Ent m (l.take k) := by
 induction k with
 | zero=>simp [Ent]
 | succ k ih =>
  obtain ⟨a,b⟩ := ih (by omega) (fun i hi=>h i (by omega))
  have hx := h k (by omega)
  have e : l.take (k + 1) = l.take k ++ [l[k]'(by omega)] := by rw [List.take_add_one,List.getElem?_eq_getElem (by omega)]; rfl
  simp only [okAt,List.getElem?_eq_getElem (show k < l.length by omega),Bool.and_eq_true,Bool.not_eq_true'] at hx
  obtain ⟨h1,h2⟩ := hx
  have h2 : ¬ l[k]'(by omega) ∈ l.take k := by
   intro hm
   have := List.contains_iff_mem.2 hm
   rw [this] at h2; cases h2
  rw [Ent,e]
  refine ⟨?_,fun x hx=>?_⟩
  ·rw [List.nodup_append]
   refine ⟨a,by simp,fun x hx y hy=>?_⟩
   simp at hy; subst hy
   rintro rfl; exact h2 hx
  ·rcases List.mem_append.1 hx with hx | hx
   ·exact b x hx
   ·simp at hx; subst hx; exact h1
theorem ent_good (m : Nat) (l : List Int) (h : Ent m l) : good m l = l.length := by
 refine good_at m l l.length (Nat.le_refl _) (fun i hi=>?_) (fun h=>by omega)
 simp only [okAt,List.getElem?_eq_getElem hi,Bool.and_eq_true,Bool.not_eq_true']
 refine ⟨h.2 _ (List.getElem_mem hi),?_⟩
 rw [Bool.eq_false_iff]
 intro hc
 have hm := List.contains_iff_mem.1 hc
 have hd : l = l.take i ++ l[i] :: l.drop (i + 1) := by rw [List.getElem_cons_drop]; exact (List.take_append_drop i l).symm
 have hn := h.1
 rw [hd,List.nodup_append] at hn
 exact hn.2.2 _ hm _ (List.mem_cons_self ..) rfl
theorem good_iff (m : Nat) (l : List Int) : good m l = l.length ↔ Ent m l := by
 refine ⟨fun h=>?_,ent_good m l⟩
 have := good_ent m l l.length (Nat.le_refl _) (fun i hi=>good_ok m l i (by omega))
 rwa [List.take_length] at this
theorem sub_len {A : Type} [DecidableEq A] : ∀ (l r : List A),l.Nodup -> (∀ x ∈ l,x ∈ r) -> l.length <= r.length := by
 intro l
 induction l with
 | nil=>intro r _ _; exact Nat.zero_le _
 | cons x l ih =>
  intro r hn h
  have hx := h x (List.mem_cons_self ..)
  rw [List.nodup_cons] at hn
  have := ih (r.erase x) hn.2 (fun y hy=>(List.mem_erase_of_ne (fun e=>hn.1 (by rw [<- e]; exact hy))).2 (h y (List.mem_cons_of_mem _ hy)))
  rw [List.length_erase_of_mem hx] at this
  have : 0 < r.length := List.length_pos_of_mem hx
  simp only [List.length_cons]; omega
def nums (m : Nat) : List Int := (List.range m).map (fun i : Nat=>(i : Int))
theorem mem_nums {m : Nat} {x : Int} : x ∈ nums m ↔ numB x m = true := by
 simp only [nums,List.mem_map,List.mem_range,numB,Bool.and_eq_true,decide_eq_true_eq]
 exact ⟨fun ⟨i,h,e⟩=>by omega,fun ⟨a,b⟩=>⟨x.toNat,by omega,by omega⟩⟩
theorem ent_le {m : Nat} {l : List Int} (h : Ent m l) : l.length <= m := by
 have := sub_len l (nums m) h.1 (fun x hx=>mem_nums.2 (h.2 x hx))
 simpa [nums] using this
theorem ent_all {m : Nat} {l : List Int} (h : Ent m l) (hl : l.length = m) (x : Int) (hx : numB x m = true) : x ∈ l := by
 by_cases hm : x ∈ l
 ·exact hm
 ·have : Ent m (x :: l) := ⟨List.nodup_cons.2 ⟨hm,h.1⟩,fun y hy=>by rcases List.mem_cons.1 hy with rfl | hy; exact hx; exact h.2 y hy⟩
  have := ent_le this
  simp at this; omega
theorem good_small (m : Nat) (l : List Int) (k : Nat) (hk : k <= l.length) (h : ∀ i,i < k -> okAt m l i = true) : k <= m := by
 have := ent_le (good_ent m l k hk h)
 rw [List.length_take] at this; omega
def winB (s : Stt) : Bool := if s.fin = 1 then numB s.winner s.ps.length else decide (s.winner = 0)
def finB (s : Stt) : Bool := decide (s.fin = 0) || decide (s.fin = 1) || decide (s.fin = 2)
def flat (s : Stt) : List Int := s.zs.flatten
def ff (s : Stt) : Option Nat :=
 if sizesB s = false then some 0 else
 match s.ps.findIdx? (fun p=>!plyB p) with
 | some i=>some (1 + i)
 | none=>match s.cs.findIdx? (fun c=>!crdB s.ps.length c) with
  | some i=>some (1 + s.ps.length + i)
  | none=>if good s.cs.length (flat s) < (flat s).length ∨ good s.cs.length (flat s) < s.cs.length then some (1 + s.ps.length + s.cs.length + good s.cs.length (flat s)) else
   if ¬ 1 <= s.turn then some (2 + s.ps.length + 2 * s.cs.length) else
   if numB s.whose s.ps.length = false then some (3 + s.ps.length + 2 * s.cs.length) else
   if finB s = false then some (4 + s.ps.length + 2 * s.cs.length) else
   if winB s = false then some (5 + s.ps.length + 2 * s.cs.length) else none
def Rest (s : Stt) : Prop := sizesB s = true /\ (∀ p ∈ s.ps,plyB p = true) /\ (∀ c ∈ s.cs,crdB s.ps.length c = true) /\ 1 <= s.turn /\ numB s.whose s.ps.length = true /\ finB s = true /\ winB s = true
theorem findIdx_none {A : Type} (l : List A) (f : A -> Bool) : l.findIdx? (fun x=>!f x) = none ↔ ∀ x ∈ l,f x = true := by
 rw [List.findIdx?_eq_none_iff]
 exact ⟨fun h x hx=>by have := h x hx; simpa using this,fun h x hx=>by simp [h x hx]⟩
theorem ff_none (s : Stt) : ff s = none ↔ Rest s /\ Ent s.cs.length (flat s) /\ (flat s).length = s.cs.length := by
 have hg := good_le s.cs.length (flat s)
 have hi := good_iff s.cs.length (flat s)
 constructor
 ·intro h
  unfold ff at h
  split at h
  ·cases h
  rename_i h0
  split at h
  ·cases h
  rename_i h1
  split at h
  ·cases h
  rename_i h2
  split at h
  ·cases h
  rename_i h3
  split at h
  ·cases h
  rename_i h4
  split at h
  ·cases h
  rename_i h5
  split at h
  ·cases h
  rename_i h6
  split at h
  ·cases h
  rename_i h7
  have he : Ent s.cs.length (flat s) := hi.1 (by omega)
  have := ent_le he
  exact ⟨⟨by simpa using h0,(findIdx_none _ _).1 h1,(findIdx_none _ _).1 h2,by omega,by simpa using h5,by simpa using h6,by simpa using h7⟩,he,by omega⟩
 ·rintro ⟨⟨h0,h1,h2,h3,h4,h5,h6⟩,h7,h8⟩
  have := hi.2 h7
  unfold ff
  rw [if_neg (by simp [h0]),(findIdx_none _ _).2 h1,(findIdx_none _ _).2 h2]
  dsimp only
  rw [if_neg (by omega),if_neg (by omega),if_neg (by simp [h4]),if_neg (by simp [h5]),if_neg (by simp [h6])]
def wh (c : Int) : List (List Int) -> Nat -> Option (Nat × Nat)
 | [],_=>none
 | l :: zs,z=>match l.findIdx? (fun x=>decide (x = c)) with
  | some i=>some (z,i)
  | none=>wh c zs (z + 1)
theorem nodup_at {A : Type} {l : List A} (h : l.Nodup) {i j : Nat} (hi : i < l.length) (hj : j < l.length) (e : l[i] = l[j]) : i = j := by
 rw [List.nodup_iff_pairwise_ne] at h
 rw [List.pairwise_iff_getElem] at h
 rcases Nat.lt_trichotomy i j with hl | hl | hl
 ·exact (h i j hi hj hl e).elim
 ·exact hl
 ·exact (h j i hj hi hl e.symm).elim
theorem flat_set : ∀ (zs : List (List Int)) (z : Nat) (l : List Int),z < zs.length -> ((zs.set z l).flatten ++ zs.getD z []).Perm (zs.flatten ++ l) := by
 intro zs
 induction zs with
 | nil=>intro z l h; simp at h
 | cons a zs ih =>
  intro z l h
  cases z with
  | zero =>
   simp only [List.set_cons_zero,List.flatten_cons,List.getD_cons_zero]
   rw [List.append_assoc a]
   exact (List.perm_append_comm).trans (List.Perm.append_left a List.perm_append_comm)
  | succ z =>
   simp only [List.set_cons_succ,List.flatten_cons,List.getD_cons_succ,List.append_assoc]
   exact (ih z l (by simpa using h)).append_left a
def withZ (s : Stt) (zs : List (List Int)) : Stt := { s with zs := zs }
theorem rest_z {s : Stt} (h : Rest s) {zs : List (List Int)} (hl : zs.length = s.zs.length) : Rest (withZ s zs) := by
 obtain ⟨h0,h1⟩ := h
 refine ⟨?_,h1⟩
 simp only [sizesB] at h0 ⊢
 rw [show (withZ s zs).zs.length = s.zs.length from hl]
 exact h0
theorem set_put {zs : List (List Int)} {z : Nat} {l : List Int} {c : Int} (hz : z < zs.length) (h : l.Perm (c :: zs.getD z [])) : (zs.set z l).flatten.Perm (c :: zs.flatten) := by
 have h1 := flat_set zs z l hz
 have h2 : (zs.flatten ++ l).Perm ((c :: zs.flatten) ++ zs.getD z []) := by
  refine (List.Perm.append_left _ h).trans ?_
  exact List.perm_middle
 exact (List.perm_append_right_iff _).1 (h1.trans h2)
theorem set_gone {zs : List (List Int)} {z : Nat} {l : List Int} {c : Int} (hz : z < zs.length) (h : (c :: l).Perm (zs.getD z [])) : (c :: (zs.set z l).flatten).Perm zs.flatten := by
 have h1 := flat_set zs z l hz
 have h2 : ((zs.set z l).flatten ++ zs.getD z []).Perm ((c :: (zs.set z l).flatten) ++ l) := by
  refine (List.Perm.append_left _ h.symm).trans ?_
  exact List.perm_middle
 exact (List.perm_append_right_iff _).1 (h2.symm.trans h1)
theorem moved_ok {s : Stt} (h : ff s = none) {z : Nat} {l : List Int} {c : Int} (hz : z < s.zs.length) (hl : (c :: l).Perm (s.zs.getD z [])) {y : Nat} {r : List Int} (hy : y < s.zs.length) (hr : r.Perm (c :: (s.zs.set z l).getD y [])) : ff (withZ s ((s.zs.set z l).set y r)) = none := by
 obtain ⟨h1,h2,h3⟩ := (ff_none s).1 h
 have p : ((s.zs.set z l).set y r).flatten.Perm s.zs.flatten := (set_put (by simpa using hy) hr).trans (set_gone hz hl)
 refine (ff_none _).2 ⟨rest_z h1 (by simp),⟨?_,fun x hx=>?_⟩,?_⟩
 ·exact p.nodup_iff.2 h2.1
 ·exact h2.2 x (p.mem_iff.1 hx)
 ·exact p.length_eq.trans h3
theorem ins_perm (l : List Int) (c : Int) (k : Nat) : (l.take k ++ c :: l.drop k).Perm (c :: l) := by
 have := List.perm_middle (a := c) (l₁ := l.take k) (l₂ := l.drop k)
 rwa [List.take_append_drop] at this
theorem cut_perm (l : List Int) (c : Int) (k : Nat) (hk : k < l.length) (hc : l.getD k 0 = c) : (c :: (l.take k ++ l.drop (k + 1))).Perm l := by
 have e : l.drop k = c :: l.drop (k + 1) := by
  rw [List.drop_eq_getElem_cons hk]
  rw [List.getD_eq_getElem?_getD,List.getElem?_eq_getElem hk] at hc
  simp at hc; rw [hc]
 have := List.perm_middle (a := c) (l₁ := l.take k) (l₂ := l.drop (k + 1))
 rw [<- e,List.take_append_drop] at this
 exact this.symm
def noS : Stt := ⟨[],[],[],0,0,0,0⟩
end ST
end Go.Proofs.YtodhjjeagmjhdaaGreatDoor
namespace Go.Proofs.YtodhjjeagmjhdaaGreatDoor
open Go.RowKit
namespace ST
def pv (p : Ply) : List Value := [.int .i32 p.life,.int .i32 p.energy,.bool p.out]
def cv (c : Crd) : List Value := [.int .i64 c.kind,.int .i64 c.owner,.int .i32 c.power,.int .i32 c.health,.int .i32 c.damage,.int .i32 c.marks]
def pvs (l : List Ply) : List Value := l.flatMap pv
def cvs (l : List Crd) : List Value := l.flatMap cv
def ivs (l : List Int) : List Value := l.map (fun z=>.int .i64 z)
theorem pvs_len (l : List Ply) : (pvs l).length = l.length * 3 := flat_len pv 3 (fun _=>rfl) l
theorem cvs_len (l : List Crd) : (cvs l).length = l.length * 6 := flat_len cv 6 (fun _=>rfl) l
theorem ivs_len (l : List Int) : (ivs l).length = l.length := by simp [ivs]
theorem ivs_get (l : List Int) (i : Nat) (hi : i < l.length) : (ivs l)[i]? = some (.int .i64 (l.getD i 0)) := by
 simp [ivs,List.getD_eq_getElem?_getD,List.getElem?_eq_getElem hi]
theorem pvs_get (l : List Ply) (i j : Nat) (hi : i < l.length) (hj : j < 3) : (pvs l)[i * 3 + j]? = (pv (l.getD i dp))[j]? := flat_get pv 3 (fun _=>rfl) dp l i j hi hj
theorem cvs_get (l : List Crd) (i j : Nat) (hi : i < l.length) (hj : j < 6) : (cvs l)[i * 6 + j]? = (cv (l.getD i dc))[j]? := flat_get cv 6 (fun _=>rfl) dc l i j hi hj
def IL (W : World) (v : Value) (l : List Int) : Prop := LC W v 1 l.length (ivs l)
def PLs (W : World) (v : Value) (l : List Ply) : Prop := LC W v 3 l.length (pvs l)
def CLs (W : World) (v : Value) (l : List Crd) : Prop := LC W v 6 l.length (cvs l)
def nl : Value := .slice none 0 0
def ZL (W : World) (v : Value) (zs : List (List Int)) : Prop := ∃ vs : List Value,LC W v 1 zs.length vs /\ ∀ i,i < zs.length -> IL W (vs.getD i nl) (zs.getD i [])
def sv (vp vc vz : Value) (s : Stt) : Value := .agg #[vp,vc,vz,.int .i32 s.turn,.int .i64 s.whose,.int .i8 s.fin,.int .i64 s.winner]
def StL (W : World) (v : Value) (s : Stt) : Prop := ∃ vp vc vz,v = sv vp vc vz s /\ PLs W vp s.ps /\ CLs W vc s.cs /\ ZL W vz s.zs
theorem IL.up {W W' : World} {v : Value} {l : List Int} (h : IL W v l) (u : Up W W') : IL W' v l := LC.up h u
theorem PLs.up {W W' : World} {v : Value} {l : List Ply} (h : PLs W v l) (u : Up W W') : PLs W' v l := LC.up h u
theorem CLs.up {W W' : World} {v : Value} {l : List Crd} (h : CLs W v l) (u : Up W W') : CLs W' v l := LC.up h u
theorem ZL.up {W W' : World} {v : Value} {zs : List (List Int)} (h : ZL W v zs) (u : Up W W') : ZL W' v zs := by
 obtain ⟨vs,h1,h2⟩ := h
 exact ⟨vs,h1.up u,fun i hi=>(h2 i hi).up u⟩
theorem StL.up {W W' : World} {v : Value} {s : Stt} (h : StL W v s) (u : Up W W') : StL W' v s := by
 obtain ⟨vp,vc,vz,hv,h1,h2,h3⟩ := h
 exact ⟨vp,vc,vz,hv,h1.up u,h2.up u,h3.up u⟩
theorem lc_at {w : World} {v : Value} {s n : Nat} {cs : List Value} (h : LC w v s n cs) : ∃ a cap,v = .slice a n cap /\ n <= cap /\ (n ≠ 0 -> ∃ b off,a = some ⟨b,off,none⟩ /\ (0 < s -> b < w.heap.size) /\ ∀ W,Up w W -> ∀ j,j < n * s -> W.cell? ⟨b,off + j,none⟩ = cs[j]?) := by
 obtain ⟨h0,a,cap,hv,hc,h⟩ := h
 refine ⟨a,cap,hv,hc,fun hn=>?_⟩
 obtain ⟨b,off,ha,hcell⟩ := h hn
 refine ⟨b,off,ha,fun hs=>?_,fun W hu j hj=>?_⟩
 ·have hp : 0 < n * s := Nat.mul_pos (by omega) hs
  have := hcell 0 hp
  rw [List.getElem?_eq_getElem (by omega)] at this
  exact World.block_lt_of_cell? w _ this
 ·have := hcell j hj
  rw [List.getElem?_eq_getElem (by omega)] at this ⊢
  exact hu.cell this
theorem il_at {w : World} {v : Value} {l : List Int} (h : IL w v l) : ∃ a cap,v = .slice a l.length cap /\ l.length <= cap /\ (l.length ≠ 0 -> ∃ b off,a = some ⟨b,off,none⟩ /\ ∀ W,Up w W -> ∀ i,i < l.length -> W.cell? ⟨b,off + i,none⟩ = some (.int .i64 (l.getD i 0))) := by
 obtain ⟨a,cap,hv,hc,h⟩ := lc_at h
 refine ⟨a,cap,hv,hc,fun hn=>?_⟩
 obtain ⟨b,off,ha,-,hcell⟩ := h hn
 exact ⟨b,off,ha,fun W hu i hi=>by rw [hcell W hu i (by omega)]; exact ivs_get l i hi⟩
theorem pl_at {w : World} {v : Value} {l : List Ply} (h : PLs w v l) : ∃ a cap,v = .slice a l.length cap /\ l.length <= cap /\ (l.length ≠ 0 -> ∃ b off,a = some ⟨b,off,none⟩ /\ ∀ W,Up w W -> ∀ i,i < l.length -> W.cell? ⟨b,off + i * 3,none⟩ = some (.int .i32 (l.getD i dp).life) /\ W.cell? ⟨b,off + i * 3 + 1,none⟩ = some (.int .i32 (l.getD i dp).energy) /\ W.cell? ⟨b,off + i * 3 + 2,none⟩ = some (.bool (l.getD i dp).out)) := by
 obtain ⟨a,cap,hv,hc,h⟩ := lc_at h
 refine ⟨a,cap,hv,hc,fun hn=>?_⟩
 obtain ⟨b,off,ha,-,hcell⟩ := h hn
 refine ⟨b,off,ha,fun W hu i hi=>?_⟩
 have k : ∀ j,j < 3 -> W.cell? ⟨b,off + (i * 3 + j),none⟩ = (pv (l.getD i dp))[j]? := fun j hj=>by
  rw [hcell W hu (i * 3 + j) (by omega)]; exact pvs_get l i j hi hj
 exact ⟨k 0 (by decide),k 1 (by decide),k 2 (by decide)⟩
theorem cl_at {w : World} {v : Value} {l : List Crd} (h : CLs w v l) : ∃ a cap,v = .slice a l.length cap /\ l.length <= cap /\ (l.length ≠ 0 -> ∃ b off,a = some ⟨b,off,none⟩ /\ ∀ W,Up w W -> ∀ i,i < l.length -> W.cell? ⟨b,off + i * 6,none⟩ = some (.int .i64 (l.getD i dc).kind) /\ W.cell? ⟨b,off + i * 6 + 1,none⟩ = some (.int .i64 (l.getD i dc).owner) /\ W.cell? ⟨b,off + i * 6 + 2,none⟩ = some (.int .i32 (l.getD i dc).power) /\ W.cell? ⟨b,off + i * 6 + 3,none⟩ = some (.int .i32 (l.getD i dc).health) /\ W.cell? ⟨b,off + i * 6 + 4,none⟩ = some (.int .i32 (l.getD i dc).damage) /\ W.cell? ⟨b,off + i * 6 + 5,none⟩ = some (.int .i32 (l.getD i dc).marks)) := by
 obtain ⟨a,cap,hv,hc,h⟩ := lc_at h
 refine ⟨a,cap,hv,hc,fun hn=>?_⟩
 obtain ⟨b,off,ha,-,hcell⟩ := h hn
 refine ⟨b,off,ha,fun W hu i hi=>?_⟩
 have k : ∀ j,j < 6 -> W.cell? ⟨b,off + (i * 6 + j),none⟩ = (cv (l.getD i dc))[j]? := fun j hj=>by
  rw [hcell W hu (i * 6 + j) (by omega)]; exact cvs_get l i j hi hj
 exact ⟨k 0 (by decide),k 1 (by decide),k 2 (by decide),k 3 (by decide),k 4 (by decide),k 5 (by decide)⟩
theorem zl_at {w : World} {v : Value} {zs : List (List Int)} (h : ZL w v zs) : ∃ a cap,v = .slice a zs.length cap /\ zs.length <= cap /\ (zs.length ≠ 0 -> ∃ b off,a = some ⟨b,off,none⟩ /\ ∀ r,r < zs.length -> ∃ ra rc,(∀ W,Up w W -> W.cell? ⟨b,off + r,none⟩ = some (.slice ra (zs.getD r []).length rc)) /\ IL w (.slice ra (zs.getD r []).length rc) (zs.getD r [])) := by
 obtain ⟨vs,h,h2⟩ := h
 have hl := h.1
 obtain ⟨a,cap,hv,hc,h⟩ := lc_at h
 refine ⟨a,cap,hv,hc,fun hn=>?_⟩
 obtain ⟨b,off,ha,-,hcell⟩ := h hn
 refine ⟨b,off,ha,fun r hr=>?_⟩
 have hi := h2 r hr
 obtain ⟨ra,rc,e,-,-⟩ := il_at hi
 refine ⟨ra,rc,fun W hu=>?_,by rw [e] at hi; exact hi⟩
 rw [hcell W hu r (by omega),List.getElem?_eq_getElem (by omega),<- e,List.getD_eq_getElem?_getD,List.getElem?_eq_getElem (by omega)]
 rfl
end ST
end Go.Proofs.YtodhjjeagmjhdaaGreatDoor
namespace Go.Proofs.YtodhjjeagmjhdaaGreatDoor
open Go.RowKit
attribute [local go_sem ↓] Go.wp_at_zero Go.wp_at_succ
namespace ST
set_option maxHeartbeats 1000000 in
theorem isStat_ (n : Int) (w : World) : Calls Tryz.prog 204 #[.int .i32 n] w fun e w'=>e = .returned (.bool (statB n)) /\ w' = w := by
 by_cases h1 : -1000000000 <= n
 ·by_cases h2 : n <= 1000000000
  ·go_enter Tryz.func204,Tryz.ntmps204
   go_wp2
   go_ret
   exact ⟨by simp [statB,h1,h2],rfl⟩
  ·go_enter Tryz.func204,Tryz.ntmps204
   go_wp2
   go_ret
   exact ⟨by simp [statB,h2],rfl⟩
 ·go_enter Tryz.func204,Tryz.ntmps204
  go_wp2
  go_ret
  exact ⟨by simp [statB]; omega,rfl⟩
set_option maxHeartbeats 1000000 in
theorem isNumber_ (x : Int) (n : Nat) (w : World) : Calls Tryz.prog 206 #[.int .i64 x,.int .i64 n] w fun e w'=>e = .returned (.bool (numB x n)) /\ w' = w := by
 by_cases h1 : 0 <= x
 ·by_cases h2 : x < (n : Int)
  ·go_enter Tryz.func206,Tryz.ntmps206
   go_wp2
   go_ret
   exact ⟨by simp [numB,h1,h2],rfl⟩
  ·go_enter Tryz.func206,Tryz.ntmps206
   go_wp2
   go_ret
   exact ⟨by simp [numB,h2],rfl⟩
 ·go_enter Tryz.func206,Tryz.ntmps206
  go_wp2
  go_ret
  exact ⟨by simp [numB]; omega,rfl⟩
set_option maxHeartbeats 1000000 in
theorem playersFit_ (n : Nat) (w : World) : Calls Tryz.prog 218 #[.int .i64 n] w fun e w'=>e = .returned (.bool (npB n)) /\ w' = w := by
 by_cases h1 : 2 <= n
 ·have h1' : (2 : Int) <= (n : Int) := by omega
  by_cases h2 : n <= 4
  ·have h2' : (n : Int) <= 4 := by omega
   go_enter Tryz.func218,Tryz.ntmps218
   go_wp2
   go_ret
   exact ⟨by simp [npB,h1,h2],rfl⟩
  ·have h2' : ¬ (n : Int) <= 4 := by omega
   go_enter Tryz.func218,Tryz.ntmps218
   go_wp2
   go_ret
   exact ⟨by simp [npB,h2],rfl⟩
 ·have h1' : ¬ (2 : Int) <= (n : Int) := by omega
  go_enter Tryz.func218,Tryz.ntmps218
  go_wp2
  go_ret
  exact ⟨by simp [npB,h1],rfl⟩
set_option maxHeartbeats 1000000 in
theorem cardsFit_ (n : Nat) (w : World) : Calls Tryz.prog 219 #[.int .i64 n] w fun e w'=>e = .returned (.bool (ncB n)) /\ w' = w := by
 by_cases h1 : 1 <= n
 ·have h1' : (1 : Int) <= (n : Int) := by omega
  by_cases h2 : n <= 256
  ·have h2' : (n : Int) <= 256 := by omega
   go_enter Tryz.func219,Tryz.ntmps219
   go_wp2
   go_ret
   exact ⟨by simp [ncB,h1,h2],rfl⟩
  ·have h2' : ¬ (n : Int) <= 256 := by omega
   go_enter Tryz.func219,Tryz.ntmps219
   go_wp2
   go_ret
   exact ⟨by simp [ncB,h2],rfl⟩
 ·have h1' : ¬ (1 : Int) <= (n : Int) := by omega
  go_enter Tryz.func219,Tryz.ntmps219
  go_wp2
  go_ret
  exact ⟨by simp [ncB,h1],rfl⟩
theorem isStatB (n : Int) (b : Bool) (h : statB n = b) (w : World) : Calls Tryz.prog 204 #[.int .i32 n] w fun e w'=>e = .returned (.bool b) /\ w' = w := by subst h; exact isStat_ n w
theorem isNumberB (x : Int) (n : Nat) (b : Bool) (h : numB x n = b) (w : World) : Calls Tryz.prog 206 #[.int .i64 x,.int .i64 n] w fun e w'=>e = .returned (.bool b) /\ w' = w := by subst h; exact isNumber_ x n w
theorem isNumberC (x : Int) (b : Bool) (h : numB x 256 = b) (w : World) : Calls Tryz.prog 206 #[.int .i64 x,.int .i64 256] w fun e w'=>e = .returned (.bool b) /\ w' = w := by subst h; exact isNumber_ x 256 w
theorem playersFitB (n : Nat) (b : Bool) (h : npB n = b) (w : World) : Calls Tryz.prog 218 #[.int .i64 n] w fun e w'=>e = .returned (.bool b) /\ w' = w := by subst h; exact playersFit_ n w
theorem cardsFitB (n : Nat) (b : Bool) (h : ncB n = b) (w : World) : Calls Tryz.prog 219 #[.int .i64 n] w fun e w'=>e = .returned (.bool b) /\ w' = w := by subst h; exact cardsFit_ n w
def cag (c : Crd) : Value := .agg #[.int .i64 c.kind,.int .i64 c.owner,.int .i32 c.power,.int .i32 c.health,.int .i32 c.damage,.int .i32 c.marks]
set_option maxHeartbeats 2000000 in
theorem cardFits_ (c : Crd) (w : World) : Calls Tryz.prog 205 #[cag c] w fun e w'=>e = .returned (.bool (crd0B c)) /\ Up w w' := by
 unfold cag
 cases h0 : numB c.kind 256
 ·go_enter Tryz.func205,Tryz.ntmps205
  go_wp2_with fail
  refine Calls.mono (isNumberC _ false h0 _) ?_
  rintro e w1 ⟨rfl,rfl⟩
  go_wp2
  go_ret
  exact ⟨by simp [crd0B,h0],(Up.refl _).alloc _⟩
 ·cases h1 : statB c.power
  ·go_enter Tryz.func205,Tryz.ntmps205
   go_wp2_with fail
   refine Calls.mono (isNumberC _ true h0 _) ?_
   rintro e w1 ⟨rfl,rfl⟩
   go_wp2_with fail
   refine Calls.mono (isStatB _ false h1 _) ?_
   rintro e w2 ⟨rfl,rfl⟩
   go_wp2
   go_ret
   exact ⟨by simp [crd0B,h1],(Up.refl _).alloc _⟩
  ·cases h2 : statB c.health
   ·go_enter Tryz.func205,Tryz.ntmps205
    go_wp2_with fail
    refine Calls.mono (isNumberC _ true h0 _) ?_
    rintro e w1 ⟨rfl,rfl⟩
    go_wp2_with fail
    refine Calls.mono (isStatB _ true h1 _) ?_
    rintro e w2 ⟨rfl,rfl⟩
    go_wp2_with fail
    refine Calls.mono (isStatB _ false h2 _) ?_
    rintro e w3 ⟨rfl,rfl⟩
    go_wp2
    go_ret
    exact ⟨by simp [crd0B,h2],(Up.refl _).alloc _⟩
   ·cases h3 : statB c.damage
    ·go_enter Tryz.func205,Tryz.ntmps205
     go_wp2_with fail
     refine Calls.mono (isNumberC _ true h0 _) ?_
     rintro e w1 ⟨rfl,rfl⟩
     go_wp2_with fail
     refine Calls.mono (isStatB _ true h1 _) ?_
     rintro e w2 ⟨rfl,rfl⟩
     go_wp2_with fail
     refine Calls.mono (isStatB _ true h2 _) ?_
     rintro e w3 ⟨rfl,rfl⟩
     go_wp2_with fail
     refine Calls.mono (isStatB _ false h3 _) ?_
     rintro e w4 ⟨rfl,rfl⟩
     go_wp2
     go_ret
     exact ⟨by simp [crd0B,h3],(Up.refl _).alloc _⟩
    ·cases h4 : statB c.marks
     ·go_enter Tryz.func205,Tryz.ntmps205
      go_wp2_with fail
      refine Calls.mono (isNumberC _ true h0 _) ?_
      rintro e w1 ⟨rfl,rfl⟩
      go_wp2_with fail
      refine Calls.mono (isStatB _ true h1 _) ?_
      rintro e w2 ⟨rfl,rfl⟩
      go_wp2_with fail
      refine Calls.mono (isStatB _ true h2 _) ?_
      rintro e w3 ⟨rfl,rfl⟩
      go_wp2_with fail
      refine Calls.mono (isStatB _ true h3 _) ?_
      rintro e w4 ⟨rfl,rfl⟩
      go_wp2_with fail
      refine Calls.mono (isStatB _ false h4 _) ?_
      rintro e w5 ⟨rfl,rfl⟩
      go_wp2
      go_ret
      exact ⟨by simp [crd0B,h4],(Up.refl _).alloc _⟩
     ·go_enter Tryz.func205,Tryz.ntmps205
      go_wp2_with fail
      refine Calls.mono (isNumberC _ true h0 _) ?_
      rintro e w1 ⟨rfl,rfl⟩
      go_wp2_with fail
      refine Calls.mono (isStatB _ true h1 _) ?_
      rintro e w2 ⟨rfl,rfl⟩
      go_wp2_with fail
      refine Calls.mono (isStatB _ true h2 _) ?_
      rintro e w3 ⟨rfl,rfl⟩
      go_wp2_with fail
      refine Calls.mono (isStatB _ true h3 _) ?_
      rintro e w4 ⟨rfl,rfl⟩
      go_wp2_with fail
      refine Calls.mono (isStatB _ true h4 _) ?_
      rintro e w5 ⟨rfl,rfl⟩
      go_wp2
      go_ret
      exact ⟨by simp [crd0B,h0,h1,h2,h3,h4],(Up.refl _).alloc _⟩
theorem cardFitsB (c : Crd) (b : Bool) (h : crd0B c = b) (w : World) : Calls Tryz.prog 205 #[cag c] w fun e w'=>e = .returned (.bool b) /\ Up w w' := by subst h; exact cardFits_ c w
set_option maxHeartbeats 2000000 in
theorem sizesFit_ (v : Value) (s : Stt) (w : World) (hs : StL w v s) (hn : s.ps.length <= 4294967296) : Calls Tryz.prog 203 #[v] w fun e w'=>e = .returned (.bool (sizesB s)) /\ Up w w' := by
 obtain ⟨vp,vc,vz,rfl,h1,h2,h3⟩ := hs
 obtain ⟨a1,k1,rfl,-,-⟩ := lc_at h1
 obtain ⟨a2,k2,rfl,-,-⟩ := lc_at h2
 obtain ⟨vs,h3,-⟩ := h3
 obtain ⟨a3,k3,rfl,-,-⟩ := lc_at h3
 clear h1 h2 h3
 unfold sv
 obtain ⟨np,hnp⟩ : ∃ n,n = s.ps.length := ⟨_,rfl⟩
 obtain ⟨nc,hnc⟩ : ∃ n,n = s.cs.length := ⟨_,rfl⟩
 obtain ⟨nz,hnz⟩ : ∃ n,n = s.zs.length := ⟨_,rfl⟩
 have HR : Hid (sizesB s = (npB np && ncB nc && decide (nz = 4 * np))) := by unfold Hid; rw [hnp,hnc,hnz]; rfl
 rw [<- hnp] at hn ⊢
 rw [<- hnc,<- hnz]
 generalize sizesB s = R at HR ⊢
 clear hnp hnc hnz
 cases e1 : npB np
 ·go_enter Tryz.func203,Tryz.ntmps203
  go_wp2_with fail
  go_quiet (fail)
  go_wp2_with fail
  refine Calls.mono (playersFitB _ false e1 _) ?_
  rintro e w1 ⟨rfl,rfl⟩
  go_wp2
  go_ret
  exact ⟨by rw [HR.out,e1]; rfl,((Up.refl _).alloc _).drewN _⟩
 ·cases e2 : ncB nc
  ·go_enter Tryz.func203,Tryz.ntmps203
   go_wp2_with fail
   go_quiet (fail)
   go_wp2_with fail
   refine Calls.mono (playersFitB _ true e1 _) ?_
   rintro e w1 ⟨rfl,rfl⟩
   go_wp2_with fail
   refine Calls.mono (cardsFitB _ false e2 _) ?_
   rintro e w1 ⟨rfl,rfl⟩
   go_wp2
   go_ret
   exact ⟨by rw [HR.out,e1,e2]; rfl,((Up.refl _).alloc _).drewN _⟩
  ·by_cases e3 : nz = 4 * np
   ·have e3' : ((nz : Int) == 4 * (np : Int)) = true := by simp; omega
    go_enter Tryz.func203,Tryz.ntmps203
    go_wp2_with fail
    go_quiet (fail)
    go_wp2_with fail
    refine Calls.mono (playersFitB _ true e1 _) ?_
    rintro e w1 ⟨rfl,rfl⟩
    go_wp2_with fail
    refine Calls.mono (cardsFitB _ true e2 _) ?_
    rintro e w1 ⟨rfl,rfl⟩
    go_wp2
    go_ret
    exact ⟨by rw [HR.out,e1,e2]; simp [e3],((Up.refl _).alloc _).drewN _⟩
   ·have e3' : ((nz : Int) == 4 * (np : Int)) = false := by simp; omega
    go_enter Tryz.func203,Tryz.ntmps203
    go_wp2_with fail
    go_quiet (fail)
    go_wp2_with fail
    refine Calls.mono (playersFitB _ true e1 _) ?_
    rintro e w1 ⟨rfl,rfl⟩
    go_wp2_with fail
    refine Calls.mono (cardsFitB _ true e2 _) ?_
    rintro e w1 ⟨rfl,rfl⟩
    go_wp2
    go_ret
    exact ⟨by rw [HR.out,e1,e2]; simp [e3],((Up.refl _).alloc _).drewN _⟩
end ST
end Go.Proofs.YtodhjjeagmjhdaaGreatDoor
namespace Go.Proofs.YtodhjjeagmjhdaaGreatDoor
open Go.RowKit
attribute [local go_sem ↓] Go.wp_at_zero Go.wp_at_succ
theorem Up.set {a w : World} (h : Up a w) (p : Addr) (v : Value) (hb : a.heap.size <= p.block) : Up a (w.setCell p v) := Below.setCell h hb v
theorem seven_cells {W : World} {a : Nat} {x0 x1 x2 x3 x4 x5 x6 : Value} {t : TypeId} (h : W.heap[a]? = some (.cells #[x0,x1,x2,x3,x4,x5,x6] t (0,0))) : W.cell? ⟨a,0,none⟩ = some x0 /\ W.cell? ⟨a,1,none⟩ = some x1 /\ W.cell? ⟨a,2,none⟩ = some x2 /\ W.cell? ⟨a,3,none⟩ = some x3 /\ W.cell? ⟨a,4,none⟩ = some x4 /\ W.cell? ⟨a,5,none⟩ = some x5 /\ W.cell? ⟨a,6,none⟩ = some x6 := by
 refine ⟨by simp [World.cell?,h],by simp [World.cell?,h],by simp [World.cell?,h],by simp [World.cell?,h],by simp [World.cell?,h],by simp [World.cell?,h],by simp [World.cell?,h]⟩
namespace ST
theorem info87 : (Tryz.prog.info? 206).map (fun i=>(i.zero,i.size)) = some (some (.agg (Array.replicate 256 (.bool false))),256) := by kernel_rfl
def seenA (l : List Int) (k : Nat) : Array Value := ((List.range 256).map fun j : Nat=>Value.bool (decide ((j : Int) ∈ l.take k))).toArray
theorem seen_zero (l : List Int) : Array.replicate 256 (Value.bool false) = seenA l 0 := by
 apply Array.ext
 ·simp [seenA]
 ·intro i h1 h2
  simp [seenA]
theorem seen_cell {W : World} {g : Nat} {l : List Int} {k : Nat} {t : TypeId} (h : W.heap[g]? = some (.cells (seenA l k) t (0,0))) (e : Nat) (he : e < 256) : W.cell? ⟨g,e,none⟩ = some (.bool (decide ((e : Int) ∈ l.take k))) /\ W.frozen? ⟨g,e,none⟩ = false := by
 refine ⟨?_,by simp [World.frozen?,h]⟩
 simp only [World.cell?,h]
 simp [seenA,he]
theorem seenA_set (l : List Int) (k e : Nat) (he : l[k]? = some (e : Int)) : (seenA l k).setIfInBounds e (.bool true) = seenA l (k + 1) := by
 apply Array.ext
 ·simp [seenA]
 ·intro i h1 h2
  simp only [seenA,List.setIfInBounds_toArray,List.getElem_toArray,List.getElem_set,List.getElem_map,List.getElem_range]
  have ht : l.take (k + 1) = l.take k ++ [(e : Int)] := by rw [List.take_add_one,he]; rfl
  rw [ht]
  by_cases c : e = i
  ·subst c; simp
  ·rw [if_neg c]
   have : ¬ (i : Int) = (e : Int) := by omega
   simp [this]
theorem seen_set {W : World} {g : Nat} {l : List Int} {k : Nat} {t : TypeId} (h : W.heap[g]? = some (.cells (seenA l k) t (0,0))) (e : Nat) (he : l[k]? = some (e : Int)) : (W.setCell ⟨g,e,none⟩ (.bool true)).heap[g]? = some (.cells (seenA l (k + 1)) t (0,0)) := by
 rw [<- seenA_set l k e he]
 simp only [World.setCell,Array.getElem?_modify]
 rw [h]
 simp
theorem flat_at (zs : List (List Int)) : ∀ (z i : Nat),z < zs.length -> i < (zs.getD z []).length -> zs.flatten[(zs.take z).flatten.length + i]? = some ((zs.getD z []).getD i 0) := by
 induction zs with
 | nil=>intro z i h; simp at h
 | cons l zs ih =>
  intro z i hz hi
  cases z with
  | zero =>
   simp at hi
   rw [List.take_zero,List.flatten_nil,List.length_nil,Nat.zero_add,List.flatten_cons,List.getElem?_append_left hi,List.getElem?_eq_getElem hi]
   simp [List.getElem?_eq_getElem hi]
  | succ z =>
   simp only [List.take_succ_cons,List.flatten_cons,List.length_append,List.getD_cons_succ] at hi ⊢
   rw [Nat.add_assoc,List.getElem?_append_right (by omega),Nat.add_sub_cancel_left]
   exact ih z i (by simpa using hz) hi
theorem flat_next (zs : List (List Int)) : ∀ (z : Nat),z < zs.length -> (zs.take (z + 1)).flatten.length = (zs.take z).flatten.length + (zs.getD z []).length := by
 intro z hz
 rw [List.take_add_one,List.getElem?_eq_getElem hz,List.flatten_append,List.length_append,List.getD_eq_getElem?_getD,List.getElem?_eq_getElem hz]
 simp
def off (zs : List (List Int)) (z : Nat) : Nat := (zs.take z).flatten.length
def GI (w W : World) (g b0 : Nat) (box : Array Value) (m : Nat) (l : List Int) (k : Nat) : Prop := W.heap[b0]? = some (.cells box 27 (0,0)) /\ W.heap[g]? = some (.cells (seenA l k) 206 (0,0)) /\ Up w W /\ ∀ j,j < k -> okAt m l j = true
def GPost (w : World) (m : Nat) (l : List Int) (e : Ending) (w' : World) : Prop := e = .returned (.tuple #[.int .i64 (good m l),.bool (decide (good m l = l.length))]) /\ Up w w'
set_option maxRecDepth 100000 in
set_option maxHeartbeats 4000000 in
theorem goodEntries_ (v : Value) (s : Stt) (w : World) (hs : StL w v s) (hm : s.cs.length <= 256) (hz : s.zs.length <= 4294967296) (hl : ∀ r,r < s.zs.length -> (s.zs.getD r []).length <= 4294967296) :
  Calls Tryz.prog 207 #[v] w (GPost w s.cs.length (flat s)) := by
 obtain ⟨vp,vc,vz,rfl,-,h2,h3⟩ := hs
 obtain ⟨a2,k2,rfl,-,-⟩ := lc_at h2
 obtain ⟨a3,k3,rfl,-,c3⟩ := zl_at h3
 clear h2 h3
 unfold sv
 obtain ⟨hv87,hi87⟩ := zero_of_info (P := Tryz.prog) info87
 obtain ⟨m,hm0⟩ : ∃ n,n = s.cs.length := ⟨_,rfl⟩
 obtain ⟨zs,hzs⟩ : ∃ n,n = s.zs := ⟨_,rfl⟩
 obtain ⟨n,hn0⟩ : ∃ n,n = zs.length := ⟨_,rfl⟩
 rw [show flat s = zs.flatten by rw [hzs]; rfl]
 rw [<- hm0] at hm ⊢
 rw [<- hzs] at hz hl c3 ⊢
 rw [<- hn0] at hz hl c3 ⊢
 obtain ⟨Post,hPost⟩ : ∃ P : Ending -> World -> Prop,P = GPost w m zs.flatten := ⟨_,rfl⟩
 rw [<- hPost]
 have HP : Hid (Post = GPost w m zs.flatten) := hPost
 have HC : Hid _ := c3
 have HL : Hid _ := hl
 have HN : Hid (n = zs.length) := hn0
 obtain ⟨g,hg⟩ : ∃ g,g = w.heap.size + 1 := ⟨_,rfl⟩
 obtain ⟨b0,hb0⟩ : ∃ g,g = w.heap.size := ⟨_,rfl⟩
 have HG : Hid (g = w.heap.size + 1 /\ b0 = w.heap.size) := ⟨hg,hb0⟩
 clear hPost c3 hl hn0 hm0 hzs
 generalize s.turn = tu
 generalize s.whose = wo
 generalize s.fin = fi
 generalize s.winner = wi
 go_enter Tryz.func207,Tryz.ntmps207
 go_wp2_with fail
 go_step3
 go_wp2_with fail
 rw [seen_zero zs.flatten]
 clear hv87 hi87
 go_step3
 go_wp2_with fail
 obtain ⟨box,hbox⟩ : ∃ b : Array Value,b = #[vp,.slice a2 m k2,.slice a3 n k3,.int .i32 tu,.int .i64 wo,.int .i8 fi,.int .i64 wi] := ⟨_,rfl⟩
 have HI : Hid (GI w ((w.alloc (.cells #[vp,.slice a2 m k2,.slice a3 n k3,.int .i32 tu,.int .i64 wo,.int .i8 fi,.int .i64 wi] 27)).alloc (.cells (seenA zs.flatten 0) 206)) g b0 box m zs.flatten 0) := by
  refine ⟨?_,?_,((Up.refl _).alloc _).alloc _,fun j hj=>by omega⟩
  ·rw [hb0,hbox,Below.heap_alloc _ _ _ (by simp)]; exact heap_alloc_new w _
  ·rw [hg]
   have := heap_alloc_new (w.alloc (.cells #[vp,.slice a2 m k2,.slice a3 n k3,.int .i32 tu,.int .i64 wo,.int .i8 fi,.int .i64 wi] 27)) (.cells (seenA zs.flatten 0) 206)
   simpa using this
 have HB : Hid _ := hbox
 rw [<- hg,<- hb0]
 clear hbox hg hb0
 go_loopw [2,3,12] (fun s2 s3 s12 W=>∃ z k : Nat,z <= n /\ s12 = .int .i64 z /\ s2 = .int .i64 k /\ s3 = .bool true /\ k = off zs z /\ GI w W g b0 box m zs.flatten k) (fun _ _ s12 _=>n - (intOf s12).toNat)
 case atStart=>exact ⟨0,0,Nat.zero_le _,rfl,rfl,rfl,rfl,HI.out⟩
 case round =>
  obtain ⟨z,k,hzn,rfl,rfl,rfl,hk,hi⟩ := hrel
  clear HI
  obtain ⟨i1,i2,i3,i4⟩ := hi
  have HK : Hid (k = off zs z) := hk
  have HX : Hid (wr.heap[b0]? = some (.cells box 27 (0,0)) /\ wr.heap[g]? = some (.cells (seenA zs.flatten k) 206 (0,0)) /\ Up w wr /\ ∀ j,j < k -> okAt m zs.flatten j = true) := ⟨i1,i2,i3,i4⟩
  clear hk i1 i2 i3 i4
  by_cases hlt : z < n
  ·have hlt2 : (z : Int) < (n : Int) := by omega
   obtain ⟨b3,o3,rfl,hrow⟩ := HC.out (by omega)
   obtain ⟨ra,rc,hcell,hil⟩ := hrow z hlt
   have hlen := HL.out z hlt
   obtain ⟨_,_,hra,-,hin⟩ := il_at hil
   cases hra
   have x1 := hcell wr HX.out.2.2.1
   have HRow : Hid (∀ i,i < (zs.getD z []).length -> zs.flatten[k + i]? = some ((zs.getD z []).getD i 0)) := fun i hi=>by rw [HK.out]; exact flat_at zs z i (by rw [<- HN.out]; exact hlt) hi
   have HNx : Hid (k + (zs.getD z []).length = off zs (z + 1)) := by unfold Hid; rw [HK.out]; exact (flat_next zs z (by rw [<- HN.out]; exact hlt)).symm
   clear hcell hrow hil
   obtain ⟨r,hr⟩ : ∃ r,r = zs.getD z [] := ⟨_,rfl⟩
   rw [<- hr] at x1 hlen hin HRow HNx
   obtain ⟨q,hq⟩ : ∃ q,q = r.length := ⟨_,rfl⟩
   rw [<- hq] at x1 hlen hin HRow HNx
   have HIn : Hid _ := hin
   clear hr hq hin
   go_wp2_with fail
   go_loopw [2,3,18] (fun s2 s3 s18 W=>∃ i : Nat,i <= q /\ s18 = .int .i64 i /\ s2 = .int .i64 ((k + i : Nat) : Int) /\ s3 = .bool true /\ GI w W g b0 box m zs.flatten (k + i)) (fun _ _ s18 _=>q - (intOf s18).toNat)
   case atStart=>exact ⟨0,Nat.zero_le _,rfl,rfl,rfl,HX.out⟩
   case round =>
    obtain ⟨i,hiq,rfl,rfl,rfl,hgi⟩ := hrel
    clear HX x1
    obtain ⟨i1,i2,i3,i4⟩ := hgi
    by_cases hlt3 : i < q
    ·have hlt4 : (i : Int) < (q : Int) := by omega
     obtain ⟨b4,o4,rfl,hc4⟩ := HIn.out (by omega)
     have x1 := hc4 _ i3 i hlt3
     have hent := HRow.out i hlt3
     have HE : Hid (zs.flatten[k + i]? = some (r.getD i 0)) := hent
     have hb := i1
     rw [HB.out] at hb
     obtain ⟨-,y1,-,-,-,-,-⟩ := seven_cells hb
     have HO : Hid (okAt m zs.flatten (k + i) = (numB (r.getD i 0) m && !(zs.flatten.take (k + i)).contains (r.getD i 0))) := by unfold Hid; rw [okAt,hent]
     have HI2 : Hid (wr.heap[b0]? = some (.cells box 27 (0,0)) /\ Up w wr /\ ∀ j,j < k + i -> okAt m zs.flatten j = true) := ⟨i1,i3,i4⟩
     have HI3 : Hid _ := i2
     clear hent hc4 hb i1 i2 i3 i4
     generalize r.getD i 0 = x at *
     cases hnb : numB x m
     ·clear HI3
      have HF : Hid (good m zs.flatten = k + i /\ k + i < zs.flatten.length) := by
       have hlt9 : k + i < zs.flatten.length := (List.getElem?_eq_some_iff.1 HE.out).1
       exact ⟨good_at m _ _ (by omega) HI2.out.2.2 (fun _=>by rw [HO.out,hnb]; rfl),hlt9⟩
      have HU : Hid (Up w wr) := HI2.out.2.1
      clear HI2 HO HE
      go_wp2_with fail
      refine Calls.mono (isNumberB _ _ false hnb _) ?_
      rintro e9 w9 ⟨rfl,rfl⟩
      go_wp2
      rw [HP.out]
      refine ⟨?_,HU.out⟩
      rw [HF.out.1,decide_eq_false (by have := HF.out.2; omega),Int.natCast_add]
      rfl
     ·obtain ⟨e,rfl,hem⟩ : ∃ e : Nat,x = (e : Int) /\ e < m := by
       simp only [numB,Bool.and_eq_true,decide_eq_true_eq] at hnb
       exact ⟨x.toNat,by omega,by omega⟩
      obtain ⟨y2,y3⟩ := seen_cell HI3.out e (by omega)
      have he256 : e < 256 := by omega
      have he256' : (e : Int) < 256 := by omega
      by_cases hin : (e : Int) ∈ zs.flatten.take (k + i)
      ·have hcn : (zs.flatten.take (k + i)).contains (e : Int) = true := List.contains_iff_mem.2 hin
       rw [decide_eq_true hin] at y2
       have HF : Hid (good m zs.flatten = k + i /\ k + i < zs.flatten.length) := by
        have hlt9 : k + i < zs.flatten.length := (List.getElem?_eq_some_iff.1 HE.out).1
        exact ⟨good_at m _ _ (by omega) HI2.out.2.2 (fun _=>by rw [HO.out,hnb,hcn]; rfl),hlt9⟩
       have HU : Hid (Up w wr) := HI2.out.2.1
       clear HI2 HO HE hin hcn
       go_wp2_with fail
       refine Calls.mono (isNumberB _ _ true hnb _) ?_
       rintro e9 w9 ⟨rfl,rfl⟩
       go_wp2
       rw [HP.out]
       refine ⟨?_,HU.out⟩
       rw [HF.out.1,decide_eq_false (by have := HF.out.2; omega),Int.natCast_add]
       rfl
      ·have hcn : (zs.flatten.take (k + i)).contains (e : Int) = false := by
        rw [Bool.eq_false_iff]; intro hc; exact hin (List.contains_iff_mem.1 hc)
       rw [decide_eq_false hin] at y2
       have HR : Hid (GI w (wr.setCell ⟨g,e,none⟩ (.bool true)) g b0 box m zs.flatten (k + i + 1)) := by
        refine ⟨?_,seen_set HI3.out e HE.out,Up.set HI2.out.2.1 _ _ (by show w.heap.size <= g; have := HG.out.1; omega),fun j hj=>?_⟩
        ·rw [Below.heap_setCell _ _ _ _ (by have h1 := HG.out.1; have h2 := HG.out.2; show b0 ≠ g; omega)]; exact HI2.out.1
        ·by_cases ej : j = k + i
         ·subst ej; rw [HO.out,hnb,hcn]; rfl
         ·exact HI2.out.2.2 j (by omega)
       have hsm : k + i <= m := good_small m zs.flatten (k + i) (by have := (List.getElem?_eq_some_iff.1 HE.out).1; omega) HI2.out.2.2
       clear HI2 HO HE hin hcn HI3
       go_wp2_with fail
       refine Calls.mono (isNumberB _ _ true hnb _) ?_
       rintro e9 w9 ⟨rfl,rfl⟩
       go_wp2_with fail
       go_roundw
       case rel=>exact ⟨i + 1,by omega,by go_num,by go_num,rfl,HR.out⟩
       case measure=>simp [intOf]; omega
    ·have hlt4 : ¬ (i : Int) < (q : Int) := by omega
     have hiq2 : i = q := by omega
     subst hiq2
     have HX2 : Hid (GI w wr g b0 box m zs.flatten (k + i)) := ⟨i1,i2,i3,i4⟩
     clear i1 i2 i3 i4
     go_wp2_with fail
     go_roundw
     case rel=>exact ⟨z + 1,k + i,by omega,by go_num,rfl,rfl,HNx.out,HX2.out⟩
     case measure=>simp [intOf]; omega
  ·have hlt2 : ¬ (z : Int) < (n : Int) := by omega
   have HF : Hid (good m zs.flatten = k /\ zs.flatten.length = k) := by
    have hzz : z = zs.length := by have := HN.out; omega
    have hkk : zs.flatten.length = k := by rw [HK.out,off,hzz,List.take_length]
    exact ⟨good_at m _ k (by omega) HX.out.2.2.2 (by omega),hkk⟩
   go_wp2
   rw [HP.out]
   refine ⟨?_,HX.out.2.2.1⟩
   rw [HF.out.1,HF.out.2]
   simp
end ST
end Go.Proofs.YtodhjjeagmjhdaaGreatDoor
namespace Go.Proofs.YtodhjjeagmjhdaaGreatDoor
open Go
section
variable {P : Program} {ops : Array Oper} {md : Region.Mode} {C : World -> Prop}
def wpAnyT (P : Program) (md : Region.Mode) (ops : Array Oper) (n : Nat) (C : World -> Prop) (R : Act -> Prop) : Nat -> Array Bool -> Act -> Prop
 | 0,listed,a=>Region.ready md ops listed = [n] /\ Region.ready md ops (listed.setIfInBounds n true) = [] /\ R a
 | fuel + 1,listed,a=>Region.ready md ops listed ≠ [] /\ n ∉ Region.ready md ops listed /\ ∀ i ∈ Region.ready md ops listed,qOp P ops C i (wpAnyT P md ops n C R fuel (listed.setIfInBounds i true)) a
def waitsB (md : Region.Mode) (ops : Array Oper) (n : Nat) : Bool := ((ops[n]?).map fun o=>(List.range n).all fun i=>o.after.any fun e=>Region.binds md e && e.on == i).getD false && decide (ops.size = n + 1)
theorem waits_spec {n : Nat} (h : waitsB md ops n = true) {i : Nat} (hi : i < n) {listed : Array Bool} (hr : i ∈ Region.ready md ops listed) : n ∉ Region.ready md ops listed := by
 intro hn
 obtain ⟨_,o,ho,hall⟩ := mem_ready.1 hn
 have h0 := (mem_ready.1 hr).1
 simp only [waitsB,ho,Option.map_some,Option.getD_some,Bool.and_eq_true] at h
 have h1 := List.all_eq_true.1 h.1 i (List.mem_range.2 hi)
 obtain ⟨e,he,hb⟩ := Array.any_eq_true'.1 h1
 simp only [Bool.and_eq_true,beq_iff_eq] at hb
 have h2 := hall e he hb.1
 rw [hb.2] at h2
 rcases Nat.lt_or_ge i listed.size with h' | h'
 ·simp [h'] at h0 h2; rw [h0] at h2; cases h2
 ·simp [Array.getElem?_eq_none h'] at h2
theorem wpAnyT_first {n : Nat} (hW : waitsB md ops n = true) {R : Act -> Prop} {i : Nat} (hin : i < n) {oi : Oper} {v : Value} (hi : ops[i]? = some oi) (hsel : ∀ (j : Nat) (o : Oper) cs b,ops[j]? = some o -> o.op ≠ .select cs b) :
  ∀ (fuel : Nat) (listed : Array Bool) (a : Act),
   (∀ j oj,ops[j]? = some oj -> j ≠ i -> listed.getD j true = false -> (∀ e ∈ oj.after,Region.binds md e = true -> e.on ≠ i) -> oi.apart ops oj = true) ->
   i ∈ Region.ready md ops listed -> YieldsIn P ops C oi v a ->
   wpAnyT P md ops n C R fuel (listed.setIfInBounds i true) (a.put oi.dst v) -> wpAnyT P md ops n C R (fuel + 1) listed a := by
 intro fuel
 induction fuel with
 | zero =>
  intro listed a _ hr hy H
  have hnn := waits_spec hW hin hr
  refine ⟨fun h=>(by rw [h] at hr; cases hr),hnn,fun j hj=>?_⟩
  by_cases hji : j = i
  ·subst hji; exact hy.qOp hi H
  ·have := ready_mono hj hji
   rw [H.1] at this
   simp at this
   subst this
   exact (hnn hj).elim
 | succ fuel ih =>
  intro listed a hfree hr hy H
  refine ⟨fun h=>(by rw [h] at hr; cases hr),waits_spec hW hin hr,fun j hj=>?_⟩
  by_cases hji : j = i
  ·subst hji; exact hy.qOp hi H
  ·have h1 := H.2.2 j (ready_mono hj hji)
   obtain ⟨hjun,oj,hoj,hall⟩ := mem_ready.1 hj
   have hnot : ∀ e ∈ oj.after,Region.binds md e = true -> e.on ≠ i := fun e he hb heq=>by
    have h1 := hall e he hb
    have h0 := (mem_ready.1 hr).1
    rw [heq] at h1
    rcases Nat.lt_or_ge i listed.size with h' | h'
    ·simp [h'] at h0 h1; rw [h0] at h1; cases h1
    ·simp [Array.getElem?_eq_none h'] at h1
   have h2 := qOp_put hoj (hfree j oj hoj hji hjun hnot) (fun cs b=>hsel i oi cs b hi) (fun cs b=>hsel j oj cs b hoj) hy h1
   have hfree' : ∀ k ok,ops[k]? = some ok -> k ≠ i -> (listed.setIfInBounds j true).getD k true = false ->
     (∀ e ∈ ok.after,Region.binds md e = true -> e.on ≠ i) -> oi.apart ops ok = true := fun k ok hk hki hun hno=>by
    refine hfree k ok hk hki ?_ hno
    by_cases hjk : j = k
    ·subst hjk; exact hjun
    ·rw [getD_set_ne true hjk] at hun; exact hun
   refine qOp_mono (fun a' h3=>ih (listed.setIfInBounds j true) a' hfree' (ready_mono hr (Ne.symm hji)) h3.1 ?_) h2
   rw [Array.setIfInBounds_comm _ _ hji]
   exact h3.2
def lexT (md : Region.Mode) (ops : Array Oper) (n : Nat) : Nat -> Nat -> Array Bool -> Bool
 | 0,_,listed=>(Region.ready md ops listed == [n]) && (Region.ready md ops (listed.setIfInBounds n true)).isEmpty
 | fuel + 1,k,listed=>(Region.ready md ops listed).contains k && decide (k < n) && Region.free md ops listed k && lexT md ops n fuel (k + 1) (listed.setIfInBounds k true)
def lastB (md : Region.Mode) (ops : Array Oper) (n : Nat) : Bool := Region.noSelect ops && waitsB md ops n && lexT md ops n n 0 (Array.replicate ops.size false)
theorem wpAnyT_lex {n : Nat} (hW : waitsB md ops n = true) {R : Act -> Prop} (hs : Region.noSelect ops = true) : ∀ (l : List Oper) (k : Nat) (listed : Array Bool) (a : Act),(∀ j o,l[j]? = some o -> ops[k + j]? = some o) ->
  lexT md ops n l.length k listed = true -> wpQuiet P ops C R l a -> wpAnyT P md ops n C R l.length listed a
 | [],_,_,_,_,hB,h=>by
  simp only [List.length_nil,lexT,Bool.and_eq_true,beq_iff_eq,List.isEmpty_iff] at hB
  exact ⟨hB.1,hB.2,h⟩
 | o :: l,k,listed,a,hl,hB,h=>by
  have h0 : ops[k]? = some o := hl 0 o rfl
  simp only [List.length_cons,lexT,Bool.and_eq_true,decide_eq_true_eq] at hB
  obtain ⟨⟨⟨hr,hk⟩,hf⟩,hB'⟩ := hB
  have hst : qOp P ops C k (wpQuiet P ops C R l) a := by unfold qOp; simp only [h0]; exact h
  obtain ⟨v,hy,hK⟩ := yieldsIn_of_qOp h0 hst
  exact wpAnyT_first hW hk h0 (Region.noSelect_spec hs) l.length listed a (Region.free_spec h0 hf) (by simpa using hr) hy
   (wpAnyT_lex hW hs l (k + 1) _ _ (fun j o' hj=>by have := hl (j + 1) o' (by simpa using hj); simpa [Nat.add_assoc,Nat.add_comm 1 j] using this) hB' hK)
theorem wpAny_of_T {n : Nat} {Q : Exit -> Act -> World -> Prop} : ∀ (fuel : Nat) (listed : Array Bool) (a : Act) (w : World),C w ->
  wpAnyT P md ops n C (fun a'=>∀ w',C w' -> wpOp P ops Q n (fun a w=>Q .normal a w) a' w') fuel listed a -> wpAny P md ops Q (fuel + 1) listed a w
 | 0,_,_,_,hw,⟨h1,h2,h3⟩=>⟨fun h0=>(by rw [h1] at h0; cases h0),fun i hi=>by
   rw [h1] at hi
   simp at hi
   subst hi
   exact wpOp_mono (fun a w h=>⟨h2,h⟩) (h3 _ hw)⟩
 | fuel + 1,_,_,_,hw,⟨h1,_,h3⟩=>⟨fun h0=>(h1 h0).elim,fun i hi=>wpOp_of_qOp hw (fun a' w' hw' h=>wpAny_of_T fuel _ a' w' hw' h) (h3 i hi)⟩
theorem wp_region_last {id : Nat} {Q : Exit -> Act -> World -> Prop} {a : Act} {w : World} {l : List Oper} (n : Nat) (hm : P.follows .mixedOrders = true) (hB : lastB .any l.toArray n = true)
  (h : wpQuiet P l.toArray (fun w'=>∃ n,w' = w.drewN n) (fun a'=>∀ w',(∃ n,w' = w.drewN n) -> wpList P l.toArray Q (l.drop n) a' w') (l.take n) a) : (Code.region id l.toArray true).wp P Q a w := by
 simp only [lastB,Bool.and_eq_true] at hB
 obtain ⟨⟨hs,hW⟩,hL⟩ := hB
 have hsz : l.length = n + 1 := by
  simp only [waitsB,Bool.and_eq_true,decide_eq_true_eq] at hW
  simpa using hW.2
 refine wp_region_any hm ?_
 rw [show l.toArray.size = n + 1 by simpa using hsz]
 refine wpAny_of_T (C := fun w'=>∃ n,w' = w.drewN n) (n := n) n _ a _ ⟨1,rfl⟩ ?_
 have hl : (l.take n).length = n := by simp; omega
 have hd : l.drop n = [l[n]'(by omega)] := by
  rw [List.drop_eq_getElem_cons (by omega),List.drop_of_length_le (by omega)]
 have key := wpAnyT_lex (P := P) (md := .any) (C := fun w'=>∃ n,w' = w.drewN n) hW (R := fun a'=>∀ w',(∃ n,w' = w.drewN n) -> wpOp P l.toArray Q n (fun a w=>Q .normal a w) a' w') hs (l.take n) 0 (Array.replicate (n + 1) false) a
  (fun j o hj=>by
   rw [List.getElem?_take] at hj
   split at hj
   ·simpa using hj
   ·cases hj)
  (by rw [hl]; simpa [hsz] using hL)
  (by
   rw [hd] at h
   have e : ∀ a' w',wpList P l.toArray Q [l[n]'(by omega)] a' w' -> wpOp P l.toArray Q n (fun a w=>Q .normal a w) a' w' := by
    intro a' w' hh
    unfold wpOp
    rw [show l.toArray[n]? = some (l[n]'(by omega)) by simp [List.getElem?_eq_getElem (show n < l.length by omega)]]
    simpa [wpList] using hh
   have mono : ∀ (r : List Oper) (a : Act),wpQuiet P l.toArray (fun w'=>∃ n,w' = w.drewN n) (fun a'=>∀ w',(∃ n,w' = w.drewN n) -> wpList P l.toArray Q [l[n]'(by omega)] a' w') r a -> wpQuiet P l.toArray (fun w'=>∃ n,w' = w.drewN n) (fun a'=>∀ w',(∃ n,w' = w.drewN n) -> wpOp P l.toArray Q n (fun a w=>Q .normal a w) a' w') r a := by
    intro r
    induction r with
    | nil=>intro a h w' hw'; exact e _ _ (h w' hw')
    | cons o r ih =>
     intro a h
     unfold wpQuiet at h ⊢
     split
     ·rename_i hw
      rw [if_pos hw] at h
      exact Oper.quiet_mono ih h
     ·rename_i hw
      rw [if_neg hw] at h
      exact ih _ h
   exact mono _ _ h)
 rw [hl] at key
 exact key
end
end Go.Proofs.YtodhjjeagmjhdaaGreatDoor
