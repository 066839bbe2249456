/- Pu6, Pd6, Pm6, Pn6, Po6, Pq6 -/
import Derived.Test.YtodhjjeagmjhdaaGreatDoorDo6VX
import Derived.Test.YtodhjjeagmjhdaaGreatDoorRuVX
namespace Go.Proofs.YtodhjjeagmjhdaaGreatDoor
open Go.RowKit
namespace DE
open Go.Proofs.YtodhjjeagmjhdaaGreatDoor.ST
def restB (e : Ev) : Bool :=
 if e.kind = 1 then nothingB (moveR e) && decide (e.ord.length = 0) else if e.kind = 2 then nothingB (cardR e) && decide (e.ord.length = 0) else if e.kind = 3 then nothingB (playerR e) && decide (e.ord.length = 0)
 else if e.kind = 4 then nothingB (shuffleR e) else if e.kind = 5 then nothingB (outR e) && decide (e.ord.length = 0) else if e.kind = 6 then nothingB (turnR e) && decide (e.ord.length = 0) else if e.kind = 7 then nothingB (endR e) && decide (e.ord.length = 0) else false
def fitB (s : Stt) (e : Ev) : Bool :=
 if e.kind = 1 then moveFitsB s e else if e.kind = 2 then cardFitsB s e else if e.kind = 3 then playerFitsB s e else if e.kind = 4 then shuffleFitsB s e else if e.kind = 5 then outFitsB s e else if e.kind = 6 then turnFitsB s e else endFitsB s e
def leadB (s : Stt) (e : Ev) : Bool :=
 if e.kind = 1 then moveFitsB s (turnedE e) else if e.kind = 2 then cardFitsB s (turnedE e) else if e.kind = 3 then playerFitsB s (turnedE e) else if e.kind = 4 then shuffleFitsB s e else if e.kind = 5 then outLeadsB s e else if e.kind = 6 then turnLeadsB s e else endLeadsB s e
def behindS (s : Stt) (e : Ev) : Stt :=
 if e.kind = 1 then { s with zs := moveZ s.zs e.fr.toNat e.frAt.toNat e.to_.toNat e.toAt.toNat e.card }
 else if e.kind = 2 then { s with cs := s.cs.set e.card.toNat (cSet (s.cs.getD e.card.toNat dc) e.field e.now) }
 else if e.kind = 3 then { s with ps := s.ps.set e.player.toNat (pSet (s.ps.getD e.player.toNat dp) e.field e.now) }
 else if e.kind = 4 then { s with zs := s.zs.set e.fr.toNat (shufL (zn s e.fr) e.ord) }
 else if e.kind = 5 then { s with ps := s.ps.set e.player.toNat { s.ps.getD e.player.toNat dp with out := true } }
 else if e.kind = 6 then { s with turn := e.now,whose := e.other } else { s with fin := IntKind.i8.wrap e.now,winner := e.player }
def aheadS (s : Stt) (e : Ev) : Stt :=
 if e.kind = 1 then { s with zs := moveZ s.zs e.to_.toNat e.toAt.toNat e.fr.toNat e.frAt.toNat e.card }
 else if e.kind = 2 then { s with cs := s.cs.set e.card.toNat (cSet (s.cs.getD e.card.toNat dc) e.field e.was) }
 else if e.kind = 3 then { s with ps := s.ps.set e.player.toNat (pSet (s.ps.getD e.player.toNat dp) e.field e.was) }
 else if e.kind = 4 then { s with zs := s.zs.set e.fr.toNat (unshL (zn s e.fr) e.ord) }
 else if e.kind = 5 then { s with ps := s.ps.set e.player.toNat { s.ps.getD e.player.toNat dp with out := false } }
 else if e.kind = 6 then { s with turn := e.was,whose := e.player } else { s with fin := 0,winner := 0 }
def fitsN (k : Int) : Nat := if k = 1 then 118 else if k = 2 then 124 else if k = 3 then 130 else if k = 4 then 136 else if k = 5 then 141 else if k = 6 then 147 else 153
def leadsN (k : Int) : Nat := if k = 1 then 119 else if k = 2 then 125 else if k = 3 then 131 else if k = 4 then 136 else if k = 5 then 142 else if k = 6 then 148 else 154
def doN (k : Int) : Nat := if k = 1 then 120 else if k = 2 then 126 else if k = 3 then 132 else if k = 4 then 137 else if k = 5 then 143 else if k = 6 then 149 else 155
def undoN (k : Int) : Nat := if k = 1 then 121 else if k = 2 then 127 else if k = 3 then 133 else if k = 4 then 138 else if k = 5 then 144 else if k = 6 then 150 else 156
theorem kinds {k : Int} (h : kindB k = true) : k = 1 ∨ k = 2 ∨ k = 3 ∨ k = 4 ∨ k = 5 ∨ k = 6 ∨ k = 7 := by
 unfold kindB at h
 simp only [Bool.and_eq_true,decide_eq_true_eq] at h
 omega
theorem row_at {k : Int} (h : kindB k = true) : (row k.toNat)[1]? = some (fv (fitsN k)) /\ (row k.toNat)[2]? = some (fv (leadsN k)) /\ (row k.toNat)[3]? = some (fv (doN k)) /\ (row k.toNat)[4]? = some (fv (undoN k)) := by
 rcases kinds h with rfl | rfl | rfl | rfl | rfl | rfl | rfl <;> exact ⟨rfl,rfl,rfl,rfl⟩
theorem fits_ (v : Value) (s : Stt) (e : Ev) (oa : Option Addr) (oc : Nat) (w : World) (hk : kindB e.kind = true) (hs : StL w v s) (ho : IL w (.slice oa e.ord.length oc) e.ord) (hn : e.ord.length <= 140737488355328) (hl : ∀ r ∈ s.zs,r.length <= 256) : Calls Tryz.prog (fitsN e.kind) #[v,evv e (.slice oa e.ord.length oc)] w fun r w'=>r = .returned (.bool (fitB s e)) /\ Up w w' := by
 have hl' : ∀ r ∈ s.zs,r.length <= 140737488355328 := fun r hr=>Nat.le_trans (hl r hr) (by omega)
 unfold fitsN fitB
 rcases kinds hk with h | h | h | h | h | h | h
 ·simpa [h] using moveFits_ v s e oa e.ord.length oc w hs hl'
 ·simpa [h] using cardFits_ v s e oa e.ord.length oc w hs
 ·simpa [h] using playerFits_ v s e oa e.ord.length oc w hs
 ·simpa [h] using shuffleFits_ v s e oa oc w hs ho hn hl
 ·simpa [h] using outFits_ v s e oa e.ord.length oc w hs
 ·simpa [h] using turnFits_ v s e oa e.ord.length oc w hs
 ·simpa [h] using endFits_ v s e oa e.ord.length oc w hs
theorem leads_ (v : Value) (s : Stt) (e : Ev) (oa : Option Addr) (oc : Nat) (w : World) (hk : kindB e.kind = true) (hs : StL w v s) (ho : IL w (.slice oa e.ord.length oc) e.ord) (hn : e.ord.length <= 140737488355328) (hl : ∀ r ∈ s.zs,r.length <= 256) : Calls Tryz.prog (leadsN e.kind) #[v,evv e (.slice oa e.ord.length oc)] w fun r w'=>r = .returned (.bool (leadB s e)) /\ Up w w' := by
 have hl' : ∀ r ∈ s.zs,r.length <= 140737488355328 := fun r hr=>Nat.le_trans (hl r hr) (by omega)
 unfold leadsN leadB
 rcases kinds hk with h | h | h | h | h | h | h
 ·simpa [h] using moveLeads_ v s e oa e.ord.length oc w hs hl'
 ·simpa [h] using cardLeads_ v s e oa e.ord.length oc w hs
 ·simpa [h] using playerLeads_ v s e oa e.ord.length oc w hs
 ·simpa [h] using shuffleFits_ v s e oa oc w hs ho hn hl
 ·simpa [h] using outLeads_ v s e oa e.ord.length oc w hs
 ·simpa [h] using turnLeads_ v s e oa e.ord.length oc w hs
 ·simpa [h] using endLeads_ v s e oa e.ord.length oc w hs
end DE
end Go.Proofs.YtodhjjeagmjhdaaGreatDoor
namespace Go.Proofs.YtodhjjeagmjhdaaGreatDoor
open Go.RowKit
namespace DE
open Go.Proofs.YtodhjjeagmjhdaaGreatDoor.ST
theorem cut_len {l : List Int} {p : Nat} (h : p < l.length) : (cutL l p).length = l.length - 1 := by
 unfold cutL
 simp
 omega
theorem zs_get {zs : List (List Int)} {n : Nat} (hl : ∀ r ∈ zs,r.length <= n) (i : Nat) (hi : i < zs.length) : (zs.getD i []).length <= n := by
 rw [List.getD_eq_getElem?_getD,List.getElem?_eq_getElem hi]
 exact hl _ (List.getElem_mem hi)
theorem move_at {s : Stt} {e : Ev} (hl : ∀ r ∈ s.zs,r.length <= 256) (h : moveFitsB s e = true) : ∃ i p j q : Nat,e.fr = i /\ e.frAt = p /\ e.to_ = j /\ e.toAt = q /\ i < s.zs.length /\ j < s.zs.length /\ p < (s.zs.getD i []).length /\ q <= ((s.zs.set i (cutL (s.zs.getD i []) p)).getD j []).length /\ (s.zs.getD i []).length <= 256 /\ ((s.zs.set i (cutL (s.zs.getD i []) p)).getD j []).length <= 65536 := by
 unfold moveFitsB at h
 simp only [Bool.and_eq_true,decide_eq_true_eq] at h
 obtain ⟨-,h1,h2,-,h3,-,h4,h5⟩ := h
 obtain ⟨i,e1,hi⟩ := num_nat h1
 obtain ⟨j,e2,hj⟩ := num_nat h2
 obtain ⟨p,e3,hp⟩ := num_nat h3
 unfold zn at hp
 rw [e1,Int.toNat_natCast] at hp
 unfold others zn at h5
 rw [e1,e2,Int.toNat_natCast] at h5
 have hzi := zs_get hl i hi
 have hzj := zs_get hl j hj
 have hlen : (if (j : Int) = (i : Int) then ((s.zs.getD j []).length : Int) - 1 else ((s.zs.getD j []).length : Int)) = (((s.zs.set i (cutL (s.zs.getD i []) p)).getD j []).length : Int) := by
  by_cases e : i = j
  ·subst e
   rw [if_pos rfl,List.getD_eq_getElem?_getD (l := s.zs.set _ _),List.getElem?_set_self hi,Option.getD_some,cut_len hp]
   omega
  ·rw [if_neg (by omega),List.getD_eq_getElem?_getD (l := s.zs.set _ _),List.getElem?_set_ne e,<- List.getD_eq_getElem?_getD]
 rw [hlen] at h5
 refine ⟨i,p,j,e.toAt.toNat,e1,e3,e2,by omega,hi,hj,hp,by omega,hzi,?_⟩
 by_cases e : (j : Int) = (i : Int)
 ·rw [if_pos e] at hlen
  omega
 ·rw [if_neg e] at hlen
  omega
theorem card_at {s : Stt} {e : Ev} (h : cardFitsB s e = true) : numB e.card s.cs.length = true /\ ∃ y,cGet (s.cs.getD e.card.toNat dc) e.field = some y := by
 unfold cardFitsB at h
 rw [Bool.and_eq_true] at h
 refine ⟨h.1,?_⟩
 cases hy : cGet (s.cs.getD e.card.toNat dc) e.field with
 | none=>rw [hy] at h; simp at h
 | some y=>exact ⟨y,rfl⟩
theorem player_at {s : Stt} {e : Ev} (h : playerFitsB s e = true) : numB e.player s.ps.length = true /\ ∃ y,pGet (s.ps.getD e.player.toNat dp) e.field = some y := by
 unfold playerFitsB at h
 rw [Bool.and_eq_true] at h
 refine ⟨h.1,?_⟩
 cases hy : pGet (s.ps.getD e.player.toNat dp) e.field with
 | none=>rw [hy] at h; simp at h
 | some y=>exact ⟨y,rfl⟩
theorem do_ (B base b : Nat) (s : Stt) (e : Ev) (oa : Option Addr) (oc : Nat) (w : World) (hk : kindB e.kind = true) (h : Own base w b s) (hB : B <= base) (hbs : base <= w.heap.size) (hb : B <= b) (ho : IL w (.slice oa e.ord.length oc) e.ord) (hl : ∀ r ∈ s.zs,r.length <= 256) (hf : fitB s e = true) :
  Calls Tryz.prog (doN e.kind) #[.pointer (some ⟨b,0,none⟩),evv e (.slice oa e.ord.length oc)] w fun x w'=>x = .returned (.tuple #[]) /\ Did B base b (behindS s e) w w' := by
 unfold fitB at hf
 unfold doN behindS
 rcases kinds hk with hk | hk | hk | hk | hk | hk | hk
 ·simp only [hk,if_pos] at hf ⊢
  obtain ⟨i,p,j,q,a1,a2,a3,a4,a5⟩ := move_at hl hf
  have := doMove_ B base b s e oa e.ord.length oc w h hB hbs hb i p j q a1 a2 a3 a4 a5.1 a5.2.1 a5.2.2.1 a5.2.2.2.1 a5.2.2.2.2.1 a5.2.2.2.2.2
  rw [a1,a2,a3,a4]
  simpa using this
 ·simp [hk] at hf ⊢
  obtain ⟨a1,y,a2⟩ := card_at hf
  simpa using doCard_ B base b s e oa e.ord.length oc w h hB hb a1 y a2
 ·simp [hk] at hf ⊢
  obtain ⟨a1,y,a2⟩ := player_at hf
  simpa using doPlayer_ B base b s e oa e.ord.length oc w h hB hb a1 y a2
 ·simp [hk] at hf ⊢
  unfold shuffleFitsB at hf
  simp only [Bool.and_eq_true] at hf
  obtain ⟨i,e1,hi⟩ := num_nat hf.1
  have hq : (zn s e.fr).length <= 256 := by unfold zn; rw [e1,Int.toNat_natCast]; exact zs_get hl i hi
  simpa using doShuffle_ B base b s e oa oc w h hB hbs hb hf.1 ho hf.2.1 hq
 ·simp [hk] at hf ⊢
  unfold outFitsB at hf
  rw [Bool.and_eq_true] at hf
  simpa using doOut_ B base b s e oa e.ord.length oc w h hB hb hf.1
 ·simp [hk]
  simpa using doTurn_ B base b s e oa e.ord.length oc w h hb
 ·simp [hk]
  simpa using doEnd_ B base b s e oa e.ord.length oc w h hb
theorem undo_ (B base b : Nat) (s : Stt) (e : Ev) (oa : Option Addr) (oc : Nat) (w : World) (hk : kindB e.kind = true) (h : Own base w b s) (hB : B <= base) (hbs : base <= w.heap.size) (hb : B <= b) (ho : IL w (.slice oa e.ord.length oc) e.ord) (hl : ∀ r ∈ s.zs,r.length <= 256) (hf : leadB s e = true) :
  Calls Tryz.prog (undoN e.kind) #[.pointer (some ⟨b,0,none⟩),evv e (.slice oa e.ord.length oc)] w fun x w'=>x = .returned (.tuple #[]) /\ Did B base b (aheadS s e) w w' := by
 unfold leadB at hf
 unfold undoN aheadS
 rcases kinds hk with hk | hk | hk | hk | hk | hk | hk
 ·simp only [hk,if_pos] at hf ⊢
  obtain ⟨i,p,j,q,a1,a2,a3,a4,a5⟩ := move_at hl hf
  have := undoMove_ B base b s e oa e.ord.length oc w h hB hbs hb i p j q a1 a2 a3 a4 a5.1 a5.2.1 a5.2.2.1 a5.2.2.2.1 a5.2.2.2.2.1 a5.2.2.2.2.2
  have b1 : e.to_ = i := a1
  have b2 : e.toAt = p := a2
  have b3 : e.fr = j := a3
  have b4 : e.frAt = q := a4
  rw [b1,b2,b3,b4]
  simpa using this
 ·simp [hk] at hf ⊢
  obtain ⟨a1,y,a2⟩ := card_at hf
  simpa using undoCard_ B base b s e oa e.ord.length oc w h hB hb a1 y a2
 ·simp [hk] at hf ⊢
  obtain ⟨a1,y,a2⟩ := player_at hf
  simpa using undoPlayer_ B base b s e oa e.ord.length oc w h hB hb a1 y a2
 ·simp [hk] at hf ⊢
  unfold shuffleFitsB at hf
  simp only [Bool.and_eq_true] at hf
  obtain ⟨i,e1,hi⟩ := num_nat hf.1
  have hq : (zn s e.fr).length <= 256 := by unfold zn; rw [e1,Int.toNat_natCast]; exact zs_get hl i hi
  simpa using undoShuffle_ B base b s e oa oc w h hB hbs hb hf.1 ho hf.2.1 hq
 ·simp [hk] at hf ⊢
  unfold outLeadsB at hf
  rw [Bool.and_eq_true] at hf
  simpa using undoOut_ B base b s e oa e.ord.length oc w h hB hb hf.1
 ·simp [hk]
  simpa using undoTurn_ B base b s e oa e.ord.length oc w h hb
 ·simp [hk]
  simpa using undoEnd_ B base b s e oa e.ord.length oc w h hb
end DE
end Go.Proofs.YtodhjjeagmjhdaaGreatDoor
namespace Go.Proofs.YtodhjjeagmjhdaaGreatDoor
open Go.RowKit
namespace DE
open Go.Proofs.YtodhjjeagmjhdaaGreatDoor.ST
theorem perm_ok {s : Stt} (h : ff s = none) {z : Nat} {l : List Int} (hz : z < s.zs.length) (hl : l.Perm (s.zs.getD z [])) : ff { s with zs := s.zs.set z l } = none := by
 obtain ⟨h1,h2,h3⟩ := (ff_none s).1 h
 have p : (s.zs.set z l).flatten.Perm s.zs.flatten := by
  have h9 := ST.flat_set s.zs z l hz
  exact (List.perm_append_right_iff _).1 (h9.trans (List.Perm.append_left _ hl))
 refine (ff_none _).2 ⟨rest_z h1 (zs := s.zs.set z l) (by simp),⟨?_,fun x hx=>?_⟩,?_⟩
 ·exact p.nodup_iff.2 h2.1
 ·exact h2.2 x (p.mem_iff.1 hx)
 ·exact p.length_eq.trans h3
theorem nums_nodup (m : Nat) : (nums m).Nodup := by
 unfold nums
 rw [List.nodup_iff_pairwise_ne,List.pairwise_map]
 exact List.Pairwise.imp (fun h e=>h (by omega)) (List.nodup_iff_pairwise_ne.1 List.nodup_range)
theorem ord_perm {m : Nat} {l : List Int} (h : ordB m l = true) : l.Perm (nums m) := by
 refine (List.perm_ext_iff_of_nodup (ord_ent h).1 (nums_nodup m)).2 fun x=>⟨fun hx=>mem_nums.2 ((ord_ent h).2 x hx),fun hx=>ent_all (ord_ent h) (ord_at h).1 x (mem_nums.1 hx)⟩
theorem nums_map (zl : List Int) : (nums zl.length).map (fun n=>zl.getD n.toNat 0) = zl := by
 unfold nums
 rw [List.map_map]
 apply List.ext_getElem?
 intro p
 rw [List.getElem?_map]
 by_cases hp : p < zl.length
 ·rw [List.getElem?_range hp,List.getElem?_eq_getElem hp]
  simp [hp]
 ·rw [List.getElem?_eq_none (by simpa using hp),List.getElem?_eq_none (by omega)]
  rfl
theorem shuf_perm {zl ord : List Int} (h : ordB zl.length ord = true) : (shufL zl ord).Perm zl := by
 have := (ord_perm h).map (fun n=>zl.getD n.toNat 0)
 rw [nums_map] at this
 exact this
theorem unsh_perm {zl ord : List Int} (h : ordB zl.length ord = true) : (unshL zl ord).Perm zl := by
 have h1 := (ord_perm h).map (fun n=>zl.getD (ord.idxOf n) 0)
 have e1 : ord.map (fun n=>zl.getD (ord.idxOf n) 0) = zl := by
  apply List.ext_getElem?
  intro k
  have hol := (ord_at h).1
  rw [List.getElem?_map]
  by_cases hk : k < ord.length
  ·rw [List.getElem?_eq_getElem hk,List.getElem?_eq_getElem (by omega)]
   have hi : ord.idxOf ord[k] = k := by
    have hm : ord.idxOf ord[k] < ord.length := List.idxOf_lt_length_of_mem (List.getElem_mem hk)
    have he : ord[ord.idxOf ord[k]] = ord[k] := List.getElem_idxOf hm
    exact nodup_at (ord_ent h).1 hm hk he
   simp only [Option.map_some,hi]
   rw [List.getD_eq_getElem?_getD,List.getElem?_eq_getElem (by omega)]
   rfl
  ·rw [List.getElem?_eq_none (by omega),List.getElem?_eq_none (by omega)]
   rfl
 have e2 : (nums zl.length).map (fun n=>zl.getD (ord.idxOf n) 0) = unshL zl ord := by
  unfold nums unshL
  rw [List.map_map]
  rfl
 rw [e1,e2] at h1
 exact h1.symm
end DE
end Go.Proofs.YtodhjjeagmjhdaaGreatDoor
namespace Go.Proofs.YtodhjjeagmjhdaaGreatDoor
open Go.RowKit
namespace DE
open Go.Proofs.YtodhjjeagmjhdaaGreatDoor.ST
theorem mem_set_or {A : Type} {l : List A} {i : Nat} {a x : A} (h : x ∈ l.set i a) : x = a ∨ x ∈ l := by
 rcases List.mem_or_eq_of_mem_set h with h | h
 ·exact .inr h
 ·exact .inl h
theorem ply_ok {s : Stt} (h : ff s = none) (i : Nat) (p : Ply) (hp : plyB p = true) : ff { s with ps := s.ps.set i p } = none := by
 obtain ⟨⟨a1,a2,a3,a4,a5,a6,a7⟩,h2,h3⟩ := (ff_none s).1 h
 refine (ff_none _).2 ⟨⟨?_,fun q hq=>?_,?_,a4,?_,a6,?_⟩,h2,h3⟩
 ·simpa [sizesB] using a1
 ·rcases mem_set_or hq with rfl | hq
  ·exact hp
  ·exact a2 q hq
 ·simpa using a3
 ·simpa using a5
 ·simpa [winB] using a7
theorem crd_ok {s : Stt} (h : ff s = none) (i : Nat) (c : Crd) (hc : crdB s.ps.length c = true) : ff { s with cs := s.cs.set i c } = none := by
 obtain ⟨⟨a1,a2,a3,a4,a5,a6,a7⟩,h2,h3⟩ := (ff_none s).1 h
 refine (ff_none _).2 ⟨⟨?_,a2,fun q hq=>?_,a4,a5,a6,a7⟩,?_,?_⟩
 ·simpa [sizesB] using a1
 ·rcases mem_set_or hq with rfl | hq
  ·exact hc
  ·exact a3 q hq
 ·simpa [flat] using h2
 ·simpa [flat] using h3
theorem ply_get {s : Stt} (h : ff s = none) (i : Nat) (hi : i < s.ps.length) : plyB (s.ps.getD i dp) = true := by
 rw [List.getD_eq_getElem?_getD,List.getElem?_eq_getElem hi]
 exact ((ff_none s).1 h).1.2.1 _ (List.getElem_mem hi)
theorem crd_get {s : Stt} (h : ff s = none) (i : Nat) (hi : i < s.cs.length) : crdB s.ps.length (s.cs.getD i dc) = true := by
 rw [List.getD_eq_getElem?_getD,List.getElem?_eq_getElem hi]
 exact ((ff_none s).1 h).1.2.2.1 _ (List.getElem_mem hi)
theorem ply_set {p : Ply} {f x : Int} (h : plyB p = true) (hx : statB x = true) : plyB (pSet p f x) = true := by
 unfold plyB at h
 rw [Bool.and_eq_true] at h
 unfold pSet plyB
 by_cases e : f = 5
 ·rw [if_pos e]; simp [hx,h.2]
 ·rw [if_neg e]; simp [hx,h.1]
theorem crd_set {n : Nat} {c : Crd} {f x : Int} (h : crdB n c = true) (hx : statB x = true) : crdB n (cSet c f x) = true := by
 unfold crdB crd0B at h
 simp only [Bool.and_eq_true] at h
 obtain ⟨⟨⟨⟨⟨h1,h2⟩,h3⟩,h4⟩,h5⟩,h6⟩ := h
 unfold cSet crdB crd0B
 by_cases e1 : f = 1
 ·rw [if_pos e1]; simp [*]
 ·rw [if_neg e1]
  by_cases e2 : f = 2
  ·rw [if_pos e2]; simp [*]
  ·rw [if_neg e2]
   by_cases e3 : f = 3
   ·rw [if_pos e3]; simp [*]
   ·rw [if_neg e3]; simp [*]
theorem move_ok {s : Stt} {e : Ev} (h : ff s = none) (hf : moveFitsB s e = true) : ff { s with zs := moveZ s.zs e.fr.toNat e.frAt.toNat e.to_.toNat e.toAt.toNat e.card } = none := by
 unfold moveFitsB at hf
 simp only [Bool.and_eq_true,decide_eq_true_eq] at hf
 obtain ⟨-,h1,h2,-,h3,h4,-,-⟩ := hf
 obtain ⟨i,e1,hi⟩ := num_nat h1
 obtain ⟨j,e2,hj⟩ := num_nat h2
 obtain ⟨p,e3,hp⟩ := num_nat h3
 unfold zn at hp h4
 rw [e1,Int.toNat_natCast] at hp h4
 rw [e3,Int.toNat_natCast] at h4
 rw [e1,e2,e3]
 simp only [Int.toNat_natCast]
 exact moved_ok h hi (cut_perm _ _ _ hp h4) hj (ins_perm _ _ _)
theorem card_ok {s : Stt} {e : Ev} (h : ff s = none) (hf : cardFitsB s e = true) : ff { s with cs := s.cs.set e.card.toNat (cSet (s.cs.getD e.card.toNat dc) e.field e.now) } = none := by
 obtain ⟨h1,y,hy⟩ := card_at hf
 obtain ⟨i,e1,hi⟩ := num_nat h1
 unfold cardFitsB at hf
 rw [hy,Bool.and_eq_true] at hf
 have h2 := hf.2
 simp only [statFitsB,Bool.and_eq_true] at h2
 rw [e1,Int.toNat_natCast]
 exact crd_ok h i _ (crd_set (crd_get h i hi) h2.1.2)
theorem player_ok {s : Stt} {e : Ev} (h : ff s = none) (hf : playerFitsB s e = true) : ff { s with ps := s.ps.set e.player.toNat (pSet (s.ps.getD e.player.toNat dp) e.field e.now) } = none := by
 obtain ⟨h1,y,hy⟩ := player_at hf
 obtain ⟨i,e1,hi⟩ := num_nat h1
 unfold playerFitsB at hf
 rw [hy,Bool.and_eq_true] at hf
 have h2 := hf.2
 simp only [statFitsB,Bool.and_eq_true] at h2
 rw [e1,Int.toNat_natCast]
 exact ply_ok h i _ (ply_set (ply_get h i hi) h2.1.2)
theorem out_ok {s : Stt} {x : Int} (h : ff s = none) (hn : numB x s.ps.length = true) (o : Bool) : ff { s with ps := s.ps.set x.toNat { s.ps.getD x.toNat dp with out := o } } = none := by
 obtain ⟨i,rfl,hi⟩ := num_nat hn
 rw [Int.toNat_natCast]
 exact ply_ok h i _ (ply_get h i hi)
end DE
end Go.Proofs.YtodhjjeagmjhdaaGreatDoor
namespace Go.Proofs.YtodhjjeagmjhdaaGreatDoor
open Go.RowKit
namespace DE
open Go.Proofs.YtodhjjeagmjhdaaGreatDoor.ST
theorem turn_ok {s : Stt} (h : ff s = none) {t wh : Int} (ht : 1 <= t) (hw : numB wh s.ps.length = true) : ff { s with turn := t,whose := wh } = none := by
 obtain ⟨⟨a1,a2,a3,a4,a5,a6,a7⟩,h2,h3⟩ := (ff_none s).1 h
 exact (ff_none _).2 ⟨⟨a1,a2,a3,ht,hw,a6,a7⟩,h2,h3⟩
theorem end_ok {s : Stt} (h : ff s = none) {f wi : Int} (hf : f = 0 ∨ f = 1 ∨ f = 2) (hw : (if f = 1 then numB wi s.ps.length else decide (wi = 0)) = true) : ff { s with fin := f,winner := wi } = none := by
 obtain ⟨⟨a1,a2,a3,a4,a5,a6,a7⟩,h2,h3⟩ := (ff_none s).1 h
 refine (ff_none _).2 ⟨⟨a1,a2,a3,a4,a5,?_,hw⟩,h2,h3⟩
 unfold finB
 rcases hf with rfl | rfl | rfl <;> rfl
theorem behind_ok {s : Stt} {e : Ev} (h : ff s = none) (hk : kindB e.kind = true) (hf : fitB s e = true) : ff (behindS s e) = none := by
 unfold fitB at hf
 unfold behindS
 rcases kinds hk with hk | hk | hk | hk | hk | hk | hk
 ·simp only [hk,if_pos] at hf ⊢
  exact move_ok h hf
 ·simp [hk] at hf ⊢
  simpa using card_ok h hf
 ·simp [hk] at hf ⊢
  simpa using player_ok h hf
 ·simp [hk] at hf ⊢
  unfold shuffleFitsB at hf
  simp only [Bool.and_eq_true] at hf
  obtain ⟨i,e1,hi⟩ := num_nat hf.1
  have h9 := hf.2.1
  have hz : zn s e.fr = s.zs.getD i [] := by unfold zn; rw [e1,Int.toNat_natCast]
  rw [hz] at h9 ⊢
  rw [e1,Int.toNat_natCast]
  exact perm_ok h hi (shuf_perm h9)
 ·simp [hk] at hf ⊢
  unfold outFitsB at hf
  rw [Bool.and_eq_true] at hf
  simpa using out_ok h hf.1 true
 ·simp [hk] at hf ⊢
  unfold turnFitsB behindB at hf
  simp only [Bool.and_eq_true,decide_eq_true_eq] at hf
  have ht : 1 <= s.turn := ((ff_none s).1 h).1.2.2.2.1
  refine turn_ok h ?_ hf.2.2.1
  rw [hf.2.2.2.2]
  unfold wrap32
  have := hf.1
  have := hf.2.2.2.1
  omega
 ·simp [hk] at hf ⊢
  unfold endFitsB at hf
  simp only [Bool.and_eq_true,decide_eq_true_eq] at hf
  by_cases e1 : e.now = 1
  ·rw [if_pos e1] at hf
   rw [e1]
   exact end_ok h (f := IntKind.i8.wrap 1) (.inr (.inl (by decide))) (by rw [if_pos (by decide)]; exact hf.2)
  ·rw [if_neg e1] at hf
   by_cases e2 : e.now = 2
   ·rw [if_pos e2] at hf
    rw [e2]
    exact end_ok h (f := IntKind.i8.wrap 2) (.inr (.inr (by decide))) (by rw [if_neg (by decide)]; exact hf.2)
   ·rw [if_neg e2] at hf
    exact absurd hf.2 (by decide)
theorem ahead_ok {s : Stt} {e : Ev} (h : ff s = none) (hk : kindB e.kind = true) (hf : leadB s e = true) : ff (aheadS s e) = none := by
 unfold leadB at hf
 unfold aheadS
 rcases kinds hk with hk | hk | hk | hk | hk | hk | hk
 ·simp only [hk,if_pos] at hf ⊢
  exact move_ok h hf
 ·simp [hk] at hf ⊢
  exact card_ok h hf
 ·simp [hk] at hf ⊢
  exact player_ok h hf
 ·simp [hk] at hf ⊢
  unfold shuffleFitsB at hf
  simp only [Bool.and_eq_true] at hf
  obtain ⟨i,e1,hi⟩ := num_nat hf.1
  have h9 := hf.2.1
  have hz : zn s e.fr = s.zs.getD i [] := by unfold zn; rw [e1,Int.toNat_natCast]
  rw [hz] at h9 ⊢
  rw [e1,Int.toNat_natCast]
  exact perm_ok h hi (unsh_perm h9)
 ·simp [hk] at hf ⊢
  unfold outLeadsB at hf
  rw [Bool.and_eq_true] at hf
  exact out_ok h hf.1 false
 ·simp [hk] at hf ⊢
  unfold turnLeadsB at hf
  simp only [Bool.and_eq_true,decide_eq_true_eq] at hf
  exact turn_ok h hf.2.2.2.2 hf.2.2.1
 ·simp [hk]
  exact end_ok h (.inl rfl) rfl
theorem zone_le {s : Stt} (h : ff s = none) : ∀ r ∈ s.zs,r.length <= 256 := fun r hr=>by
 obtain ⟨⟨a1,-⟩,-,h3⟩ := (ff_none s).1 h
 simp only [sizesB,ncB,Bool.and_eq_true,decide_eq_true_eq] at a1
 have h4 : r.length <= (flat s).length := by
  unfold flat
  exact (List.sublist_flatten_of_mem hr).length_le
 omega
end DE
end Go.Proofs.YtodhjjeagmjhdaaGreatDoor
namespace Go.Proofs.YtodhjjeagmjhdaaGreatDoor
open Go.RowKit
namespace DE
open Go.Proofs.YtodhjjeagmjhdaaGreatDoor.ST
end DE
end Go.Proofs.YtodhjjeagmjhdaaGreatDoor
