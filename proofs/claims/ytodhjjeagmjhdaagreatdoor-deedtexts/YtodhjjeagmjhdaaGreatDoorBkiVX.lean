/-
  The bag's lists of ints lie apart.
-/
import Derived.Test.YtodhjjeagmjhdaaGreatDoorBkaTvBtX
namespace Go.Proofs.YtodhjjeagmjhdaaGreatDoor.BG
open Go.RowKit
attribute [local go_sem ↓] Go.wp_at_zero Go.wp_at_succ
def bnum (q i : Nat) : Int := 1048576 * (q : Int) + (i : Int) + 1
theorem infoI : (Tryz.prog.info? 3).map (fun i=>(i.zero,i.size,i.bytes)) = some (some (.int .i64 0),1,8) := by kernel_rfl
theorem infoR : (Tryz.prog.info? 28).map (fun i=>(i.zero,i.size,i.bytes)) = some (some (.slice none 0 0),1,24) := by kernel_rfl
def Bag1 (fld tb t1 : Nat) (w : World) (gb : Nat) (a : Option Addr) (K cap : Nat) (L : VL) : Prop := (∃ bc : Array Value,w.heap[gb]? = some (.cells bc tb (0,0)) /\ bc[fld]? = some (.slice a K cap)) /\ K = L.length /\ (K ≠ 0 -> ∃ lb cs,a = some ⟨lb,0,none⟩ /\ w.heap[lb]? = some (.cells cs t1 (0,0)) /\ ∀ p,p < K -> cs[p]? = some (L.getD p dv).1)
theorem Bag1.cells {fld tb t1 e : Nat} {w W : World} {gb : Nat} {a : Option Addr} {K cap : Nat} {L : VL} (h : Bag1 fld tb t1 w gb a K cap L) (x : Exc (Blks L) w W) (hL : ∀ b,Blks L b -> ∃ cur,w.heap[b]? = some (.cells cur e (0,0))) (h1 : e ≠ tb) (h2 : e ≠ t1) : W.cell? ⟨gb,fld,none⟩ = some (.slice a K cap) /\ (K ≠ 0 -> ∃ lb,a = some ⟨lb,0,none⟩ /\ ∀ p,p < K -> W.cell? ⟨lb,p,none⟩ = some (L.getD p dv).1) := by
 obtain ⟨⟨bc,h3,h4⟩,-,h6⟩ := h
 have nb : ∀ (b : Nat) (c : Array Value) (t : Nat),w.heap[b]? = some (.cells c t (0,0)) -> e ≠ t -> W.heap[b]? = some (.cells c t (0,0)) := fun b c t hb ht=>x.heap hb (fun hc=>by
  obtain ⟨cur,h7⟩ := hL b hc
  rw [hb] at h7
  cases h7
  exact ht rfl)
 refine ⟨by simp [World.cell?,nb gb bc tb h3 h1,h4],fun hK=>?_⟩
 obtain ⟨lb,cs,ha,h7,h8⟩ := h6 hK
 exact ⟨lb,ha,fun p hp=>by simp [World.cell?,nb lb cs t1 h7 h2,h8 p hp]⟩
theorem Rows1.ty {mk : Nat -> Nat -> List Value} {base e s : Nat} {W : World} {L : VL} {i : Nat} (h : Rows1 mk base e s W L i) : ∀ b,Blks L b -> ∃ cur,W.heap[b]? = some (.cells cur e (0,0)) := fun b ⟨p,hp,hb⟩=>by
 obtain ⟨xs,h1,-⟩ := h p hp
 exact own_ty h1 hb
end Go.Proofs.YtodhjjeagmjhdaaGreatDoor.BG
