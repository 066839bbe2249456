/- Bb, Bad, Bas, Cb, Bn, Bw -/
import Derived.Test.YtodhjjeagmjhdaaGreatDoorBkiVX
namespace Go.Proofs.YtodhjjeagmjhdaaGreatDoor.BG
open Go.RowKit
def bagA (f : Nat -> Value) : Array Value := #[f 0,f 1,f 2,f 3,f 4,f 5,f 6,f 7,f 8,f 9,f 10,f 11,f 12,f 13,f 14,f 15,f 16,f 17,f 18,f 19,f 20]
def eT (k : Nat) : Nat := [5,3,2,133,135,25,9,97,95,141,144,147,28,136,30,150,153,156,159,162,27].getD k 0
def rT (k : Nat) : Nat := [130,28,131,132,134,136,137,22,23,139,142,145,24,47,32,148,151,154,157,160,163].getD k 0
def sT (k : Nat) : Nat := [1,1,1,1,1,1,1,3,6,4,7,5,1,1,12,3,4,6,4,6,7].getD k 0
abbrev tBag : Nat := 64
structure Kn (W : World) (lo gb B e t1 s : Nat) (v : Value) (L : VL) : Prop where
 row : W.ownsRow B t1 1 v L.length (L.map (·.1))
 len : L.length <= 400
 each : ∀ p,p < L.length -> (∃ xs,W.ownsRow lo e s (L.getD p dv).1 (L.getD p dv).2 xs) /\ (L.getD p dv).2 <= 4294967296
 below : ∀ g,Blks L g -> g < gb
 apart : Apart L
theorem Kn.nil (W : World) (lo gb B e t1 s : Nat) : Kn W lo gb B e t1 s (.slice none 0 0) [] :=
 ⟨World.ownsRow_nil _ _ _ _,Nat.zero_le _,fun _ hp=>absurd hp (Nat.not_lt_zero _),fun _ ⟨_,hp,_⟩=>absurd hp (Nat.not_lt_zero _),fun _ _ _ hp=>absurd hp (Nat.not_lt_zero _)⟩
theorem Kn.keep {W W' : World} {lo gb B e t1 s : Nat} {v : Value} {L : VL} (h : Kn W lo gb B e t1 s v L) (k1 : ∀ g,v.ownBlock = some g -> W'.heap[g]? = W.heap[g]?) (k2 : ∀ g,Blks L g -> W'.heap[g]? = W.heap[g]?) : Kn W' lo gb B e t1 s v L :=
 ⟨own_block h.row k1,h.len,fun p hp=>⟨(h.each p hp).1.elim fun xs hx=>⟨xs,own_block hx fun g hg=>k2 g ⟨p,hp,hg⟩⟩,(h.each p hp).2⟩,h.below,h.apart⟩
structure BagG (W : World) (lo gb B : Nat) (f : Nat -> Value) (L : Nat -> VL) : Prop where
 blk : W.heap[gb]? = some (.cells (bagA f) tBag (0,0))
 lt : gb < B /\ B <= W.heap.size
 kinds : ∀ k,k < 21 -> Kn W lo gb B (eT k) (rT k) (sT k) (f k) (L k)
theorem row_lt {W : World} {B e s n : Nat} {v : Value} {xs : List Value} (h : W.ownsRow B e s v n xs) {g : Nat} (hg : v.ownBlock = some g) : g < W.heap.size := by
 obtain ⟨cur,hc⟩ := own_ty h hg
 exact (Array.getElem?_eq_some_iff.1 hc).1
theorem BagG.up {W W' : World} {lo gb B : Nat} {f : Nat -> Value} {L : Nat -> VL} (h : BagG W lo gb B f L) (u : Up W W') : BagG W' lo gb B f L :=
 ⟨u.heap h.blk,⟨h.lt.1,Nat.le_trans h.lt.2 u.size⟩,fun k hk=>(h.kinds k hk).keep (fun g hg=>u.block g (row_lt (h.kinds k hk).row hg)) (fun g hg=>u.block g (by have := (h.kinds k hk).below g hg; have := h.lt; omega))⟩
def Oth (gb : Nat) (f f' : Nat -> Value) (W W' : World) : Prop := ∀ g,g < W.heap.size -> g ≠ gb -> (∀ k,k < 21 -> (f k).ownBlock ≠ some g) -> W'.heap[g]? = W.heap[g]? /\ ∀ k,k < 21 -> (f' k).ownBlock ≠ some g
theorem Oth.refl (gb : Nat) (f : Nat -> Value) (W : World) : Oth gb f f W W := fun _ _ _ h=>⟨rfl,h⟩
theorem Oth.trans {gb : Nat} {f f' f2 : Nat -> Value} {W W' W2 : World} (h : Oth gb f f' W W') (k : Oth gb f' f2 W' W2) (hs : W.heap.size <= W'.heap.size) : Oth gb f f2 W W2 := fun g h1 h2 h3=>by
 obtain ⟨a,b⟩ := h g h1 h2 h3
 obtain ⟨c,d⟩ := k g (by omega) h2 b
 exact ⟨c.trans a,d⟩
def GPost (gb lo B : Nat) (f : Nat -> Value) (L : Nat -> VL) (S : Nat -> Nat -> Prop) (ks : List Nat) (W : World) (e : Ending) (W' : World) : Prop :=
 e = .returned (.tuple #[]) /\ ∃ f' L',BagG W' lo gb B f' L' /\ Below gb W W' /\ (∀ j g,Blks (L' j) g -> Blks (L j) g ∨ S j g) /\ Oth gb f f' W W' /\ ∀ j,j ∉ ks -> L' j = L j
def RowIn (W : World) (lo hi e s : Nat) (v : Value) (n : Nat) : Prop := (∃ xs,W.ownsRow lo e s v n xs) /\ n <= 4294967296 /\ ∀ g,v.ownBlock = some g -> g < hi
theorem RowIn.below {W W' : World} {lo hi e s gb : Nat} {v : Value} {n : Nat} (h : RowIn W lo hi e s v n) (b : Below gb W W') (hh : hi <= gb) : RowIn W' lo hi e s v n :=
 ⟨h.1.elim fun xs hx=>⟨xs,own_block hx fun g hg=>b.block g (by have := h.2.2 g hg; omega)⟩,h.2⟩
end Go.Proofs.YtodhjjeagmjhdaaGreatDoor.BG
namespace Go.Proofs.YtodhjjeagmjhdaaGreatDoor.BG
open Go.RowKit
attribute [local go_sem ↓] Go.wp_at_zero Go.wp_at_succ
def RA (n : Nat) (vs : List Value) : Prop := ∀ p q g,p < n -> q < n -> p ≠ q -> (vs.getD p (.slice none 0 0)).ownBlock = some g -> (vs.getD q (.slice none 0 0)).ownBlock ≠ some g
end Go.Proofs.YtodhjjeagmjhdaaGreatDoor.BG
namespace Go.Proofs.YtodhjjeagmjhdaaGreatDoor.BG
open Go.RowKit
attribute [local go_sem ↓] Go.wp_at_zero Go.wp_at_succ
def StIn (W : World) (lo hi : Nat) (v : Value) : Prop := ∃ (vp vc vz t0 t1 t2 t3 : Value) (np nc nz : Nat) (vs : List Value) (ns : Nat -> Nat),v = .agg #[vp,vc,vz,t0,t1,t2,t3] /\ RowIn W lo hi 97 3 vp np /\ RowIn W lo hi 95 6 vc nc /\
 (W.ownsRow lo 28 1 vz nz vs /\ nz <= 4294967296 /\ ∀ g,vz.ownBlock = some g -> g < hi) /\ (∀ i,i < nz -> RowIn W lo hi 3 1 (vs.getD i (.slice none 0 0)) (ns i)) /\ RA nz vs
theorem StIn.below {W W' : World} {lo hi gb : Nat} {v : Value} (h : StIn W lo hi v) (b : Below gb W W') (hh : hi <= gb) : StIn W' lo hi v := by
 obtain ⟨vp,vc,vz,t0,t1,t2,t3,np,nc,nz,vs,ns,hv,h1,h2,⟨h3,h4,h5⟩,h6,h7⟩ := h
 exact ⟨vp,vc,vz,t0,t1,t2,t3,np,nc,nz,vs,ns,hv,h1.below b hh,h2.below b hh,⟨own_block h3 fun g hg=>b.block g (by have := h5 g hg; omega),h4,h5⟩,fun i hi=>(h6 i hi).below b hh,h7⟩
theorem GPost.mono {gb lo B : Nat} {f : Nat -> Value} {L : Nat -> VL} {S S' : Nat -> Nat -> Prop} {ks : List Nat} {W W' : World} {e : Ending} (h : GPost gb lo B f L S ks W e W') (k : ∀ j g,S j g -> S' j g) : GPost gb lo B f L S' ks W e W' := by
 obtain ⟨he,f',L',h1,h2,h3,h4⟩ := h
 exact ⟨he,f',L',h1,h2,fun j g hg=>(h3 j g hg).imp id (k j g),h4⟩
end Go.Proofs.YtodhjjeagmjhdaaGreatDoor.BG
namespace Go.Proofs.YtodhjjeagmjhdaaGreatDoor
open Go.RowKit
namespace ST
end ST
end Go.Proofs.YtodhjjeagmjhdaaGreatDoor
namespace Go.Proofs.YtodhjjeagmjhdaaGreatDoor.BG
open Go.RowKit
attribute [local go_sem ↓] Go.wp_at_zero Go.wp_at_succ
end Go.Proofs.YtodhjjeagmjhdaaGreatDoor.BG
namespace Go.Proofs.YtodhjjeagmjhdaaGreatDoor.BG
open Go.RowKit
structure BagP (w0 : World) (lo gb B : Nat) (f : Nat -> Value) (L : Nat -> VL) (k : Nat) (W : World) : Prop where
 blk : W.heap[gb]? = some (.cells (bagA f) tBag (0,0))
 lt : gb < B /\ B <= W.heap.size /\ lo <= gb
 kinds : ∀ j,k <= j -> j < 21 -> Kn W lo gb B (eT j) (rT j) (sT j) (f j) (L j)
 rest : Below lo w0 W
theorem BagG.part {W : World} {lo gb B : Nat} {f : Nat -> Value} {L : Nat -> VL} (h : BagG W lo gb B f L) (hl : lo <= gb) : BagP W lo gb B f L 0 W := ⟨h.blk,⟨h.lt.1,h.lt.2,hl⟩,fun j _ hj=>h.kinds j hj,Below.refl _ _⟩
theorem BagP.none {w0 W : World} {lo gb B k : Nat} {f : Nat -> Value} {L : Nat -> VL} (h : BagP w0 lo gb B f L k W) : BagP w0 lo gb B f L (k + 1) W := ⟨h.blk,h.lt,fun j hj=>h.kinds j (by omega),h.rest⟩
end Go.Proofs.YtodhjjeagmjhdaaGreatDoor.BG
