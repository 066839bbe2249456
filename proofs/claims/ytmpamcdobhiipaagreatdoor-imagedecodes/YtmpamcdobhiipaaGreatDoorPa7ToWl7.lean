/-
  Decode: the parts of an image.
-/
import Derived.Test.YtmpamcdobhiipaaGreatDoorZn7Q
import Derived.Laws.ByValue
import Derived.Shelf.Abstract
namespace Go.Proofs.YtmpamcdobhiipaaGreatDoor
open Go.RowKit
attribute [local go_sem ↓] Go.wp_at_zero Go.wp_at_succ

namespace IM
open Go.Proofs.YtmpamcdobhiipaaGreatDoor.ST
/- the parts' cells: how many, and what reads one; the reader's pointer lies in block pb -/
def ptC (rb pb : Nat) : Array Value := #[.func (.func 62) #[] #[], .func (.func 63) #[.pointer (some ⟨rb, 0, none⟩)] #[], .func (.func 64) #[] #[.pointer (some ⟨pb, 0, none⟩)], .func (.func 66) #[.pointer (some ⟨rb, 0, none⟩)] #[], .func (.func 67) #[] #[.pointer (some ⟨pb, 0, none⟩)], .func (.func 68) #[.pointer (some ⟨rb, 0, none⟩)] #[], .func (.func 69) #[] #[.pointer (some ⟨pb, 0, none⟩)], .func (.func 70) #[.pointer (some ⟨rb, 0, none⟩)] #[], .func (.func 71) #[] #[], .func (.func 72) #[.pointer (some ⟨rb, 0, none⟩)] #[]]
set_option maxRecDepth 100000 in
set_option maxHeartbeats 1000000 in
theorem parts_ (rb : Nat) (w : World) : Calls Tryz.prog 49 #[.pointer (some ⟨rb, 0, none⟩)] w fun x w' => x = .returned (.slice (some ⟨w.heap.size + 1, 0, none⟩) 5 5) ∧ w' = (w.alloc (.cells #[.pointer (some ⟨rb, 0, none⟩)] 67)).alloc (.cells (ptC rb w.heap.size) 91) := by
  unfold ptC
  go_enter Tryz.func49, Tryz.ntmps49
  go_wp2
  go_ret
  exact ⟨rfl, rfl⟩
set_option maxRecDepth 100000 in
theorem many1_ (w : World) : Calls Tryz.prog 62 #[] w fun x w' => x = .returned (.tuple #[.int .i64 5, .bool true]) ∧ w' = w := by
  go_enter Tryz.func62, Tryz.ntmps62
  go_wp2
  go_ret2
  exact ⟨rfl, rfl⟩
set_option maxRecDepth 100000 in
theorem many5_ (w : World) : Calls Tryz.prog 71 #[] w fun x w' => x = .returned (.tuple #[.int .i64 1, .bool true]) ∧ w' = w := by
  go_enter Tryz.func71, Tryz.ntmps71
  go_wp2
  go_ret2
  exact ⟨rfl, rfl⟩
set_option maxRecDepth 100000 in
set_option maxHeartbeats 1000000 in
theorem many2_ (rb pb : Nat) (vb : Value) (B : List Int) (at_ : Nat) (w : World) (h : RR rb vb B at_ w) (hp : w.cell? ⟨pb, 0, none⟩ = some (.pointer (some ⟨rb, 0, none⟩))) :
    Calls Tryz.prog 64 #[.pointer (some ⟨pb, 0, none⟩)] w fun x w' => x = .returned (.tuple #[.int .i64 (rv B at_ 1), .bool (rok B at_ 1)]) ∧ ∃ k, w' = rw_ rb B at_ 1 k w := by
  have HNU : Hid _ := number_ rb vb B at_ 1 w h (by decide) (by decide)
  clear h
  generalize rv B at_ 1 = y at *
  generalize rok B at_ 1 = o at *
  go_enter Tryz.func64, Tryz.ntmps64
  go_wp2_with fail
  refine Calls.mono HNU.out ?_
  rintro r W1 ⟨rfl, hk⟩
  have HK : Hid _ := hk
  clear hk HNU
  go_wp2
  go_ret2
  exact ⟨rfl, HK.out⟩
set_option maxRecDepth 100000 in
set_option maxHeartbeats 1000000 in
theorem many3_ (rb pb : Nat) (vb : Value) (B : List Int) (at_ : Nat) (w : World) (h : RR rb vb B at_ w) (hp : w.cell? ⟨pb, 0, none⟩ = some (.pointer (some ⟨rb, 0, none⟩))) :
    Calls Tryz.prog 67 #[.pointer (some ⟨pb, 0, none⟩)] w fun x w' => x = .returned (.tuple #[.int .i64 (rv B at_ 2), .bool (rok B at_ 2)]) ∧ ∃ k, w' = rw_ rb B at_ 2 k w := by
  have HNU : Hid _ := number_ rb vb B at_ 2 w h (by decide) (by decide)
  clear h
  generalize rv B at_ 2 = y at *
  generalize rok B at_ 2 = o at *
  go_enter Tryz.func67, Tryz.ntmps67
  go_wp2_with fail
  refine Calls.mono HNU.out ?_
  rintro r W1 ⟨rfl, hk⟩
  have HK : Hid _ := hk
  clear hk HNU
  go_wp2
  go_ret2
  exact ⟨rfl, HK.out⟩
set_option maxRecDepth 100000 in
set_option maxHeartbeats 1000000 in
theorem many4_ (rb pb : Nat) (a : Option Addr) (n c : Nat) (w : World) (hp : w.cell? ⟨pb, 0, none⟩ = some (.pointer (some ⟨rb, 0, none⟩))) (h2 : w.cell? ⟨rb, 2, none⟩ = some (.slice a n c)) (hn : n ≤ 100000) :
    Calls Tryz.prog 69 #[.pointer (some ⟨pb, 0, none⟩)] w fun x w' => x = .returned (.tuple #[.int .i64 ((4 * n : Nat) : Int), .bool true]) ∧ w' = w := by
  have e1 : IntKind.i64.wrap (4 * (n : Int)) = ((4 * n : Nat) : Int) := by rw [IntKind.wrap_i64]; omega
  go_enter Tryz.func69, Tryz.ntmps69
  go_wp2
  go_ret2
  exact ⟨rfl, rfl⟩
end IM
end Go.Proofs.YtmpamcdobhiipaaGreatDoor
/-
  Decode: what stands in memory while the parts are read, part by part.
-/
namespace Go.Proofs.YtmpamcdobhiipaaGreatDoor
open Go.RowKit
attribute [local go_sem ↓] Go.wp_at_zero Go.wp_at_succ

namespace IM
open Go.Proofs.YtmpamcdobhiipaaGreatDoor.ST
/- what is still to be read -/
def k4 (n : Nat) (ps : List Ply) (cs : List Crd) : Rdr Stt := bnd (rep rdZ (4 * n)) fun zs => rdT ps cs zs
def k3 (n : Nat) (ps : List Ply) : Rdr Stt := bnd num2 fun m => bnd (rep rdC m.toNat) fun cs => k4 n ps cs
def k2 : Rdr Stt := bnd num1 fun n => bnd (rep rdP n.toNat) fun ps => k3 n.toNat ps
def mI : Nat → Rdr Unit
  | 0 => rdM
  | 1 => bnd (mkb 66) fun _ => bnd (mkb 76) fun _ => bnd (mkb 83) fun _ => mkb 1
  | 2 => bnd (mkb 76) fun _ => bnd (mkb 83) fun _ => mkb 1
  | 3 => bnd (mkb 83) fun _ => mkb 1
  | 4 => mkb 1
  | _ => ret ()
theorem rdS_k (B : List Int) : rdS B = bnd (mI 0) (fun _ => k2) B := rfl
theorem mI_ok {α : Type} (B : List Int) (k : Rdr α) : ∀ i, i < 5 → i ≤ B.length → mok B i = true → bnd (mI i) (fun _ => k) (B.drop i) = bnd (mI (i + 1)) (fun _ => k) (B.drop (i + 1))
  | 0, _, hb, h => by
    have h1 := mkb_at B 0 hb
    rw [if_pos h] at h1
    simp only [mI, rdM, bnd]
    rw [show mkb 84 (B.drop 0) = _ from h1]
  | 1, _, hb, h => by
    have h1 := mkb_at B 1 hb
    rw [if_pos h] at h1
    simp only [mI, bnd]
    rw [show mkb 66 (B.drop 1) = _ from h1]
  | 2, _, hb, h => by
    have h1 := mkb_at B 2 hb
    rw [if_pos h] at h1
    simp only [mI, bnd]
    rw [show mkb 76 (B.drop 2) = _ from h1]
  | 3, _, hb, h => by
    have h1 := mkb_at B 3 hb
    rw [if_pos h] at h1
    simp only [mI, bnd]
    rw [show mkb 83 (B.drop 3) = _ from h1]
  | 4, _, hb, h => by
    have h1 := mkb_at B 4 hb
    rw [if_pos h] at h1
    simp only [mI, bnd, ret]
    rw [show mkb 1 (B.drop 4) = _ from h1]
theorem mI_no {α : Type} (B : List Int) (k : Rdr α) : ∀ i, i < 5 → i ≤ B.length → ¬ mok B i = true → bnd (mI i) (fun _ => k) (B.drop i) = .error (B.length - i)
  | 0, _, hb, h => by
    have h1 := mkb_at B 0 hb
    rw [if_neg h] at h1
    simp only [mI, rdM, bnd]
    rw [show mkb 84 (B.drop 0) = _ from h1]
  | 1, _, hb, h => by
    have h1 := mkb_at B 1 hb
    rw [if_neg h] at h1
    simp only [mI, bnd]
    rw [show mkb 66 (B.drop 1) = _ from h1]
  | 2, _, hb, h => by
    have h1 := mkb_at B 2 hb
    rw [if_neg h] at h1
    simp only [mI, bnd]
    rw [show mkb 76 (B.drop 2) = _ from h1]
  | 3, _, hb, h => by
    have h1 := mkb_at B 3 hb
    rw [if_neg h] at h1
    simp only [mI, bnd]
    rw [show mkb 83 (B.drop 3) = _ from h1]
  | 4, _, hb, h => by
    have h1 := mkb_at B 4 hb
    rw [if_neg h] at h1
    simp only [mI, bnd]
    rw [show mkb 1 (B.drop 4) = _ from h1]
/- what stands in memory: the reader, its lists, the parts -/
def RW (w0 : World) (rb : Nat) (vb : Value) (B : List Int) (pb : Nat) (p : Nat) (ps : List Ply) (cs : List Crd) (zs : List (List Int)) (a b c d : Int) (W : World) : Prop :=
  ∃ C vp vc vz, RD w0 rb vb B p C W ∧ (C[2]? = some vp ∧ C[3]? = some vc ∧ C[4]? = some vz) ∧ (C[5]? = some (.int .i32 a) ∧ C[6]? = some (.int .i64 b) ∧ C[7]? = some (.int .i8 c) ∧ C[8]? = some (.int .i64 d)) ∧
    W.ownsRow w0.heap.size 95 3 vp ps.length (pvs ps) ∧ W.ownsRow w0.heap.size 83 6 vc cs.length (cvs cs) ∧ ZW w0.heap.size W vz zs ∧
    W.heap[pb]? = some (.cells #[.pointer (some ⟨rb, 0, none⟩)] 67 (0, 0)) ∧ W.heap[pb + 1]? = some (.cells (ptC rb pb) 91 (0, 0))
/- a fault was found -/
def FW (w0 : World) (rb : Nat) (vb : Value) (B : List Int) (W : World) : Prop := ∃ r C, RD w0 rb vb B (B.length - r) C W ∧ rdS B = .error r
theorem keepR {base e s n rb : Nat} {v u : Value} {xs : List Value} {W W' : World} {C : Array Value} {t : TypeId} (h : W.ownsRow base e s v n xs) (K : Kb (fun x => x = rb ∨ u.ownBlock = some x) W W') (hrb : W.heap[rb]? = some (.cells C t (0, 0))) (ht : t ≠ e) (hu : v.ownBlock = none ∨ v.ownBlock ≠ u.ownBlock) : W'.ownsRow base e s v n xs :=
  row_keep h (fun g o hg ho => K.1 g o ho (by
    rintro (rfl | hx)
    · exact ne_rb h hrb ht hg
    · rcases hu with hu | hu
      · rw [hu] at hg; cases hg
      · exact hu (hg.trans hx.symm)))
theorem keepB {base e s n rb g : Nat} {u : Value} {xs : List Value} {W W' : World} {C D : Array Value} {t tg : TypeId} (hg : W.heap[g]? = some (.cells D tg (0, 0))) (K : Kb (fun x => x = rb ∨ u.ownBlock = some x) W W') (hrb : W.heap[rb]? = some (.cells C t (0, 0))) (ht : t ≠ tg) (hu : W.ownsRow base e s u n xs) (he : tg ≠ e) : W'.heap[g]? = some (.cells D tg (0, 0)) :=
  K.1 g _ hg (by
    rintro (rfl | hx)
    · rw [hrb] at hg; cases hg; exact ht rfl
    · exact ne_rb hu hg he hx)
theorem keepZ {base e s n rb : Nat} {vz u : Value} {zs : List (List Int)} {xs : List Value} {W W' : World} {C : Array Value} (h : ZW base W vz zs) (K : Kb (fun x => x = rb ∨ u.ownBlock = some x) W W') (hrb : W.heap[rb]? = some (.cells C 69 (0, 0))) (hu : W.ownsRow base e s u n xs) (h1 : 84 ≠ e) (h2 : 3 ≠ e) : ZW base W' vz zs := by
  obtain ⟨vs, hl, ho, hr, hra⟩ := h
  exact ⟨vs, hl, keepR ho K hrb (by decide) (row_apart ho hu h1), fun i hi => keepR (hr i hi) K hrb (by decide) (row_apart (hr i hi) hu h2), hra⟩
theorem Kb.only {rb : Nat} {W W' : World} (K : Kb (fun x => x = rb) W W') : Kb (fun x => x = rb ∨ (Value.slice none 0 0).ownBlock = some x) W W' := K.more (fun _ h => .inl h)
/- the reader's place alone has turned -/
theorem RW.at {w0 : World} {rb : Nat} {vb : Value} {B : List Int} {pb p : Nat} {ps : List Ply} {cs : List Crd} {zs : List (List Int)} {a b c d : Int} {W W' : World} (h : RW w0 rb vb B pb p ps cs zs a b c d W) (q : Nat) (K : Kb (fun x => x = rb) W W') (hR : ∀ C, RD w0 rb vb B p C W → ∃ C', RD w0 rb vb B q C' W' ∧ ∀ j, 2 ≤ j → C'[j]? = C[j]?) : RW w0 rb vb B pb q ps cs zs a b c d W' := by
  obtain ⟨C, vp, vc, vz, h1, ⟨h2, h3, h4⟩, ⟨h5, h6, h7, h8⟩, h9, h10, h11, h12, h13⟩ := h
  obtain ⟨C', r1, r2⟩ := hR C h1
  have hn : W.ownsRow w0.heap.size 30 1 (.slice none 0 0) 0 [] := World.ownsRow_nil _ _ _ _
  refine ⟨C', vp, vc, vz, r1, ⟨by rw [r2 2 (by decide)]; exact h2, by rw [r2 3 (by decide)]; exact h3, by rw [r2 4 (by decide)]; exact h4⟩, ⟨by rw [r2 5 (by decide)]; exact h5, by rw [r2 6 (by decide)]; exact h6, by rw [r2 7 (by decide)]; exact h7, by rw [r2 8 (by decide)]; exact h8⟩, ?_, ?_, ?_, ?_, ?_⟩
  · exact keepR h9 K.only h1.hp (by decide) (row_apart h9 hn (by decide))
  · exact keepR h10 K.only h1.hp (by decide) (row_apart h10 hn (by decide))
  · exact keepZ h11 K.only h1.hp hn (by decide) (by decide)
  · exact keepB h12 K.only h1.hp (by decide) hn (by decide)
  · exact keepB h13 K.only h1.hp (by decide) hn (by decide)
theorem RW.drew {w0 : World} {rb : Nat} {vb : Value} {B : List Int} {pb p : Nat} {ps : List Ply} {cs : List Crd} {zs : List (List Int)} {a b c d : Int} {W : World} (h : RW w0 rb vb B pb p ps cs zs a b c d W) (k : Nat) : RW w0 rb vb B pb p ps cs zs a b c d (W.drewN k) :=
  h.at p (Kb.of_up ((Up.refl _).drewN k)) (fun C hC => ⟨C, hC.drew k, fun _ _ => rfl⟩)
theorem RW.go {w0 : World} {rb : Nat} {vb : Value} {B : List Int} {pb p : Nat} {ps : List Ply} {cs : List Crd} {zs : List (List Int)} {a b c d : Int} {W : World} (h : RW w0 rb vb B pb p ps cs zs a b c d W) (k q : Nat) (hq : q ≤ B.length) : RW w0 rb vb B pb q ps cs zs a b c d ((W.drewN k).setCell ⟨rb, 1, none⟩ (.int .i64 (q : Int))) :=
  h.at q (Kb.set k rfl) (fun C hC => ⟨_, hC.go k q hq, fun j hj => by rw [Array.getElem?_setIfInBounds_ne (by omega)]⟩)
theorem RW.rd {w0 : World} {rb : Nat} {vb : Value} {B : List Int} {pb p : Nat} {ps : List Ply} {cs : List Crd} {zs : List (List Int)} {a b c d : Int} {W : World} (h : RW w0 rb vb B pb p ps cs zs a b c d W) : ∃ C, RD w0 rb vb B p C W := by
  obtain ⟨C, vp, vc, vz, h1, -⟩ := h
  exact ⟨C, h1⟩
theorem RW.le {w0 : World} {rb : Nat} {vb : Value} {B : List Int} {pb p : Nat} {ps : List Ply} {cs : List Crd} {zs : List (List Int)} {a b c d : Int} {W : World} (h : RW w0 rb vb B pb p ps cs zs a b c d W) : p ≤ B.length := by
  obtain ⟨C, h1⟩ := h.rd
  exact h1.at_le
theorem RW.fault {w0 : World} {rb : Nat} {vb : Value} {B : List Int} {pb p : Nat} {ps : List Ply} {cs : List Crd} {zs : List (List Int)} {a b c d : Int} {W : World} (h : RW w0 rb vb B pb p ps cs zs a b c d W) (hr : rdS B = .error (B.length - p)) : FW w0 rb vb B W := by
  obtain ⟨C, h1⟩ := h.rd
  refine ⟨B.length - p, C, ?_, hr⟩
  rw [show B.length - (B.length - p) = p by have := h1.at_le; omega]
  exact h1
/- behind how many parts, and within one -/
def IW (w0 : World) (rb : Nat) (vb : Value) (B : List Int) (pb : Nat) : Nat → World → Prop
  | 0, W => RW w0 rb vb B pb 0 [] [] [] 0 0 0 0 W
  | 1, W => ∃ p, RW w0 rb vb B pb p [] [] [] 0 0 0 0 W ∧ rdS B = k2 (B.drop p)
  | 2, W => ∃ p ps, RW w0 rb vb B pb p ps [] [] 0 0 0 0 W ∧ ps.length ≤ 255 ∧ rdS B = k3 ps.length ps (B.drop p)
  | 3, W => ∃ p ps cs, RW w0 rb vb B pb p ps cs [] 0 0 0 0 W ∧ ps.length ≤ 255 ∧ rdS B = k4 ps.length ps cs (B.drop p)
  | 4, W => ∃ p ps cs zs, RW w0 rb vb B pb p ps cs zs 0 0 0 0 W ∧ rdS B = rdT ps cs zs (B.drop p)
  | _, W => ∃ p s, RW w0 rb vb B pb p s.ps s.cs s.zs s.turn s.whose s.fin s.winner W ∧ rdS B = .ok (s, B.drop p)
def JW (w0 : World) (rb : Nat) (vb : Value) (B : List Int) (pb : Nat) : Nat → Nat → Nat → World → Prop
  | 0, m, i, W => m = 5 ∧ RW w0 rb vb B pb i [] [] [] 0 0 0 0 W ∧ rdS B = bnd (mI i) (fun _ => k2) (B.drop i)
  | 1, m, i, W => ∃ p1 p ps, RW w0 rb vb B pb p ps [] [] 0 0 0 0 W ∧ ps.length = i ∧ m ≤ 255 ∧ rdS B = bnd (rep rdP m) (k3 m) (B.drop p1) ∧ rep rdP i (B.drop p1) = .ok (ps, B.drop p)
  | 2, m, i, W => ∃ p1 p ps cs, RW w0 rb vb B pb p ps cs [] 0 0 0 0 W ∧ cs.length = i ∧ m ≤ 65535 ∧ ps.length ≤ 255 ∧ rdS B = bnd (rep rdC m) (k4 ps.length ps) (B.drop p1) ∧ rep rdC i (B.drop p1) = .ok (cs, B.drop p)
  | 3, m, i, W => ∃ p1 p ps cs zs, RW w0 rb vb B pb p ps cs zs 0 0 0 0 W ∧ zs.length = i ∧ m ≤ 1020 ∧ rdS B = bnd (rep rdZ m) (rdT ps cs) (B.drop p1) ∧ rep rdZ i (B.drop p1) = .ok (zs, B.drop p)
  | 4, m, i, W => m = 1 ∧ ((i = 0 ∧ IW w0 rb vb B pb 4 W) ∨ (i = 1 ∧ IW w0 rb vb B pb 5 W))
  | _, _, _, _ => False
theorem jw_next {w0 : World} {rb : Nat} {vb : Value} {B : List Int} {pb m : Nat} {W : World} : ∀ j, JW w0 rb vb B pb j m m W → IW w0 rb vb B pb (j + 1) W
  | 0, h => by
    obtain ⟨rfl, h1, h2⟩ := h
    exact ⟨5, h1, h2⟩
  | 1, h => by
    obtain ⟨p1, p, ps, h1, h2, h3, h4, h5⟩ := h
    subst h2
    exact ⟨p, ps, h1, h3, by rw [h4, bnd_go h5]⟩
  | 2, h => by
    obtain ⟨p1, p, ps, cs, h1, h2, h3, h4, h5, h6⟩ := h
    exact ⟨p, ps, cs, h1, h4, by rw [h5, bnd_go h6]⟩
  | 3, h => by
    obtain ⟨p1, p, ps, cs, zs, h1, h2, h3, h4, h5⟩ := h
    exact ⟨p, ps, cs, zs, h1, by rw [h4, bnd_go h5]⟩
  | 4, h => by
    obtain ⟨rfl, ⟨h0, -⟩ | ⟨-, h1⟩⟩ := h
    · cases h0
    · exact h1
  | n + 5, h => h.elim
theorem iw_rd {w0 : World} {rb : Nat} {vb : Value} {B : List Int} {pb : Nat} {W : World} : ∀ j, IW w0 rb vb B pb j W → ∃ p ps cs zs a b c d, RW w0 rb vb B pb p ps cs zs a b c d W
  | 0, h => ⟨_, _, _, _, _, _, _, _, h⟩
  | 1, h => by obtain ⟨p, h1, -⟩ := h; exact ⟨_, _, _, _, _, _, _, _, h1⟩
  | 2, h => by obtain ⟨p, ps, h1, -⟩ := h; exact ⟨_, _, _, _, _, _, _, _, h1⟩
  | 3, h => by obtain ⟨p, ps, cs, h1, -⟩ := h; exact ⟨_, _, _, _, _, _, _, _, h1⟩
  | 4, h => by obtain ⟨p, ps, cs, zs, h1, -⟩ := h; exact ⟨_, _, _, _, _, _, _, _, h1⟩
  | n + 5, h => by obtain ⟨p, s, h1, -⟩ := h; exact ⟨_, _, _, _, _, _, _, _, h1⟩
theorem jw_rd {w0 : World} {rb : Nat} {vb : Value} {B : List Int} {pb m i : Nat} {W : World} : ∀ j, JW w0 rb vb B pb j m i W → ∃ p ps cs zs a b c d, RW w0 rb vb B pb p ps cs zs a b c d W
  | 0, h => by obtain ⟨-, h1, -⟩ := h; exact ⟨_, _, _, _, _, _, _, _, h1⟩
  | 1, h => by obtain ⟨p1, p, ps, h1, -⟩ := h; exact ⟨_, _, _, _, _, _, _, _, h1⟩
  | 2, h => by obtain ⟨p1, p, ps, cs, h1, -⟩ := h; exact ⟨_, _, _, _, _, _, _, _, h1⟩
  | 3, h => by obtain ⟨p1, p, ps, cs, zs, h1, -⟩ := h; exact ⟨_, _, _, _, _, _, _, _, h1⟩
  | 4, h => by
    obtain ⟨-, ⟨-, h1⟩ | ⟨-, h1⟩⟩ := h
    · exact iw_rd 4 h1
    · exact iw_rd 5 h1
  | n + 5, h => h.elim
/- the functions of the parts -/
def fm : Nat → Nat
  | 0 => 62
  | 1 => 64
  | 2 => 67
  | 3 => 69
  | _ => 71
def fo : Nat → Nat
  | 0 => 63
  | 1 => 66
  | 2 => 68
  | 3 => 70
  | _ => 72
def cm (pb : Nat) : Nat → Array Value
  | 0 => #[]
  | 1 => #[.pointer (some ⟨pb, 0, none⟩)]
  | 2 => #[.pointer (some ⟨pb, 0, none⟩)]
  | 3 => #[.pointer (some ⟨pb, 0, none⟩)]
  | _ => #[]
theorem pt_cells (rb pb : Nat) : ∀ j, j < 5 → (ptC rb pb)[2 * j]? = some (.func (.func (fm j)) #[] (cm pb j)) ∧ (ptC rb pb)[2 * j + 1]? = some (.func (.func (fo j)) #[.pointer (some ⟨rb, 0, none⟩)] #[])
  | 0, _ => ⟨rfl, rfl⟩
  | 1, _ => ⟨rfl, rfl⟩
  | 2, _ => ⟨rfl, rfl⟩
  | 3, _ => ⟨rfl, rfl⟩
  | 4, _ => ⟨rfl, rfl⟩
theorem fm_enters : ∀ j, j < 5 → ∀ (args : Array Value) (w : World), (callFunc (fm j) args).run Tryz.prog w = .ok (.enter (fm j) args) w
  | 0, _ => enters_of Tryz.func62 (by kernel_rfl) rfl
  | 1, _ => enters_of Tryz.func64 (by kernel_rfl) rfl
  | 2, _ => enters_of Tryz.func67 (by kernel_rfl) rfl
  | 3, _ => enters_of Tryz.func69 (by kernel_rfl) rfl
  | 4, _ => enters_of Tryz.func71 (by kernel_rfl) rfl
theorem fo_enters : ∀ j, j < 5 → ∀ (args : Array Value) (w : World), (callFunc (fo j) args).run Tryz.prog w = .ok (.enter (fo j) args) w
  | 0, _ => enters_of Tryz.func63 (by kernel_rfl) rfl
  | 1, _ => enters_of Tryz.func66 (by kernel_rfl) rfl
  | 2, _ => enters_of Tryz.func68 (by kernel_rfl) rfl
  | 3, _ => enters_of Tryz.func70 (by kernel_rfl) rfl
  | 4, _ => enters_of Tryz.func72 (by kernel_rfl) rfl
def CmP (w0 : World) (rb : Nat) (vb : Value) (B : List Int) (pb j : Nat) (x : Ending) (w' : World) : Prop := ∃ (m : Nat) (o : Bool), x = .returned (.tuple #[.int .i64 m, .bool o]) ∧ m ≤ 65535 ∧ (if o = true then JW w0 rb vb B pb j m 0 w' else FW w0 rb vb B w')
def CoP (w0 : World) (rb : Nat) (vb : Value) (B : List Int) (pb j m i : Nat) (x : Ending) (w' : World) : Prop := ∃ o : Bool, x = .returned (.bool o) ∧ (if o = true then JW w0 rb vb B pb j m (i + 1) w' else FW w0 rb vb B w')
theorem num1_no (B : List Int) (i : Nat) (h : ¬ i + 1 ≤ B.length) : num1 (B.drop i) = .error (B.length - i) := by rw [num1_at, if_neg h]
theorem rv2_in (B : List Int) (hB : Byt B) (at_ : Nat) : 0 ≤ rv B at_ 2 ∧ rv B at_ 2 < 65536 := by
  unfold rv
  split
  · have h1 := vl_lt 2 ((B.drop at_).take 2) (by rw [List.length_take, List.length_drop]; omega) (fun c hc => hB c (List.mem_of_mem_drop (List.mem_of_mem_take hc)))
    have : (256 : Int) ^ 2 = 65536 := by decide
    have h2 := rv_in B hB at_ 2 (by decide)
    unfold rv at h2
    rw [if_pos (by assumption)] at h2
    omega
  · omega
theorem cm0_ (w0 : World) (rb : Nat) (vb : Value) (B : List Int) (pb : Nat) (W : World) (h : IW w0 rb vb B pb 0 W) : Calls Tryz.prog 62 #[] W (CmP w0 rb vb B pb 0) := by
  refine Calls.mono (many1_ W) ?_
  rintro x w' ⟨rfl, rfl⟩
  exact ⟨5, true, rfl, by decide, by rw [if_pos rfl]; exact ⟨rfl, h, rdS_k B⟩⟩
theorem cm1_ (w0 : World) (rb : Nat) (vb : Value) (B : List Int) (pb : Nat) (W : World) (h : IW w0 rb vb B pb 1 W) : Calls Tryz.prog 64 #[.pointer (some ⟨pb, 0, none⟩)] W (CmP w0 rb vb B pb 1) := by
  obtain ⟨p, h1, h2⟩ := h
  obtain ⟨C, vp, vc, vz, q1, q2, q3, q4, q5, q6, q7, q8⟩ := id h1
  refine Calls.mono (many2_ rb pb vb B p W q1.rr (by simp only [World.cell?, q7]; rfl)) ?_
  rintro x w' ⟨rfl, k, hw'⟩
  have hr := rv1_in B q1.byt p
  obtain ⟨m, hm⟩ : ∃ m : Nat, (m : Int) = rv B p 1 := ⟨(rv B p 1).toNat, by omega⟩
  refine ⟨m, rok B p 1, by rw [hm], by omega, ?_⟩
  unfold rok
  unfold rw_ at hw'
  by_cases hk : p + 1 ≤ B.length
  · rw [if_pos hk] at hw'
    rw [if_pos (decide_eq_true hk), hw']
    refine ⟨p + 1, p + 1, [], h1.go k _ hk, rfl, by omega, ?_, rfl⟩
    rw [h2]
    unfold k2
    rw [bnd_go (x := rv B p 1) (l1 := B.drop (p + 1)) (by rw [num1_at, if_pos hk]), ← hm]
    rfl
  · rw [if_neg hk] at hw'
    rw [if_neg (by simp [hk]), hw']
    refine (h1.drew k).fault ?_
    rw [h2]
    unfold k2
    rw [bnd_no (num1_no B p hk)]
theorem cm2_ (w0 : World) (rb : Nat) (vb : Value) (B : List Int) (pb : Nat) (W : World) (h : IW w0 rb vb B pb 2 W) : Calls Tryz.prog 67 #[.pointer (some ⟨pb, 0, none⟩)] W (CmP w0 rb vb B pb 2) := by
  obtain ⟨p, ps, h1, h0, h2⟩ := h
  obtain ⟨C, vp, vc, vz, q1, q2, q3, q4, q5, q6, q7, q8⟩ := id h1
  refine Calls.mono (many3_ rb pb vb B p W q1.rr (by simp only [World.cell?, q7]; rfl)) ?_
  rintro x w' ⟨rfl, k, hw'⟩
  have hr := rv2_in B q1.byt p
  obtain ⟨m, hm⟩ : ∃ m : Nat, (m : Int) = rv B p 2 := ⟨(rv B p 2).toNat, by omega⟩
  refine ⟨m, rok B p 2, by rw [hm], by omega, ?_⟩
  unfold rok
  unfold rw_ at hw'
  by_cases hk : p + 2 ≤ B.length
  · rw [if_pos hk] at hw'
    rw [if_pos (decide_eq_true hk), hw']
    refine ⟨p + 2, p + 2, ps, [], h1.go k _ hk, rfl, by omega, h0, ?_, rfl⟩
    rw [h2]
    unfold k3
    rw [bnd_go (x := rv B p 2) (l1 := B.drop (p + 2)) (by rw [num2_at, if_pos hk]), ← hm]
    rfl
  · rw [if_neg hk] at hw'
    rw [if_neg (by simp [hk]), hw']
    refine (h1.drew k).fault ?_
    rw [h2]
    unfold k3
    rw [bnd_no (r := B.length - p) (by rw [num2_at, if_neg hk])]
theorem cm3_ (w0 : World) (rb : Nat) (vb : Value) (B : List Int) (pb : Nat) (W : World) (h : IW w0 rb vb B pb 3 W) : Calls Tryz.prog 69 #[.pointer (some ⟨pb, 0, none⟩)] W (CmP w0 rb vb B pb 3) := by
  obtain ⟨p, ps, cs, h1, h0, h2⟩ := h
  obtain ⟨C, vp, vc, vz, q1, q2, q3, q4, q5, q6, q7, q8⟩ := id h1
  obtain ⟨ad, cap, rfl⟩ := row_val q4
  refine Calls.mono (many4_ rb pb ad ps.length cap W (by simp only [World.cell?, q7]; rfl) (by simp only [World.cell?, q1.hp]; exact q2.1) (by omega)) ?_
  rintro x w' ⟨rfl, rfl⟩
  exact ⟨4 * ps.length, true, rfl, by omega, by rw [if_pos rfl]; exact ⟨p, p, ps, cs, [], h1, rfl, by omega, h2, rfl⟩⟩
theorem cm4_ (w0 : World) (rb : Nat) (vb : Value) (B : List Int) (pb : Nat) (W : World) (h : IW w0 rb vb B pb 4 W) : Calls Tryz.prog 71 #[] W (CmP w0 rb vb B pb 4) := by
  refine Calls.mono (many5_ W) ?_
  rintro x w' ⟨rfl, rfl⟩
  exact ⟨1, true, rfl, by decide, by rw [if_pos rfl]; exact ⟨rfl, .inl ⟨rfl, h⟩⟩⟩
theorem cm_ (w0 : World) (rb : Nat) (vb : Value) (B : List Int) (pb : Nat) (W : World) (j : Nat) (hj : j < 5) (h : IW w0 rb vb B pb j W) : Calls Tryz.prog (fm j) (cm pb j) W (CmP w0 rb vb B pb j) := by
  obtain rfl | rfl | rfl | rfl | rfl : j = 0 ∨ j = 1 ∨ j = 2 ∨ j = 3 ∨ j = 4 := by omega
  · simp only [fm, cm]; exact cm0_ w0 rb vb B pb W h
  · simp only [fm, cm]; exact cm1_ w0 rb vb B pb W h
  · simp only [fm, cm]; exact cm2_ w0 rb vb B pb W h
  · simp only [fm, cm]; exact cm3_ w0 rb vb B pb W h
  · simp only [fm, cm]; exact cm4_ w0 rb vb B pb W h
theorem rep_bad {α β : Type} {p : Rdr α} {f : List α → Rdr β} {B : List Int} {p1 q i m r : Nat} {l : List α} (h1 : rep p i (B.drop p1) = .ok (l, B.drop q)) (h2 : p (B.drop q) = .error r) (hi : i < m) : bnd (rep p m) f (B.drop p1) = .error r := by
  have h9 : rep p (i + 1) (B.drop p1) = .error r := by rw [rep_snoc, bnd_go h1, bnd_no h2]
  have h8 := rep_err (m - (i + 1)) h9
  rw [show i + 1 + (m - (i + 1)) = m by omega] at h8
  exact bnd_no h8
theorem rep_good {α : Type} {p : Rdr α} {B : List Int} {p1 q i : Nat} {l : List α} {x : α} {rest : List Int} (h1 : rep p i (B.drop p1) = .ok (l, B.drop q)) (h2 : p (B.drop q) = .ok (x, rest)) : rep p (i + 1) (B.drop p1) = .ok (l ++ [x], rest) := by
  rw [rep_snoc, bnd_go h1, bnd_go h2]
  rfl
/- what is left is an end of the bytes -/
def Sfx {α : Type} (p : Rdr α) : Prop := ∀ l x l', p l = .ok (x, l') → ∃ k, l' = l.drop k
theorem Sfx.bnd {α β : Type} {p : Rdr α} {f : α → Rdr β} (hp : Sfx p) (hf : ∀ x, Sfx (f x)) : Sfx (IM.bnd p f) := by
  intro l y l' h
  obtain ⟨x, l1, h1, h2⟩ := bnd_ok h
  obtain ⟨k, rfl⟩ := hp _ _ _ h1
  obtain ⟨k', rfl⟩ := hf x _ _ _ h2
  exact ⟨k + k', by rw [List.drop_drop]⟩
theorem Sfx.ret {α : Type} (x : α) : Sfx (IM.ret x) := fun l y l' h => by cases h; exact ⟨0, rfl⟩
theorem Sfx.rep {α : Type} {p : Rdr α} (hp : Sfx p) : ∀ n, Sfx (IM.rep p n)
  | 0 => Sfx.ret _
  | n + 1 => hp.bnd fun _ => (Sfx.rep hp n).bnd fun _ => Sfx.ret _
theorem sf1 : Sfx num1 := fun l x l' h => by
  match l, h with
  | _ :: _, h => cases h; exact ⟨1, rfl⟩
theorem sf2 : Sfx num2 := fun l x l' h => by
  match l, h with
  | _ :: _ :: _, h => cases h; exact ⟨2, rfl⟩
theorem sf4 : Sfx sg4 := fun l x l' h => by
  match l, h with
  | _ :: _ :: _ :: _ :: _, h => cases h; exact ⟨4, rfl⟩
theorem sff : Sfx flag := fun l x l' h => by
  match l, h with
  | a :: l, h =>
    simp only [flag] at h
    split at h
    · cases h
    · cases h; exact ⟨1, rfl⟩
theorem sfP : Sfx rdP := sf4.bnd fun _ => sf4.bnd fun _ => sff.bnd fun _ => Sfx.ret _
theorem sfC : Sfx rdC := sf2.bnd fun _ => sf1.bnd fun _ => sf4.bnd fun _ => sf4.bnd fun _ => sf4.bnd fun _ => sf4.bnd fun _ => Sfx.ret _
theorem sfZ : Sfx rdZ := sf2.bnd fun _ => sf2.rep _
theorem sfT (ps : List Ply) (cs : List Crd) (zs : List (List Int)) : Sfx (rdT ps cs zs) := sf4.bnd fun _ => sf1.bnd fun _ => sf1.bnd fun _ => sf1.bnd fun _ => Sfx.ret _
theorem Sfx.at {α : Type} {p : Rdr α} (hp : Sfx p) {B : List Int} {q : Nat} {x : α} {rest : List Int} (h : p (B.drop q) = .ok (x, rest)) : rest = B.drop (B.length - rest.length) := by
  obtain ⟨k, rfl⟩ := hp _ _ _ h
  rw [List.drop_drop, List.length_drop]
  by_cases hk : q + k ≤ B.length
  · rw [show B.length - (B.length - (q + k)) = q + k by omega]
  · rw [List.drop_eq_nil_of_le (by omega), List.drop_eq_nil_of_le (by omega)]
theorem co0_ (w0 : World) (rb : Nat) (vb : Value) (B : List Int) (pb m i : Nat) (W : World) (hi : i < m) (h : JW w0 rb vb B pb 0 m i W) : Calls Tryz.prog 63 #[.pointer (some ⟨rb, 0, none⟩)] W (CoP w0 rb vb B pb 0 m i) := by
  obtain ⟨rfl, h1, h2⟩ := h
  obtain ⟨C, q1⟩ := h1.rd
  refine Calls.mono (markByte_ rb vb B i W q1.rr hi) ?_
  rintro x w' ⟨rfl, k, hw'⟩
  refine ⟨mok B i, rfl, ?_⟩
  by_cases hk : mok B i = true
  · rw [if_pos hk] at hw' ⊢
    have hlt : i < B.length := by unfold mok at hk; simp only [Bool.and_eq_true, decide_eq_true_eq] at hk; exact hk.1
    rw [hw']
    exact ⟨rfl, h1.go k _ hlt, by rw [h2, mI_ok B _ i hi q1.at_le hk]⟩
  · rw [if_neg hk] at hw' ⊢
    rw [hw']
    exact (h1.drew k).fault (by rw [h2, mI_no B _ i hi q1.at_le hk])
theorem co1_ (w0 : World) (rb : Nat) (vb : Value) (B : List Int) (pb m i : Nat) (W : World) (hi : i < m) (h : JW w0 rb vb B pb 1 m i W) : Calls Tryz.prog 66 #[.pointer (some ⟨rb, 0, none⟩)] W (CoP w0 rb vb B pb 1 m i) := by
  obtain ⟨p1, p, ps, ⟨C, vp, vc, vz, q1, ⟨q2, q3, q4⟩, ⟨q5, q6, q7, q8⟩, q9, q10, q11, q12, q13⟩, h2, h3, h4, h5⟩ := h
  refine Calls.mono (player_ w0 rb vb B p C W q1 vp ps q2 q9 (by omega)) ?_
  intro x w' hx
  unfold PlP at hx
  cases hr : rdP (B.drop p) with
  | error r =>
    rw [hr] at hx
    obtain ⟨rfl, C', r1⟩ := hx
    exact ⟨false, rfl, by rw [if_neg (by decide)]; exact ⟨r, C', r1, by rw [h4]; exact rep_bad h5 hr hi⟩⟩
  | ok v =>
    obtain ⟨y, rest⟩ := v
    rw [hr] at hx
    obtain ⟨rfl, C', vp', r1, r2, r3, r4, K⟩ := hx
    refine ⟨true, rfl, ?_⟩
    rw [if_pos rfl]
    refine ⟨p1, B.length - rest.length, ps ++ [y], ⟨C', vp', vc, vz, r1, ⟨r2, by rw [r3 3 (by decide)]; exact q3, by rw [r3 4 (by decide)]; exact q4⟩, ⟨by rw [r3 5 (by decide)]; exact q5, by rw [r3 6 (by decide)]; exact q6, by rw [r3 7 (by decide)]; exact q7, by rw [r3 8 (by decide)]; exact q8⟩, ?_, ?_, ?_, ?_, ?_⟩, by simp [h2], h3, h4, ?_⟩
    · rw [List.length_append, List.length_singleton]; exact r4
    · exact keepR q10 K q1.hp (by decide) (row_apart q10 q9 (by decide))
    · exact keepZ q11 K q1.hp q9 (by decide) (by decide)
    · exact keepB q12 K q1.hp (by decide) q9 (by decide)
    · exact keepB q13 K q1.hp (by decide) q9 (by decide)
    · rw [← sfP.at hr]; exact rep_good h5 hr
theorem co2_ (w0 : World) (rb : Nat) (vb : Value) (B : List Int) (pb m i : Nat) (W : World) (hi : i < m) (h : JW w0 rb vb B pb 2 m i W) : Calls Tryz.prog 68 #[.pointer (some ⟨rb, 0, none⟩)] W (CoP w0 rb vb B pb 2 m i) := by
  obtain ⟨p1, p, ps, cs, ⟨C, vp, vc, vz, q1, ⟨q2, q3, q4⟩, ⟨q5, q6, q7, q8⟩, q9, q10, q11, q12, q13⟩, h2, h3, h0, h4, h5⟩ := h
  refine Calls.mono (card_ w0 rb vb B p C W q1 vc cs q3 q10 (by omega)) ?_
  intro x w' hx
  unfold CdP at hx
  cases hr : rdC (B.drop p) with
  | error r =>
    rw [hr] at hx
    obtain ⟨rfl, C', r1⟩ := hx
    exact ⟨false, rfl, by rw [if_neg (by decide)]; exact ⟨r, C', r1, by rw [h4]; exact rep_bad h5 hr hi⟩⟩
  | ok v =>
    obtain ⟨y, rest⟩ := v
    rw [hr] at hx
    obtain ⟨rfl, C', vp', r1, r2, r3, r4, K⟩ := hx
    refine ⟨true, rfl, ?_⟩
    rw [if_pos rfl]
    refine ⟨p1, B.length - rest.length, ps, cs ++ [y], ⟨C', vp, vp', vz, r1, ⟨by rw [r3 2 (by decide) (by decide)]; exact q2, r2, by rw [r3 4 (by decide) (by decide)]; exact q4⟩, ⟨by rw [r3 5 (by decide) (by decide)]; exact q5, by rw [r3 6 (by decide) (by decide)]; exact q6, by rw [r3 7 (by decide) (by decide)]; exact q7, by rw [r3 8 (by decide) (by decide)]; exact q8⟩, ?_, ?_, ?_, ?_, ?_⟩, by simp [h2], h3, h0, h4, ?_⟩
    · exact keepR q9 K q1.hp (by decide) (row_apart q9 q10 (by decide))
    · rw [List.length_append, List.length_singleton]; exact r4
    · exact keepZ q11 K q1.hp q10 (by decide) (by decide)
    · exact keepB q12 K q1.hp (by decide) q10 (by decide)
    · exact keepB q13 K q1.hp (by decide) q10 (by decide)
    · rw [← sfC.at hr]; exact rep_good h5 hr
theorem co3_ (w0 : World) (rb : Nat) (vb : Value) (B : List Int) (pb m i : Nat) (W : World) (hi : i < m) (h : JW w0 rb vb B pb 3 m i W) : Calls Tryz.prog 70 #[.pointer (some ⟨rb, 0, none⟩)] W (CoP w0 rb vb B pb 3 m i) := by
  obtain ⟨p1, p, ps, cs, zs, ⟨C, vp, vc, vz, q1, ⟨q2, q3, q4⟩, ⟨q5, q6, q7, q8⟩, q9, q10, q11, q12, q13⟩, h2, h3, h4, h5⟩ := h
  refine Calls.mono (zone_ w0 rb vb B p C W q1 vz zs q4 q11 (by omega)) ?_
  intro x w' hx
  unfold ZnP at hx
  cases hr : rdZ (B.drop p) with
  | error r =>
    rw [hr] at hx
    obtain ⟨rfl, C', r1⟩ := hx
    exact ⟨false, rfl, by rw [if_neg (by decide)]; exact ⟨r, C', r1, by rw [h4]; exact rep_bad h5 hr hi⟩⟩
  | ok v =>
    obtain ⟨y, rest⟩ := v
    rw [hr] at hx
    obtain ⟨rfl, C', vp', r1, r2, r3, r4, K⟩ := hx
    obtain ⟨vs, -, qo, -⟩ := id q11
    refine ⟨true, rfl, ?_⟩
    rw [if_pos rfl]
    refine ⟨p1, B.length - rest.length, ps, cs, zs ++ [y], ⟨C', vp, vc, vp', r1, ⟨by rw [r3 2 (by decide) (by decide)]; exact q2, by rw [r3 3 (by decide) (by decide)]; exact q3, r2⟩, ⟨by rw [r3 5 (by decide) (by decide)]; exact q5, by rw [r3 6 (by decide) (by decide)]; exact q6, by rw [r3 7 (by decide) (by decide)]; exact q7, by rw [r3 8 (by decide) (by decide)]; exact q8⟩, ?_, ?_, ?_, ?_, ?_⟩, by simp [h2], h3, h4, ?_⟩
    · exact keepR q9 K q1.hp (by decide) (row_apart q9 qo (by decide))
    · exact keepR q10 K q1.hp (by decide) (row_apart q10 qo (by decide))
    · exact r4
    · exact keepB q12 K q1.hp (by decide) qo (by decide)
    · exact keepB q13 K q1.hp (by decide) qo (by decide)
    · rw [← sfZ.at hr]; exact rep_good h5 hr
theorem co4_ (w0 : World) (rb : Nat) (vb : Value) (B : List Int) (pb m i : Nat) (W : World) (hi : i < m) (h : JW w0 rb vb B pb 4 m i W) : Calls Tryz.prog 72 #[.pointer (some ⟨rb, 0, none⟩)] W (CoP w0 rb vb B pb 4 m i) := by
  obtain ⟨rfl, ⟨rfl, h1⟩ | ⟨rfl, -⟩⟩ := h
  rotate_left
  · omega
  obtain ⟨p, ps, cs, zs, ⟨C, vp, vc, vz, q1, ⟨q2, q3, q4⟩, ⟨q5, q6, q7, q8⟩, q9, q10, q11, q12, q13⟩, h4⟩ := h1
  refine Calls.mono (rest_ w0 rb vb B p C W q1 0 0 0 0 q5 q6 q7 q8 ps cs zs) ?_
  intro x w' hx
  unfold RsP at hx
  cases hr : rdT ps cs zs (B.drop p) with
  | error r =>
    rw [hr] at hx
    obtain ⟨rfl, C', r1⟩ := hx
    exact ⟨false, rfl, by rw [if_neg (by decide)]; exact ⟨r, C', r1, by rw [h4]; exact hr⟩⟩
  | ok v =>
    obtain ⟨s, rest⟩ := v
    rw [hr] at hx
    obtain ⟨rfl, C', r1, r2, r3, K⟩ := hx
    have hn : W.ownsRow w0.heap.size 30 1 (.slice none 0 0) 0 [] := World.ownsRow_nil _ _ _ _
    refine ⟨true, rfl, ?_⟩
    rw [if_pos rfl]
    have hs : s.ps = ps ∧ s.cs = cs ∧ s.zs = zs := by
      unfold rdT at hr
      obtain ⟨a, l1, -, hr⟩ := bnd_ok hr
      obtain ⟨b, l2, -, hr⟩ := bnd_ok hr
      obtain ⟨c, l3, -, hr⟩ := bnd_ok hr
      obtain ⟨d, l4, -, hr⟩ := bnd_ok hr
      cases hr
      exact ⟨rfl, rfl, rfl⟩
    obtain ⟨rfl, rfl, rfl⟩ := hs
    refine ⟨rfl, .inr ⟨rfl, B.length - rest.length, s, ⟨C', vp, vc, vz, r1, ⟨by rw [r3 2 (by decide) (by decide)]; exact q2, by rw [r3 3 (by decide) (by decide)]; exact q3, by rw [r3 4 (by decide) (by decide)]; exact q4⟩, r2, ?_, ?_, ?_, ?_, ?_⟩, ?_⟩⟩
    · exact keepR q9 K.only q1.hp (by decide) (row_apart q9 hn (by decide))
    · exact keepR q10 K.only q1.hp (by decide) (row_apart q10 hn (by decide))
    · exact keepZ q11 K.only q1.hp hn (by decide) (by decide)
    · exact keepB q12 K.only q1.hp (by decide) hn (by decide)
    · exact keepB q13 K.only q1.hp (by decide) hn (by decide)
    · rw [h4, ← (sfT _ _ _).at hr]; exact hr
theorem co_ (w0 : World) (rb : Nat) (vb : Value) (B : List Int) (pb m i : Nat) (W : World) (j : Nat) (hj : j < 5) (hi : i < m) (h : JW w0 rb vb B pb j m i W) : Calls Tryz.prog (fo j) #[.pointer (some ⟨rb, 0, none⟩)] W (CoP w0 rb vb B pb j m i) := by
  obtain rfl | rfl | rfl | rfl | rfl : j = 0 ∨ j = 1 ∨ j = 2 ∨ j = 3 ∨ j = 4 := by omega
  · simp only [fo]; exact co0_ w0 rb vb B pb m i W hi h
  · simp only [fo]; exact co1_ w0 rb vb B pb m i W hi h
  · simp only [fo]; exact co2_ w0 rb vb B pb m i W hi h
  · simp only [fo]; exact co3_ w0 rb vb B pb m i W hi h
  · simp only [fo]; exact co4_ w0 rb vb B pb m i W hi h
end IM
end Go.Proofs.YtmpamcdobhiipaaGreatDoor
