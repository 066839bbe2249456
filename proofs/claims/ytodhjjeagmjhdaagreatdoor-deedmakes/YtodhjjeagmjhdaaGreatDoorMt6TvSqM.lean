/- Mt6, Eg, Wn, Spo6, Wsa, Sq -/
import Derived.Test.YtodhjjeagmjhdaaGreatDoorSu6TvAt6M
import Derived.Test.YtodhjjeagmjhdaaGreatDoorRwTvRdg6M
import Derived.Test.YtodhjjeagmjhdaaGreatDoorPr6TvPw6M
import Derived.Test.YtodhjjeagmjhdaaGreatDoorWsTvEvM
import Derived.Test.YtodhjjeagmjhdaaGreatDoorSzTvCsa6M
import Derived.Test.YtodhjjeagmjhdaaGreatDoorFaTvTcM
import Derived.Test.YtodhjjeagmjhdaaGreatDoorRfl6VM
import Derived.Test.YtodhjjeagmjhdaaGreatDoorUn6TvSpM
namespace Go.Proofs.YtodhjjeagmjhdaaGreatDoor
open Go.RowKit
attribute [local go_sem ↓] Go.wp_at_zero Go.wp_at_succ
namespace DE
open Go.Proofs.YtodhjjeagmjhdaaGreatDoor.ST
set_option maxRecDepth 100000 in
set_option maxHeartbeats 4000000 in
theorem meant_ (v vo : Value) (s : Stt) (d : DoT) (w : World) (hs : StL w v s) (hsm : Small s) (hfl : (flat s).length <= 4294967296) (ho : IL w vo d.ord) (hln : d.ord.length <= 4294967296) : Calls Tryz.prog 32 #[.agg (doc d vo), v] w (DeV w (askO s d)) := by
 obtain ⟨Post, hPost⟩ : ∃ P : Ending -> World -> Prop, P = DeV w (askO s d) := ⟨_, rfl⟩
 rw [<- hPost]
 have HP : Hid (Post = DeV w (askO s d)) := hPost
 have H0 : Hid (∀ W, Up w W -> Calls Tryz.prog 87 #[v, .int .i64 d.number, .int .i64 d.zone, .bool d.first] W (DeV W (moveO s d.number d.zone d.first))) := fun W u => rmove_ v s _ _ _ W (hs.up u) hsm hfl
 have H1 : Hid (∀ W, Up w W -> Calls Tryz.prog 88 #[v, .int .i8 d.field, .int .i64 d.number, .int .i64 d.by_] W (DeV W (changeO s d.field d.number d.by_))) := fun W u => rchange_ v s _ _ _ W (hs.up u) hsm hfl
 have H2 : Hid (∀ W, Up w W -> Calls Tryz.prog 89 #[v, .int .i64 d.zone, vo] W (DeV W (shufO s d.zone d.ord))) := fun W u => rshuffle_ v vo s _ _ W (hs.up u) hsm hfl (ho.up u) hln
 have H3 : Hid (∀ W, Up w W -> Calls Tryz.prog 90 #[v, .int .i64 d.number] W (DeV W (drawO s d.number))) := fun W u => rdraw_ v s _ W (hs.up u) hsm hfl
 have H4 : Hid (∀ W, Up w W -> Calls Tryz.prog 91 #[v, .int .i64 d.number] W (DeV W (outO s d.number))) := fun W u => rout_ v s _ W (hs.up u) hsm hfl
 have HK : Hid (∀ (W W' : World) (r : Int × Option Ev) (x : Ending), Up w W -> DeV W r x W' -> ∃ v', x = .returned (.tuple #[v', .int .i64 r.1]) /\ DL w.heap.size W' v' r.2 /\ Up w W') := fun W W' r x u ⟨v', h1, h2, h3⟩ => ⟨v', h1, dl_less h2 u.size, u.trans h3⟩
 unfold askO at HP
 obtain ⟨oa, ok, rfl, -, -⟩ := il_at ho
 obtain ⟨vp, vc, vz, hv, h1, h2, h3⟩ := hs
 obtain ⟨a1, k1, rfl, -, -⟩ := lc_at h1
 obtain ⟨a2, k2, rfl, -, -⟩ := lc_at h2
 obtain ⟨a3, k3, rfl, -, -⟩ := zl_at h3
 unfold sv at hv
 clear h1 h2 h3 hPost ho hln hfl
 subst hv
 unfold doc
 generalize d.ord.length = n at *
 by_cases e0 : d.kind = 0
 ·rw [if_pos e0] at HP
  have f0 : d.kind = 0 := e0
  rw [f0]
  clear e0
  clear H1 H2 H3 H4
  go_enter Tryz.func32, Tryz.ntmps32
  go_wp2_with fail
  refine Calls.mono (H0.out _ (((Up.refl _).alloc _).alloc _)) ?_
  rintro r W1 hd
  obtain ⟨v', rfl, dl, u⟩ := HK.out _ _ _ _ (((Up.refl _).alloc _).alloc _) hd
  have HD : Hid _ := And.intro dl u
  clear hd dl u HK
  go_wp2
  rw [HP.out]
  exact ⟨_, rfl, HD.out.1, HD.out.2⟩
 ·rw [if_neg e0] at HP
  have f0 : (d.kind == 0) = false := beq_eq_false_iff_ne.2 e0
  by_cases e1 : d.kind = 1
  ·rw [if_pos e1] at HP
   have f1 : d.kind = 1 := e1
   rw [f1]
   clear e1
   clear H0 H2 H3 H4
   go_enter Tryz.func32, Tryz.ntmps32
   go_wp2_with fail
   refine Calls.mono (H1.out _ (((Up.refl _).alloc _).alloc _)) ?_
   rintro r W1 hd
   obtain ⟨v', rfl, dl, u⟩ := HK.out _ _ _ _ (((Up.refl _).alloc _).alloc _) hd
   have HD : Hid _ := And.intro dl u
   clear hd dl u HK
   go_wp2
   rw [HP.out]
   exact ⟨_, rfl, HD.out.1, HD.out.2⟩
  ·rw [if_neg e1] at HP
   have f1 : (d.kind == 1) = false := beq_eq_false_iff_ne.2 e1
   by_cases e2 : d.kind = 2
   ·rw [if_pos e2] at HP
    have f2 : d.kind = 2 := e2
    rw [f2]
    clear e2
    clear H0 H1 H3 H4
    go_enter Tryz.func32, Tryz.ntmps32
    go_wp2_with fail
    refine Calls.mono (H2.out _ (((Up.refl _).alloc _).alloc _)) ?_
    rintro r W1 hd
    obtain ⟨v', rfl, dl, u⟩ := HK.out _ _ _ _ (((Up.refl _).alloc _).alloc _) hd
    have HD : Hid _ := And.intro dl u
    clear hd dl u HK
    go_wp2
    rw [HP.out]
    exact ⟨_, rfl, HD.out.1, HD.out.2⟩
   ·rw [if_neg e2] at HP
    have f2 : (d.kind == 2) = false := beq_eq_false_iff_ne.2 e2
    by_cases e3 : d.kind = 3
    ·rw [if_pos e3] at HP
     have f3 : d.kind = 3 := e3
     rw [f3]
     clear e3
     clear H0 H1 H2 H4
     go_enter Tryz.func32, Tryz.ntmps32
     go_wp2_with fail
     refine Calls.mono (H3.out _ (((Up.refl _).alloc _).alloc _)) ?_
     rintro r W1 hd
     obtain ⟨v', rfl, dl, u⟩ := HK.out _ _ _ _ (((Up.refl _).alloc _).alloc _) hd
     have HD : Hid _ := And.intro dl u
     clear hd dl u HK
     go_wp2
     rw [HP.out]
     exact ⟨_, rfl, HD.out.1, HD.out.2⟩
    ·rw [if_neg e3] at HP
     have f3 : (d.kind == 3) = false := beq_eq_false_iff_ne.2 e3
     clear H0 H1 H2 H3
     go_enter Tryz.func32, Tryz.ntmps32
     go_wp2_with fail
     refine Calls.mono (H4.out _ (((Up.refl _).alloc _).alloc _)) ?_
     rintro r W1 hd
     obtain ⟨v', rfl, dl, u⟩ := HK.out _ _ _ _ (((Up.refl _).alloc _).alloc _) hd
     have HD : Hid _ := And.intro dl u
     clear hd dl u HK
     go_wp2
     rw [HP.out]
     exact ⟨_, rfl, HD.out.1, HD.out.2⟩
end DE
end Go.Proofs.YtodhjjeagmjhdaaGreatDoor
namespace Go.Proofs.YtodhjjeagmjhdaaGreatDoor
open Go.RowKit
attribute [local go_sem ↓] Go.wp_at_zero Go.wp_at_succ
namespace ST
end ST
end Go.Proofs.YtodhjjeagmjhdaaGreatDoor
namespace Go.Proofs.YtodhjjeagmjhdaaGreatDoor
open Go.RowKit
namespace ST
def CK (W : World) (g n : Nat) (cs : List Crd) : Prop := cs.length = n /\ ∃ cc : Array Value, W.heap[g]? = some (.cells cc 95 (0, 0)) /\ ∀ j, j < n * 6 -> cc[j]? = (cvs cs)[j]?
theorem six_parts (j : Nat) : ∃ a b, j = a * 6 + b /\ b < 6 := ⟨j / 6, j % 6, by have := Nat.div_add_mod j 6; omega, Nat.mod_lt _ (by decide)⟩
theorem cvs_own (cs : List Crd) (i : Nat) (hi : i < cs.length) (y : Int) (j : Nat) (hj : j < cs.length * 6) : (cvs (cs.set i { cs.getD i dc with owner := y }))[j]? = if i * 6 + 1 = j then some (.int .i64 y) else (cvs cs)[j]? := by
 obtain ⟨a, b, rfl, hb⟩ := six_parts j
 have ha : a < cs.length := by omega
 rw [cvs_get _ a b (by simpa using ha) hb, cvs_get cs a b ha hb]
 by_cases e : a = i
 ·subst e
  rw [List.getD_eq_getElem?_getD (l := cs.set a _), List.getElem?_set_self ha]
  simp only [Option.getD_some]
  by_cases e1 : b = 1
  ·subst e1
   rw [if_pos rfl]; rfl
  ·rw [if_neg (by omega)]
   match b, hb, e1 with
   | 0, _, _ => rfl
   | 2, _, _ => rfl
   | 3, _, _ => rfl
   | 4, _, _ => rfl
   | 5, _, _ => rfl
 ·rw [List.getD_eq_getElem?_getD (l := cs.set i _), List.getElem?_set_ne (fun h => e h.symm), <- List.getD_eq_getElem?_getD, if_neg (by omega)]
theorem CK.put {W : World} {g n : Nat} {cs : List Crd} (h : CK W g n cs) (i : Nat) (hi : i < n) (y : Int) : CK (W.setCell ⟨g, i * 6 + 1, none⟩ (.int .i64 y)) g n (cs.set i { cs.getD i dc with owner := y }) := by
 obtain ⟨h1, cc, h2, h3⟩ := h
 refine ⟨by simpa using h1, _, set_cells h2, fun j hj => ?_⟩
 rw [cvs_own cs i (by omega) y j (by omega), Array.getElem?_setIfInBounds]
 have hs : i * 6 + 1 < cc.size := by
  have := h3 (i * 6 + 1) (by omega)
  rw [List.getElem?_eq_getElem (by rw [cvs_len]; omega)] at this
  exact (Array.getElem?_eq_some_iff.1 this).1
 by_cases e : i * 6 + 1 = j
 ·rw [if_pos e, if_pos e]
  subst e
  rw [if_pos hs]
 ·rw [if_neg e, if_neg e]
  exact h3 j hj
theorem CK.keep {W W' : World} {g n : Nat} {cs : List Crd} (h : CK W g n cs) (k : ∀ cc, W.heap[g]? = some (.cells cc 95 (0, 0)) -> W'.heap[g]? = some (.cells cc 95 (0, 0))) : CK W' g n cs := by
 obtain ⟨h1, cc, h2, h3⟩ := h
 exact ⟨h1, cc, k cc h2, h3⟩
theorem CK.own {W : World} {g n : Nat} {cs : List Crd} (h : CK W g n cs) (i : Nat) (hi : i < n) : W.cell? ⟨g, i * 6 + 1, none⟩ = some (.int .i64 (cs.getD i dc).owner) /\ W.frozen? ⟨g, i * 6 + 1, none⟩ = false := by
 obtain ⟨h1, cc, h2, h3⟩ := h
 refine ⟨?_, seven_f h2 _⟩
 have h4 := h3 (i * 6 + 1) (by omega)
 rw [cvs_get cs i 1 (by omega) (by decide)] at h4
 simp only [World.cell?, h2]
 exact h4
def AI (W : World) (g q : Nat) : Prop := ∃ rc : Array Value, W.heap[g]? = some (.cells rc 3 (0, 0)) /\ ∀ j, j < q -> ∃ y : Int, rc[j]? = some (.int .i64 y)
theorem AI.put {W : World} {g q g' k q' : Nat} {y : Int} (h : AI W g q) (h' : AI W g' q') : AI (W.setCell ⟨g', k, none⟩ (.int .i64 y)) g q := by
 obtain ⟨rc, h1, h2⟩ := h
 by_cases e : g = g'
 ·subst e
  refine ⟨_, set_cells h1, fun j hj => ?_⟩
  rw [Array.getElem?_setIfInBounds]
  by_cases ek : k = j
  ·subst ek
   rw [if_pos rfl]
   obtain ⟨y', hy'⟩ := h2 k hj
   rw [if_pos (Array.getElem?_eq_some_iff.1 hy').1]
   exact ⟨y, rfl⟩
  ·rw [if_neg ek]; exact h2 j hj
 ·exact ⟨rc, set_other h1 e, h2⟩
theorem AI.keep {W W' : World} {g q : Nat} (h : AI W g q) (k : ∀ cc, W.heap[g]? = some (.cells cc 3 (0, 0)) -> W'.heap[g]? = some (.cells cc 3 (0, 0))) : AI W' g q := by
 obtain ⟨rc, h1, h2⟩ := h
 exact ⟨rc, k rc h1, h2⟩
theorem AI.at {W : World} {g q : Nat} (h : AI W g q) (j : Nat) (hj : j < q) : (∃ y : Int, W.cell? ⟨g, j, none⟩ = some (.int .i64 y)) /\ W.frozen? ⟨g, j, none⟩ = false := by
 obtain ⟨rc, h1, h2⟩ := h
 obtain ⟨y, hy⟩ := h2 j hj
 exact ⟨⟨y, by simp only [World.cell?, h1]; exact hy⟩, seven_f h1 _⟩
theorem AI.il {W : World} {g q k : Nat} (h : AI W g q) (hk : q <= k) : ∃ l : List Int, l.length = q /\ IL W (.slice (some ⟨g, 0, none⟩) q k) l := by
 obtain ⟨rc, h1, h2⟩ := h
 have hc : ∀ j, ∃ y : Int, j < q -> rc[j]? = some (.int .i64 y) := fun j => by
  by_cases hj : j < q
  ·obtain ⟨y, hy⟩ := h2 j hj
   exact ⟨y, fun _ => hy⟩
  ·exact ⟨0, fun h => absurd h hj⟩
 refine ⟨(List.range q).map fun j => Classical.choose (hc j), by simp, ?_⟩
 refine ⟨by simp [ivs_len], some ⟨g, 0, none⟩, k, by simp, by simpa using hk, fun _ => ⟨g, 0, rfl, fun j hj => ?_⟩⟩
 have hj' : j < q := by simpa using hj
 rw [ivs_get _ j (by simpa using hj'), Nat.zero_add]
 simp only [World.cell?, h1]
 rw [Classical.choose_spec (hc j) hj']
 simp [List.getD_eq_getElem?_getD, hj']
def KR (W : World) (b0 : Nat) (vs : List Value) (zs : List (List Int)) : Prop := ∀ i, i < zs.length -> ∃ g, b0 <= g /\ vs.getD i nl = .slice (some ⟨g, 0, none⟩) (zs.getD i []).length ((zs.getD i []).length + 64) /\ AI W g (zs.getD i []).length
def KS (w W : World) (b : Nat) (box : Array Value) (gP gC gZ : Nat) (vs : List Value) (s : Stt) : Prop :=
 W.heap[b]? = some (.cells box 27 (0, 0)) /\ W.heap[gP]? = some (.cells (wPs s.ps).toArray 97 (0, 0)) /\ (∃ cs, CK W gC s.cs.length cs) /\ (W.heap[gZ]? = some (.cells vs.toArray 28 (0, 0)) /\ vs.length = s.zs.length + 64) /\ KR W w.heap.size vs s.zs /\ Up w W /\ w.heap.size <= gC
theorem KS.up {w W W' : World} {b : Nat} {box : Array Value} {gP gC gZ : Nat} {vs : List Value} {s : Stt} (h : KS w W b box gP gC gZ vs s) (u : Up W W') : KS w W' b box gP gC gZ vs s := by
 obtain ⟨h1, h2, ⟨cs, h3⟩, h4, h5, h6, h7⟩ := h
 exact ⟨u.heap h1, u.heap h2, ⟨cs, h3.keep (fun _ h => u.heap h)⟩, ⟨u.heap h4.1, h4.2⟩, fun i hi => by
  obtain ⟨g, a, b, c⟩ := h5 i hi
  exact ⟨g, a, b, c.keep (fun _ h => u.heap h)⟩, h6.trans u, h7⟩
theorem KS.card {w W : World} {b : Nat} {box : Array Value} {gP gC gZ : Nat} {vs : List Value} {s : Stt} (h : KS w W b box gP gC gZ vs s) (i : Nat) (hi : i < s.cs.length) (y : Int) : KS w (W.setCell ⟨gC, i * 6 + 1, none⟩ (.int .i64 y)) b box gP gC gZ vs s := by
 obtain ⟨h1, h2, ⟨cs, h3⟩, h4, h5, h6, h7⟩ := h
 obtain ⟨-, cc, hc, -⟩ := id h3
 exact ⟨set_other h1 (heap_ne h1 hc (by decide)), set_other h2 (heap_ne h2 hc (by decide)), ⟨_, h3.put i hi y⟩, ⟨set_other h4.1 (heap_ne h4.1 hc (by decide)), h4.2⟩, fun i hi => by
  obtain ⟨g, a, b, c⟩ := h5 i hi
  exact ⟨g, a, b, c.keep (fun _ h => set_other h (heap_ne h hc (by decide)))⟩, Up.set h6 _ _ h7, h7⟩
theorem KS.row {w W : World} {b : Nat} {box : Array Value} {gP gC gZ g q k : Nat} {vs : List Value} {s : Stt} (h : KS w W b box gP gC gZ vs s) (hg : AI W g q) (hb : w.heap.size <= g) (y : Int) : KS w (W.setCell ⟨g, k, none⟩ (.int .i64 y)) b box gP gC gZ vs s := by
 obtain ⟨h1, h2, ⟨cs, h3⟩, h4, h5, h6, h7⟩ := h
 obtain ⟨rc, hc, -⟩ := id hg
 exact ⟨set_other h1 (heap_ne h1 hc (by decide)), set_other h2 (heap_ne h2 hc (by decide)), ⟨cs, h3.keep (fun _ h => set_other h (heap_ne h hc (by decide)))⟩, ⟨set_other h4.1 (heap_ne h4.1 hc (by decide)), h4.2⟩, fun i hi => by
  obtain ⟨g', a, b, c⟩ := h5 i hi
  exact ⟨g', a, b, c.put hg⟩, Up.set h6 _ _ hb, h7⟩
end ST
end Go.Proofs.YtodhjjeagmjhdaaGreatDoor
namespace Go.Proofs.YtodhjjeagmjhdaaGreatDoor
open Go.RowKit
attribute [local go_sem ↓] Go.wp_at_zero Go.wp_at_succ
namespace DE
open Go.Proofs.YtodhjjeagmjhdaaGreatDoor.ST
structure SpI (base K b : Nat) (w W : World) (box : Array Value) (gP gC gZ : Nat) (vs : List Value) (s : Stt) : Prop where
 box : W.heap[b]? = some (.cells box 27 (0, 0))
 cards : ∃ cc : Array Value, W.heap[gC]? = some (.cells cc 95 (0, 0)) /\ ∀ i, i < s.cs.length -> ∃ y : Int, cc[i * 6]? = some (.int .i64 y)
 plys : ∃ pc : Array Value, W.heap[gP]? = some (.cells pc 97 (0, 0)) /\ ∀ i, i < s.ps.length -> ∃ y : Value, pc[i * 3]? = some y
 zones : W.heap[gZ]? = some (.cells vs.toArray 28 (0, 0))
 rows : ∀ i, i < s.zs.length -> ∃ g, base <= g /\ g < K /\ vs[i]? = some (.slice (some ⟨g, 0, none⟩) (s.zs.getD i []).length ((s.zs.getD i []).length + 64)) /\ AI W g (s.zs.getD i []).length
 below : Below base w W
 kp : Kp K w W
 hC : base <= gC /\ gC < K
 hP : base <= gP /\ gP < K
 hb : base <= w.heap.size
theorem SpI.up {base K b : Nat} {w W W' : World} {box : Array Value} {gP gC gZ : Nat} {vs : List Value} {s : Stt} (h : SpI base K b w W box gP gC gZ vs s) (u : Up W W') : SpI base K b w W' box gP gC gZ vs s := by
 obtain ⟨h1, ⟨cc, h2, h2'⟩, ⟨pc, h3, h3'⟩, h4, h5, h6, h7, h8, h9, h10⟩ := h
 refine ⟨u.heap h1, ⟨cc, u.heap h2, h2'⟩, ⟨pc, u.heap h3, h3'⟩, u.heap h4, fun i hi => ?_, Below.trans h6 (Below.mono u (Nat.le_trans h10 h6.size)), h7.trans (Kp.up u), h8, h9, h10⟩
 obtain ⟨g, a, b', c, d⟩ := h5 i hi
 exact ⟨g, a, b', c, d.keep (fun _ h => u.heap h)⟩
theorem SpI.card {base K b : Nat} {w W : World} {box : Array Value} {gP gC gZ : Nat} {vs : List Value} {s : Stt} (h : SpI base K b w W box gP gC gZ vs s) (i : Nat) (y : Int) : SpI base K b w (W.setCell ⟨gC, i * 6, none⟩ (.int .i64 y)) box gP gC gZ vs s := by
 obtain ⟨h1, ⟨cc, h2, h2'⟩, ⟨pc, h3, h3'⟩, h4, h5, h6, h7, h8, h9, h10⟩ := h
 refine ⟨set_other h1 (heap_ne h1 h2 (by decide)), ⟨_, set_cells h2, fun j hj => ?_⟩, ⟨pc, set_other h3 (heap_ne h3 h2 (by decide)), h3'⟩, set_other h4 (heap_ne h4 h2 (by decide)), fun j hj => ?_, Below.setCell h6 h8.1 _, h7.trans (Kp.set h8.2), h8, h9, h10⟩
 ·rw [Array.getElem?_setIfInBounds]
  obtain ⟨z, hz⟩ := h2' j hj
  by_cases e : i * 6 = j * 6
  ·rw [if_pos e, e, if_pos (Array.getElem?_eq_some_iff.1 hz).1]
   exact ⟨y, rfl⟩
  ·rw [if_neg e]
   exact ⟨z, hz⟩
 ·obtain ⟨g, a, b', c, d⟩ := h5 j hj
  exact ⟨g, a, b', c, d.keep (fun _ h => set_other h (heap_ne h h2 (by decide)))⟩
theorem SpI.ply {base K b : Nat} {w W : World} {box : Array Value} {gP gC gZ : Nat} {vs : List Value} {s : Stt} (h : SpI base K b w W box gP gC gZ vs s) (i : Nat) (y : Value) : SpI base K b w (W.setCell ⟨gP, i * 3, none⟩ y) box gP gC gZ vs s := by
 obtain ⟨h1, ⟨cc, h2, h2'⟩, ⟨pc, h3, h3'⟩, h4, h5, h6, h7, h8, h9, h10⟩ := h
 refine ⟨set_other h1 (heap_ne h1 h3 (by decide)), ⟨cc, set_other h2 (heap_ne h2 h3 (by decide)), h2'⟩, ⟨_, set_cells h3, fun j hj => ?_⟩, set_other h4 (heap_ne h4 h3 (by decide)), fun j hj => ?_, Below.setCell h6 h9.1 _, h7.trans (Kp.set h9.2), h8, h9, h10⟩
 ·rw [Array.getElem?_setIfInBounds]
  obtain ⟨z, hz⟩ := h3' j hj
  by_cases e : i * 3 = j * 3
  ·rw [if_pos e, e, if_pos (Array.getElem?_eq_some_iff.1 hz).1]
   exact ⟨y, rfl⟩
  ·rw [if_neg e]
   exact ⟨z, hz⟩
 ·obtain ⟨g, a, b', c, d⟩ := h5 j hj
  exact ⟨g, a, b', c, d.keep (fun _ h => set_other h (heap_ne h h3 (by decide)))⟩
theorem SpI.row {base K b : Nat} {w W : World} {box : Array Value} {gP gC gZ g q k : Nat} {vs : List Value} {s : Stt} (h : SpI base K b w W box gP gC gZ vs s) (hg : AI W g q) (h1b : base <= g) (h2b : g < K) (y : Int) : SpI base K b w (W.setCell ⟨g, k, none⟩ (.int .i64 y)) box gP gC gZ vs s := by
 obtain ⟨h1, ⟨cc, h2, h2'⟩, ⟨pc, h3, h3'⟩, h4, h5, h6, h7, h8, h9, h10⟩ := h
 obtain ⟨rc, hr, -⟩ := id hg
 refine ⟨set_other h1 (heap_ne h1 hr (by decide)), ⟨cc, set_other h2 (heap_ne h2 hr (by decide)), h2'⟩, ⟨pc, set_other h3 (heap_ne h3 hr (by decide)), h3'⟩, set_other h4 (heap_ne h4 hr (by decide)), fun j hj => ?_, Below.setCell h6 h1b _, h7.trans (Kp.set h2b), h8, h9, h10⟩
 obtain ⟨g', a, b', c, d⟩ := h5 j hj
 exact ⟨g', a, b', c, d.put hg⟩
set_option maxRecDepth 100000 in
set_option maxHeartbeats 4000000 in
theorem spoil_ (base : Nat) (v : Value) (s : Stt) (W1 w : World) (h : WSA base W1 v s) (hB : base <= W1.heap.size) (u : Up W1 w) (hsm : Small s) : Calls Tryz.prog 17 #[v] w fun r w' => r = .returned (.tuple #[]) /\ Below base w w' /\ Kp W1.heap.size w w' := by
 obtain ⟨Post, hPost⟩ : ∃ P : Ending -> World -> Prop, P = fun r w' => r = .returned (.tuple #[]) /\ Below base w w' /\ Kp W1.heap.size w w' := ⟨_, rfl⟩
 rw [<- hPost]
 have HP : Hid _ := hPost
 obtain ⟨vp, vc, vz, rfl, ⟨gP, p1, rfl, p3⟩, ⟨gC, c1, rfl, c3⟩, gZ, vs, z1, rfl, z3, z4, z5, z6⟩ := h
 unfold sv
 obtain ⟨np, hnp⟩ : ∃ n, n = s.ps.length := ⟨_, rfl⟩
 obtain ⟨nc, hnc⟩ : ∃ n, n = s.cs.length := ⟨_, rfl⟩
 obtain ⟨nz, hnz⟩ : ∃ n, n = s.zs.length := ⟨_, rfl⟩
 have hm1 : np <= 4294967296 := by rw [hnp]; exact hsm.1
 have hm2 : nc <= 4294967296 := by rw [hnc]; exact hsm.2.1
 have hm3 : nz <= 4294967296 := by rw [hnz]; exact hsm.2.2.1
 have HM : Hid (∀ r, r < s.zs.length -> (s.zs.getD r []).length <= 4294967296) := hsm.2.2.2
 obtain ⟨box, hbox⟩ : ∃ x : Array Value, x = #[.slice (some ⟨gP, 0, none⟩) s.ps.length (s.ps.length + 64), .slice (some ⟨gC, 0, none⟩) s.cs.length (s.cs.length + 64), .slice (some ⟨gZ, 0, none⟩) s.zs.length (s.zs.length + 64), .int .i32 s.turn, .int .i64 s.whose, .int .i8 s.fin, .int .i64 s.winner] := ⟨_, rfl⟩
 have HI : Hid (SpI base W1.heap.size w.heap.size w (w.alloc (.cells box 27)) box gP gC gZ vs s) := by
  have u2 : Up W1 (w.alloc (.cells box 27)) := u.alloc _
  refine ⟨heap_alloc_new _ _, ⟨_, u2.heap c3, fun i hi => ?_⟩, ⟨_, u2.heap p3, fun i hi => ?_⟩, u2.heap z3, fun i hi => ?_, ?_, Kp.up ((Up.refl _).alloc _), ⟨c1, (Array.getElem?_eq_some_iff.1 c3).1⟩, ⟨p1, (Array.getElem?_eq_some_iff.1 p3).1⟩, Nat.le_trans hB u.size⟩
  ·have h9 := wCs_get s.cs i 0 (by omega) (by decide)
   rw [Nat.add_zero] at h9
   unfold wC at h9
   rw [if_pos hi] at h9
   exact ⟨_, by rw [List.getElem?_toArray]; exact h9⟩
  ·have h9 := wPs_get s.ps i 0 (by omega) (by decide)
   rw [Nat.add_zero] at h9
   unfold wP at h9
   rw [if_pos hi] at h9
   exact ⟨_, by rw [List.getElem?_toArray]; exact h9⟩
  ·have hr := z5 i (by omega)
   unfold WRow at hr
   rw [if_pos hi] at hr
   obtain ⟨g, a, b, c⟩ := hr
   refine ⟨g, a, (Array.getElem?_eq_some_iff.1 c).1, ?_, _, u2.heap c, fun j hj => ?_⟩
   ·rw [<- b, List.getD_eq_getElem?_getD, List.getElem?_eq_getElem (by omega)]
    rfl
   ·have h9 := wIs_get (s.zs.getD i []) j (by omega)
    unfold wI at h9
    rw [if_pos hj] at h9
    exact ⟨_, by rw [List.getElem?_toArray]; exact h9⟩
  ·exact Below.mono ((Up.refl _).alloc _) (Nat.le_trans hB u.size)
 rw [<- hbox]
 have HX : Hid (box = _) := hbox
 rw [<- hnp, <- hnc, <- hnz] at HX
 have HNs : Hid (np = s.ps.length /\ nc = s.cs.length /\ nz = s.zs.length) := ⟨hnp, hnc, hnz⟩
 clear hbox p1 p3 c1 c3 z1 z3 z4 z5 z6 hPost u hB hnp hnc hnz hsm
 go_enter Tryz.func17, Tryz.ntmps17
 go_wp2_with fail
 go_loopw [2] (fun s2 W => ∃ i : Nat, i <= nc /\ s2 = .int .i64 i /\ SpI base W1.heap.size w.heap.size w W box gP gC gZ vs s) (fun s2 _ => nc - (intOf s2).toNat)
 case atStart => exact ⟨0, Nat.zero_le _, rfl, HI.out⟩
 case round =>
  clear HI
  obtain ⟨i, hi, rfl, hsp⟩ := hrel
  have HS : Hid _ := hsp
  have hb := hsp.box
  rw [HX.out] at hb
  obtain ⟨q0, q1, q2, -⟩ := seven_cells hb
  by_cases hlt : i < nc
  ·have hlt2 : (i : Int) < (nc : Int) := by omega
   obtain ⟨cc, k1, k2⟩ := hsp.cards
   obtain ⟨y, hy⟩ := k2 i (by rw [<- HNs.out.2.1]; exact hlt)
   have x0 : wr.cell? ⟨gC, i * 6, none⟩ = some (.int .i64 y) := by simp only [World.cell?, k1]; exact hy
   have xf := seven_f k1 (i * 6)
   clear hsp hb k1 k2 hy
   go_wp2_with fail
   refine TailR.wp_region_seq 12 (by kernel_rfl) (by kernel_rfl) ?_
   simp only [List.take_succ_cons, List.take_zero, List.drop_succ_cons, List.drop_zero]
   repeat (go_big_quiet_step (fail))
   refine wpQuiet_nil ?_
   intro _ hw'
   obtain ⟨nq, hw''⟩ := hw'
   subst hw''
   go_wp2_with fail
   go_roundw
   case rel => exact ⟨i + 1, by omega, by go_num, SpI.card (HS.out.up ((Up.refl _).drewN nq)) i _⟩
   case measure => simp [intOf] <;> omega
  ·have hlt2 : ¬ (i : Int) < (nc : Int) := by omega
   clear hsp hb
   go_wp2_with fail
   clear q0 q1 q2
   go_loopw [3] (fun s3 W => ∃ i : Nat, i <= np /\ s3 = .int .i64 i /\ SpI base W1.heap.size w.heap.size w W box gP gC gZ vs s) (fun s3 _ => np - (intOf s3).toNat)
   case atStart => exact ⟨0, Nat.zero_le _, rfl, HS.out⟩
   case round =>
    clear HS hlt hlt2
    obtain ⟨i, hi, rfl, hsp⟩ := hrel
    have HS : Hid _ := hsp
    have hb := hsp.box
    rw [HX.out] at hb
    obtain ⟨q0, q1, q2, -⟩ := seven_cells hb
    by_cases hlt : i < np
    ·have hlt2 : (i : Int) < (np : Int) := by omega
     obtain ⟨cc, k1, k2⟩ := hsp.plys
     obtain ⟨y, hy⟩ := k2 i (by rw [<- HNs.out.1]; exact hlt)
     have x0 : wr.cell? ⟨gP, i * 3, none⟩ = some y := by simp only [World.cell?, k1]; exact hy
     have xf := seven_f k1 (i * 3)
     clear hsp hb k1 k2 hy
     go_wp2_with fail
     go_roundw
     case rel => exact ⟨i + 1, by omega, by go_num, SpI.ply HS.out i _⟩
     case measure => simp [intOf] <;> omega
    ·have hlt2 : ¬ (i : Int) < (np : Int) := by omega
     clear hsp hb
     go_wp2_with fail
     clear q0 q1 q2
     go_loopw [4] (fun s4 W => ∃ i : Nat, i <= nz /\ s4 = .int .i64 i /\ SpI base W1.heap.size w.heap.size w W box gP gC gZ vs s) (fun s4 _ => nz - (intOf s4).toNat)
     case atStart => exact ⟨0, Nat.zero_le _, rfl, HS.out⟩
     case round =>
      clear HS hlt hlt2
      obtain ⟨i, hi, rfl, hsp⟩ := hrel
      have HS : Hid _ := hsp
      have hb := hsp.box
      rw [HX.out] at hb
      obtain ⟨q0, q1, q2, -⟩ := seven_cells hb
      by_cases hlt : i < nz
      ·have hlt2 : (i : Int) < (nz : Int) := by omega
       obtain ⟨g, k1, k2, k3, -⟩ := hsp.rows i (by rw [<- HNs.out.2.2]; exact hlt)
       have hl := HM.out i (by rw [<- HNs.out.2.2]; exact hlt)
       have HRW : Hid (∀ W, SpI base W1.heap.size w.heap.size w W box gP gC gZ vs s -> W.cell? ⟨gZ, i, none⟩ = some (.slice (some ⟨g, 0, none⟩) (s.zs.getD i []).length ((s.zs.getD i []).length + 64)) /\ W.cell? ⟨w.heap.size, 2, none⟩ = some (.slice (some ⟨gZ, 0, none⟩) nz (nz + 64)) /\ AI W g (s.zs.getD i []).length) := fun W hW => by
        obtain ⟨g', l1, l2, l3, l4⟩ := hW.rows i (by rw [<- HNs.out.2.2]; exact hlt)
        rw [k3] at l3
        simp only [Option.some.injEq, Value.slice.injEq, Addr.mk.injEq, and_true] at l3
        subst l3
        have hb9 := hW.box
        rw [HX.out] at hb9
        refine ⟨by simp only [World.cell?, hW.zones]; simpa using k3, (seven_cells hb9).2.2.1, l4⟩
       have HKK : Hid (base <= g /\ g < W1.heap.size) := ⟨k1, k2⟩
       generalize (s.zs.getD i []).length = q at *
       clear hsp hb k1 k2 k3
       go_wp2_with fail
       clear q0 q1 q2
       go_loopw [5] (fun s5 W => ∃ k : Nat, k <= q /\ s5 = .int .i64 k /\ SpI base W1.heap.size w.heap.size w W box gP gC gZ vs s) (fun s5 _ => q - (intOf s5).toNat)
       case atStart => exact ⟨0, Nat.zero_le _, rfl, HS.out⟩
       case round =>
        clear HS
        obtain ⟨k, hk, rfl, hsp⟩ := hrel
        have HS : Hid _ := hsp
        obtain ⟨x1, x2, x3⟩ := HRW.out _ hsp
        have HA : Hid _ := x3
        by_cases hkq : k < q
        ·have hkq2 : (k : Int) < (q : Int) := by omega
         obtain ⟨⟨y, x4⟩, x5⟩ := x3.at k hkq
         clear hsp x3
         go_wp2_with fail
         refine TailR.wp_region_seq 16 (by kernel_rfl) (by kernel_rfl) ?_
         simp only [List.take_succ_cons, List.take_zero, List.drop_succ_cons, List.drop_zero]
         repeat (go_big_quiet_step (fail))
         refine wpQuiet_nil ?_
         intro _ hw'
         obtain ⟨nq, hw''⟩ := hw'
         subst hw''
         go_wp2_with fail
         go_roundw
         case rel => exact ⟨k + 1, by omega, by go_num, SpI.row (HS.out.up ((Up.refl _).drewN nq)) (AI.keep HA.out (fun _ h => h)) HKK.out.1 HKK.out.2 _⟩
         case measure => simp [intOf] <;> omega
        ·have hkq2 : ¬ (k : Int) < (q : Int) := by omega
         clear hsp x3
         go_wp2_with fail
         go_roundw
         case rel => exact ⟨i + 1, by omega, by go_num, HS.out⟩
         case measure => simp [intOf] <;> omega
      ·have hlt2 : ¬ (i : Int) < (nz : Int) := by omega
       clear hsp hb
       go_wp2
       refine bodyPost_end (v := .tuple #[]) (by simp [results, go_sem]) rfl ?_
       rw [HP.out]
       exact ⟨rfl, HS.out.below, HS.out.kp⟩
end DE
end Go.Proofs.YtodhjjeagmjhdaaGreatDoor
namespace Go.Proofs.YtodhjjeagmjhdaaGreatDoor
open Go.RowKit
attribute [local go_sem ↓] Go.wp_at_zero Go.wp_at_succ
namespace ST
theorem wrow_lt {base : Nat} {W : World} {x : Value} {zs : List (List Int)} {i g : Nat} (h : WRow base W x zs i) (hg : x.ownBlock = some g) : g < W.heap.size := by
 unfold WRow at h
 split at h
 ·obtain ⟨g', -, rfl, h3⟩ := h
  have e : g' = g := by simpa [Value.ownBlock] using hg
  subst e
  exact (Array.getElem?_eq_some_iff.1 h3).1
 ·obtain ⟨g', -, rfl, h3⟩ := h
  have e : g' = g := by simpa [Value.ownBlock] using hg
  subst e
  exact (Array.getElem?_eq_some_iff.1 h3).1
def WRa (base : Nat) (w W : World) (g n : Nat) (zs : List (List Int)) (i : Nat) (cs : List Value) : Prop := W.heap[g]? = some (.cells cs.toArray 28 (0, 0)) /\ cs.length = n + 64 /\ (∀ q, q < i -> WRow base W (cs.getD q nl) zs q) /\ Up w W /\ RA i cs
theorem WRa.put {base : Nat} {w W W1 : World} {g n : Nat} {zs : List (List Int)} {i : Nat} {cs : List Value} {x : Value} (h : WRa base w W g n zs i cs) (u : Up W W1) (hi : i < n + 64) (hx : WRow base W1 x zs i) (hxa : ∀ p g, p < i -> (cs.getD p nl).ownBlock = some g -> x.ownBlock ≠ some g) (hg : w.heap.size <= g) : WRa base w (W1.setCell ⟨g, i, none⟩ x) g n zs (i + 1) (cs.set i x) := by
 obtain ⟨h1, h2, h3, h4, h5⟩ := h
 have k1 := u.heap h1
 have kp : ∀ g' cs', base <= g' -> W1.heap[g']? = some (.cells cs' 3 (0, 0)) -> (W1.setCell ⟨g, i, none⟩ x).heap[g']? = some (.cells cs' 3 (0, 0)) := fun g' cs' _ h' => set_other h' (heap_ne h' k1 (by decide))
 refine ⟨?_, by simpa using h2, fun q hq => ?_, Up.set (h4.trans u) _ _ hg, h5.put (by omega) hxa⟩
 ·have := set_cells (j := i) (x := x) k1
  simpa using this
 ·by_cases e : q = i
  ·subst e
   rw [List.getD_eq_getElem?_getD, List.getElem?_set_self (by omega)]
   exact hx.keep kp
  ·rw [List.getD_eq_getElem?_getD, List.getElem?_set_ne (fun h => e h.symm), <- List.getD_eq_getElem?_getD]
   exact ((h3 q (by omega)).keep (fun g' cs' _ h' => u.heap h')).keep kp
set_option maxRecDepth 100000 in
set_option maxHeartbeats 4000000 in
theorem wideRowsA_ (v : Value) (zs : List (List Int)) (w : World) (hv : ZL w v zs) (hn : zs.length <= 4294967296) (hl : ∀ r, r < zs.length -> (zs.getD r []).length <= 4294967296) :
  Calls Tryz.prog 43 #[v] w (CpPost w fun W v' => WZA w.heap.size W v' zs) := by
 obtain ⟨iT, hiT, z0, z1, z2⟩ := info_parts infoR
 obtain ⟨Post, hPost⟩ : ∃ P : Ending -> World -> Prop, P = CpPost w fun W v' => WZA w.heap.size W v' zs := ⟨_, rfl⟩
 rw [<- hPost]
 have HP : Hid (Post = CpPost w fun W v' => WZA w.heap.size W v' zs) := hPost
 obtain ⟨a1, k1, rfl, -, h1⟩ := zl_at hv
 obtain ⟨n, hn0⟩ : ∃ n, n = zs.length := ⟨_, rfl⟩
 have HN : Hid (n = zs.length) := hn0
 rw [<- hn0] at hn h1 hl ⊢
 have H1 : Hid _ := h1
 have HL : Hid _ := hl
 obtain ⟨g, hg⟩ : ∃ g, g = w.heap.size := ⟨_, rfl⟩
 have HG : Hid (g = w.heap.size) := hg
 clear hPost hv h1 hn0 hl
 go_enter Tryz.func43, Tryz.ntmps43
 go_wp2_with (at_make; refine wpList_make_full _ rfl _ _ 24 rfl w.heap.size 28 iT _ 1 Tryz.underlying24 hiT z0 z1 .i64 .i64 _ _ (n + 64) rfl rfl rfl rfl (by rw [z2]; omega) (by unfold maxLen; omega) (Nat.le_refl _) ?_; intro w1 hin hg1)
 have HI : Hid (∃ cs, WRa g w w1 g n zs 0 cs) := ⟨_, by rw [hg]; exact row_made hin, by have := hin.1; omega, fun q hq => by omega, made_up hg1, RA.nil _⟩
 rw [<- hg]
 clear hin hg1 hg
 go_wp2_with fail
 go_loopw [4] (fun s4 W => ∃ (i : Nat) (cs : List Value), i <= n + 64 /\ s4 = .int .i64 i /\ WRa g w W g n zs i cs) (fun s4 _ => n + 64 - (intOf s4).toNat)
 case atStart => obtain ⟨cs, h⟩ := HI.out; exact ⟨0, cs, Nat.zero_le _, rfl, h⟩
 case round =>
  obtain ⟨i, cs, hi, rfl, hw⟩ := hrel
  clear HI
  have HW : Hid (WRa g w wr g n zs i cs) := hw
  have hgw : w.heap.size <= g := by rw [HG.out]; exact Nat.le_refl _
  have hgs : g <= wr.heap.size := by have := (Array.getElem?_eq_some_iff.1 hw.1).1; omega
  by_cases hlt : i < n + 64
  ·have hlt2 : (i : Int) < (n : Int) + 64 := by omega
   have HCe : Hid (∀ W, Up wr W -> (∃ z, W.cell? ⟨g, i, none⟩ = some z) /\ W.frozen? ⟨g, i, none⟩ = false) := fun W u => by
    have h1 := u.heap hw.1
    have h2 := hw.2.1
    exact ⟨⟨cs[i]'(by omega), by simp [World.cell?, h1]⟩, seven_f h1 i⟩
   by_cases hin : i < n
   ·have hin2 : (i : Int) < (n : Int) := by omega
    obtain ⟨b1, o1, rfl, c1⟩ := H1.out (by omega)
    obtain ⟨ra, rc, hcell, hil⟩ := c1 i hin
    have x1 := hcell wr hw.2.2.2.1
    have HK : Hid _ := wideInts_ _ (zs.getD i []) wr (hil.up hw.2.2.2.1) (HL.out i hin)
    clear c1 hcell hil hw
    go_wp2_with fail
    refine Calls.mono HK.out ?_
    rintro e w2 ⟨x, rfl, hx, u2⟩
    have HX : Hid (WI g w2 x (zs.getD i [])) := hx.less hgs
    have HU2 : Hid (Up wr w2) := u2
    obtain ⟨xg, -, hxv, -⟩ := id hx
    obtain ⟨⟨zc, zcell⟩, zf⟩ := HCe.out w2 u2
    have HF : Hid (WRa g w (w2.setCell ⟨g, i, none⟩ x) g n zs (i + 1) (cs.set i x)) := WRa.put HW.out u2 hlt (by rw [WRow, if_pos (by rw [<- HN.out]; exact hin)]; exact HX.out) (fun p gg hp hg hg2 => by have h8 := wrow_lt (HW.out.2.2.1 p hp) hg; obtain ⟨g5, h5, h6, -⟩ := id hx; rw [h6] at hg2; simp [Value.ownBlock] at hg2; omega) hgw
    clear hx u2 HK HX
    subst hxv
    go_wp2
    go_roundw
    case rel => exact ⟨i + 1, _, by omega, by go_num, HF.out⟩
    case measure => simp [intOf]; omega
   ·have hin2 : ¬ (i : Int) < (n : Int) := by omega
    clear hw
    go_wp2_with fail
    refine Calls.mono (num_ i (by omega) _) ?_
    rintro e w2 ⟨rfl, rfl⟩
    have HF : Hid (WRa g w ((w2.alloc (.cells #[.int .i64 (numI i)] 3)).setCell ⟨g, i, none⟩ (.slice (some ⟨w2.heap.size, 0, none⟩) 1 1)) g n zs (i + 1) (cs.set i (.slice (some ⟨w2.heap.size, 0, none⟩) 1 1))) := WRa.put HW.out ((Up.refl _).alloc _) hlt (by rw [WRow, if_neg (by rw [<- HN.out]; exact hin)]; exact ⟨w2.heap.size, hgs, rfl, heap_alloc_new w2 _⟩) (fun p gg hp hg hg2 => by have h8 := wrow_lt (HW.out.2.2.1 p hp) hg; simp [Value.ownBlock] at hg2; omega) hgw
    have zc : ∀ o, (w2.alloc o).frozen? ⟨g, i, none⟩ = false := fun o => (HCe.out _ ((Up.refl _).alloc o)).2
    obtain ⟨⟨z9, z8⟩, -⟩ := HCe.out w2 (Up.refl _)
    have zd : ∀ o, (w2.alloc o).cell? ⟨g, i, none⟩ = some z9 := fun o => ((Up.refl w2).alloc o).cell z8
    generalize numI i = z at HF ⊢
    go_wp2
    go_roundw
    case rel => exact ⟨i + 1, _, by omega, by go_num, HF.out⟩
    case measure => simp [intOf]; omega
  ·have hlt2 : ¬ (i : Int) < (n : Int) + 64 := by omega
   have hn64 : (n : Int) <= (n : Int) + 64 := by omega
   clear hw
   go_wp2
   rw [HP.out]
   have hnn := HN.out
   exact ⟨_, rfl, ⟨g, cs, hgw, by rw [<- HN.out], HW.out.1, by rw [<- hnn]; exact HW.out.2.1, fun j hj => by rw [<- HG.out]; exact HW.out.2.2.1 j (by omega), fun p q gg hp hq => HW.out.2.2.2.2 p q gg (by omega) (by omega)⟩, HW.out.2.2.2.1⟩
set_option maxRecDepth 100000 in
set_option maxHeartbeats 4000000 in
theorem wideStateA_ (v : Value) (s : Stt) (w : World) (hs : StL w v s) (hsm : Small s) :
  Calls Tryz.prog 9 #[v] w (CpPost w fun W v' => WSA w.heap.size W v' s) := by
 obtain ⟨Post, hPost⟩ : ∃ P : Ending -> World -> Prop, P = CpPost w fun W v' => WSA w.heap.size W v' s := ⟨_, rfl⟩
 rw [<- hPost]
 have HP : Hid (Post = CpPost w fun W v' => WSA w.heap.size W v' s) := hPost
 obtain ⟨vp, vc, vz, rfl, h1, h2, h3⟩ := hs
 have H1 : Hid _ := h1
 have H2 : Hid _ := h2
 have H3 : Hid _ := h3
 obtain ⟨a1, k1, rfl, -, -⟩ := lc_at h1
 obtain ⟨a2, k2, rfl, -, -⟩ := lc_at h2
 obtain ⟨a3, k3, rfl, -, -⟩ := zl_at h3
 have HM : Hid (Small s) := hsm
 clear hPost h1 h2 h3 hsm
 have HSV : Hid (∀ x y z, sv x y z s = .agg #[x, y, z, .int .i32 s.turn, .int .i64 s.whose, .int .i8 s.fin, .int .i64 s.winner]) := fun _ _ _ => rfl
 unfold sv
 generalize s.turn = tu at HSV ⊢
 generalize s.whose = wo at HSV ⊢
 generalize s.fin = fi at HSV ⊢
 generalize s.winner = wi at HSV ⊢
 go_enter Tryz.func9, Tryz.ntmps9
 go_wp2_with fail
 obtain ⟨W1, hW1⟩ : ∃ W, W = (w.alloc (.cells #[.slice a1 s.ps.length k1, .slice a2 s.cs.length k2, .slice a3 s.zs.length k3, .int .i32 tu, .int .i64 wo, .int .i8 fi, .int .i64 wi] 27)).alloc (.cells #[.slice none 0 0, .slice none 0 0, .slice none 0 0, .int .i32 0, .int .i64 0, .int .i8 0, .int .i64 0] 27) := ⟨_, rfl⟩
 rw [<- hW1]
 obtain ⟨b0, hb0⟩ : ∃ b, b = w.heap.size := ⟨_, rfl⟩
 rw [<- hb0]
 obtain ⟨g0, g1, gs, gu⟩ := two_blocks w #[.slice a1 s.ps.length k1, .slice a2 s.cs.length k2, .slice a3 s.zs.length k3, .int .i32 tu, .int .i64 wo, .int .i8 fi, .int .i64 wi] #[.slice none 0 0, .slice none 0 0, .slice none 0 0, .int .i32 0, .int .i64 0, .int .i8 0, .int .i64 0] 27
 rw [<- hW1] at g0 g1 gs gu
 rw [<- hb0] at g0 g1 gs
 have HB : Hid (b0 = w.heap.size) := hb0
 clear hW1 hb0
 refine Calls.mono (wideP_ _ s.ps W1 (PLs.up H1.out gu) HM.out.1) ?_
 rintro e w1 ⟨x1, rfl, d1, u1⟩
 have HG : Hid (w1.heap[b0]? = _ /\ w1.heap[b0 + 1]? = _ /\ b0 + 2 <= w1.heap.size /\ Up w w1 /\ WP (b0 + 2) w1 x1 s.ps) := ⟨u1.heap g0, u1.heap g1, by have := u1.size; omega, gu.trans u1, by rw [gs] at d1; exact d1⟩
 obtain ⟨xa, xc, hx1⟩ := WP.val d1
 subst hx1
 clear d1 u1 g0 g1 gs gu
 obtain ⟨y0, y1, y2, y3, y4, y5, y6⟩ := seven_cells HG.out.1
 have yf := seven_f HG.out.1
 have HG2 : Hid ((w1.setCell ⟨b0, 0, none⟩ (.slice xa s.ps.length xc)).heap[b0]? = some (.cells #[.slice xa s.ps.length xc, .slice a2 s.cs.length k2, .slice a3 s.zs.length k3, .int .i32 tu, .int .i64 wo, .int .i8 fi, .int .i64 wi] 27 (0, 0)) /\ (w1.setCell ⟨b0, 0, none⟩ (.slice xa s.ps.length xc)).heap[b0 + 1]? = some (.cells #[.slice none 0 0, .slice none 0 0, .slice none 0 0, .int .i32 0, .int .i64 0, .int .i8 0, .int .i64 0] 27 (0, 0)) /\ b0 + 2 <= (w1.setCell ⟨b0, 0, none⟩ (.slice xa s.ps.length xc)).heap.size /\ Up w (w1.setCell ⟨b0, 0, none⟩ (.slice xa s.ps.length xc)) /\ WP (b0 + 2) (w1.setCell ⟨b0, 0, none⟩ (.slice xa s.ps.length xc)) (.slice xa s.ps.length xc) s.ps) :=
  ⟨set_cells HG.out.1, set_other HG.out.2.1 (by omega), by simpa using HG.out.2.2.1, Up.set HG.out.2.2.2.1 _ _ (by rw [<- HB.out]; exact Nat.le_refl _), (HG.out.2.2.2.2).set (by omega)⟩
 clear HG
 go_wp2_with fail
 obtain ⟨W3, hW3⟩ : ∃ W, W = w1.setCell ⟨b0, 0, none⟩ (.slice xa s.ps.length xc) := ⟨_, rfl⟩
 rw [<- hW3] at HG2 ⊢
 clear hW3
 refine Calls.mono (wideC_ _ s.cs W3 (CLs.up H2.out HG2.out.2.2.2.1) HM.out.2.1) ?_
 rintro e w4 ⟨x2, rfl, d2, u2⟩
 have HG : Hid (w4.heap[b0]? = _ /\ w4.heap[b0 + 1]? = _ /\ b0 + 2 <= w4.heap.size /\ Up w w4 /\ WP (b0 + 2) w4 (.slice xa s.ps.length xc) s.ps /\ WC (b0 + 2) w4 x2 s.cs) := ⟨u2.heap HG2.out.1, u2.heap HG2.out.2.1, by have := u2.size; have := HG2.out.2.2.1; omega, HG2.out.2.2.2.1.trans u2, (HG2.out.2.2.2.2).up u2, d2.less HG2.out.2.2.1⟩
 obtain ⟨xa2, xc2, hx2⟩ := WC.val d2
 subst hx2
 clear d2 u2 HG2 y0 y1 y2 y3 y4 y5 y6 yf
 obtain ⟨y0, y1, y2, y3, y4, y5, y6⟩ := seven_cells HG.out.1
 have yf := seven_f HG.out.1
 have HG2 : Hid ((w4.setCell ⟨b0, 1, none⟩ (.slice xa2 s.cs.length xc2)).heap[b0]? = some (.cells #[.slice xa s.ps.length xc, .slice xa2 s.cs.length xc2, .slice a3 s.zs.length k3, .int .i32 tu, .int .i64 wo, .int .i8 fi, .int .i64 wi] 27 (0, 0)) /\ (w4.setCell ⟨b0, 1, none⟩ (.slice xa2 s.cs.length xc2)).heap[b0 + 1]? = some (.cells #[.slice none 0 0, .slice none 0 0, .slice none 0 0, .int .i32 0, .int .i64 0, .int .i8 0, .int .i64 0] 27 (0, 0)) /\ b0 + 2 <= (w4.setCell ⟨b0, 1, none⟩ (.slice xa2 s.cs.length xc2)).heap.size /\ Up w (w4.setCell ⟨b0, 1, none⟩ (.slice xa2 s.cs.length xc2)) /\ WP (b0 + 2) (w4.setCell ⟨b0, 1, none⟩ (.slice xa2 s.cs.length xc2)) (.slice xa s.ps.length xc) s.ps /\ WC (b0 + 2) (w4.setCell ⟨b0, 1, none⟩ (.slice xa2 s.cs.length xc2)) (.slice xa2 s.cs.length xc2) s.cs) :=
  ⟨set_cells HG.out.1, set_other HG.out.2.1 (by omega), by simpa using HG.out.2.2.1, Up.set HG.out.2.2.2.1 _ _ (by rw [<- HB.out]; exact Nat.le_refl _), (HG.out.2.2.2.2.1).set (by omega), (HG.out.2.2.2.2.2).set (by omega)⟩
 clear HG
 go_wp2_with fail
 obtain ⟨W5, hW5⟩ : ∃ W, W = w4.setCell ⟨b0, 1, none⟩ (.slice xa2 s.cs.length xc2) := ⟨_, rfl⟩
 rw [<- hW5] at HG2 ⊢
 clear hW5
 refine Calls.mono (wideRowsA_ _ s.zs W5 (ZL.up H3.out HG2.out.2.2.2.1) HM.out.2.2.1 HM.out.2.2.2) ?_
 rintro e w6 ⟨x3, rfl, d3, u3⟩
 have HG : Hid (w6.heap[b0]? = _ /\ w6.heap[b0 + 1]? = _ /\ b0 + 2 <= w6.heap.size /\ Up w w6 /\ WP (b0 + 2) w6 (.slice xa s.ps.length xc) s.ps /\ WC (b0 + 2) w6 (.slice xa2 s.cs.length xc2) s.cs /\ WZA (b0 + 2) w6 x3 s.zs) := ⟨u3.heap HG2.out.1, u3.heap HG2.out.2.1, by have := u3.size; have := HG2.out.2.2.1; omega, HG2.out.2.2.2.1.trans u3, (HG2.out.2.2.2.2.1).up u3, (HG2.out.2.2.2.2.2).up u3, d3.less HG2.out.2.2.1⟩
 obtain ⟨xa3, xc3, hx3⟩ : ∃ p q, x3 = .slice p s.zs.length q := by
  exact WZ.val d3.wz
 subst hx3
 clear d3 u3 HG2 y0 y1 y2 y3 y4 y5 y6 yf
 obtain ⟨y0, y1, y2, y3, y4, y5, y6⟩ := seven_cells HG.out.1
 have yf := seven_f HG.out.1
 have HG2 : Hid ((w6.setCell ⟨b0, 2, none⟩ (.slice xa3 s.zs.length xc3)).heap[b0]? = some (.cells #[.slice xa s.ps.length xc, .slice xa2 s.cs.length xc2, .slice xa3 s.zs.length xc3, .int .i32 tu, .int .i64 wo, .int .i8 fi, .int .i64 wi] 27 (0, 0)) /\ (w6.setCell ⟨b0, 2, none⟩ (.slice xa3 s.zs.length xc3)).heap[b0 + 1]? = some (.cells #[.slice none 0 0, .slice none 0 0, .slice none 0 0, .int .i32 0, .int .i64 0, .int .i8 0, .int .i64 0] 27 (0, 0)) /\ Up w (w6.setCell ⟨b0, 2, none⟩ (.slice xa3 s.zs.length xc3)) /\ WSA (b0 + 2) (w6.setCell ⟨b0, 2, none⟩ (.slice xa3 s.zs.length xc3)) (.agg #[.slice xa s.ps.length xc, .slice xa2 s.cs.length xc2, .slice xa3 s.zs.length xc3, .int .i32 tu, .int .i64 wo, .int .i8 fi, .int .i64 wi]) s) :=
  ⟨set_cells HG.out.1, set_other HG.out.2.1 (by omega), Up.set HG.out.2.2.2.1 _ _ (by rw [<- HB.out]; exact Nat.le_refl _), _, _, _, (HSV.out _ _ _).symm, (HG.out.2.2.2.2.1).set (by omega), (HG.out.2.2.2.2.2.1).set (by omega), HG.out.2.2.2.2.2.2.set (by omega)⟩
 clear HG
 obtain ⟨W7, hW7⟩ : ∃ W, W = w6.setCell ⟨b0, 2, none⟩ (.slice xa3 s.zs.length xc3) := ⟨_, rfl⟩
 rw [<- hW7] at HG2
 have HW7 : Hid (W7 = _) := hW7
 obtain ⟨q0, q1, q2, q3, q4, q5, q6⟩ := seven_cells HG2.out.1
 obtain ⟨r0, r1, r2, r3, r4, r5, r6⟩ := seven_cells HG2.out.2.1
 have rf := seven_f HG2.out.2.1
 rw [hW7] at q0 q1 q2 q3 q4 q5 q6 r0 r1 r2 r3 r4 r5 r6 rf
 clear hW7
 go_wp2_with fail
 rw [<- HW7.out]
 obtain ⟨p0, p1, p2, p3, p4, p5, p6⟩ := seven_cells (seven_set (x0 := .slice xa s.ps.length xc) (x1 := .slice xa2 s.cs.length xc2) (x2 := .slice xa3 s.zs.length xc3) (x3 := .int .i32 tu) (x4 := .int .i64 wo) (x5 := .int .i8 fi) (x6 := .int .i64 wi) HG2.out.2.1)
 have hs1 : b0 + 1 < b0 + 2 := by omega
 have hb1 : w.heap.size <= b0 + 1 := by rw [<- HB.out]; omega
 refine bodyPost_ret (v := .agg #[.slice xa s.ps.length xc, .slice xa2 s.cs.length xc2, .slice xa3 s.zs.length xc3, .int .i32 tu, .int .i64 wo, .int .i8 fi, .int .i64 wi]) (by simp [results, Tryz.results9, go_sem, p0, p1, p2, p3, p4, p5, p6]) rfl ?_
 rw [HP.out]
 refine ⟨_, rfl, ?_, ?_⟩
 ·exact ((((((((HG2.out.2.2.2.set hs1).set hs1).set hs1).set hs1).set hs1).set hs1).set hs1)).less (by rw [HB.out]; omega)
 ·exact ((((((((HG2.out.2.2.1.set _ _ hb1).set _ _ hb1).set _ _ hb1).set _ _ hb1).set _ _ hb1).set _ _ hb1).set _ _ hb1))
end ST
end Go.Proofs.YtodhjjeagmjhdaaGreatDoor
namespace Go.Proofs.YtodhjjeagmjhdaaGreatDoor
open Go.RowKit
attribute [local go_sem ↓] Go.wp_at_zero Go.wp_at_succ
theorem wrapEq32 (x : Int) : IntKind.i32.wrap x = wrap32 x := by rw [IntKind.wrap_i32, wrap32]
namespace ST
set_option maxRecDepth 100000 in
set_option maxHeartbeats 4000000 in
theorem spareP_ (base : Nat) (v : Value) (l : List Ply) (w : World) (hv : WP base w v l) (hn : l.length <= 4294967296) :
  Calls Tryz.prog 104 #[v] w fun e w' => e = .returned (.bool true) /\ Up w w' := by
 obtain ⟨g, -, rfl, h3⟩ := hv
 obtain ⟨n, hn0⟩ : ∃ n, n = l.length := ⟨_, rfl⟩
 have HC : Hid (∀ i, n <= i -> i < n + 64 -> w.cell? ⟨g, i * 3, none⟩ = some (.int .i32 (wrap32 (numI i))) /\ w.cell? ⟨g, i * 3 + 1, none⟩ = some (.int .i32 0) /\ w.cell? ⟨g, i * 3 + 2, none⟩ = some (.bool false)) := fun i h1 h2 => by
  have c : ∀ j, j < 3 -> w.cell? ⟨g, i * 3 + j, none⟩ = (wP l i)[j]? := fun j hj => by
   have : w.cell? ⟨g, i * 3 + j, none⟩ = (wPs l)[i * 3 + j]? := by simp [World.cell?, h3]
   rw [this, wPs_get l i j (by omega) hj]
  rw [wP, if_neg (by omega)] at c
  exact ⟨c 0 (by decide), c 1 (by decide), c 2 (by decide)⟩
 rw [<- hn0] at hn ⊢
 clear h3 hn0
 have e1 : (n : Int) + 64 <= (n : Int) + 64 := by omega
 have e2 : (0 : Int) <= (n : Int) + 64 := by omega
 have e3 : ((n : Int) + 64).toNat = n + 64 := by omega
 go_enter Tryz.func104, Tryz.ntmps104
 go_wp2_with fail
 go_loopw [2, 4] (fun s2 s4 wr => ∃ i : Nat, n <= i /\ i <= n + 64 /\ s2 = .bool false /\ s4 = .int .i64 i /\ Up w wr) (fun _ s4 _ => n + 64 - (intOf s4).toNat)
 case atStart => exact ⟨n, Nat.le_refl _, by omega, rfl, rfl, Up.refl _⟩
 case round =>
  obtain ⟨i, hi1, hi2, rfl, rfl, u9⟩ := hrel
  have HU : Hid (Up w wr) := u9
  by_cases hlt : i < n + 64
  ·have hlt2 : (i : Int) < (n : Int) + 64 := by omega
   obtain ⟨x0, x1, x2⟩ := HC.out i hi1 hlt
   obtain ⟨x0, x1, x2⟩ := (show wr.cell? ⟨g, i * 3, none⟩ = some (.int .i32 (wrap32 (numI i))) /\ wr.cell? ⟨g, i * 3 + 1, none⟩ = some (.int .i32 0) /\ wr.cell? ⟨g, i * 3 + 2, none⟩ = some (.bool false) from ⟨u9.cell x0, u9.cell x1, u9.cell x2⟩)
   clear u9
   obtain ⟨y, hy⟩ : ∃ y, y = wrap32 (numI i) := ⟨_, rfl⟩
   rw [<- hy] at x0
   have ew : IntKind.i32.wrap (numI i) = y := by rw [hy]; exact wrapEq32 _
   have HNm : Hid _ := num_ i (by omega)
   clear hy
   generalize numI i = z at ew HNm
   go_wp2_with fail
   go_quiet (exact Calls.quiet_of_same (HNm.out _))
   go_wp2
   go_roundw
   case rel =>
    refine ⟨i + 1, by omega, by omega, rfl, by go_num, HU.out.trans ?_⟩
    repeat (first | with_reducible exact Up.refl _ | with_reducible apply Up.alloc | with_reducible apply Up.drewN | with_reducible apply Up.drew | with_reducible refine Up.set ?_ _ _ (by first | exact Nat.le_refl _ | exact Nat.le_succ _ | (simp; omega)))
   case measure => simp [intOf]; omega
  ·have hlt2 : ¬ (i : Int) < (n : Int) + 64 := by omega
   clear u9
   go_wp2
   go_ret
   exact ⟨rfl, HU.out⟩
set_option maxRecDepth 100000 in
set_option maxHeartbeats 4000000 in
theorem spareC_ (base : Nat) (v : Value) (l : List Crd) (w : World) (hv : WC base w v l) (hn : l.length <= 4294967296) :
  Calls Tryz.prog 105 #[v] w fun e w' => e = .returned (.bool true) /\ Up w w' := by
 obtain ⟨g, -, rfl, h3⟩ := hv
 obtain ⟨n, hn0⟩ : ∃ n, n = l.length := ⟨_, rfl⟩
 have HC : Hid (∀ i, n <= i -> i < n + 64 -> w.cell? ⟨g, i * 6, none⟩ = some (.int .i64 (numI i)) /\ w.cell? ⟨g, i * 6 + 1, none⟩ = some (.int .i64 0) /\ w.cell? ⟨g, i * 6 + 2, none⟩ = some (.int .i32 0) /\ w.cell? ⟨g, i * 6 + 3, none⟩ = some (.int .i32 0) /\ w.cell? ⟨g, i * 6 + 4, none⟩ = some (.int .i32 0) /\ w.cell? ⟨g, i * 6 + 5, none⟩ = some (.int .i32 0)) := fun i h1 h2 => by
  have c : ∀ j, j < 6 -> w.cell? ⟨g, i * 6 + j, none⟩ = (wC l i)[j]? := fun j hj => by
   have : w.cell? ⟨g, i * 6 + j, none⟩ = (wCs l)[i * 6 + j]? := by simp [World.cell?, h3]
   rw [this, wCs_get l i j (by omega) hj]
  rw [wC, if_neg (by omega)] at c
  exact ⟨c 0 (by decide), c 1 (by decide), c 2 (by decide), c 3 (by decide), c 4 (by decide), c 5 (by decide)⟩
 rw [<- hn0] at hn ⊢
 clear h3 hn0
 have e1 : (n : Int) + 64 <= (n : Int) + 64 := by omega
 have e2 : (0 : Int) <= (n : Int) + 64 := by omega
 have e3 : ((n : Int) + 64).toNat = n + 64 := by omega
 go_enter Tryz.func105, Tryz.ntmps105
 go_wp2_with fail
 go_loopw [2, 4] (fun s2 s4 wr => ∃ i : Nat, n <= i /\ i <= n + 64 /\ s2 = .bool false /\ s4 = .int .i64 i /\ Up w wr) (fun _ s4 _ => n + 64 - (intOf s4).toNat)
 case atStart => exact ⟨n, Nat.le_refl _, by omega, rfl, rfl, Up.refl _⟩
 case round =>
  obtain ⟨i, hi1, hi2, rfl, rfl, u9⟩ := hrel
  have HU : Hid (Up w wr) := u9
  by_cases hlt : i < n + 64
  ·have hlt2 : (i : Int) < (n : Int) + 64 := by omega
   obtain ⟨x0, x1, x2, x3, x4, x5⟩ := HC.out i hi1 hlt
   obtain ⟨x0, x1, x2, x3, x4, x5⟩ := (show wr.cell? ⟨g, i * 6, none⟩ = some (.int .i64 (numI i)) /\ wr.cell? ⟨g, i * 6 + 1, none⟩ = some (.int .i64 0) /\ wr.cell? ⟨g, i * 6 + 2, none⟩ = some (.int .i32 0) /\ wr.cell? ⟨g, i * 6 + 3, none⟩ = some (.int .i32 0) /\ wr.cell? ⟨g, i * 6 + 4, none⟩ = some (.int .i32 0) /\ wr.cell? ⟨g, i * 6 + 5, none⟩ = some (.int .i32 0) from ⟨u9.cell x0, u9.cell x1, u9.cell x2, u9.cell x3, u9.cell x4, u9.cell x5⟩)
   clear u9
   have HNm : Hid _ := num_ i (by omega)
   generalize numI i = z at x0 HNm
   go_wp2_with fail
   go_quiet (exact Calls.quiet_of_same (HNm.out _))
   go_wp2
   go_roundw
   case rel =>
    refine ⟨i + 1, by omega, by omega, rfl, by go_num, HU.out.trans ?_⟩
    repeat (first | with_reducible exact Up.refl _ | with_reducible apply Up.alloc | with_reducible apply Up.drewN | with_reducible apply Up.drew | with_reducible refine Up.set ?_ _ _ (by first | exact Nat.le_refl _ | exact Nat.le_succ _ | (simp; omega)))
   case measure => simp [intOf]; omega
  ·have hlt2 : ¬ (i : Int) < (n : Int) + 64 := by omega
   clear u9
   go_wp2
   go_ret
   exact ⟨rfl, HU.out⟩
set_option maxRecDepth 100000 in
set_option maxHeartbeats 4000000 in
theorem spareRows_ (base : Nat) (v : Value) (zs : List (List Int)) (w : World) (hv : WZ base w v zs) (hn : zs.length <= 4294967296) (hl : ∀ r, r < zs.length -> (zs.getD r []).length <= 4294967296) :
  Calls Tryz.prog 106 #[v] w fun e w' => e = .returned (.bool true) /\ Up w w' := by
 obtain ⟨g, vs, -, rfl, h3, h4, h5⟩ := hv
 obtain ⟨n, hn0⟩ : ∃ n, n = zs.length := ⟨_, rfl⟩
 have hcc : ∀ i, i < zs.length + 64 -> w.cell? ⟨g, i, none⟩ = some (vs.getD i nl) := fun i hi => by
  have : w.cell? ⟨g, i, none⟩ = vs[i]? := by simp [World.cell?, h3]
  rw [this, List.getD_eq_getElem?_getD, List.getElem?_eq_getElem (by omega)]
  rfl
 have HC : Hid (∀ i, n <= i -> i < n + 64 -> ∃ gx, ∀ W, Up w W -> W.cell? ⟨g, i, none⟩ = some (.slice (some ⟨gx, 0, none⟩) 1 1) /\ W.cell? ⟨gx, 0, none⟩ = some (.int .i64 (numI i))) := fun i h1 h2 => by
  have h6 := h5 i (by omega)
  rw [WRow, if_neg (by omega)] at h6
  obtain ⟨gx, -, h7, h8⟩ := h6
  have h9 := hcc i (by omega)
  rw [h7] at h9
  exact ⟨gx, fun W u => ⟨u.cell h9, u.cell (by simp [World.cell?, h8])⟩⟩
 have HR : Hid (∀ i, i < n -> ∃ x, (∃ a b c, x = .slice a b c) /\ ∀ W, Up w W -> W.cell? ⟨g, i, none⟩ = some x /\ Calls Tryz.prog 34 #[x] W fun e w' => e = .returned (.bool true) /\ w' = W) := fun i h1 => by
  have h6 := h5 i (by omega)
  rw [WRow, if_pos (by omega)] at h6
  obtain ⟨g9, -, e9, -⟩ := id h6
  exact ⟨_, ⟨_, _, _, e9⟩, fun W u => ⟨u.cell (hcc i (by omega)), spareInts_ base _ _ W (h6.up u) (hl i (by omega))⟩⟩
 rw [<- hn0] at hn ⊢
 clear h3 h4 h5 hcc hl hn0
 have e1 : (n : Int) + 64 <= (n : Int) + 64 := by omega
 have e2 : (0 : Int) <= (n : Int) + 64 := by omega
 have e3 : ((n : Int) + 64).toNat = n + 64 := by omega
 go_enter Tryz.func106, Tryz.ntmps106
 go_wp2_with fail
 go_loopw [2, 4] (fun s2 s4 wr => ∃ i : Nat, n <= i /\ i <= n + 64 /\ s2 = .bool false /\ s4 = .int .i64 i /\ Up w wr) (fun _ s4 _ => n + 64 - (intOf s4).toNat)
 case atStart => exact ⟨n, Nat.le_refl _, by omega, rfl, rfl, Up.refl _⟩
 case round =>
  obtain ⟨i, hi1, hi2, rfl, rfl, u9⟩ := hrel
  have HU : Hid (Up w wr) := u9
  by_cases hlt : i < n + 64
  ·have hlt2 : (i : Int) < (n : Int) + 64 := by omega
   obtain ⟨gx, hgx⟩ := HC.out i hi1 hlt
   obtain ⟨x0, x1⟩ := hgx wr u9
   have HNm : Hid _ := num_ i (by omega)
   clear u9 hgx
   generalize numI i = z at x1 HNm
   go_wp2_with fail
   go_quiet (exact Calls.quiet_of_same (HNm.out _))
   go_wp2
   go_roundw
   case rel => exact ⟨i + 1, by omega, by omega, rfl, by go_num, HU.out.drewN _⟩
   case measure => simp [intOf]; omega
  ·have hlt2 : ¬ (i : Int) < (n : Int) + 64 := by omega
   clear u9
   go_wp2_with fail
   go_loopw [2, 6] (fun s2 s6 W => ∃ i : Nat, i <= n /\ s2 = .bool false /\ s6 = .int .i64 i /\ Up w W) (fun _ s6 _ => n - (intOf s6).toNat)
   case atStart => exact ⟨0, Nat.zero_le _, rfl, rfl, HU.out⟩
   case round =>
    obtain ⟨i, hi, rfl, rfl, u9⟩ := hrel
    clear HU
    have HU : Hid (Up w wr) := u9
    by_cases hlt5 : i < n
    ·have hlt6 : (i : Int) < (n : Int) := by omega
     obtain ⟨x, ⟨xa, xb, xc, rfl⟩, hx⟩ := HR.out i hlt5
     obtain ⟨x0, hcall⟩ := hx wr u9
     have HCa : Hid _ := hcall
     clear u9 hx hcall
     go_wp2_with fail
     refine Calls.mono HCa.out ?_
     rintro e w2 ⟨rfl, rfl⟩
     go_wp2
     go_roundw
     case rel => exact ⟨i + 1, by omega, rfl, by go_num, HU.out⟩
     case measure => simp [intOf]; omega
    ·have hlt6 : ¬ (i : Int) < (n : Int) := by omega
     clear u9
     go_wp2
     go_ret
     exact ⟨rfl, HU.out⟩
set_option maxHeartbeats 2000000 in
theorem spareState_ (base : Nat) (v : Value) (s : Stt) (w : World) (hv : WS base w v s) (hsm : Small s) :
  Calls Tryz.prog 49 #[v] w fun e w' => e = .returned (.bool true) /\ Up w w' := by
 obtain ⟨vp, vc, vz, rfl, h1, h2, h3⟩ := hv
 have HP : Hid (∀ W, Up w W -> _) := fun W u => spareP_ base vp s.ps W (h1.up u) hsm.1
 have HC : Hid (∀ W, Up w W -> _) := fun W u => spareC_ base vc s.cs W (h2.up u) hsm.2.1
 have HZ : Hid (∀ W, Up w W -> _) := fun W u => spareRows_ base vz s.zs W (h3.up u) hsm.2.2.1 hsm.2.2.2
 obtain ⟨a1, k1, rfl⟩ := WP.val h1
 obtain ⟨a2, k2, rfl⟩ := WC.val h2
 obtain ⟨a3, k3, rfl⟩ := WZ.val h3
 clear h1 h2 h3
 unfold sv
 obtain ⟨W0, hW0⟩ : ∃ W, W = w.alloc (.cells #[.slice a1 s.ps.length k1, .slice a2 s.cs.length k2, .slice a3 s.zs.length k3, .int .i32 s.turn, .int .i64 s.whose, .int .i8 s.fin, .int .i64 s.winner] 27) := ⟨_, rfl⟩
 have HW0 : Hid (Up w W0 /\ W0.heap[w.heap.size]? = some (.cells #[.slice a1 s.ps.length k1, .slice a2 s.cs.length k2, .slice a3 s.zs.length k3, .int .i32 s.turn, .int .i64 s.whose, .int .i8 s.fin, .int .i64 s.winner] 27 (0, 0))) := ⟨by rw [hW0]; exact (Up.refl _).alloc _, by rw [hW0]; exact heap_alloc_new w _⟩
 go_enter Tryz.func49, Tryz.ntmps49
 go_wp2_with fail
 rw [<- hW0]
 clear hW0
 refine Calls.mono (HP.out _ HW0.out.1) ?_
 rintro e w1 ⟨rfl, u1⟩
 obtain ⟨y0, y1, y2, -, -, -, -⟩ := seven_cells (u1.heap HW0.out.2)
 have HU1 : Hid (Up W0 w1) := u1
 clear u1
 go_wp2_with fail
 refine Calls.mono (HC.out _ (HW0.out.1.trans HU1.out)) ?_
 rintro e w2 ⟨rfl, u2⟩
 have HU2 : Hid (Up W0 w2) := HU1.out.trans u2
 clear u2 y0 y1 y2
 obtain ⟨y0, y1, y2, -, -, -, -⟩ := seven_cells (HU2.out.heap HW0.out.2)
 go_wp2_with fail
 refine Calls.mono (HZ.out _ (HW0.out.1.trans HU2.out)) ?_
 rintro e w3 ⟨rfl, u3⟩
 have HU3 : Hid (Up w w3) := (HW0.out.1.trans HU2.out).trans u3
 clear u3
 go_wp2
 go_ret
 exact ⟨rfl, HU3.out⟩
end ST
end Go.Proofs.YtodhjjeagmjhdaaGreatDoor
