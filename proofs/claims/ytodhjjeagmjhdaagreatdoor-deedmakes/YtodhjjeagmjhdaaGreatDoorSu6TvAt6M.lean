/- Su6, Px6, Aq6, As6, At6 -/
import Derived.Test.YtodhjjeagmjhdaaGreatDoorNumTvMo6M
import Derived.Test.YtodhjjeagmjhdaaGreatDoorPr6TvPw6M
namespace Go.Proofs.YtodhjjeagmjhdaaGreatDoor
open Go.RowKit
attribute [local go_sem ↓] Go.wp_at_zero Go.wp_at_succ
namespace DE
open Go.Proofs.YtodhjjeagmjhdaaGreatDoor.ST
def shE (z : Int) (l : List Int) : Ev := ⟨4, 0, 0, 0, 0, z, 0, 0, 0, 0, 0, l⟩
def shufO (s : Stt) (z : Int) (l : List Int) : Int × Option Ev := if ff s = none then (if numB z s.zs.length = true then (if ordB (zn s z).length l = true then (if risesB l = true then (0, none) else (0, some (shE z l))) else (1, none)) else (1, none)) else (10, none)
set_option maxRecDepth 100000 in
set_option maxHeartbeats 4000000 in
theorem shuffle_ (v vo : Value) (s : Stt) (z : Int) (l : List Int) (w : World) (hs : StL w v s) (hsm : Small s) (ho : IL w vo l) (hln : l.length <= 4294967296) : Calls Tryz.prog 85 #[v, .int .i64 z, vo] w (DeV w (shufO s z l)) := by
 obtain ⟨iT, hiT, i0, i1, i2⟩ := info_parts infoI
 obtain ⟨Post, hPost⟩ : ∃ P : Ending -> World -> Prop, P = DeV w (shufO s z l) := ⟨_, rfl⟩
 rw [<- hPost]
 have HP : Hid (Post = DeV w (shufO s z l)) := hPost
 have HM : Hid (∀ W, Up w W -> Calls Tryz.prog 79 #[v] W fun r w' => r = .returned (.bool (decide (ff s = none))) /\ Up W w') := fun W u => mayBe_ v s W (hs.up u) hsm
 have HIZ : Hid (∀ W, Up w W -> Calls Tryz.prog 160 #[v, .int .i64 z] W fun r w' => r = .returned (.bool (numB z s.zs.length)) /\ Up W w') := fun W u => isZone_ v s z W (hs.up u)
 have HIO : Hid (∀ W (m : Nat), Up w W -> m <= 256 -> Calls Tryz.prog 167 #[vo, .int .i64 m] W fun r w' => r = .returned (.bool (ordB m l)) /\ Up W w') := fun W m u h => isOrder_ vo l m W (ho.up u) h
 have HLA : Hid (∀ W, Up w W -> Calls Tryz.prog 168 #[vo] W fun r w' => r = .returned (.bool (risesB l)) /\ Up W w') := fun W u => leavesAll_ vo l W (ho.up u) (by omega)
 have HV : Hid (LC w vo 1 l.length (ivs l)) := ho
 have HO : Hid (∀ (a : Option Addr) (k : Nat) (W w1 : World) (cur : List Value), Up w W -> vo = .slice a l.length k -> w1.heap[W.heap.size]? = some (.cells cur.toArray 3 (0, 0)) -> cur.length = l.length * 1 -> Up W w1 -> ∃ w2, (Builtin.copy_ #[28, 28] 3 #[.slice (some ⟨W.heap.size, 0, none⟩) l.length l.length, .slice a l.length k]).run Tryz.prog w1 = .ok (goInt (Nat.min l.length l.length : Nat)) w2 /\ IRow W.heap.size w2 (.slice (some ⟨W.heap.size, 0, none⟩) l.length l.length) l /\ Up W w2) := fun a k W w1 cur uw hav hg hcl u => by
  have h := HV.out.up (uw.trans u)
  have hlen := h.1
  obtain ⟨w2, hr, h2, h3⟩ := run_copyS (P := Tryz.prog) w1 28 28 3 3 1 (by decide) (some ⟨W.heap.size, 0, none⟩) a l.length l.length l.length k W.heap.size 0 cur 3 Tryz.underlying28 sizeI hg (ivs l) (by rw [hlen]; simp) (fun hp => by
   refine ⟨rfl, ?_⟩
   obtain ⟨-, a', k', e, -, hc⟩ := h
   rw [hav] at e
   cases e
   obtain ⟨b, off, rfl, hcell⟩ := hc (by intro h0; rw [hlen, h0] at hp; simp at hp)
   refine ⟨_, rfl, fun j x hj => ?_⟩
   rw [Addr.add_mid]
   have : j < (ivs l).length := (List.getElem?_eq_some_iff.1 hj).1
   rw [hcell j (by omega)]; exact hj) (by rw [hlen, hcl]; omega) (ivs_one l)
  rw [splice_all cur (ivs l) (by rw [hcl, hlen])] at h2
  exact ⟨w2, hr, own_made h2 hlen (Nat.le_refl _) (by unfold maxLen; omega), Up.trans' u h3 (Nat.le_refl _)⟩
 obtain ⟨oa, ok, hvo, -, -⟩ := lc_at ho
 obtain ⟨vp, vc, vz, hv, h1, h2, h3⟩ := hs
 obtain ⟨a1, k1, rfl, -, -⟩ := lc_at h1
 obtain ⟨a2, k2, rfl, -, -⟩ := lc_at h2
 obtain ⟨a3, k3, rfl, -, hzl⟩ := zl_at h3
 unfold sv at hv
 clear h1 h2 h3 hPost ho HV
 subst hv
 have hA : (w.alloc (.cells #[.slice a1 s.ps.length k1, .slice a2 s.cs.length k2, .slice a3 s.zs.length k3, .int .i32 s.turn, .int .i64 s.whose, .int .i8 s.fin, .int .i64 s.winner] 27)).heap[w.heap.size]? = some (.cells #[.slice a1 s.ps.length k1, .slice a2 s.cs.length k2, .slice a3 s.zs.length k3, .int .i32 s.turn, .int .i64 s.whose, .int .i8 s.fin, .int .i64 s.winner] 27 (0, 0)) := heap_alloc_new _ _
 have HU : Up w (w.alloc (.cells #[.slice a1 s.ps.length k1, .slice a2 s.cs.length k2, .slice a3 s.zs.length k3, .int .i32 s.turn, .int .i64 s.whose, .int .i8 s.fin, .int .i64 s.winner] 27)) := (Up.refl _).alloc _
 by_cases hf : ff s = none
 ·simp only [hf, decide_true] at HM
  cases hz : numB z s.zs.length with
  | false =>
   have HF : Hid (shufO s z l = (1, none)) := by unfold Hid shufO; rw [if_pos hf, if_neg (by rw [hz]; decide)]
   rw [hz] at HIZ
   subst hvo
   clear hf hz HIO HLA HO hzl
   go_enter Tryz.func85, Tryz.ntmps85
   go_wp2_with fail
   refine Calls.mono (HM.out _ HU) ?_
   rintro r W1 ⟨rfl, u1⟩
   have hA := u1.heap hA
   have HU := HU.trans u1
   obtain ⟨q0, q1, q2, q3, q4, q5, q6⟩ := seven_cells hA
   clear u1 HM
   go_wp2_with fail
   refine Calls.mono (HIZ.out _ HU) ?_
   rintro r W2 ⟨rfl, u2⟩
   have HZ : Hid (Up w W2) := HU.trans u2
   clear u2 HU hA q0 q1 q2 q3 q4 q5 q6
   go_wp2
   rw [HP.out, HF.out]
   exact ⟨_, rfl, rfl, HZ.out⟩
  | true =>
   obtain ⟨i, rfl, hi⟩ := num_nat hz
   obtain ⟨zb, zo, rfl, hzr⟩ := hzl (by omega)
   obtain ⟨ra, rc, hcz, -⟩ := hzr i hi
   have hzn : zn s (i : Int) = s.zs.getD i [] := by unfold zn; rw [Int.toNat_natCast]
   have hq : (s.zs.getD i []).length <= 256 := zs_get (zone_le hf) i hi
   have HF : Hid (shufO s (i : Int) l = (if ordB (s.zs.getD i []).length l = true then (if risesB l = true then (0, none) else (0, some (shE (i : Int) l))) else (1, none))) := by unfold Hid shufO; rw [if_pos hf, if_pos hz, hzn]
   have HCZ : Hid _ := hcz
   have hi2 : (i : Int) < (s.zs.length : Int) := by omega
   rw [hz] at HIZ
   generalize (s.zs.getD i []).length = m at *
   subst hvo
   clear hf hz hzr hzl hcz hzn
   have HIM : Hid (∀ W, Up w W -> Calls Tryz.prog 167 #[.slice oa l.length ok, .int .i64 m] W fun r w' => r = .returned (.bool (ordB m l)) /\ Up W w') := fun W u => HIO.out W m u hq
   clear HIO
   cases hor : ordB m l with
   | false =>
    rw [hor] at HIM
    rw [hor, if_neg (by decide)] at HF
    clear hor HLA HO
    go_enter Tryz.func85, Tryz.ntmps85
    go_wp2_with fail
    refine Calls.mono (HM.out _ HU) ?_
    rintro r W1 ⟨rfl, u1⟩
    have hA := u1.heap hA
    have HU := HU.trans u1
    obtain ⟨q0, q1, q2, q3, q4, q5, q6⟩ := seven_cells hA
    clear u1 HM
    go_wp2_with fail
    refine Calls.mono (HIZ.out _ HU) ?_
    rintro r W2 ⟨rfl, u2⟩
    have hA := u2.heap hA
    have HU := HU.trans u2
    clear u2 HIZ q0 q1 q2 q3 q4 q5 q6
    obtain ⟨q0, q1, q2, q3, q4, q5, q6⟩ := seven_cells hA
    have c0 := HCZ.out W2 HU
    go_wp2_with fail
    refine Calls.mono (HIM.out _ HU) ?_
    rintro r W3 ⟨rfl, u3⟩
    have HU := HU.trans u3
    clear u3 HIM HCZ
    clear q0 q1 q2 q3 q4 q5 q6 c0 hA
    have HZ : Hid (Up w W3) := HU
    clear HU
    go_wp2
    rw [HP.out, HF.out]
    exact ⟨_, rfl, rfl, HZ.out⟩
   | true =>
    rw [hor] at HIM
    rw [hor, if_pos rfl] at HF
    clear hor
    cases hri : risesB l with
    | true =>
     rw [hri] at HLA
     rw [hri, if_pos rfl] at HF
     clear hri HO
     go_enter Tryz.func85, Tryz.ntmps85
     go_wp2_with fail
     refine Calls.mono (HM.out _ HU) ?_
     rintro r W1 ⟨rfl, u1⟩
     have hA := u1.heap hA
     have HU := HU.trans u1
     obtain ⟨q0, q1, q2, q3, q4, q5, q6⟩ := seven_cells hA
     clear u1 HM
     go_wp2_with fail
     refine Calls.mono (HIZ.out _ HU) ?_
     rintro r W2 ⟨rfl, u2⟩
     have hA := u2.heap hA
     have HU := HU.trans u2
     clear u2 HIZ q0 q1 q2 q3 q4 q5 q6
     obtain ⟨q0, q1, q2, q3, q4, q5, q6⟩ := seven_cells hA
     have c0 := HCZ.out W2 HU
     go_wp2_with fail
     refine Calls.mono (HIM.out _ HU) ?_
     rintro r W3 ⟨rfl, u3⟩
     have HU := HU.trans u3
     clear u3 HIM HCZ
     clear q0 q1 q2 q3 q4 q5 q6 c0 hA
     go_wp2_with fail
     refine Calls.mono (HLA.out _ HU) ?_
     rintro r W4 ⟨rfl, u4⟩
     have HZ : Hid (Up w W4) := HU.trans u4
     clear u4 HU
     go_wp2
     rw [HP.out, HF.out]
     exact ⟨_, rfl, rfl, HZ.out⟩
    | false =>
     rw [hri] at HLA
     rw [hri, if_neg (by decide)] at HF
     clear hri
     go_enter Tryz.func85, Tryz.ntmps85
     go_wp2_with fail
     refine Calls.mono (HM.out _ HU) ?_
     rintro r W1 ⟨rfl, u1⟩
     have hA := u1.heap hA
     have HU := HU.trans u1
     obtain ⟨q0, q1, q2, q3, q4, q5, q6⟩ := seven_cells hA
     clear u1 HM
     go_wp2_with fail
     refine Calls.mono (HIZ.out _ HU) ?_
     rintro r W2 ⟨rfl, u2⟩
     have hA := u2.heap hA
     have HU := HU.trans u2
     clear u2 HIZ q0 q1 q2 q3 q4 q5 q6
     obtain ⟨q0, q1, q2, q3, q4, q5, q6⟩ := seven_cells hA
     have c0 := HCZ.out W2 HU
     go_wp2_with fail
     refine Calls.mono (HIM.out _ HU) ?_
     rintro r W3 ⟨rfl, u3⟩
     have HU := HU.trans u3
     clear u3 HIM HCZ
     clear q0 q1 q2 q3 q4 q5 q6 c0 hA
     go_wp2_with fail
     refine Calls.mono (HLA.out _ HU) ?_
     rintro r W4 ⟨rfl, u4⟩
     have HU := HU.trans u4
     clear u4 HLA
     have HO4 : Hid _ := fun w1 cur => HO.out oa ok W4 w1 cur HU rfl
     have HZ4 : Hid (Up w W4) := HU
     clear HU HO
     obtain ⟨n, hn⟩ : ∃ n, n = l.length := ⟨_, rfl⟩
     rw [<- hn] at HO4 hln ⊢
     have HNn : Hid (n = l.length) := hn
     clear hn
     go_wp2_with (at_make; (refine wpList_make_full _ rfl _ _ 28 rfl W4.heap.size 3 iT _ 1 Tryz.underlying28 hiT i0 i1 .i64 .i64 _ _ n rfl rfl rfl rfl (by rw [i2]; omega) (by unfold maxLen; omega) (Nat.le_refl _) ?_; intro w1 hin hg1; obtain ⟨w2, hr, ho, hu⟩ := HO4.out w1 _ (row_made hin) hin.1 (made_up hg1); have HF2 : Hid (IRow W4.heap.size w2 (.slice (some ⟨W4.heap.size, 0, none⟩) n n) l /\ Up W4 w2) := (by exact ⟨ho, hu⟩); clear hin hg1 ho hu HO4))
     rw [HP.out, HF.out]
     have hu2 : Up w w2 := HZ4.out.trans HF2.out.2
     refine ⟨_, rfl, ⟨w2.heap.size, .slice (some ⟨W4.heap.size, 0, none⟩) n n, rfl, hu2.size, heap_alloc_new w2 _, ?_⟩, hu2.alloc _⟩
     exact own_less (row_up HF2.out.1 ((Up.refl _).alloc _)) HZ4.out.size
 ·have HF : Hid (shufO s z l = (10, none)) := by unfold Hid shufO; rw [if_neg hf]
  simp only [hf, decide_false] at HM
  subst hvo
  clear HIZ HIO HLA HO hf hzl
  go_enter Tryz.func85, Tryz.ntmps85
  go_wp2_with fail
  refine Calls.mono (HM.out _ HU) ?_
  rintro r W1 ⟨rfl, u1⟩
  have HZ : Hid (Up w W1) := HU.trans u1
  clear u1 HU hA
  go_wp2
  rw [HP.out, HF.out]
  exact ⟨_, rfl, rfl, HZ.out⟩
end DE
end Go.Proofs.YtodhjjeagmjhdaaGreatDoor
namespace Go.Proofs.YtodhjjeagmjhdaaGreatDoor
open Go.RowKit
namespace DE
open Go.Proofs.YtodhjjeagmjhdaaGreatDoor.ST
end DE
end Go.Proofs.YtodhjjeagmjhdaaGreatDoor
namespace Go.Proofs.YtodhjjeagmjhdaaGreatDoor
open Go.RowKit
namespace DE
open Go.Proofs.YtodhjjeagmjhdaaGreatDoor.ST
def ev2 (f n y x : Int) : Ev := ⟨2, f, n, 0, 0, 0, 0, 0, 0, y, x, []⟩
def ev3 (f n y x : Int) : Ev := ⟨3, f, 0, n, 0, 0, 0, 0, 0, y, x, []⟩
theorem chP_cases {s : Stt} {f n : Int} {r : Ev × Int} (h : chP s f n = some r) :
  (∃ i : Nat, n = i /\ i < s.cs.length /\ cGet (s.cs.getD i dc) f = some r.2 /\ r.1 = ev2 f n 0 0) ∨ (cPart s f n = none /\ ∃ i : Nat, n = i /\ i < s.ps.length /\ pGet (s.ps.getD i dp) f = some r.2 /\ r.1 = ev3 f n 0 0) := by
 unfold chP at h
 cases hq : cPart s f n with
 | some q =>
  rw [hq] at h
  cases h
  left
  unfold cPart at hq
  split at hq
  ·rename_i hn
   obtain ⟨i, rfl, hi⟩ := num_nat hn
   rw [Int.toNat_natCast] at hq
   cases hy : cGet (s.cs.getD i dc) f with
   | none => rw [hy] at hq; cases hq
   | some y =>
    rw [hy] at hq
    simp only [Option.map_some, Option.some.injEq] at hq
    subst hq
    exact ⟨i, rfl, hi, hy, rfl⟩
  ·cases hq
 | none =>
  rw [hq] at h
  right
  refine ⟨rfl, ?_⟩
  have h : pPart s f n = some r := h
  unfold pPart at h
  split at h
  ·rename_i hn
   obtain ⟨i, rfl, hi⟩ := num_nat hn
   rw [Int.toNat_natCast] at h
   cases hy : pGet (s.ps.getD i dp) f with
   | none => rw [hy] at h; cases h
   | some y =>
    rw [hy] at h
    simp only [Option.map_some, Option.some.injEq] at h
    subst h
    exact ⟨i, rfl, hi, hy, rfl⟩
  ·cases h
theorem set_fits {s : Stt} {f n x : Int} {r : Ev × Int} (h : chP s f n = some r) (hx : statB x = true) (hne : r.2 ≠ x) : (okB { r.1 with was := r.2, now := x } && fitB s { r.1 with was := r.2, now := x }) = true := by
 rcases chP_cases h with ⟨i, rfl, hi, hg, he⟩ | ⟨hc, i, rfl, hi, hg, he⟩
 ·obtain ⟨ev, y⟩ := r
  dsimp only at he hg hne ⊢
  rw [he]
  have hn : numB (i : Int) s.cs.length = true := by unfold numB; simp; omega
  unfold okB fitB ev2 cardFitsB
  dsimp only
  rw [hn, Int.toNat_natCast, hg]
  simp [kindB, restB, nothingB, cardR, statFitsB, noneB, hx, hne]
 ·obtain ⟨ev, y⟩ := r
  dsimp only at he hg hne ⊢
  rw [he]
  have hn : numB (i : Int) s.ps.length = true := by unfold numB; simp; omega
  unfold okB fitB ev3 playerFitsB
  dsimp only
  rw [hn, Int.toNat_natCast, hg]
  simp [kindB, restB, nothingB, playerR, statFitsB, noneB, hx, hne]
theorem one_is {s : Stt} {f n x : Int} {r : Ev × Int} (h : chP s f n = some r) : one { r.1 with was := r.2, now := x } = if r.2 = x then none else some { r.1 with was := r.2, now := x } := by
 have hz : noneB { r.1 with was := r.2, now := x } = decide (r.2 = x) := by
  rcases chP_cases h with ⟨i, rfl, hi, hg, he⟩ | ⟨hc, i, rfl, hi, hg, he⟩ <;> (rw [he]; simp [noneB, ev2, ev3])
 unfold one
 rw [hz]
 simp
theorem now_stat (y b : Int) : statB (chNow y b) = true := by
 unfold statB chNow
 simp only [Bool.and_eq_true, decide_eq_true_eq]
 omega
end DE
end Go.Proofs.YtodhjjeagmjhdaaGreatDoor
namespace Go.Proofs.YtodhjjeagmjhdaaGreatDoor
open Go.RowKit
attribute [local go_sem ↓] Go.wp_at_zero Go.wp_at_succ
structure DoT where
 kind : Int
 number : Int
 zone : Int
 first : Bool
 field : Int
 by_ : Int
 ord : List Int
namespace DE
open Go.Proofs.YtodhjjeagmjhdaaGreatDoor.ST
def doc (d : DoT) (vo : Value) : Array Value := #[.int .i64 d.kind, .int .i64 d.number, .int .i64 d.zone, .bool d.first, .int .i8 d.field, .int .i64 d.by_, vo]
def askO (s : Stt) (d : DoT) : Int × Option Ev := if d.kind = 0 then moveO s d.number d.zone d.first else if d.kind = 1 then changeO s d.field d.number d.by_ else if d.kind = 2 then shufO s d.zone d.ord else if d.kind = 3 then drawO s d.number else outO s d.number
def Good (s : Stt) (l : List Int) (r : Int × Option Ev) : Prop := (ff s ≠ none -> r = (10, none)) /\ (ff s = none -> r = (1, none) ∨ r = (0, none) ∨ ∃ e, r = (0, some e) /\ (okB e && fitB s e) = true /\ (e.ord = [] ∨ e.ord = l))
theorem ok_of {e : Ev} {s : Stt} (h1 : kindB e.kind = true) (h2 : restB e = true) (h3 : fitB s e = true) : (okB e && fitB s e) = true := by
 unfold okB
 rw [h1, h2, h3]
 rfl
theorem zs_len {s : Stt} (h : ff s = none) : s.zs.length = 4 * s.ps.length := by
 have h0 := ((ff_none s).1 h).1.1
 unfold sizesB at h0
 simp only [Bool.and_eq_true, decide_eq_true_eq] at h0
 exact h0.2
theorem num_of {i m : Nat} (h : i < m) : numB (i : Int) m = true := by unfold numB; simp; omega
theorem draw_good (s : Stt) (p : Int) (l : List Int) : Good s l (drawO s p) := by
 unfold drawO
 refine ⟨fun h => by rw [if_neg h], fun h => ?_⟩
 rw [if_pos h]
 by_cases hp : numB p s.ps.length = true
 ·rw [if_pos hp]
  by_cases h0 : (zn s (4 * p)).length = 0
  ·rw [if_pos h0]; exact .inr (.inl rfl)
  ·rw [if_neg h0]
   refine .inr (.inr ⟨_, rfl, ?_, .inl rfl⟩)
   obtain ⟨q, rfl, hq⟩ := num_nat hp
   have hz := zs_len h
   have e1 : zn s (4 * (q : Int)) = s.zs.getD (4 * q) [] := by unfold zn; congr 1
   have e2 : zn s (4 * (q : Int) + 1) = s.zs.getD (4 * q + 1) [] := by unfold zn; congr 1
   have f1 : numB (4 * (q : Int)) s.zs.length = true := num_of (i := 4 * q) (by omega)
   have f2 : numB (4 * (q : Int) + 1) s.zs.length = true := num_of (i := 4 * q + 1) (by omega)
   have hmem : (zn s (4 * (q : Int))).getD 0 0 ∈ s.zs.flatten := by
    rw [e1] at h0 ⊢
    have hm : s.zs.getD (4 * q) [] ∈ s.zs := by rw [List.getD_eq_getElem?_getD, List.getElem?_eq_getElem (by omega)]; exact List.getElem_mem _
    refine List.mem_flatten.2 ⟨_, hm, ?_⟩
    rw [List.getD_eq_getElem?_getD (l := s.zs.getD (4 * q) []), List.getElem?_eq_getElem (by omega)]
    exact List.getElem_mem _
   have f3 := ((ff_none s).1 h).2.1.2 _ hmem
   have f4 : numB 0 (zn s (4 * (q : Int))).length = true := num_of (i := 0) (by omega)
   refine ok_of (by rfl) (by simp [restB, drawE, nothingB, moveR]) ?_
   have hne : (4 * (q : Int)) ≠ 4 * (q : Int) + 1 := by omega
   have hne2 : ¬ (4 * (q : Int) + 1) = 4 * (q : Int) := by omega
   unfold fitB drawE moveFitsB
   dsimp only
   rw [if_pos rfl, f1, f2, f3, f4]
   simp [noneB, others, hne2]
   omega
 ·rw [if_neg hp]; exact .inl rfl
theorem move_good (s : Stt) (c z : Int) (first : Bool) (l : List Int) : Good s l (moveO s c z first) := by
 unfold moveO
 refine ⟨fun h => by rw [if_neg h], fun h => ?_⟩
 rw [if_pos h]
 by_cases hp : (numB c s.cs.length && numB z s.zs.length) = true
 ·rw [if_pos hp]
  rw [Bool.and_eq_true] at hp
  obtain ⟨fz, fa, hw⟩ := wh_all h hp.1
  rw [hw]
  dsimp only
  unfold one
  cases hn : noneB (mvE s c z fz fa first) with
  | true => rw [if_pos rfl]; exact .inr (.inl rfl)
  | false =>
   rw [if_neg (by decide)]
   refine .inr (.inr ⟨_, rfl, ?_, .inl rfl⟩)
   obtain ⟨-, w1, w2, w3⟩ := wh_some c s.zs 0 fz fa hw
   rw [Nat.sub_zero] at w1 w2 w3
   have e1 : zn s (fz : Int) = s.zs.getD fz [] := by unfold zn; rw [Int.toNat_natCast]
   have f1 : numB (fz : Int) s.zs.length = true := num_of w1
   have f2 : numB (fa : Int) (zn s (fz : Int)).length = true := by rw [e1]; exact num_of w2
   have f3 : (zn s (fz : Int)).getD (fa : Int).toNat 0 = c := by rw [e1, Int.toNat_natCast]; exact w3
   have f4 : 0 <= others s z (fz : Int) := by
    unfold others
    split
    ·rename_i hz
     rw [hz, e1]
     omega
    ·omega
   refine ok_of (by rfl) (by simp [restB, mvE, nothingB, moveR]) ?_
   unfold fitB moveFitsB
   rw [hn]
   unfold mvE
   dsimp only
   rw [if_pos rfl, hp.1, hp.2, f1, f2, f3]
   cases first <;> simp [f4]
 ·rw [if_neg hp]; exact .inl rfl
theorem shuf_good (s : Stt) (z : Int) (l : List Int) : Good s l (shufO s z l) := by
 unfold shufO
 refine ⟨fun h => by rw [if_neg h], fun h => ?_⟩
 rw [if_pos h]
 by_cases h1 : numB z s.zs.length = true
 ·rw [if_pos h1]
  by_cases h2 : ordB (zn s z).length l = true
  ·rw [if_pos h2]
   by_cases h3 : risesB l = true
   ·rw [if_pos h3]; exact .inr (.inl rfl)
   ·rw [if_neg h3]
    refine .inr (.inr ⟨_, rfl, ?_, .inr rfl⟩)
    refine ok_of (by rfl) (by simp [restB, shE, nothingB, shuffleR]) ?_
    unfold fitB shE shuffleFitsB
    simp [h1, h2, h3]
  ·rw [if_neg h2]; exact .inl rfl
 ·rw [if_neg h1]; exact .inl rfl
theorem out_good (s : Stt) (p : Int) (l : List Int) : Good s l (outO s p) := by
 unfold outO
 refine ⟨fun h => by rw [if_neg h], fun h => ?_⟩
 rw [if_pos h]
 by_cases h1 : numB p s.ps.length = true
 ·rw [if_pos h1]
  by_cases h2 : (s.ps.getD p.toNat dp).out = true
  ·rw [if_pos h2]; exact .inr (.inl rfl)
  ·rw [if_neg h2]
   refine .inr (.inr ⟨_, rfl, ?_, .inl rfl⟩)
   refine ok_of (by rfl) (by simp [restB, outE, nothingB, outR]) ?_
   have h2' : (s.ps.getD p.toNat dp).out = false := by simpa using h2
   unfold fitB outE outFitsB
   dsimp only
   rw [h1, h2']
   rfl
 ·rw [if_neg h1]; exact .inl rfl
theorem change_good (s : Stt) (f n b : Int) (l : List Int) : Good s l (changeO s f n b) := by
 unfold changeO
 refine ⟨fun h => by rw [if_neg h], fun h => ?_⟩
 rw [if_pos h]
 cases hq : chP s f n with
 | none => exact .inl rfl
 | some r =>
  dsimp only
  rw [one_is hq]
  by_cases he : r.2 = chNow r.2 b
  ·rw [if_pos he]; exact .inr (.inl rfl)
  ·rw [if_neg he]
   exact .inr (.inr ⟨_, rfl, set_fits hq (now_stat _ _) he, .inl (chP_at hq h).1⟩)
theorem ask_good (s : Stt) (d : DoT) : Good s d.ord (askO s d) := by
 unfold askO
 split
 ·exact move_good _ _ _ _ _
 split
 ·exact change_good _ _ _ _ _
 split
 ·exact shuf_good _ _ _
 split
 ·exact draw_good _ _ _
 ·exact out_good _ _ _
end DE
end Go.Proofs.YtodhjjeagmjhdaaGreatDoor
namespace Go.Proofs.YtodhjjeagmjhdaaGreatDoor
open Go.RowKit
attribute [local go_sem ↓] Go.wp_at_zero Go.wp_at_succ
namespace DE
open Go.Proofs.YtodhjjeagmjhdaaGreatDoor.ST
set_option maxRecDepth 100000 in
set_option maxHeartbeats 4000000 in
theorem asked_ (v vo : Value) (s : Stt) (d : DoT) (w : World) (hs : StL w v s) (hsm : Small s) (ho : IL w vo d.ord) (hln : d.ord.length <= 4294967296) (hb1 : -9223372036854775808 <= d.by_) (hb2 : d.by_ <= 9223372036854775807) : Calls Tryz.prog 31 #[.agg (doc d vo), v] w (DeV w (askO s d)) := by
 obtain ⟨Post, hPost⟩ : ∃ P : Ending -> World -> Prop, P = DeV w (askO s d) := ⟨_, rfl⟩
 rw [<- hPost]
 have HP : Hid (Post = DeV w (askO s d)) := hPost
 have H0 : Hid (∀ W, Up w W -> Calls Tryz.prog 83 #[v, .int .i64 d.number, .int .i64 d.zone, .bool d.first] W (DeV W (moveO s d.number d.zone d.first))) := fun W u => move_ v s _ _ _ W (hs.up u) hsm
 have H1 : Hid (∀ W, Up w W -> Calls Tryz.prog 84 #[v, .int .i8 d.field, .int .i64 d.number, .int .i64 d.by_] W (DeV W (changeO s d.field d.number d.by_))) := fun W u => change_ v s _ _ _ W (hs.up u) hsm hb1 hb2
 have H2 : Hid (∀ W, Up w W -> Calls Tryz.prog 85 #[v, .int .i64 d.zone, vo] W (DeV W (shufO s d.zone d.ord))) := fun W u => shuffle_ v vo s _ _ W (hs.up u) hsm (ho.up u) hln
 have H3 : Hid (∀ W, Up w W -> Calls Tryz.prog 74 #[v, .int .i64 d.number] W (DeV W (drawO s d.number))) := fun W u => draw_ v s _ W (hs.up u) hsm
 have H4 : Hid (∀ W, Up w W -> Calls Tryz.prog 86 #[v, .int .i64 d.number] W (DeV W (outO s d.number))) := fun W u => out_ v s _ W (hs.up u) hsm
 have HK : Hid (∀ (W W' : World) (r : Int × Option Ev) (x : Ending), Up w W -> DeV W r x W' -> ∃ v', x = .returned (.tuple #[v', .int .i64 r.1]) /\ DL w.heap.size W' v' r.2 /\ Up w W') := fun W W' r x u ⟨v', h1, h2, h3⟩ => ⟨v', h1, dl_less h2 u.size, u.trans h3⟩
 unfold askO at HP
 obtain ⟨oa, ok, rfl, -, -⟩ := il_at ho
 obtain ⟨vp, vc, vz, hv, h1, h2, h3⟩ := hs
 obtain ⟨a1, k1, rfl, -, -⟩ := lc_at h1
 obtain ⟨a2, k2, rfl, -, -⟩ := lc_at h2
 obtain ⟨a3, k3, rfl, -, -⟩ := zl_at h3
 unfold sv at hv
 clear h1 h2 h3 hPost ho hln hb1 hb2
 subst hv
 unfold doc
 generalize d.ord.length = n at *
 by_cases e0 : d.kind = 0
 ·rw [if_pos e0] at HP
  have f0 : d.kind = 0 := e0
  rw [f0]
  clear e0
  clear H1 H2 H3 H4
  go_enter Tryz.func31, Tryz.ntmps31
  go_wp2_with fail
  refine Calls.mono (H0.out _ (((Up.refl _).alloc _).alloc _)) ?_
  rintro r W1 hd
  obtain ⟨v', rfl, dl, u⟩ := HK.out _ _ _ _ (((Up.refl _).alloc _).alloc _) hd
  have HD : Hid _ := And.intro dl u
  clear hd dl u HK
  go_wp2
  rw [HP.out]
  exact ⟨_, rfl, HD.out.1, HD.out.2⟩
 ·rw [if_neg e0] at HP
  have f0 : (d.kind == 0) = false := beq_eq_false_iff_ne.2 e0
  by_cases e1 : d.kind = 1
  ·rw [if_pos e1] at HP
   have f1 : d.kind = 1 := e1
   rw [f1]
   clear e1
   clear H0 H2 H3 H4
   go_enter Tryz.func31, Tryz.ntmps31
   go_wp2_with fail
   refine Calls.mono (H1.out _ (((Up.refl _).alloc _).alloc _)) ?_
   rintro r W1 hd
   obtain ⟨v', rfl, dl, u⟩ := HK.out _ _ _ _ (((Up.refl _).alloc _).alloc _) hd
   have HD : Hid _ := And.intro dl u
   clear hd dl u HK
   go_wp2
   rw [HP.out]
   exact ⟨_, rfl, HD.out.1, HD.out.2⟩
  ·rw [if_neg e1] at HP
   have f1 : (d.kind == 1) = false := beq_eq_false_iff_ne.2 e1
   by_cases e2 : d.kind = 2
   ·rw [if_pos e2] at HP
    have f2 : d.kind = 2 := e2
    rw [f2]
    clear e2
    clear H0 H1 H3 H4
    go_enter Tryz.func31, Tryz.ntmps31
    go_wp2_with fail
    refine Calls.mono (H2.out _ (((Up.refl _).alloc _).alloc _)) ?_
    rintro r W1 hd
    obtain ⟨v', rfl, dl, u⟩ := HK.out _ _ _ _ (((Up.refl _).alloc _).alloc _) hd
    have HD : Hid _ := And.intro dl u
    clear hd dl u HK
    go_wp2
    rw [HP.out]
    exact ⟨_, rfl, HD.out.1, HD.out.2⟩
   ·rw [if_neg e2] at HP
    have f2 : (d.kind == 2) = false := beq_eq_false_iff_ne.2 e2
    by_cases e3 : d.kind = 3
    ·rw [if_pos e3] at HP
     have f3 : d.kind = 3 := e3
     rw [f3]
     clear e3
     clear H0 H1 H2 H4
     go_enter Tryz.func31, Tryz.ntmps31
     go_wp2_with fail
     refine Calls.mono (H3.out _ (((Up.refl _).alloc _).alloc _)) ?_
     rintro r W1 hd
     obtain ⟨v', rfl, dl, u⟩ := HK.out _ _ _ _ (((Up.refl _).alloc _).alloc _) hd
     have HD : Hid _ := And.intro dl u
     clear hd dl u HK
     go_wp2
     rw [HP.out]
     exact ⟨_, rfl, HD.out.1, HD.out.2⟩
    ·rw [if_neg e3] at HP
     have f3 : (d.kind == 3) = false := beq_eq_false_iff_ne.2 e3
     clear H0 H1 H2 H3
     go_enter Tryz.func31, Tryz.ntmps31
     go_wp2_with fail
     refine Calls.mono (H4.out _ (((Up.refl _).alloc _).alloc _)) ?_
     rintro r W1 hd
     obtain ⟨v', rfl, dl, u⟩ := HK.out _ _ _ _ (((Up.refl _).alloc _).alloc _) hd
     have HD : Hid _ := And.intro dl u
     clear hd dl u HK
     go_wp2
     rw [HP.out]
     exact ⟨_, rfl, HD.out.1, HD.out.2⟩
end DE
end Go.Proofs.YtodhjjeagmjhdaaGreatDoor
