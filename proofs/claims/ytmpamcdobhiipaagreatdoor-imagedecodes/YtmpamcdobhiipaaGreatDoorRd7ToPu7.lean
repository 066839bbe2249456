/-
  Decode: a reader in memory, and what stays.
-/
import Derived.Test.YtmpamcdobhiipaaGreatDoorMk7Q
namespace Go.Proofs.YtmpamcdobhiipaaGreatDoor
open Go.RowKit
attribute [local go_sem ↓] Go.wp_at_zero Go.wp_at_succ

namespace IM
open Go.Proofs.YtmpamcdobhiipaaGreatDoor.ST
/- the reader at block rb holds the cells C; its bytes lie in memory older than w0's end -/
structure RD (w0 : World) (rb : Nat) (vb : Value) (B : List Int) (at_ : Nat) (C : Array Value) (W : World) : Prop where
  hp : W.heap[rb]? = some (.cells C 69 (0, 0))
  sz : C.size = 9
  v0 : C[0]? = some vb
  v1 : C[1]? = some (.int .i64 at_)
  up : Up w0 W
  le : w0.heap.size ≤ rb
  bl : BL w0 vb B
  byt : Byt B
  len : B.length ≤ 4611686018427387904
  at_le : at_ ≤ B.length
theorem BL.up {w W : World} {v : Value} {B : List Int} (h : BL w v B) (u : Up w W) : BL W v B := by
  obtain ⟨h1, a, cap, h2, h3, h4⟩ := h
  refine ⟨h1, a, cap, h2, h3, fun hn => ?_⟩
  obtain ⟨b, off, h5, h6⟩ := h4 hn
  refine ⟨b, off, h5, fun j hj => ?_⟩
  have h7 := h6 j hj
  rw [bvs_at (by omega)] at h7 ⊢
  exact u.cell h7
theorem RD.rr {w0 : World} {rb : Nat} {vb : Value} {B : List Int} {at_ : Nat} {C : Array Value} {W : World} (h : RD w0 rb vb B at_ C W) : RR rb vb B at_ W :=
  ⟨by simp only [World.cell?, h.hp]; exact h.v0, by simp only [World.cell?, h.hp]; exact h.v1, seven_f h.hp 1, h.bl.up h.up, h.byt, h.len, h.at_le⟩
/- what is not in X stays -/
def Kb (X : Nat → Prop) (w w' : World) : Prop := (∀ g o, w.heap[g]? = some o → ¬ X g → w'.heap[g]? = some o) ∧ w.heap.size ≤ w'.heap.size
theorem Kb.refl (X : Nat → Prop) (w : World) : Kb X w w := ⟨fun _ _ h _ => h, Nat.le_refl _⟩
theorem Kb.trans {X : Nat → Prop} {a b c : World} (h : Kb X a b) (k : Kb X b c) : Kb X a c := ⟨fun g o hg hx => k.1 g o (h.1 g o hg hx) hx, Nat.le_trans h.2 k.2⟩
theorem Kb.more {X Y : Nat → Prop} {a b : World} (h : Kb X a b) (k : ∀ g, X g → Y g) : Kb Y a b := ⟨fun g o hg hx => h.1 g o hg (fun hy => hx (k g hy)), h.2⟩
theorem Kb.of_up {X : Nat → Prop} {a b : World} (h : Up a b) : Kb X a b := ⟨fun _ _ hg _ => h.heap hg, h.size⟩
theorem Kb.set {X : Nat → Prop} {w : World} {g j : Nat} {v : Value} (k : Nat) (h : X g) : Kb X w ((w.drewN k).setCell ⟨g, j, none⟩ v) :=
  ⟨fun x o hx hn => set_other (W := w.drewN k) hx (fun e => hn (by rw [e]; exact h)), by simp [World.setCell]⟩
theorem RD.drew {w0 : World} {rb : Nat} {vb : Value} {B : List Int} {at_ : Nat} {C : Array Value} {W : World} (h : RD w0 rb vb B at_ C W) (k : Nat) : RD w0 rb vb B at_ C (W.drewN k) :=
  ⟨h.hp, h.sz, h.v0, h.v1, h.up.drewN k, h.le, h.bl, h.byt, h.len, h.at_le⟩
theorem RD.go {w0 : World} {rb : Nat} {vb : Value} {B : List Int} {at_ : Nat} {C : Array Value} {W : World} (h : RD w0 rb vb B at_ C W) (k n : Nat) (hn : n ≤ B.length) : RD w0 rb vb B n (C.setIfInBounds 1 (.int .i64 (n : Int))) ((W.drewN k).setCell ⟨rb, 1, none⟩ (.int .i64 (n : Int))) :=
  ⟨set_cells (W := W.drewN k) h.hp, by simpa using h.sz, by rw [Array.getElem?_setIfInBounds_ne (by decide)]; exact h.v0, by
    have := h.sz
    rw [Array.getElem?_setIfInBounds_self_of_lt (by omega)], Up.set (h.up.drewN k) _ _ h.le, h.le, h.bl, h.byt, h.len, hn⟩
theorem RD.other {w0 : World} {rb : Nat} {vb : Value} {B : List Int} {at_ : Nat} {C : Array Value} {W : World} (h : RD w0 rb vb B at_ C W) (g j : Nat) (v : Value) (hg : g ≠ rb) (hl : w0.heap.size ≤ g) : RD w0 rb vb B at_ C (W.setCell ⟨g, j, none⟩ v) :=
  ⟨set_other h.hp hg.symm, h.sz, h.v0, h.v1, Up.set h.up _ _ hl, h.le, h.bl, h.byt, h.len, h.at_le⟩
/- the bytes of the mark -/
def mok (B : List Int) (at_ : Nat) : Bool := decide (at_ < B.length) && decide (B.getD at_ 0 = mk.getD at_ 0)
theorem markByte_ (rb : Nat) (vb : Value) (B : List Int) (at_ : Nat) (w : World) (h : RR rb vb B at_ w) (h5 : at_ < 5) :
    Calls Tryz.prog 63 #[.pointer (some ⟨rb, 0, none⟩)] w fun x w' => x = .returned (.bool (mok B at_)) ∧ ∃ k, w' = if mok B at_ = true then (w.drewN k).setCell ⟨rb, 1, none⟩ (.int .i64 ((at_ + 1 : Nat) : Int)) else w.drewN k := by
  obtain ⟨c0, c1, fz, hbl, hby, hlen, hat⟩ := h
  obtain ⟨a, cap, rfl, hc⟩ := byte_at hbl
  by_cases hlt : at_ < B.length
  · obtain ⟨b, off, rfl, hcell⟩ := hc at_ hlt
    by_cases hb : B.getD at_ 0 = mk.getD at_ 0
    · have hk : mok B at_ = true := by unfold mok; rw [decide_eq_true hlt, decide_eq_true hb]; rfl
      rw [hk]
      simp only [↓reduceIte]
      match at_, h5 with
      | 0, _ => exact mark0_good rb b off B.length cap _ w c0 c1 fz hlt hcell hb
      | 1, _ => exact mark1_good rb b off B.length cap _ w c0 c1 fz hlt hcell hb
      | 2, _ => exact mark2_good rb b off B.length cap _ w c0 c1 fz hlt hcell hb
      | 3, _ => exact mark3_good rb b off B.length cap _ w c0 c1 fz hlt hcell hb
      | 4, _ => exact mark4_good rb b off B.length cap _ w c0 c1 fz hlt hcell hb
    · have hk : mok B at_ = false := by unfold mok; rw [decide_eq_true hlt, decide_eq_false hb]; rfl
      rw [hk]
      simp only [Bool.false_eq_true, ↓reduceIte]
      match at_, h5 with
      | 0, _ => exact mark0_bad rb b off B.length cap _ w c0 c1 hlt hcell hb
      | 1, _ => exact mark1_bad rb b off B.length cap _ w c0 c1 hlt hcell hb
      | 2, _ => exact mark2_bad rb b off B.length cap _ w c0 c1 hlt hcell hb
      | 3, _ => exact mark3_bad rb b off B.length cap _ w c0 c1 hlt hcell hb
      | 4, _ => exact mark4_bad rb b off B.length cap _ w c0 c1 hlt hcell hb
  · have hk : mok B at_ = false := by unfold mok; rw [decide_eq_false hlt]; rfl
    rw [hk]
    simp only [Bool.false_eq_true, ↓reduceIte]
    obtain rfl : at_ = B.length := by omega
    exact mark_end rb a B.length cap w c0 c1
end IM
end Go.Proofs.YtmpamcdobhiipaaGreatDoor
/-
  Decode: numbers of four bytes, put where they belong.
-/
namespace Go.Proofs.YtmpamcdobhiipaaGreatDoor
open Go.RowKit
attribute [local go_sem ↓] Go.wp_at_zero Go.wp_at_succ

namespace IM
open Go.Proofs.YtmpamcdobhiipaaGreatDoor.ST
def ds (D : Array Value) (j0 : Nat) (f : Nat → Value) : Nat → Array Value
  | 0 => D
  | i + 1 => (ds D j0 f i).setIfInBounds (j0 + i) (f i)
theorem ds_size (D : Array Value) (j0 : Nat) (f : Nat → Value) : ∀ i, (ds D j0 f i).size = D.size
  | 0 => rfl
  | i + 1 => by simp [ds, ds_size D j0 f i]
theorem ds_far (D : Array Value) (j0 : Nat) (f : Nat → Value) : ∀ i j, j0 + i ≤ j → (ds D j0 f i)[j]? = D[j]?
  | 0, _, _ => rfl
  | i + 1, j, h => by
    rw [ds, Array.getElem?_setIfInBounds_ne (by omega)]
    exact ds_far D j0 f i j (by omega)
def sv4 (B : List Int) (at_ i : Nat) : Value := .int .i32 (sg (rv B (at_ + 4 * i) 4))
theorem set_same {C : Array Value} {j : Nat} {x : Value} (h : C[j]? = some x) : C.setIfInBounds j x = C := by
  obtain ⟨hj, he⟩ := Array.getElem?_eq_some_iff.1 h
  apply Array.ext
  · simp
  · intro i h1 h2
    by_cases e : j = i
    · subst e
      rw [Array.getElem_setIfInBounds_self, he]
    · rw [Array.getElem_setIfInBounds_ne (by simpa using h1) e]
theorem set_set (C : Array Value) (j : Nat) (x y : Value) : (C.setIfInBounds j x).setIfInBounds j y = C.setIfInBounds j y := by simp
theorem w32 {x : Int} (h : 0 ≤ x ∧ x < 4294967296) : IntKind.i32.wrap x = sg x := by
  rw [IntKind.wrap_i32]
  unfold sg
  split <;> omega
/- what signed leaves: i numbers were there -/
def SgP (w0 : World) (rb : Nat) (vb : Value) (B : List Int) (at_ : Nat) (C : Array Value) (g j0 : Nat) (D : Array Value) (T : TypeId) (n : Nat) (w : World) (x : Ending) (w' : World) : Prop :=
  ∃ i, i ≤ n ∧ at_ + 4 * i ≤ B.length ∧ x = .returned (.bool (decide (i = n))) ∧ (i < n → B.length < at_ + 4 * i + 4) ∧ RD w0 rb vb B (at_ + 4 * i) (C.setIfInBounds 1 (.int .i64 ((at_ + 4 * i : Nat) : Int))) w' ∧ w'.heap[g]? = some (.cells (ds D j0 (sv4 B at_) i) T (0, 0)) ∧ Kb (fun x => x = rb ∨ x = g) w w'
set_option maxRecDepth 100000 in
set_option maxHeartbeats 2000000 in
theorem signed_ (w0 : World) (rb : Nat) (vb : Value) (B : List Int) (at_ : Nat) (C : Array Value) (w : World) (h : RD w0 rb vb B at_ C w) (tb g j0 n : Nat) (D P : Array Value) (T TT : TypeId) (hg : w.heap[g]? = some (.cells D T (0, 0))) (hgr : g ≠ rb) (hgl : w0.heap.size ≤ g)
    (ht : w.heap[tb]? = some (.cells P TT (0, 0))) (hP : ∀ i, i < n → P[i]? = some (.pointer (some ⟨g, j0 + i, none⟩))) (htr : tb ≠ rb) (htg : tb ≠ g) (hD : ∀ i, i < n → ∃ z, D[j0 + i]? = some (.int .i32 z)) (hn : n ≤ 1000) :
    Calls Tryz.prog 88 #[.pointer (some ⟨rb, 0, none⟩), .slice (some ⟨tb, 0, none⟩) n n] w (SgP w0 rb vb B at_ C g j0 D T n w) := by
  obtain ⟨Post, hPost⟩ : ∃ P : Ending → World → Prop, P = SgP w0 rb vb B at_ C g j0 D T n w := ⟨_, rfl⟩
  rw [← hPost]
  have HPo : Hid (Post = _) := hPost
  have HR : Hid (RD w0 rb vb B (at_ + 4 * 0) (C.setIfInBounds 1 (.int .i64 ((at_ + 4 * 0 : Nat) : Int))) w) := by
    unfold Hid
    rw [Nat.mul_zero, Nat.add_zero, set_same h.v1]
    exact h
  have HG : Hid _ := hg
  have HT : Hid _ := ht
  have HPP : Hid _ := hP
  have HD : Hid _ := hD
  have hat := h.at_le
  clear h hg ht hP hD hPost
  go_enter Tryz.func88, Tryz.ntmps88
  go_wp2_with fail
  go_loopw [11] (fun s11 W => ∃ i : Nat, i ≤ n ∧ s11 = .int .i64 i ∧ at_ + 4 * i ≤ B.length ∧ RD w0 rb vb B (at_ + 4 * i) (C.setIfInBounds 1 (.int .i64 ((at_ + 4 * i : Nat) : Int))) W ∧ W.heap[g]? = some (.cells (ds D j0 (sv4 B at_) i) T (0, 0)) ∧ Kb (fun x => x = rb ∨ x = g) w W) (fun s11 _ => n - (intOf s11).toNat)
  case atStart => exact ⟨0, Nat.zero_le _, rfl, by omega, HR.out, HG.out, Kb.refl _ _⟩
  case round =>
    obtain ⟨i, hi, rfl, hle, h1, h2, h3⟩ := hrel
    clear HR
    by_cases hlt : i < n
    · have hlt2 : (i : Int) < (n : Int) := by omega
      have y0 : wr.cell? ⟨tb, i, none⟩ = some (.pointer (some ⟨g, j0 + i, none⟩)) := by
        have := h3.1 tb _ HT.out (by rintro (e | e); exact htr e; exact htg e)
        simp only [World.cell?, this]
        exact HPP.out i hlt
      have HBI : Hid _ := bits_ rb vb B (at_ + 4 * i) 4 wr h1.rr (by decide) (by decide)
      have hrv := rv_in B h1.byt (at_ + 4 * i) 4 (by decide)
      have e32 := w32 hrv
      have H1 : Hid _ := h1
      have H2 : Hid _ := h2
      have H3 : Hid _ := h3
      clear h1 h2 h3 hrv
      go_wp2_with fail
      refine Calls.mono HBI.out ?_
      rintro r W1 ⟨rfl, k, hW1⟩
      clear HBI y0
      unfold rok
      unfold rw_ at hW1
      by_cases hok : at_ + 4 * i + 4 ≤ B.length
      · rw [if_pos hok] at hW1
        rw [decide_eq_true hok]
        have R1 : RD w0 rb vb B (at_ + 4 * (i + 1)) (C.setIfInBounds 1 (.int .i64 ((at_ + 4 * (i + 1) : Nat) : Int))) W1 := by
          have := H1.out.go k (at_ + 4 * i + 4) hok
          rw [set_set, ← hW1] at this
          exact this
        have K1 : Kb (fun x => x = rb ∨ x = g) w W1 := by
          rw [hW1]
          exact Kb.trans H3.out (Kb.set k (.inl rfl))
        have G1 : W1.heap[g]? = some (.cells (ds D j0 (sv4 B at_) i) T (0, 0)) := by
          rw [hW1]
          exact set_other (W := wr.drewN k) H2.out hgr
        obtain ⟨z, hz⟩ := HD.out i hlt
        have z0 : W1.cell? ⟨g, j0 + i, none⟩ = some (.int .i32 z) := by
          simp only [World.cell?, G1]
          have := ds_far D j0 (sv4 B at_) i (j0 + i) (Nat.le_refl _)
          rw [hz] at this
          exact this
        have z1 := seven_f G1 (j0 + i)
        have HF : Hid (RD w0 rb vb B (at_ + 4 * (i + 1)) (C.setIfInBounds 1 (.int .i64 ((at_ + 4 * (i + 1) : Nat) : Int))) (W1.setCell ⟨g, j0 + i, none⟩ (sv4 B at_ i)) ∧ (W1.setCell ⟨g, j0 + i, none⟩ (sv4 B at_ i)).heap[g]? = some (.cells (ds D j0 (sv4 B at_) (i + 1)) T (0, 0)) ∧ Kb (fun x => x = rb ∨ x = g) w (W1.setCell ⟨g, j0 + i, none⟩ (sv4 B at_ i))) :=
          ⟨R1.other g _ _ hgr hgl, set_cells G1, K1.trans (Kb.set (w := W1) 0 (.inr rfl))⟩
        unfold sv4 at HF
        clear hW1 R1 K1 G1 hz
        go_wp2
        go_roundw
        case rel => exact ⟨i + 1, by omega, by go_num, by omega, HF.out⟩
        case measure => simp [intOf]; omega
      · rw [if_neg hok] at hW1
        rw [decide_eq_false hok]
        have HF : Hid (SgP w0 rb vb B at_ C g j0 D T n w (.returned (.bool false)) W1) := by
          refine ⟨i, hi, hle, by rw [decide_eq_false (by omega)], fun _ => by omega, ?_, ?_, ?_⟩
          · rw [hW1]; exact H1.out.drew k
          · rw [hW1]; exact H2.out
          · rw [hW1]; exact Kb.trans H3.out (Kb.of_up ((Up.refl _).drewN k))
        clear hW1
        go_wp2
        rw [HPo.out]
        exact HF.out
    · have hlt2 : ¬ (i : Int) < (n : Int) := by omega
      obtain rfl : i = n := by omega
      have HF : Hid (SgP w0 rb vb B at_ C g j0 D T i w (.returned (.bool true)) wr) := ⟨i, Nat.le_refl _, hle, by simp, fun h => absurd h (Nat.lt_irrefl _), h1, h2, h3⟩
      clear h1 h2 h3
      go_wp2
      rw [HPo.out]
      exact HF.out
end IM
end Go.Proofs.YtmpamcdobhiipaaGreatDoor
/-
  Decode, no program: what is read at a place.
-/
namespace Go.Proofs.YtmpamcdobhiipaaGreatDoor
namespace IM
theorem drop_cons {B : List Int} {i : Nat} (h : i < B.length) : B.drop i = B.getD i 0 :: B.drop (i + 1) := by
  rw [List.drop_eq_getElem_cons h]
  simp [List.getD, h]
theorem num1_at (B : List Int) (i : Nat) : num1 (B.drop i) = if i + 1 ≤ B.length then .ok (rv B i 1, B.drop (i + 1)) else .error (B.length - i) := by
  by_cases h : i + 1 ≤ B.length
  · rw [if_pos h]
    unfold rv
    rw [if_pos h, drop_cons (i := i) (by omega)]
    simp [num1, vl]
  · rw [if_neg h, List.drop_eq_nil_of_le (by omega)]
    simp [num1]
    omega
theorem num2_at (B : List Int) (i : Nat) : num2 (B.drop i) = if i + 2 ≤ B.length then .ok (rv B i 2, B.drop (i + 2)) else .error (B.length - i) := by
  by_cases h : i + 2 ≤ B.length
  · rw [if_pos h]
    unfold rv
    rw [if_pos h, drop_cons (by omega), drop_cons (i := i + 1) (by omega)]
    simp [num2, vl]
  · rw [if_neg h]
    by_cases h1 : i + 1 ≤ B.length
    · rw [drop_cons (by omega), List.drop_eq_nil_of_le (by omega)]
      simp [num2]
      omega
    · rw [List.drop_eq_nil_of_le (by omega)]
      simp [num2]
      omega
theorem sg4_at (B : List Int) (i : Nat) : sg4 (B.drop i) = if i + 4 ≤ B.length then .ok (sg (rv B i 4), B.drop (i + 4)) else .error (B.length - i) := by
  by_cases h : i + 4 ≤ B.length
  · rw [if_pos h]
    unfold rv
    rw [if_pos h, drop_cons (by omega), drop_cons (i := i + 1) (by omega), drop_cons (i := i + 1 + 1) (by omega), drop_cons (i := i + 1 + 1 + 1) (by omega)]
    simp only [sg4, List.take_succ_cons, List.take_zero, vl, List.foldl_cons, List.foldl_nil]
    congr 3
    omega
  · rw [if_neg h]
    have hl : (B.drop i).length = B.length - i := by simp
    have hl4 : (B.drop i).length < 4 := by omega
    rw [← hl]
    match B.drop i, hl4 with
    | [], _ => rfl
    | [_], _ => rfl
    | [_, _], _ => rfl
    | [_, _, _], _ => rfl
theorem flag_at (B : List Int) (i : Nat) (hi : i ≤ B.length) : flag (B.drop i) = if fok B i = true then .ok (B.getD i 0 == 1, B.drop (i + 1)) else .error (B.length - i) := by
  by_cases h : i < B.length
  · rw [drop_cons h]
    unfold fok
    rw [decide_eq_true h]
    by_cases h1 : B.getD i 0 ≤ 1
    · rw [decide_eq_true h1]
      simp only [flag, Bool.and_self, ↓reduceIte]
      rw [if_neg (by omega)]
      rfl
    · rw [decide_eq_false h1]
      simp only [flag, Bool.and_false, Bool.false_eq_true, ↓reduceIte]
      rw [if_pos (by omega), List.length_drop]
      congr 1
      omega
  · unfold fok
    rw [decide_eq_false h, List.drop_eq_nil_of_le (by omega)]
    simp [flag]
    omega
theorem mkb_at (B : List Int) (i : Nat) (hi : i ≤ B.length) : mkb (mk.getD i 0) (B.drop i) = if mok B i = true then .ok ((), B.drop (i + 1)) else .error (B.length - i) := by
  by_cases h : i < B.length
  · rw [drop_cons h]
    unfold mok
    rw [decide_eq_true h]
    by_cases h1 : B.getD i 0 = mk.getD i 0
    · rw [decide_eq_true h1]
      simp only [mkb, Bool.and_self, ↓reduceIte]
      rw [if_pos h1]
    · rw [decide_eq_false h1]
      simp only [mkb, Bool.and_false, Bool.false_eq_true, ↓reduceIte]
      rw [if_neg h1, List.length_drop]
      congr 1
      omega
  · unfold mok
    rw [decide_eq_false h, List.drop_eq_nil_of_le (by omega)]
    simp [mkb]
    omega
/- one more of a row of things -/
theorem rep_snoc {α : Type} (p : Rdr α) : ∀ (n : Nat) (l : List Int), rep p (n + 1) l = bnd (rep p n) (fun xs => bnd p fun x => ret (xs ++ [x])) l
  | 0, l => by
    simp only [rep, bnd, ret]
    cases p l with
    | error r => rfl
    | ok v => rfl
  | n + 1, l => by
    rw [rep]
    simp only [bnd]
    cases hp : p l with
    | error r =>
      simp only [rep, bnd, hp]
    | ok v =>
      obtain ⟨x, l1⟩ := v
      simp only
      rw [rep_snoc p n l1]
      simp only [rep, bnd, ret, hp]
      cases rep p n l1 with
      | error r => rfl
      | ok u =>
        obtain ⟨xs, l2⟩ := u
        simp only
        cases p l2 with
        | error r => rfl
        | ok y => rfl
end IM
end Go.Proofs.YtmpamcdobhiipaaGreatDoor
