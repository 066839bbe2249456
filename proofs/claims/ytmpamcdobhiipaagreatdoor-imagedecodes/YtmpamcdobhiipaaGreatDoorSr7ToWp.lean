/-
  Decode: a number of four bytes that belongs to the reader itself.
-/
import Derived.Test.YtmpamcdobhiipaaGreatDoorCd7Q
import Derived.Test.YtmpamcdobhiipaaGreatDoorWhToCt
namespace Go.Proofs.YtmpamcdobhiipaaGreatDoor
open Go.RowKit
attribute [local go_sem ↓] Go.wp_at_zero Go.wp_at_succ

namespace IM
open Go.Proofs.YtmpamcdobhiipaaGreatDoor.ST
def SrP (w0 : World) (rb : Nat) (vb : Value) (B : List Int) (at_ : Nat) (C : Array Value) (w : World) (x : Ending) (w' : World) : Prop :=
  if at_ + 4 ≤ B.length then x = .returned (.bool true) ∧ RD w0 rb vb B (at_ + 4) ((C.setIfInBounds 1 (.int .i64 ((at_ + 4 : Nat) : Int))).setIfInBounds 5 (.int .i32 (sg (rv B at_ 4)))) w' ∧ Kb (fun x => x = rb) w w'
  else x = .returned (.bool false) ∧ RD w0 rb vb B at_ C w' ∧ Kb (fun x => x = rb) w w'
set_option maxRecDepth 100000 in
set_option maxHeartbeats 2000000 in
theorem signedR_ (w0 : World) (rb : Nat) (vb : Value) (B : List Int) (at_ : Nat) (C : Array Value) (w : World) (h : RD w0 rb vb B at_ C w) (tb : Nat) (TT : TypeId) (ht : w.heap[tb]? = some (.cells #[.pointer (some ⟨rb, 5, none⟩)] TT (0, 0))) (z : Int) (hz : C[5]? = some (.int .i32 z)) :
    Calls Tryz.prog 88 #[.pointer (some ⟨rb, 0, none⟩), .slice (some ⟨tb, 0, none⟩) 1 1] w (SrP w0 rb vb B at_ C w) := by
  obtain ⟨Post, hPost⟩ : ∃ P : Ending → World → Prop, P = SrP w0 rb vb B at_ C w := ⟨_, rfl⟩
  rw [← hPost]
  have HPo : Hid (Post = _) := hPost
  have HBI : Hid _ := bits_ rb vb B at_ 4 w h.rr (by decide) (by decide)
  have e32 := w32 (rv_in B h.byt at_ 4 (by decide))
  have y0 : w.cell? ⟨tb, 0, none⟩ = some (.pointer (some ⟨rb, 5, none⟩)) := by simp only [World.cell?, ht]; rfl
  have H : Hid _ := h
  clear h hPost ht
  go_enter Tryz.func88, Tryz.ntmps88
  go_wp2_with fail
  refine wp_loop_rounds 2 ?_
  rw [rounds_succ]
  go_wp2_with fail
  refine Calls.mono HBI.out ?_
  rintro r W1 ⟨rfl, k, hW1⟩
  clear HBI y0
  unfold rok
  unfold rw_ at hW1
  by_cases hok : at_ + 4 ≤ B.length
  · rw [if_pos hok] at hW1
    rw [decide_eq_true hok]
    have R1 : RD w0 rb vb B (at_ + 4) (C.setIfInBounds 1 (.int .i64 ((at_ + 4 : Nat) : Int))) W1 := by rw [hW1]; exact H.out.go k (at_ + 4) hok
    have K1 : Kb (fun x => x = rb) w W1 := by rw [hW1]; exact Kb.set k rfl
    have z0 : W1.cell? ⟨rb, 5, none⟩ = some (.int .i32 z) := by
      simp only [World.cell?, R1.hp]
      have : (C.setIfInBounds 1 (.int .i64 ((at_ + 4 : Nat) : Int)))[5]? = some (.int .i32 z) := by rw [Array.getElem?_setIfInBounds_ne (by decide)]; exact hz
      exact this
    have z1 := seven_f R1.hp 5
    have HF : Hid (SrP w0 rb vb B at_ C w (.returned (.bool true)) (W1.setCell ⟨rb, 5, none⟩ (.int .i32 (sg (rv B at_ 4))))) := by
      unfold Hid SrP
      rw [if_pos hok]
      exact ⟨rfl, R1.put 5 _ (by decide), Kb.trans K1 (Kb.set (w := W1) 0 rfl)⟩
    clear hW1 R1 K1
    go_wp2_with fail
    rw [rounds_succ]
    go_wp2
    rw [HPo.out]
    exact HF.out
  · rw [if_neg hok] at hW1
    rw [decide_eq_false hok]
    have HF : Hid (SrP w0 rb vb B at_ C w (.returned (.bool false)) W1) := by
      unfold Hid SrP
      rw [if_neg hok, hW1]
      exact ⟨rfl, H.out.drew k, Kb.of_up ((Up.refl _).drewN k)⟩
    clear hW1
    go_wp2
    rw [HPo.out]
    exact HF.out
/- a number of one byte that belongs to the reader itself -/
theorem intoR_ (w0 : World) (rb : Nat) (vb : Value) (B : List Int) (at_ : Nat) (C : Array Value) (w : World) (h : RD w0 rb vb B at_ C w) (j : Nat) (hj : 2 ≤ j) (z : Int) (hz : C[j]? = some (.int .i64 z)) :
    Calls Tryz.prog 90 #[.pointer (some ⟨rb, 0, none⟩), .int .i64 1, .pointer (some ⟨rb, j, none⟩)] w fun x w' => x = .returned (.bool (rok B at_ 1)) ∧ Kb (fun x => x = rb) w w' ∧ if at_ + 1 ≤ B.length then RD w0 rb vb B (at_ + 1) ((C.setIfInBounds 1 (.int .i64 ((at_ + 1 : Nat) : Int))).setIfInBounds j (.int .i64 (rv B at_ 1))) w' else RD w0 rb vb B at_ (C.setIfInBounds j (.int .i64 (rv B at_ 1))) w' := by
  refine Calls.mono (into_ rb vb B at_ 1 rb j (.int .i64 z) w h.rr (by decide) (by decide) (fun k => ?_)) ?_
  · unfold rw_
    split
    · rename_i hok
      have R1 := h.go k (at_ + 1) hok
      have : (C.setIfInBounds 1 (.int .i64 ((at_ + 1 : Nat) : Int)))[j]? = some (.int .i64 z) := by rw [Array.getElem?_setIfInBounds_ne (by omega)]; exact hz
      exact ⟨by simp only [World.cell?, R1.hp]; exact this, seven_f R1.hp j⟩
    · have R1 := h.drew k
      exact ⟨by simp only [World.cell?, R1.hp]; exact hz, seven_f R1.hp j⟩
  · rintro x w' ⟨rfl, k, rfl⟩
    refine ⟨rfl, ?_, ?_⟩
    · unfold rw_
      split
      · exact Kb.trans (Kb.set (w := w) k rfl) (Kb.set (w := (w.drewN k).setCell ⟨rb, 1, none⟩ _) 0 rfl)
      · exact Kb.set (w := w) k rfl
    · unfold rw_
      split
      · rename_i hok
        exact (h.go k (at_ + 1) hok).put j _ hj
      · exact (h.drew k).put j _ hj
end IM
end Go.Proofs.YtmpamcdobhiipaaGreatDoor
/-
  Decode: what of a state is no list.
-/
namespace Go.Proofs.YtmpamcdobhiipaaGreatDoor
open Go.RowKit
attribute [local go_sem ↓] Go.wp_at_zero Go.wp_at_succ

namespace IM
open Go.Proofs.YtmpamcdobhiipaaGreatDoor.ST
theorem w8i {x : Int} (h : 0 ≤ x ∧ x < 256) : IntKind.i8.wrap x = i8 x := by
  simp [IntKind.wrap, IntKind.bits, IntKind.signed]
  unfold i8
  split <;> split <;> omega
theorem rv1_in (B : List Int) (hB : Byt B) (at_ : Nat) : 0 ≤ rv B at_ 1 ∧ rv B at_ 1 < 256 := by
  unfold rv
  split
  · have h1 := vl_lt 1 ((B.drop at_).take 1) (by rw [List.length_take, List.length_drop]; omega) (fun c hc => hB c (List.mem_of_mem_drop (List.mem_of_mem_take hc)))
    omega
  · omega
/- the reader's numbers -/
structure Fs (C C' : Array Value) (a b c d : Value) : Prop where
  s : C'.size = 9
  f5 : C'[5]? = some a
  f6 : C'[6]? = some b
  f7 : C'[7]? = some c
  f8 : C'[8]? = some d
  o : ∀ j, 2 ≤ j → j < 5 → C'[j]? = C[j]?
theorem Fs.set1 {C C' : Array Value} {a b c d : Value} (h : Fs C C' a b c d) (x : Value) : Fs C (C'.setIfInBounds 1 x) a b c d :=
  ⟨by simpa using h.s, by rw [Array.getElem?_setIfInBounds_ne (by decide)]; exact h.f5, by rw [Array.getElem?_setIfInBounds_ne (by decide)]; exact h.f6, by rw [Array.getElem?_setIfInBounds_ne (by decide)]; exact h.f7, by rw [Array.getElem?_setIfInBounds_ne (by decide)]; exact h.f8, fun j h1 h2 => by rw [Array.getElem?_setIfInBounds_ne (by omega)]; exact h.o j h1 h2⟩
theorem Fs.set5 {C C' : Array Value} {a b c d : Value} (h : Fs C C' a b c d) (x : Value) : Fs C (C'.setIfInBounds 5 x) x b c d :=
  ⟨by simpa using h.s, by rw [Array.getElem?_setIfInBounds_self_of_lt (by rw [h.s]; decide)], by rw [Array.getElem?_setIfInBounds_ne (by decide)]; exact h.f6, by rw [Array.getElem?_setIfInBounds_ne (by decide)]; exact h.f7, by rw [Array.getElem?_setIfInBounds_ne (by decide)]; exact h.f8, fun j h1 h2 => by rw [Array.getElem?_setIfInBounds_ne (by omega)]; exact h.o j h1 h2⟩
theorem Fs.set6 {C C' : Array Value} {a b c d : Value} (h : Fs C C' a b c d) (x : Value) : Fs C (C'.setIfInBounds 6 x) a x c d :=
  ⟨by simpa using h.s, by rw [Array.getElem?_setIfInBounds_ne (by decide)]; exact h.f5, by rw [Array.getElem?_setIfInBounds_self_of_lt (by rw [h.s]; decide)], by rw [Array.getElem?_setIfInBounds_ne (by decide)]; exact h.f7, by rw [Array.getElem?_setIfInBounds_ne (by decide)]; exact h.f8, fun j h1 h2 => by rw [Array.getElem?_setIfInBounds_ne (by omega)]; exact h.o j h1 h2⟩
theorem Fs.set7 {C C' : Array Value} {a b c d : Value} (h : Fs C C' a b c d) (x : Value) : Fs C (C'.setIfInBounds 7 x) a b x d :=
  ⟨by simpa using h.s, by rw [Array.getElem?_setIfInBounds_ne (by decide)]; exact h.f5, by rw [Array.getElem?_setIfInBounds_ne (by decide)]; exact h.f6, by rw [Array.getElem?_setIfInBounds_self_of_lt (by rw [h.s]; decide)], by rw [Array.getElem?_setIfInBounds_ne (by decide)]; exact h.f8, fun j h1 h2 => by rw [Array.getElem?_setIfInBounds_ne (by omega)]; exact h.o j h1 h2⟩
theorem Fs.set8 {C C' : Array Value} {a b c d : Value} (h : Fs C C' a b c d) (x : Value) : Fs C (C'.setIfInBounds 8 x) a b c x :=
  ⟨by simpa using h.s, by rw [Array.getElem?_setIfInBounds_ne (by decide)]; exact h.f5, by rw [Array.getElem?_setIfInBounds_ne (by decide)]; exact h.f6, by rw [Array.getElem?_setIfInBounds_ne (by decide)]; exact h.f7, by rw [Array.getElem?_setIfInBounds_self_of_lt (by rw [h.s]; decide)], fun j h1 h2 => by rw [Array.getElem?_setIfInBounds_ne (by omega)]; exact h.o j h1 h2⟩
/- what rest leaves -/
def RsP (w0 : World) (rb : Nat) (vb : Value) (B : List Int) (C : Array Value) (w : World) (r : Except Nat (Stt × List Int)) (x : Ending) (w' : World) : Prop := match r with
  | .ok (s, rest) => x = .returned (.bool true) ∧ ∃ C', RD w0 rb vb B (B.length - rest.length) C' w' ∧ (C'[5]? = some (.int .i32 s.turn) ∧ C'[6]? = some (.int .i64 s.whose) ∧ C'[7]? = some (.int .i8 s.fin) ∧ C'[8]? = some (.int .i64 s.winner)) ∧ (∀ j, 2 ≤ j → j < 5 → C'[j]? = C[j]?) ∧ Kb (fun x => x = rb) w w'
  | .error r => x = .returned (.bool false) ∧ ∃ C', RD w0 rb vb B (B.length - r) C' w'
set_option maxRecDepth 100000 in
set_option maxHeartbeats 2000000 in
theorem rest_ (w0 : World) (rb : Nat) (vb : Value) (B : List Int) (at_ : Nat) (C : Array Value) (w : World) (h : RD w0 rb vb B at_ C w) (y5 y6 y7 y8 : Int) (h5 : C[5]? = some (.int .i32 y5)) (h6 : C[6]? = some (.int .i64 y6)) (h7 : C[7]? = some (.int .i8 y7)) (h8 : C[8]? = some (.int .i64 y8)) (ps : List Ply) (cs : List Crd) (zs : List (List Int)) :
    Calls Tryz.prog 72 #[.pointer (some ⟨rb, 0, none⟩)] w (RsP w0 rb vb B C w (rdT ps cs zs (B.drop at_))) := by
  obtain ⟨Post, hPost⟩ : ∃ P : Ending → World → Prop, P = RsP w0 rb vb B C w (rdT ps cs zs (B.drop at_)) := ⟨_, rfl⟩
  rw [← hPost]
  have HPo : Hid (Post = _) := hPost
  clear hPost
  obtain ⟨W1, hW1⟩ : ∃ W1, (w.alloc (.cells #[.int .i64 0] 3)).alloc (.cells #[.pointer (some ⟨rb, 5, none⟩)] 161) = W1 := ⟨_, rfl⟩
  have g1 : W1.heap[w.heap.size]? = some (.cells #[.int .i64 0] 3 (0, 0)) := by rw [← hW1]; exact heap_alloc2_old _ _ _
  have t1 : W1.heap[w.heap.size + 1]? = some (.cells #[.pointer (some ⟨rb, 5, none⟩)] 161 (0, 0)) := by rw [← hW1]; exact heap_alloc2_new _ _ _
  have u1 : Up w W1 := by rw [← hW1]; exact ((Up.refl _).alloc _).alloc _
  have R1 : RD w0 rb vb B at_ C W1 := by rw [← hW1]; exact (h.alloc _).alloc _
  have hrl : rb < w.heap.size := (Array.getElem?_eq_some_iff.1 h.hp).1
  have hwl := h.up.size
  have hby := h.byt
  have HSG : Hid _ := signedR_ w0 rb vb B at_ C W1 R1 (w.heap.size + 1) _ t1 y5 h5
  have HKW : Hid (∀ W, Kb (fun x => x = rb ∨ x = w.heap.size) W1 W → Kb (fun x => x = rb) w W) := fun W k => ⟨fun g o hg hx => k.1 g o (u1.heap hg) (by
    rintro (e | e)
    · exact hx e
    · have := (Array.getElem?_eq_some_iff.1 hg).1; omega), Nat.le_trans u1.size k.2⟩
  have F0 : Fs C C (.int .i32 y5) (.int .i64 y6) (.int .i8 y7) (.int .i64 y8) := ⟨h.sz, h5, h6, h7, h8, fun _ _ _ => rfl⟩
  clear h t1 R1 u1 h5 h6 h7 h8
  go_enter Tryz.func72, Tryz.ntmps72
  go_wp2_with fail
  first | (refine Calls.mono HSG.out ?_) | (refine calls_world hW1 (Calls.mono HSG.out ?_))
  rintro r W2 hS
  clear HSG hW1
  unfold SrP at hS
  by_cases hk : at_ + 4 ≤ B.length
  · rw [if_pos hk] at hS
    obtain ⟨rfl, R2, K2⟩ := hS
    have G2 := K2.1 _ _ g1 (by omega)
    have K2 : Kb (fun x => x = rb ∨ x = w.heap.size) W1 W2 := K2.more (fun _ h => .inl h)
    have F2 := (F0.set1 (.int .i64 ((at_ + 4 : Nat) : Int))).set5 (.int .i32 (sg (rv B at_ 4)))
    obtain ⟨C2, hC2⟩ : ∃ C2, C2 = (C.setIfInBounds 1 (.int .i64 ((at_ + 4 : Nat) : Int))).setIfInBounds 5 (.int .i32 (sg (rv B at_ 4))) := ⟨_, rfl⟩
    rw [← hC2] at F2 R2
    have HRT : Hid (rdT ps cs zs (B.drop at_) = (bnd num1 fun b => bnd num1 fun c => bnd num1 fun d => ret ⟨ps, cs, zs, sg (rv B at_ 4), b, i8 c, d⟩) (B.drop (at_ + 4))) := by
      unfold Hid rdT
      rw [bnd_go (by rw [sg4_at, if_pos hk])]
    have HIN : Hid _ := intoR_ w0 rb vb B (at_ + 4) C2 W2 R2 6 (by decide) y6 F2.f6
    have e0 : W2.cell? ⟨w.heap.size, 0, none⟩ = some (.int .i64 0) := by simp only [World.cell?, G2]; rfl
    clear hC2 F0 R2
    go_wp2_with fail
    refine Calls.mono HIN.out ?_
    rintro r W3 ⟨rfl, K3, R3⟩
    have G3 := K3.1 _ _ G2 (by omega)
    have K3 := Kb.trans K2 (K3.more (fun _ h => .inl h))
    clear HIN K2 G2 e0
    have e0 : W3.cell? ⟨w.heap.size, 0, none⟩ = some (.int .i64 0) := by simp only [World.cell?, G3]; rfl
    unfold rok
    by_cases hk3 : at_ + 4 + 1 ≤ B.length
    · rw [if_pos hk3] at R3
      rw [decide_eq_true hk3]
      have F3 := (F2.set1 (.int .i64 ((at_ + 4 + 1 : Nat) : Int))).set6 (.int .i64 (rv B (at_ + 4) 1))
      obtain ⟨C3, hC3⟩ : ∃ C3, C3 = (C2.setIfInBounds 1 (.int .i64 ((at_ + 4 + 1 : Nat) : Int))).setIfInBounds 6 (.int .i64 (rv B (at_ + 4) 1)) := ⟨_, rfl⟩
      rw [← hC3] at F3 R3
      have HRT3 : Hid (rdT ps cs zs (B.drop at_) = (bnd num1 fun c => bnd num1 fun d => ret ⟨ps, cs, zs, sg (rv B at_ 4), rv B (at_ + 4) 1, i8 c, d⟩) (B.drop (at_ + 5))) := by
        unfold Hid
        rw [HRT.out, bnd_go (by rw [num1_at, if_pos hk3])]
      have HIN : Hid _ := into_ rb vb B (at_ + 5) 1 w.heap.size 0 (.int .i64 0) W3 R3.rr (by decide) (by decide) (fun k => by
        have hh : (rw_ rb B (at_ + 5) 1 k W3).heap[w.heap.size]? = some (.cells #[.int .i64 0] 3 (0, 0)) := by
          unfold rw_
          split
          · exact set_other (W := W3.drewN k) G3 (by omega)
          · exact G3
        exact ⟨by simp only [World.cell?, hh]; rfl, seven_f hh 0⟩)
      clear hC3 F2 HRT
      go_wp2_with fail
      refine Calls.mono HIN.out ?_
      rintro r W4 ⟨rfl, k, hW4⟩
      clear HIN e0
      unfold rok
      unfold rw_ at hW4
      by_cases hk4 : at_ + 5 + 1 ≤ B.length
      · rw [if_pos hk4] at hW4
        rw [decide_eq_true hk4]
        have hx := rv1_in B hby (at_ + 5)
        have ew := w8i hx
        have HRT4 : Hid (rdT ps cs zs (B.drop at_) = (bnd num1 fun d => ret ⟨ps, cs, zs, sg (rv B at_ 4), rv B (at_ + 4) 1, i8 (rv B (at_ + 5) 1), d⟩) (B.drop (at_ + 6))) := by
          unfold Hid
          rw [HRT3.out, bnd_go (by rw [num1_at, if_pos hk4])]
        generalize rv B (at_ + 5) 1 = x5 at *
        have F4 := F3.set1 (.int .i64 ((at_ + 5 + 1 : Nat) : Int))
        have R4 : RD w0 rb vb B (at_ + 6) (C3.setIfInBounds 1 (.int .i64 ((at_ + 5 + 1 : Nat) : Int))) W4 := by rw [hW4]; exact (R3.go k (at_ + 5 + 1) hk4).other _ _ _ (by omega) (by omega)
        have G4 : W4.heap[w.heap.size]? = some (.cells #[.int .i64 x5] 3 (0, 0)) := by
          rw [hW4]
          exact set_cells (set_other (W := W3.drewN k) G3 (by omega))
        have K4 : Kb (fun x => x = rb ∨ x = w.heap.size) W1 W4 := by
          rw [hW4]
          exact Kb.trans K3 (Kb.trans (Kb.set (w := W3) k (.inl rfl)) (Kb.set (w := (W3.drewN k).setCell ⟨rb, 1, none⟩ _) 0 (.inr rfl)))
        have HIN : Hid _ := intoR_ w0 rb vb B (at_ + 6) _ W4 R4 8 (by decide) y8 F4.f8
        clear hW4 HRT3 R3 G3 K3 F3
        go_wp2_with fail
        refine Calls.mono HIN.out ?_
        rintro r W5 ⟨rfl, K5, R5⟩
        have G5 := K5.1 _ _ G4 (by omega)
        have K5 := Kb.trans K4 (K5.more (fun _ h => .inl h))
        have e0 : W5.cell? ⟨w.heap.size, 0, none⟩ = some (.int .i64 x5) := by simp only [World.cell?, G5]; rfl
        clear HIN K4 G4
        unfold rok
        by_cases hk5 : at_ + 6 + 1 ≤ B.length
        · rw [if_pos hk5] at R5
          rw [decide_eq_true hk5]
          have HRP : Hid (rdT ps cs zs (B.drop at_) = .ok (⟨ps, cs, zs, sg (rv B at_ 4), rv B (at_ + 4) 1, i8 x5, rv B (at_ + 6) 1⟩, B.drop (at_ + 7))) := by
            unfold Hid
            rw [HRT4.out, bnd_go (by rw [num1_at, if_pos hk5])]
            rfl
          have F5 := ((F4.set1 (.int .i64 ((at_ + 6 + 1 : Nat) : Int))).set8 (.int .i64 (rv B (at_ + 6) 1)))
          have HKE : Hid _ := HKW.out _ K5
          have f7 : W5.cell? ⟨rb, 7, none⟩ = some (.int .i8 y7) := by simp only [World.cell?, R5.hp]; exact F5.f7
          have z7 := seven_f R5.hp 7
          have HRR : Hid _ := R5
          have HFF : Hid _ := F5
          clear R5 F5 K5
          go_wp2
          rw [HPo.out, HRP.out]
          have F6 := HFF.out.set7 (.int .i8 (i8 x5))
          refine ⟨rfl, (((C3.setIfInBounds 1 (.int .i64 ((at_ + 5 + 1 : Nat) : Int))).setIfInBounds 1 (.int .i64 ((at_ + 6 + 1 : Nat) : Int))).setIfInBounds 8 (.int .i64 (rv B (at_ + 6) 1))).setIfInBounds 7 (.int .i8 (i8 x5)), ?_, ⟨F6.f5, F6.f6, F6.f7, F6.f8⟩, F6.o, Kb.trans HKE.out (Kb.set (w := W5) 0 rfl)⟩
          rw [show B.length - (B.drop (at_ + 7)).length = at_ + 7 by rw [List.length_drop]; omega]
          exact HRR.out.put 7 _ (by decide)
        · rw [if_neg hk5] at R5
          rw [decide_eq_false hk5]
          have HRP : Hid (rdT ps cs zs (B.drop at_) = .error (B.length - (at_ + 6))) := by
            unfold Hid
            rw [HRT4.out, bnd_no (by rw [num1_at, if_neg hk5])]
          have F5 := F4.set8 (.int .i64 (rv B (at_ + 6) 1))
          have f7 : W5.cell? ⟨rb, 7, none⟩ = some (.int .i8 y7) := by simp only [World.cell?, R5.hp]; exact F5.f7
          have z7 := seven_f R5.hp 7
          have HRR : Hid _ := R5
          have HFF : Hid _ := F5
          clear R5 F5
          go_wp2
          rw [HPo.out, HRP.out]
          refine ⟨rfl, ⟨?_, ?_⟩⟩
          rotate_left
          have h9 := HRR.out.at_le
          rw [show B.length - (B.length - (at_ + 6)) = at_ + 6 by omega]
          exact HRR.out.put 7 _ (by decide)
      · rw [if_neg hk4] at hW4
        rw [decide_eq_false hk4]
        have HRP : Hid (rdT ps cs zs (B.drop at_) = .error (B.length - (at_ + 5))) := by
          unfold Hid
          rw [HRT3.out, bnd_no (by rw [num1_at, if_neg hk4])]
        generalize rv B (at_ + 5) 1 = x5 at *
        have R4 : RD w0 rb vb B (at_ + 5) C3 W4 := by rw [hW4]; exact (R3.drew k).other _ _ _ (by omega) (by omega)
        have G4 : W4.heap[w.heap.size]? = some (.cells #[.int .i64 x5] 3 (0, 0)) := by rw [hW4]; exact set_cells (W := W3.drewN k) G3
        have e0 : W4.cell? ⟨w.heap.size, 0, none⟩ = some (.int .i64 x5) := by simp only [World.cell?, G4]; rfl
        clear hW4 R3
        have f7 : W4.cell? ⟨rb, 7, none⟩ = some (.int .i8 y7) := by simp only [World.cell?, R4.hp]; exact F3.f7
        have z7 := seven_f R4.hp 7
        have HRR : Hid _ := R4
        have HFF : Hid _ := F3
        clear R4 F3
        go_wp2
        rw [HPo.out, HRP.out]
        refine ⟨rfl, ⟨?_, ?_⟩⟩
        rotate_left
        have h9 := HRR.out.at_le
        rw [show B.length - (B.length - (at_ + 5)) = at_ + 5 by omega]
        exact HRR.out.put 7 _ (by decide)
    · rw [if_neg hk3] at R3
      rw [decide_eq_false hk3]
      have HRP : Hid (rdT ps cs zs (B.drop at_) = .error (B.length - (at_ + 4))) := by
        unfold Hid
        rw [HRT.out, bnd_no (by rw [num1_at, if_neg hk3])]
      have F3 := F2.set6 (.int .i64 (rv B (at_ + 4) 1))
      clear F2
      have f7 : W3.cell? ⟨rb, 7, none⟩ = some (.int .i8 y7) := by simp only [World.cell?, R3.hp]; exact F3.f7
      have z7 := seven_f R3.hp 7
      have HRR : Hid _ := R3
      have HFF : Hid _ := F3
      clear R3 F3
      go_wp2
      rw [HPo.out, HRP.out]
      refine ⟨rfl, ⟨?_, ?_⟩⟩
      rotate_left
      have h9 := HRR.out.at_le
      rw [show B.length - (B.length - (at_ + 4)) = at_ + 4 by omega]
      exact HRR.out.put 7 _ (by decide)
  · rw [if_neg hk] at hS
    obtain ⟨rfl, R2, K2⟩ := hS
    have G2 := K2.1 _ _ g1 (by omega)
    have K2 : Kb (fun x => x = rb ∨ x = w.heap.size) W1 W2 := K2.more (fun _ h => .inl h)
    have HRP : Hid (rdT ps cs zs (B.drop at_) = .error (B.length - at_)) := by
      unfold Hid rdT
      rw [bnd_no (r := B.length - at_) (by rw [sg4_at, if_neg hk])]
    have e0 : W2.cell? ⟨w.heap.size, 0, none⟩ = some (.int .i64 0) := by simp only [World.cell?, G2]; rfl
    have f7 : W2.cell? ⟨rb, 7, none⟩ = some (.int .i8 y7) := by simp only [World.cell?, R2.hp]; exact F0.f7
    have z7 := seven_f R2.hp 7
    have HF : Hid (RD w0 rb vb B at_ (C.setIfInBounds 7 (.int .i8 0)) (W2.setCell ⟨rb, 7, none⟩ (.int .i8 0))) := R2.put 7 _ (by decide)
    clear R2 K2 G2
    go_wp2
    rw [HPo.out, HRP.out]
    refine ⟨rfl, ⟨?_, ?_⟩⟩
    rotate_left
    have h9 := HF.out.at_le
    rw [show B.length - (B.length - at_) = at_ by omega]
    exact HF.out
end IM
end Go.Proofs.YtmpamcdobhiipaaGreatDoor
/-
  Lists of ints with marks behind them: WideInts, SpareInts.
-/
namespace Go.Proofs.YtmpamcdobhiipaaGreatDoor
open Go.RowKit
attribute [local go_sem ↓] Go.wp_at_zero Go.wp_at_succ

namespace ST
def numI (i : Nat) : Int := 9437185 + (i : Int)
set_option maxHeartbeats 1000000 in
theorem num_ (i : Nat) (hi : i ≤ 8589934592) (w : World) : Calls Tryz.prog 57 #[.int .i64 9, .int .i64 i] w fun e w' => e = .returned (.int .i64 (numI i)) ∧ w' = w := by
  go_enter Tryz.func57, Tryz.ntmps57
  go_wp2
  go_ret
  exact ⟨ret_int (by unfold numI; omega), rfl⟩
/- what lies in cell i: the list, and marks behind it -/
def wI (l : List Int) (i : Nat) : Value := if i < l.length then .int .i64 (l.getD i 0) else .int .i64 (numI i)
def wIs (l : List Int) : List Value := (List.range (l.length + 64)).map (wI l)
theorem wIs_len (l : List Int) : (wIs l).length = l.length + 64 := by simp [wIs]
theorem wIs_get (l : List Int) (i : Nat) (hi : i < l.length + 64) : (wIs l)[i]? = some (wI l i) := by simp [wIs, hi]
def WI (base : Nat) (W : World) (v : Value) (l : List Int) : Prop := ∃ g, base ≤ g ∧ v = .slice (some ⟨g, 0, none⟩) l.length (l.length + 64) ∧ W.heap[g]? = some (.cells (wIs l).toArray 3 (0, 0))
theorem WI.up {base : Nat} {W W' : World} {v : Value} {l : List Int} (h : WI base W v l) (u : Up W W') : WI base W' v l := by
  obtain ⟨g, h1, h2, h3⟩ := h
  exact ⟨g, h1, h2, u.heap h3⟩
theorem WI.il {base : Nat} {W : World} {v : Value} {l : List Int} (h : WI base W v l) : IL W v l := by
  obtain ⟨g, h1, rfl, h3⟩ := h
  refine ⟨by rw [ivs_len, Nat.mul_one], some ⟨g, 0, none⟩, l.length + 64, rfl, by omega, fun hn => ⟨g, 0, rfl, fun j hj => ?_⟩⟩
  rw [Nat.mul_one] at hj
  rw [ivs_get l j hj, Nat.zero_add]
  have : W.cell? ⟨g, j, none⟩ = (wIs l)[j]? := by simp [World.cell?, h3]
  rw [this, wIs_get l j (by omega), wI, if_pos hj]
end ST
end Go.Proofs.YtmpamcdobhiipaaGreatDoor
/-
  Players and cards with marks behind them.
-/
namespace Go.Proofs.YtmpamcdobhiipaaGreatDoor
open Go.RowKit
attribute [local go_sem ↓] Go.wp_at_zero Go.wp_at_succ

namespace ST
def wP (l : List Ply) (i : Nat) : List Value := if i < l.length then pv (l.getD i dp) else [.int .i32 (wrap32 (numI i)), .int .i32 0, .bool false]
theorem wP_len (l : List Ply) (i : Nat) : (wP l i).length = 3 := by unfold wP; split <;> rfl
def wPs (l : List Ply) : List Value := (List.range (l.length + 64)).flatMap (wP l)
theorem wPs_len (l : List Ply) : (wPs l).length = (l.length + 64) * 3 := by
  rw [wPs, flat_len (wP l) 3 (wP_len l), List.length_range]
theorem wPs_get (l : List Ply) (i j : Nat) (hi : i < l.length + 64) (hj : j < 3) : (wPs l)[i * 3 + j]? = (wP l i)[j]? := by
  rw [wPs, flat_get (wP l) 3 (wP_len l) 0 _ i j (by simpa using hi) hj]
  congr 2
  simp [List.getD_eq_getElem?_getD, hi]
def WP (base : Nat) (W : World) (v : Value) (l : List Ply) : Prop := ∃ g, base ≤ g ∧ v = .slice (some ⟨g, 0, none⟩) l.length (l.length + 64) ∧ W.heap[g]? = some (.cells (wPs l).toArray 95 (0, 0))
theorem WP.up {base : Nat} {W W' : World} {v : Value} {l : List Ply} (h : WP base W v l) (u : Up W W') : WP base W' v l := by
  obtain ⟨g, h1, h2, h3⟩ := h
  exact ⟨g, h1, h2, u.heap h3⟩
theorem WP.il {base : Nat} {W : World} {v : Value} {l : List Ply} (h : WP base W v l) : PLs W v l := by
  obtain ⟨g, h1, rfl, h3⟩ := h
  refine ⟨by rw [pvs_len], some ⟨g, 0, none⟩, l.length + 64, rfl, by omega, fun hn => ⟨g, 0, rfl, fun j hj => ?_⟩⟩
  rw [Nat.zero_add]
  have : W.cell? ⟨g, j, none⟩ = (wPs l)[j]? := by simp [World.cell?, h3]
  have e : j / 3 * 3 + j % 3 = j := by rw [Nat.mul_comm]; exact Nat.div_add_mod j 3
  have h4 : j / 3 < l.length := by omega
  have h5 := wPs_get l (j / 3) (j % 3) (by omega) (by omega)
  have h6 := pvs_get l (j / 3) (j % 3) h4 (by omega)
  rw [e] at h5 h6
  rw [this, h5, h6, wP, if_pos h4]
def wC (l : List Crd) (i : Nat) : List Value := if i < l.length then cv (l.getD i dc) else [.int .i64 (numI i), .int .i64 0, .int .i32 0, .int .i32 0, .int .i32 0, .int .i32 0]
theorem wC_len (l : List Crd) (i : Nat) : (wC l i).length = 6 := by unfold wC; split <;> rfl
def wCs (l : List Crd) : List Value := (List.range (l.length + 64)).flatMap (wC l)
theorem wCs_len (l : List Crd) : (wCs l).length = (l.length + 64) * 6 := by
  rw [wCs, flat_len (wC l) 6 (wC_len l), List.length_range]
theorem wCs_get (l : List Crd) (i j : Nat) (hi : i < l.length + 64) (hj : j < 6) : (wCs l)[i * 6 + j]? = (wC l i)[j]? := by
  rw [wCs, flat_get (wC l) 6 (wC_len l) 0 _ i j (by simpa using hi) hj]
  congr 2
  simp [List.getD_eq_getElem?_getD, hi]
def WC (base : Nat) (W : World) (v : Value) (l : List Crd) : Prop := ∃ g, base ≤ g ∧ v = .slice (some ⟨g, 0, none⟩) l.length (l.length + 64) ∧ W.heap[g]? = some (.cells (wCs l).toArray 83 (0, 0))
theorem WC.up {base : Nat} {W W' : World} {v : Value} {l : List Crd} (h : WC base W v l) (u : Up W W') : WC base W' v l := by
  obtain ⟨g, h1, h2, h3⟩ := h
  exact ⟨g, h1, h2, u.heap h3⟩
theorem WC.il {base : Nat} {W : World} {v : Value} {l : List Crd} (h : WC base W v l) : CLs W v l := by
  obtain ⟨g, h1, rfl, h3⟩ := h
  refine ⟨by rw [cvs_len], some ⟨g, 0, none⟩, l.length + 64, rfl, by omega, fun hn => ⟨g, 0, rfl, fun j hj => ?_⟩⟩
  rw [Nat.zero_add]
  have : W.cell? ⟨g, j, none⟩ = (wCs l)[j]? := by simp [World.cell?, h3]
  have e : j / 6 * 6 + j % 6 = j := by rw [Nat.mul_comm]; exact Nat.div_add_mod j 6
  have h4 : j / 6 < l.length := by omega
  have h5 := wCs_get l (j / 6) (j % 6) (by omega) (by omega)
  have h6 := cvs_get l (j / 6) (j % 6) h4 (by omega)
  rw [e] at h5 h6
  rw [this, h5, h6, wC, if_pos h4]
end ST
end Go.Proofs.YtmpamcdobhiipaaGreatDoor
