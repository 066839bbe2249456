/-
  What is parsed: its nodes know how many kids they have, and there are no more of them than tokens.
-/
import Derived.Test.YtkldllnnocdhbaaGreatDoorBy10
import Derived.Test.YtkldllnnocdhbaaGreatDoorPc10
namespace Go.Proofs.YtkldllnnocdhbaaGreatDoor
open Go.RowKit
attribute [local go_sem ↓] Go.wp_at_zero Go.wp_at_succ
namespace TP
open TR (Nd Byt nums_inj)
open TK (Tok)
theorem up_only {w W W' : World} {m : Nat} (u : Up w W) (o : Only m W W') (h : w.heap.size ≤ m) : Up w W' :=
  ⟨o.1.1.trans u.os, o.1.2.1.trans u.tape, o.1.2.2.trans u.output, Nat.le_trans u.size o.2.1, fun g hg => (o.2.2 g (Nat.lt_of_lt_of_le hg u.size) (by omega)).trans (u.block g hg)⟩
set_option maxRecDepth 100000 in
set_option maxHeartbeats 16000000 in
theorem newParser_ (W : World) (bt off n c : Nat) : Calls Tryz.prog 69 #[.slice (some ⟨bt, off, none⟩) n c] W (fun r w' => ∃ b ml ms, r = .returned (.pointer (some ⟨b, 0, none⟩)) ∧ b = W.heap.size ∧ Up W w' ∧ QS w' b bt off n c ml ms 0 0 ∧ Mps w' b ml ms lkey) := by
  obtain ⟨Post, hPost⟩ : ∃ P : Ending → World → Prop, P = fun r w' => ∃ b ml ms, r = .returned (.pointer (some ⟨b, 0, none⟩)) ∧ b = W.heap.size ∧ Up W w' ∧ QS w' b bt off n c ml ms 0 0 ∧ Mps w' b ml ms lkey := ⟨_, rfl⟩
  rw [← hPost]
  have HPo : Hid (Post = fun r w' => ∃ b ml ms, r = .returned (.pointer (some ⟨b, 0, none⟩)) ∧ b = W.heap.size ∧ Up W w' ∧ QS w' b bt off n c ml ms 0 0 ∧ Mps w' b ml ms lkey) := hPost
  clear hPost
  have hmf9 := hmf
  have hmm := @run_makeMap Tryz.prog
  obtain ⟨b, hb⟩ : ∃ b, b = W.heap.size := ⟨_, rfl⟩
  have HB : Hid (b = W.heap.size) := hb
  obtain ⟨W1, hW1⟩ : ∃ W1, W.alloc (.cells #[.slice (some ⟨bt, off, none⟩) n c, .int .i64 0, .int .i64 0, .map none, .map none] 153) = W1 := ⟨_, rfl⟩
  have HU1 : Hid (Up W W1) := by unfold Hid; rw [← hW1]; exact (Up.refl _).alloc _
  have HB1 : Hid (W1.heap[b]? = some (.cells #[.slice (some ⟨bt, off, none⟩) n c, .int .i64 0, .int .i64 0, .map none, .map none] 153 (0, 0))) := by unfold Hid; rw [← hW1, hb]; exact heap_alloc_new _ _
  have hz1 : W1.heap.size = b + 1 := by rw [← hW1, hb]; simp
  obtain ⟨W2, hW2⟩ : ∃ W2, W1.alloc (.map #[] 0) = W2 := ⟨_, rfl⟩
  have HUW2 : Hid (Up W W2) := by unfold Hid; rw [← hW2]; exact HU1.out.alloc _
  have HMW2 : Hid (KD.MP W2 (b + 1) []) := by unfold Hid; rw [← hW2, ← hz1]; exact KD.mp_made _
  have HKW2 : Hid (∀ x o, x ≠ b + 1 → W2.heap[x]? = some o → W2.heap[x]? = some o) := fun x o _ e => e
  have HZX : Hid (W.heap.size ≤ b + 1) := by unfold Hid; omega
  have HB2 : Hid (W2.heap[b]? = some (.cells #[.slice (some ⟨bt, off, none⟩) n c, .int .i64 0, .int .i64 0, .map none, .map none] 153 (0, 0))) := by unfold Hid; rw [← hW2]; exact ((Up.refl W1).alloc _).heap HB1.out
  obtain ⟨X1, rX1, mX1, oX1⟩ := KD.run_upd (P := Tryz.prog) (t := 151) mt_map mt_str HMW2.out ⟨#[99, 111, 115, 116]⟩ (.func (.func 90) #[.pointer (some ⟨b, 0, none⟩)] #[]) (by rfl)
  have HMX1 : Hid (KD.MP X1 (b + 1) ([(⟨#[99, 111, 115, 116]⟩, (.func (.func 90) #[.pointer (some ⟨b, 0, none⟩)] #[]))] : List (ByteArray × Value))) := mX1
  have HUX1 : Hid (Up W X1) := up_only HUW2.out oX1 HZX.out
  have HKX1 : Hid (∀ x o, x ≠ (b + 1) → W2.heap[x]? = some o → X1.heap[x]? = some o) := fun x o hx e => oX1.heap (HKW2.out x o hx e) hx
  clear mX1 oX1
  obtain ⟨X2, rX2, mX2, oX2⟩ := KD.run_upd (P := Tryz.prog) (t := 151) mt_map mt_str HMX1.out ⟨#[112, 111, 119, 101, 114]⟩ (.func (.func 91) #[.pointer (some ⟨b, 0, none⟩)] #[]) (by rfl)
  have HMX2 : Hid (KD.MP X2 (b + 1) ([(⟨#[99, 111, 115, 116]⟩, (.func (.func 90) #[.pointer (some ⟨b, 0, none⟩)] #[])), (⟨#[112, 111, 119, 101, 114]⟩, (.func (.func 91) #[.pointer (some ⟨b, 0, none⟩)] #[]))] : List (ByteArray × Value))) := mX2
  have HUX2 : Hid (Up W X2) := up_only HUX1.out oX2 HZX.out
  have HKX2 : Hid (∀ x o, x ≠ (b + 1) → W2.heap[x]? = some o → X2.heap[x]? = some o) := fun x o hx e => oX2.heap (HKX1.out x o hx e) hx
  clear mX2 oX2
  obtain ⟨X3, rX3, mX3, oX3⟩ := KD.run_upd (P := Tryz.prog) (t := 151) mt_map mt_str HMX2.out ⟨#[104, 101, 97, 108, 116, 104]⟩ (.func (.func 92) #[.pointer (some ⟨b, 0, none⟩)] #[]) (by rfl)
  have HMX3 : Hid (KD.MP X3 (b + 1) ([(⟨#[99, 111, 115, 116]⟩, (.func (.func 90) #[.pointer (some ⟨b, 0, none⟩)] #[])), (⟨#[112, 111, 119, 101, 114]⟩, (.func (.func 91) #[.pointer (some ⟨b, 0, none⟩)] #[])), (⟨#[104, 101, 97, 108, 116, 104]⟩, (.func (.func 92) #[.pointer (some ⟨b, 0, none⟩)] #[]))] : List (ByteArray × Value))) := mX3
  have HUX3 : Hid (Up W X3) := up_only HUX2.out oX3 HZX.out
  have HKX3 : Hid (∀ x o, x ≠ (b + 1) → W2.heap[x]? = some o → X3.heap[x]? = some o) := fun x o hx e => oX3.heap (HKX2.out x o hx e) hx
  clear mX3 oX3
  obtain ⟨X4, rX4, mX4, oX4⟩ := KD.run_upd (P := Tryz.prog) (t := 151) mt_map mt_str HMX3.out ⟨#[116, 97, 103]⟩ (.func (.func 93) #[.pointer (some ⟨b, 0, none⟩)] #[]) (by rfl)
  have HMX4 : Hid (KD.MP X4 (b + 1) ([(⟨#[99, 111, 115, 116]⟩, (.func (.func 90) #[.pointer (some ⟨b, 0, none⟩)] #[])), (⟨#[112, 111, 119, 101, 114]⟩, (.func (.func 91) #[.pointer (some ⟨b, 0, none⟩)] #[])), (⟨#[104, 101, 97, 108, 116, 104]⟩, (.func (.func 92) #[.pointer (some ⟨b, 0, none⟩)] #[])), (⟨#[116, 97, 103]⟩, (.func (.func 93) #[.pointer (some ⟨b, 0, none⟩)] #[]))] : List (ByteArray × Value))) := mX4
  have HUX4 : Hid (Up W X4) := up_only HUX3.out oX4 HZX.out
  have HKX4 : Hid (∀ x o, x ≠ (b + 1) → W2.heap[x]? = some o → X4.heap[x]? = some o) := fun x o hx e => oX4.heap (HKX3.out x o hx e) hx
  clear mX4 oX4
  obtain ⟨X5, rX5, mX5, oX5⟩ := KD.run_upd (P := Tryz.prog) (t := 151) mt_map mt_str HMX4.out ⟨#[111, 110]⟩ (.func (.func 94) #[.pointer (some ⟨b, 0, none⟩)] #[]) (by rfl)
  have HMX5 : Hid (KD.MP X5 (b + 1) ([(⟨#[99, 111, 115, 116]⟩, (.func (.func 90) #[.pointer (some ⟨b, 0, none⟩)] #[])), (⟨#[112, 111, 119, 101, 114]⟩, (.func (.func 91) #[.pointer (some ⟨b, 0, none⟩)] #[])), (⟨#[104, 101, 97, 108, 116, 104]⟩, (.func (.func 92) #[.pointer (some ⟨b, 0, none⟩)] #[])), (⟨#[116, 97, 103]⟩, (.func (.func 93) #[.pointer (some ⟨b, 0, none⟩)] #[])), (⟨#[111, 110]⟩, (.func (.func 94) #[.pointer (some ⟨b, 0, none⟩)] #[]))] : List (ByteArray × Value))) := mX5
  have HUX5 : Hid (Up W X5) := up_only HUX4.out oX5 HZX.out
  have HKX5 : Hid (∀ x o, x ≠ (b + 1) → W2.heap[x]? = some o → X5.heap[x]? = some o) := fun x o hx e => oX5.heap (HKX4.out x o hx e) hx
  clear mX5 oX5
  have HBX : Hid (X5.heap[b]? = some (.cells #[.slice (some ⟨bt, off, none⟩) n c, .int .i64 0, .int .i64 0, .map none, .map none] 153 (0, 0))) := HKX5.out b _ (by omega) HB2.out
  have c3 : X5.cell? ⟨b, 3, none⟩ = some (.map none) := by have := HBX.out; simp [World.cell?, this]
  have f3 : X5.frozen? ⟨b, 3, none⟩ = false := by have := HBX.out; simp [World.frozen?, this]
  obtain ⟨V1, hV1⟩ : ∃ V1, X5.setCell ⟨b, 3, none⟩ (.map (some (b + 1))) = V1 := ⟨_, rfl⟩
  have HBV1 : Hid (V1.heap[b]? = some (.cells #[.slice (some ⟨bt, off, none⟩) n c, .int .i64 0, .int .i64 0, .map (some (b + 1)), .map none] 153 (0, 0))) := by unfold Hid; rw [← hV1]; exact set_cells (j := 3) (x := .map (some (b + 1))) HBX.out
  have HUV1 : Hid (Up W V1) := by unfold Hid; rw [← hV1]; exact up_set1 HUX5.out 3 _ (by omega)
  have HMV1 : Hid (KD.MP V1 (b + 1) ([(⟨#[99, 111, 115, 116]⟩, (.func (.func 90) #[.pointer (some ⟨b, 0, none⟩)] #[])), (⟨#[112, 111, 119, 101, 114]⟩, (.func (.func 91) #[.pointer (some ⟨b, 0, none⟩)] #[])), (⟨#[104, 101, 97, 108, 116, 104]⟩, (.func (.func 92) #[.pointer (some ⟨b, 0, none⟩)] #[])), (⟨#[116, 97, 103]⟩, (.func (.func 93) #[.pointer (some ⟨b, 0, none⟩)] #[])), (⟨#[111, 110]⟩, (.func (.func 94) #[.pointer (some ⟨b, 0, none⟩)] #[]))] : List (ByteArray × Value))) := by
    obtain ⟨es, cl, h1, h2⟩ := HMX5.out
    exact ⟨es, cl, by rw [← hV1, Below.heap_setCell _ _ _ _ (show b + 1 ≠ b by omega)]; exact h1, h2⟩
  obtain ⟨m2, hm2⟩ : ∃ m2, V1.heap.size = m2 := ⟨_, rfl⟩
  have HMB : Hid (b + 1 < m2) := by unfold Hid; rw [← hm2]; exact KD.MP.lt HMV1.out
  obtain ⟨W4, hW4⟩ : ∃ W4, V1.alloc (.map #[] 0) = W4 := ⟨_, rfl⟩
  have HUW4 : Hid (Up W W4) := by unfold Hid; rw [← hW4]; exact HUV1.out.alloc _
  have HMW4 : Hid (KD.MP W4 m2 []) := by unfold Hid; rw [← hW4, ← hm2]; exact KD.mp_made _
  have HKW4 : Hid (∀ x o, x ≠ m2 → W4.heap[x]? = some o → W4.heap[x]? = some o) := fun x o _ e => e
  have HZY : Hid (W.heap.size ≤ m2) := by have := HMB.out; unfold Hid; omega
  obtain ⟨Y1, rY1, mY1, oY1⟩ := KD.run_upd (P := Tryz.prog) (t := 151) mt_map mt_str HMW4.out ⟨#[108, 101, 116]⟩ (.func (.func 95) #[.pointer (some ⟨b, 0, none⟩)] #[]) (by rfl)
  have HMY1 : Hid (KD.MP Y1 m2 ([(⟨#[108, 101, 116]⟩, (.func (.func 95) #[.pointer (some ⟨b, 0, none⟩)] #[]))] : List (ByteArray × Value))) := mY1
  have HUY1 : Hid (Up W Y1) := up_only HUW4.out oY1 HZY.out
  have HKY1 : Hid (∀ x o, x ≠ m2 → W4.heap[x]? = some o → Y1.heap[x]? = some o) := fun x o hx e => oY1.heap (HKW4.out x o hx e) hx
  clear mY1 oY1
  obtain ⟨Y2, rY2, mY2, oY2⟩ := KD.run_upd (P := Tryz.prog) (t := 151) mt_map mt_str HMY1.out ⟨#[105, 102]⟩ (.func (.func 96) #[.pointer (some ⟨b, 0, none⟩)] #[]) (by rfl)
  have HMY2 : Hid (KD.MP Y2 m2 ([(⟨#[108, 101, 116]⟩, (.func (.func 95) #[.pointer (some ⟨b, 0, none⟩)] #[])), (⟨#[105, 102]⟩, (.func (.func 96) #[.pointer (some ⟨b, 0, none⟩)] #[]))] : List (ByteArray × Value))) := mY2
  have HUY2 : Hid (Up W Y2) := up_only HUY1.out oY2 HZY.out
  have HKY2 : Hid (∀ x o, x ≠ m2 → W4.heap[x]? = some o → Y2.heap[x]? = some o) := fun x o hx e => oY2.heap (HKY1.out x o hx e) hx
  clear mY2 oY2
  obtain ⟨Y3, rY3, mY3, oY3⟩ := KD.run_upd (P := Tryz.prog) (t := 151) mt_map mt_str HMY2.out ⟨#[114, 101, 112, 101, 97, 116]⟩ (.func (.func 97) #[.pointer (some ⟨b, 0, none⟩)] #[]) (by rfl)
  have HMY3 : Hid (KD.MP Y3 m2 ([(⟨#[108, 101, 116]⟩, (.func (.func 95) #[.pointer (some ⟨b, 0, none⟩)] #[])), (⟨#[105, 102]⟩, (.func (.func 96) #[.pointer (some ⟨b, 0, none⟩)] #[])), (⟨#[114, 101, 112, 101, 97, 116]⟩, (.func (.func 97) #[.pointer (some ⟨b, 0, none⟩)] #[]))] : List (ByteArray × Value))) := mY3
  have HUY3 : Hid (Up W Y3) := up_only HUY2.out oY3 HZY.out
  have HKY3 : Hid (∀ x o, x ≠ m2 → W4.heap[x]? = some o → Y3.heap[x]? = some o) := fun x o hx e => oY3.heap (HKY2.out x o hx e) hx
  clear mY3 oY3
  obtain ⟨Y4, rY4, mY4, oY4⟩ := KD.run_upd (P := Tryz.prog) (t := 151) mt_map mt_str HMY3.out ⟨#[101, 97, 99, 104]⟩ (.func (.func 98) #[.pointer (some ⟨b, 0, none⟩)] #[]) (by rfl)
  have HMY4 : Hid (KD.MP Y4 m2 ([(⟨#[108, 101, 116]⟩, (.func (.func 95) #[.pointer (some ⟨b, 0, none⟩)] #[])), (⟨#[105, 102]⟩, (.func (.func 96) #[.pointer (some ⟨b, 0, none⟩)] #[])), (⟨#[114, 101, 112, 101, 97, 116]⟩, (.func (.func 97) #[.pointer (some ⟨b, 0, none⟩)] #[])), (⟨#[101, 97, 99, 104]⟩, (.func (.func 98) #[.pointer (some ⟨b, 0, none⟩)] #[]))] : List (ByteArray × Value))) := mY4
  have HUY4 : Hid (Up W Y4) := up_only HUY3.out oY4 HZY.out
  have HKY4 : Hid (∀ x o, x ≠ m2 → W4.heap[x]? = some o → Y4.heap[x]? = some o) := fun x o hx e => oY4.heap (HKY3.out x o hx e) hx
  clear mY4 oY4
  obtain ⟨Y5, rY5, mY5, oY5⟩ := KD.run_upd (P := Tryz.prog) (t := 151) mt_map mt_str HMY4.out ⟨#[99, 104, 111, 111, 115, 101]⟩ (.func (.func 99) #[.pointer (some ⟨b, 0, none⟩)] #[]) (by rfl)
  have HMY5 : Hid (KD.MP Y5 m2 ([(⟨#[108, 101, 116]⟩, (.func (.func 95) #[.pointer (some ⟨b, 0, none⟩)] #[])), (⟨#[105, 102]⟩, (.func (.func 96) #[.pointer (some ⟨b, 0, none⟩)] #[])), (⟨#[114, 101, 112, 101, 97, 116]⟩, (.func (.func 97) #[.pointer (some ⟨b, 0, none⟩)] #[])), (⟨#[101, 97, 99, 104]⟩, (.func (.func 98) #[.pointer (some ⟨b, 0, none⟩)] #[])), (⟨#[99, 104, 111, 111, 115, 101]⟩, (.func (.func 99) #[.pointer (some ⟨b, 0, none⟩)] #[]))] : List (ByteArray × Value))) := mY5
  have HUY5 : Hid (Up W Y5) := up_only HUY4.out oY5 HZY.out
  have HKY5 : Hid (∀ x o, x ≠ m2 → W4.heap[x]? = some o → Y5.heap[x]? = some o) := fun x o hx e => oY5.heap (HKY4.out x o hx e) hx
  clear mY5 oY5
  obtain ⟨Y6, rY6, mY6, oY6⟩ := KD.run_upd (P := Tryz.prog) (t := 151) mt_map mt_str HMY5.out ⟨#[115, 116, 111, 112]⟩ (.func (.func 100) #[.pointer (some ⟨b, 0, none⟩)] #[]) (by rfl)
  have HMY6 : Hid (KD.MP Y6 m2 ([(⟨#[108, 101, 116]⟩, (.func (.func 95) #[.pointer (some ⟨b, 0, none⟩)] #[])), (⟨#[105, 102]⟩, (.func (.func 96) #[.pointer (some ⟨b, 0, none⟩)] #[])), (⟨#[114, 101, 112, 101, 97, 116]⟩, (.func (.func 97) #[.pointer (some ⟨b, 0, none⟩)] #[])), (⟨#[101, 97, 99, 104]⟩, (.func (.func 98) #[.pointer (some ⟨b, 0, none⟩)] #[])), (⟨#[99, 104, 111, 111, 115, 101]⟩, (.func (.func 99) #[.pointer (some ⟨b, 0, none⟩)] #[])), (⟨#[115, 116, 111, 112]⟩, (.func (.func 100) #[.pointer (some ⟨b, 0, none⟩)] #[]))] : List (ByteArray × Value))) := mY6
  have HUY6 : Hid (Up W Y6) := up_only HUY5.out oY6 HZY.out
  have HKY6 : Hid (∀ x o, x ≠ m2 → W4.heap[x]? = some o → Y6.heap[x]? = some o) := fun x o hx e => oY6.heap (HKY5.out x o hx e) hx
  clear mY6 oY6
  obtain ⟨Y7, rY7, mY7, oY7⟩ := KD.run_upd (P := Tryz.prog) (t := 151) mt_map mt_str HMY6.out ⟨#[97, 98, 111, 114, 116]⟩ (.func (.func 101) #[.pointer (some ⟨b, 0, none⟩)] #[]) (by rfl)
  have HMY7 : Hid (KD.MP Y7 m2 ([(⟨#[108, 101, 116]⟩, (.func (.func 95) #[.pointer (some ⟨b, 0, none⟩)] #[])), (⟨#[105, 102]⟩, (.func (.func 96) #[.pointer (some ⟨b, 0, none⟩)] #[])), (⟨#[114, 101, 112, 101, 97, 116]⟩, (.func (.func 97) #[.pointer (some ⟨b, 0, none⟩)] #[])), (⟨#[101, 97, 99, 104]⟩, (.func (.func 98) #[.pointer (some ⟨b, 0, none⟩)] #[])), (⟨#[99, 104, 111, 111, 115, 101]⟩, (.func (.func 99) #[.pointer (some ⟨b, 0, none⟩)] #[])), (⟨#[115, 116, 111, 112]⟩, (.func (.func 100) #[.pointer (some ⟨b, 0, none⟩)] #[])), (⟨#[97, 98, 111, 114, 116]⟩, (.func (.func 101) #[.pointer (some ⟨b, 0, none⟩)] #[]))] : List (ByteArray × Value))) := mY7
  have HUY7 : Hid (Up W Y7) := up_only HUY6.out oY7 HZY.out
  have HKY7 : Hid (∀ x o, x ≠ m2 → W4.heap[x]? = some o → Y7.heap[x]? = some o) := fun x o hx e => oY7.heap (HKY6.out x o hx e) hx
  clear mY7 oY7
  obtain ⟨Y8, rY8, mY8, oY8⟩ := KD.run_upd (P := Tryz.prog) (t := 151) mt_map mt_str HMY7.out ⟨#[115, 101, 108, 102]⟩ (.func (.func 102) #[.pointer (some ⟨b, 0, none⟩)] #[]) (by rfl)
  have HMY8 : Hid (KD.MP Y8 m2 ([(⟨#[108, 101, 116]⟩, (.func (.func 95) #[.pointer (some ⟨b, 0, none⟩)] #[])), (⟨#[105, 102]⟩, (.func (.func 96) #[.pointer (some ⟨b, 0, none⟩)] #[])), (⟨#[114, 101, 112, 101, 97, 116]⟩, (.func (.func 97) #[.pointer (some ⟨b, 0, none⟩)] #[])), (⟨#[101, 97, 99, 104]⟩, (.func (.func 98) #[.pointer (some ⟨b, 0, none⟩)] #[])), (⟨#[99, 104, 111, 111, 115, 101]⟩, (.func (.func 99) #[.pointer (some ⟨b, 0, none⟩)] #[])), (⟨#[115, 116, 111, 112]⟩, (.func (.func 100) #[.pointer (some ⟨b, 0, none⟩)] #[])), (⟨#[97, 98, 111, 114, 116]⟩, (.func (.func 101) #[.pointer (some ⟨b, 0, none⟩)] #[])), (⟨#[115, 101, 108, 102]⟩, (.func (.func 102) #[.pointer (some ⟨b, 0, none⟩)] #[]))] : List (ByteArray × Value))) := mY8
  have HUY8 : Hid (Up W Y8) := up_only HUY7.out oY8 HZY.out
  have HKY8 : Hid (∀ x o, x ≠ m2 → W4.heap[x]? = some o → Y8.heap[x]? = some o) := fun x o hx e => oY8.heap (HKY7.out x o hx e) hx
  clear mY8 oY8
  obtain ⟨Y9, rY9, mY9, oY9⟩ := KD.run_upd (P := Tryz.prog) (t := 151) mt_map mt_str HMY8.out ⟨#[109, 101]⟩ (.func (.func 102) #[.pointer (some ⟨b, 0, none⟩)] #[]) (by rfl)
  have HMY9 : Hid (KD.MP Y9 m2 ([(⟨#[108, 101, 116]⟩, (.func (.func 95) #[.pointer (some ⟨b, 0, none⟩)] #[])), (⟨#[105, 102]⟩, (.func (.func 96) #[.pointer (some ⟨b, 0, none⟩)] #[])), (⟨#[114, 101, 112, 101, 97, 116]⟩, (.func (.func 97) #[.pointer (some ⟨b, 0, none⟩)] #[])), (⟨#[101, 97, 99, 104]⟩, (.func (.func 98) #[.pointer (some ⟨b, 0, none⟩)] #[])), (⟨#[99, 104, 111, 111, 115, 101]⟩, (.func (.func 99) #[.pointer (some ⟨b, 0, none⟩)] #[])), (⟨#[115, 116, 111, 112]⟩, (.func (.func 100) #[.pointer (some ⟨b, 0, none⟩)] #[])), (⟨#[97, 98, 111, 114, 116]⟩, (.func (.func 101) #[.pointer (some ⟨b, 0, none⟩)] #[])), (⟨#[115, 101, 108, 102]⟩, (.func (.func 102) #[.pointer (some ⟨b, 0, none⟩)] #[])), (⟨#[109, 101]⟩, (.func (.func 102) #[.pointer (some ⟨b, 0, none⟩)] #[]))] : List (ByteArray × Value))) := mY9
  have HUY9 : Hid (Up W Y9) := up_only HUY8.out oY9 HZY.out
  have HKY9 : Hid (∀ x o, x ≠ m2 → W4.heap[x]? = some o → Y9.heap[x]? = some o) := fun x o hx e => oY9.heap (HKY8.out x o hx e) hx
  clear mY9 oY9
  obtain ⟨Y10, rY10, mY10, oY10⟩ := KD.run_upd (P := Tryz.prog) (t := 151) mt_map mt_str HMY9.out ⟨#[104, 105, 116]⟩ (.func (.func 103) #[.pointer (some ⟨b, 0, none⟩)] #[]) (by rfl)
  have HMY10 : Hid (KD.MP Y10 m2 ([(⟨#[108, 101, 116]⟩, (.func (.func 95) #[.pointer (some ⟨b, 0, none⟩)] #[])), (⟨#[105, 102]⟩, (.func (.func 96) #[.pointer (some ⟨b, 0, none⟩)] #[])), (⟨#[114, 101, 112, 101, 97, 116]⟩, (.func (.func 97) #[.pointer (some ⟨b, 0, none⟩)] #[])), (⟨#[101, 97, 99, 104]⟩, (.func (.func 98) #[.pointer (some ⟨b, 0, none⟩)] #[])), (⟨#[99, 104, 111, 111, 115, 101]⟩, (.func (.func 99) #[.pointer (some ⟨b, 0, none⟩)] #[])), (⟨#[115, 116, 111, 112]⟩, (.func (.func 100) #[.pointer (some ⟨b, 0, none⟩)] #[])), (⟨#[97, 98, 111, 114, 116]⟩, (.func (.func 101) #[.pointer (some ⟨b, 0, none⟩)] #[])), (⟨#[115, 101, 108, 102]⟩, (.func (.func 102) #[.pointer (some ⟨b, 0, none⟩)] #[])), (⟨#[109, 101]⟩, (.func (.func 102) #[.pointer (some ⟨b, 0, none⟩)] #[])), (⟨#[104, 105, 116]⟩, (.func (.func 103) #[.pointer (some ⟨b, 0, none⟩)] #[]))] : List (ByteArray × Value))) := mY10
  have HUY10 : Hid (Up W Y10) := up_only HUY9.out oY10 HZY.out
  have HKY10 : Hid (∀ x o, x ≠ m2 → W4.heap[x]? = some o → Y10.heap[x]? = some o) := fun x o hx e => oY10.heap (HKY9.out x o hx e) hx
  clear mY10 oY10
  obtain ⟨Y11, rY11, mY11, oY11⟩ := KD.run_upd (P := Tryz.prog) (t := 151) mt_map mt_str HMY10.out ⟨#[100, 114, 97, 119]⟩ (.func (.func 103) #[.pointer (some ⟨b, 0, none⟩)] #[]) (by rfl)
  have HMY11 : Hid (KD.MP Y11 m2 ([(⟨#[108, 101, 116]⟩, (.func (.func 95) #[.pointer (some ⟨b, 0, none⟩)] #[])), (⟨#[105, 102]⟩, (.func (.func 96) #[.pointer (some ⟨b, 0, none⟩)] #[])), (⟨#[114, 101, 112, 101, 97, 116]⟩, (.func (.func 97) #[.pointer (some ⟨b, 0, none⟩)] #[])), (⟨#[101, 97, 99, 104]⟩, (.func (.func 98) #[.pointer (some ⟨b, 0, none⟩)] #[])), (⟨#[99, 104, 111, 111, 115, 101]⟩, (.func (.func 99) #[.pointer (some ⟨b, 0, none⟩)] #[])), (⟨#[115, 116, 111, 112]⟩, (.func (.func 100) #[.pointer (some ⟨b, 0, none⟩)] #[])), (⟨#[97, 98, 111, 114, 116]⟩, (.func (.func 101) #[.pointer (some ⟨b, 0, none⟩)] #[])), (⟨#[115, 101, 108, 102]⟩, (.func (.func 102) #[.pointer (some ⟨b, 0, none⟩)] #[])), (⟨#[109, 101]⟩, (.func (.func 102) #[.pointer (some ⟨b, 0, none⟩)] #[])), (⟨#[104, 105, 116]⟩, (.func (.func 103) #[.pointer (some ⟨b, 0, none⟩)] #[])), (⟨#[100, 114, 97, 119]⟩, (.func (.func 103) #[.pointer (some ⟨b, 0, none⟩)] #[]))] : List (ByteArray × Value))) := mY11
  have HUY11 : Hid (Up W Y11) := up_only HUY10.out oY11 HZY.out
  have HKY11 : Hid (∀ x o, x ≠ m2 → W4.heap[x]? = some o → Y11.heap[x]? = some o) := fun x o hx e => oY11.heap (HKY10.out x o hx e) hx
  clear mY11 oY11
  have HBY : Hid (Y11.heap[b]? = some (.cells #[.slice (some ⟨bt, off, none⟩) n c, .int .i64 0, .int .i64 0, .map (some (b + 1)), .map none] 153 (0, 0))) := HKY11.out b _ (by have := HMB.out; omega) (by rw [← hW4]; exact ((Up.refl V1).alloc _).heap HBV1.out)
  have c4 : Y11.cell? ⟨b, 4, none⟩ = some (.map none) := by have := HBY.out; simp [World.cell?, this]
  have f4 : Y11.frozen? ⟨b, 4, none⟩ = false := by have := HBY.out; simp [World.frozen?, this]
  obtain ⟨V2, hV2⟩ : ∃ V2, Y11.setCell ⟨b, 4, none⟩ (.map (some m2)) = V2 := ⟨_, rfl⟩
  have HFIN : Hid (∃ b9 ml ms, Value.pointer (some ⟨b, 0, none⟩) = .pointer (some ⟨b9, 0, none⟩) ∧ b9 = W.heap.size ∧ Up W V2 ∧ QS V2 b9 bt off n c ml ms 0 0 ∧ Mps V2 b9 ml ms lkey) := by
    have hmb := HMB.out
    refine ⟨b, b + 1, m2, rfl, hb, by rw [← hV2]; exact up_set1 HUY11.out 4 _ (by omega), by unfold QS; rw [← hV2]; exact set_cells (j := 4) (x := .map (some m2)) HBY.out, ?_, ?_, by omega, by omega⟩
    · obtain ⟨es, cl, h1, h2⟩ := HMY11.out
      exact ⟨es, cl, by rw [← hV2, Below.heap_setCell _ _ _ _ (show m2 ≠ b by omega)]; exact h1, h2⟩
    · obtain ⟨es, cl, h1, h2⟩ := HMV1.out
      refine ⟨es, cl, ?_, h2⟩
      rw [← hV2, Below.heap_setCell _ _ _ _ (show b + 1 ≠ b by omega)]
      refine HKY11.out (b + 1) _ (by omega) ?_
      rw [← hW4]
      exact ((Up.refl V1).alloc _).heap h1
  clear hb
  go_enter Tryz.func69, Tryz.ntmps69
  go_upto_region 2 with fail
  try rw [hW1]
  rw [← HB.out]
  go_wp2_with fail
  rw [HPo.out]
  obtain ⟨b9, ml, ms, e9, h9⟩ := HFIN.out
  exact ⟨b9, ml, ms, by rw [← e9]; rfl, h9⟩
end TP
end Go.Proofs.YtkldllnnocdhbaaGreatDoor
namespace Go.Proofs.YtkldllnnocdhbaaGreatDoor
namespace TP
open TR (Nd)
open TK (Tok)
def WfF : Fo → Prop
  | .nil => True
  | .cons a k r => a.kids = (cntF k : Int) ∧ WfF k ∧ WfF r
theorem WfF.app : ∀ {f g : Fo}, WfF f → WfF g → WfF (f.app g)
  | .nil, _, _, h => h
  | .cons _ _ _, _, ⟨h1, h2, h3⟩, h => ⟨h1, h2, WfF.app h3 h⟩
theorem WfF.nod {op n : Int} {t : List Int} {p : Int} {k : Fo} (h : WfF k) : WfF (nod op n t p k) := ⟨rfl, h, trivial⟩
theorem wln_app (f g : Fo) : (flF (f.app g)).length = (flF f).length + (flF g).length := by rw [flF_app, List.length_append]
theorem wln_nod (op n : Int) (t : List Int) (p : Int) (k : Fo) : (flF (nod op n t p k)).length = (flF k).length + 1 := by
  show ((⟨op, 0, n, 0, t, p, (cntF k : Int)⟩ : Nd) :: (flF k ++ [])).length = _
  rw [List.append_nil, List.length_cons]
theorem wln_nil : (flF .nil).length = 0 := rfl
/- what is gathered so far -/
def gat : G → Fo
  | .rowL _ x _ => x
  | .chn x _ => x
  | .argL _ x => x
  | .blkL x => x
  | .lines x => x
  | .cards x => x
  | _ => .nil
def WW (a c : Nat) (r : Option Rs) : Prop := ∀ f j, r = some (.ok f j) → WfF f ∧ (flF f).length + c ≤ a + j
theorem WW_ok {a c j : Nat} {f : Fo} (h1 : WfF f) (h2 : (flF f).length + c ≤ a + j) : WW a c (okr f j) := fun f' j' e => by
  cases e
  exact ⟨h1, h2⟩
theorem WW_bad {a c : Nat} (t : Tok) : WW a c (bad t) := fun _ _ e => by cases e
theorem WW_deep {a c : Nat} (t : Tok) : WW a c (deep t) := fun _ _ e => by cases e
theorem WW_bd {a c a1 c1 : Nat} {r : Option Rs} {k : Fo → Nat → Option Rs} (h : WW a1 c1 r) (hk : ∀ f j, WfF f → (flF f).length + c1 ≤ a1 + j → WW a c (k f j)) : WW a c (bd r k) := by
  intro f j e
  rcases bd_some e with ⟨e1, p1, -, h2⟩ | ⟨f1, j1, h1, h2⟩
  · cases h2
  · exact hk f1 j1 (h f1 j1 h1).1 (h f1 j1 h1).2 f j h2
theorem WW_ite {a c : Nat} {p : Prop} [Decidable p] {x y : Option Rs} (ha : WW a c x) (hb : WW a c y) : WW a c (if p then x else y) := by
  split
  · exact ha
  · exact hb
theorem WW_mono {a c a1 c1 : Nat} {r : Option Rs} (h : WW a1 c1 r) (hc : a1 + c ≤ a + c1) : WW a c r := fun f j e => by
  have h9 := h f j e
  exact ⟨h9.1, by omega⟩
theorem wf (l : List Tok) : ∀ (n : Nat) (g : G) (i d : Nat), WfF (gat g) → WW (flF (gat g)).length i (P l n g i d)
  | 0, _, _, _, _ => fun _ _ e => by cases e
  | n + 1, g, i, d, hg => by
    have ih := fun g i d => wf l n g i d
    have l0 := wln_nil
    have opn : ∀ r, gat (opnd r) = .nil := fun r => by
      unfold opnd
      by_cases h1 : r = 1
      · subst h1; rfl
      by_cases h2 : r = 2
      · subst h2; rfl
      by_cases h5 : r = 5
      · subst h5; rfl
      rw [if_neg h1, if_neg h2, if_neg h5]
      rfl
    have ag : ∀ a : Bool, gat (if a = true then G.arg else .row 1) = .nil := fun a => by cases a <;> rfl
    have ih0 : ∀ g i d, gat g = .nil → WW 0 i (P l n g i d) := fun g i d e => by
      have h := ih g i d (by rw [e]; trivial)
      rw [e] at h
      exact h
    cases g with
    | arg =>
      simp only [gat]
      rw [P]
      refine WW_ite (WW_ok (WfF.nod trivial) (by rw [wln_nod, l0]; omega)) ?_
      split
      · exact WW_ok (WfF.nod trivial) (by rw [wln_nod, l0]; omega)
      · exact ih0 _ _ _ rfl
    | line =>
      simp only [gat]
      rw [P]
      refine WW_ite (WW_ite (WW_ite (WW_ok (WfF.nod trivial) (by rw [wln_nod, l0]; omega)) (WW_bad _)) (WW_bad _)) ?_
      refine WW_ite (WW_ite (WW_ite (WW_ok (WfF.nod trivial) (by rw [wln_nod, l0]; omega)) (WW_bad _)) (WW_bad _)) ?_
      refine WW_ite ?_ (WW_bad _)
      split
      · exact WW_bad _
      · refine WW_ite ?_ ?_
        · refine WW_bd (ih0 _ _ _ rfl) (fun x j h1 h2 => WW_bd (ih0 _ _ _ rfl) (fun y k h3 h4 => WW_ok (WfF.nod (h1.app h3)) (by rw [wln_nod, wln_app]; omega)))
        · exact WW_bd (ih0 _ _ _ rfl) (fun y k h3 h4 => WW_ok (WfF.nod h3) (by rw [wln_nod]; omega))
    | _ =>
      simp only [gat] at hg ⊢
      rw [P]
      repeat' first
        | exact WW_bad _
        | exact WW_deep _
        | exact WW_ok (by first | exact trivial | assumption | exact WfF.nod trivial | exact WfF.nod (by assumption) | (repeat' first | assumption | apply WfF.nod | apply WfF.app)) (by (try simp only [wln_nod, wln_app, wln_nil]); omega)
        | refine WW_ite ?_ ?_
        | exact WW_mono (ih _ _ _ (by simp only [gat]; first | exact trivial | assumption | (repeat' first | assumption | apply WfF.nod | apply WfF.app))) (by simp only [gat, wln_nod, wln_app, wln_nil]; omega)
        | (refine WW_bd (ih0 _ _ _ (by first | rfl | exact opn _ | exact ag _)) (fun _ _ _ _ => ?_))
end TP
end Go.Proofs.YtkldllnnocdhbaaGreatDoor
