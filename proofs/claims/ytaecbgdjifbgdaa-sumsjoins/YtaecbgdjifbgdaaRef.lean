/-
  What the document's Go and Crc answer of a list that lies in memory; the sum of nine digits, which the laws ask for at their end.
-/
import Derived.Test.YtaecbgdjifbgdaaThr
import Derived.Lib.SlBytesConst
import Derived.Laws.IdiomStrings
namespace Go.Proofs.Ytaecbgdjifbgdaa
open Go.RowKit

set_option maxHeartbeats 400000 in
theorem refGo_none (a : Option Addr) (cap s : Nat) (w : World) (hs : s < 4294967296) :
    Calls Try.prog 14 #[.int .u32 s, .slice a 0 cap] w fun e w' => e = .returned (.int .u32 (crc s [])) ∧ w' = w := by
  have hs' : s ^^^ 4294967295 < 4294967296 := xor_lt32 hs (by decide)
  have HE : Hid (crc s [] = (s ^^^ 4294967295) ^^^ 4294967295) := rfl
  generalize crc s [] = c at *
  go_enter Try.func14, Try.ntmps14
  go_wp2_with fail
  refine (turned s _ hs).mono ?_
  rintro e w1 ⟨rfl, rfl⟩
  generalize s ^^^ 4294967295 = s' at *
  have e3 := xor_u32 s' 4294967295 hs' (by decide)
  have e4 : bits .xor .u32 (s' : Int) 4294967295 = ((s' ^^^ 4294967295 : Nat) : Int) := e3
  clear e3
  go_wp2
  go_rounds 1
  go_ret
  exact ⟨ret_int (by rw [HE.out]), rfl⟩
set_option maxHeartbeats 400000 in
theorem refGo_some (b off len cap : Nat) (zs : List Nat) (s : Nat) (w : World) (hs : s < 4294967296) (hl : zs.length = len) (hm : len ≤ 9223372036854775807)
    (hc : ∀ i, i < len → w.cell? ⟨b, off + i, none⟩ = some (.int .u8 (zs.getD i 0 : Nat))) (hb : Bys zs) :
    Calls Try.prog 14 #[.int .u32 s, .slice (some ⟨b, off, none⟩) len cap] w fun e w' => e = .returned (.int .u32 (crc s zs)) ∧ w' = w := by
  have HC : Hid (∀ i, i < len → w.cell? ⟨b, off + i, none⟩ = some (.int .u8 (zs.getD i 0 : Nat))) := hc
  have HL : Hid (zs.length = len) := hl
  have HB : Hid (Bys zs) := hb
  have hs' : s ^^^ 4294967295 < 4294967296 := xor_lt32 hs (by decide)
  have HE : Hid (crc s zs = R (s ^^^ 4294967295) zs ^^^ 4294967295) := rfl
  generalize crc s zs = c at *
  clear hc hl hb
  go_enter Try.func14, Try.ntmps14
  go_wp2_with fail
  refine (turned s _ hs).mono ?_
  rintro e w1 ⟨rfl, rfl⟩
  generalize s ^^^ 4294967295 = s' at *
  go_wp2_with fail
  go_loop [5, 6] (fun s5 s6 => ∃ k x : Nat, k ≤ len ∧ x < 4294967296 ∧ x = R s' (zs.take k) ∧ s5 = .int .u32 x ∧ s6 = .int .i64 k) (fun _ i => len - (intOf i).toNat)
  case atStart => exact ⟨0, s', Nat.zero_le _, hs', rfl, rfl, rfl⟩
  case round =>
    obtain ⟨k, x, hk, hx, hR, rfl, rfl⟩ := hrel
    have HR : Hid (x = R s' (zs.take k)) := hR
    clear hR
    by_cases hlt : k < len
    · have hki : (k : Int) < (len : Int) := by omega
      have hcell := HC.out k hlt
      have hz := HB.out k
      have HS : Hid (Sn 8 (x ^^^ zs.getD k 0) = R s' (zs.take (k + 1))) := by unfold Hid; rw [take_snoc' zs k (by rw [HL.out]; exact hlt), R_snoc, ← HR.out]
      generalize zs.getD k 0 = z at *
      have hwz : IntKind.u32.wrap (z : Int) = (z : Int) := by rw [IntKind.wrap_u32']; omega
      have e2 := xor_u32 x z hx (by omega)
      have hxz : x ^^^ z < 4294967296 := xor_lt32 hx (by omega)
      have hsx : Sn 8 (x ^^^ z) < 4294967296 := Sn_lt hxz
      generalize x ^^^ z = y at *
      go_wp2_with (go_at_call 30; refine (shifted8 y _ hxz).mono ?_; rintro e w' ⟨rfl, rfl⟩)
      go_round
      case rel => exact ⟨k + 1, Sn 8 y, by omega, hsx, HS.out, rfl, by go_num⟩
      case measure => simp [intOf]; omega
    · have : k = len := by omega
      subst this
      have HX : Hid (c = x ^^^ 4294967295) := by unfold Hid; rw [HE.out, HR.out, List.take_of_length_le (by rw [HL.out]; exact Nat.le_refl _)]
      go_wp2_with fail
      refine (turned x _ hx).mono ?_
      rintro e w1 ⟨rfl, rfl⟩
      go_wp2
      go_ret
      exact ⟨ret_int (by rw [HX.out]), rfl⟩
theorem refGo (s : Nat) (v : Value) (zs : List Nat) (w : World) (hs : s < 4294967296) (h : Lies w v zs) (hm : zs.length ≤ 9223372036854775807) (hb : Bys zs) :
    Calls Try.prog 14 #[.int .u32 s, v] w fun e w' => e = .returned (.int .u32 (crc s zs)) ∧ w' = w := by
  obtain ⟨a, cap, rfl, _, h⟩ := h
  by_cases h0 : zs.length = 0
  · obtain rfl := List.eq_nil_of_length_eq_zero h0
    exact refGo_none a cap s w hs
  · obtain ⟨b, off, rfl, hc⟩ := h h0
    exact refGo_some b off zs.length cap zs s w hs rfl hm hc hb
set_option maxHeartbeats 400000 in
theorem refCrc (v : Value) (zs : List Nat) (w : World) (h : Lies w v zs) (hm : zs.length ≤ 9223372036854775807) (hb : Bys zs) :
    Calls Try.prog 12 #[v] w fun e w' => e = .returned (.int .u32 (crc 0 zs)) ∧ w' = w := by
  obtain ⟨a, cap, hv, h'⟩ := h
  have HH : Hid (Lies w v zs) := ⟨a, cap, hv, h'⟩
  clear h'
  subst hv
  go_enter Try.func12, Try.ntmps12
  go_wp2_with fail
  refine (refGo 0 _ zs _ (by decide) HH.out hm hb).mono ?_
  rintro e w2 ⟨rfl, rfl⟩
  go_wp2
  go_ret
  exact ⟨rfl, rfl⟩
theorem nine : crc 0 [49, 50, 51, 52, 53, 54, 55, 56, 57] = 3421780262 := by decide +kernel
set_option maxHeartbeats 400000 in
theorem works (w : World) :
    Calls Try.prog 18 #[] w fun e w' => e = .returned (.bool true) ∧ Up w w' := by
  have hb : Bys [49, 50, 51, 52, 53, 54, 55, 56, 57] := Bys.of (by decide)
  have kc := fun (w : World) (C : Array Value) (n c : Nat) => Lib.run_convert_bytes_const (P := Try.prog) w 22 5 C n c Try.underlying22 Try.underlying5
  go_enter Try.func18, Try.ntmps18
  go_wp2_with fail
  refine (crcs _ [49, 50, 51, 52, 53, 54, 55, 56, 57] _ ?_ (by decide) hb).mono ?_
  · refine ⟨_, 9, rfl, (fun h => by cases h), fun _ => ⟨w.heap.size, 0, rfl, fun i hi => ?_⟩⟩
    have hi' : i < 9 := hi
    rcases (by omega : i = 0 ∨ i = 1 ∨ i = 2 ∨ i = 3 ∨ i = 4 ∨ i = 5 ∨ i = 6 ∨ i = 7 ∨ i = 8) with rfl | rfl | rfl | rfl | rfl | rfl | rfl | rfl | rfl <;> (rw [World.cell?_alloc_mark]; rfl)
  rintro e w1 ⟨rfl, u1⟩
  rw [nine]
  go_wp2
  go_ret
  exact ⟨rfl, ((Up.refl _).alloc _).trans u1⟩
end Go.Proofs.Ytaecbgdjifbgdaa
