/-
  Bytes that go through the register, by the table and by the document: what Go and Crc answer of a list that lies in memory.
-/
import Derived.Test.YtaecbgdjifbgdaaTab
namespace Go.Proofs.Ytaecbgdjifbgdaa
open Go.RowKit

def Lies (w : World) (v : Value) (zs : List Nat) : Prop :=
  ∃ a cap, v = .slice a zs.length cap ∧ (a = none → cap = 0) ∧ (zs.length ≠ 0 → ∃ b off, a = some ⟨b, off, none⟩ ∧ ∀ i, i < zs.length → w.cell? ⟨b, off + i, none⟩ = some (.int .u8 (zs.getD i 0 : Nat)))
def Bys (zs : List Nat) : Prop := ∀ i, zs.getD i 0 < 256
theorem Lies.up {w w' : World} {v : Value} {zs : List Nat} (h : Lies w v zs) (u : Up w w') : Lies w' v zs := by
  obtain ⟨a, cap, rfl, hz, h⟩ := h
  refine ⟨a, cap, rfl, hz, fun hn => ?_⟩
  obtain ⟨b, off, rfl, hc⟩ := h hn
  exact ⟨b, off, rfl, fun i hi => u.cell (hc i hi)⟩
theorem take_snoc' (zs : List Nat) (k : Nat) (h : k < zs.length) : zs.take (k + 1) = zs.take k ++ [zs.getD k 0] := by
  rw [List.take_succ_eq_append_getElem h]; simp [List.getD, List.getElem?_eq_getElem h]
theorem Bys.mem {zs : List Nat} (h : Bys zs) : ∀ c ∈ zs, c < 256 := by
  intro c hc
  obtain ⟨i, hi, rfl⟩ := List.getElem_of_mem hc
  have := h i
  rwa [List.getD, List.getElem?_eq_getElem hi] at this
theorem Bys.of {zs : List Nat} (h : ∀ c ∈ zs, c < 256) : Bys zs := by
  intro i
  by_cases hi : i < zs.length
  · rw [List.getD, List.getElem?_eq_getElem hi]; exact h _ (List.getElem_mem hi)
  · rw [List.getD, List.getElem?_eq_none (by omega)]; decide
theorem Bys.take {zs : List Nat} (h : Bys zs) (k : Nat) : Bys (zs.take k) := Bys.of fun c hc => h.mem c (List.mem_of_mem_take hc)

set_option maxHeartbeats 1000000 in
set_option maxRecDepth 100000 in
theorem through_some (b off len cap : Nat) (zs : List Nat) (n : Nat) (w : World) (hn : n < 4294967296) (hl : zs.length = len) (hm : len ≤ 9223372036854775807)
    (hc : ∀ i, i < len → w.cell? ⟨b, off + i, none⟩ = some (.int .u8 (zs.getD i 0 : Nat))) (hb : Bys zs) :
    Calls Try.prog 28 #[.agg (tabC 256), .int .u32 n, .slice (some ⟨b, off, none⟩) len cap] w fun e w' => e = .returned (.int .u32 (R n zs)) ∧ Up w w' := by
  have HC : Hid (∀ i, i < len → w.cell? ⟨b, off + i, none⟩ = some (.int .u8 (zs.getD i 0 : Nat))) := hc
  have HL : Hid (zs.length = len) := hl
  have HB : Hid (Bys zs) := hb
  clear hc hl hb
  go_enter Try.func28, Try.ntmps28
  go_wp2_with fail
  go_loop [1, 12] (fun s1 s12 => ∃ k x : Nat, k ≤ len ∧ x < 4294967296 ∧ x = R n (zs.take k) ∧ s1 = .int .u32 x ∧ s12 = .int .i64 k) (fun _ i => len - (intOf i).toNat)
  case atStart => exact ⟨0, n, Nat.zero_le _, hn, rfl, rfl, rfl⟩
  case round =>
    obtain ⟨k, x, hk, hx, hR, rfl, rfl⟩ := hrel
    have HR : Hid (x = R n (zs.take k)) := hR
    clear hR
    by_cases hlt : k < len
    · have hki : (k : Int) < (len : Int) := by omega
      have hcell : (w.alloc (.cells (tabC 256) 34)).cell? ⟨b, off + k, none⟩ = some (.int .u8 (zs.getD k 0 : Nat)) := ((Up.refl w).alloc _).cell (HC.out k hlt)
      have hz := HB.out k
      have HS : Hid (Sn 8 (x ^^^ zs.getD k 0) = R n (zs.take (k + 1))) := by unfold Hid; rw [take_snoc' zs k (by rw [HL.out]; exact hlt), R_snoc, ← HR.out]
      have HT : Hid (Sn 8 (x ^^^ zs.getD k 0) = x / 256 ^^^ Sn 8 (x % 256 ^^^ zs.getD k 0)) := tab_step x _
      generalize zs.getD k 0 = z at *
      obtain ⟨m, hm8⟩ : ∃ m, m = x % 256 := ⟨_, rfl⟩
      obtain ⟨q, hq8⟩ : ∃ q, q = x / 256 := ⟨_, rfl⟩
      have hmb : m < 256 := by omega
      have hw8 : IntKind.u8.wrap (x : Int) = (m : Int) := by rw [IntKind.wrap_u8']; omega
      have hd8 : (x : Int) / 256 = (q : Int) := by omega
      have e1 : bits .xor .u8 (m : Int) (z : Int) = ((m ^^^ z : Nat) : Int) := u8_xor_nat m z hmb hz
      have hib : m ^^^ z < 256 := xor_lt8 hmb hz
      rw [← hm8, ← hq8] at HT
      have e2 : bits .xor .u32 (q : Int) ((Sn 8 (m ^^^ z) : Nat) : Int) = ((q ^^^ Sn 8 (m ^^^ z) : Nat) : Int) := xor_u32 q _ (by omega) (Sn_lt (by omega))
      rw [← HT.out] at e2
      have hs : Sn 8 (x ^^^ z) < 4294967296 := Sn_lt (xor_lt32 hx (by omega))
      have hct := tabC_at 256 (m ^^^ z) hib
      rw [if_pos hib] at hct
      clear HT hm8 hq8
      generalize m ^^^ z = i at *
      have hii : (i : Int) < 256 := by omega
      generalize Sn 8 (x ^^^ z) = r at *
      generalize Sn 8 i = t at *
      go_wp2
      go_round
      case rel => exact ⟨k + 1, r, by omega, hs, HS.out, rfl, by go_num⟩
      case measure => simp [intOf]; omega
    · have : k = len := by omega
      subst this
      have HE : Hid (x = R n zs) := by unfold Hid; rw [HR.out, List.take_of_length_le (by rw [HL.out]; exact Nat.le_refl _)]
      go_wp2
      go_ret
      exact ⟨ret_int (by rw [HE.out]), (Up.refl _).alloc _⟩
set_option maxHeartbeats 400000 in
set_option maxRecDepth 100000 in
theorem through_none (a : Option Addr) (cap n : Nat) (w : World) :
    Calls Try.prog 28 #[.agg (tabC 256), .int .u32 n, .slice a 0 cap] w fun e w' => e = .returned (.int .u32 n) ∧ Up w w' := by
  go_enter Try.func28, Try.ntmps28
  go_wp2
  go_rounds 1
  go_ret
  exact ⟨rfl, (Up.refl _).alloc _⟩
theorem through (v : Value) (zs : List Nat) (n : Nat) (w : World) (hn : n < 4294967296) (h : Lies w v zs) (hm : zs.length ≤ 9223372036854775807) (hb : Bys zs) :
    Calls Try.prog 28 #[.agg (tabC 256), .int .u32 n, v] w fun e w' => e = .returned (.int .u32 (R n zs)) ∧ Up w w' := by
  obtain ⟨a, cap, rfl, _, h⟩ := h
  by_cases h0 : zs.length = 0
  · obtain rfl := List.eq_nil_of_length_eq_zero h0
    exact through_none a cap n w
  · obtain ⟨b, off, rfl, hc⟩ := h h0
    exact through_some b off zs.length cap zs n w hn rfl hm hc hb

/- what Go and Crc answer -/
def crc (s : Nat) (zs : List Nat) : Nat := R (s ^^^ 4294967295) zs ^^^ 4294967295
theorem crc_lt {s : Nat} {zs : List Nat} (hs : s < 4294967296) (hb : Bys zs) : crc s zs < 4294967296 := xor_lt32 (R_lt (xor_lt32 hs (by decide)) hb.mem) (by decide)
theorem not_u32 (n : Nat) (h : n < 4294967296) : bits .xor .u32 IntKind.u32.max (n : Int) = ((n ^^^ 4294967295 : Nat) : Int) := by
  rw [show IntKind.u32.max = 4294967295 by decide]
  have := xor_u32 4294967295 n (by decide) h
  rw [Nat.xor_comm] at this
  exact this
set_option maxHeartbeats 400000 in
theorem goes (s : Nat) (v : Value) (zs : List Nat) (w : World) (hs : s < 4294967296) (h : Lies w v zs) (hm : zs.length ≤ 9223372036854775807) (hb : Bys zs) :
    Calls Try.prog 13 #[.int .u32 s, v] w fun e w' => e = .returned (.int .u32 (crc s zs)) ∧ Up w w' := by
  have e1 := not_u32 s hs
  have hs' : s ^^^ 4294967295 < 4294967296 := xor_lt32 hs (by decide)
  have e2 := not_u32 (R (s ^^^ 4294967295) zs) (R_lt hs' hb.mem)
  have HE : Hid (crc s zs = R (s ^^^ 4294967295) zs ^^^ 4294967295) := rfl
  generalize crc s zs = c at *
  rw [← HE.out] at e2
  obtain ⟨a, cap, hv, h'⟩ := h
  have HH : Hid (Lies w v zs) := ⟨a, cap, hv, h'⟩
  clear h'
  subst hv
  generalize s ^^^ 4294967295 = s' at *
  go_enter Try.func13, Try.ntmps13
  go_wp2_with fail
  refine (table _).mono ?_
  rintro e w1 ⟨rfl, u1⟩
  go_wp2_with fail
  refine (through _ zs s' _ hs' (HH.out.up u1) hm hb).mono ?_
  rintro e w2 ⟨rfl, u2⟩
  go_wp2
  go_ret
  exact ⟨rfl, u1.trans u2⟩
set_option maxHeartbeats 400000 in
theorem crcs (v : Value) (zs : List Nat) (w : World) (h : Lies w v zs) (hm : zs.length ≤ 9223372036854775807) (hb : Bys zs) :
    Calls Try.prog 11 #[v] w fun e w' => e = .returned (.int .u32 (crc 0 zs)) ∧ Up w w' := by
  obtain ⟨a, cap, hv, h'⟩ := h
  have HH : Hid (Lies w v zs) := ⟨a, cap, hv, h'⟩
  clear h'
  subst hv
  go_enter Try.func11, Try.ntmps11
  go_wp2_with fail
  refine (goes 0 _ zs _ (by decide) HH.out hm hb).mono ?_
  rintro e w2 ⟨rfl, u2⟩
  go_wp2
  go_ret
  exact ⟨rfl, u2⟩
end Go.Proofs.Ytaecbgdjifbgdaa
