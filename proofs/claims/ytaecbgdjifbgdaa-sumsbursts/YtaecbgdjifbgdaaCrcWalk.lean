/-
  The law on sums of bytes, walked: whatever slice holds the bytes, whatever sum it goes on from.
-/
import Derived.Test.YtaecbgdjifbgdaaWide
namespace Go.Proofs.Ytaecbgdjifbgdaa
open Go.RowKit

set_option maxHeartbeats 400000 in
theorem crcLong (a : Option Addr) (len cap s : Nat) (w : World) (hm : 2147483647 < len) :
    Calls Try.prog 3 #[.slice a len cap, .int .u32 s] w fun e w' => e = .returned (.bool true) ∧ Up w w' := by
  have hd : decide (2147483647 < len) = true := decide_eq_true hm
  go_enter Try.func3, Try.ntmps3
  go_wp2_with fail
  refine (longB len _).mono ?_
  rintro e w1 ⟨rfl, rfl⟩
  rw [hd]
  go_wp2
  go_ret
  exact ⟨rfl, Up.refl _⟩
theorem bneN (c : Nat) : ((c : Int) != (c : Int)) = false := by simp
theorem beqN (c : Nat) : ((c : Int) == (c : Int)) = true := by simp
theorem Bys.set {L : List Nat} (h : Bys L) (k c : Nat) (hc : c < 256) : Bys (L.set k c) := Bys.of fun d hd => by
  rcases List.mem_or_eq_of_mem_set hd with h1 | rfl
  · exact h.mem d h1
  · exact hc
theorem fillL_bys (zs : List Nat) (k n : Nat) (h : Bys zs) : Bys (fillL zs k n) := Bys.of fun d hd => by
  unfold fillL at hd
  obtain ⟨j, _, rfl⟩ := List.mem_map.1 hd
  have := h j
  have h2 : mark j < 256 := by unfold mark; omega
  split
  · split
    · exact this
    · exact h2
  · decide
theorem spare_row {w : World} {base g : Nat} {zs : List Nat} (h : Row w base g (fillL zs (zs.length + 64) (zs.length + 64))) : ∀ j, zs.length ≤ j → j < zs.length + 64 → w.cell? ⟨g, j, none⟩ = some (.int .u8 (mark j : Nat)) := by
  intro j h1 h2
  rw [h.cell j (by rw [fillL_len]; exact h2), fillL_at zs _ _ j h2, if_pos h2, if_neg (by omega)]
set_option maxHeartbeats 2000000 in
theorem crcWalk (a : Option Addr) (cap s : Nat) (zs : List Nat) (w : World) (h : Lies w (.slice a zs.length cap) zs) (hb : Bys zs) (hs : s < 4294967296) (hm : zs.length ≤ 2147483647) :
    Calls Try.prog 3 #[.slice a zs.length cap, .int .u32 s] w fun e w' => e = .returned (.bool true) ∧ Up w w' := by
  have HH : Hid (Lies w (.slice a zs.length cap) zs) := h
  have HB : Hid (Bys zs) := hb
  clear h hb
  have hd : decide (2147483647 < zs.length) = false := decide_eq_false (by omega)
  have q1 := bneN (crc 0 zs)
  have q2 := bneN (crc s zs)
  go_enter Try.func3, Try.ntmps3
  go_wp2_with fail
  refine (longB zs.length _).mono ?_
  rintro e w1 ⟨rfl, rfl⟩
  rw [hd]
  go_wp2_with fail
  refine (wideB _ zs _ HH.out HB.out hm).mono ?_
  rintro e w2 ⟨g, rfl, hr, y2⟩
  have HR : Hid (Row w2 w1.heap.size g (fillL zs (zs.length + 64) (zs.length + 64))) := hr
  clear hr
  have hX : Lies w2 (.slice (some ⟨g, 0, none⟩) zs.length (zs.length + 64)) zs := by
    have := HR.out.lies (cap := zs.length + 64) zs.length (by rw [fillL_len]; omega)
    rw [fillL_take zs _ (by omega)] at this
    exact this
  have HX : Hid (Lies w2 (.slice (some ⟨g, 0, none⟩) zs.length (zs.length + 64)) zs) := hX
  clear hX
  go_wp2_with fail
  refine (crcs _ zs _ HX.out (by omega) HB.out).mono ?_
  rintro e w3 ⟨rfl, y3⟩
  go_wp2_with fail
  refine (refCrc _ zs _ (HH.out.up (y2.trans y3)) (by omega) HB.out).mono ?_
  rintro e w4 ⟨rfl, rfl⟩
  generalize crc 0 zs = C at *
  go_wp2_with fail
  refine (goes s _ zs _ hs (HX.out.up y3) (by omega) HB.out).mono ?_
  rintro e w5 ⟨rfl, y5⟩
  have y35 := y3.trans y5
  have y25 := y2.trans y35
  clear y3 y5
  go_wp2_with fail
  refine (refGo s _ zs _ hs (HH.out.up y25) (by omega) HB.out).mono ?_
  rintro e w6 ⟨rfl, rfl⟩
  generalize crc s zs = D at *
  go_wp2_with fail
  refine (eqB _ _ zs zs _ (HX.out.up y35) (HH.out.up y25) (by omega)).mono ?_
  rintro e w7 ⟨rfl, y7⟩
  rw [show decide (zs = zs) = true from decide_eq_true rfl]
  have y37 := y35.trans y7
  have y27 := y25.trans y7
  clear y7 y35 y25 y2
  go_wp2_with fail
  refine (spareB g zs.length _ hm (spare_row (HR.out.up y37))).mono ?_
  rintro e w8 ⟨rfl, rfl⟩
  have hr8 := HR.out.up y37
  have hb8 := fillL_bys zs (zs.length + 64) (zs.length + 64) HB.out
  have HL8 : Hid ((fillL zs (zs.length + 64) (zs.length + 64)).length = zs.length + 64) := fillL_len _ _ _
  generalize fillL zs (zs.length + 64) (zs.length + 64) = L0 at *
  clear HX HR HH HB hd y37
  obtain ⟨n, hn⟩ : ∃ n, zs.length = n := ⟨_, rfl⟩
  rw [hn] at hm HL8 ⊢
  clear hn
  go_wp2_with fail
  go_loopw [6] (fun i wr => ∃ (k : Nat) (L : List Nat), k ≤ n ∧ i = .int .i64 k ∧ Row wr w1.heap.size g L ∧ L.length = n + 64 ∧ Bys L ∧ Up w1 wr)
    (fun i _ => n - (intOf i).toNat)
  case atStart => exact ⟨0, L0, Nat.zero_le _, rfl, hr8, HL8.out, hb8, y27⟩
  case round =>
    obtain ⟨k, L, hk, rfl, hr, hl, hbl, hu⟩ := hrel
    have HL : Hid (L.length = n + 64) := hl
    have HBL : Hid (Bys L) := hbl
    clear hl hbl hr8 hb8 HL8 y27
    by_cases hlt : k < n
    · have hki : (k : Int) < (n : Int) := by omega
      have hcell := hr.cell k (by rw [HL.out]; omega)
      have f1 := hr.frozen k
      have hz8 := HBL.out k
      obtain ⟨m, hm8⟩ : ∃ m, m = (k * 7 + 1) % 256 := ⟨_, rfl⟩
      have hmb : m < 256 := by omega
      have hw8 : IntKind.u8.wrap ((k : Int) * 7 + 1) = (m : Int) := by rw [IntKind.wrap_u8']; omega
      have e1 : bits .xor .u8 ((L.getD k 0 : Nat) : Int) (m : Int) = ((L.getD k 0 ^^^ m : Nat) : Int) := u8_xor_nat _ m hz8 hmb
      have hx8 : L.getD k 0 ^^^ m < 256 := xor_lt8 hz8 hmb
      have hR := hr.set k (L.getD k 0 ^^^ m)
      have HBX : Hid (Bys (L.set k (L.getD k 0 ^^^ m))) := HBL.out.set k _ hx8
      have HLX : Hid ((L.set k (L.getD k 0 ^^^ m)).length = n + 64) := by unfold Hid; rw [List.length_set]; exact HL.out
      have hU : Up w1 (wr.setCell ⟨g, k, none⟩ (.int .u8 (L.getD k 0 ^^^ m : Nat))) := Below.setCell hu hr.base_le.1 _
      generalize L.getD k 0 ^^^ m = x at *
      generalize L.getD k 0 = z at *
      clear hr hu hm8
      go_wp2
      go_roundw
      case rel => first | exact ⟨k + 1, L.set k x, by omega, by go_num, hR, HLX.out, HBX.out, hU⟩ | ((repeat apply Exists.intro); exact ⟨⟨k + 1, L.set k x, by omega, by go_num, hR, HLX.out, HBX.out, hU⟩, rfl⟩)
      case measure => simp [intOf]; omega
    · obtain rfl : k = n := by omega
      have hX : Lies wr (.slice (some ⟨g, 0, none⟩) k (k + 64)) (L.take k) := hr.lies k (by rw [HL.out]; omega)
      have hbt : Bys (L.take k) := HBL.out.take k
      have hlt' : (L.take k).length = k := by rw [List.length_take, HL.out]; omega
      have HX : Hid (Lies wr (.slice (some ⟨g, 0, none⟩) k (k + 64)) (L.take k)) := hX
      have HLT : Hid ((L.take k).length = k) := hlt'
      have HBT : Hid (Bys (L.take k)) := hbt
      clear hX hlt' hbt hr HL HBL q1 q2
      generalize L.take k = ys at *
      have q1 := beqN (crc 0 ys)
      have q2 := beqN (crc s ys)
      go_wp2_with fail
      refine (copyB _ ys _ HX.out (by rw [HLT.out]; omega)).mono ?_
      rintro e v1 ⟨u1, rfl, ho, x1⟩
      have HO : Hid (Lies v1 u1 ys) := ho.lies
      clear ho
      go_wp2_with fail
      refine (crcs _ ys _ (HX.out.up x1) (by rw [HLT.out]; omega) HBT.out).mono ?_
      rintro e v2 ⟨rfl, x2⟩
      go_wp2_with fail
      refine (refCrc _ ys _ (HO.out.up x2) (by rw [HLT.out]; omega) HBT.out).mono ?_
      rintro e v3 ⟨rfl, rfl⟩
      generalize crc 0 ys = C1 at *
      go_wp2_with fail
      refine (goes s _ ys _ hs (HX.out.up (x1.trans x2)) (by rw [HLT.out]; omega) HBT.out).mono ?_
      rintro e v4 ⟨rfl, x4⟩
      go_wp2_with fail
      refine (refGo s _ ys _ hs (HO.out.up (x2.trans x4)) (by rw [HLT.out]; omega) HBT.out).mono ?_
      rintro e v5 ⟨rfl, rfl⟩
      generalize crc s ys = D1 at *
      go_wp2_with fail
      refine (works _).mono ?_
      rintro e v6 ⟨rfl, x6⟩
      go_wp2
      go_ret
      exact ⟨rfl, hu.trans ((x1.trans (x2.trans x4)).trans x6)⟩
end Go.Proofs.Ytaecbgdjifbgdaa
