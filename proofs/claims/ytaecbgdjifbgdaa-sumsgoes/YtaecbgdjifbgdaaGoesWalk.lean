/-
  The law on sums that go on and are joined, walked: whatever slices hold the three lists.
-/
import Derived.Test.YtaecbgdjifbgdaaWide
import Derived.Test.YtaecbgdjifbgdaaTabLaw
namespace Go.Proofs.Ytaecbgdjifbgdaa
open Go.RowKit

theorem crc_app (s : Nat) (A B : List Nat) : crc (crc s A) B = crc s (A ++ B) := by
  unfold crc
  rw [xor_cancel, R_append]
theorem crc_join (s : Nat) (B : List Nat) : Sn (8 * B.length) s ^^^ crc 0 B = crc s B := by
  unfold crc
  rw [Nat.zero_xor, Nat.xor_comm s, R_xor, ← Nat.xor_assoc, Nat.xor_comm (Sn _ s)]
theorem crc_three (A B C : List Nat) : Sn (8 * (B.length + C.length)) (crc 0 A) ^^^ (Sn (8 * C.length) (crc 0 B) ^^^ crc 0 C) = crc 0 (A ++ B ++ C) := by
  rw [Nat.mul_add, Sn_add, ← Nat.xor_assoc, ← Sn_xor, crc_join, crc_join, crc_app, crc_app, List.append_assoc]
theorem crc_one (s c : Nat) : crc s [c] = (Sn 8 ((s ^^^ 4294967295) % 256 ^^^ c) ^^^ (s ^^^ 4294967295) / 256) ^^^ 4294967295 := by
  unfold crc
  rw [R_cons, R_nil, tab_step, Nat.xor_comm (_ / 256)]
set_option maxHeartbeats 400000 in
theorem longI (n : Int) (w : World) : Calls Try.prog 9 #[.int .i64 n] w fun e w' => e = .returned (.bool (decide (2147483647 < n))) ∧ w' = w := by
  go_enter Try.func9, Try.ntmps9
  go_wp2
  go_ret
  exact ⟨rfl, rfl⟩
theorem joinI (a b : Nat) (n : Int) (m : Nat) (w : World) (h : n = (m : Int)) (ha : a < 4294967296) (hb : b < 4294967296) (hn : m < 9223372036854775808) :
    Calls Try.prog 19 #[.int .u32 a, .int .u32 b, .int .i64 n] w fun e w' => e = .returned (.int .u32 (Sn (8 * m) a ^^^ b : Nat)) ∧ w' = w := by
  subst h; exact join a b m w ha hb hn
theorem bneS (c : Nat) : ((c : Int) != (c : Int)) = false := by simp
set_option maxHeartbeats 400000 in
theorem goesLong (a b c : Option Addr) (la lb lc ca cb cc : Nat) (w : World) (ga : la ≤ 140737488351232) (gb : lb ≤ 140737488351232) (gc : lc ≤ 140737488351232) (hm : 2147483647 < la + lb + lc) :
    Calls Try.prog 7 #[.slice a la ca, .slice b lb cb, .slice c lc cc] w fun e w' => e = .returned (.bool true) ∧ Up w w' := by
  have hd : decide ((2147483647 : Int) < (la : Int) + (lb : Int) + (lc : Int)) = true := decide_eq_true (by omega)
  go_enter Try.func7, Try.ntmps7
  go_wp2_with fail
  refine (longI _ _).mono ?_
  rintro e w1 ⟨rfl, rfl⟩
  rw [hd]
  go_wp2
  go_ret
  exact ⟨rfl, Up.refl _⟩
theorem lies_one (w : World) (z : Nat) : Lies (w.alloc (.cells #[.int .u8 (z : Int)] 5)) (.slice (some ⟨w.heap.size, 0, none⟩) 1 1) [z] := by
  refine ⟨_, 1, rfl, (fun e => by cases e), fun _ => ⟨w.heap.size, 0, rfl, fun i hi => ?_⟩⟩
  obtain rfl : i = 0 := by simp at hi; exact hi
  simp
theorem lies_slice {w : World} {a : Option Addr} {len cap : Nat} {zs : List Nat} (h : Lies w (.slice a len cap) zs) (hn : 0 < zs.length) : ∃ b off, a = some ⟨b, off, none⟩ ∧ ∀ i, i < zs.length → w.cell? ⟨b, off + i, none⟩ = some (.int .u8 (zs.getD i 0 : Nat)) := by
  obtain ⟨a', cap', hv, _, h⟩ := h
  simp only [Value.slice.injEq] at hv
  obtain ⟨rfl, _, _⟩ := hv
  exact h (by omega)
set_option maxHeartbeats 4000000 in
set_option maxRecDepth 100000 in
theorem goesWalk (T : Array Value) (L : List Value) (F : TabFacts T L) (a b c : Option Addr) (ca cb cc : Nat) (A B C : List Nat) (w : World)
    (hA : Lies w (.slice a A.length ca) A) (bA : Bys A) (hB : Lies w (.slice b B.length cb) B) (bB : Bys B) (hC : Lies w (.slice c C.length cc) C) (bC : Bys C) (hm : A.length + B.length + C.length ≤ 2147483647) :
    Calls Try.prog 7 #[.slice a A.length ca, .slice b B.length cb, .slice c C.length cc] w fun e w' => e = .returned (.bool true) ∧ Up w w' := by
  have HA : Hid (Lies w (.slice a A.length ca) A) := hA
  have HB : Hid (Lies w (.slice b B.length cb) B) := hB
  have HC : Hid (Lies w (.slice c C.length cc) C) := hC
  have QA : Hid (Bys A) := bA
  have QB : Hid (Bys B) := bB
  have QC : Hid (Bys C) := bC
  have QAB : Hid (Bys (A ++ B)) := Bys.of fun d hd => (List.mem_append.1 hd).elim (bA.mem d) (bB.mem d)
  have QABC : Hid (Bys (A ++ B ++ C)) := Bys.of fun d hd => (List.mem_append.1 hd).elim (QAB.out.mem d) (bC.mem d)
  have hla : A.length ≤ 2147483647 := by omega
  have hlb : B.length ≤ 2147483647 := by omega
  have hlc : C.length ≤ 2147483647 := by omega
  have HLAB : Hid ((A ++ B).length = A.length + B.length) := List.length_append
  have HLABC : Hid ((A ++ B ++ C).length = A.length + B.length + C.length) := by unfold Hid; rw [List.length_append, List.length_append]
  clear hA hB hC bA bB bC
  have hd : decide ((2147483647 : Int) < (A.length : Int) + (B.length : Int) + (C.length : Int)) = false := decide_eq_false (by omega)
  have J1 : Hid (crc (crc 0 A) B = crc 0 (A ++ B)) := crc_app 0 A B
  have J2 : Hid (Sn (8 * B.length) (crc 0 A) ^^^ crc 0 B = crc 0 (A ++ B)) := by unfold Hid; rw [crc_join, crc_app]
  have J3 : Hid (Sn (8 * C.length) (crc 0 (A ++ B)) ^^^ crc 0 C = crc 0 (A ++ B ++ C)) := by unfold Hid; rw [crc_join, crc_app]
  have J4 : Hid (Sn (8 * (B.length + C.length)) (crc 0 A) ^^^ (Sn (8 * C.length) (crc 0 B) ^^^ crc 0 C) = crc 0 (A ++ B ++ C)) := crc_three A B C
  have lx := crc_lt (s := 0) (by decide) QA.out
  have ly := crc_lt (s := 0) (by decide) QB.out
  have lz := crc_lt (s := 0) (by decide) QC.out
  have lxy := crc_lt (s := 0) (by decide) QAB.out
  have q1 := bneS (crc 0 (A ++ B))
  have q2 := bneS (crc 0 A)
  have q3 := bneS (crc 0 (A ++ B ++ C))
  obtain ⟨hv34, hi34⟩ := zero_of_info (P := Try.prog) info34
  have hsc := fun (v : World) => run_storeCells_new (P := Try.prog) v 34 (Array.replicate 256 (.int .u32 0)) T F.info F.zero F.one
  have HSC : Hid (∀ (v : World), Sem.run Try.prog (storeCells { block := v.heap.size, off := 0 } T.toList) (v.alloc (.cells (Array.replicate 256 (.int .u32 0)) 34)) = .ok () (v.alloc (.cells T 34))) := hsc
  have HV : Hid (∀ w, (zeroValue 34).run Try.prog w = .ok (.agg (Array.replicate 256 (.int .u32 0))) w) := hv34
  clear hsc hi34 hv34
  go_enter Try.func7, Try.ntmps7
  go_wp2_with fail
  refine (longI _ _).mono ?_
  rintro e w1 ⟨rfl, rfl⟩
  rw [hd]
  clear hd
  go_wp2_with fail
  refine (joinedB _ _ A B _ HA.out HB.out (by omega)).mono ?_
  rintro e w2 ⟨u2, rfl, o2, y2⟩
  have HO : Hid (Lies w2 u2 (A ++ B)) := o2.lies
  clear o2
  go_wp2_with fail
  refine (copyB _ A _ (HA.out.up y2) (by omega)).mono ?_
  rintro e w3 ⟨u3, rfl, o3, y3⟩
  have HO3 : Hid (Lies w3 u3 A) := o3.lies
  clear o3
  go_wp2_with fail
  refine (crcs u3 A _ HO3.out (by omega) QA.out).mono ?_
  rintro e w4 ⟨rfl, y4⟩
  have z4 := y2.trans (y3.trans y4)
  have v4 := y3.trans y4
  clear y2 y3 y4 HO3
  go_wp2_with fail
  refine (copyB _ B _ (HB.out.up z4) (by omega)).mono ?_
  rintro e w5 ⟨u5, rfl, o5, y5⟩
  have HO5 : Hid (Lies w5 u5 B) := o5.lies
  clear o5
  go_wp2_with fail
  refine (crcs u5 B _ HO5.out (by omega) QB.out).mono ?_
  rintro e w6 ⟨rfl, y6⟩
  have z6 := z4.trans (y5.trans y6)
  have v6 := v4.trans (y5.trans y6)
  clear z4 v4 y5 y6 HO5
  go_wp2_with fail
  refine (copyB _ C _ (HC.out.up z6) (by omega)).mono ?_
  rintro e w7 ⟨u7, rfl, o7, y7⟩
  have HO7 : Hid (Lies w7 u7 C) := o7.lies
  clear o7
  go_wp2_with fail
  refine (crcs u7 C _ HO7.out (by omega) QC.out).mono ?_
  rintro e w8 ⟨rfl, y8⟩
  have z8 := z6.trans (y7.trans y8)
  have v8 := v6.trans (y7.trans y8)
  clear z6 v6 y7 y8 HO7
  go_wp2_with fail
  refine (copyB _ (A ++ B) _ (HO.out.up v8) (by rw [HLAB.out]; omega)).mono ?_
  rintro e w9 ⟨u9, rfl, o9, y9⟩
  have HO9 : Hid (Lies w9 u9 (A ++ B)) := o9.lies
  clear o9
  go_wp2_with fail
  refine (crcs u9 (A ++ B) _ HO9.out (by rw [HLAB.out]; omega) QAB.out).mono ?_
  rintro e w10 ⟨rfl, y10⟩
  have z10 := z8.trans (y9.trans y10)
  have v10 := v8.trans (y9.trans y10)
  clear z8 v8 y9 y10 HO9
  go_wp2_with fail
  refine (copyB _ B _ (HB.out.up z10) (by omega)).mono ?_
  rintro e w11 ⟨u11, rfl, o11, y11⟩
  have HO11 : Hid (Lies w11 u11 B) := o11.lies
  clear o11
  go_wp2_with fail
  refine (goes (crc 0 A) u11 B _ lx HO11.out (by omega) QB.out).mono ?_
  rintro e w12 ⟨rfl, y12⟩
  rw [J1.out]
  have z12 := z10.trans (y11.trans y12)
  have v12 := v10.trans (y11.trans y12)
  clear z10 v10 y11 y12 HO11
  go_wp2_with fail
  refine (joinI (crc 0 A) (crc 0 B) _ B.length _ rfl lx ly (by omega)).mono ?_
  rintro e w13 ⟨rfl, rfl⟩
  rw [J2.out]
  go_wp2_with fail
  refine (copyB _ A _ (HA.out.up z12) (by omega)).mono ?_
  rintro e w14 ⟨u14, rfl, o14, y14⟩
  have HO14 : Hid (Lies w14 u14 A) := o14.lies
  clear o14
  go_wp2_with fail
  refine (goes 0 u14 A _ (by decide) HO14.out (by omega) QA.out).mono ?_
  rintro e w15 ⟨rfl, y15⟩
  have z15 := z12.trans (y14.trans y15)
  have v15 := v12.trans (y14.trans y15)
  clear z12 v12 y14 y15 HO14
  go_wp2_with fail
  refine (joinedB _ _ (A ++ B) C _ (HO.out.up v15) (HC.out.up z15) (by rw [HLAB.out]; omega)).mono ?_
  rintro e w16 ⟨u16, rfl, o16, y16⟩
  have HO16 : Hid (Lies w16 u16 (A ++ B ++ C)) := o16.lies
  clear o16
  go_wp2_with fail
  refine (crcs u16 (A ++ B ++ C) _ HO16.out (by rw [HLABC.out]; omega) QABC.out).mono ?_
  rintro e w17 ⟨rfl, y17⟩
  have z17 := z15.trans (y16.trans y17)
  clear z15 v15 y16 y17 HO16 HO
  go_wp2_with fail
  refine (joinI (crc 0 (A ++ B)) (crc 0 C) _ C.length _ rfl lxy lz (by omega)).mono ?_
  rintro e w18 ⟨rfl, rfl⟩
  rw [J3.out]
  go_wp2_with fail
  refine (joinI (crc 0 B) (crc 0 C) _ C.length _ rfl ly lz (by omega)).mono ?_
  rintro e w19 ⟨rfl, rfl⟩
  have lyz : Sn (8 * C.length) (crc 0 B) ^^^ crc 0 C < 4294967296 := xor_lt32 (Sn_lt ly) lz
  go_wp2_with fail
  refine (joinI (crc 0 A) (Sn (8 * C.length) (crc 0 B) ^^^ crc 0 C) _ (B.length + C.length) _ (by omega) lx lyz (by omega)).mono ?_
  rintro e w20 ⟨rfl, rfl⟩
  rw [J4.out]
  go_wp2_with fail
  refine (F.tab _).mono ?_
  rintro e w21 ⟨rfl, y21⟩
  have hTs := F.size
  have hv34 := HV.out
  have hsc := HSC.out w21
  have z21 := (z17.trans y21).alloc (.cells T 34)
  have hg : (w21.alloc (.cells T 34)).heap[w21.heap.size]? = some (.cells T 34 (0, 0)) := heap_alloc_last _ _
  clear y21 z17 J1 J2 J3 J4 q1 q2 q3 ly lz lxy lyz HA HC QA QC QAB QABC
  go_wp2_with fail
  have z0 : Hid (Up w1 (w21.alloc (.cells T 34))) := z21
  clear hsc hv34 hTs z21
  generalize w21.alloc (.cells T 34) = V at *
  generalize w21.heap.size = G at *
  generalize crc 0 A = X at *
  go_loopw [8, 14] (fun s8 i wr => ∃ k x : Nat, k ≤ B.length ∧ x < 4294967296 ∧ s8 = .int .u32 x ∧ i = .int .i64 k ∧ wr.heap[G]? = some (.cells T 34 (0, 0)) ∧ Up w1 wr)
    (fun _ i _ => B.length - (intOf i).toNat)
  case atStart => exact ⟨0, X, Nat.zero_le _, lx, rfl, rfl, hg, z0.out⟩
  case round =>
    obtain ⟨k, x, hk, hx, rfl, rfl, hG, hu⟩ := hrel
    clear hg z0
    by_cases hlt : k < B.length
    · have hki : (k : Int) < (B.length : Int) := by omega
      by_cases h300 : k < 300
      · have hk3 : (k : Int) < 300 := by omega
        obtain ⟨bb, off, hbx, hcell⟩ := lies_slice HB.out (by omega)
        have hc := hu.cell (hcell k hlt)
        subst hbx
        clear hcell
        have hz := QB.out k
        have hE := crc_one x (B.getD k 0)
        generalize B.getD k 0 = z at *
        have lz := crc_lt hx (Bys.of (zs := [z]) (by intro c hc; simp at hc; omega))
        obtain ⟨s, hs⟩ : ∃ s, s = x ^^^ 4294967295 := ⟨_, rfl⟩
        have hs32 : s < 4294967296 := by rw [hs]; exact xor_lt32 hx (by decide)
        have e0 : bits .xor .u32 (x : Int) 4294967295 = (s : Int) := by rw [hs]; exact xor_u32 x 4294967295 hx (by decide)
        rw [← hs] at hE
        clear hs
        obtain ⟨m, hm8⟩ : ∃ m, m = s % 256 := ⟨_, rfl⟩
        obtain ⟨q, hq8⟩ : ∃ q, q = s / 256 := ⟨_, rfl⟩
        have hmb : m < 256 := by omega
        have hw8 : IntKind.u8.wrap (s : Int) = (m : Int) := by rw [IntKind.wrap_u8']; omega
        have hd8 : (s : Int) / 256 = (q : Int) := by omega
        rw [← hm8, ← hq8] at hE
        have e1 : bits .xor .u8 (m : Int) (z : Int) = ((m ^^^ z : Nat) : Int) := u8_xor_nat m z hmb hz
        have hib : m ^^^ z < 256 := xor_lt8 hmb hz
        have hcT := F.cell hG hib
        have hq32 : q < 4294967296 := by omega
        clear hm8 hq8
        generalize m ^^^ z = i at *
        have hii : (i : Int) < 256 := by omega
        have ht : Sn 8 i < 4294967296 := Sn_lt (by omega)
        generalize Sn 8 i = t at *
        have e2 := xor_u32 t q ht hq32
        have hr := xor_lt32 ht hq32
        generalize t ^^^ q = r at *
        have e3 : bits .xor .u32 (r : Int) 4294967295 = ((r ^^^ 4294967295 : Nat) : Int) := xor_u32 r 4294967295 hr (by decide)
        rw [← hE] at e3
        clear hE
        have HE1 : Hid (Lies (wr.alloc (.cells #[.int .u8 (z : Int)] 5)) (.slice (some ⟨wr.heap.size, 0, none⟩) 1 1) [z]) := lies_one wr z
        have HZ1 : Hid (Bys [z]) := Bys.of (by intro c hc; simp at hc; omega)
        have qz := bneS (crc x [z])
        obtain ⟨c1, hc1⟩ : ∃ c1, c1 = crc x [z] := ⟨_, rfl⟩
        rw [← hc1] at e3 lz qz
        have HC1 : Hid (c1 = crc x [z]) := hc1
        clear hc1
        go_wp2_with fail
        refine (goes x _ [z] _ hx HE1.out (by simp) HZ1.out).mono ?_
        rintro e v2 ⟨rfl, x2⟩
        rw [← HC1.out]
        have hG2 := ((Up.refl wr).alloc (.cells #[.int .u8 (z : Int)] 5) |>.trans x2).heap hG
        have hu2 := hu.trans ((Up.refl wr).alloc (.cells #[.int .u8 (z : Int)] 5) |>.trans x2)
        clear hG hu x2 HE1 HZ1 hcT hc
        go_wp2
        go_roundw
        case rel => first | exact ⟨k + 1, c1, by omega, lz, rfl, by go_num, hG2, hu2⟩ | ((repeat apply Exists.intro); exact ⟨⟨k + 1, c1, by omega, lz, rfl, by go_num, hG2, hu2⟩, rfl⟩)
        case measure => simp [intOf]; omega
      · have hk3 : ¬ (k : Int) < 300 := by omega
        go_wp2_with fail
        refine (works _).mono ?_
        rintro e v6 ⟨rfl, x6⟩
        go_wp2
        go_ret
        exact ⟨rfl, hu.trans x6⟩
    · have hki : ¬ (k : Int) < (B.length : Int) := by omega
      go_wp2_with fail
      refine (works _).mono ?_
      rintro e v6 ⟨rfl, x6⟩
      go_wp2
      go_ret
      exact ⟨rfl, hu.trans x6⟩
end Go.Proofs.Ytaecbgdjifbgdaa
