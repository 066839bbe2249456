
/-
  Put.
-/
import Derived.Test.YtoaaehgnbapibaaDoorWj16
namespace Go.Proofs.YtoaaehgnbapibaaDoor
open Go.RowKit
attribute [local go_sem ↓] Go.wp_at_zero Go.wp_at_succ
namespace CD
def putG : List Ins → Nat → List Int → List Int × Int × Int
  | [], _, b => (b, 0, 0)
  | x :: xs, i, b => if flt x b.length ≠ 0 then ([], flt x b.length, (i : Int)) else putG xs (i + 1) (b ++ encI x)
def putR (l : List Ins) : List Int × Int × Int := putG l 0 []
def Pu (l : List Ins) (i : Nat) (b : List Int) : Prop := putR l = putG (l.drop i) i b
def InsOk (x : Ins) : Prop := 0 ≤ x.op ∧ x.op < 256
def dI : Ins := ⟨0, 0, 0, 0, 0⟩
def ILs (W : World) (v : Value) (l : List Ins) : Prop := LC W v 5 l.length (ivs l)
theorem ILs.up {W W' : World} {v : Value} {l : List Ins} (h : ILs W v l) (u : Up W W') : ILs W' v l := LC.up h u
theorem ivs_at (l : List Ins) (i j : Nat) (hi : i < l.length) (hj : j < 5) : (ivs l)[i * 5 + j]? = (insl (l.getD i dI))[j]? := flat_get insl 5 (fun _ => rfl) dI l i j hi hj
theorem ils_at {W : World} {v : Value} {l : List Ins} (h : ILs W v l) : ∃ a c, v = .slice a l.length c ∧ l.length ≤ c ∧ (l.length ≠ 0 → ∃ b off, a = some ⟨b, off, none⟩ ∧ ∀ V, Up W V → ∀ i, i < l.length → V.cell? ⟨b, off + i * 5, none⟩ = some (.int .i64 (l.getD i dI).at_) ∧ V.cell? ⟨b, off + i * 5 + 1, none⟩ = some (.int .u8 (l.getD i dI).op) ∧ V.cell? ⟨b, off + i * 5 + 2, none⟩ = some (.int .i64 (l.getD i dI).a) ∧ V.cell? ⟨b, off + i * 5 + 3, none⟩ = some (.int .i64 (l.getD i dI).b) ∧ V.cell? ⟨b, off + i * 5 + 4, none⟩ = some (.int .i64 (l.getD i dI).c)) := by
  obtain ⟨h0, a, c, h2, h3, h4⟩ := h
  refine ⟨a, c, h2, h3, fun hn => ?_⟩
  obtain ⟨b, off, h5, h6⟩ := h4 hn
  refine ⟨b, off, h5, fun V u i hi => ?_⟩
  have k : ∀ j x, j < 5 → (insl (l.getD i dI))[j]? = some x → V.cell? ⟨b, off + i * 5 + j, none⟩ = some x := fun j x hj hx => by
    have h7 := h6 (i * 5 + j) (by omega)
    rw [ivs_at l i j hi hj, hx] at h7
    rw [Nat.add_assoc]
    exact u.cell h7
  exact ⟨k 0 _ (by decide) rfl, k 1 _ (by decide) rfl, k 2 _ (by decide) rfl, k 3 _ (by decide) rfl, k 4 _ (by decide) rfl⟩
theorem drop_getD {l : List Ins} {i : Nat} (h : i < l.length) : l.drop i = l.getD i dI :: l.drop (i + 1) := by
  rw [List.drop_eq_getElem_cons h, List.getD_eq_getElem?_getD, List.getElem?_eq_getElem h]
  rfl
theorem Pu.bad {l : List Ins} {i : Nat} {b : List Int} (h : Pu l i b) (hi : i < l.length) (hf : flt (l.getD i dI) b.length ≠ 0) : putR l = ([], flt (l.getD i dI) b.length, (i : Int)) := by
  unfold Pu at h
  rw [h, drop_getD hi, putG, if_pos hf]
theorem Pu.next {l : List Ins} {i : Nat} {b : List Int} (h : Pu l i b) (hi : i < l.length) (hf : flt (l.getD i dI) b.length = 0) : Pu l (i + 1) (b ++ encI (l.getD i dI)) := by
  unfold Pu at h ⊢
  rw [h, drop_getD hi, putG, if_neg (by rw [hf]; decide)]
theorem Pu.fin {l : List Ins} {b : List Int} (h : Pu l l.length b) : putR l = (b, 0, 0) := by
  unfold Pu at h
  rw [h, List.drop_length, putG]
theorem enc_siz {k : Nat} (h : k ≤ 4) (h0 : k ≠ 0) (A B C : Int) : 1 + ((enc (w0 k) A).length + ((enc (w1 k) B).length + (enc (w2 k) C).length)) = siz k := by
  rcases (by omega : k = 1 ∨ k = 2 ∨ k = 3 ∨ k = 4) with rfl | rfl | rfl | rfl <;> rfl
theorem kop_le (x : Ins) : kop x ≤ 4 := (rwo_nam x.op.toNat).2.1
theorem flt_ok {x : Ins} {n : Nat} (h : flt x n = 0) : kop x ≠ 0 ∧ x.at_ = (n : Int) ∧ okn (w0 (kop x)) x.a = true ∧ okn (w1 (kop x)) x.b = true ∧ okn (w2 (kop x)) x.c = true ∧ n + siz (kop x) ≤ 65535 ∧ (encI x).length = siz (kop x) := by
  unfold flt at h
  by_cases h1 : kop x = 0
  · rw [if_pos h1] at h
    exact absurd h (by decide)
  rw [if_neg h1] at h
  by_cases h2 : x.at_ ≠ (n : Int) ∨ fit3 (kop x) x.a x.b x.c = false
  · rw [if_pos h2] at h
    exact absurd h (by decide)
  rw [if_neg h2] at h
  by_cases h3 : 65535 < n + siz (kop x)
  · rw [if_pos h3] at h
    exact absurd h (by decide)
  have h4 : x.at_ = (n : Int) := by
    by_cases h9 : x.at_ = (n : Int)
    · exact h9
    · exact absurd (.inl h9) h2
  have h5 : fit3 (kop x) x.a x.b x.c = true := by
    cases h9 : fit3 (kop x) x.a x.b x.c with
    | true => rfl
    | false => exact absurd (.inr h9) h2
  unfold fit3 at h5
  simp only [Bool.and_eq_true] at h5
  refine ⟨h1, h4, h5.1, h5.2.1, h5.2.2, by omega, ?_⟩
  rw [← enc_siz (kop_le x) h1 x.a x.b x.c]
  unfold encI
  rw [List.length_cons, List.length_append, List.length_append]
  omega
/- what Put answers -/
def PutQ (l : List Ins) (W : World) (e : Ending) (w' : World) : Prop := ∃ v, e = .returned (.tuple #[v, .int .i64 (putR l).2.1, .int .i64 (putR l).2.2]) ∧ w'.ownsRow W.heap.size 5 1 v (putR l).1.length (bvs (putR l).1) ∧ Up W w'
set_option maxRecDepth 100000 in
set_option maxHeartbeats 16000000 in
theorem Put_ (v : Value) (l : List Ins) (W : World) (hv : ILs W v l) (hok : ∀ x ∈ l, InsOk x) (hn : l.length ≤ 1000000000000) : Calls Tryd.prog 25 #[v] W (PutQ l W) := by
  obtain ⟨Post, hPost⟩ : ∃ P : Ending → World → Prop, P = PutQ l W := ⟨_, rfl⟩
  rw [← hPost]
  have HPo : Hid (Post = PutQ l W) := hPost
  clear hPost
  obtain ⟨hz, -⟩ := zero_of_info (P := Tryd.prog) infoTbl
  obtain ⟨hzi, -⟩ := zero_of_info (P := Tryd.prog) infoIns
  obtain ⟨ad, c, rfl, hnc, hce⟩ := ils_at hv
  obtain ⟨n, hN⟩ : ∃ n, n = l.length := ⟨_, rfl⟩
  have HN : Hid (n = l.length) := hN
  rw [← hN] at hn hnc hce ⊢
  have HOK : Hid (∀ i, i < n → InsOk (l.getD i dI)) := fun i hi => hok _ (by
    rw [List.getD_eq_getElem?_getD, List.getElem?_eq_getElem (by omega)]
    exact List.getElem_mem _)
  have HCE : Hid _ := hce
  clear hv hok hN hce
  go_enter Tryd.func25, Tryd.ntmps25
  go_upto_region 1 with fail
  have HOP : Hid _ := opcodes_ W
  go_wp2_with fail
  refine Calls.mono HOP.out ?_
  rintro e0 W1 ⟨rfl, u1⟩
  obtain ⟨g, hg⟩ : ∃ g, g = W1.heap.size := ⟨_, rfl⟩
  have HGS : Hid (W.heap.size ≤ g) := by unfold Hid; rw [hg]; exact u1.size
  obtain ⟨W2, hW2⟩ : ∃ X, W1.alloc (.cells TBZ 80) = X := ⟨_, rfl⟩
  have g2 : W2.heap[g]? = some (.cells TBZ 80 (0, 0)) := by rw [← hW2, hg]; exact heap_alloc_new _ _
  obtain ⟨W3, hW3⟩ : ∃ X, W2.setRow g TBL = X := ⟨_, rfl⟩
  have HT : Hid (TBat W3 g) := by unfold Hid TBat; rw [← hW3]; exact setRow_heap _ _ _ _ _ _ g2
  have HUM : Hid (Up W W3) := by
    unfold Hid
    rw [← hW3]
    exact up_setRow (by rw [← hW2]; exact u1.alloc _) HGS.out _
  go_upto_region 2 with (first | (refine wpList_store_row rfl 80 (.tmp 5) (.tmp 10) (by first | rfl | (rw [hg]; rfl)) g TBL (by first | rfl | (rw [hg]; rfl)) (by rfl) 80 TBZ (by first | exact g2 | (rw [hW2]; exact g2)) (by rw [tbl_size]; exact sizeTbl) (by rw [tbl_size, tbz_size]) tbl_one ?_; refine wpList_world (by first | exact hW3 | (rw [hW2]; exact hW3)) ?_))
  try rw [← hg]
  try simp only [Act.put]
  clear hg hW2 g2 hW3 u1 HOP HGS
  clear hz
  have HUM2 : Hid (Up W W3) := HUM.out
  go_upto_region 3 with fail
  go_wp2_with fail
  go_loopw [6, 13] (fun s6 s13 V => ∃ (i k : Nat) (L : List Int) (sa : Option Addr) (sc : Nat), i ≤ n ∧ k ≤ 65535 ∧ s6 = .slice sa k sc ∧ s13 = .int .i64 (i : Int) ∧ Pu l i L ∧ WR W3 V (.slice sa k sc) k L) (fun _ s13 _ => n - (intOf s13).toNat)
  case atStart => exact ⟨0, 0, [], none, 0, by omega, by omega, rfl, rfl, rfl, ⟨World.ownsRow_nil _ _ _ _, rfl, Up.refl _⟩⟩
  case round =>
    obtain ⟨i, k, L, sa, sc, hi, hk, rfl, rfl, hpu, hwr⟩ := hrel
    have HPU : Hid (Pu l i L) := hpu
    have HWR : Hid (WR W3 wr (.slice sa k sc) k L) := hwr
    clear hpu hwr
    by_cases hlt : i < n
    · have hlt2 : (i : Int) < (n : Int) := by omega
      obtain ⟨b, off, rfl, hce⟩ := HCE.out (by omega)
      obtain ⟨x0, x1, x2, x3, x4⟩ := hce wr (HUM2.out.trans HWR.out.up) i hlt
      have HIO : Hid (InsOk (l.getD i dI)) := HOK.out i hlt
      have HBD : Hid (flt (l.getD i dI) k ≠ 0 → putR l = ([], flt (l.getD i dI) k, (i : Int))) := fun h => by
        have h9 := HPU.out.bad (by rw [← HN.out]; exact hlt) (by rw [HWR.out.len]; exact h)
        rw [HWR.out.len] at h9
        exact h9
      have HNX : Hid (flt (l.getD i dI) k = 0 → Pu l (i + 1) (L ++ encI (l.getD i dI))) := fun h => HPU.out.next (by rw [← HN.out]; exact hlt) (by rw [HWR.out.len]; exact h)
      have HFK : Hid (flt (l.getD i dI) k = 0 → _) := fun h => flt_ok h
      clear hce HPU
      generalize l.getD i dI = x at x0 x1 x2 x3 x4 HIO HBD HNX HFK
      obtain ⟨i1, i2, i3, i4, i5⟩ := x
      obtain ⟨d, rfl⟩ : ∃ d : Nat, i2 = (d : Int) := ⟨i2.toNat, by have h9 : 0 ≤ i2 := HIO.out.1; omega⟩
      have hd : d < 256 := by have h9 : (d : Int) < 256 := HIO.out.2; omega
      simp only at x0 x1 x2 x3 x4
      obtain ⟨r8, hr8⟩ : ∃ r, r = wr.heap.size := ⟨_, rfl⟩
      obtain ⟨W5, hW5⟩ : ∃ X, wr.alloc (.cells (insv zi) 28) = X := ⟨_, rfl⟩
      have g5 : W5.heap[r8]? = some (.cells (insv zi) 28 (0, 0)) := by rw [← hW5, hr8]; exact heap_alloc_new _ _
      obtain ⟨W6, hW6⟩ : ∃ X, W5.setRow r8 #[.int .i64 i1, .int .u8 (d : Int), .int .i64 i3, .int .i64 i4, .int .i64 i5] = X := ⟨_, rfl⟩
      have g6 : W6.heap[r8]? = some (.cells #[.int .i64 i1, .int .u8 (d : Int), .int .i64 i3, .int .i64 i4, .int .i64 i5] 28 (0, 0)) := by rw [← hW6]; exact setRow_heap _ _ _ _ _ _ g5
      have HU6 : Hid (Up wr W6) := by
        unfold Hid
        rw [← hW6]
        exact up_setRow (by rw [← hW5]; exact (Up.refl _).alloc _) (by rw [hr8]; exact Nat.le_refl _) _
      have HWR6 : Hid (WR W3 W6 (.slice sa k sc) k L) := HWR.out.upd HU6.out
      go_upto_region 6 with (first | (refine wpList_store_row rfl 28 (.tmp 8) (.tmp 17) (by first | rfl | (rw [hr8]; rfl)) r8 #[.int .i64 i1, .int .u8 (d : Int), .int .i64 i3, .int .i64 i4, .int .i64 i5] (by first | rfl | (rw [hr8]; rfl)) (by rfl) 28 (insv zi) (by first | exact g5 | (rw [hW5]; exact g5)) sizeIns rfl (by simp [Value.oneCell']) ?_; refine wpList_world (by first | exact hW6 | (rw [hW5]; exact hW6)) ?_))
      try rw [← hr8]
      try simp only [Act.put]
      clear hr8 hW5 g5 hW6 HU6 HWR x0 x1 x2 x3 x4
      have HFL : Hid _ := fault_ W6 g i1 i3 i4 i5 d k (HT.out.up HWR6.out.up) hd (by omega)
      go_wp2_with (first | (refine wpList_load_rowG (by rfl) 28 (.tmp 8) (by rfl) r8 (by rfl) 28 #[.int .i64 i1, .int .u8 (d : Int), .int .i64 i3, .int .i64 i4, .int .i64 i5] (0, 0) _ g6 Tryd.underlying28 (by rfl) sizeIns ?_))
      refine Calls.mono HFL.out ?_
      rintro e1 W7 ⟨rfl, u7⟩
      have g7 : W7.heap[r8]? = some (.cells #[.int .i64 i1, .int .u8 (d : Int), .int .i64 i3, .int .i64 i4, .int .i64 i5] 28 (0, 0)) := u7.heap g6
      have HWR7 : Hid (WR W3 W7 (.slice sa k sc) k L) := HWR6.out.upd u7
      clear g6 u7 HFL HWR6
      by_cases hf : flt ⟨i1, (d : Int), i3, i4, i5⟩ k = 0
      · obtain ⟨h1, h2, h3, h4, h5, h6, h7⟩ := HFK.out hf
        have hkop : kop ⟨i1, (d : Int), i3, i4, i5⟩ = knd d := by unfold kop; rw [Int.toNat_natCast]
        rw [hkop] at h3 h4 h5 h6 h7
        have HPU2 : Hid (Pu l (i + 1) (L ++ encI ⟨i1, (d : Int), i3, i4, i5⟩)) := HNX.out hf
        have HWT : Hid _ := write_ W3 W7 g i1 i3 i4 i5 d k sa sc L (HT.out.up HWR7.out.up) hd (by omega) HWR7.out h3 h4 h5
        have hln : (encI ⟨i1, (d : Int), i3, i4, i5⟩).length + k ≤ 65535 := by omega
        rw [hf]
        clear h1 h2 h3 h4 h5 h6 h7 hkop HBD HNX HFK hf
        generalize encI ⟨i1, (d : Int), i3, i4, i5⟩ = en at HPU2 HWT hln
        go_wp2_with (first | (refine wpList_load_rowG (by rfl) 28 (.tmp 8) (by rfl) r8 (by rfl) 28 #[.int .i64 i1, .int .u8 (d : Int), .int .i64 i3, .int .i64 i4, .int .i64 i5] (0, 0) _ g7 Tryd.underlying28 (by rfl) sizeIns ?_))
        refine Calls.mono HWT.out ?_
        rintro e1 W8 ⟨v8, rfl, hw8⟩
        obtain ⟨sa2, sc2, rfl⟩ := row_val hw8.row
        have HWR8 : Hid (WR W3 W8 (.slice sa2 (k + en.length) sc2) (k + en.length) (L ++ en)) := hw8
        generalize en.length = el at HWR8 hln ⊢
        clear hw8 HWT HWR7 g7
        go_wp2_with fail
        go_roundw
        case rel => exact ⟨i + 1, k + el, L ++ en, sa2, sc2, by omega, by omega, rfl, by first | rfl | go_num, HPU2.out, HWR8.out⟩
        case measure => simp [intOf]; omega
      · have HRS : Hid (putR l = ([], flt ⟨i1, (d : Int), i3, i4, i5⟩ k, (i : Int))) := HBD.out hf
        clear HBD HNX HFK
        generalize flt ⟨i1, (d : Int), i3, i4, i5⟩ k = fl at HRS hf ⊢
        have hfb : (fl == 0) = false := by simpa using hf
        go_wp2_with fail
        rw [HPo.out]
        refine ⟨.slice none 0 0, (by rw [HRS.out]; try rfl), by rw [HRS.out]; exact World.ownsRow_nil _ _ _ _, HUM2.out.trans HWR7.out.up⟩
    · have hlt2 : ¬ (i : Int) < (n : Int) := by omega
      have HRS : Hid (putR l = (L, 0, 0)) := by
        have h9 := HPU.out
        have h8 : i = l.length := by have := HN.out; omega
        rw [h8] at h9
        exact h9.fin
      go_wp2_with fail
      rw [HPo.out]
      refine ⟨.slice sa k sc, (by rw [HRS.out]; try rfl), by rw [HRS.out]; show wr.ownsRow W.heap.size 5 1 (.slice sa k sc) L.length (bvs L); rw [HWR.out.len]; exact ows_base HWR.out.row HUM2.out.size, HUM2.out.trans HWR.out.up⟩
end CD
end Go.Proofs.YtoaaehgnbapibaaDoor
