
/-
  What is not right of an instruction.
-/
import Derived.Test.YtoaaehgnbapibaaDoorWh16
namespace Go.Proofs.YtoaaehgnbapibaaDoor
open Go.RowKit
attribute [local go_sem ↓] Go.wp_at_zero Go.wp_at_succ
namespace CD
def fit3 (k : Nat) (A B C : Int) : Bool := okn (w0 k) A && (okn (w1 k) B && okn (w2 k) C)
def kop (x : Ins) : Nat := knd x.op.toNat
def flt (x : Ins) (ahead : Nat) : Int := if kop x = 0 then 40 else if x.at_ ≠ (ahead : Int) ∨ fit3 (kop x) x.a x.b x.c = false then 1 else if 65535 < ahead + siz (kop x) then 56 else 0
theorem wd0 {k : Nat} (h : k ≤ 4) : Wd (w0 k) ∧ Wd (w1 k) ∧ Wd (w2 k) := by
  rcases (by omega : k = 0 ∨ k = 1 ∨ k = 2 ∨ k = 3 ∨ k = 4) with rfl | rfl | rfl | rfl | rfl <;> (unfold Wd w0 w1 w2; decide)
set_option maxRecDepth 100000 in
set_option maxHeartbeats 16000000 in
theorem fault_ (W : World) (g : Nat) (i1 A B C : Int) (d n : Nat) (hT : TBat W g) (hd : d < 256) (hn : n ≤ 1000000) : Calls Tryd.prog 60 #[.pointer (some ⟨g, 0, none⟩), .agg #[.int .i64 i1, .int .u8 (d : Int), .int .i64 A, .int .i64 B, .int .i64 C], .int .i64 (n : Int)] W fun e w' => e = .returned (.int .i64 (flt ⟨i1, (d : Int), A, B, C⟩ n)) ∧ Up W w' := by
  obtain ⟨Post, hPost⟩ : ∃ P : Ending → World → Prop, P = fun e w' => e = .returned (.int .i64 (flt ⟨i1, (d : Int), A, B, C⟩ n)) ∧ Up W w' := ⟨_, rfl⟩
  rw [← hPost]
  have HPo : Hid (Post = fun e w' => e = .returned (.int .i64 (flt ⟨i1, (d : Int), A, B, C⟩ n)) ∧ Up W w') := hPost
  clear hPost
  obtain ⟨hzr, -⟩ := zero_of_info (P := Tryd.prog) infoRow
  obtain ⟨r4, hr4⟩ : ∃ g, g = W.heap.size := ⟨_, rfl⟩
  obtain ⟨W0, hW0⟩ : ∃ X, W.alloc (.cells #[.int .i64 i1, .int .u8 (d : Int), .int .i64 A, .int .i64 B, .int .i64 C] 28) = X := ⟨_, rfl⟩
  have g4 : W0.heap[r4]? = some (.cells #[.int .i64 i1, .int .u8 (d : Int), .int .i64 A, .int .i64 B, .int .i64 C] 28 (0, 0)) := by rw [← hW0, hr4]; exact heap_alloc_new _ _
  have HU0 : Hid (Up W W0) := by unfold Hid; rw [← hW0]; exact (Up.refl _).alloc _
  have HT : Hid (TBat W0 g) := hT.up HU0.out
  clear hT
  go_enter Tryd.func60, Tryd.ntmps60
  go_upto_region 1 with fail
  try rw [hW0]
  try rw [← hr4]
  clear hW0 hr4
  have c1 : W0.cell? ⟨r4, 1, none⟩ = some (.int .u8 (d : Int)) := by simp only [World.cell?, g4]; rfl
  have HRW : Hid _ := row_ W0 g d HT.out hd
  have HSZ : Hid _ := size_ d
  obtain ⟨hk1, hk2, hk3⟩ := rwo_nam d
  have HKN : Hid ((strOfNums (nam d)).toList.isEmpty = decide (knd d = 0)) := by
    unfold Hid
    by_cases hk : knd d = 0
    · have e : nam d = [] := hk1.2 hk
      rw [e, hk, nums_list]
      rfl
    · rw [nums_ne (l := nam d) (fun h => hk (hk1.1 h)), decide_eq_false hk]
  have hv : rwv (rwo d) = #[.string (strOfNums (nam d)), .int .i64 (w0 (knd d)), .int .i64 (w1 (knd d)), .int .i64 (w2 (knd d)), fnv (knd d)] := rfl
  have hwd := wd0 hk2
  rw [hv] at HRW HSZ
  have HFI : Hid _ := fits_ (strOfNums (nam d)) (w0 (knd d)) (w1 (knd d)) (w2 (knd d)) (fnv (knd d)) A B C hwd.1 hwd.2.1 hwd.2.2
  have HF0 : Hid (knd d = 0 → flt ⟨i1, (d : Int), A, B, C⟩ n = 40) := fun h => by
    unfold flt kop
    rw [if_pos (by rw [Int.toNat_natCast]; exact h)]
  have HF1 : Hid (knd d ≠ 0 → (i1 ≠ (n : Int) ∨ (okn (w0 (knd d)) A && (okn (w1 (knd d)) B && okn (w2 (knd d)) C)) = false) → flt ⟨i1, (d : Int), A, B, C⟩ n = 1) := fun h h1 => by
    unfold flt kop fit3
    rw [if_neg (by rw [Int.toNat_natCast]; exact h), if_pos (by rw [Int.toNat_natCast]; exact h1)]
  have HF2 : Hid (knd d ≠ 0 → i1 = (n : Int) → (okn (w0 (knd d)) A && (okn (w1 (knd d)) B && okn (w2 (knd d)) C)) = true → flt ⟨i1, (d : Int), A, B, C⟩ n = if 65535 < n + siz (knd d) then 56 else 0) := fun h h1 h2 => by
    unfold flt kop fit3
    rw [if_neg (by rw [Int.toNat_natCast]; exact h), if_neg (by rw [Int.toNat_natCast]; simp only [h2]; simp [h1]), Int.toNat_natCast]
  obtain ⟨s, hs⟩ : ∃ s, s = strOfNums (nam d) := ⟨_, rfl⟩
  have HON : Hid ((#[.string (strOfNums (nam d)), .int .i64 (w0 (knd d)), .int .i64 (w1 (knd d)), .int .i64 (w2 (knd d)), fnv (knd d)] : Array Value).all (·.oneCell') = true) := by
    unfold Hid
    have h9 := fnv_one (knd d)
    simp [Value.oneCell'] at h9 ⊢
    exact h9
  rw [← hs] at HRW HSZ HKN HFI HON
  have hs5 := siz_le (knd d)
  generalize w0 (knd d) = a at HRW HSZ HFI HON HF1 HF2
  generalize w1 (knd d) = b at HRW HSZ HFI HON HF1 HF2
  generalize w2 (knd d) = c at HRW HSZ HFI HON HF1 HF2
  generalize fnv (knd d) = f at HRW HSZ HFI HON
  have HHS : Hid _ := has_ s a b c f
  generalize siz (knd d) = sz at HSZ HF2 hs5
  generalize hK : knd d = k at HKN HF0 HF1 HF2
  clear hK hk1 hk2 hk3 hv hwd hs
  generalize flt ⟨i1, (d : Int), A, B, C⟩ n = fl at HPo HF0 HF1 HF2
  go_wp2_with fail
  refine Calls.mono HRW.out ?_
  rintro e1 W1 ⟨rfl, u1⟩
  obtain ⟨r7, hr7⟩ : ∃ r, r = W1.heap.size := ⟨_, rfl⟩
  obtain ⟨W2, hW2⟩ : ∃ X, W1.alloc (.cells (rwv ([], 0)) 78) = X := ⟨_, rfl⟩
  have g7 : W2.heap[r7]? = some (.cells (rwv ([], 0)) 78 (0, 0)) := by rw [← hW2, hr7]; exact heap_alloc_new _ _
  obtain ⟨W3, hW3⟩ : ∃ X, W2.setRow r7 #[.string s, .int .i64 a, .int .i64 b, .int .i64 c, f] = X := ⟨_, rfl⟩
  have g7c : W3.heap[r7]? = some (.cells #[.string s, .int .i64 a, .int .i64 b, .int .i64 c, f] 78 (0, 0)) := by rw [← hW3]; exact setRow_heap _ _ _ _ _ _ g7
  have HU13 : Hid (Up W1 W3) := by
    unfold Hid
    rw [← hW3]
    exact up_setRow (by rw [← hW2]; exact (Up.refl _).alloc _) (by rw [hr7]; exact Nat.le_refl _) _
  have HU03 : Hid (Up W0 W3) := Up.trans u1 HU13.out
  go_upto_region 2 with (first | (refine wpList_store_row rfl 78 (.tmp 7) (.tmp 11) (by first | rfl | (rw [hr7]; rfl)) r7 #[.string s, .int .i64 a, .int .i64 b, .int .i64 c, f] (by first | rfl | (rw [hr7]; rfl)) (by rfl) 78 (rwv ([], 0)) (by first | exact g7 | (rw [hW2]; exact g7)) sizeRow rfl HON.out ?_; refine wpList_world (by first | exact hW3 | (rw [hW2]; exact hW3)) ?_))
  try rw [← hr7]
  try simp only [Act.put]
  clear hr7 hW2 hW3 g7 u1 hzr HU13 HRW c1
  go_wp2_with (first | (refine wpList_load_rowG (by rfl) 78 (.tmp 7) (by rfl) r7 (by rfl) 78 #[.string s, .int .i64 a, .int .i64 b, .int .i64 c, f] (0, 0) _ g7c Tryd.underlying78 (by rfl) sizeRow ?_))
  refine Calls.mono (HHS.out _) ?_
  rintro e1 W4 ⟨rfl, u4⟩
  rw [HKN.out]
  have g7d : W4.heap[r7]? = some (.cells #[.string s, .int .i64 a, .int .i64 b, .int .i64 c, f] 78 (0, 0)) := u4.heap g7c
  have HU4 : Hid (Up W0 W4) := HU03.out.trans u4
  have g4d : W4.heap[r4]? = some (.cells #[.int .i64 i1, .int .u8 (d : Int), .int .i64 A, .int .i64 B, .int .i64 C] 28 (0, 0)) := HU4.out.heap g4
  clear g7c u4 HU03 HHS g4
  by_cases hk0 : k = 0
  · rw [decide_eq_true hk0]
    have HFL : Hid (fl = 40) := HF0.out hk0
    go_wp2_with fail
    rw [HPo.out]
    exact ⟨by rw [HFL.out]; rfl, HU0.out.trans HU4.out⟩
  rw [decide_eq_false hk0]
  have y0 : W4.cell? ⟨r4, 0, none⟩ = some (.int .i64 i1) := by simp only [World.cell?, g4d]; rfl
  have y2 : W4.cell? ⟨r4, 2, none⟩ = some (.int .i64 A) := by simp only [World.cell?, g4d]; rfl
  have y3 : W4.cell? ⟨r4, 3, none⟩ = some (.int .i64 B) := by simp only [World.cell?, g4d]; rfl
  have y4 : W4.cell? ⟨r4, 4, none⟩ = some (.int .i64 C) := by simp only [World.cell?, g4d]; rfl
  clear g4d
  by_cases hat : i1 = (n : Int)
  · have HFA : Hid (i1 = (n : Int)) := hat
    have hatb : (i1 == (n : Int)) = true := by simpa using hat
    have hatn : (i1 != (n : Int)) = false := by simp [hat]
    clear hat
    go_wp2_with (first | (refine wpList_load_rowG (by rfl) 78 (.tmp 7) (by rfl) r7 (by rfl) 78 #[.string s, .int .i64 a, .int .i64 b, .int .i64 c, f] (0, 0) _ g7d Tryd.underlying78 (by rfl) sizeRow ?_))
    refine Calls.mono (HFI.out _) ?_
    rintro e1 W5 ⟨rfl, u5⟩
    have g7e : W5.heap[r7]? = some (.cells #[.string s, .int .i64 a, .int .i64 b, .int .i64 c, f] 78 (0, 0)) := u5.heap g7d
    have HU5 : Hid (Up W0 W5) := HU4.out.trans u5
    clear g7d u5 HU4 HFI y0 y2 y3 y4
    cases hfi : (okn a A && (okn b B && okn c C)) with
    | false =>
      have HFL : Hid (fl = 1) := HF1.out hk0 (.inr hfi)
      clear hfi
      go_wp2_with fail
      rw [HPo.out]
      exact ⟨by rw [HFL.out]; rfl, HU0.out.trans HU5.out⟩
    | true =>
      have HF3 : Hid (fl = if 65535 < n + sz then 56 else 0) := HF2.out hk0 HFA.out hfi
      clear hfi
      have e1 : IntKind.i64.wrap ((n : Int) + ((sz : Nat) : Int)) = (n : Int) + (sz : Int) := by rw [IntKind.wrap_i64]; omega
      go_wp2_with (first | (refine wpList_load_rowG (by rfl) 78 (.tmp 7) (by rfl) r7 (by rfl) 78 #[.string s, .int .i64 a, .int .i64 b, .int .i64 c, f] (0, 0) _ g7e Tryd.underlying78 (by rfl) sizeRow ?_))
      refine Calls.mono (HSZ.out _) ?_
      rintro e2 W6 ⟨rfl, u6⟩
      have HU6 : Hid (Up W0 W6) := HU5.out.trans u6
      clear g7e u6
      by_cases hlm : 65535 < n + sz
      · have hlm2 : (65535 : Int) < (n : Int) + (sz : Int) := by omega
        have HFL : Hid (fl = 56) := by unfold Hid; rw [HF3.out, if_pos hlm]
        go_wp2_with fail
        rw [HPo.out]
        exact ⟨by rw [HFL.out]; rfl, HU0.out.trans HU6.out⟩
      · have hlm2 : ¬ (65535 : Int) < (n : Int) + (sz : Int) := by omega
        have HFL : Hid (fl = 0) := by unfold Hid; rw [HF3.out, if_neg hlm]
        go_wp2_with fail
        rw [HPo.out]
        exact ⟨by rw [HFL.out]; rfl, HU0.out.trans HU6.out⟩
  · have HFL : Hid (fl = 1) := HF1.out hk0 (.inl hat)
    have hatb : (i1 == (n : Int)) = false := by simpa using hat
    go_wp2_with (first | (refine wpList_load_rowG (by rfl) 78 (.tmp 7) (by rfl) r7 (by rfl) 78 #[.string s, .int .i64 a, .int .i64 b, .int .i64 c, f] (0, 0) _ g7d Tryd.underlying78 (by rfl) sizeRow ?_))
    rw [HPo.out]
    exact ⟨by rw [HFL.out]; rfl, HU0.out.trans HU4.out⟩
end CD
end Go.Proofs.YtoaaehgnbapibaaDoor
