
/-
  The line and the column of a place.
-/
import Derived.Test.YtjjikeehifndhaaDoorCo8
import Derived.Test.YtjjikeehifndhaaDoorLp8
import Derived.Test.YtjjikeehifndhaaDoorSh8
import Derived.Handy
namespace Go.Proofs.YtjjikeehifndhaaDoor
open Go.RowKit
attribute [local go_sem ↓] Go.wp_at_zero Go.wp_at_succ
namespace TK
/- a list of bytes that is nil, or lies at its block -/
theorem w64e (x : Int) : IntKind.i64.wrap x = wrap64 x := by rw [IntKind.wrap_i64, wrap64]
def LV (w : World) (v : Value) (B : List Int) : Prop := (v = .slice none 0 0 ∧ B = []) ∨ ∃ b o c, v = .slice (some ⟨b, o, none⟩) B.length c ∧ B.length ≤ c ∧ BA w b o B
theorem LV.up {w W : World} {v : Value} {B : List Int} (h : LV w v B) (u : Up w W) : LV W v B := by
  rcases h with h | ⟨b, o, c, h1, h2, h3⟩
  · exact .inl h
  · exact .inr ⟨b, o, c, h1, h2, h3.up u⟩
theorem own_lv {W : World} {base : Nat} {v : Value} {l : List Int} (h : W.ownsRow base 5 1 v l.length (bvs l)) : LV W v l := by
  have h0 := h
  rcases h.2 with ⟨rfl, h1⟩ | ⟨g, cap, cur, rfl, h1, h2, h3, h4⟩
  · exact .inl ⟨rfl, List.eq_nil_of_length_eq_zero h1⟩
  · refine .inr ⟨g, 0, cap, rfl, h3, fun W' u j hj => ?_⟩
    have h9 := h0.cellAt j (by omega)
    rw [bvs_at hj] at h9
    rw [Nat.zero_add]
    exact u.cell h9
set_option maxRecDepth 100000 in
set_option maxHeartbeats 8000000 in
theorem lastA_ (b o c k : Nat) (B : List Int) (w : World) (h : BA w b o B) (hk : k ≤ B.length) (hn : B.length ≤ 4611686018427387904) :
    Calls Tryd.prog 85 #[.slice (some ⟨b, o, none⟩) k c, .int .u8 10] w fun e w' => ∃ r, e = .returned (.int .i64 r) ∧ Lst B k r ∧ w' = w := by
  obtain ⟨Post, hPost⟩ : ∃ P : Ending → World → Prop, P = fun e w' => ∃ r, e = .returned (.int .i64 r) ∧ Lst B k r ∧ w' = w := ⟨_, rfl⟩
  rw [← hPost]
  have HPo : Hid (Post = fun e w' => ∃ r, e = .returned (.int .i64 r) ∧ Lst B k r ∧ w' = w) := hPost
  have HB : Hid (∀ i, i < k → w.cell? ⟨b, o + i, none⟩ = some (.int .u8 (B.getD i 0))) := fun i hi => h w (Up.refl _) i (by omega)
  have hk2 : k ≤ 4611686018427387904 := by omega
  clear h hk hn hPost
  have e0 : IntKind.i64.wrap ((k : Int) - 1) = (k : Int) - 1 := by rw [IntKind.wrap_i64]; omega
  go_enter Tryd.func85, Tryd.ntmps85
  go_wp2_with fail
  go_loopw [5] (fun s5 W => ∃ i : Nat, i ≤ k ∧ s5 = .int .i64 ((i : Int) - 1) ∧ (∀ j, i ≤ j → j < k → B.getD j 0 ≠ 10) ∧ W = w) (fun s5 _ => (intOf s5 + 1).toNat)
  case atStart => exact ⟨k, Nat.le_refl _, rfl, fun j h1 h2 => by omega, rfl⟩
  case round =>
    obtain ⟨i, hi, rfl, hj, rfl⟩ := hrel
    have HJ : Hid (∀ j, i ≤ j → j < k → B.getD j 0 ≠ 10) := hj
    clear hj e0
    by_cases h0 : 0 < i
    · obtain ⟨q, rfl⟩ : ∃ q, i = q + 1 := ⟨i - 1, by omega⟩
      have e1 : (((q + 1 : Nat) : Int) - 1) = (q : Int) := by omega
      rw [e1]
      have hx := HB.out q (by omega)
      have e2 : (0 : Int) ≤ (q : Int) := by omega
      have e3 : IntKind.i64.wrap ((q : Int) - 1) = (q : Int) - 1 := by rw [IntKind.wrap_i64]; omega
      have hqk : (q : Int) < (k : Int) := by omega
      have HY : Hid (∀ d, d = B.getD q 0 → (d = 10 → Lst B k q) ∧ (d ≠ 10 → ∀ j, q ≤ j → j < k → B.getD j 0 ≠ 10)) := fun d hd => ⟨fun h9 => .inr ⟨q, by omega, rfl, by rw [← hd]; exact h9, fun j h1 h2 => HJ.out j h1 h2⟩, fun h9 j h1 h2 => by
        by_cases hjq : j = q
        · subst hjq; rw [← hd]; exact h9
        · exact HJ.out j (by omega) h2⟩
      have HYY := HY.out _ rfl
      clear e1 HY
      generalize B.getD q 0 = d at *
      by_cases hd : d = 10
      · have HL : Hid (Lst B k q) := HYY.1 hd
        subst hd
        clear HYY
        go_wp2_with fail
        rw [HPo.out]
        exact ⟨_, rfl, HL.out, by trivial⟩
      · have HL : Hid (∀ j, q ≤ j → j < k → B.getD j 0 ≠ 10) := HYY.2 hd
        have hd2 : (d == 10) = false := by simpa using hd
        clear HYY
        go_wp2_with fail
        go_roundw
        case rel => exact ⟨q, by omega, by go_num, HL.out, by trivial⟩
        case measure => simp [intOf]; try omega
    · obtain rfl : i = 0 := by omega
      have HL : Hid (Lst B k (-1)) := .inl ⟨rfl, fun j hj => HJ.out j (Nat.zero_le _) hj⟩
      go_wp2_with fail
      rw [HPo.out]
      exact ⟨_, rfl, HL.out, by trivial⟩
set_option maxRecDepth 100000 in
set_option maxHeartbeats 8000000 in
theorem lastN_ (w : World) : Calls Tryd.prog 85 #[.slice none 0 0, .int .u8 10] w fun e w' => ∃ r, e = .returned (.int .i64 r) ∧ Lst [] 0 r ∧ w' = w := by
  go_enter Tryd.func85, Tryd.ntmps85
  go_wp2
  go_rounds 1
  go_ret
  exact ⟨-1, rfl, .inl ⟨rfl, fun j hj => by omega⟩, rfl⟩
set_option maxRecDepth 100000 in
set_option maxHeartbeats 8000000 in
theorem last_ (v : Value) (B : List Int) (k : Nat) (w : World) (h : Calls Tryd.prog 85 #[v, .int .u8 10] w fun e w' => ∃ r, e = .returned (.int .i64 r) ∧ Lst B k r ∧ w' = w) : Calls Tryd.prog 56 #[v, .int .u8 10] w fun e w' => ∃ r, e = .returned (.int .i64 r) ∧ Lst B k r ∧ w' = w := by
  have H : Hid (Calls Tryd.prog 85 #[v, .int .u8 10] w fun e w' => ∃ r, e = .returned (.int .i64 r) ∧ Lst B k r ∧ w' = w) := h
  clear h
  go_enter Tryd.func56, Tryd.ntmps56
  go_wp2_with fail
  refine Calls.mono H.out ?_
  rintro e w' ⟨r, rfl, h1, h2⟩
  obtain rfl := h2.symm
  go_wp2
  go_ret
  exact ⟨r, rfl, h1, rfl⟩
/- what Line answers -/
def lnA (B : List Int) (k : Int) : Int × Int := if 0 ≤ k ∧ k ≤ B.length then ln (B.take k.toNat) else (0, 0)
theorem lnA_in {B : List Int} {k : Nat} (h : k ≤ B.length) : lnA B k = ln (B.take k) := by
  unfold lnA
  rw [if_pos ⟨by omega, by omega⟩, Int.toNat_natCast]
theorem lnA_out {B : List Int} {k : Int} (h : k < 0 ∨ (B.length : Int) < k) : lnA B k = (0, 0) := by
  unfold lnA
  rw [if_neg (by omega)]
set_option maxRecDepth 100000 in
set_option maxHeartbeats 8000000 in
theorem line_ (v : Value) (B : List Int) (k : Int) (w : World) (hv : LV w v B) (hby : Byt B) (hn : B.length ≤ 4611686018427387904) :
    Calls Tryd.prog 20 #[v, .int .i64 k] w fun e w' => e = .returned (.tuple #[.int .i64 (lnA B k).1, .int .i64 (lnA B k).2]) ∧ Up w w' := by
  obtain ⟨Post, hPost⟩ : ∃ P : Ending → World → Prop, P = fun e w' => e = .returned (.tuple #[.int .i64 (lnA B k).1, .int .i64 (lnA B k).2]) ∧ Up w w' := ⟨_, rfl⟩
  rw [← hPost]
  have HPo : Hid (Post = fun e w' => e = .returned (.tuple #[.int .i64 (lnA B k).1, .int .i64 (lnA B k).2]) ∧ Up w w') := hPost
  clear hPost
  obtain ⟨n, hN⟩ : ∃ n, n = B.length := ⟨_, rfl⟩
  have HN : Hid (n = B.length) := hN
  obtain ⟨a, c, hvv⟩ : ∃ a c, v = .slice a n c := by
    rcases hv with ⟨rfl, rfl⟩ | ⟨b, o, c, rfl, -⟩
    · exact ⟨none, 0, by rw [hN]; rfl⟩
    · exact ⟨_, _, by rw [hN]⟩
  by_cases h0 : k < 0
  · have HR : Hid (lnA B k = (0, 0)) := lnA_out (.inl h0)
    subst hvv
    clear hv hby
    go_enter Tryd.func20, Tryd.ntmps20
    go_wp2_with fail
    rw [HPo.out]
    exact ⟨by rw [HR.out] <;> rfl, Up.refl _⟩
  · have h0b : ¬ k < 0 := h0
    by_cases h1 : (n : Int) < k
    · have HR : Hid (lnA B k = (0, 0)) := lnA_out (.inr (by omega))
      subst hvv
      clear hv hby
      go_enter Tryd.func20, Tryd.ntmps20
      go_wp2_with fail
      rw [HPo.out]
      exact ⟨by rw [HR.out] <;> rfl, Up.refl _⟩
    · obtain ⟨q, rfl⟩ : ∃ q : Nat, k = q := ⟨k.toNat, by omega⟩
      have hq : q ≤ n := by omega
      have HR : Hid (lnA B q = ln (B.take q)) := lnA_in (by omega)
      have HLI := ln_lin hby q (by omega)
      have HIN := ln_in (B := B) q (by omega)
      have HCO : Hid (∀ r, Lst B q r → (ln (B.take q)).2 = (q : Int) - r) := fun r h9 => ln_col (by have := HN.out; omega) h9
      have HLS : Hid (∀ r, Lst B q r → -1 ≤ r ∧ r ≤ q) := fun r h9 => by
        rcases h9 with ⟨rfl, -⟩ | ⟨i, hi, rfl, -⟩ <;> omega
      obtain ⟨W0, hW0⟩ : ∃ W, w.alloc (.cells #[.int .u8 10] 5) = W := ⟨_, rfl⟩
      have hg0 : W0.cell? ⟨w.heap.size, 0, none⟩ = some (.int .u8 10) := by
        have h9 := heap_alloc_new w (.cells #[.int .u8 10] 5)
        rw [← hW0]
        simp only [World.cell?, h9]
        rfl
      have u0 : Up w W0 := by rw [← hW0]; exact (Up.refl _).alloc _
      have HC : Hid (Calls Tryd.prog 55 #[.slice a q c, .slice (some ⟨w.heap.size, 0, none⟩) 1 1] W0 fun e w' => e = .returned (.int .i64 (Lib.countByte (Lib.bytesOf (B.take q)) 10 : Nat)) ∧ w' = W0) := by
        rcases hv with ⟨h2, rfl⟩ | ⟨b, o, c', h2, h3, h4⟩
        · rw [hvv] at h2
          cases h2
          obtain rfl : q = 0 := by have := HN.out; simp at this; omega
          exact Any.bytes_Count_one_nil Tryd.laysSlB13 w.heap.size 0 1 10 W0 hg0
        · rw [hvv, hN] at h2
          cases h2
          exact Any.bytes_Count_one Tryd.laysSlB13 b o q c w.heap.size 0 1 (B.take q) 10 W0 (by rw [List.length_take]; omega) (fun i hi => by
            have h9 := h4 W0 u0 i (by omega)
            rw [h9, List.getD_eq_getElem?_getD, List.getD_eq_getElem?_getD, List.getElem?_take_of_lt hi]) hg0
      have HL : Hid (Calls Tryd.prog 56 #[.slice a q c, .int .u8 10] W0 fun e w' => ∃ r, e = .returned (.int .i64 r) ∧ Lst B q r ∧ w' = W0) := by
        rcases hv with ⟨h2, rfl⟩ | ⟨b, o, c', h2, h3, h4⟩
        · rw [hvv] at h2
          cases h2
          obtain rfl : q = 0 := by have := HN.out; simp at this; omega
          exact last_ _ [] 0 W0 (lastN_ W0)
        · rw [hvv, hN] at h2
          cases h2
          exact last_ _ B q W0 (lastA_ b o c q B W0 (h4.up u0) (by omega) hn)
      have hcap : q ≤ c := by
        rcases hv with ⟨h2, rfl⟩ | ⟨b, o, c', h2, h3, h4⟩
        · have := HN.out; simp at this; omega
        · rw [hvv, hN] at h2
          cases h2
          omega
      have HA : Hid (a = none → q = 0 ∧ n = 0 ∧ c = 0) := fun h9 => by
        rcases hv with ⟨h2, rfl⟩ | ⟨b, o, c', h2, h3, h4⟩
        · rw [hvv] at h2
          cases h2
          have := HN.out
          simp at this
          omega
        · rw [hvv, h9] at h2
          cases h2
      have hn2 : n ≤ 4611686018427387904 := by omega
      have HU : Hid (Up w W0) := u0
      subst hvv
      clear hv hby hN u0 hg0 hn
      obtain ⟨x, hx⟩ : ∃ x : Nat, x = Lib.countByte (Lib.bytesOf (B.take q)) 10 := ⟨_, rfl⟩
      rw [← hx] at HLI HC
      clear hx
      generalize hln : ln (B.take q) = y at *
      clear hln
      obtain ⟨y1, y2⟩ := y
      have e1 : IntKind.i64.wrap (1 + (x : Int)) = y1 := by rw [IntKind.wrap_i64]; simp at HLI HIN; omega
      have HY2 : Hid (∀ r, Lst B q r → IntKind.i64.wrap ((q : Int) - r) = y2) := fun r h9 => by
        have h8 : y2 = (q : Int) - r := HCO.out r h9
        have h7 := HLS.out r h9
        rw [IntKind.wrap_i64]
        omega
      have eW : wrap64 (1 + (x : Int)) = y1 := by rw [← w64e]; exact e1
      have HW2 : Hid (∀ r, Lst B q r → wrap64 ((q : Int) - r) = y2) := fun r h9 => by rw [← w64e]; exact HY2.out r h9
      clear HLI HIN HCO HLS
      cases a with
      | none =>
        obtain ⟨rfl, rfl, rfl⟩ := HA.out rfl
        go_enter Tryd.func20, Tryd.ntmps20
        go_wp2_with fail
        first | refine calls_world hW0 (Calls.mono HC.out ?_) | refine Calls.mono HC.out ?_
        rintro r9 W1 ⟨rfl, hw⟩
        obtain rfl := hw.symm
        clear hw
        go_wp2_with fail
        refine Calls.mono HL.out ?_
        rintro r9 W1 ⟨r, rfl, hl, hw⟩
        obtain rfl := hw.symm
        have e2 := HY2.out r hl
        have e3 := HW2.out r hl
        have e4 : wrap64 (-r) = y2 := by simpa using e3
        clear hl hw HY2 HW2
        go_wp2_with fail
        rw [HPo.out]
        refine ⟨?_, HU.out⟩
        rw [HR.out, ← e4] <;> rfl
      | some ad =>
        obtain ⟨b, o, m⟩ := ad
        go_enter Tryd.func20, Tryd.ntmps20
        go_wp2_with fail
        first | refine calls_world hW0 (Calls.mono HC.out ?_) | refine Calls.mono HC.out ?_
        rintro r9 W1 ⟨rfl, hw⟩
        obtain rfl := hw.symm
        clear hw
        go_wp2_with fail
        refine Calls.mono HL.out ?_
        rintro r9 W1 ⟨r, rfl, hl, hw⟩
        obtain rfl := hw.symm
        have e2 := HY2.out r hl
        have e3 := HW2.out r hl
        clear hl hw HY2 HW2
        go_wp2_with fail
        rw [HPo.out]
        refine ⟨?_, HU.out⟩
        rw [HR.out] <;> rfl
end TK
end Go.Proofs.YtjjikeehifndhaaDoor
