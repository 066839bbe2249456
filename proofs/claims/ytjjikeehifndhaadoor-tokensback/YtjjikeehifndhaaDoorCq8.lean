
/-
  Texts in quotes.
-/
import Derived.Test.YtjjikeehifndhaaDoorCo8
import Derived.Test.YtjjikeehifndhaaDoorTail
import Derived.Handy
namespace Go.Proofs.YtjjikeehifndhaaDoor
open Go.RowKit
attribute [local go_sem ↓] Go.wp_at_zero Go.wp_at_succ
namespace TK
theorem conv_own {W : World} {base : Nat} {v : Value} {l : List Int} (h : W.ownsRow base 5 1 v l.length (bvs l)) : (convert 22 9 v).run Tryd.prog W = .ok (.string (strOfNums l)) W := by
  rcases h.2 with ⟨rfl, h0⟩ | ⟨g, cap, cur, rfl, -⟩
  · obtain rfl : l = [] := List.eq_nil_of_length_eq_zero h0
    exact run_convert_bytes_nil W 22 5 Tryd.underlying22 Tryd.underlying5 0 0 9 Tryd.underlying9
  · refine run_convert_bytes_arg W 22 5 Tryd.underlying22 Tryd.underlying5 g 0 l.length cap l rfl (fun i hi => ?_) 9 Tryd.underlying9
    rw [Nat.zero_add, h.cellAt i (by omega), bvs_at hi]
def tx (B : List Int) (p : Nat) : Stp := txt B p (B.length - p) (p + 1) []
/- what is still to be read of a text, from the place i on -/
def Tx (B : List Int) (p i : Nat) (acc : List Int) : Prop := ∃ m, B.length - i ≤ m ∧ tx B p = txt B p (m + 1) i acc
theorem tx_start {B : List Int} {p : Nat} (h : p < B.length) : Tx B p (p + 1) [] := ⟨B.length - p - 1, by omega, by unfold tx; congr 1; omega⟩
theorem tx_end {B : List Int} {p i : Nat} {acc : List Int} (h : Tx B p i acc) (hi : ¬ i < B.length) : tx B p = .bad p := by
  obtain ⟨m, -, h⟩ := h
  rw [h, txt, if_pos hi]
theorem tx_nl {B : List Int} {p i : Nat} {acc : List Int} (h : Tx B p i acc) (hi : i < B.length) (hc : B.getD i 0 = 10) : tx B p = .bad p := by
  obtain ⟨m, -, h⟩ := h
  rw [h, txt, if_neg (by omega), if_pos (by rw [hc]; decide)]
theorem tx_quote {B : List Int} {p i : Nat} {acc : List Int} (h : Tx B p i acc) (hi : i < B.length) (hc : B.getD i 0 = 34) : tx B p = if 64 < acc.length then .bad p else .tok ⟨3, acc, 0, p⟩ (i + 1) := by
  obtain ⟨m, -, h⟩ := h
  rw [h, txt, if_neg (by omega), if_neg (by rw [hc]; decide), if_pos (by rw [hc]; decide)]
theorem tx_slash {B : List Int} {p i : Nat} {acc : List Int} (h : Tx B p i acc) (hi : i < B.length) (hc : B.getD i 0 = 92) : (¬ i + 1 < B.length → tx B p = .bad i) ∧ (i + 1 < B.length → (esc (B.getD (i + 1) 0) = false → tx B p = .bad i) ∧ (esc (B.getD (i + 1) 0) = true → Tx B p (i + 2) (acc ++ [B.getD (i + 1) 0]))) := by
  obtain ⟨m, hm, h⟩ := h
  rw [txt, if_neg (by omega), if_neg (by rw [hc]; decide), if_neg (by rw [hc]; decide), if_pos (by rw [hc]; decide)] at h
  refine ⟨fun h1 => by rw [h, if_pos h1], fun h1 => ⟨fun h2 => by rw [h, if_neg (by omega), h2]; rfl, fun h2 => ?_⟩⟩
  rw [if_neg (by omega), if_pos h2] at h
  exact ⟨m - 1, by omega, by rw [h]; congr 1; omega⟩
theorem tx_other {B : List Int} {p i : Nat} {acc : List Int} (h : Tx B p i acc) (hi : i < B.length) (h1 : B.getD i 0 ≠ 10) (h2 : B.getD i 0 ≠ 34) (h3 : B.getD i 0 ≠ 92) : (pln (B.getD i 0) = false → tx B p = .bad i) ∧ (pln (B.getD i 0) = true → Tx B p (i + 1) (acc ++ [B.getD i 0])) := by
  obtain ⟨m, hm, h⟩ := h
  rw [txt, if_neg (by omega), if_neg (by simpa using h1), if_neg (by simpa using h2), if_neg (by simpa using h3)] at h
  refine ⟨fun h4 => by rw [h, h4]; rfl, fun h4 => ?_⟩
  rw [if_pos h4] at h
  exact ⟨m - 1, by omega, by rw [h]; congr 1; omega⟩
set_option maxRecDepth 100000 in
set_option maxHeartbeats 16000000 in
theorem text_ (b o c p : Nat) (B : List Int) (w : World) (h : BA w b o B) (_hc : B.length ≤ c) (hp : p < B.length) (hn : B.length ≤ 65536) : Calls Tryd.prog 31 #[.slice (some ⟨b, o, none⟩) B.length c, .int .i64 p] w (TkP w (tx B p)) := by
  obtain ⟨Post, hPost⟩ : ∃ P : Ending → World → Prop, P = TkP w (tx B p) := ⟨_, rfl⟩
  rw [← hPost]
  have HPo : Hid (Post = TkP w (tx B p)) := hPost
  clear hPost
  have HBA : Hid (BA w b o B) := h
  obtain ⟨n, hN⟩ : ∃ n, n = B.length := ⟨_, rfl⟩
  have HN : Hid (n = B.length) := hN
  rw [← hN] at hp hn ⊢
  clear h hN
  obtain ⟨i5, hi5, z0, z1, z2⟩ := info_parts SM.info5
  obtain ⟨W0, hW0⟩ : ∃ W0, w.alloc (.cells #[.int .i8 0, .string ⟨#[]⟩, .int .i64 0, .int .i64 0] 63) = W0 := ⟨_, rfl⟩
  have HW0 : Hid (w.alloc (.cells #[.int .i8 0, .string ⟨#[]⟩, .int .i64 0, .int .i64 0] 63) = W0 ∧ Up w W0 ∧ W0.heap[w.heap.size]? = some (.cells tz 63 (0, 0))) := ⟨hW0, by rw [← hW0]; exact (Up.refl _).alloc _, by rw [← hW0]; exact heap_alloc_new _ _⟩
  have HT0 : Hid (Tx B p (p + 1) []) := tx_start (by have := HN.out; omega)
  have HCE : Hid (∀ W, Up w W → ∀ q, q < n → W.cell? ⟨b, o + q, none⟩ = some (.int .u8 (B.getD q 0))) := fun W u q hq => HBA.out W u q (by have := HN.out; omega)
  clear hW0
  go_enter Tryd.func31, Tryd.ntmps31
  go_wp2_with fail
  have e1 : IntKind.i64.wrap ((p : Int) + 1) = ((p + 1 : Nat) : Int) := by rw [IntKind.wrap_i64]; omega
  go_loopw [7, 8] (fun s7 s8 W => ∃ (i k : Nat) (acc : List Int) (sa : Option Addr) (sc : Nat), i ≤ n ∧ s8 = .int .i64 i ∧ s7 = .slice sa k sc ∧ acc.length = k ∧ k ≤ i ∧ W.ownsRow (w.heap.size + 1) 5 1 (.slice sa k sc) k (bvs acc) ∧ Up w W ∧ W.heap[w.heap.size]? = some (.cells tz 63 (0, 0)) ∧ Tx B p i acc) (fun _ s8 _ => n - (intOf s8).toNat)
  case atStart => exact ⟨p + 1, 0, [], none, 0, by omega, by go_num, rfl, rfl, by omega, World.ownsRow_nil _ _ _ _, (Up.refl _).alloc _, heap_alloc_new w _, HT0.out⟩
  case round =>
    obtain ⟨i, k, acc, sa, sc, hi, rfl, rfl, hk, hki, hrow, hu, g0, htx⟩ := hrel
    have HU : Hid (Up w wr) := hu
    have HT : Hid (Tx B p i acc) := htx
    have HS : Hid (wr.ownsRow (w.heap.size + 1) 5 1 (.slice sa k sc) k (bvs acc) ∧ Up w wr ∧ wr.heap[w.heap.size]? = some (.cells tz 63 (0, 0))) := ⟨hrow, hu, g0⟩
    clear hrow hu htx HT0 HW0 e1
    by_cases hlt : i < n
    · have hlt2 : (i : Int) < (n : Int) := by omega
      have HIL : Hid (i < B.length) := by have := HN.out; unfold Hid; omega
      have x1 := HCE.out wr HU.out i hlt
      have ei : IntKind.i64.wrap ((i : Int) + 1) = ((i + 1 : Nat) : Int) := by rw [IntKind.wrap_i64]; omega
      obtain ⟨d, hd⟩ : ∃ d, d = B.getD i 0 := ⟨_, rfl⟩
      have HD : Hid (d = B.getD i 0) := hd
      rw [← hd] at x1
      clear hd
      by_cases h10 : d = 10
      · have HE := tx_nl HT.out HIL.out (by rw [← HD.out]; exact h10)
        subst h10
        clear HS
        go_wp2_with (refine wpList_store_row (by rfl) 63 (.tmp 4) (.tmp 80) (by rfl) w.heap.size tz (by rfl) (by rfl) 63 tz g0 infoTs rfl (tz_one) ?_)
        refine bodyPost_ret (v := .tuple #[.agg tz, .int .i64 p, .bool false]) (res_c2 (p := 4) (q := 5) (r := 6) (ty := 63) rfl _ _ w.heap.size 63 tz (0, 0) _ _ _ rfl rfl rfl (setRow_heap _ _ _ _ _ _ g0) Tryd.underlying63 rfl infoTs) rfl ?_
        rw [HPo.out]
        rw [HE]
        exact ⟨rfl, up_setRow HU.out (Nat.le_refl _) _⟩
      · have t10 : (d != 10) = true := by simpa using h10
        by_cases h34 : d = 34
        · have HE : Hid (tx B p = if 64 < k then .bad p else .tok ⟨3, acc, 0, p⟩ (i + 1)) := by unfold Hid; rw [← hk]; exact tx_quote HT.out HIL.out (by rw [← HD.out]; exact h34)
          have hcv : (convert 22 9 (.slice sa k sc)).run Tryd.prog wr = .ok (.string (strOfNums acc)) wr := conv_own (l := acc) (by rw [hk]; exact HS.out.1)
          subst h34
          clear HS
          by_cases hbig : 64 < k
          · have e2 : (64 : Int) < (k : Int) := by omega
            rw [if_pos hbig] at HE
            go_wp2_with (refine wpList_store_row (by rfl) 63 (.tmp 4) (.tmp 33) (by rfl) w.heap.size tz (by rfl) (by rfl) 63 tz g0 infoTs rfl (tz_one) ?_)
            refine bodyPost_ret (v := .tuple #[.agg tz, .int .i64 p, .bool false]) (res_c2 (p := 4) (q := 5) (r := 6) (ty := 63) rfl _ _ w.heap.size 63 tz (0, 0) _ _ _ rfl rfl rfl (setRow_heap _ _ _ _ _ _ g0) Tryd.underlying63 rfl infoTs) rfl ?_
            rw [HPo.out]
            rw [HE.out]
            exact ⟨rfl, up_setRow HU.out (Nat.le_refl _) _⟩
          · have e2 : ¬ (64 : Int) < (k : Int) := by omega
            rw [if_neg hbig] at HE
            go_wp2_with (refine wpList_store_row (by rfl) 63 (.tmp 4) (.tmp 37) (by rfl) w.heap.size (tA 3 acc 0) (by rfl) (by rfl) 63 tz g0 infoTs rfl (tA_one _ _ _) ?_)
            refine bodyPost_ret (v := .tuple #[.agg (tA 3 acc 0), .int .i64 (i + 1 : Nat), .bool true]) (res_c2 (p := 4) (q := 5) (r := 6) (ty := 63) rfl _ _ w.heap.size 63 (tA 3 acc 0) (0, 0) _ _ _ rfl rfl rfl (setRow_heap _ _ _ _ _ _ g0) Tryd.underlying63 rfl infoTs) rfl ?_
            rw [HPo.out]
            rw [HE.out]
            exact ⟨rfl, up_setRow HU.out (Nat.le_refl _) _⟩
        · have t34 : (d == 34) = false := by simpa using h34
          by_cases h92 : d = 92
          · obtain ⟨q1, q2⟩ := tx_slash HT.out HIL.out (by rw [← HD.out]; exact h92)
            have HQ : Hid ((¬ i + 1 < B.length → tx B p = .bad i) ∧ (i + 1 < B.length → (esc (B.getD (i + 1) 0) = false → tx B p = .bad i) ∧ (esc (B.getD (i + 1) 0) = true → Tx B p (i + 2) (acc ++ [B.getD (i + 1) 0])))) := ⟨q1, q2⟩
            clear q1 q2
            subst h92
            by_cases hl1 : i + 1 < n
            · have e2 : (((i : Int) + 1) == (n : Int)) = false := by simp; omega
              have e3 : (((i + 1 : Nat) : Int) == (n : Int)) = false := by simp; omega
              obtain ⟨q1, q2⟩ := HQ.out.2 (by have := HN.out; omega)
              have x2 := HCE.out wr HU.out (i + 1) hl1
              have HNX : Hid ((esc (B.getD (i + 1) 0) = false → tx B p = .bad i) ∧ (esc (B.getD (i + 1) 0) = true → Tx B p (i + 2) (acc ++ [B.getD (i + 1) 0]))) := ⟨q1, q2⟩
              have HES : Hid (∀ W, Calls Tryd.prog 70 #[.int .u8 (B.getD (i + 1) 0)] W fun e w' => e = .returned (.bool (esc (B.getD (i + 1) 0))) ∧ w' = W) := fun W => isEscaped_ _ W
              have e4 : IntKind.i64.wrap (((i + 1 : Nat) : Int) + 1) = ((i + 2 : Nat) : Int) := by rw [IntKind.wrap_i64]; omega
              clear q1 q2 HQ
              generalize B.getD (i + 1) 0 = x at *
              go_wp2_with fail
              refine Calls.mono (HES.out _) ?_
              rintro r W2 ⟨rfl, hw2⟩
              obtain rfl := hw2.symm
              cases hes : esc x with
              | false =>
                have HE := HNX.out.1 hes
                clear hes HS
                go_wp2_with (refine wpList_store_row (by rfl) 63 (.tmp 4) (.tmp 60) (by rfl) w.heap.size tz (by rfl) (by rfl) 63 tz g0 infoTs rfl (tz_one) ?_)
                refine bodyPost_ret (v := .tuple #[.agg tz, .int .i64 i, .bool false]) (res_c2 (p := 4) (q := 5) (r := 6) (ty := 63) rfl _ _ w.heap.size 63 tz (0, 0) _ _ _ rfl rfl rfl (setRow_heap _ _ _ _ _ _ g0) Tryd.underlying63 rfl infoTs) rfl ?_
                rw [HPo.out]
                rw [HE]
                exact ⟨rfl, up_setRow HU.out (Nat.le_refl _) _⟩
              | true =>
                have HNX : Hid (Tx B p (i + 2) (acc ++ [x])) := HNX.out.2 hes
                clear hes
                have HV : Hid ((wr.alloc (.cells #[.int .u8 x] 5)).ownsRow (w.heap.size + 1) 5 1 (.slice sa k sc) k (bvs acc)) := World.ownsRow.alloc HS.out.1 _
                have HMW : Hid (∀ q u, [Value.int .u8 x][q]? = some u → (wr.alloc (.cells #[.int .u8 x] 5)).cell? ((⟨wr.heap.size, 0, none⟩ : Addr).add q) = some u) := World.news_of_block (cs := #[.int .u8 x]) (t := 5) (fr := (0, 0)) (heap_alloc_new wr _)
                have HSZ : Hid (w.heap.size + 1 ≤ (wr.alloc (.cells #[.int .u8 x] 5)).heap.size) := by
                  have h9 := (Array.getElem?_eq_some_iff.1 HS.out.2.2).1
                  unfold Hid
                  simp
                  omega
                have HF : Hid (∀ v' V, V.ownsRow (w.heap.size + 1) 5 1 v' (k + 1) (bvs acc ++ [.int .u8 x]) → (wr.alloc (.cells #[.int .u8 x] 5)).grownBy V (Value.slice sa k sc).ownBlock → V.ownsRow (w.heap.size + 1) 5 1 v' (k + 1) (bvs (acc ++ [x])) ∧ Up w V ∧ V.heap[w.heap.size]? = some (.cells tz 63 (0, 0))) := fun v' V n1 n2 => by
                  refine ⟨by rw [show bvs (acc ++ [x]) = bvs acc ++ [.int .u8 x] by simp [bvs]]; exact n1, Below.grown (HS.out.2.1.alloc _) n2 (by have := HS.out.2.1.size; simp; omega) (fun k9 hk => by have := (World.ownsRow.lt HV.out k9 hk).1; omega), ?_⟩
                  have h9 := ((Up.refl wr).alloc (.cells #[.int .u8 x] 5)).heap HS.out.2.2
                  rw [n2.block w.heap.size (Array.getElem?_eq_some_iff.1 h9).1 (fun e9 => by have := (World.ownsRow.lt HV.out w.heap.size e9.symm).1; omega)]
                  exact h9
                clear HS
                go_wp2_with (at_builtin; go_loud (refine wpList_append_own _ (by rfl) (.tmp 73) (.tmp 78) 22 (by rfl) (w.heap.size + 1) 5 i5 _ 1 1 Tryd.underlying22 hi5 z0 z1 z2 (by rfl) (by decide) (.slice sa k sc) k (bvs acc) (by rfl) HV.out ⟨wr.heap.size, 0, none⟩ 1 1 [Value.int .u8 x] (by rfl) (by rfl) HMW.out (by simp [Value.oneCell']) (by unfold maxLen; omega) (by omega) HSZ.out ?_; intro v' V hin hg1 _; have HG : Hid (V.ownsRow (w.heap.size + 1) 5 1 v' (k + 1) (bvs (acc ++ [x])) ∧ Up w V ∧ V.heap[w.heap.size]? = some (.cells tz 63 (0, 0))) := HF.out v' V hin hg1; obtain ⟨fa, fc, hva⟩ : ∃ a c, v' = Value.slice a (k + 1) c := row_val hin; subst hva; clear hin hg1))
                go_roundw
                case rel => exact ⟨i + 2, k + 1, acc ++ [x], fa, fc, by omega, by go_num, rfl, by rw [List.length_append, hk]; rfl, by omega, HG.out.1, HG.out.2.1, HG.out.2.2, HNX.out⟩
                case measure => simp [intOf]; omega
            · have e2 : (((i : Int) + 1) == (n : Int)) = true := by simp; omega
              have e3 : (((i + 1 : Nat) : Int) == (n : Int)) = true := by simp; omega
              have HE := HQ.out.1 (by have := HN.out; omega)
              clear HS HQ
              go_wp2_with (refine wpList_store_row (by rfl) 63 (.tmp 4) (.tmp 60) (by rfl) w.heap.size tz (by rfl) (by rfl) 63 tz g0 infoTs rfl (tz_one) ?_)
              refine bodyPost_ret (v := .tuple #[.agg tz, .int .i64 i, .bool false]) (res_c2 (p := 4) (q := 5) (r := 6) (ty := 63) rfl _ _ w.heap.size 63 tz (0, 0) _ _ _ rfl rfl rfl (setRow_heap _ _ _ _ _ _ g0) Tryd.underlying63 rfl infoTs) rfl ?_
              rw [HPo.out]
              rw [HE]
              exact ⟨rfl, up_setRow HU.out (Nat.le_refl _) _⟩
          · have t92 : (d == 92) = false := by simpa using h92
            obtain ⟨q1, q2⟩ := tx_other HT.out HIL.out (by rw [← HD.out]; exact h10) (by rw [← HD.out]; exact h34) (by rw [← HD.out]; exact h92)
            rw [← HD.out] at q1 q2
            have HNX : Hid ((pln d = false → tx B p = .bad i) ∧ (pln d = true → Tx B p (i + 1) (acc ++ [d]))) := ⟨q1, q2⟩
            have HPL : Hid (∀ W, Calls Tryd.prog 71 #[.int .u8 d] W fun e w' => e = .returned (.bool (pln d)) ∧ w' = W) := fun W => isPlain_ _ W
            clear q1 q2
            go_wp2_with fail
            refine Calls.mono (HPL.out _) ?_
            rintro r W2 ⟨rfl, hw2⟩
            obtain rfl := hw2.symm
            cases hes : pln d with
            | false =>
              have HE := HNX.out.1 hes
              clear hes HS
              go_wp2_with (refine wpList_store_row (by rfl) 63 (.tmp 4) (.tmp 71) (by rfl) w.heap.size tz (by rfl) (by rfl) 63 tz g0 infoTs rfl (tz_one) ?_)
              refine bodyPost_ret (v := .tuple #[.agg tz, .int .i64 i, .bool false]) (res_c2 (p := 4) (q := 5) (r := 6) (ty := 63) rfl _ _ w.heap.size 63 tz (0, 0) _ _ _ rfl rfl rfl (setRow_heap _ _ _ _ _ _ g0) Tryd.underlying63 rfl infoTs) rfl ?_
              rw [HPo.out]
              rw [HE]
              exact ⟨rfl, up_setRow HU.out (Nat.le_refl _) _⟩
            | true =>
              have HNX : Hid (Tx B p (i + 1) (acc ++ [d])) := HNX.out.2 hes
              clear hes
              have HV : Hid ((wr.alloc (.cells #[.int .u8 d] 5)).ownsRow (w.heap.size + 1) 5 1 (.slice sa k sc) k (bvs acc)) := World.ownsRow.alloc HS.out.1 _
              have HMW : Hid (∀ q u, [Value.int .u8 d][q]? = some u → (wr.alloc (.cells #[.int .u8 d] 5)).cell? ((⟨wr.heap.size, 0, none⟩ : Addr).add q) = some u) := World.news_of_block (cs := #[.int .u8 d]) (t := 5) (fr := (0, 0)) (heap_alloc_new wr _)
              have HSZ : Hid (w.heap.size + 1 ≤ (wr.alloc (.cells #[.int .u8 d] 5)).heap.size) := by
                have h9 := (Array.getElem?_eq_some_iff.1 HS.out.2.2).1
                unfold Hid
                simp
                omega
              have HF : Hid (∀ v' V, V.ownsRow (w.heap.size + 1) 5 1 v' (k + 1) (bvs acc ++ [.int .u8 d]) → (wr.alloc (.cells #[.int .u8 d] 5)).grownBy V (Value.slice sa k sc).ownBlock → V.ownsRow (w.heap.size + 1) 5 1 v' (k + 1) (bvs (acc ++ [d])) ∧ Up w V ∧ V.heap[w.heap.size]? = some (.cells tz 63 (0, 0))) := fun v' V n1 n2 => by
                refine ⟨by rw [show bvs (acc ++ [d]) = bvs acc ++ [.int .u8 d] by simp [bvs]]; exact n1, Below.grown (HS.out.2.1.alloc _) n2 (by have := HS.out.2.1.size; simp; omega) (fun k9 hk => by have := (World.ownsRow.lt HV.out k9 hk).1; omega), ?_⟩
                have h9 := ((Up.refl wr).alloc (.cells #[.int .u8 d] 5)).heap HS.out.2.2
                rw [n2.block w.heap.size (Array.getElem?_eq_some_iff.1 h9).1 (fun e9 => by have := (World.ownsRow.lt HV.out w.heap.size e9.symm).1; omega)]
                exact h9
              clear HS
              go_wp2_with (at_builtin; go_loud (refine wpList_append_own _ (by rfl) (.tmp 73) (.tmp 78) 22 (by rfl) (w.heap.size + 1) 5 i5 _ 1 1 Tryd.underlying22 hi5 z0 z1 z2 (by rfl) (by decide) (.slice sa k sc) k (bvs acc) (by rfl) HV.out ⟨wr.heap.size, 0, none⟩ 1 1 [Value.int .u8 d] (by rfl) (by rfl) HMW.out (by simp [Value.oneCell']) (by unfold maxLen; omega) (by omega) HSZ.out ?_; intro v' V hin hg1 _; have HG : Hid (V.ownsRow (w.heap.size + 1) 5 1 v' (k + 1) (bvs (acc ++ [d])) ∧ Up w V ∧ V.heap[w.heap.size]? = some (.cells tz 63 (0, 0))) := HF.out v' V hin hg1; obtain ⟨fa, fc, hva⟩ : ∃ a c, v' = Value.slice a (k + 1) c := row_val hin; subst hva; clear hin hg1))
              go_roundw
              case rel => exact ⟨i + 1, k + 1, acc ++ [d], fa, fc, by omega, by go_num, rfl, by rw [List.length_append, hk]; rfl, by omega, HG.out.1, HG.out.2.1, HG.out.2.2, HNX.out⟩
              case measure => simp [intOf]; omega
    · have hlt2 : ¬ (i : Int) < (n : Int) := by omega
      have HE := tx_end HT.out (by have := HN.out; omega)
      clear HS
      go_wp2_with (refine wpList_store_row (by rfl) 63 (.tmp 4) (.tmp 80) (by rfl) w.heap.size tz (by rfl) (by rfl) 63 tz g0 infoTs rfl (tz_one) ?_)
      refine bodyPost_ret (v := .tuple #[.agg tz, .int .i64 p, .bool false]) (res_c2 (p := 4) (q := 5) (r := 6) (ty := 63) rfl _ _ w.heap.size 63 tz (0, 0) _ _ _ rfl rfl rfl (setRow_heap _ _ _ _ _ _ g0) Tryd.underlying63 rfl infoTs) rfl ?_
      rw [HPo.out]
      rw [HE]
      exact ⟨rfl, up_setRow HU.out (Nat.le_refl _) _⟩
end TK
end Go.Proofs.YtjjikeehifndhaaDoor
