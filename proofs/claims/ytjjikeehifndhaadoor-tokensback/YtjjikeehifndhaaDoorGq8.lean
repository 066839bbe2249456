
/-
  SizeTokens; what the law lays between tokens.
-/
import Derived.Test.YtjjikeehifndhaaDoorOf8
import Derived.Test.YtjjikeehifndhaaDoorBd8
import Derived.Test.YtjjikeehifndhaaDoorCq8
import Derived.Test.YtjjikeehifndhaaDoorTv8
import Derived.Deep.Cut
namespace Go.Proofs.YtjjikeehifndhaaDoor
open Go.RowKit
attribute [local go_sem ↓] Go.wp_at_zero Go.wp_at_succ
namespace TK
set_option maxRecDepth 100000 in
set_option maxHeartbeats 8000000 in
theorem sizeT_ (v : Value) (l : List Tok) (w : World) (hv : TLs w v l) (hl : l.length ≤ 140737488355328) (ht : ∀ t ∈ l, t.text.length ≤ 281474976710656) : Calls Tryd.prog 24 #[v] w fun e w' => (∃ n : Nat, e = .returned (.int .i64 n) ∧ n ≤ 562949953421312) ∧ w' = w := by
  obtain ⟨Post, hPost⟩ : ∃ P : Ending → World → Prop, P = fun e w' => (∃ n : Nat, e = .returned (.int .i64 n) ∧ n ≤ 562949953421312) ∧ w' = w := ⟨_, rfl⟩
  rw [← hPost]
  have HPo : Hid (Post = fun e w' => (∃ n : Nat, e = .returned (.int .i64 n) ∧ n ≤ 562949953421312) ∧ w' = w) := hPost
  clear hPost
  obtain ⟨a, c, rfl, hc, hcell⟩ := tl_at hv
  have HT : Hid (∀ i, i < l.length → (l.getD i dt).text.length ≤ 281474976710656) := fun i hi => ht _ (by rw [List.getD_eq_getElem?_getD, List.getElem?_eq_getElem hi]; exact List.getElem_mem hi)
  have HC : Hid (l.length ≠ 0 → ∃ b off, a = some ⟨b, off, none⟩ ∧ ∀ i, i < l.length → w.cell? ⟨b, off + i * 4 + 1, none⟩ = some (.string (strOfNums (l.getD i dt).text))) := fun h0 => by
    obtain ⟨b, off, h1, h2⟩ := hcell h0
    exact ⟨b, off, h1, fun i hi => (h2 w (Up.refl _) i hi).2.1⟩
  obtain ⟨n, hN⟩ : ∃ n, n = l.length := ⟨_, rfl⟩
  rw [← hN] at hc HT HC hl ⊢
  clear hv ht hcell hN
  go_enter Tryd.func24, Tryd.ntmps24
  go_wp2_with fail
  go_loopw [3, 4] (fun s3 s4 W => ∃ (k i : Nat), s3 = .int .i64 k ∧ s4 = .int .i64 i ∧ i ≤ n ∧ k ≤ 562949953421312 ∧ W = w) (fun _ s4 _ => n - (intOf s4).toNat)
  case atStart => exact ⟨n, 0, rfl, rfl, Nat.zero_le _, by omega, rfl⟩
  case round =>
    obtain ⟨k, i, rfl, rfl, hi, hk, rfl⟩ := hrel
    by_cases hlt : i < n
    · have hlt2 : (i : Int) < (n : Int) := by omega
      by_cases hk2 : k ≤ 2147483647
      · have hk3 : (k : Int) ≤ 2147483647 := by omega
        obtain ⟨b, off, rfl, hce⟩ := HC.out (by omega)
        have x1 := hce i hlt
        have hs := HT.out i hlt
        have hsz : (strOfNums (l.getD i dt).text).size = (l.getD i dt).text.length := strOfNums_size _
        rw [← hsz] at hs
        clear hce hsz
        generalize strOfNums (l.getD i dt).text = ys at *
        have e1 : IntKind.i64.wrap ((k : Int) + (ys.size : Int)) = ((k + ys.size : Nat) : Int) := by rw [IntKind.wrap_i64]; omega
        have ei : IntKind.i64.wrap ((i : Int) + 1) = ((i + 1 : Nat) : Int) := by rw [IntKind.wrap_i64]; omega
        go_wp2_with fail
        go_roundw
        case rel => exact ⟨k + ys.size, i + 1, by go_num, by go_num, by omega, by omega, by first | rfl | trivial⟩
        case measure => simp [intOf]; omega
      · have hk3 : ¬ (k : Int) ≤ 2147483647 := by omega
        go_wp2_with fail
        rw [HPo.out]
        exact ⟨⟨k, rfl, hk⟩, rfl⟩
    · have hlt2 : ¬ (i : Int) < (n : Int) := by omega
      go_wp2_with fail
      rw [HPo.out]
      exact ⟨⟨k, rfl, hk⟩, rfl⟩
/- a gap that was made -/
def GapR (w : World) (e : Ending) (w' : World) : Prop := ∃ (G : List Int) (u : Value), e = .returned u ∧ IsGp G ∧ Byt G ∧ G.length ≤ 3000 ∧ w'.ownsRow w.heap.size 5 1 u G.length (bvs G) ∧ Up w w'
theorem own_sp (w : World) : (w.alloc (.cells #[.int .u8 32] 5)).ownsRow w.heap.size 5 1 (.slice (some ⟨w.heap.size, 0, none⟩) 1 1) 1 (bvs [32]) :=
  ⟨rfl, .inr ⟨w.heap.size, 1, #[.int .u8 32], rfl, Nat.le_refl _, heap_alloc_new _ _, by omega, by unfold maxLen; omega, rfl, rfl⟩⟩
theorem gapR_one (w : World) : GapR w (.returned (.slice (some ⟨w.heap.size, 0, none⟩) 1 1)) (w.alloc (.cells #[.int .u8 32] 5)) :=
  ⟨[32], _, rfl, .inl rfl, by unfold Byt; simp, by simp, own_sp w, (Up.refl _).alloc _⟩
theorem gpB_byt (c : Int) : 0 ≤ gpB c ∧ gpB c < 256 := by
  unfold gpB
  have h1 : (c % 4).toNat = 0 ∨ (c % 4).toNat = 1 ∨ (c % 4).toNat = 2 ∨ (c % 4).toNat = 3 := by omega
  rcases h1 with h | h | h | h <;> rw [h] <;> decide
theorem gpL_byt {b : List Int} (h : Byt b) : Byt (gpL b) := fun c hc => by
  unfold gpL at hc
  simp only [List.mem_append, List.mem_map] at hc
  rcases hc with (hc | ⟨x, -, rfl⟩) | hc
  · obtain rfl : c = 32 := by simpa using hc
    decide
  · exact gpB_byt x
  · split at hc
    · simp only [List.mem_append, List.mem_filter, List.mem_cons, List.not_mem_nil, or_false] at hc
      rcases hc with (hc | hc) | hc
      · rcases hc with rfl | rfl <;> decide
      · exact h c hc.1
      · subst hc
        decide
    · cases hc
theorem gpL_len {b : List Int} (h : b.length ≤ 1000) : (gpL b).length ≤ 3000 := by
  unfold gpL
  have := List.length_filter_le nnl b
  split <;> simp <;> omega
theorem gapR_of {w W : World} {b acc : List Int} {v : Value} {k : Nat} (hb : Byt b) (hl : b.length ≤ 1000) (e : acc = gpL b) (hk : acc.length = k) (h : W.ownsRow w.heap.size 5 1 v k (bvs acc)) (u : Up w W) : GapR w (.returned v) W := by
  subst e
  exact ⟨_, v, rfl, .inr ⟨b, rfl⟩, gpL_byt hb, gpL_len hl, by rw [hk]; exact h, u⟩
set_option maxRecDepth 100000 in
set_option maxHeartbeats 8000000 in
theorem gap_ (v : Value) (L : List (List Int)) (i : Nat) (w : World) (hv : RowsB w v L) (hi : i ≤ 9223372036854775807) : Calls Tryd.prog 25 #[v, .int .i64 i] w (GapR w) := by
  obtain ⟨Post, hPost⟩ : ∃ P : Ending → World → Prop, P = GapR w := ⟨_, rfl⟩
  rw [← hPost]
  have HPo : Hid (Post = GapR w) := hPost
  clear hPost
  obtain ⟨i5, hi5, z0, z1, z2⟩ := info_parts SM.info5
  obtain ⟨V, hV, ⟨-, a, c, rfl, hc, hcell⟩, hrow⟩ := hv
  obtain ⟨n, hN⟩ : ∃ n, n = L.length := ⟨_, rfl⟩
  have HN : Hid (n = L.length) := hN
  rw [← hN] at hc hcell hV ⊢
  clear hN
  by_cases hin : i < n
  · have hin2 : (i : Int) < (n : Int) := by omega
    have hin3 : ¬ (n : Int) ≤ (i : Int) := by omega
    obtain ⟨b0, o0, rfl, hce⟩ := hcell (by omega)
    obtain ⟨hb, hby, hbl⟩ := hrow i (by have := HN.out; omega)
    have x0 := hce i (by omega)
    rw [List.getElem?_eq_getElem (by omega)] at x0
    have ev : V.getD i (.slice none 0 0) = V[i]'(by omega) := by rw [List.getD_eq_getElem?_getD, List.getElem?_eq_getElem (by omega)]; rfl
    rw [ev] at hb
    generalize V[i]'(by omega) = vb at *
    generalize L.getD i [] = B at *
    obtain ⟨ab, cb, rfl, hcb, hbc⟩ := bl_cells hb
    have HBY : Hid (Byt B) := hby
    obtain ⟨m, hM⟩ : ∃ m, m = B.length := ⟨_, rfl⟩
    have HM : Hid (m = B.length) := hM
    rw [← hM] at hcb hbc hbl x0
    have HC : Hid (m ≠ 0 → ∃ b off, ab = some ⟨b, off, none⟩ ∧ ∀ W', Up w W' → ∀ j, j < m → W'.cell? ⟨b, off + j, none⟩ = some (.int .u8 (B.getD j 0))) := hbc
    have HX0 : Hid (∀ W, Up w W → W.cell? ⟨b0, o0 + i, none⟩ = some (.slice ab m cb)) := fun W u => u.cell x0
    clear hb hby hM hbc hce hcell hrow ev hV
    have y0 : (w.alloc (.cells #[.int .u8 32] 5)).cell? ⟨b0, o0 + i, none⟩ = some (.slice ab m cb) := HX0.out _ ((Up.refl _).alloc _)
    by_cases hbig : 1000 < m
    · have hbig2 : (1000 : Int) < (m : Int) := by omega
      go_enter Tryd.func25, Tryd.ntmps25
      go_wp2_with fail
      rw [HPo.out]
      exact gapR_one w
    · have hbig2 : ¬ (1000 : Int) < (m : Int) := by omega
      go_enter Tryd.func25, Tryd.ntmps25
      go_wp2_with fail
      go_loopw [5, 7] (fun s5 s7 W => ∃ (j k : Nat) (acc : List Int) (sa : Option Addr) (sc : Nat), j ≤ m ∧ s7 = .int .i64 j ∧ s5 = .slice sa k sc ∧ acc.length = k ∧ k ≤ j + 1 ∧ acc = [32] ++ (B.take j).map gpB ∧ W.ownsRow w.heap.size 5 1 (.slice sa k sc) k (bvs acc) ∧ Up w W) (fun _ s7 _ => m - (intOf s7).toNat)
      case atStart => exact ⟨0, 1, [32], some ⟨w.heap.size, 0, none⟩, 1, Nat.zero_le _, rfl, rfl, rfl, Nat.le_refl _, rfl, own_sp w, (Up.refl _).alloc _⟩
      case round =>
        obtain ⟨j, k, acc, sa0, sc0, hj, rfl, rfl, hk, hkj, hacc, hrw, hu⟩ := hrel
        have HS0 : Hid (wr.ownsRow w.heap.size 5 1 (.slice sa0 k sc0) k (bvs acc) ∧ Up w wr) := ⟨hrw, hu⟩
        have HAC : Hid (acc = [32] ++ (B.take j).map gpB ∧ acc.length = k) := ⟨hacc, hk⟩
        clear hrw hu hacc hk
        by_cases hlt : j < m
        · have hlt2 : (j : Int) < (m : Int) := by omega
          obtain ⟨b1, o1, rfl, hce⟩ := HC.out (by omega)
          have hbt := HBY.out.at j
          have HNX : Hid ([32] ++ (B.take (j + 1)).map gpB = acc ++ [gpB (B.getD j 0)]) := by
            unfold Hid
            rw [take_snoc (by have := HM.out; omega), List.map_append, HAC.out.1]
            simp
          obtain ⟨W1, hW1⟩ : ∃ W1, wr.alloc (.cells #[.int .u8 9, .int .u8 10, .int .u8 13, .int .u8 32] 5) = W1 := ⟨_, rfl⟩
          have HS0 : Hid (W1.ownsRow w.heap.size 5 1 (.slice sa0 k sc0) k (bvs acc) ∧ Up w W1) := by
            unfold Hid
            rw [← hW1]
            exact ⟨World.ownsRow.alloc HS0.out.1 _, HS0.out.2.alloc _⟩
          have x2 : W1.cell? ⟨b1, o1 + j, none⟩ = some (.int .u8 (B.getD j 0)) := hce _ HS0.out.2 j hlt
          have g1 : W1.heap[wr.heap.size]? = some (.cells #[.int .u8 9, .int .u8 10, .int .u8 13, .int .u8 32] 5 (0, 0)) := by rw [← hW1]; exact heap_alloc_new _ _
          have x3 : W1.cell? ⟨wr.heap.size, (B.getD j 0 % 4).toNat, none⟩ = some (.int .u8 (gpB (B.getD j 0))) := by
            have h1 : (B.getD j 0 % 4).toNat = 0 ∨ (B.getD j 0 % 4).toNat = 1 ∨ (B.getD j 0 % 4).toNat = 2 ∨ (B.getD j 0 % 4).toNat = 3 := by omega
            unfold gpB
            simp only [World.cell?, g1]
            rcases h1 with h | h | h | h <;> rw [h] <;> rfl
          clear hce g1
          generalize gpB (B.getD j 0) = y at *
          generalize B.getD j 0 = x at *
          have ei : IntKind.i64.wrap ((j : Int) + 1) = ((j + 1 : Nat) : Int) := by rw [IntKind.wrap_i64]; omega
          have HV0 : Hid ((W1.alloc (.cells #[.int .u8 y] 5)).ownsRow w.heap.size 5 1 (.slice sa0 k sc0) k (bvs (acc))) := World.ownsRow.alloc HS0.out.1 _
          have HMW0 : Hid (∀ q u, [Value.int .u8 y][q]? = some u → (W1.alloc (.cells #[.int .u8 y] 5)).cell? ((⟨W1.heap.size, 0, none⟩ : Addr).add q) = some u) := World.news_of_block (cs := #[.int .u8 y]) (t := 5) (fr := (0, 0)) (heap_alloc_new W1 _)
          have HSZ0 : Hid (w.heap.size ≤ (W1.alloc (.cells #[.int .u8 y] 5)).heap.size) := by
            have h9 := HS0.out.2.size
            unfold Hid
            simp
            omega
          have HF0 : Hid (∀ v' V, V.ownsRow w.heap.size 5 1 v' (k + 1) (bvs (acc) ++ [Value.int .u8 y]) → (W1.alloc (.cells #[.int .u8 y] 5)).grownBy V (Value.slice sa0 k sc0).ownBlock → V.ownsRow w.heap.size 5 1 v' (k + 1) (bvs (acc ++ [y])) ∧ Up w V) := fun v' V n1 n2 =>
            ⟨by rw [show bvs (acc ++ [y]) = bvs (acc) ++ [Value.int .u8 y] by simp [bvs]]; exact n1, Below.grown (HS0.out.2.alloc _) n2 (by have := HS0.out.2.size; simp; omega) (fun k9 hk => (World.ownsRow.lt HV0.out k9 hk).1)⟩
          go_wp2_with (at_builtin; go_loud (refine wpList_append_own _ (by rfl) (.tmp 33) (.tmp 42) 22 (by rfl) w.heap.size 5 i5 _ 1 1 Tryd.underlying22 hi5 z0 z1 z2 (by rfl) (by decide) (.slice sa0 k sc0) k (bvs (acc)) (by rfl) HV0.out ⟨W1.heap.size, 0, none⟩ 1 1 [Value.int .u8 y] (by rfl) (by rfl) HMW0.out (by simp [Value.oneCell']) (by unfold maxLen; omega) (by omega) HSZ0.out ?_; intro v' V0 hin hg1 _; have HG0 : Hid (V0.ownsRow w.heap.size 5 1 v' (k + 1) (bvs (acc ++ [y])) ∧ Up w V0) := HF0.out v' V0 hin hg1; obtain ⟨fa0, fc0, hva⟩ : ∃ a c, v' = Value.slice a (k + 1) c := row_val hin; subst hva; clear hin hg1; skip))
          go_roundw
          case rel => exact ⟨j + 1, k + 1, acc ++ [y], fa0, fc0, by omega, by go_num, rfl, by rw [List.length_append, HAC.out.2]; rfl, by omega, HNX.out.symm, HG0.out.1, HG0.out.2⟩
          case measure => simp [intOf]; omega
        · have hlt2 : ¬ (j : Int) < (m : Int) := by omega
          obtain rfl : j = m := by omega
          have HAE : Hid (acc = [32] ++ B.map gpB) := by
            unfold Hid
            rw [HAC.out.1, HM.out, List.take_length]
          by_cases h3 : j % 3 = 1
          · have h32 : ((j : Int) % 3 == 1) = true := by simp; omega
            have h33 : (j : Int) % 3 = 1 := by omega
            have HV0 : Hid ((wr.alloc (.cells #[.int .u8 47, .int .u8 47] 5)).ownsRow w.heap.size 5 1 (.slice sa0 k sc0) k (bvs (acc))) := World.ownsRow.alloc HS0.out.1 _
            have HMW0 : Hid (∀ q u, [Value.int .u8 47, Value.int .u8 47][q]? = some u → (wr.alloc (.cells #[.int .u8 47, .int .u8 47] 5)).cell? ((⟨wr.heap.size, 0, none⟩ : Addr).add q) = some u) := World.news_of_block (cs := #[.int .u8 47, .int .u8 47]) (t := 5) (fr := (0, 0)) (heap_alloc_new wr _)
            have HSZ0 : Hid (w.heap.size ≤ (wr.alloc (.cells #[.int .u8 47, .int .u8 47] 5)).heap.size) := by
              have h9 := HS0.out.2.size
              unfold Hid
              simp
              omega
            have HF0 : Hid (∀ v' V, V.ownsRow w.heap.size 5 1 v' (k + 2) (bvs (acc) ++ [Value.int .u8 47, Value.int .u8 47]) → (wr.alloc (.cells #[.int .u8 47, .int .u8 47] 5)).grownBy V (Value.slice sa0 k sc0).ownBlock → V.ownsRow w.heap.size 5 1 v' (k + 2) (bvs (acc ++ [47, 47])) ∧ Up w V) := fun v' V n1 n2 =>
              ⟨by rw [show bvs (acc ++ [47, 47]) = bvs (acc) ++ [Value.int .u8 47, Value.int .u8 47] by simp [bvs]]; exact n1, Below.grown (HS0.out.2.alloc _) n2 (by have := HS0.out.2.size; simp; omega) (fun k9 hk => (World.ownsRow.lt HV0.out k9 hk).1)⟩
            go_wp2_with (at_builtin; go_loud (refine wpList_append_own _ (by rfl) (.tmp 48) (.tmp 49) 22 (by rfl) w.heap.size 5 i5 _ 1 1 Tryd.underlying22 hi5 z0 z1 z2 (by rfl) (by decide) (.slice sa0 k sc0) k (bvs (acc)) (by rfl) HV0.out ⟨wr.heap.size, 0, none⟩ 2 2 [Value.int .u8 47, Value.int .u8 47] (by rfl) (by rfl) HMW0.out (by simp [Value.oneCell']) (by unfold maxLen; omega) (by omega) HSZ0.out ?_; intro v' V0 hin hg1 _; have HG0 : Hid (V0.ownsRow w.heap.size 5 1 v' (k + 2) (bvs (acc ++ [47, 47])) ∧ Up w V0) := HF0.out v' V0 hin hg1; obtain ⟨fa0, fc0, hva⟩ : ∃ a c, v' = Value.slice a (k + 2) c := row_val hin; subst hva; clear hin hg1; skip))
            go_loopw [5, 8] (fun s5 s8 W => ∃ (i9 k9 : Nat) (ac : List Int) (sa : Option Addr) (sc : Nat), i9 ≤ j ∧ s8 = .int .i64 i9 ∧ s5 = .slice sa k9 sc ∧ ac.length = k9 ∧ k9 ≤ j + 3 + i9 ∧ ac = acc ++ [47, 47] ++ (B.take i9).filter nnl ∧ W.ownsRow w.heap.size 5 1 (.slice sa k9 sc) k9 (bvs ac) ∧ Up w W) (fun _ s8 _ => j - (intOf s8).toNat)
            case atStart => exact ⟨0, k + 2, acc ++ [47, 47], fa0, fc0, Nat.zero_le _, rfl, rfl, by rw [List.length_append, HAC.out.2]; rfl, by omega, by simp, HG0.out.1, HG0.out.2⟩
            case round =>
              obtain ⟨i9, k9, ac, sa1, sc1, hi9, rfl, rfl, hk9, hki9, hac9, hrw9, hu9⟩ := hrel
              have HS1 : Hid (wr.ownsRow w.heap.size 5 1 (.slice sa1 k9 sc1) k9 (bvs ac) ∧ Up w wr) := ⟨hrw9, hu9⟩
              have HA1 : Hid (ac = acc ++ [47, 47] ++ (B.take i9).filter nnl ∧ ac.length = k9) := ⟨hac9, hk9⟩
              clear hrw9 hu9 hac9 hk9
              by_cases hl9 : i9 < j
              · have hl92 : (i9 : Int) < (j : Int) := by omega
                obtain ⟨b1, o1, rfl, hce⟩ := HC.out (by omega)
                have x1 := hce wr HS1.out.2 i9 hl9
                have hbt := HBY.out.at i9
                have HTK : Hid (B.take (i9 + 1) = B.take i9 ++ [B.getD i9 0]) := take_snoc (by have := HM.out; omega)
                clear hce
                generalize B.getD i9 0 = x at *
                have ei : IntKind.i64.wrap ((i9 : Int) + 1) = ((i9 + 1 : Nat) : Int) := by rw [IntKind.wrap_i64]; omega
                by_cases hx : x = 10
                · have hx1 : (x != 10) = false := by simp [hx]
                  have HNX : Hid (acc ++ [47, 47] ++ (B.take (i9 + 1)).filter nnl = ac) := by
                    unfold Hid
                    rw [HTK.out, List.filter_append, HA1.out.1, hx]
                    simp [nnl]
                  subst hx
                  go_wp2_with fail
                  go_roundw
                  case rel => exact ⟨i9 + 1, k9, ac, sa1, sc1, by omega, by go_num, rfl, HA1.out.2, by omega, HNX.out.symm, HS1.out.1, HS1.out.2⟩
                  case measure => simp [intOf]; omega
                · have hx1 : (x != 10) = true := by simpa using hx
                  have HNX : Hid (acc ++ [47, 47] ++ (B.take (i9 + 1)).filter nnl = ac ++ [x]) := by
                    unfold Hid
                    rw [HTK.out, List.filter_append, HA1.out.1]
                    simp [nnl, hx]
                  have HV1 : Hid ((wr.alloc (.cells #[.int .u8 x] 5)).ownsRow w.heap.size 5 1 (.slice sa1 k9 sc1) k9 (bvs (ac))) := World.ownsRow.alloc HS1.out.1 _
                  have HMW1 : Hid (∀ q u, [Value.int .u8 x][q]? = some u → (wr.alloc (.cells #[.int .u8 x] 5)).cell? ((⟨wr.heap.size, 0, none⟩ : Addr).add q) = some u) := World.news_of_block (cs := #[.int .u8 x]) (t := 5) (fr := (0, 0)) (heap_alloc_new wr _)
                  have HSZ1 : Hid (w.heap.size ≤ (wr.alloc (.cells #[.int .u8 x] 5)).heap.size) := by
                    have h9 := HS1.out.2.size
                    unfold Hid
                    simp
                    omega
                  have HF1 : Hid (∀ v' V, V.ownsRow w.heap.size 5 1 v' (k9 + 1) (bvs (ac) ++ [Value.int .u8 x]) → (wr.alloc (.cells #[.int .u8 x] 5)).grownBy V (Value.slice sa1 k9 sc1).ownBlock → V.ownsRow w.heap.size 5 1 v' (k9 + 1) (bvs (ac ++ [x])) ∧ Up w V) := fun v' V n1 n2 =>
                    ⟨by rw [show bvs (ac ++ [x]) = bvs (ac) ++ [Value.int .u8 x] by simp [bvs]]; exact n1, Below.grown (HS1.out.2.alloc _) n2 (by have := HS1.out.2.size; simp; omega) (fun k9 hk => (World.ownsRow.lt HV1.out k9 hk).1)⟩
                  go_wp2_with (at_builtin; go_loud (refine wpList_append_own _ (by rfl) (.tmp 62) (.tmp 67) 22 (by rfl) w.heap.size 5 i5 _ 1 1 Tryd.underlying22 hi5 z0 z1 z2 (by rfl) (by decide) (.slice sa1 k9 sc1) k9 (bvs (ac)) (by rfl) HV1.out ⟨wr.heap.size, 0, none⟩ 1 1 [Value.int .u8 x] (by rfl) (by rfl) HMW1.out (by simp [Value.oneCell']) (by unfold maxLen; omega) (by omega) HSZ1.out ?_; intro v' V1 hin hg1 _; have HG1 : Hid (V1.ownsRow w.heap.size 5 1 v' (k9 + 1) (bvs (ac ++ [x])) ∧ Up w V1) := HF1.out v' V1 hin hg1; obtain ⟨fa1, fc1, hva⟩ : ∃ a c, v' = Value.slice a (k9 + 1) c := row_val hin; subst hva; clear hin hg1; skip))
                  go_roundw
                  case rel => exact ⟨i9 + 1, k9 + 1, ac ++ [x], fa1, fc1, by omega, by go_num, rfl, by rw [List.length_append, HA1.out.2]; rfl, by omega, HNX.out.symm, HG1.out.1, HG1.out.2⟩
                  case measure => simp [intOf]; omega
              · have hl92 : ¬ (i9 : Int) < (j : Int) := by omega
                obtain rfl : i9 = j := by omega
                have HFE : Hid (ac ++ [10] = gpL B ∧ (ac ++ [10]).length = k9 + 1) := by
                  refine ⟨?_, by rw [List.length_append, HA1.out.2]; rfl⟩
                  rw [HA1.out.1, HAE.out]
                  unfold gpL
                  rw [if_pos (by rw [← HM.out]; exact h3), HM.out, List.take_length]
                  simp
                have HV1 : Hid ((wr.alloc (.cells #[.int .u8 10] 5)).ownsRow w.heap.size 5 1 (.slice sa1 k9 sc1) k9 (bvs (ac))) := World.ownsRow.alloc HS1.out.1 _
                have HMW1 : Hid (∀ q u, [Value.int .u8 10][q]? = some u → (wr.alloc (.cells #[.int .u8 10] 5)).cell? ((⟨wr.heap.size, 0, none⟩ : Addr).add q) = some u) := World.news_of_block (cs := #[.int .u8 10]) (t := 5) (fr := (0, 0)) (heap_alloc_new wr _)
                have HSZ1 : Hid (w.heap.size ≤ (wr.alloc (.cells #[.int .u8 10] 5)).heap.size) := by
                  have h9 := HS1.out.2.size
                  unfold Hid
                  simp
                  omega
                have HF1 : Hid (∀ v' V, V.ownsRow w.heap.size 5 1 v' (k9 + 1) (bvs (ac) ++ [Value.int .u8 10]) → (wr.alloc (.cells #[.int .u8 10] 5)).grownBy V (Value.slice sa1 k9 sc1).ownBlock → V.ownsRow w.heap.size 5 1 v' (k9 + 1) (bvs (ac ++ [10])) ∧ Up w V) := fun v' V n1 n2 =>
                  ⟨by rw [show bvs (ac ++ [10]) = bvs (ac) ++ [Value.int .u8 10] by simp [bvs]]; exact n1, Below.grown (HS1.out.2.alloc _) n2 (by have := HS1.out.2.size; simp; omega) (fun k9 hk => (World.ownsRow.lt HV1.out k9 hk).1)⟩
                go_wp2_with (at_builtin; go_loud (refine wpList_append_own _ (by rfl) (.tmp 69) (.tmp 70) 22 (by rfl) w.heap.size 5 i5 _ 1 1 Tryd.underlying22 hi5 z0 z1 z2 (by rfl) (by decide) (.slice sa1 k9 sc1) k9 (bvs (ac)) (by rfl) HV1.out ⟨wr.heap.size, 0, none⟩ 1 1 [Value.int .u8 10] (by rfl) (by rfl) HMW1.out (by simp [Value.oneCell']) (by unfold maxLen; omega) (by omega) HSZ1.out ?_; intro v' V1 hin hg1 _; have HG1 : Hid (V1.ownsRow w.heap.size 5 1 v' (k9 + 1) (bvs (ac ++ [10])) ∧ Up w V1) := HF1.out v' V1 hin hg1; obtain ⟨fa1, fc1, hva⟩ : ∃ a c, v' = Value.slice a (k9 + 1) c := row_val hin; subst hva; clear hin hg1; skip))
                rw [HPo.out]
                exact gapR_of HBY.out (by have := HM.out; omega) HFE.out.1 HFE.out.2 HG1.out.1 HG1.out.2
          · have h32 : ((j : Int) % 3 == 1) = false := by simp; omega
            have h33 : ¬ (j : Int) % 3 = 1 := by omega
            go_wp2_with fail
            rw [HPo.out]
            exact gapR_of HBY.out (by have := HM.out; omega) (by rw [HAE.out]; unfold gpL; rw [if_neg (by rw [← HM.out]; exact h3), List.append_nil]) HAC.out.2 HS0.out.1 HS0.out.2
  · have hin2 : (n : Int) ≤ (i : Int) := by omega
    clear hcell hrow hV hc
    go_enter Tryd.func25, Tryd.ntmps25
    go_wp2_with fail
    rw [HPo.out]
    exact gapR_one w
end TK
end Go.Proofs.YtjjikeehifndhaaDoor
