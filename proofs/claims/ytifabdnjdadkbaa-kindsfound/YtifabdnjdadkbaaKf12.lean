
/-
  Each sign is found by its name: the law KindsFound.
-/
import Derived.Test.YtifabdnjdadkbaaLf12
namespace Go.Proofs.Ytifabdnjdadkbaa
open Go.RowKit
attribute [local go_sem ↓] Go.wp_at_zero Go.wp_at_succ
namespace KD
def okS (k : Nat) (s : Sg) : Bool := s.args.all (fun x => decide (-2 ≤ x) && decide (x ≠ 0) && decide (x ≤ 6)) && (decide (s.tell = 0) == decide (k = 2)) && decide (0 ≤ s.tell) && decide (s.tell ≤ 6)
theorem lst_ok {k : Nat} (hk : k < 3) : (lst k).all (okS k) = true := by
  match k, hk with
  | 0, _ => decide +kernel
  | 1, _ => decide +kernel
  | 2, _ => decide +kernel
theorem lst_nd {k : Nat} (hk : k < 3) : Nd (lst k) := by
  match k, hk with
  | 0, _ => exact fields_nd
  | 1, _ => exact funcs_nd
  | 2, _ => exact effects_nd
theorem lst_len {k : Nat} (hk : k < 3) : (lst k).length ≤ 13 := by
  match k, hk with
  | 0, _ => decide
  | 1, _ => decide
  | 2, _ => decide
theorem getD_mem {l : List Sg} {i : Nat} (h : i < l.length) : l.getD i ds ∈ l := by
  rw [List.getD_eq_getElem?_getD, List.getElem?_eq_getElem h]
  exact List.getElem_mem h
theorem fnd_self {l : List Sg} (hd : Nd l) {i : Nat} (hi : i < l.length) : fnd l (l.getD i ds).name = some i := by
  cases hf : fnd l (l.getD i ds).name with
  | none => exact absurd rfl (fnd_none hf i hi)
  | some k =>
    obtain ⟨hk, h1⟩ := fnd_some hf
    rcases Nat.lt_trichotomy k i with h | h | h
    · exact absurd h1 (hd k i h hi)
    · rw [h]
    · exact absurd h1.symm (hd i k h hk)
theorem knd_full {k : Int} (h0 : 0 ≤ k) (h6 : k ≤ 6) : ((knd k).toList == []) = false := by
  have h : k = 0 ∨ k = 1 ∨ k = 2 ∨ k = 3 ∨ k = 4 ∨ k = 5 ∨ k = 6 := by omega
  rcases h with rfl | rfl | rfl | rfl | rfl | rfl | rfl <;> decide +kernel
theorem gcost_in (b : Bool) (z : Int) : 1 ≤ gcost b z ∧ gcost b z ≤ 4611686018427387904 := by
  unfold gcost
  split
  · split
    · omega
    · split <;> omega
  · omega
theorem gcost_mono (b : Bool) {x y : Int} (h : x ≤ y) : gcost b x ≤ gcost b y := by
  unfold gcost
  split
  · split
    · split
      · omega
      · split <;> omega
    · split
      · split
        · omega
        · split <;> omega
      · split
        · omega
        · split <;> omega
  · omega
theorem arg_cell {W : World} {g : Nat} {s : Sg} (h : W.heap[g]? = some (argO s)) {j : Nat} (hj : j < s.args.length) : W.cell? ⟨g, j, none⟩ = some (.int .i8 (s.args.getD j 0)) := by
  unfold argO at h
  simp [World.cell?, h, ivs, List.getD_eq_getElem?_getD, List.getElem?_eq_getElem hj]
theorem lst_al {k : Nat} (hk : k < 3) : (lst k).all (fun s => decide (s.args.length ≤ 2)) = true := by
  match k, hk with
  | 0, _ => decide +kernel
  | 1, _ => decide +kernel
  | 2, _ => decide +kernel
theorem args_len {k i : Nat} (hk : k < 3) (hi : i < (lst k).length) : ((lst k).getD i ds).args.length ≤ 2 :=
  of_decide_eq_true (List.all_eq_true.1 (lst_al hk) _ (getD_mem hi))
theorem call_gi (b : Bool) (args : Array Value) (W : World) : (callFunc (gi b) args).run Try.prog W = .ok (.enter (gi b) args) W := by
  cases b <;> rfl
theorem getD_memI {l : List Int} {j : Nat} (h : j < l.length) : l.getD j 0 ∈ l := by
  rw [List.getD_eq_getElem?_getD, List.getElem?_eq_getElem h]
  exact List.getElem_mem h
theorem ok_all {k i : Nat} (hk : k < 3) (hi : i < (lst k).length) : (∀ j, j < ((lst k).getD i ds).args.length → -2 ≤ ((lst k).getD i ds).args.getD j 0 ∧ ((lst k).getD i ds).args.getD j 0 ≠ 0 ∧ ((lst k).getD i ds).args.getD j 0 ≤ 6) ∧ decide (((lst k).getD i ds).tell = 0) = decide (k = 2) ∧ 0 ≤ ((lst k).getD i ds).tell ∧ ((lst k).getD i ds).tell ≤ 6 := by
  have hok := List.all_eq_true.1 (lst_ok hk) _ (getD_mem hi)
  generalize (lst k).getD i ds = s at *
  unfold okS at hok
  simp only [Bool.and_eq_true, decide_eq_true_eq, beq_iff_eq] at hok
  obtain ⟨⟨⟨ho1, ho2⟩, ho3⟩, ho4⟩ := hok
  refine ⟨fun j hj => ?_, ho2, ho3, ho4⟩
  have h9 := List.all_eq_true.1 ho1 _ (getD_memI hj)
  simp only [Bool.and_eq_true, decide_eq_true_eq] at h9
  exact ⟨h9.1.1, h9.1.2, h9.2⟩
set_option maxRecDepth 100000 in
set_option maxHeartbeats 16000000 in
theorem kfound (a b : Int) (w : World) : Calls Try.prog 4 #[.int .i64 a, .int .i64 b] w fun e w' => e = .returned (.bool true) ∧ Up w w' := by
  obtain ⟨Post, hPost⟩ : ∃ P : Ending → World → Prop, P = fun e w' => e = .returned (.bool true) ∧ Up w w' := ⟨_, rfl⟩
  rw [← hPost]
  have HP : Hid (∀ W, Up w W → Post (.returned (.bool true)) W) := fun W h => by rw [hPost]; exact ⟨rfl, h⟩
  clear hPost
  have HLV : Hid (∀ W, Calls Try.prog 8 #[] W fun e w' => e = .returned (.bool true) ∧ Up W w') := lives_
  have hfe := feql
  go_enter Try.func4, Try.ntmps4
  go_wp2_with fail
  go_loopw [5] (fun s5 W => ∃ k : Nat, k ≤ 3 ∧ s5 = .int .i64 k ∧ Up w W) (fun s5 _ => 3 - (intOf s5).toNat)
  case atStart => exact ⟨0, by omega, rfl, Up.refl w⟩
  case round =>
    obtain ⟨k, hk, rfl, hu⟩ := hrel
    have HU : Hid (Up w wr) := hu
    clear hu
    by_cases hlt : k < 3
    · have hlt2 : (k : Int) < 3 := by omega
      have HLS : Hid (Calls Try.prog 9 #[.int .i64 (k : Int)] wr (LsR wr k)) := list_ k wr hlt
      have ek : IntKind.i64.wrap ((k : Int) + 1) = ((k + 1 : Nat) : Int) := by rw [IntKind.wrap_i64]; omega
      go_wp2_with fail
      refine HLS.out.mono ?_
      rintro r W1 ⟨b1, rfl, hsl, u1, -⟩
      have HS1 : Hid (SL W1 b1 (lst k)) := hsl
      have HU1 : Hid (Up w W1) := HU.out.trans u1
      have HK : Hid (k < 3) := hlt
      have HLN : Hid ((lst k).length ≤ 13) := lst_len hlt
      clear hsl u1 HU HLS
      obtain ⟨n, hn⟩ : ∃ n, n = (lst k).length := ⟨_, rfl⟩
      have HN : Hid (n = (lst k).length) := hn
      obtain ⟨g0, hg0⟩ : ∃ g, g = b1 + (lst k).length := ⟨_, rfl⟩
      have HG0 : Hid (g0 = b1 + (lst k).length) := hg0
      rw [← hg0, ← hn]
      clear hg0
      have hn13 : n ≤ 13 := by rw [hn]; exact HLN.out
      clear hn
      go_wp2_with fail
      go_loopw [7] (fun s7 W => ∃ i : Nat, i ≤ n ∧ s7 = .int .i64 i ∧ Up W1 W) (fun s7 _ => n - (intOf s7).toNat)
      case atStart => exact ⟨0, by omega, rfl, Up.refl W1⟩
      case round =>
        obtain ⟨i, hi, rfl, hv⟩ := hrel
        have HV : Hid (Up W1 wr) := hv
        clear hv
        by_cases hil : i < n
        · have hil2 : (i : Int) < (n : Int) := by omega
          have HIL : Hid (i < (lst k).length) := by unfold Hid; rw [← HN.out]; exact hil
          have HX : Hid (∀ W, Up W1 W → W.cell? ⟨g0, i * 4, none⟩ = some (.string ((lst k).getD i ds).name) ∧ W.cell? ⟨g0, i * 4 + 1, none⟩ = some (.slice (some ⟨b1 + i, 0, none⟩) ((lst k).getD i ds).args.length ((lst k).getD i ds).args.length) ∧ W.cell? ⟨g0, i * 4 + 2, none⟩ = some (.int .i8 ((lst k).getD i ds).tell) ∧ W.cell? ⟨g0, i * 4 + 3, none⟩ = some (.func (.func (gi ((lst k).getD i ds).each)) #[] #[])) := fun W u => by
            rw [HG0.out]
            exact (HS1.out.up u).row HIL.out
          have HB : Hid (∀ W, Up W1 W → ∀ j, j < ((lst k).getD i ds).args.length → W.cell? ⟨b1 + i, j, none⟩ = some (.int .i8 (((lst k).getD i ds).args.getD j 0))) := fun W u j hj => arg_cell ((HS1.out.up u).args HIL.out) hj
          have HFD : Hid (∀ W, Calls Try.prog 10 #[.int .i64 (k : Int), .string ((lst k).getD i ds).name] W fun e w' => ∃ g, e = .returned (.tuple #[.int .i64 (i : Int), .agg #[.string ((lst k).getD i ds).name, .slice (some ⟨g, 0, none⟩) ((lst k).getD i ds).args.length ((lst k).getD i ds).args.length, .int .i8 ((lst k).getD i ds).tell, .func (.func (gi ((lst k).getD i ds).each)) #[] #[]], .bool true]) ∧ Up W w' ∧ ∀ V, Up w' V → ∀ j, j < ((lst k).getD i ds).args.length → V.cell? ⟨g, j, none⟩ = some (.int .i8 (((lst k).getD i ds).args.getD j 0))) := fun W => (lfind_ k _ W HK.out).mono fun e w' ⟨h1, h2⟩ => by
            unfold FdR at h1
            rw [fnd_self (lst_nd HK.out) HIL.out] at h1
            obtain ⟨g, h1, h3⟩ := h1
            exact ⟨g, h1, h2, fun V hV j hj => arg_cell (hV.heap h3) hj⟩
          obtain ⟨ho1, ho2, ho3, ho4⟩ := ok_all HK.out HIL.out
          have HO1 : Hid (∀ j, j < ((lst k).getD i ds).args.length → -2 ≤ ((lst k).getD i ds).args.getD j 0 ∧ ((lst k).getD i ds).args.getD j 0 ≠ 0 ∧ ((lst k).getD i ds).args.getD j 0 ≤ 6) := ho1
          have HO2 : Hid (decide (((lst k).getD i ds).tell = 0) = decide (k = 2)) := ho2
          have HGS : Hid (∀ W z, Calls Try.prog (gi ((lst k).getD i ds).each) #[.int .i64 z] W fun e w' => e = .returned (.int .i64 (gcost ((lst k).getD i ds).each z)) ∧ w' = W) := fun W z => gas_ _ z W
          have HKT : Hid (∀ W, Calls Try.prog 6 #[.int .i8 ((lst k).getD i ds).tell] W fun e w' => e = .returned (.string (knd ((lst k).getD i ds).tell)) ∧ w' = W) := fun W => kind_ _ W
          have HAL : Hid (((lst k).getD i ds).args.length ≤ 1000) := Nat.le_trans (args_len HK.out HIL.out) (by decide)
          have HKF : Hid (((knd ((lst k).getD i ds).tell).toList == []) = false) := knd_full ho3 ho4
          clear ho1 ho2 ho3 ho4
          generalize hsg : (lst k).getD i ds = sg at *
          clear hsg
          obtain ⟨nm, ar, tl, ec⟩ := sg
          dsimp only at *
          have hcf : ∀ (z : Int) (W : World), (callFunc (gi ec) #[.int .i64 z]).run Try.prog W = .ok (.enter (gi ec) #[.int .i64 z]) W := fun z W => call_gi ec _ W
          generalize gi ec = gf at *
          have ei : IntKind.i64.wrap ((i : Int) + 1) = ((i + 1 : Nat) : Int) := by rw [IntKind.wrap_i64]; omega
          obtain ⟨x0, x1, x2, x3⟩ := HX.out wr HV.out
          go_wp2_with fail
          refine (HFD.out _).mono ?_
          rintro r W2 ⟨g, rfl, u2, hg⟩
          have HV2 : Hid (Up W1 (W2.alloc (.cells #[.string nm, .slice (some ⟨g, 0, none⟩) ar.length ar.length, .int .i8 tl, .func (.func gf) #[] #[]] 31))) := (HV.out.trans u2).alloc _
          have HGC : Hid (∀ V, Up (W2.alloc (.cells #[.string nm, .slice (some ⟨g, 0, none⟩) ar.length ar.length, .int .i8 tl, .func (.func gf) #[] #[]] 31)) V → ∀ j, j < ar.length → V.cell? ⟨g, j, none⟩ = some (.int .i8 (ar.getD j 0))) := fun V hV j hj => hg V (((Up.refl W2).alloc _).trans hV) j hj
          have HPC : Hid (∀ V, Up (W2.alloc (.cells #[.string nm, .slice (some ⟨g, 0, none⟩) ar.length ar.length, .int .i8 tl, .func (.func gf) #[] #[]] 31)) V → V.cell? ⟨W2.heap.size, 0, none⟩ = some (.string nm) ∧ V.cell? ⟨W2.heap.size, 1, none⟩ = some (.slice (some ⟨g, 0, none⟩) ar.length ar.length) ∧ V.cell? ⟨W2.heap.size, 2, none⟩ = some (.int .i8 tl) ∧ V.cell? ⟨W2.heap.size, 3, none⟩ = some (.func (.func gf) #[] #[])) := fun V hV => by
            have h9 := hV.heap (heap_alloc_new W2 _)
            exact ⟨by simp [World.cell?, h9], by simp [World.cell?, h9], by simp [World.cell?, h9], by simp [World.cell?, h9]⟩
          clear u2 hg x0 x1 x2 x3 HFD HV
          have HQ : Hid (ar.length ≤ 1000) := HAL.out
          generalize ar.length = q at *
          go_wp2_with fail
          obtain ⟨p, hp⟩ : ∃ p, p = W2.heap.size := ⟨_, rfl⟩
          obtain ⟨W3, hW3⟩ : ∃ W, W = W2.alloc (.cells #[.string nm, .slice (some ⟨g, 0, none⟩) q q, .int .i8 tl, .func (.func gf) #[] #[]] 31) := ⟨_, rfl⟩
          rw [← hW3] at HV2 HGC HPC ⊢
          rw [← hp] at HPC ⊢
          clear hp hW3
          obtain ⟨x0, x1, x2, x3⟩ := HX.out W3 HV2.out
          obtain ⟨y0, y1, y2, y3⟩ := HPC.out W3 (Up.refl _)
          go_quiet (fail)
          have u4 : Up W3 (W3.drewN nq) := (Up.refl _).drewN nq
          generalize W3.drewN nq = W4 at *
          have HV4 : Hid (Up W1 W4) := HV2.out.trans u4
          have HGC4 : Hid (∀ j, j < q → W4.cell? ⟨g, j, none⟩ = some (.int .i8 (ar.getD j 0))) := fun j hj => HGC.out W4 u4 j hj
          have HB4 : Hid (∀ j, j < q → W4.cell? ⟨b1 + i, j, none⟩ = some (.int .i8 (ar.getD j 0))) := fun j hj => HB.out W4 HV4.out j hj
          clear x0 x1 x2 x3 y0 y1 y2 y3
          obtain ⟨x0, x1, x2, x3⟩ := HX.out W4 HV4.out
          obtain ⟨y0, y1, y2, y3⟩ := HPC.out W4 u4
          clear u4 HV2 HGC HPC HB
          have HC : Hid (∀ z, 1 ≤ gcost ec z ∧ gcost ec z ≤ 4611686018427387904) := gcost_in ec
          have HKV : Hid (∀ v, Calls Try.prog 6 #[.int .i8 v] W4 fun e w' => e = .returned (.string (knd v)) ∧ w' = W4) := fun v => kind_ v W4
          have hq : q ≤ 1000 := HQ.out
          go_wp2_with fail
          go_loopw [11] (fun s11 W => ∃ j : Nat, j ≤ q ∧ s11 = .int .i64 j ∧ W = W4) (fun s11 _ => q - (intOf s11).toNat)
          case atStart => exact ⟨0, by omega, rfl, rfl⟩
          case round =>
            obtain ⟨j, hj, rfl, rfl⟩ := hrel
            by_cases hjl : j < q
            · have hjl2 : (j : Int) < (q : Int) := by omega
              have z1 := HB4.out j hjl
              have z2 := HGC4.out j hjl
              obtain ⟨v1, v2, v3⟩ := HO1.out j hjl
              have ej : IntKind.i64.wrap ((j : Int) + 1) = ((j + 1 : Nat) : Int) := by rw [IntKind.wrap_i64]; omega
              have HVF : Hid (0 < ar.getD j 0 → ((knd (ar.getD j 0)).toList == []) = false) := fun h => knd_full (by omega) v3
              generalize ar.getD j 0 = v at *
              have v4 : ¬ v < -2 := by omega
              have v5 : ¬ 6 < v := by omega
              by_cases hv : 0 < v
              · have hvf := HVF.out hv
                go_wp2_with fail
                refine (HKV.out v).mono ?_
                rintro r W5 ⟨rfl, hw⟩
                obtain rfl := hw.symm
                clear hw
                generalize knd v = kv at *
                go_wp2_with fail
                go_roundw
                case rel => exact ⟨j + 1, by omega, by go_num, by trivial⟩
                case measure => simp [intOf]; omega
              · go_wp2_with fail
                go_roundw
                case rel => exact ⟨j + 1, by omega, by go_num, by trivial⟩
                case measure => simp [intOf]; omega
            · have hjl2 : ¬ (j : Int) < (q : Int) := by omega
              have hkf := HKF.out
              generalize knd tl = kt at *
              have e4 : (tl == 0) = ((k : Int) == 2) := by
                have h : tl = 0 ↔ k = 2 := decide_eq_decide.1 HO2.out
                rw [Bool.eq_iff_iff, beq_iff_eq, beq_iff_eq]
                omega
              go_wp2_with fail
              refine (HKT.out _).mono ?_
              rintro r W5 ⟨rfl, hw⟩
              obtain rfl := hw.symm
              clear hw
              go_wp2_with fail
              refine (HGS.out _ _).mono ?_
              rintro r W5 ⟨rfl, hw⟩
              obtain rfl := hw.symm
              clear hw
              go_wp2_with fail
              refine (HGS.out _ _).mono ?_
              rintro r W5 ⟨rfl, hw⟩
              obtain rfl := hw.symm
              clear hw
              have q1 := (HC.out a).1
              have q2 := (HC.out a).2
              have q3 := (HC.out b).1
              have m1 : a ≤ b → gcost ec a ≤ gcost ec b := fun h => gcost_mono ec h
              have m2 : b ≤ a → gcost ec b ≤ gcost ec a := fun h => gcost_mono ec h
              generalize gcost ec a = ga at *
              generalize gcost ec b = gb at *
              have r1 : ¬ ga < 1 := by omega
              have r2 : ¬ gb < 1 := by omega
              have r3 : ¬ 4611686018427387904 < ga := by omega
              clear q1 q2 q3
              by_cases hab : a ≤ b
              · have r4 : ¬ gb < ga := by have := m1 hab; omega
                by_cases hba : b ≤ a
                · have r5 : ¬ ga < gb := by have := m2 hba; omega
                  clear m1 m2
                  go_wp2_with fail
                  go_roundw
                  case rel => exact ⟨i + 1, by omega, by go_num, HV4.out⟩
                  case measure => simp [intOf]; omega
                · clear m1 m2
                  go_wp2_with fail
                  go_roundw
                  case rel => exact ⟨i + 1, by omega, by go_num, HV4.out⟩
                  case measure => simp [intOf]; omega
              · have hba : b ≤ a := by omega
                have r5 : ¬ ga < gb := by have := m2 hba; omega
                clear m1 m2
                go_wp2_with fail
                go_roundw
                case rel => exact ⟨i + 1, by omega, by go_num, HV4.out⟩
                case measure => simp [intOf]; omega
        · have hil2 : ¬ (i : Int) < (n : Int) := by omega
          have HU2 : Hid (Up w wr) := HU1.out.trans HV.out
          go_wp2_with fail
          go_roundw
          case rel => exact ⟨k + 1, by omega, by go_num, HU2.out⟩
          case measure => simp [intOf]; omega
    · have hlt2 : ¬ (k : Int) < 3 := by omega
      go_wp2_with fail
      refine (HLV.out _).mono ?_
      rintro r W6 ⟨rfl, u6⟩
      have HU6 : Hid (Up w W6) := HU.out.trans u6
      clear u6
      go_wp2_with fail
      exact HP.out _ HU6.out
end KD
end Go.Proofs.Ytifabdnjdadkbaa
