
/-
  TokensStand: the law's walk.
-/
import Derived.Test.YtibdnklkcgafkaaDoorTs8
import Derived.Test.YtibdnklkcgafkaaDoorLu8
import Derived.Test.YtibdnklkcgafkaaDoorWk8
import Derived.Test.YtibdnklkcgafkaaDoorTw8
namespace Go.Proofs.YtibdnklkcgafkaaDoor
open Go.RowKit
attribute [local go_sem ↓] Go.wp_at_zero Go.wp_at_succ
namespace TK
theorem own_bl {W : World} {base : Nat} {v : Value} {l : List Int} (h : W.ownsRow base 5 1 v l.length (bvs l)) : BL W v l := by
  rcases own_lv h with ⟨rfl, rfl⟩ | ⟨b, o, c, rfl, hc, hb⟩
  · exact ⟨rfl, none, 0, rfl, by simp, fun h9 => absurd rfl h9⟩
  · exact ba_bl hb hc
theorem ba_sub {W : World} {b o : Nat} {B : List Int} (h : BA W b o B) {p e : Nat} (he : e ≤ B.length) : BA W b (o + p) (sub B p e) := fun W' u j hj => by
  rw [sub_ln he] at hj
  rw [sub_at hj, Nat.add_assoc]
  exact h W' u (p + j) (by omega)
theorem tokEq (k : Int) (s : ByteArray) (n p : Int) : ∀ W, (binOp .eql 63 (.agg #[.int .i8 k, .string s, .int .i64 n, .int .i64 p]) (.agg #[.int .i8 k, .string s, .int .i64 n, .int .i64 p])).run Tryd.prog W = .ok (.bool true) W := fun W => by
  have h : (Op.equalIn 10000 63 (.agg #[.int .i8 k, .string s, .int .i64 n, .int .i64 p]) (.agg #[.int .i8 k, .string s, .int .i64 n, .int .i64 p])).run Tryd.prog W = .ok true W := by
    have u3 := Tryd.underlying3
    have v3 := Tryd.isAgg3
    have z3 := Tryd.sizeOf3
    have u4 := Tryd.underlying61
    have v4 := Tryd.isAgg61
    have z4 := Tryd.sizeOf61
    have u5 := Tryd.underlying9
    have v5 := Tryd.isAgg9
    have z5 := Tryd.sizeOf9
    have u6 := Tryd.underlying2
    have v6 := Tryd.isAgg2
    have z6 := Tryd.sizeOf2
    rw [show (10000 : Nat) = 9999 + 1 from rfl, run_equalIn_agg W 9999 63 _ _ sTok hTok]
    simp only [Program.fieldsOf, Tryd.underlying63]
    go_simp
  rw [run_eql_struct, h]
  simp [Result.andThen]
theorem std_le {B : List Int} {m : Nat} (_hlen : (cuL B).length = m + 1) (h : ∀ i, i < m + 1 → ∃ p : Nat, ((cuL B).getD i ⟨0, [], 0, 0⟩).pos = (p : Int) ∧ p + (tex ((cuL B).getD i ⟨0, [], 0, 0⟩)).length ≤ B.length ∧ sub B p (p + (tex ((cuL B).getD i ⟨0, [], 0, 0⟩)).length) = tex ((cuL B).getD i ⟨0, [], 0, 0⟩) ∧ Gp B (bhd (cuL B) i) p ∧ (tex ((cuL B).getD i ⟨0, [], 0, 0⟩) = [] ↔ i = m) ∧ bhd (cuL B) (i + 1) = p + (tex ((cuL B).getD i ⟨0, [], 0, 0⟩)).length ∧ Byt ((cuL B).getD i ⟨0, [], 0, 0⟩).text ∧ ((cuL B).getD i ⟨0, [], 0, 0⟩).text.length ≤ 65536 ∧ 0 ≤ ((cuL B).getD i ⟨0, [], 0, 0⟩).num ∧ ((cuL B).getD i ⟨0, [], 0, 0⟩).num ≤ 9223372036854775807) : m ≤ B.length := by
  have k : ∀ i, i ≤ m → i ≤ bhd (cuL B) i := by
    intro i
    induction i with
    | zero => intro _; exact Nat.zero_le _
    | succ i ih =>
      intro hi
      obtain ⟨p, -, -, -, h4, h5, h6, -⟩ := h i (by omega)
      have h7 := h4.le
      have h8 := ih (by omega)
      have h9 : (tex ((cuL B).getD i ⟨0, [], 0, 0⟩)).length ≠ 0 := fun e => by
        have := h5.1 (List.length_eq_zero_iff.1 e)
        omega
      omega
  obtain ⟨p, -, h3, -, h4, -⟩ := h m (by omega)
  have := k m (Nat.le_refl _)
  have := h4.le
  omega
set_option maxRecDepth 100000 in
set_option maxHeartbeats 8000000 in
theorem tstand (b off c : Nat) (B : List Int) (w : World) (hA : BA w b off B) (hc : B.length ≤ c) (hby : Byt B) (hT : TabP w) (her : ER w) :
    Calls Tryd.prog 7 #[.slice (some ⟨b, off, none⟩) B.length c] w fun e w' => e = .returned (.bool true) ∧ Up w w' := by
  obtain ⟨Post, hPost⟩ : ∃ P : Ending → World → Prop, P = fun e w' => e = .returned (.bool true) ∧ Up w w' := ⟨_, rfl⟩
  rw [← hPost]
  have HPo : Hid (Post = fun e w' => e = .returned (.bool true) ∧ Up w w') := hPost
  clear hPost
  have HBY : Hid (Byt B) := hby
  have HBA : Hid (∀ W, Up w W → BA W b off B) := fun W u => hA.up u
  have HER : Hid (∀ W, Up w W → ER W) := fun W u => her.up u
  have HTP : Hid (∀ W, Up w W → TabP W) := fun W u => hT.up u
  obtain ⟨n, hN⟩ : ∃ n, n = B.length := ⟨_, rfl⟩
  have HN : Hid (n = B.length) := hN
  rw [← hN] at hc ⊢
  clear hA hby her hT hN
  go_enter Tryd.func7, Tryd.ntmps7
  go_wp2_with fail
  refine Calls.mono (SM.longB n w) ?_
  rintro r W1 ⟨rfl, hw1⟩
  obtain rfl := hw1.symm
  clear hw1
  by_cases hbig : 2147483647 < n
  · rw [decide_eq_true hbig]
    go_wp2_with fail
    rw [HPo.out]
    exact ⟨rfl, Up.refl _⟩
  · rw [decide_eq_false hbig]
    have HCP : Hid (∀ W p e k, Up w W → p ≤ e → e ≤ n → e - p ≤ k → Calls Tryd.prog 16 #[.slice (some ⟨b, off + p, none⟩) (e - p) k] W fun r w' => ∃ u, r = .returned u ∧ BL w' u (sub B p e) ∧ Up W w') := fun W p e k hu hpe he hk => by
      have hsl : (sub B p e).length = e - p := sub_ln (by have := HN.out; omega)
      have h9 := copyT_ _ (sub B p e) W (ba_bl (c := k) (ba_sub (p := p) (e := e) (HBA.out W hu) (by have := HN.out; omega)) (by omega)) (byt_sub HBY.out (by have := HN.out; omega)) (fun cap h8 => by cases h8) (by omega)
      rw [hsl] at h9
      refine h9.mono ?_
      rintro r w' ⟨u, h1, h2, h3⟩
      rw [← hsl] at h2
      exact ⟨u, h1, own_bl h2, h3⟩
    have HC0 : Hid (Calls Tryd.prog 16 #[.slice (some ⟨b, off, none⟩) n c] w fun r w' => ∃ u, r = .returned u ∧ BL w' u B ∧ Up w w') := by
      have h9 := HCP.out w 0 n c (Up.refl _) (Nat.zero_le _) (Nat.le_refl _) (by omega)
      rw [Nat.add_zero, Nat.sub_zero, show sub B 0 n = B by unfold sub; rw [Nat.sub_zero, HN.out, List.drop_zero, List.take_length]] at h9
      exact h9
    go_wp2_with fail
    refine Calls.mono HC0.out ?_
    rintro r W2 ⟨u, rfl, hbl, u2⟩
    have HCU : Hid (Calls Tryd.prog 11 #[u] W2 (CuP W2 B)) := cut_ u B W2 hbl HBY.out (HER.out W2 u2)
    have HU : Hid (Up w W2) := u2
    clear hbl u2 HC0
    go_wp2_with fail
    refine Calls.mono HCU.out ?_
    rintro r W3 ⟨v, rfl, hrow, u3⟩
    have HU : Hid (Up w W3) := HU.out.trans u3
    have HWK : Hid (∀ W, Up w W → Calls Tryd.prog 19 #[] W fun e w' => e = .returned (.bool true) ∧ Up W w') := fun W hu => works_ W (HER.out W hu)
    clear u3 HCU
    by_cases hE : cuE B = 0
    · replace hrow := own_tl hrow
      obtain ⟨hn64, m, hlen, hend, hstd⟩ := all_std HBY.out hE
      obtain ⟨ad, cp, hv, -, hcell⟩ := tl_at hrow
      rw [hE]
      rw [hlen] at hv hcell
      obtain ⟨b2, o2, hae, hcl⟩ := hcell (by omega)
      subst hae
      subst hv
      have HCE : Hid (∀ W, Up W3 W → ∀ i, i < m + 1 → W.cell? ⟨b2, o2 + i * 4, none⟩ = some (.int .i8 ((cuL B).getD i dt).kind) ∧ W.cell? ⟨b2, o2 + i * 4 + 1, none⟩ = some (.string (strOfNums ((cuL B).getD i dt).text)) ∧ W.cell? ⟨b2, o2 + i * 4 + 2, none⟩ = some (.int .i64 ((cuL B).getD i dt).num) ∧ W.cell? ⟨b2, o2 + i * 4 + 3, none⟩ = some (.int .i64 ((cuL B).getD i dt).pos)) := hcl
      have HSD : Hid (∀ i, i < m + 1 → ∃ p : Nat, ((cuL B).getD i dt).pos = (p : Int) ∧ p + (tex ((cuL B).getD i dt)).length ≤ B.length ∧ sub B p (p + (tex ((cuL B).getD i dt)).length) = tex ((cuL B).getD i dt) ∧ Gp B (bhd (cuL B) i) p ∧ (tex ((cuL B).getD i dt) = [] ↔ i = m) ∧ bhd (cuL B) (i + 1) = p + (tex ((cuL B).getD i dt)).length ∧ Byt ((cuL B).getD i dt).text ∧ ((cuL B).getD i dt).text.length ≤ 65536 ∧ 0 ≤ ((cuL B).getD i dt).num ∧ ((cuL B).getD i dt).num ≤ 9223372036854775807) := hstd
      have HEN : Hid ((cuL B).getD m dt = ⟨0, [], 0, B.length⟩) := hend
      have hm : m ≤ 65536 := by have := std_le hlen hstd; omega
      clear hrow hcell hcl hstd hend hlen hE
      go_wp2_with fail
      go_loopw [6, 7] (fun s6 s7 W => ∃ i : Nat, i ≤ m + 1 ∧ s6 = .int .i64 (bhd (cuL B) i : Nat) ∧ s7 = .int .i64 i ∧ Up W3 W) (fun _ s7 _ => m + 1 - (intOf s7).toNat)
      case atStart => exact ⟨0, Nat.zero_le _, rfl, rfl, Up.refl _⟩
      case round =>
        obtain ⟨i, hi, rfl, rfl, hu⟩ := hrel
        have HU3 : Hid (Up W3 wr) := hu
        clear hu
        by_cases hlt : i < m + 1
        · have hlt2 : (i : Int) < (m : Int) + 1 := by omega
          obtain ⟨x0, x1, x2, x3⟩ := HCE.out wr HU3.out i hlt
          obtain ⟨p, hp, hpe, hsub, hgp, hnil, hbhd, htb, htl, hn0, hn1⟩ := HSD.out i hlt
          have HTX : Hid (∀ W, Up w W → Calls Tryd.prog 22 #[.agg #[.int .i8 ((cuL B).getD i dt).kind, .string (strOfNums ((cuL B).getD i dt).text), .int .i64 ((cuL B).getD i dt).num, .int .i64 ((cuL B).getD i dt).pos]] W fun e w' => e = .returned (.string (strOfNums (tex ((cuL B).getD i dt)))) ∧ Up W w') := fun W hu => text8_ _ _ _ _ W htb (by omega) (by omega) hn1 (HTP.out W hu)
          have hgl := hgp.le
          have HGC := gp_cut hgp (by omega) (by have := HN.out; omega)
          have HB1 : Hid (bhd (cuL B) (i + 1) = p + (tex ((cuL B).getD i dt)).length) := hbhd
          have hsz : (strOfNums (tex ((cuL B).getD i dt))).size = (tex ((cuL B).getD i dt)).length := strOfNums_size _
          have HCV : Hid (∀ W, Up w W → (convert 22 9 (.slice (some ⟨b, off + p, none⟩) (strOfNums (tex ((cuL B).getD i dt))).size (c - p))).run Tryd.prog W = .ok (.string (strOfNums (tex ((cuL B).getD i dt)))) W) := fun W hu => by
            have h9 := conv_sub (HBA.out W hu) (p := p) (e := p + (tex ((cuL B).getD i dt)).length) (by omega) (c - p)
            rw [hsub, Nat.add_sub_cancel_left] at h9
            rw [hsz]
            exact h9
          have hem : (strOfNums (tex ((cuL B).getD i dt))).toList = [] ↔ i = m := nums_nil.trans hnil
          have hem2 : (strOfNums (tex ((cuL B).getD i dt))).size = 0 ↔ i = m := by rw [hsz, List.length_eq_zero_iff]; exact hnil
          have hem3 : i = m → strOfNums (tex ((cuL B).getD i dt)) = strOfNums [] := fun h9 => by rw [hnil.2 h9]
          have hpm : i = m → p = n := fun h9 => by
            have h8 := hp
            rw [h9] at h8
            rw [show (cuL B).getD m dt = _ from HEN.out] at h8
            have : (B.length : Int) = (p : Int) := h8
            have := HN.out
            omega
          rw [← hsz] at hpe HB1
          rw [hp] at x3 HTX
          rw [← HN.out] at hpe
          clear hsub hnil htb htl hn0 hn1 hgp hbhd hsz hp
          generalize strOfNums (tex ((cuL B).getD i dt)) = ys at *
          generalize strOfNums ((cuL B).getD i dt).text = ts at *
          generalize ((cuL B).getD i dt).kind = tk at *
          generalize ((cuL B).getD i dt).num = tn at *
          have HBI : Hid (bhd (cuL B) (i + 1) = p + ys.size) := HB1
          clear HB1
          generalize bhd (cuL B) i = bi at *
          have HCT : Hid (∀ v W, Up w W → BL W v (sub B bi p) → Calls Tryd.prog 11 #[v] W fun e w' => ∃ ad cp A, e = .returned (.tuple #[.slice ad 1 cp, .int .i64 0, .int .i64 A]) ∧ Up W w') := fun v W hu hb => by
            refine (cut_ v _ W hb (byt_sub HBY.out (by have := HN.out; omega)) (HER.out W hu)).mono ?_
            rintro e w' ⟨v9, h1, h2, h3⟩
            rw [HGC.2] at h2
            rw [HGC.1] at h1
            obtain ⟨ad, cp, hv⟩ := row_val h2
            subst hv
            exact ⟨ad, cp, _, h1, h3⟩
          obtain ⟨W4, hW4⟩ : ∃ W4, wr.alloc (.cells #[.int .i8 tk, .string ts, .int .i64 tn, .int .i64 (p : Int)] 63) = W4 := ⟨_, rfl⟩
          have g1 : W4.heap[wr.heap.size]? = some (.cells #[.int .i8 tk, .string ts, .int .i64 tn, .int .i64 (p : Int)] 63 (0, 0)) := by rw [← hW4]; exact heap_alloc_new _ _
          have HU4 : Hid (Up W3 W4) := by
            unfold Hid
            rw [← hW4]
            exact HU3.out.alloc _
          have y0 : W4.cell? ⟨wr.heap.size, 0, none⟩ = some (.int .i8 tk) := by simp only [World.cell?, g1]; rfl
          have y1 : W4.cell? ⟨wr.heap.size, 1, none⟩ = some (.string ts) := by simp only [World.cell?, g1]; rfl
          have y2 : W4.cell? ⟨wr.heap.size, 2, none⟩ = some (.int .i64 tn) := by simp only [World.cell?, g1]; rfl
          have y3 : W4.cell? ⟨wr.heap.size, 3, none⟩ = some (.int .i64 (p : Int)) := by simp only [World.cell?, g1]; rfl
          clear HGC
          go_wp2_with fail
          first | refine calls_world hW4 (Calls.mono (HTX.out W4 (HU.out.trans HU4.out)) ?_) | refine Calls.mono (HTX.out W4 (HU.out.trans HU4.out)) ?_
          rintro r W5 ⟨rfl, u5⟩
          have HU5 : Hid (Up W3 W5) := HU4.out.trans u5
          have g1 := u5.heap g1
          have y3 : W5.cell? ⟨wr.heap.size, 3, none⟩ = some (.int .i64 (p : Int)) := by simp only [World.cell?, g1]; rfl
          have hcv := HCV.out W5 (HU.out.trans HU5.out)
          have q1 : ¬ ((p : Int) < (bi : Int)) := by omega
          have q2 : ¬ ((n : Int) < (p : Int)) := by omega
          have q3 : IntKind.i64.wrap ((n : Int) - (p : Int)) = (n : Int) - (p : Int) := by rw [IntKind.wrap_i64]; omega
          have q4 : ¬ ((n : Int) - (p : Int) < (ys.size : Int)) := by omega
          have q5 : IntKind.i64.wrap ((p : Int) + (ys.size : Int)) = (p : Int) + (ys.size : Int) := by rw [IntKind.wrap_i64]; omega
          clear u5 hW4 x0 x1 x2 x3 HTX HCV HU4 HU3
          by_cases him : i = m
          · have ei : IntKind.i64.wrap ((i : Int) + 1) = ((i + 1 : Nat) : Int) := by rw [IntKind.wrap_i64]; omega
            have hz0 : ys.size = 0 := hem2.2 him
            have q8 : ys.toList.isEmpty = true := by rw [hem.2 him]; rfl
            have q9 : ¬ p < bi := by omega
            have q10 : ¬ n < p := by omega
            have q11 : ¬ (((p < bi ∨ n < p) ∨ (n : Int) - (p : Int) < (ys.size : Int)) ∨ ys.toList.isEmpty = false) := by
              rw [q8]
              simp
              omega
            have hpn := hpm him
            have hy0 := hem3 him
            clear hem hem2 hpm hem3
            subst him
            by_cases hpc : p < c
            · have q7 : bi < c := by omega
              clear hz0 hpn hy0
              go_wp2_with fail
              refine Calls.mono (HCP.out W5 bi p (c - bi) (HU.out.trans HU5.out) (by omega) (by omega) (by omega)) ?_
              rintro r W6 ⟨u9, rfl, hbl9, u6⟩
              have HU6 : Hid (Up W3 W6) := HU5.out.trans u6
              have HQ : Hid (Calls Tryd.prog 11 #[u9] W6 fun e w' => ∃ ad cp A, e = .returned (.tuple #[.slice ad 1 cp, .int .i64 0, .int .i64 A]) ∧ Up W6 w') := HCT.out u9 W6 (HU.out.trans HU6.out) (hbl9)
              have g1 := u6.heap g1
              clear u6 y3 hbl9
              go_wp2_with fail
              refine Calls.mono HQ.out ?_
              rintro r W7 ⟨ad9, cp9, A9, rfl, u7⟩
              have HU7 : Hid (Up W3 W7) := HU6.out.trans u7
              have g1 := u7.heap g1
              have y3 : W7.cell? ⟨wr.heap.size, 3, none⟩ = some (.int .i64 (p : Int)) := by simp only [World.cell?, g1]; rfl
              clear u7 g1 HQ
              go_wp2_with fail
              go_roundw
              case rel => exact ⟨i + 1, by omega, by rw [HBI.out]; go_num, by go_num, HU7.out⟩
              case measure => simp [intOf] <;> omega
            · have hcn : c = p := by omega
              have hcv : (convert 22 9 (.slice (some ⟨b, off, none⟩) ys.size 0)).run Tryd.prog W5 = .ok (.string ys) W5 := by
                have h9 := conv_sub (HBA.out W5 (HU.out.trans HU5.out)) (p := 0) (e := 0) (Nat.zero_le _) 0
                rw [sub_self, Nat.sub_zero, Nat.add_zero] at h9
                rw [hz0, h9, hy0]
              subst hcn
              clear hz0 hpn hy0
              by_cases hbp : bi < c
              · skip
                go_wp2_with fail
                refine Calls.mono (HCP.out W5 bi c (c - bi) (HU.out.trans HU5.out) (by omega) (by omega) (by omega)) ?_
                rintro r W6 ⟨u9, rfl, hbl9, u6⟩
                have HU6 : Hid (Up W3 W6) := HU5.out.trans u6
                have HQ : Hid (Calls Tryd.prog 11 #[u9] W6 fun e w' => ∃ ad cp A, e = .returned (.tuple #[.slice ad 1 cp, .int .i64 0, .int .i64 A]) ∧ Up W6 w') := HCT.out u9 W6 (HU.out.trans HU6.out) (hbl9)
                have g1 := u6.heap g1
                clear u6 y3 hbl9
                go_wp2_with fail
                refine Calls.mono HQ.out ?_
                rintro r W7 ⟨ad9, cp9, A9, rfl, u7⟩
                have HU7 : Hid (Up W3 W7) := HU6.out.trans u7
                have g1 := u7.heap g1
                have y3 : W7.cell? ⟨wr.heap.size, 3, none⟩ = some (.int .i64 (c : Int)) := by simp only [World.cell?, g1]; rfl
                clear u7 g1 HQ
                go_wp2_with fail
                go_roundw
                case rel => exact ⟨i + 1, by omega, by rw [HBI.out]; go_num, by go_num, HU7.out⟩
                case measure => simp [intOf] <;> omega
              · obtain rfl : bi = c := by omega
                have HC9 : Hid (Calls Tryd.prog 16 #[.slice (some ⟨b, off, none⟩) 0 0] W5 fun r w' => ∃ u, r = .returned u ∧ BL w' u (sub B bi bi) ∧ Up W5 w') := by
                  have h9 := HCP.out W5 0 0 0 (HU.out.trans HU5.out) (Nat.le_refl _) (Nat.zero_le _) (Nat.le_refl _)
                  rw [Nat.add_zero, Nat.sub_zero, sub_self] at h9
                  rw [sub_self]
                  exact h9
                go_wp2_with fail
                refine Calls.mono (HC9.out) ?_
                rintro r W6 ⟨u9, rfl, hbl9, u6⟩
                have HU6 : Hid (Up W3 W6) := HU5.out.trans u6
                have HQ : Hid (Calls Tryd.prog 11 #[u9] W6 fun e w' => ∃ ad cp A, e = .returned (.tuple #[.slice ad 1 cp, .int .i64 0, .int .i64 A]) ∧ Up W6 w') := HCT.out u9 W6 (HU.out.trans HU6.out) (hbl9)
                have g1 := u6.heap g1
                clear u6 y3 hbl9
                go_wp2_with fail
                refine Calls.mono HQ.out ?_
                rintro r W7 ⟨ad9, cp9, A9, rfl, u7⟩
                have HU7 : Hid (Up W3 W7) := HU6.out.trans u7
                have g1 := u7.heap g1
                have y3 : W7.cell? ⟨wr.heap.size, 3, none⟩ = some (.int .i64 (bi : Int)) := by simp only [World.cell?, g1]; rfl
                clear u7 g1 HQ
                go_wp2_with fail
                go_roundw
                case rel => exact ⟨i + 1, by omega, by rw [HBI.out]; go_num, by go_num, HU7.out⟩
                case measure => simp [intOf] <;> omega
          · have hne2 : ¬ ys.toList = [] := fun h9 => him (hem.1 h9)
            have hys : 0 < ys.size := by have := mt hem2.1 him; omega
            have q6 : p < c := by omega
            have q7 : bi < c := by omega
            have hm1 : ((i : Int) == (m : Int)) = false := by simp; omega
            have q8 : ys.toList.isEmpty = false := by cases hh : ys.toList with | nil => exact absurd hh hne2 | cons a l => rfl
            have q9 : ¬ p < bi := by omega
            have q10 : ¬ n < p := by omega
            have q11 : ¬ (((p < bi ∨ n < p) ∨ (n : Int) - (p : Int) < (ys.size : Int)) ∨ ys.toList.isEmpty = true) := by
              rw [q8]
              simp
              omega
            have ei : IntKind.i64.wrap ((i : Int) + 1) = ((i + 1 : Nat) : Int) := by rw [IntKind.wrap_i64]; omega
            clear hem hem2 hpm hem3
            go_wp2_with fail
            refine Calls.mono (HCP.out W5 bi p (c - bi) (HU.out.trans HU5.out) (by omega) (by omega) (by omega)) ?_
            rintro r W6 ⟨u9, rfl, hbl9, u6⟩
            have HU6 : Hid (Up W3 W6) := HU5.out.trans u6
            have HQ : Hid (Calls Tryd.prog 11 #[u9] W6 fun e w' => ∃ ad cp A, e = .returned (.tuple #[.slice ad 1 cp, .int .i64 0, .int .i64 A]) ∧ Up W6 w') := HCT.out u9 W6 (HU.out.trans HU6.out) (hbl9)
            have g1 := u6.heap g1
            clear u6 y3 hbl9
            go_wp2_with fail
            refine Calls.mono HQ.out ?_
            rintro r W7 ⟨ad9, cp9, A9, rfl, u7⟩
            have HU7 : Hid (Up W3 W7) := HU6.out.trans u7
            have g1 := u7.heap g1
            have y3 : W7.cell? ⟨wr.heap.size, 3, none⟩ = some (.int .i64 (p : Int)) := by simp only [World.cell?, g1]; rfl
            clear u7 g1 HQ
            go_wp2_with fail
            go_roundw
            case rel => exact ⟨i + 1, by omega, by rw [HBI.out]; go_num, by go_num, HU7.out⟩
            case measure => simp [intOf] <;> omega
        · have hlt2 : ¬ (i : Int) < (m : Int) + 1 := by omega
          obtain rfl : i = m + 1 := by omega
          obtain ⟨z0, z1, z2, z3⟩ := HCE.out wr HU3.out m (by omega)
          rw [show (cuL B).getD m dt = _ from HEN.out] at z0 z1 z2 z3
          have x0 : wr.cell? ⟨b2, o2 + m * 4, none⟩ = some (.int .i8 0) := z0
          have x1 : wr.cell? ⟨b2, o2 + m * 4 + 1, none⟩ = some (.string ⟨#[]⟩) := z1
          have x2 : wr.cell? ⟨b2, o2 + m * 4 + 2, none⟩ = some (.int .i64 0) := z2
          have x3 : wr.cell? ⟨b2, o2 + m * 4 + 3, none⟩ = some (.int .i64 (n : Int)) := by rw [HN.out]; exact z3
          clear z0 z1 z2 z3
          have hq := tokEq 0 ⟨#[]⟩ 0 (n : Int)
          go_wp2_with fail
          refine Calls.mono (HWK.out wr (HU.out.trans HU3.out)) ?_
          rintro r W4 ⟨rfl, u4⟩
          go_wp2_with fail
          rw [HPo.out]
          exact ⟨rfl, (HU.out.trans HU3.out).trans u4⟩
    · obtain ⟨hL, hA0, hA⟩ := cut_bad hE
      rw [hL] at hrow
      obtain ⟨ad, cp, hv⟩ := row_val hrow
      subst hv
      clear hrow hL
      generalize cuA B = A at *
      rcases hA with ⟨h21, hA⟩ | ⟨h20, rfl, hA⟩
      · rw [h21]
        have hA : A < (n : Int) := by have := HN.out; omega
        go_wp2_with fail
        refine Calls.mono (HWK.out W3 HU.out) ?_
        rintro r W4 ⟨rfl, u4⟩
        go_wp2_with fail
        rw [HPo.out]
        exact ⟨rfl, HU.out.trans u4⟩
      · rw [h20]
        have hA : (65536 : Int) < (n : Int) := by have := HN.out; omega
        go_wp2_with fail
        refine Calls.mono (HWK.out W3 HU.out) ?_
        rintro r W4 ⟨rfl, u4⟩
        go_wp2_with fail
        rw [HPo.out]
        exact ⟨rfl, HU.out.trans u4⟩
end TK
end Go.Proofs.YtibdnklkcgafkaaDoor
