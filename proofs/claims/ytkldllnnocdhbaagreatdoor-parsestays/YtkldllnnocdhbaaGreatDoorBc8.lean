/-
  Tokens that are written with blanks or remarks between are cut as themselves, no program.
-/
import Derived.Test.YtkldllnnocdhbaaGreatDoorAn10
import Derived.Test.YtkldllnnocdhbaaGreatDoorRu8
import Derived.Test.YtkldllnnocdhbaaGreatDoorSr10
import Derived.Lib.SlBytesConst
import Derived.Test.YtkldllnnocdhbaaGreatDoorTs8
namespace Go.Proofs.YtkldllnnocdhbaaGreatDoor
open Go.RowKit
attribute [local go_sem ↓] Go.wp_at_zero Go.wp_at_succ
namespace TP
open TR (Nd Byt nums_inj nums_nil)
open TK (Tok tex TabP CuP BL)
def nd1 : List Nd := [⟨45, 0, 0, 0, [], 2, 2⟩, ⟨30, 0, 1, 0, [], 0, 0⟩, ⟨33, 0, 0, 0, [97], 4, 0⟩]
def nd2 : List Nd := [⟨1, 0, 0, 0, [], 0, 1⟩, ⟨2, 0, 0, 0, [65], 0, 1⟩, ⟨3, 0, 3, 0, [], 11, 0⟩]
theorem may1 : MayT cs1 := ⟨tex1, by decide +kernel, by decide +kernel⟩
theorem may2 : MayT cs2 := ⟨tex2, by decide +kernel, by decide +kernel⟩
theorem an1 {W : World} {e : Ending} {w' : World} (h : AN cs1 (P cs1 (fuel cs1) (.row 1) 0 0) W e w') : ∃ v, e = .returned (.tuple #[v, .int .i64 0, .int .i64 0]) ∧ OwN W.heap.size w' v nd1 ∧ Up W w' := by
  obtain ⟨u, ⟨h1, -⟩ | ⟨hm, R, hR, hq⟩⟩ := h
  · exact absurd may1 h1
  · rw [cs1_is] at hR
    obtain rfl := Option.some.inj hR
    obtain ⟨-, h2⟩ := hq
    simp only at h2
    rw [if_pos (by decide +kernel), fl1_is] at h2
    obtain ⟨v, h3, h4⟩ := h2
    exact ⟨v, h3, h4, u⟩
theorem an2 {W : World} {e : Ending} {w' : World} (h : AN cs2 (packR cs2 (P cs2 (fuel cs2) (.cards .nil) 0 0)) W e w') : ∃ v, e = .returned (.tuple #[v, .int .i64 0, .int .i64 0]) ∧ OwN W.heap.size w' v nd2 ∧ Up W w' := by
  obtain ⟨u, ⟨h1, -⟩ | ⟨hm, R, hR, hq⟩⟩ := h
  · exact absurd may2 h1
  · rw [cs2_is] at hR
    have hR : some (Rs.ok (nod 1 0 [] 0 (nod 2 0 [65] 0 (nod 3 3 [] 11 .nil))) 7) = some R := hR
    obtain rfl := Option.some.inj hR
    obtain ⟨-, h2⟩ := hq
    simp only at h2
    rw [if_pos (by decide +kernel), fl2_is] at h2
    obtain ⟨v, h3, h4⟩ := h2
    exact ⟨v, h3, h4, u⟩
theorem byt1 : ∀ i, i < cs1.length → Byt (tk cs1 i).text := by unfold Byt; decide +kernel
theorem byt2 : ∀ i, i < cs2.length → Byt (tk cs2 i).text := by unfold Byt; decide +kernel
theorem bl_const {w : World} {g : Nat} {C : Array Value} {n : Nat} {l : List Int} {fr : Nat × Nat} {t : TypeId} (hC : C.toList = TK.bvs l) (hn : n = l.length) (h : w.heap[g]? = some (.cells C t fr)) : BL w (.slice (some ⟨g, 0, none⟩) n n) l := by
  subst hn
  refine ⟨by simp [TK.bvs], some ⟨g, 0, none⟩, l.length, rfl, Nat.le_refl _, fun _ => ⟨g, 0, rfl, fun j hj => ?_⟩⟩
  rw [Nat.zero_add, ← hC]
  simp [World.cell?, h]
set_option maxRecDepth 100000 in
set_option maxHeartbeats 16000000 in
theorem works_ (W : World) (hT : TabP W) (hRT : W.cell? ⟨0, 0, none⟩ = some (.iface 181 (.agg #[.pointer (some ⟨4, 93, none⟩)]))) : Calls Tryz.prog 8 #[] W (fun r w' => r = .returned (.bool true) ∧ Up W w') := by
  obtain ⟨Post, hPost⟩ : ∃ P : Ending → World → Prop, P = fun r w' => r = .returned (.bool true) ∧ Up W w' := ⟨_, rfl⟩
  rw [← hPost]
  have HPo : Hid (Post = fun r w' => r = .returned (.bool true) ∧ Up W w') := hPost
  clear hPost
  have HTB : Hid (TabP W) := hT
  have HRT : Hid (W.cell? ⟨0, 0, none⟩ = some (.iface 181 (.agg #[.pointer (some ⟨4, 93, none⟩)]))) := hRT
  have HUW : Hid (Up W W) := Up.refl _
  clear hT hRT
  go_enter Tryz.func8, Tryz.ntmps8
  obtain ⟨W1, hW1⟩ : ∃ X, W.alloc (.cells #[.int .u8 49, .int .u8 32, .int .u8 45, .int .u8 32, .int .u8 97] 5 ((#[.int .u8 49, .int .u8 32, .int .u8 45, .int .u8 32, .int .u8 97] : Array Value).size, (#[.int .u8 49, .int .u8 32, .int .u8 45, .int .u8 32, .int .u8 97] : Array Value).size + 1)) = X := ⟨_, rfl⟩
  have cv1 := Lib.run_convert_bytes_const (P := Tryz.prog) W 26 5 #[.int .u8 49, .int .u8 32, .int .u8 45, .int .u8 32, .int .u8 97] 5 5 Tryz.underlying26 Tryz.underlying5
  rw [hW1] at cv1
  have HB1 : Hid (BL W1 (.slice (some ⟨W.heap.size, 0, none⟩) 5 5) cb1) := bl_const rfl rfl (by rw [← hW1]; exact heap_alloc_new _ _)
  have HUW1 : Hid (Up W W1) := by unfold Hid; rw [← hW1]; exact HUW.out.alloc _
  have HC1 : Hid _ := TK.rcut_ _ cb1 W1 HB1.out (by unfold TK.Byt cb1; decide)
  clear hW1
  go_wp2_with fail
  refine Calls.mono HC1.out ?_
  rintro r9 w2 ⟨v, rfl, hown, u9⟩
  rw [cut1_is.1] at hown
  rw [cut1_is.2.1, cut1_is.2.2]
  obtain ⟨bt1, off1, c1, rfl, htm⟩ := tm_row hown (by decide) (by decide) byt1 (by decide +kernel) (by decide +kernel) (HTB.out.up (HUW1.out.trans u9))
  have HUw2 : Hid (Up W w2) := HUW1.out.trans u9
  have HT1 : Hid _ := htm
  clear hown u9 htm HC1 HB1 cv1 HUW1
  have HP1 : Hid _ := expr_any w2 bt1 off1 _ c1 cs1 HT1.out (HUw2.out.cell HRT.out)
  go_wp2_with fail
  refine Calls.mono HP1.out ?_
  intro r9 w3 hq
  obtain ⟨v1, rfl, ho, u9⟩ := an1 hq
  have HO1 : Hid (OwN w2.heap.size w3 v1 nd1) := ho
  have HUw3 : Hid (Up W w3) := HUw2.out.trans u9
  have HV1 : Hid (Up w3 w3) := Up.refl _
  clear hq ho u9 HP1 HT1
  obtain ⟨a1, q1, rfl⟩ := row_val HO1.out
  obtain ⟨W4, hW4⟩ : ∃ X, w3.alloc (.cells #[.int .u8 99, .int .u8 97, .int .u8 114, .int .u8 100, .int .u8 32, .int .u8 34, .int .u8 65, .int .u8 34, .int .u8 32, .int .u8 123, .int .u8 32, .int .u8 99, .int .u8 111, .int .u8 115, .int .u8 116, .int .u8 32, .int .u8 51, .int .u8 59, .int .u8 32, .int .u8 125] 5 ((#[.int .u8 99, .int .u8 97, .int .u8 114, .int .u8 100, .int .u8 32, .int .u8 34, .int .u8 65, .int .u8 34, .int .u8 32, .int .u8 123, .int .u8 32, .int .u8 99, .int .u8 111, .int .u8 115, .int .u8 116, .int .u8 32, .int .u8 51, .int .u8 59, .int .u8 32, .int .u8 125] : Array Value).size, (#[.int .u8 99, .int .u8 97, .int .u8 114, .int .u8 100, .int .u8 32, .int .u8 34, .int .u8 65, .int .u8 34, .int .u8 32, .int .u8 123, .int .u8 32, .int .u8 99, .int .u8 111, .int .u8 115, .int .u8 116, .int .u8 32, .int .u8 51, .int .u8 59, .int .u8 32, .int .u8 125] : Array Value).size + 1)) = X := ⟨_, rfl⟩
  have cv2 := Lib.run_convert_bytes_const (P := Tryz.prog) w3 26 5 #[.int .u8 99, .int .u8 97, .int .u8 114, .int .u8 100, .int .u8 32, .int .u8 34, .int .u8 65, .int .u8 34, .int .u8 32, .int .u8 123, .int .u8 32, .int .u8 99, .int .u8 111, .int .u8 115, .int .u8 116, .int .u8 32, .int .u8 51, .int .u8 59, .int .u8 32, .int .u8 125] 20 20 Tryz.underlying26 Tryz.underlying5
  rw [hW4] at cv2
  have HB2 : Hid (BL W4 (.slice (some ⟨w3.heap.size, 0, none⟩) 20 20) cb2) := bl_const rfl rfl (by rw [← hW4]; exact heap_alloc_new _ _)
  have HUW4 : Hid (Up W W4) := by unfold Hid; rw [← hW4]; exact HUw3.out.alloc _
  have HC2 : Hid _ := TK.rcut_ _ cb2 W4 HB2.out (by unfold TK.Byt cb2; decide)
  have HO1 : Hid (OwN w2.heap.size W4 (.slice a1 nd1.length q1) nd1) := by unfold Hid; rw [← hW4]; exact row_up HO1.out ((Up.refl _).alloc _)
  clear hW4
  go_wp2_with fail
  refine Calls.mono HC2.out ?_
  rintro r9 w5 ⟨v, rfl, hown, u9⟩
  rw [cut2_is.1] at hown
  rw [cut2_is.2.1, cut2_is.2.2]
  obtain ⟨bt2, off2, c2, rfl, htm⟩ := tm_row hown (by decide) (by decide) byt2 (by decide +kernel) (by decide +kernel) (HTB.out.up (HUW4.out.trans u9))
  have HUw5 : Hid (Up W w5) := HUW4.out.trans u9
  have HO1 : Hid (OwN w2.heap.size w5 (.slice a1 nd1.length q1) nd1) := row_up HO1.out u9
  have HT2 : Hid _ := htm
  clear hown u9 htm HC2 HB2 cv2 HUW4
  have HP2 : Hid _ := pack_any w5 bt2 off2 _ c2 cs2 HT2.out (HUw5.out.cell HRT.out)
  go_wp2_with fail
  refine Calls.mono HP2.out ?_
  intro r9 w6 hq
  obtain ⟨v2, rfl, ho, u9⟩ := an2 hq
  have HO2 : Hid (OwN w5.heap.size w6 v2 nd2) := ho
  have HUw6 : Hid (Up W w6) := HUw5.out.trans u9
  have HO1 : Hid (OwN w2.heap.size w6 (.slice a1 nd1.length q1) nd1) := row_up HO1.out u9
  have HV2 : Hid (Up w6 w6) := Up.refl _
  clear hq ho u9 HP2 HT2
  obtain ⟨a2, q2, rfl⟩ := row_val HO2.out
  have h1 := HO1.out
  have h2 := HO2.out
  rcases h1.2 with ⟨-, h0⟩ | ⟨g1, p1, u1, e1, -⟩
  · exact absurd h0 (by decide)
  rcases h2.2 with ⟨-, h0⟩ | ⟨g2, p2, u2, e2, -⟩
  · exact absurd h0 (by decide)
  injection e1 with e3 e4 e5
  injection e2 with e6 e7 e8
  subst e3
  subst e6
  have x1 : w6.cell? ⟨g1, 0, none⟩ = some (.int .i8 45) := by simpa [Addr.add] using h1.cells (g := g1) rfl 0 (.int .i8 45) rfl
  have x2 : w6.cell? ⟨g1, 5, none⟩ = some (.int .i64 2) := by simpa [Addr.add] using h1.cells (g := g1) rfl 5 (.int .i64 2) rfl
  have x3 : w6.cell? ⟨g2, 16, none⟩ = some (.int .i64 3) := by simpa [Addr.add] using h2.cells (g := g2) rfl 16 (.int .i64 3) rfl
  rw [show nd1.length = 3 from rfl, show nd2.length = 3 from rfl]
  clear h1 h2 e4 e5 e7 e8 HO1 HO2
  go_wp2_with fail
  rw [HPo.out]
  exact ⟨rfl, HUw6.out⟩
end TP
end Go.Proofs.YtkldllnnocdhbaaGreatDoor
namespace Go.Proofs.YtkldllnnocdhbaaGreatDoor
namespace TK
/- what stands behind a token: nothing, or a blank -/
def Sp (Y : List Int) : Prop := Y = [] ∨ ∃ r, Y = 32 :: r
theorem app_at (X S Y : List Int) {k : Nat} (hk : k < S.length) : (X ++ (S ++ Y)).getD (X.length + k) 0 = S.getD k 0 := by
  rw [List.getD_eq_getElem?_getD, List.getD_eq_getElem?_getD, List.getElem?_append_right (by omega), Nat.add_sub_cancel_left, List.getElem?_append_left hk]
theorem app_at0 (X S Y : List Int) (hk : 0 < S.length) : (X ++ (S ++ Y)).getD X.length 0 = S.getD 0 0 := app_at X S Y hk
theorem app_sub (X S Y : List Int) : sub (X ++ (S ++ Y)) X.length (X.length + S.length) = S := by
  unfold sub
  rw [List.drop_left, Nat.add_sub_cancel_left, List.take_left]
theorem spn_app {f : Int → Bool} (X S Y : List Int) (hS : S.all f = true) (hf : f 32 = false) (hY : Sp Y) : spn f (X ++ (S ++ Y)) X.length = X.length + S.length := by
  unfold spn
  rw [List.drop_left, List.takeWhile_append_of_pos (by simpa using hS)]
  have : Y.takeWhile f = [] := by
    rcases hY with rfl | ⟨r, rfl⟩
    · rfl
    · rw [List.takeWhile_cons, if_neg (by rw [hf]; decide)]
  rw [this, List.append_nil]
theorem not_rmk0 {B : List Int} {p : Nat} (h : B.getD p 0 ≠ 47) : rmk B p = false := by
  unfold rmk
  rw [show (B.getD p 0 == 47) = false by simpa using h]
  rfl
theorem sml_is {c : Int} (h : sml c = true) : 97 ≤ c ∧ c ≤ 122 := by
  unfold sml at h
  simpa using h
theorem dig_is {c : Int} (h : dig c = true) : 48 ≤ c ∧ c ≤ 57 := by
  unfold dig at h
  simpa using h
theorem blk_no {c : Int} (h : 33 ≤ c) : blk c = false := by
  unfold blk
  simp
  omega
theorem bk_name {X l Y : List Int} (h : okN l = true) (hY : Sp Y) : stp (X ++ (l ++ Y)) X.length = .tok ⟨1, l, 0, X.length⟩ (X.length + l.length) := by
  unfold okN at h
  simp only [Bool.and_eq_true, decide_eq_true_eq] at h
  obtain ⟨h0, h1, h2, h3⟩ := h
  have hl : 0 < l.length := List.length_pos_iff.2 h0
  have hc := app_at0 X l Y hl
  have hs := sml_is h2
  unfold stp
  rw [not_rmk0 (by rw [hc]; omega), hc, blk_no (by omega), h2]
  simp only [Bool.false_eq_true, if_false, if_true]
  unfold nme
  rw [spn_app X l Y h3 (by decide) hY, app_sub, if_neg (by omega)]
theorem dcm_all : ∀ (k : Nat) (n : Int), 0 ≤ n → n.toNat ≤ k → (∀ c ∈ dcm n, dig c = true) ∧ val (dcm n) = n ∧ dcm n ≠ [] ∧ (1 ≤ n → 49 ≤ (dcm n).getD 0 0)
  | k, n, h0, hk => by
    by_cases h : n < 10
    · rw [dcm_small h0 h]
      refine ⟨fun c hc => ?_, ?_, by simp, fun h1 => ?_⟩
      · obtain rfl : c = 48 + n := by simpa using hc
        unfold dig
        simp
        omega
      · show 10 * 0 + (48 + n - 48) = n
        omega
      · show 49 ≤ 48 + n
        omega
    · match k, hk with
      | 0, hk => omega
      | k + 1, hk =>
        obtain ⟨h1, h2, h3, h4⟩ := dcm_all k (n / 10) (by omega) (by omega)
        have e : dcm n = dcm (n / 10) ++ [48 + n % 10] := by
          have := dcm_big (n := n / 10) (c := n % 10) (by omega) (by omega) (by omega)
          rw [show 10 * (n / 10) + n % 10 = n by omega] at this
          exact this
        rw [e]
        refine ⟨fun c hc => ?_, ?_, by simp, fun _ => ?_⟩
        · rcases List.mem_append.1 hc with hc | hc
          · exact h1 c hc
          · obtain rfl : c = 48 + n % 10 := by simpa using hc
            unfold dig
            simp
            omega
        · rw [val_app, h2]
          omega
        · have h5 := h4 (by omega)
          have hp : 0 < (dcm (n / 10)).length := List.length_pos_iff.2 h3
          rw [List.getD_eq_getElem?_getD, List.getElem?_append_left hp, ← List.getD_eq_getElem?_getD]
          exact h5
theorem bk_num {X Y : List Int} {n : Int} (h0 : 0 ≤ n) (h1 : n ≤ 9223372036854775807) (hY : Sp Y) : stp (X ++ (dcm n ++ Y)) X.length = .tok ⟨2, [], n, X.length⟩ (X.length + (dcm n).length) := by
  obtain ⟨a1, a2, a3, a4⟩ := dcm_all n.toNat n h0 (Nat.le_refl _)
  have hl : 0 < (dcm n).length := List.length_pos_iff.2 a3
  have hc := app_at0 X (dcm n) Y hl
  have hd : dig ((dcm n).getD 0 0) = true := by
    rw [List.getD_eq_getElem?_getD, List.getElem?_eq_getElem hl]
    exact a1 _ (List.getElem_mem hl)
  have hs := dig_is hd
  have hnu : nue (X ++ (dcm n ++ Y)) X.length = X.length + (dcm n).length := by
    unfold nue
    rw [hc]
    by_cases hz : n = 0
    · subst hz
      rw [dcm_small (by omega) (by omega)]
      rfl
    · have h5 := a4 (by omega)
      rw [if_neg (by rw [beq_iff_eq]; omega)]
      obtain ⟨c, r, hr⟩ : ∃ c r, dcm n = c :: r := List.exists_cons_of_ne_nil a3
      rw [hr]
      have h6 := spn_app (f := dig) (X ++ [c]) r Y (by
        rw [List.all_eq_true]
        intro x hx
        exact a1 x (by rw [hr]; exact List.mem_cons_of_mem _ hx)) (by decide) hY
      rw [List.append_assoc, List.length_append] at h6
      rw [show X ++ (c :: r ++ Y) = X ++ ([c] ++ (r ++ Y)) by simp]
      rw [show X.length + 1 = X.length + [c].length from rfl, h6]
      simp
      omega
  have hsp : spn prt (X ++ (dcm n ++ Y)) (X.length + (dcm n).length) = X.length + (dcm n).length := by
    have h6 := spn_app (f := prt) (X ++ dcm n) [] Y rfl (by decide) hY
    rw [List.append_assoc, List.length_append, List.nil_append] at h6
    exact h6
  unfold stp
  rw [not_rmk0 (by rw [hc]; omega), hc, blk_no (by omega), show sml ((dcm n).getD 0 0) = false by unfold sml; rw [decide_eq_false (by omega)]; rfl, hd]
  simp only [Bool.false_eq_true, if_false, if_true]
  unfold nmb
  rw [hnu, app_sub, a2, if_neg (by omega), hsp, if_neg (by omega)]
theorem drop_head {B : List Int} {i : Nat} {c : Int} {r : List Int} (h : B.drop i = c :: r) : i < B.length ∧ B.getD i 0 = c ∧ B.drop (i + 1) = r := by
  have h1 : i < B.length := by
    rcases Nat.lt_or_ge i B.length with h9 | h9
    · exact h9
    · rw [List.drop_eq_nil_of_le h9] at h
      cases h
  refine ⟨h1, ?_, ?_⟩
  · rw [drop_at h1] at h
    exact (List.cons.inj h).1
  · rw [drop_at h1] at h
    exact (List.cons.inj h).2
theorem esc_is {c : Int} : esc c = true ↔ c = 34 ∨ c = 92 := by
  unfold esc
  simp
theorem bk_txt {B Y : List Int} {p : Nat} : ∀ (r : List Int) (n i : Nat) (acc : List Int), B.drop i = r.flatMap quC ++ (34 :: Y) → r.all pln = true → acc.length + r.length ≤ 64 → r.length < n → txt B p n i acc = .tok ⟨3, acc ++ r, 0, p⟩ (i + (r.flatMap quC).length + 1)
  | [], n, i, acc, h, _, hl, hn => by
    match n, hn with
    | n + 1, _ =>
      obtain ⟨h1, h2, -⟩ := drop_head h
      rw [txt, if_neg (by omega), h2]
      simp at hl ⊢
      omega
  | c :: r, n, i, acc, h, ha, hl, hn => by
    match n, hn with
    | n + 1, hn =>
      rw [List.all_cons, Bool.and_eq_true] at ha
      have hp : 32 ≤ c ∧ c ≤ 126 := by
        have := ha.1
        unfold pln at this
        simpa using this
      simp only [List.length_cons] at hl hn
      by_cases he : esc c = true
      · have e1 : quC c = [92, c] := by unfold quC; rw [if_pos he]
        rw [List.flatMap_cons, e1] at h ⊢
        obtain ⟨h1, h2, h3⟩ := drop_head (r := c :: (r.flatMap quC ++ (34 :: Y))) (by rw [h]; rfl)
        obtain ⟨h4, h5, h6⟩ := drop_head h3
        have ih := bk_txt (p := p) r n (i + 2) (acc ++ [c]) h6 ha.2 (by simp; omega) (by omega)
        rw [txt, if_neg (by omega), h2, if_neg (by decide), if_neg (by decide), if_pos (by decide), if_neg (by omega), h5, if_pos he, ih]
        simp
        omega
      · have hq : ¬ c = 34 ∧ ¬ c = 92 := by
          rw [esc_is] at he
          omega
        rw [List.flatMap_cons, quC_one hq.1 hq.2] at h ⊢
        obtain ⟨h1, h2, h3⟩ := drop_head (r := r.flatMap quC ++ (34 :: Y)) (by rw [h]; rfl)
        have ih := bk_txt (p := p) r n (i + 1) (acc ++ [c]) h3 ha.2 (by simp; omega) (by omega)
        rw [txt, if_neg (by omega), h2, if_neg (by simp; omega), if_neg (by simp; omega), if_neg (by simp; omega), if_pos ha.1, ih]
        simp
        omega
theorem quo_len (l : List Int) : (quo l).length = (l.flatMap quC).length + 2 := by
  unfold quo
  simp
theorem fl_len : ∀ l : List Int, l.length ≤ (l.flatMap quC).length
  | [] => Nat.le_refl _
  | c :: r => by
    have := fl_len r
    rw [List.flatMap_cons, List.length_append, List.length_cons]
    have : 1 ≤ (quC c).length := by unfold quC; split <;> simp
    omega
theorem bk_text {X l Y : List Int} (h : okT l = true) : stp (X ++ (quo l ++ Y)) X.length = .tok ⟨3, l, 0, X.length⟩ (X.length + (quo l).length) := by
  unfold okT at h
  simp only [Bool.and_eq_true, decide_eq_true_eq] at h
  have hq := quo_len l
  have hc := app_at0 X (quo l) Y (by omega)
  have hc : (X ++ (quo l ++ Y)).getD X.length 0 = 34 := hc
  have hd : (X ++ (quo l ++ Y)).drop (X.length + 1) = l.flatMap quC ++ (34 :: Y) := by
    have e : X ++ (quo l ++ Y) = (X ++ [34]) ++ (l.flatMap quC ++ (34 :: Y)) := by unfold quo; simp
    rw [e, show X.length + 1 = (X ++ [34]).length by simp, List.drop_left]
  have := bk_txt (p := X.length) l ((X ++ (quo l ++ Y)).length - X.length) (X.length + 1) [] hd h.2 (by simpa using h.1) (by
    have := fl_len l
    simp
    omega)
  unfold stp
  rw [not_rmk0 (by rw [hc]; decide), hc, show blk 34 = false by decide, show sml 34 = false by decide, show dig 34 = false by decide]
  simp only [Bool.false_eq_true, if_false]
  rw [if_pos (by decide), this, hq, List.nil_append]
  congr 1
  omega
end TK
end Go.Proofs.YtkldllnnocdhbaaGreatDoor
