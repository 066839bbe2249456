/-
  The program's parser: fields behind points; signs.
-/
import Derived.Test.YtkldllnnocdhbaaGreatDoorBj10
namespace Go.Proofs.YtkldllnnocdhbaaGreatDoor
open Go.RowKit
attribute [local go_sem ↓] Go.wp_at_zero Go.wp_at_succ
namespace TP
open TR (Nd Byt nums_inj)
open TK (Tok)
set_option maxRecDepth 100000 in
set_option maxHeartbeats 16000000 in
theorem pchain_ (w0 W : World) (b bt off n c ml ms i d : Nat) (l : List Tok) (hE : Ev w0 b bt off n c l) (ho : Only b w0 W) (hi : i < n) (hP : QS W b bt off n c ml ms i d) (hd : d ≤ 64) (N : Nat) (R : Rs) (hl : (tk l (l.length - 1)).kind = 0) (hX : Ex l n) (hF : Prt w0 b bt off n c ml ms l N 202 .item) (hR : bd (P l N .item i d) (fun x j => P l N (.chn x 0) j d) = some R) : Calls Tryz.prog 200 #[.pointer (some ⟨b, 0, none⟩)] W (QG b bt off n c ml ms d R W) := by
  obtain ⟨Post, hPost⟩ : ∃ P : Ending → World → Prop, P = QG b bt off n c ml ms d R W := ⟨_, rfl⟩
  rw [← hPost]
  have HPo : Hid (Post = QG b bt off n c ml ms d R W) := hPost
  clear hPost
  have HE : Hid (Ev w0 b bt off n c l) := hE
  have HXX : Hid (Ex l n) := hX
  have HW : Hid (Only b w0 W) := ho
  have HP : Hid (QS W b bt off n c ml ms i d) := hP
  have HLA : Hid ((tk l (l.length - 1)).kind = 0) := hl
  have HLN : Hid (n = l.length) := hE.len
  obtain ⟨a0, a1, a2, a3, a4, fz, hbl⟩ := hP.cells
  have HBL : Hid (b < W.heap.size) := hbl
  have hns := hE.small
  obtain ⟨R1, hR1, hb1⟩ : ∃ R1, P l N .item i d = some R1 ∧ bd (some R1) (fun x j => P l N (.chn x 0) j d) = some R := by
    cases h9 : P l N .item i d with
    | none => rw [h9] at hR; cases hR
    | some R1 => rw [h9] at hR; exact ⟨R1, rfl, hR⟩
  have HFC : Hid (Calls Tryz.prog 202 #[.pointer (some ⟨b, 0, none⟩)] W (QG b bt off n c ml ms d R1 W)) := hF i d R1 W ho hP hi hd hR1
  have HS1 : Hid (∀ x j, R1 = .ok x j → j < n) := fun x j e => by
    subst e
    have h9 := stays hl hR1 (by have := HLN.out; omega)
    have := h9.2.1
    have := HLN.out
    omega
  clear hE ho hP hF hl hR hR1 hX
  go_enter Tryz.func200, Tryz.ntmps200
  go_wp2_with fail
  refine Calls.mono HFC.out ?_
  intro r9 w1 h
  obtain ⟨o1, h⟩ := h
  have HO1 : Hid (Only b W w1) := o1
  clear o1 HFC a0 a1 a2 a3 a4 fz hbl
  cases R1 with
  | bad er pp =>
    obtain rfl : r9 = pnc er pp := h
    obtain rfl : Rs.bad er pp = R := Option.some.inj hb1
    unfold pnc at *
    go_wp2_with fail
    rw [HPo.out]
    exact ⟨rfl, HO1.out, rfl⟩
  | ok x0 j0 =>
    obtain ⟨g1, rfl, hx1, p1⟩ := h
    have hj0 := HS1.out x0 j0 rfl
    have HI0 : Hid (∃ (gl m : Nat) (x : Fo) (j D k : Nat), ptr g1 = ptr gl ∧ Value.int .i64 0 = .int .i64 (m : Int) ∧ PF w1 (Sn W.heap.size w1) x [ptr gl] ∧ QS w1 b bt off n c ml ms j D ∧ j < n ∧ D ≤ 64 ∧ m ≤ j ∧ k ≤ N ∧ P l k (.chn x m) j D = some R ∧ Only b W w1) := ⟨g1, 0, x0, j0, d, N, rfl, rfl, hx1, p1, hj0, hd, Nat.zero_le _, Nat.le_refl _, hb1, HO1.out⟩
    clear hx1 p1 hb1 HS1 hj0
    go_wp2_with fail
    go_loopw [4, 5] (fun s4 s5 W3 => ∃ (gl m : Nat) (x : Fo) (j D k : Nat), s4 = ptr gl ∧ s5 = .int .i64 (m : Int) ∧ PF W3 (Sn W.heap.size W3) x [ptr gl] ∧ QS W3 b bt off n c ml ms j D ∧ j < n ∧ D ≤ 64 ∧ m ≤ j ∧ k ≤ N ∧ P l k (.chn x m) j D = some R ∧ Only b W W3) (fun _ s5 _ => n + 1 - (intOf s5).toNat)
    case atStart => exact HI0.out
    case round =>
      obtain ⟨gl, m, x, j, D, k, rfl, rfl, hx, hp, hj, hD, hm, hk, hPk, hor⟩ := hrel
      have HOr : Hid (Only b W wr) := hor
      have HPr : Hid (QS wr b bt off n c ml ms j D) := hp
      have HXr : Hid (PF wr (Sn W.heap.size wr) x [ptr gl]) := hx
      have HIB : Hid (Calls Tryz.prog 118 #[.pointer (some ⟨b, 0, none⟩), .string ⟨#[46]⟩] wr fun r w' => r = .returned (.bool (mk (tk l j) [46])) ∧ Up wr w') := isMark_ w0 wr b bt off n c ml ms j D l HE.out (HW.out.trans hor) hj hp ⟨#[46]⟩ [46] (by unfold TR.Byt; decide) (congrArg ByteArray.toList (show (⟨#[46]⟩ : ByteArray) = strOfNums [46] from rfl))
      clear hor hp hx HI0 HO1
      cases k with
      | zero => cases hPk
      | succ k =>
        rw [P] at hPk
        cases hmk : mk (tk l j) [46] with
        | true =>
          rw [hmk] at HIB
          rw [if_pos hmk] at hPk
          have hmw : IntKind.i64.wrap ((m : Int) + 1) = ((m + 1 : Nat) : Int) := by rw [IntKind.wrap_i64]; omega
          by_cases hm0 : m = 0
          · have hmi : ¬ (0 : Int) < (m : Int) := by omega
            rw [if_neg (fun h => h.1 hm0)] at hPk
            simp only [if_pos hm0] at hPk
            obtain ⟨D', hDD⟩ : ∃ D', D' = D := ⟨_, rfl⟩
            rw [← hDD] at hPk HPr hD
            have hD' := hD
            clear hDD
            go_wp2_with fail
            refine Calls.mono HIB.out ?_
            rintro r9 w2 ⟨rfl, u2⟩
            have HOw2 : Hid (Only b W w2) := HOr.out.trans (Only.up u2)
            have HPw2 : Hid (QS w2 b bt off n c ml ms j D') := HPr.out.up u2
            have HXw2 : Hid (PF w2 (fun z => W.heap.size ≤ z ∧ z < w2.heap.size) x [ptr gl]) := PF.mono (fun z hz => ⟨hz.1, Nat.lt_of_lt_of_le hz.2 u2.size⟩) x _ (PF.keep (fun _ _ _ e => u2.heap e) x _ HXr.out)
            clear u2 HIB HOr HPr HXr
            have hj1 : j + 1 < n := HE.out.next hj (mk_kind hmk)
            have HTM : Hid (Calls Tryz.prog 117 #[.pointer (some ⟨b, 0, none⟩), .string ⟨#[46]⟩] w2 (fun r w' => Only b w2 w' ∧ ((mk (tk l j) [46] = true ∧ r = .returned (.tuple #[]) ∧ QS w' b bt off n c ml ms (j + 1) D') ∨ (mk (tk l j) [46] = false ∧ r = pnc 22 (tk l j).pos)))) := takeMark_ w0 w2 b bt off n c ml ms j D' l HE.out (HW.out.trans HOw2.out) hj HPw2.out ⟨#[46]⟩ [46] (by unfold TR.Byt; decide) (congrArg ByteArray.toList (show (⟨#[46]⟩ : ByteArray) = strOfNums [46] from rfl))
            have HHR : Hid (∀ W2, Only b w2 W2 → QS W2 b bt off n c ml ms (j + 1) D' → Calls Tryz.prog 75 #[.pointer (some ⟨b, 0, none⟩), .int .i8 49] W2 (fun r w' => Up W2 w' ∧ ∃ g, r = .returned (ptr g) ∧ W2.heap.size ≤ g ∧ w'.heap[g]? = some (.cells (pcell (⟨49, 0, 0, 0, [], (tk l (j + 1)).pos, 0⟩ : Nd) (.slice none 0 0)) 170 (0, 0)))) := fun W2 o2 p2 => here_ w0 W2 b bt off n c ml ms (j + 1) D' l HE.out (HW.out.trans (HOw2.out.trans o2)) hj1 p2 49
            have HTN : Hid (∀ W2, Only b w2 W2 → QS W2 b bt off n c ml ms (j + 1) D' → Calls Tryz.prog 203 #[.pointer (some ⟨b, 0, none⟩)] W2 (fun r w' => Only b W2 w' ∧ (((tk l (j + 1)).kind = 1 ∧ r = .returned (.string (strOfNums (tk l (j + 1)).text)) ∧ QS w' b bt off n c ml ms (j + 1 + 1) D') ∨ ((tk l (j + 1)).kind ≠ 1 ∧ r = pnc 22 (tk l (j + 1)).pos)))) := fun W2 o2 p2 => takeName_ w0 W2 b bt off n c ml ms (j + 1) D' l HE.out (HW.out.trans (HOw2.out.trans o2)) hj1 p2 HXX.out
            have hbl9 := HBL.out
            go_wp2_with fail
            refine Calls.mono HTM.out ?_
            rintro r v1 ⟨ov1, ⟨-, rfl, p1⟩ | ⟨h9, -⟩⟩
            · have HOv1 : Hid (Only b w2 v1) := ov1
              have HC := HHR.out v1 ov1 p1
              have HPv1 : Hid (QS v1 b bt off n c ml ms (j + 1) D') := p1
              clear ov1 p1 HTM HHR
              go_wp2_with fail
              refine Calls.mono HC ?_
              rintro r9 v2 ⟨u2, g, rfl, hg, hc⟩
              have HOv2 : Hid (Only b w2 v2) := HOv1.out.trans (Only.up u2)
              have HC2 := HTN.out v2 HOv2.out (HPv1.out.up u2)
              have HNv2 : Hid (v2.heap[g]? = some (.cells (pcell (⟨49, 0, 0, 0, [], (tk l (j + 1)).pos, 0⟩ : Nd) (.slice none 0 0)) 170 (0, 0))) := hc
              have hgc : w2.heap.size ≤ g := Nat.le_trans HOv1.out.2.1 hg
              clear u2 hc HC HTN HPv1 HOv1 hg
              go_wp2_with fail
              refine Calls.mono HC2 ?_
              rintro r v3 ⟨ov3, ⟨hk1, rfl, p3⟩ | ⟨hk1, rfl⟩⟩
              · rw [if_pos hk1] at hPk
                have hs0 := HOw2.out.2.1
                have HOv3 : Hid (Only b w2 v3) := HOv2.out.trans ov3
                have hcv3 : v3.heap[g]? = some (.cells (pcell (⟨49, 0, 0, 0, [], (tk l (j + 1)).pos, 0⟩ : Nd) (.slice none 0 0)) 170 (0, 0)) := ov3.heap HNv2.out (by omega)
                have c4 : v3.cell? ⟨g, 4, none⟩ = some (.string ⟨#[]⟩) := by
                  simp only [World.cell?, hcv3, pcell]
                  rfl
                have f4 : v3.frozen? ⟨g, 4, none⟩ = false := by simp [World.frozen?, hcv3]
                obtain ⟨W4, hW4⟩ : ∃ W4, v3.setCell ⟨g, 4, none⟩ (.string (strOfNums (tk l (j + 1)).text)) = W4 := ⟨_, rfl⟩
                have hcW4 : W4.heap[g]? = some (.cells (pcell (⟨49, 0, 0, 0, (tk l (j + 1)).text, (tk l (j + 1)).pos, 0⟩ : Nd) (.slice none 0 0)) 170 (0, 0)) := by
                  rw [← hW4]
                  exact set_cells (j := 4) (x := .string (strOfNums (tk l (j + 1)).text)) hcv3
                have hsz4 : W4.heap.size = v3.heap.size := by rw [← hW4]; simp [World.setCell]
                have hnx4 : ∀ z o, z ≠ g → v3.heap[z]? = some o → W4.heap[z]? = some o := fun z o hz e => by rw [← hW4, Below.heap_setCell _ _ _ _ hz]; exact e
                have hov : Only b W v3 := HOw2.out.trans HOv3.out
                have HO4 : Hid (Only b W W4) := by
                  unfold Hid
                  rw [← hW4]
                  exact only_exc (T := fun k => k = g) hov ⟨⟨rfl, rfl, rfl⟩, by simp [World.setCell], fun k _ hk => by rw [Below.heap_setCell _ _ _ _ hk]⟩ (fun k hk => by subst hk; omega)
                have HP4 : Hid (QS W4 b bt off n c ml ms (j + 1 + 1) D') := hnx4 b _ (by omega) p3
                have HX4 : Hid (PF W4 (fun z => W.heap.size ≤ z ∧ z < w2.heap.size) x [ptr gl]) := PF.keep (fun z o hz e => hnx4 z o (by omega) (HOv3.out.heap e (by omega))) x _ HXw2.out
                have hv3s := HOv3.out.2.1
                have HAD : Hid (Calls Tryz.prog 77 #[ptr g, .slice (some ⟨W4.heap.size, 0, none⟩) 1 1] (W4.alloc (.cells #[ptr gl] 91)) (fun r w' => r = .returned (.tuple #[]) ∧ Exc (Tg g (.slice none 0 0)) (W4.alloc (.cells #[ptr gl] 91)) w' ∧ ∃ sv', NB w' W.heap.size g (⟨49, 0, 0, 0, (tk l (j + 1)).text, (tk l (j + 1)).pos, 0⟩ : Nd) sv' ([] ++ [ptr gl]) (Fo.nil.app x))) := by
                  have u5 : Up W4 (W4.alloc (.cells #[ptr gl] 91)) := (Up.refl _).alloc _
                  have hsz : (W4.alloc (.cells #[ptr gl] 91)).heap.size = W4.heap.size + 1 := by simp
                  exact add_ _ W.heap.size g _ (.slice none 0 0) [] .nil (NB.made (u5.heap hcW4) (by omega)) (by omega) [ptr gl] x (fun z => W.heap.size ≤ z ∧ z < w2.heap.size) (PF.keep (fun _ _ _ e => u5.heap e) x _ HX4.out) (by omega) (fun k1 e => by cases e) (fun z hz => by unfold Sn; omega) ⟨W4.heap.size, 0, none⟩ 1 (Nat.succ_pos _) (World.news_of_block (cs := #[ptr gl]) (heap_alloc_new W4 _)) (by intro u hu; simp only [List.mem_cons, List.not_mem_nil, or_false] at hu; subst hu; rfl) (by simp)
                have HNX : Hid (∀ w5, Exc (Tg g (.slice none 0 0)) (W4.alloc (.cells #[ptr gl] 91)) w5 → (∃ sv', NB w5 W.heap.size g (⟨49, 0, 0, 0, (tk l (j + 1)).text, (tk l (j + 1)).pos, 0⟩ : Nd) sv' ([] ++ [ptr gl]) (Fo.nil.app x)) → ∃ (gl2 m2 : Nat) (x : Fo) (j D k : Nat), ptr g = ptr gl2 ∧ Value.int .i64 ((m + 1 : Nat) : Int) = .int .i64 (m2 : Int) ∧ PF w5 (Sn W.heap.size w5) x [ptr gl2] ∧ QS w5 b bt off n c ml ms j D ∧ j < n ∧ D ≤ 64 ∧ m2 ≤ j ∧ k ≤ N ∧ P l k (.chn x m2) j D = some R ∧ Only b W w5) := fun w5 e5 h5 => by
                  obtain ⟨sv', n5⟩ := h5
                  refine ⟨g, m + 1, _, j + 1 + 1, D', k, rfl, rfl, (n5.kids (cntF x : Int)).done, (HP4.out.up ((Up.refl _).alloc _)).exc e5 (fun hk => ?_), HE.out.next hj1 (by rw [hk1]; decide), hD', by omega, by omega, hPk, only_exc (HO4.out.trans (Only.up ((Up.refl _).alloc _))) e5 (fun k hk => ?_)⟩
                  · rcases hk with rfl | hk
                    · omega
                    · cases hk
                  · rcases hk with rfl | hk
                    · omega
                    · cases hk
                clear hPk ov3 p3 HC2 hcv3 hcW4 hnx4 hov HOw2 HPw2 HXw2 HNv2 HOv2 HOv3 hk1 hsz4 hv3s HX4 HP4
                go_wp2_with fail
                refine Calls.mono HAD.out ?_
                rintro r9 w5 ⟨rfl, e5, h5⟩
                have HN5 : Hid _ := HNX.out w5 e5 h5
                clear e5 h5 HAD HNX HO4
                go_wp2_with fail
                go_roundw
                case rel => first | exact HN5.out | (have h9 := HN5.out; rw [hm0] at h9; exact h9)
                case measure => simp [intOf]; omega
              · rw [if_neg hk1] at hPk
                obtain rfl : Rs.bad 22 (tk l (j + 1)).pos = R := Option.some.inj hPk
                have HO9 : Hid (Only b W v3) := HOw2.out.trans (HOv2.out.trans ov3)
                clear hPk ov3 HC2 hk1
                unfold pnc at *
                go_wp2_with fail
                rw [HPo.out]
                exact ⟨rfl, HO9.out, rfl⟩
            · rw [hmk] at h9
              cases h9
          · have hmi : (0 : Int) < (m : Int) := by omega
            simp only [if_neg hm0] at hPk
            have HOP : Hid (∀ W2, Up wr W2 → Calls Tryz.prog 111 #[.pointer (some ⟨b, 0, none⟩)] W2 (fun r w' => Only b W2 w' ∧ ((D ≠ 64 ∧ r = .returned (.tuple #[]) ∧ QS w' b bt off n c ml ms j (D + 1)) ∨ (D = 64 ∧ r = pnc 23 (tk l j).pos)))) := fun W2 hu => popens_ w0 W2 b bt off n c ml ms j D l HE.out (HW.out.trans (HOr.out.trans (Only.up hu))) hj (HPr.out.up hu) hD
            go_wp2_with fail
            refine Calls.mono HIB.out ?_
            rintro r9 w2 ⟨rfl, u2⟩
            have HOw2 : Hid (Only b W w2) := HOr.out.trans (Only.up u2)
            have HC := HOP.out w2 u2
            have HXw2 : Hid (PF w2 (Sn W.heap.size w2) x [ptr gl]) := PF.mono (fun z hz => ⟨hz.1, Nat.lt_of_lt_of_le hz.2 u2.size⟩) x _ (PF.keep (fun _ _ _ e => u2.heap e) x _ HXr.out)
            clear u2 HIB HOP HOr HPr HXr
            go_wp2_with fail
            refine Calls.mono HC ?_
            rintro r w3 ⟨ow3, ⟨h64, rfl, p3⟩ | ⟨h64, rfl⟩⟩
            · have HOw3 : Hid (Only b W w3) := HOw2.out.trans ow3
              have hbl9 := HBL.out
              have HXw3 : Hid (PF w3 (fun z => W.heap.size ≤ z ∧ z < w3.heap.size) x [ptr gl]) := PF.mono (fun z hz => ⟨hz.1, Nat.lt_of_lt_of_le hz.2 ow3.2.1⟩) x _ (PF.keep (fun z o hz e => ow3.heap e (by have := hz.1; omega)) x _ HXw2.out)
              rw [if_neg (fun h => h64 h.2)] at hPk
              obtain ⟨D', hDD⟩ : ∃ D', D' = D + 1 := ⟨_, rfl⟩
              rw [← hDD] at hPk p3
              have hD' : D' ≤ 64 := by omega
              have HPw3 : Hid (QS w3 b bt off n c ml ms j D') := p3
              clear hDD hD h64 ow3 p3 HC HXw2 HOw2 hbl9
              have hj1 : j + 1 < n := HE.out.next hj (mk_kind hmk)
              have HTM : Hid (Calls Tryz.prog 117 #[.pointer (some ⟨b, 0, none⟩), .string ⟨#[46]⟩] w3 (fun r w' => Only b w3 w' ∧ ((mk (tk l j) [46] = true ∧ r = .returned (.tuple #[]) ∧ QS w' b bt off n c ml ms (j + 1) D') ∨ (mk (tk l j) [46] = false ∧ r = pnc 22 (tk l j).pos)))) := takeMark_ w0 w3 b bt off n c ml ms j D' l HE.out (HW.out.trans HOw3.out) hj HPw3.out ⟨#[46]⟩ [46] (by unfold TR.Byt; decide) (congrArg ByteArray.toList (show (⟨#[46]⟩ : ByteArray) = strOfNums [46] from rfl))
              have HHR : Hid (∀ W2, Only b w3 W2 → QS W2 b bt off n c ml ms (j + 1) D' → Calls Tryz.prog 75 #[.pointer (some ⟨b, 0, none⟩), .int .i8 49] W2 (fun r w' => Up W2 w' ∧ ∃ g, r = .returned (ptr g) ∧ W2.heap.size ≤ g ∧ w'.heap[g]? = some (.cells (pcell (⟨49, 0, 0, 0, [], (tk l (j + 1)).pos, 0⟩ : Nd) (.slice none 0 0)) 170 (0, 0)))) := fun W2 o2 p2 => here_ w0 W2 b bt off n c ml ms (j + 1) D' l HE.out (HW.out.trans (HOw3.out.trans o2)) hj1 p2 49
              have HTN : Hid (∀ W2, Only b w3 W2 → QS W2 b bt off n c ml ms (j + 1) D' → Calls Tryz.prog 203 #[.pointer (some ⟨b, 0, none⟩)] W2 (fun r w' => Only b W2 w' ∧ (((tk l (j + 1)).kind = 1 ∧ r = .returned (.string (strOfNums (tk l (j + 1)).text)) ∧ QS w' b bt off n c ml ms (j + 1 + 1) D') ∨ ((tk l (j + 1)).kind ≠ 1 ∧ r = pnc 22 (tk l (j + 1)).pos)))) := fun W2 o2 p2 => takeName_ w0 W2 b bt off n c ml ms (j + 1) D' l HE.out (HW.out.trans (HOw3.out.trans o2)) hj1 p2 HXX.out
              have hbl9 := HBL.out
              go_wp2_with fail
              refine Calls.mono HTM.out ?_
              rintro r v1 ⟨ov1, ⟨-, rfl, p1⟩ | ⟨h9, -⟩⟩
              · have HOv1 : Hid (Only b w3 v1) := ov1
                have HC := HHR.out v1 ov1 p1
                have HPv1 : Hid (QS v1 b bt off n c ml ms (j + 1) D') := p1
                clear ov1 p1 HTM HHR
                go_wp2_with fail
                refine Calls.mono HC ?_
                rintro r9 v2 ⟨u2, g, rfl, hg, hc⟩
                have HOv2 : Hid (Only b w3 v2) := HOv1.out.trans (Only.up u2)
                have HC2 := HTN.out v2 HOv2.out (HPv1.out.up u2)
                have HNv2 : Hid (v2.heap[g]? = some (.cells (pcell (⟨49, 0, 0, 0, [], (tk l (j + 1)).pos, 0⟩ : Nd) (.slice none 0 0)) 170 (0, 0))) := hc
                have hgc : w3.heap.size ≤ g := Nat.le_trans HOv1.out.2.1 hg
                clear u2 hc HC HTN HPv1 HOv1 hg
                go_wp2_with fail
                refine Calls.mono HC2 ?_
                rintro r v3 ⟨ov3, ⟨hk1, rfl, p3⟩ | ⟨hk1, rfl⟩⟩
                · rw [if_pos hk1] at hPk
                  have hs0 := HOw3.out.2.1
                  have HOv3 : Hid (Only b w3 v3) := HOv2.out.trans ov3
                  have hcv3 : v3.heap[g]? = some (.cells (pcell (⟨49, 0, 0, 0, [], (tk l (j + 1)).pos, 0⟩ : Nd) (.slice none 0 0)) 170 (0, 0)) := ov3.heap HNv2.out (by omega)
                  have c4 : v3.cell? ⟨g, 4, none⟩ = some (.string ⟨#[]⟩) := by
                    simp only [World.cell?, hcv3, pcell]
                    rfl
                  have f4 : v3.frozen? ⟨g, 4, none⟩ = false := by simp [World.frozen?, hcv3]
                  obtain ⟨W4, hW4⟩ : ∃ W4, v3.setCell ⟨g, 4, none⟩ (.string (strOfNums (tk l (j + 1)).text)) = W4 := ⟨_, rfl⟩
                  have hcW4 : W4.heap[g]? = some (.cells (pcell (⟨49, 0, 0, 0, (tk l (j + 1)).text, (tk l (j + 1)).pos, 0⟩ : Nd) (.slice none 0 0)) 170 (0, 0)) := by
                    rw [← hW4]
                    exact set_cells (j := 4) (x := .string (strOfNums (tk l (j + 1)).text)) hcv3
                  have hsz4 : W4.heap.size = v3.heap.size := by rw [← hW4]; simp [World.setCell]
                  have hnx4 : ∀ z o, z ≠ g → v3.heap[z]? = some o → W4.heap[z]? = some o := fun z o hz e => by rw [← hW4, Below.heap_setCell _ _ _ _ hz]; exact e
                  have hov : Only b W v3 := HOw3.out.trans HOv3.out
                  have HO4 : Hid (Only b W W4) := by
                    unfold Hid
                    rw [← hW4]
                    exact only_exc (T := fun k => k = g) hov ⟨⟨rfl, rfl, rfl⟩, by simp [World.setCell], fun k _ hk => by rw [Below.heap_setCell _ _ _ _ hk]⟩ (fun k hk => by subst hk; omega)
                  have HP4 : Hid (QS W4 b bt off n c ml ms (j + 1 + 1) D') := hnx4 b _ (by omega) p3
                  have HX4 : Hid (PF W4 (fun z => W.heap.size ≤ z ∧ z < w3.heap.size) x [ptr gl]) := PF.keep (fun z o hz e => hnx4 z o (by omega) (HOv3.out.heap e (by omega))) x _ HXw3.out
                  have hv3s := HOv3.out.2.1
                  have HAD : Hid (Calls Tryz.prog 77 #[ptr g, .slice (some ⟨W4.heap.size, 0, none⟩) 1 1] (W4.alloc (.cells #[ptr gl] 91)) (fun r w' => r = .returned (.tuple #[]) ∧ Exc (Tg g (.slice none 0 0)) (W4.alloc (.cells #[ptr gl] 91)) w' ∧ ∃ sv', NB w' W.heap.size g (⟨49, 0, 0, 0, (tk l (j + 1)).text, (tk l (j + 1)).pos, 0⟩ : Nd) sv' ([] ++ [ptr gl]) (Fo.nil.app x))) := by
                    have u5 : Up W4 (W4.alloc (.cells #[ptr gl] 91)) := (Up.refl _).alloc _
                    have hsz : (W4.alloc (.cells #[ptr gl] 91)).heap.size = W4.heap.size + 1 := by simp
                    exact add_ _ W.heap.size g _ (.slice none 0 0) [] .nil (NB.made (u5.heap hcW4) (by omega)) (by omega) [ptr gl] x (fun z => W.heap.size ≤ z ∧ z < w3.heap.size) (PF.keep (fun _ _ _ e => u5.heap e) x _ HX4.out) (by omega) (fun k1 e => by cases e) (fun z hz => by unfold Sn; omega) ⟨W4.heap.size, 0, none⟩ 1 (Nat.succ_pos _) (World.news_of_block (cs := #[ptr gl]) (heap_alloc_new W4 _)) (by intro u hu; simp only [List.mem_cons, List.not_mem_nil, or_false] at hu; subst hu; rfl) (by simp)
                  have HNX : Hid (∀ w5, Exc (Tg g (.slice none 0 0)) (W4.alloc (.cells #[ptr gl] 91)) w5 → (∃ sv', NB w5 W.heap.size g (⟨49, 0, 0, 0, (tk l (j + 1)).text, (tk l (j + 1)).pos, 0⟩ : Nd) sv' ([] ++ [ptr gl]) (Fo.nil.app x)) → ∃ (gl2 m2 : Nat) (x : Fo) (j D k : Nat), ptr g = ptr gl2 ∧ Value.int .i64 ((m + 1 : Nat) : Int) = .int .i64 (m2 : Int) ∧ PF w5 (Sn W.heap.size w5) x [ptr gl2] ∧ QS w5 b bt off n c ml ms j D ∧ j < n ∧ D ≤ 64 ∧ m2 ≤ j ∧ k ≤ N ∧ P l k (.chn x m2) j D = some R ∧ Only b W w5) := fun w5 e5 h5 => by
                    obtain ⟨sv', n5⟩ := h5
                    refine ⟨g, m + 1, _, j + 1 + 1, D', k, rfl, rfl, (n5.kids (cntF x : Int)).done, (HP4.out.up ((Up.refl _).alloc _)).exc e5 (fun hk => ?_), HE.out.next hj1 (by rw [hk1]; decide), hD', by omega, by omega, hPk, only_exc (HO4.out.trans (Only.up ((Up.refl _).alloc _))) e5 (fun k hk => ?_)⟩
                    · rcases hk with rfl | hk
                      · omega
                      · cases hk
                    · rcases hk with rfl | hk
                      · omega
                      · cases hk
                  clear hPk ov3 p3 HC2 hcv3 hcW4 hnx4 hov HOw3 HPw3 HXw3 HNv2 HOv2 HOv3 hk1 hsz4 hv3s HX4 HP4
                  go_wp2_with fail
                  refine Calls.mono HAD.out ?_
                  rintro r9 w5 ⟨rfl, e5, h5⟩
                  have HN5 : Hid _ := HNX.out w5 e5 h5
                  clear e5 h5 HAD HNX HO4
                  go_wp2_with fail
                  go_roundw
                  case rel => first | exact HN5.out | (have h9 := HN5.out; rw [hm0] at h9; exact h9)
                  case measure => simp [intOf]; omega
                · rw [if_neg hk1] at hPk
                  obtain rfl : Rs.bad 22 (tk l (j + 1)).pos = R := Option.some.inj hPk
                  have HO9 : Hid (Only b W v3) := HOw3.out.trans (HOv2.out.trans ov3)
                  clear hPk ov3 HC2 hk1
                  unfold pnc at *
                  go_wp2_with fail
                  rw [HPo.out]
                  exact ⟨rfl, HO9.out, rfl⟩
              · rw [hmk] at h9
                cases h9
            · have HOw3 : Hid (Only b W w3) := HOw2.out.trans ow3
              rw [if_pos ⟨hm0, h64⟩] at hPk
              obtain rfl : Rs.bad 23 (tk l j).pos = R := Option.some.inj hPk
              clear hPk ow3 HC
              unfold pnc at *
              go_wp2_with fail
              rw [HPo.out]
              exact ⟨rfl, HOw3.out, rfl⟩
        | false =>
          rw [hmk] at HIB
          rw [if_neg (by rw [hmk]; decide)] at hPk
          obtain rfl : Rs.ok x j = R := Option.some.inj hPk
          clear hPk
          go_wp2_with fail
          refine Calls.mono HIB.out ?_
          rintro r9 w2 ⟨rfl, u2⟩
          have HO2 : Hid (Only b W w2) := HOr.out.trans (Only.up u2)
          have HP2 : Hid (QS w2 b bt off n c ml ms j D) := HPr.out.up u2
          have HX2 : Hid (PF w2 (Sn W.heap.size w2) x [ptr gl]) := PF.mono (fun z hz => ⟨hz.1, Nat.lt_of_lt_of_le hz.2 u2.size⟩) x _ (PF.keep (fun _ _ _ e => u2.heap e) x _ HXr.out)
          clear u2 HIB HOr HPr HXr
          obtain ⟨a0, a1, a2, a3, a4, fz, hbl5⟩ := HP2.out.cells
          have hbl9 := HBL.out
          go_wp2_with fail
          rw [HPo.out]
          refine ⟨HO2.out.set 2 _, gl, rfl, ?_, HP2.out.op d⟩
          refine PF.mono (fun z hz => ⟨hz.1, by simpa [World.setCell] using hz.2⟩) x _ (PF.keep (W := w2) (fun z o hz e => ?_) x _ HX2.out)
          rw [Below.heap_setCell _ _ _ _ (show z ≠ b by have := hz.1; omega)]
          exact e
set_option maxRecDepth 100000 in
set_option maxHeartbeats 16000000 in
theorem psign_ (w0 W : World) (b bt off n c ml ms i d : Nat) (l : List Tok) (hE : Ev w0 b bt off n c l) (ho : Only b w0 W) (hi : i < n) (hP : QS W b bt off n c ml ms i d) (hd : d ≤ 64) (N : Nat) (R : Rs) (hl : (tk l (l.length - 1)).kind = 0) (hX : Ex l n) (hF : Prt w0 b bt off n c ml ms l N 194 .sign) (hG : Prt w0 b bt off n c ml ms l N 202 .item) (hR : P l (N + 1) .sign i d = some R) : Calls Tryz.prog 194 #[.pointer (some ⟨b, 0, none⟩)] W (QG b bt off n c ml ms d R W) := by
  obtain ⟨Post, hPost⟩ : ∃ P : Ending → World → Prop, P = QG b bt off n c ml ms d R W := ⟨_, rfl⟩
  rw [← hPost]
  have HPo : Hid (Post = QG b bt off n c ml ms d R W) := hPost
  clear hPost
  have HM : Hid (Calls Tryz.prog 118 #[.pointer (some ⟨b, 0, none⟩), .string ⟨#[45]⟩] W fun r w' => r = .returned (.bool (mk (tk l i) [45])) ∧ Up W w') := isMark_ w0 W b bt off n c ml ms i d l hE ho hi hP ⟨#[45]⟩ [45] (by unfold TR.Byt; decide) (congrArg ByteArray.toList (show (⟨#[45]⟩ : ByteArray) = strOfNums [45] from rfl))
  have HW2 : Hid (∀ W2, Up W W2 → Only b w0 W2 ∧ QS W2 b bt off n c ml ms i d) := fun W2 hu => ⟨ho.trans (Only.up hu), hP.up hu⟩
  have HE : Hid (Ev w0 b bt off n c l) := hE
  rw [P] at hR
  have hmf9 := hmf
  cases hmk : mk (tk l i) [45] with
  | true =>
    rw [hmk] at HM
    rw [if_pos hmk] at hR
    have HAH : Hid (∀ W2, Up W W2 → Calls Tryz.prog 153 #[.pointer (some ⟨b, 0, none⟩), .int .i8 35, .func (.func 194) #[.pointer (some ⟨b, 0, none⟩)] #[]] W2 (QG b bt off n c ml ms d R W2)) := fun W2 hu => ahead_ w0 W2 b bt off n c ml ms i d l HE.out (HW2.out W2 hu).1 hi (HW2.out W2 hu).2 hd (mk_kind hmk) 35 N 194 ent_sign .sign hF R hR
    clear hE ho hP hF hR HW2 hmk
    go_enter Tryz.func194, Tryz.ntmps194
    go_wp2_with fail
    refine Calls.mono HM.out ?_
    rintro r w1 ⟨rfl, u1⟩
    have HU1 : Hid (Up W w1) := u1
    have HC := HAH.out w1 u1
    clear u1 HM HAH
    go_wp2_with fail
    refine Calls.mono HC ?_
    intro r9 w2 h
    obtain ⟨ow2, h⟩ := h
    have HOw2 : Hid (Only b W w2) := (Only.up HU1.out).trans ow2
    clear ow2
    cases R with
    | bad er pp =>
      obtain rfl : r9 = pnc er pp := h
      unfold pnc at *
      go_wp2_with fail
      rw [HPo.out]
      exact ⟨rfl, HOw2.out, rfl⟩
    | ok y j =>
      obtain ⟨g, rfl, hy, p9⟩ := h
      have hy9 : PF w2 (Sn W.heap.size w2) y [ptr g] := PF.mono (fun z hz => ⟨Nat.le_trans HU1.out.size hz.1, hz.2⟩) y _ hy
      have HR9 : Hid _ := And.intro hy9 p9
      clear hy p9 hy9
      go_wp2_with fail
      rw [HPo.out]
      exact ⟨HOw2.out, g, rfl, HR9.out.1, HR9.out.2⟩
  | false =>
    rw [hmk] at HM
    rw [if_neg (by rw [hmk]; decide)] at hR
    have HRL : Hid (∀ W2, Up W W2 → Calls Tryz.prog 200 #[.pointer (some ⟨b, 0, none⟩)] W2 (QG b bt off n c ml ms d R W2)) := fun W2 hu => pchain_ w0 W2 b bt off n c ml ms i d l HE.out (HW2.out W2 hu).1 hi (HW2.out W2 hu).2 hd N R hl hX hG hR
    clear hE ho hP hF hR HW2 hmk
    go_enter Tryz.func194, Tryz.ntmps194
    go_wp2_with fail
    refine Calls.mono HM.out ?_
    rintro r w1 ⟨rfl, u1⟩
    have HU1 : Hid (Up W w1) := u1
    have HC := HRL.out w1 u1
    clear u1 HM HRL
    go_wp2_with fail
    refine Calls.mono HC ?_
    intro r9 w2 h
    obtain ⟨ow2, h⟩ := h
    have HOw2 : Hid (Only b W w2) := (Only.up HU1.out).trans ow2
    clear ow2
    cases R with
    | bad er pp =>
      obtain rfl : r9 = pnc er pp := h
      unfold pnc at *
      go_wp2_with fail
      rw [HPo.out]
      exact ⟨rfl, HOw2.out, rfl⟩
    | ok y j =>
      obtain ⟨g, rfl, hy, p9⟩ := h
      have hy9 : PF w2 (Sn W.heap.size w2) y [ptr g] := PF.mono (fun z hz => ⟨Nat.le_trans HU1.out.size hz.1, hz.2⟩) y _ hy
      have HR9 : Hid _ := And.intro hy9 p9
      clear hy p9 hy9
      go_wp2_with fail
      rw [HPo.out]
      exact ⟨HOw2.out, g, rfl, HR9.out.1, HR9.out.2⟩
end TP
end Go.Proofs.YtkldllnnocdhbaaGreatDoor
