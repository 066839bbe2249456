/-
  The program's parser: names and calls; items.
-/
import Derived.Test.YtkldllnnocdhbaaGreatDoorBn10
namespace Go.Proofs.YtkldllnnocdhbaaGreatDoor
open Go.RowKit
attribute [local go_sem ↓] Go.wp_at_zero Go.wp_at_succ
namespace TP
open TR (Nd Byt nums_inj)
open TK (Tok)
theorem fre_self : fre TR.wself = false := by decide
theorem fre_me : fre TR.wme = false := by decide
theorem mk_not_wd {t : Tok} {m x : List Int} (h : mk t m = true) : wd t x = false := by
  unfold mk at h
  unfold wd
  rw [Bool.and_eq_true] at h
  have hk : t.kind = 4 := by simpa using h.1
  have : (t.kind == 1) = false := by rw [hk]; rfl
  rw [this]
  rfl
theorem mk_not_frt {t : Tok} {m : List Int} (h : mk t m = true) : frt t = false := by
  unfold mk at h
  unfold frt
  rw [Bool.and_eq_true] at h
  have hk : t.kind = 4 := by simpa using h.1
  have : (t.kind == 1) = false := by rw [hk]; rfl
  rw [this]
  rfl
theorem cnt_lf (f : Fo) : cntF f ≤ (flF f).length := by
  induction f with
  | nil => simp [cntF, flF]
  | cons a k r _ ih =>
    simp only [cntF, flF, List.length_cons, List.length_append]
    omega
set_option maxRecDepth 100000 in
set_option maxHeartbeats 16000000 in
theorem named_ (w0 W : World) (b bt off n c ml ms i d : Nat) (l : List Tok) (hE : Ev w0 b bt off n c l) (ho : Only b w0 W) (hi : i < n) (hP : QS W b bt off n c ml ms i d) (hd : d ≤ 64) (N : Nat) (R : Rs) (hl : (tk l (l.length - 1)).kind = 0) (hX : Ex l n) (hF : ∀ k, k ≤ N → Prt w0 b bt off n c ml ms l k 206 .arg) (hR : (if wd (tk l i) TR.wself = true ∨ wd (tk l i) TR.wme = true then okr (nod 33 0 (tk l i).text (tk l i).pos .nil) (i + 1) else if frt (tk l i) = true then (if mk (tk l (i + 1)) [40] = true then bd (P l N (.args true) (i + 1) d) fun k j => okr (nod 50 0 (tk l i).text (tk l i).pos k) j else okr (nod 33 0 (tk l i).text (tk l i).pos .nil) (i + 1)) else bad (tk l i)) = some R) : Calls Tryz.prog 205 #[.pointer (some ⟨b, 0, none⟩)] W (QG b bt off n c ml ms d R W) := by
  obtain ⟨Post, hPost⟩ : ∃ P : Ending → World → Prop, P = QG b bt off n c ml ms d R W := ⟨_, rfl⟩
  rw [← hPost]
  have HPo : Hid (Post = QG b bt off n c ml ms d R W) := hPost
  clear hPost
  have HHR : Hid (∀ W2, Up W W2 → Calls Tryz.prog 75 #[.pointer (some ⟨b, 0, none⟩), .int .i8 33] W2 (fun r w' => Up W2 w' ∧ ∃ g, r = .returned (ptr g) ∧ W2.heap.size ≤ g ∧ w'.heap[g]? = some (.cells (pcell (⟨33, 0, 0, 0, [], (tk l i).pos, 0⟩ : Nd) (.slice none 0 0)) 170 (0, 0)))) := fun W2 hu => here_ w0 W2 b bt off n c ml ms i d l hE (ho.trans (Only.up hu)) hi (hP.up hu) 33
  have HTF : Hid (∀ v W2, Up W W2 → (∀ W3, Up W2 W3 → SL W3 v sqs) → Calls Tryz.prog 141 #[.pointer (some ⟨b, 0, none⟩), v] W2 (fun r w' => Only b W2 w' ∧ (((frt (tk l i) || sqs.contains (nm (tk l i))) = true ∧ r = .returned (.string (strOfNums (tk l i).text)) ∧ QS w' b bt off n c ml ms (i + 1) d) ∨ ((frt (tk l i) || sqs.contains (nm (tk l i))) = false ∧ r = pnc 22 (tk l i).pos)))) := fun v W2 hu hs => takeFree_ w0 W2 b bt off n c ml ms i d l hE (ho.trans (Only.up hu)) hi (hP.up hu) hX v sqs hs sqs_byt (by decide)
  have hbl := hP.cells.2.2.2.2.2.2
  have hby := hE.byt i hi
  have HIF : Hid (∀ W2, Calls Tryz.prog 170 #[.string (strOfNums (tk l i).text)] W2 fun r w' => r = .returned (.bool (decide ((tk l i).text ≠ []) && !TR.words.contains (tk l i).text)) ∧ w' = W2) := fun W2 => isFree_ _ W2 hby
  have HE : Hid (Ev w0 b bt off n c l) := hE
  have HW : Hid (Only b w0 W) := ho
  have HXX : Hid (Ex l n) := hX
  have HLA : Hid ((tk l (l.length - 1)).kind = 0) := hl
  have HF : Hid (∀ k, k ≤ N → Prt w0 b bt off n c ml ms l k 206 .arg) := hF
  have hk1 : (tk l i).kind = 1 → TR.isN (tk l i).text = true ∧ (tk l i).text ≠ [] := fun h => by
    have h9 := hX.nam i hi h
    exact ⟨h9, fun e => by rw [e] at h9; exact absurd h9 (by decide)⟩
  have hnx : (tk l i).kind = 1 → i + 1 < n := fun h => hE.next hi (by rw [h]; decide)
  have w1s := wd_nm (tk l i) TR.wself (by decide)
  have w1m := wd_nm (tk l i) TR.wme (by decide)
  have hcs : sqs.contains (nm (tk l i)) = true ↔ (wd (tk l i) TR.wself = true ∨ wd (tk l i) TR.wme = true) := by
    rw [w1s, w1m, List.contains_iff_mem]
    show nm (tk l i) ∈ [TR.wself, TR.wme] ↔ _
    simp
  have hmf9 := hmf
  clear hE ho hP hF hl hX hby
  cases hfr : frt (tk l i) with
  | true =>
    have hk : (tk l i).kind = 1 := by
      unfold frt at hfr
      rw [Bool.and_eq_true] at hfr
      simpa using hfr.1
    have hff : fre (tk l i).text = true := by
      unfold frt at hfr
      rw [Bool.and_eq_true] at hfr
      exact hfr.2
    have hnw : ¬ (wd (tk l i) TR.wself = true ∨ wd (tk l i) TR.wme = true) := by
      rw [w1s, w1m]
      unfold nm
      rw [if_pos hk]
      rintro (e | e)
      · rw [e, fre_self] at hff; cases hff
      · rw [e, fre_me] at hff; cases hff
    have hb9 : (decide ((tk l i).text ≠ []) && !TR.words.contains (tk l i).text) = true := by
      unfold fre at hff
      rw [(hk1 hk).1, Bool.true_and] at hff
      rw [hff]
      simp [(hk1 hk).2]
    rw [hb9] at HIF
    rw [if_neg hnw, if_pos hfr] at hR
    rw [hfr, Bool.true_or] at HTF
    have hi1 := hnx hk
    have HIM : Hid (∀ W2, Only b W W2 → QS W2 b bt off n c ml ms (i + 1) d → Calls Tryz.prog 118 #[.pointer (some ⟨b, 0, none⟩), .string ⟨#[40]⟩] W2 fun r w' => r = .returned (.bool (mk (tk l (i + 1)) [40])) ∧ Up W2 w') := fun W2 o2 p2 => isMark_ w0 W2 b bt off n c ml ms (i + 1) d l HE.out (HW.out.trans o2) hi1 p2 ⟨#[40]⟩ [40] (by unfold TR.Byt; decide) (congrArg ByteArray.toList (show (⟨#[40]⟩ : ByteArray) = strOfNums [40] from rfl))
    clear hnw hff hfr hcs w1s w1m hk1 hnx hb9
    cases hmq : mk (tk l (i + 1)) [40] with
    | false =>
      rw [hmq] at HIM
      rw [if_neg (by rw [hmq]; decide)] at hR
      have HRE : Hid (Rs.ok (nod 33 0 (tk l i).text (tk l i).pos .nil) (i + 1) = R) := Option.some.inj hR
      clear hR hmq
      go_enter Tryz.func205, Tryz.ntmps205
      go_wp2_with fail
      refine Calls.mono (HHR.out W (Up.refl _)) ?_
      rintro r9 w1 ⟨u1, g, rfl, hgW, hc⟩
      have HU1 : Hid (Up W w1) := u1
      have HN1 : Hid _ := hc
      clear u1 hc HHR
      obtain ⟨W1, hW1⟩ : ∃ W1, w1.alloc (.cells #[.string ⟨#[115, 101, 108, 102]⟩, .string ⟨#[109, 101]⟩] 9) = W1 := ⟨_, rfl⟩
      have HUA : Hid (Up W W1) := by unfold Hid; rw [← hW1]; exact HU1.out.trans ((Up.refl _).alloc _)
      have HNA : Hid (W1.heap[g]? = some (.cells (pcell (⟨33, 0, 0, 0, [], (tk l i).pos, 0⟩ : Nd) (.slice none 0 0)) 170 (0, 0))) := by unfold Hid; rw [← hW1]; exact ((Up.refl w1).alloc _).heap HN1.out
      have HC := HTF.out (.slice (some ⟨w1.heap.size, 0, none⟩) 2 2) W1 HUA.out (fun W3 hu => sl_lit sqs sqs_row (by rw [← hW1]; exact heap_alloc_new w1 _) hu)
      clear HTF
      go_wp2_with fail
      try rw [hW1]
      clear hW1 HN1 HU1
      go_wp2_with fail
      refine Calls.mono HC ?_
      rintro r w3 ⟨ow3, ⟨-, rfl, p3⟩ | ⟨h9, -⟩⟩
      · have HOw3 : Hid (Only b W w3) := (Only.up HUA.out).trans ow3
        have HNw3 : Hid (w3.heap[g]? = some (.cells (pcell (⟨33, 0, 0, 0, [], (tk l i).pos, 0⟩ : Nd) (.slice none 0 0)) 170 (0, 0))) := ow3.heap HNA.out (by omega)
        have HPw3 : Hid (QS w3 b bt off n c ml ms (i + 1) d) := p3
        clear ow3 p3 HC HNA
        obtain ⟨c9, f9⟩ := new_cell (j := 4) (x := .string ⟨#[]⟩) HNw3.out (by first | rfl | (unfold pcell; rfl))
        obtain ⟨s1, s2, s3⟩ := put_new (b := b) (W := W) (a := (⟨33, 0, 0, 0, [], (tk l i).pos, 0⟩ : Nd)) (a' := (⟨33, 0, 0, 0, (tk l i).text, (tk l i).pos, 0⟩ : Nd)) (x := .string (strOfNums (tk l i).text)) 4 HOw3.out hgW HNw3.out (by first | rfl | (unfold pcell; rfl))
        have HOs : Hid (Only b W (w3.setCell ⟨g, 4, none⟩ (.string (strOfNums (tk l i).text)))) := s1
        have HNs : Hid ((w3.setCell ⟨g, 4, none⟩ (.string (strOfNums (tk l i).text))).heap[g]? = some (.cells (pcell (⟨33, 0, 0, 0, (tk l i).text, (tk l i).pos, 0⟩ : Nd) (.slice none 0 0)) 170 (0, 0))) := s2
        have HPs : Hid (QS (w3.setCell ⟨g, 4, none⟩ (.string (strOfNums (tk l i).text))) b bt off n c ml ms (i + 1) d) := s3 b _ (by omega) HPw3.out
        clear s1 s2 s3
        obtain ⟨V, hV⟩ : ∃ V, w3.setCell ⟨g, 4, none⟩ (.string (strOfNums (tk l i).text)) = V := ⟨_, rfl⟩
        rw [hV] at HOs HNs HPs
        have e4 : V.cell? ⟨g, 4, none⟩ = some (.string (strOfNums (tk l i).text)) := (new_cell (j := 4) (x := .string (strOfNums (tk l i).text)) HNs.out (by first | rfl | (unfold pcell; rfl))).1
        have HC5 := HIF.out V
        clear HIF
        go_wp2_with fail
        try rw [hV]
        clear hV
        refine Calls.mono HC5 ?_
        rintro r9 w5 ⟨rfl, e5⟩
        obtain rfl := e5.symm
        clear e5 HC5
        have HC6 := HIM.out _ HOs.out HPs.out
        clear HIM
        go_wp2_with fail
        refine Calls.mono HC6 ?_
        rintro r9 w6 ⟨rfl, u6⟩
        have HU6 : Hid (Up V w6) := u6
        clear u6 HC6
        go_wp2_with fail
        rw [HPo.out, ← HRE.out]
        exact ⟨HOs.out.trans (Only.up HU6.out), g, rfl, leaf_done (HU6.out.heap HNs.out) hgW, HPs.out.up HU6.out⟩
      · cases h9
    | true =>
      rw [hmq] at HIM
      rw [if_pos hmq] at hR
      obtain ⟨R1, h2, h3⟩ : ∃ R1, P l N (.args true) (i + 1) d = some R1 ∧ bd (some R1) (fun k j => okr (nod 50 0 (tk l i).text (tk l i).pos k) j) = some R := by
        cases h9 : P l N (.args true) (i + 1) d with
        | none => rw [h9] at hR; cases hR
        | some R1 => rw [h9] at hR; exact ⟨R1, rfl, hR⟩
      have HLS : Hid (∀ W2, Only b W W2 → QS W2 b bt off n c ml ms (i + 1) d → Calls Tryz.prog 147 #[.pointer (some ⟨b, 0, none⟩), .func (.func 206) #[.pointer (some ⟨b, 0, none⟩)] #[]] W2 (QL b bt off n c ml ms d R1 W2)) := fun W2 o2 p2 => by
        cases N with
        | zero => cases h2
        | succ N => exact listed_ w0 W2 b bt off n c ml ms (i + 1) d l HE.out (HW.out.trans o2) hi1 p2 hd N R1 HLA.out 206 ent_argument true (fun k hk9 => HF.out k (by omega)) h2
      have hsz1 := HE.out.small
      have HSTL : Hid (∀ f j, R1 = .ok f j → cntF f ≤ 1048576) := fun f j e => by
        subst e
        have hst := stays HLA.out h2 (by have := HE.out.len; omega)
        have h9 := hst.2.2.1
        rw [show accF (.args true) = .nil from rfl, len_nil] at h9
        have h8 := cnt_lf f
        have := hst.2.1
        have := HE.out.len
        omega
      clear hR hmq h2
      go_enter Tryz.func205, Tryz.ntmps205
      go_wp2_with fail
      refine Calls.mono (HHR.out W (Up.refl _)) ?_
      rintro r9 w1 ⟨u1, g, rfl, hgW, hc⟩
      have HU1 : Hid (Up W w1) := u1
      have HN1 : Hid _ := hc
      clear u1 hc HHR
      obtain ⟨W1, hW1⟩ : ∃ W1, w1.alloc (.cells #[.string ⟨#[115, 101, 108, 102]⟩, .string ⟨#[109, 101]⟩] 9) = W1 := ⟨_, rfl⟩
      have HUA : Hid (Up W W1) := by unfold Hid; rw [← hW1]; exact HU1.out.trans ((Up.refl _).alloc _)
      have HNA : Hid (W1.heap[g]? = some (.cells (pcell (⟨33, 0, 0, 0, [], (tk l i).pos, 0⟩ : Nd) (.slice none 0 0)) 170 (0, 0))) := by unfold Hid; rw [← hW1]; exact ((Up.refl w1).alloc _).heap HN1.out
      have HC := HTF.out (.slice (some ⟨w1.heap.size, 0, none⟩) 2 2) W1 HUA.out (fun W3 hu => sl_lit sqs sqs_row (by rw [← hW1]; exact heap_alloc_new w1 _) hu)
      clear HTF
      go_wp2_with fail
      try rw [hW1]
      clear hW1 HN1 HU1
      go_wp2_with fail
      refine Calls.mono HC ?_
      rintro r w3 ⟨ow3, ⟨-, rfl, p3⟩ | ⟨h9, -⟩⟩
      · have HOw3 : Hid (Only b W w3) := (Only.up HUA.out).trans ow3
        have HNw3 : Hid (w3.heap[g]? = some (.cells (pcell (⟨33, 0, 0, 0, [], (tk l i).pos, 0⟩ : Nd) (.slice none 0 0)) 170 (0, 0))) := ow3.heap HNA.out (by omega)
        have HPw3 : Hid (QS w3 b bt off n c ml ms (i + 1) d) := p3
        clear ow3 p3 HC HNA
        obtain ⟨c9, f9⟩ := new_cell (j := 4) (x := .string ⟨#[]⟩) HNw3.out (by first | rfl | (unfold pcell; rfl))
        obtain ⟨s1, s2, s3⟩ := put_new (b := b) (W := W) (a := (⟨33, 0, 0, 0, [], (tk l i).pos, 0⟩ : Nd)) (a' := (⟨33, 0, 0, 0, (tk l i).text, (tk l i).pos, 0⟩ : Nd)) (x := .string (strOfNums (tk l i).text)) 4 HOw3.out hgW HNw3.out (by first | rfl | (unfold pcell; rfl))
        have HOs : Hid (Only b W (w3.setCell ⟨g, 4, none⟩ (.string (strOfNums (tk l i).text)))) := s1
        have HNs : Hid ((w3.setCell ⟨g, 4, none⟩ (.string (strOfNums (tk l i).text))).heap[g]? = some (.cells (pcell (⟨33, 0, 0, 0, (tk l i).text, (tk l i).pos, 0⟩ : Nd) (.slice none 0 0)) 170 (0, 0))) := s2
        have HPs : Hid (QS (w3.setCell ⟨g, 4, none⟩ (.string (strOfNums (tk l i).text))) b bt off n c ml ms (i + 1) d) := s3 b _ (by omega) HPw3.out
        clear s1 s2 s3
        obtain ⟨V, hV⟩ : ∃ V, w3.setCell ⟨g, 4, none⟩ (.string (strOfNums (tk l i).text)) = V := ⟨_, rfl⟩
        rw [hV] at HOs HNs HPs
        have e4 : V.cell? ⟨g, 4, none⟩ = some (.string (strOfNums (tk l i).text)) := (new_cell (j := 4) (x := .string (strOfNums (tk l i).text)) HNs.out (by first | rfl | (unfold pcell; rfl))).1
        have HC5 := HIF.out V
        clear HIF
        go_wp2_with fail
        try rw [hV]
        clear hV
        refine Calls.mono HC5 ?_
        rintro r9 w5 ⟨rfl, e5⟩
        obtain rfl := e5.symm
        clear e5 HC5
        have HC6 := HIM.out _ HOs.out HPs.out
        clear HIM
        go_wp2_with fail
        refine Calls.mono HC6 ?_
        rintro r9 w6 ⟨rfl, u6⟩
        have HO6 : Hid (Only b W w6) := HOs.out.trans (Only.up u6)
        have HN6 : Hid (w6.heap[g]? = some (.cells (pcell (⟨33, 0, 0, 0, (tk l i).text, (tk l i).pos, 0⟩ : Nd) (.slice none 0 0)) 170 (0, 0))) := u6.heap HNs.out
        have HP6 : Hid (QS w6 b bt off n c ml ms (i + 1) d) := HPs.out.up u6
        clear u6 HC6 HOs HNs HPs e4
        obtain ⟨c0, f0⟩ := new_cell (j := 0) (x := .int .i8 33) HN6.out (by first | rfl | (unfold pcell; rfl))
        obtain ⟨s1, s2, s3⟩ := put_new (b := b) (W := W) (a := (⟨33, 0, 0, 0, (tk l i).text, (tk l i).pos, 0⟩ : Nd)) (a' := (⟨50, 0, 0, 0, (tk l i).text, (tk l i).pos, 0⟩ : Nd)) (x := .int .i8 50) 0 HO6.out hgW HN6.out (by first | rfl | (unfold pcell; rfl))
        obtain ⟨V7, hV7⟩ : ∃ V7, w6.setCell ⟨g, 0, none⟩ (.int .i8 50) = V7 := ⟨_, rfl⟩
        rw [hV7] at s1 s2 s3
        have HO7 : Hid (Only b W V7) := s1
        have HN7 : Hid (V7.heap[g]? = some (.cells (pcell (⟨50, 0, 0, 0, (tk l i).text, (tk l i).pos, 0⟩ : Nd) (.slice none 0 0)) 170 (0, 0))) := s2
        have HC8 := HLS.out V7 s1 (s3 b _ (by omega) HP6.out)
        clear s1 s2 s3 HLS HO6 HN6 HP6
        go_wp2_with fail
        try rw [hV7]
        clear hV7
        refine Calls.mono HC8 ?_
        intro r9 w8 h
        obtain ⟨o8, h⟩ := h
        have HO8 : Hid (Only b W w8) := HO7.out.trans o8
        have hg7 : g < V7.heap.size := (Array.getElem?_eq_some_iff.1 HN7.out).1
        have HN8 : Hid (w8.heap[g]? = some (.cells (pcell (⟨50, 0, 0, 0, (tk l i).text, (tk l i).pos, 0⟩ : Nd) (.slice none 0 0)) 170 (0, 0))) := o8.heap HN7.out (by omega)
        have HS7 : Hid (W.heap.size ≤ V7.heap.size) := HO7.out.2.1
        clear o8 HC8 HN7 HO7
        cases R1 with
        | bad er pp =>
          obtain rfl : r9 = pnc er pp := h
          obtain rfl : Rs.bad er pp = R := Option.some.inj h3
          clear h3
          unfold pnc at *
          go_wp2_with fail
          rw [HPo.out]
          exact ⟨rfl, HO8.out, rfl⟩
        | ok y j =>
          obtain ⟨sv, kv, rfl, hlb, p8, hnil⟩ := h
          obtain rfl := Option.some.inj h3
          have HP8 : Hid (QS w8 b bt off n c ml ms j d) := p8
          have hcl := HSTL.out y j rfl
          clear h3 p8 HSTL
          obtain ⟨S, q1, q2, q3⟩ := hlb.pf
          have HQ1 : Hid (PF w8 S y kv) := q1
          have hlen : kv.length = cntF y := PF.len y kv q1
          rcases hlb.row.2 with ⟨rfl, hk0⟩ | ⟨g9, cap, cur, rfl, hg9, hc9, -, -⟩
          · have hkv : kv = [] := List.eq_nil_of_length_eq_zero hk0
            subst hkv
            have hy0 : y = .nil := by
              cases y with
              | nil => rfl
              | cons a k r => simp [cntF] at hlen
            subst hy0
            have HAD : Hid (Calls Tryz.prog 77 #[ptr g, .slice none 0 0] w8 (fun r w' => r = .returned (.tuple #[]) ∧ Exc (Tg g (.slice none 0 0)) w8 w' ∧ NB w' W.heap.size g (⟨50, 0, 0, 0, (tk l i).text, (tk l i).pos, 0⟩ : Nd) (.slice none 0 0) [] .nil)) := add0_ w8 W.heap.size g _ (.slice none 0 0) [] .nil (NB.made HN8.out hgW)
            clear hlb q1 q2 q3 hnil hlen hk0 HQ1 HN8
            go_wp2_with fail
            refine Calls.mono HAD.out ?_
            rintro r9 w9 ⟨rfl, e9, n9⟩
            have HE9 : Hid _ := e9
            have HN9 : Hid _ := n9
            clear e9 n9 HAD
            go_wp2_with fail
            rw [HPo.out]
            refine ⟨only_exc HO8.out HE9.out (fun k hk => ?_), g, rfl, (HN9.out.kids 0).done, HP8.out.exc HE9.out (fun hk => ?_)⟩
            · rcases hk with rfl | hk
              · exact hgW
              · cases hk
            · rcases hk with rfl | hk
              · omega
              · cases hk
          · by_cases hkv : kv = []
            · have := hnil hkv
              cases this
            · have hk0 : 0 < kv.length := List.length_pos_iff.2 hkv
              have HAD : Hid (Calls Tryz.prog 77 #[ptr g, .slice (some ⟨g9, 0, none⟩) kv.length cap] w8 (fun r w' => r = .returned (.tuple #[]) ∧ Exc (Tg g (.slice none 0 0)) w8 w' ∧ ∃ sv', NB w' W.heap.size g (⟨50, 0, 0, 0, (tk l i).text, (tk l i).pos, 0⟩ : Nd) sv' ([] ++ kv) (Fo.nil.app y))) := by
                have hs8 := HO8.out.2.1
                exact add_ w8 W.heap.size g _ (.slice none 0 0) [] .nil (NB.made HN8.out hgW) hs8 kv y S HQ1.out (fun hS => by have := (q3 g hS).1; omega) (fun k1 e => by cases e) (fun z hz => ⟨Nat.le_trans HS7.out (q3 z hz).1, (q3 z hz).2⟩) ⟨g9, 0, none⟩ cap hk0 (hlb.row.cells (g := g9) rfl) (PF.one y kv HQ1.out) (by simp; omega)
              clear hlb q1 q2 q3 hnil HN8 hc9 hlen hcl hk0 hkv HQ1 hg9
              go_wp2_with fail
              refine Calls.mono HAD.out ?_
              rintro r9 w9 ⟨rfl, e9, sv', n9⟩
              have HE9 : Hid _ := e9
              have HN9 : Hid _ := n9
              clear e9 n9 HAD
              go_wp2_with fail
              rw [HPo.out]
              refine ⟨only_exc HO8.out HE9.out (fun k hk => ?_), g, rfl, (HN9.out.kids (cntF y : Int)).done, HP8.out.exc HE9.out (fun hk => ?_)⟩
              · rcases hk with rfl | hk
                · exact hgW
                · cases hk
              · rcases hk with rfl | hk
                · omega
                · cases hk
      · cases h9
  | false =>
    rw [hfr, Bool.false_or] at HTF
    by_cases hsw : wd (tk l i) TR.wself = true ∨ wd (tk l i) TR.wme = true
    · rw [if_pos hsw] at hR
      rw [hcs.2 hsw] at HTF
      have HRE : Hid (Rs.ok (nod 33 0 (tk l i).text (tk l i).pos .nil) (i + 1) = R) := Option.some.inj hR
      have hb9 : (decide ((tk l i).text ≠ []) && !TR.words.contains (tk l i).text) = false := by
        have e9 : (tk l i).text = TR.wself ∨ (tk l i).text = TR.wme := by
          rcases hsw with h | h
          · unfold wd at h
            rw [Bool.and_eq_true] at h
            exact .inl (by simpa using h.2)
          · unfold wd at h
            rw [Bool.and_eq_true] at h
            exact .inr (by simpa using h.2)
        rcases e9 with e | e
        · rw [e]; decide
        · rw [e]; decide
      rw [hb9] at HIF
      clear hR hcs w1s w1m hsw hb9 hfr hk1 hnx
      go_enter Tryz.func205, Tryz.ntmps205
      go_wp2_with fail
      refine Calls.mono (HHR.out W (Up.refl _)) ?_
      rintro r9 w1 ⟨u1, g, rfl, hgW, hc⟩
      have HU1 : Hid (Up W w1) := u1
      have HN1 : Hid _ := hc
      clear u1 hc HHR
      obtain ⟨W1, hW1⟩ : ∃ W1, w1.alloc (.cells #[.string ⟨#[115, 101, 108, 102]⟩, .string ⟨#[109, 101]⟩] 9) = W1 := ⟨_, rfl⟩
      have HUA : Hid (Up W W1) := by unfold Hid; rw [← hW1]; exact HU1.out.trans ((Up.refl _).alloc _)
      have HNA : Hid (W1.heap[g]? = some (.cells (pcell (⟨33, 0, 0, 0, [], (tk l i).pos, 0⟩ : Nd) (.slice none 0 0)) 170 (0, 0))) := by unfold Hid; rw [← hW1]; exact ((Up.refl w1).alloc _).heap HN1.out
      have HC := HTF.out (.slice (some ⟨w1.heap.size, 0, none⟩) 2 2) W1 HUA.out (fun W3 hu => sl_lit sqs sqs_row (by rw [← hW1]; exact heap_alloc_new w1 _) hu)
      clear HTF
      go_wp2_with fail
      try rw [hW1]
      clear hW1 HN1 HU1
      go_wp2_with fail
      refine Calls.mono HC ?_
      rintro r w3 ⟨ow3, ⟨-, rfl, p3⟩ | ⟨h9, -⟩⟩
      · have HOw3 : Hid (Only b W w3) := (Only.up HUA.out).trans ow3
        have HNw3 : Hid (w3.heap[g]? = some (.cells (pcell (⟨33, 0, 0, 0, [], (tk l i).pos, 0⟩ : Nd) (.slice none 0 0)) 170 (0, 0))) := ow3.heap HNA.out (by omega)
        have HPw3 : Hid (QS w3 b bt off n c ml ms (i + 1) d) := p3
        clear ow3 p3 HC HNA
        obtain ⟨c9, f9⟩ := new_cell (j := 4) (x := .string ⟨#[]⟩) HNw3.out (by first | rfl | (unfold pcell; rfl))
        obtain ⟨s1, s2, s3⟩ := put_new (b := b) (W := W) (a := (⟨33, 0, 0, 0, [], (tk l i).pos, 0⟩ : Nd)) (a' := (⟨33, 0, 0, 0, (tk l i).text, (tk l i).pos, 0⟩ : Nd)) (x := .string (strOfNums (tk l i).text)) 4 HOw3.out hgW HNw3.out (by first | rfl | (unfold pcell; rfl))
        have HOs : Hid (Only b W (w3.setCell ⟨g, 4, none⟩ (.string (strOfNums (tk l i).text)))) := s1
        have HNs : Hid ((w3.setCell ⟨g, 4, none⟩ (.string (strOfNums (tk l i).text))).heap[g]? = some (.cells (pcell (⟨33, 0, 0, 0, (tk l i).text, (tk l i).pos, 0⟩ : Nd) (.slice none 0 0)) 170 (0, 0))) := s2
        have HPs : Hid (QS (w3.setCell ⟨g, 4, none⟩ (.string (strOfNums (tk l i).text))) b bt off n c ml ms (i + 1) d) := s3 b _ (by omega) HPw3.out
        clear s1 s2 s3
        obtain ⟨V, hV⟩ : ∃ V, w3.setCell ⟨g, 4, none⟩ (.string (strOfNums (tk l i).text)) = V := ⟨_, rfl⟩
        rw [hV] at HOs HNs HPs
        have e4 : V.cell? ⟨g, 4, none⟩ = some (.string (strOfNums (tk l i).text)) := (new_cell (j := 4) (x := .string (strOfNums (tk l i).text)) HNs.out (by first | rfl | (unfold pcell; rfl))).1
        have HC5 := HIF.out V
        clear HIF
        go_wp2_with fail
        try rw [hV]
        clear hV
        refine Calls.mono HC5 ?_
        rintro r9 w5 ⟨rfl, e5⟩
        obtain rfl := e5.symm
        clear e5 HC5
        go_wp2_with fail
        rw [HPo.out, ← HRE.out]
        exact ⟨HOs.out, g, rfl, leaf_done HNs.out hgW, HPs.out⟩
      · cases h9
    · rw [if_neg hsw, if_neg (by rw [hfr]; decide)] at hR
      have hc9 : sqs.contains (nm (tk l i)) = false := by
        cases h9 : sqs.contains (nm (tk l i)) with
        | false => rfl
        | true => exact absurd (hcs.1 h9) hsw
      rw [hc9] at HTF
      obtain rfl : Rs.bad 22 (tk l i).pos = R := Option.some.inj hR
      clear hR hcs w1s w1m hsw hc9 hfr hk1 hnx
      go_enter Tryz.func205, Tryz.ntmps205
      go_wp2_with fail
      refine Calls.mono (HHR.out W (Up.refl _)) ?_
      rintro r9 w1 ⟨u1, g, rfl, hgW, hc⟩
      have HU1 : Hid (Up W w1) := u1
      have HN1 : Hid _ := hc
      clear u1 hc HHR
      obtain ⟨W1, hW1⟩ : ∃ W1, w1.alloc (.cells #[.string ⟨#[115, 101, 108, 102]⟩, .string ⟨#[109, 101]⟩] 9) = W1 := ⟨_, rfl⟩
      have HUA : Hid (Up W W1) := by unfold Hid; rw [← hW1]; exact HU1.out.trans ((Up.refl _).alloc _)
      have HNA : Hid (W1.heap[g]? = some (.cells (pcell (⟨33, 0, 0, 0, [], (tk l i).pos, 0⟩ : Nd) (.slice none 0 0)) 170 (0, 0))) := by unfold Hid; rw [← hW1]; exact ((Up.refl w1).alloc _).heap HN1.out
      have HC := HTF.out (.slice (some ⟨w1.heap.size, 0, none⟩) 2 2) W1 HUA.out (fun W3 hu => sl_lit sqs sqs_row (by rw [← hW1]; exact heap_alloc_new w1 _) hu)
      clear HTF
      go_wp2_with fail
      try rw [hW1]
      clear hW1 HN1 HU1
      go_wp2_with fail
      refine Calls.mono HC ?_
      rintro r w3 ⟨ow3, ⟨h9, -⟩ | ⟨-, rfl⟩⟩
      · cases h9
      · have HOw3 : Hid (Only b W w3) := (Only.up HUA.out).trans ow3
        clear ow3 HC
        unfold pnc at *
        go_wp2_with fail
        rw [HPo.out]
        exact ⟨rfl, HOw3.out, rfl⟩
end TP
end Go.Proofs.YtkldllnnocdhbaaGreatDoor
