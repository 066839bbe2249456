/-
  The program's parser: arguments, names, items.
-/
import Derived.Test.YtkldllnnocdhbaaGreatDoorBm10
namespace Go.Proofs.YtkldllnnocdhbaaGreatDoor
open Go.RowKit
attribute [local go_sem ↓] Go.wp_at_zero Go.wp_at_succ
namespace TP
open TR (Nd Byt nums_inj)
open TK (Tok)
theorem wd_nm (t : Tok) (m : List Int) (h0 : m ≠ []) : wd t m = true ↔ nm t = m := by
  unfold wd nm
  by_cases hk : t.kind = 1
  · rw [if_pos hk]
    simp [hk]
  · rw [if_neg hk]
    simp [hk, Ne.symm h0]
def zqs : List (List Int) := [[100, 101, 99, 107], [104, 97, 110, 100], [98, 111, 97, 114, 100], [103, 114, 97, 118, 101]]
def sqs : List (List Int) := [[115, 101, 108, 102], [109, 101]]
theorem zone_iw (t : Tok) : zone t = if iw (nm t) zqs 0 < 0 then none else some (iw (nm t) zqs 0) := by
  have h1 := wd_nm t [100, 101, 99, 107] (by decide)
  have h2 := wd_nm t [104, 97, 110, 100] (by decide)
  have h3 := wd_nm t [98, 111, 97, 114, 100] (by decide)
  have h4 := wd_nm t [103, 114, 97, 118, 101] (by decide)
  by_cases k1 : nm t = [100, 101, 99, 107]
  · have e : iw (nm t) zqs 0 = 0 := by
      unfold zqs
      simp only [iw]
      rw [if_pos k1.symm]
      rfl
    rw [e, if_neg (by decide)]
    unfold zone
    rw [if_pos (h1.2 k1)]
  by_cases k2 : nm t = [104, 97, 110, 100]
  · have e : iw (nm t) zqs 0 = 1 := by
      unfold zqs
      simp only [iw]
      rw [if_neg (Ne.symm k1), if_pos k2.symm]
      rfl
    rw [e, if_neg (by decide)]
    unfold zone
    rw [if_neg (fun h => k1 (h1.1 h)), if_pos (h2.2 k2)]
  by_cases k3 : nm t = [98, 111, 97, 114, 100]
  · have e : iw (nm t) zqs 0 = 2 := by
      unfold zqs
      simp only [iw]
      rw [if_neg (Ne.symm k1), if_neg (Ne.symm k2), if_pos k3.symm]
      rfl
    rw [e, if_neg (by decide)]
    unfold zone
    rw [if_neg (fun h => k1 (h1.1 h)), if_neg (fun h => k2 (h2.1 h)), if_pos (h3.2 k3)]
  by_cases k4 : nm t = [103, 114, 97, 118, 101]
  · have e : iw (nm t) zqs 0 = 3 := by
      unfold zqs
      simp only [iw]
      rw [if_neg (Ne.symm k1), if_neg (Ne.symm k2), if_neg (Ne.symm k3), if_pos k4.symm]
      rfl
    rw [e, if_neg (by decide)]
    unfold zone
    rw [if_neg (fun h => k1 (h1.1 h)), if_neg (fun h => k2 (h2.1 h)), if_neg (fun h => k3 (h3.1 h)), if_pos (h4.2 k4)]
  have e : iw (nm t) zqs 0 = -1 := by
    unfold zqs
    simp only [iw]
    rw [if_neg (Ne.symm k1), if_neg (Ne.symm k2), if_neg (Ne.symm k3), if_neg (Ne.symm k4)]
  rw [e, if_pos (by decide)]
  unfold zone
  rw [if_neg (fun h => k1 (h1.1 h)), if_neg (fun h => k2 (h2.1 h)), if_neg (fun h => k3 (h3.1 h)), if_neg (fun h => k4 (h4.1 h))]
theorem zqs_row : zqs.map (fun x => Value.string (strOfNums x)) = (#[.string ⟨#[100, 101, 99, 107]⟩, .string ⟨#[104, 97, 110, 100]⟩, .string ⟨#[98, 111, 97, 114, 100]⟩, .string ⟨#[103, 114, 97, 118, 101]⟩] : Array Value).toList := by kernel_rfl
theorem sqs_row : sqs.map (fun x => Value.string (strOfNums x)) = (#[.string ⟨#[115, 101, 108, 102]⟩, .string ⟨#[109, 101]⟩] : Array Value).toList := by kernel_rfl
theorem zqs_byt : ∀ x ∈ zqs, Byt x := by unfold Byt zqs; decide
theorem sqs_byt : ∀ x ∈ sqs, Byt x := by unfold Byt sqs; decide
/- a list of words that was written out -/
theorem sl_lit {W W2 : World} {g : Nat} {cs : Array Value} {t : TypeId} (ws : List (List Int)) (hr : ws.map (fun x => Value.string (strOfNums x)) = cs.toList) (hg : W.heap[g]? = some (.cells cs t (0, 0))) (u : Up W W2) : SL W2 (.slice (some ⟨g, 0, none⟩) ws.length ws.length) ws := by
  refine ⟨_, _, rfl, Nat.le_refl _, fun _ => ⟨g, rfl, fun i hi => u.cell ?_⟩⟩
  simp only [World.cell?, hg]
  rw [← Array.getElem?_toList, ← hr, List.getElem?_map, List.getD_eq_getElem?_getD, List.getElem?_eq_getElem hi]
  rfl
/- a field of a new plant is set -/
theorem put_new {b g : Nat} {W v : World} {a a' : Nd} {x : Value} (j : Nat) (hO : Only b W v) (hg : W.heap.size ≤ g) (hc : v.heap[g]? = some (.cells (pcell a (.slice none 0 0)) 170 (0, 0))) (hj : (pcell a (.slice none 0 0)).setIfInBounds j x = pcell a' (.slice none 0 0)) :
    Only b W (v.setCell ⟨g, j, none⟩ x) ∧ (v.setCell ⟨g, j, none⟩ x).heap[g]? = some (.cells (pcell a' (.slice none 0 0)) 170 (0, 0)) ∧ ∀ z o, z ≠ g → v.heap[z]? = some o → (v.setCell ⟨g, j, none⟩ x).heap[z]? = some o := by
  refine ⟨only_exc (T := fun k => k = g) hO ⟨⟨rfl, rfl, rfl⟩, by simp [World.setCell], fun k _ hk => by rw [Below.heap_setCell _ _ _ _ hk]⟩ (fun k hk => by subst hk; exact hg), ?_, fun z o hz e => by rw [Below.heap_setCell _ _ _ _ hz]; exact e⟩
  rw [← hj]
  exact set_cells (j := j) (x := x) hc
theorem leaf_done {W : World} {lo g : Nat} {a : Nd} (hc : W.heap[g]? = some (.cells (pcell a (.slice none 0 0)) 170 (0, 0))) (hg : lo ≤ g) : PF W (Sn lo W) (.cons { a with kids := 0 } .nil .nil) [ptr g] := ((NB.made hc hg).kids 0).done
theorem new_cell {v : World} {g j : Nat} {a : Nd} {x : Value} (hc : v.heap[g]? = some (.cells (pcell a (.slice none 0 0)) 170 (0, 0))) (hx : (pcell a (.slice none 0 0))[j]? = some x) : v.cell? ⟨g, j, none⟩ = some x ∧ v.frozen? ⟨g, j, none⟩ = false := by
  refine ⟨?_, by simp [World.frozen?, hc]⟩
  simp only [World.cell?, hc]
  exact hx
set_option maxRecDepth 100000 in
set_option maxHeartbeats 16000000 in
theorem argument_ (w0 W : World) (b bt off n c ml ms i d : Nat) (l : List Tok) (hE : Ev w0 b bt off n c l) (ho : Only b w0 W) (hi : i < n) (hP : QS W b bt off n c ml ms i d) (hd : d ≤ 64) (N : Nat) (R : Rs) (hX : Ex l n) (hF : Prt w0 b bt off n c ml ms l N 27 (.row 1)) (hR : P l (N + 1) .arg i d = some R) : Calls Tryz.prog 206 #[.pointer (some ⟨b, 0, none⟩)] W (QG b bt off n c ml ms d R W) := by
  obtain ⟨Post, hPost⟩ : ∃ P : Ending → World → Prop, P = QG b bt off n c ml ms d R W := ⟨_, rfl⟩
  rw [← hPost]
  have HPo : Hid (Post = QG b bt off n c ml ms d R W) := hPost
  clear hPost
  have HNW : Hid (∀ W2, Up W W2 → Calls Tryz.prog 114 #[.pointer (some ⟨b, 0, none⟩)] W2 fun r w' => r = .returned (.agg #[.int .i8 (tk l i).kind, .string (strOfNums (tk l i).text), .int .i64 (tk l i).num, .int .i64 (tk l i).pos]) ∧ Up W2 w') := fun W2 hu => next_ w0 W2 b bt off n c ml ms i d l hE (ho.trans (Only.up hu)) hi (hP.up hu)
  have HHR : Hid (∀ W2, Up W W2 → Calls Tryz.prog 75 #[.pointer (some ⟨b, 0, none⟩), .int .i8 52] W2 (fun r w' => Up W2 w' ∧ ∃ g, r = .returned (ptr g) ∧ W2.heap.size ≤ g ∧ w'.heap[g]? = some (.cells (pcell (⟨52, 0, 0, 0, [], (tk l i).pos, 0⟩ : Nd) (.slice none 0 0)) 170 (0, 0)))) := fun W2 hu => here_ w0 W2 b bt off n c ml ms i d l hE (ho.trans (Only.up hu)) hi (hP.up hu) 52
  have HTX : Hid (∀ W2, Up W W2 → Calls Tryz.prog 116 #[.pointer (some ⟨b, 0, none⟩)] W2 (fun r w' => Only b W2 w' ∧ (((tk l i).kind = 3 ∧ r = .returned (.string (strOfNums (tk l i).text)) ∧ QS w' b bt off n c ml ms (i + 1) d) ∨ ((tk l i).kind ≠ 3 ∧ r = pnc 22 (tk l i).pos)))) := fun W2 hu => takeText_ w0 W2 b bt off n c ml ms i d l hE (ho.trans (Only.up hu)) hi (hP.up hu) hX
  have HBG : Hid (∀ W2, Up W W2 → Calls Tryz.prog 135 #[.pointer (some ⟨b, 0, none⟩), .int .i8 51] W2 (fun r w' => Only b W2 w' ∧ QS w' b bt off n c ml ms (i + 1) d ∧ ∃ g, r = .returned (ptr g) ∧ W2.heap.size ≤ g ∧ w'.heap[g]? = some (.cells (pcell (⟨51, 0, 0, 0, [], (tk l i).pos, 0⟩ : Nd) (.slice none 0 0)) 170 (0, 0)))) := fun W2 hu => begin_ w0 W2 b bt off n c ml ms i d l hE (ho.trans (Only.up hu)) hi (hP.up hu) 51
  have HNM : Hid (∀ W2, Up W W2 → Calls Tryz.prog 137 #[.pointer (some ⟨b, 0, none⟩)] W2 fun r w' => r = .returned (.string (strOfNums (nm (tk l i)))) ∧ Up W2 w') := fun W2 hu => name_ w0 W2 b bt off n c ml ms i d l hE (ho.trans (Only.up hu)) hi (hP.up hu)
  have hbn : Byt (nm (tk l i)) := by
    unfold nm
    split
    · exact hE.byt i hi
    · intro c hc
      cases hc
  have HIX : Hid (∀ v W2, SL W2 v zqs → Calls Tryz.prog 136 #[v, .string (strOfNums (nm (tk l i)))] W2 fun r w' => r = .returned (.int .i64 (iw (nm (tk l i)) zqs 0)) ∧ w' = W2) := fun v W2 hs => index0_ v zqs (nm (tk l i)) W2 hs hbn zqs_byt (by decide)
  have HEX : Hid (∀ W2, Up W W2 → P l N (.row 1) i d = some R → Calls Tryz.prog 27 #[.pointer (some ⟨b, 0, none⟩)] W2 (QG b bt off n c ml ms d R W2)) := fun W2 hu h => hF i d R W2 (ho.trans (Only.up hu)) (hP.up hu) hi hd h
  have hbl := hP.cells.2.2.2.2.2.2
  have f0 := fld0
  have hb0 := iw_bound (nm (tk l i)) zqs 0
  rw [P] at hR
  clear hE ho hP hF hbn
  by_cases hk : (tk l i).kind = 3
  · rw [if_pos hk] at hR
    have HRE : Hid (Rs.ok (nod 52 0 (tk l i).text (tk l i).pos .nil) (i + 1) = R) := Option.some.inj hR
    have hk2 : ((tk l i).kind == 3) = true := by rw [hk]; rfl
    clear hR HBG HNM HIX HEX
    go_enter Tryz.func206, Tryz.ntmps206
    go_wp2_with fail
    refine Calls.mono (HNW.out W (Up.refl _)) ?_
    rintro r9 w1 ⟨rfl, u1⟩
    have HU1 : Hid (Up W w1) := u1
    clear u1
    have HC := HHR.out w1 HU1.out
    clear HHR
    go_wp2_with fail
    refine Calls.mono HC ?_
    rintro r9 w2 ⟨u2, g, rfl, hg, hc⟩
    have HU2 : Hid (Up W w2) := HU1.out.trans u2
    have hgW : W.heap.size ≤ g := Nat.le_trans HU1.out.size hg
    have HN2 : Hid _ := hc
    clear u2 hc HC hg
    have HC := HTX.out w2 HU2.out
    clear HTX
    go_wp2_with fail
    refine Calls.mono HC ?_
    rintro r w3 ⟨ow3, ⟨-, rfl, p3⟩ | ⟨h9, -⟩⟩
    · have HOw3 : Hid (Only b W w3) := (Only.up HU2.out).trans ow3
      have HNw3 : Hid (w3.heap[g]? = some (.cells (pcell (⟨52, 0, 0, 0, [], (tk l i).pos, 0⟩ : Nd) (.slice none 0 0)) 170 (0, 0))) := ow3.heap HN2.out (by omega)
      have HPw3 : Hid (QS w3 b bt off n c ml ms (i + 1) d) := p3
      clear ow3 p3 HC HN2
      obtain ⟨c9, f9⟩ := new_cell (j := 4) (x := .string ⟨#[]⟩) HNw3.out (by first | rfl | (unfold pcell; rfl))
      obtain ⟨s1, s2, s3⟩ := put_new (b := b) (W := W) (a := (⟨52, 0, 0, 0, [], (tk l i).pos, 0⟩ : Nd)) (a' := (⟨52, 0, 0, 0, (tk l i).text, (tk l i).pos, 0⟩ : Nd)) (x := .string (strOfNums (tk l i).text)) 4 HOw3.out hgW HNw3.out (by first | rfl | (unfold pcell; rfl))
      have HOs : Hid (Only b W (w3.setCell ⟨g, 4, none⟩ (.string (strOfNums (tk l i).text)))) := s1
      have HNs : Hid ((w3.setCell ⟨g, 4, none⟩ (.string (strOfNums (tk l i).text))).heap[g]? = some (.cells (pcell (⟨52, 0, 0, 0, (tk l i).text, (tk l i).pos, 0⟩ : Nd) (.slice none 0 0)) 170 (0, 0))) := s2
      have HPs : Hid (QS (w3.setCell ⟨g, 4, none⟩ (.string (strOfNums (tk l i).text))) b bt off n c ml ms (i + 1) d) := s3 b _ (by omega) HPw3.out
      clear s1 s2 s3
      go_wp2_with fail
      rw [HPo.out, ← HRE.out]
      exact ⟨HOs.out, g, rfl, leaf_done HNs.out hgW, HPs.out⟩
    · exact absurd hk h9
  · have hk2 : ((tk l i).kind == 3) = false := by simpa using hk
    rw [if_neg hk, zone_iw] at hR
    clear HHR HTX
    go_enter Tryz.func206, Tryz.ntmps206
    go_wp2_with fail
    refine Calls.mono (HNW.out W (Up.refl _)) ?_
    rintro r9 w1 ⟨rfl, u1⟩
    have HU1 : Hid (Up W w1) := u1
    clear u1
    obtain ⟨W1, hW1⟩ : ∃ W1, w1.alloc (.cells #[.string ⟨#[100, 101, 99, 107]⟩, .string ⟨#[104, 97, 110, 100]⟩, .string ⟨#[98, 111, 97, 114, 100]⟩, .string ⟨#[103, 114, 97, 118, 101]⟩] 9) = W1 := ⟨_, rfl⟩
    have HUA : Hid (Up W W1) := by unfold Hid; rw [← hW1]; exact HU1.out.trans ((Up.refl _).alloc _)
    have HSL : Hid (∀ W2, Up W1 W2 → SL W2 (.slice (some ⟨w1.heap.size, 0, none⟩) 4 4) zqs) := fun W2 hu => sl_lit zqs zqs_row (by rw [← hW1]; exact heap_alloc_new w1 _) hu
    have HC := HNM.out W1 HUA.out
    go_wp2_with fail
    try rw [hW1]
    clear hW1 HNM HNW
    refine Calls.mono HC ?_
    rintro r9 w2 ⟨rfl, u2⟩
    have HU2 : Hid (Up W w2) := HUA.out.trans u2
    have HC2 := HIX.out _ w2 (HSL.out w2 u2)
    clear u2 HIX HSL HC
    generalize strOfNums (nm (tk l i)) = sn at *
    generalize iw (nm (tk l i)) zqs 0 = z at *
    go_wp2_with fail
    refine Calls.mono HC2 ?_
    rintro r9 w3 ⟨rfl, e3⟩
    have HU3 : Hid (Up W w3) := by unfold Hid; rw [e3]; exact HU2.out
    clear e3 HC2 HU2 HUA HU1
    by_cases hz : z < 0
    · rw [if_pos hz] at hR
      have hR : P l N (.row 1) i d = some R := hR
      have HC3 := HEX.out w3 HU3.out hR
      clear HEX hR HBG hb0
      go_wp2_with fail
      refine Calls.mono HC3 ?_
      intro r9 w4 h
      obtain ⟨ow4, h⟩ := h
      have HOw4 : Hid (Only b W w4) := (Only.up HU3.out).trans ow4
      clear ow4
      cases R with
      | bad er pp =>
        obtain rfl : r9 = pnc er pp := h
        unfold pnc at *
        go_wp2_with fail
        rw [HPo.out]
        exact ⟨rfl, HOw4.out, rfl⟩
      | ok y j =>
        obtain ⟨g, rfl, hy, p9⟩ := h
        have hy9 : PF w4 (Sn W.heap.size w4) y [ptr g] := PF.mono (fun z hz => ⟨Nat.le_trans HU3.out.size hz.1, hz.2⟩) y _ hy
        have HR9 : Hid _ := And.intro hy9 p9
        clear hy p9 hy9
        go_wp2_with fail
        rw [HPo.out]
        exact ⟨HOw4.out, g, rfl, HR9.out.1, HR9.out.2⟩
    · rw [if_neg hz] at hR
      have HRE : Hid (Rs.ok (nod 51 z [] (tk l i).pos .nil) (i + 1) = R) := Option.some.inj hR
      have HC3 := HBG.out w3 HU3.out
      clear HEX hR HBG
      go_wp2_with fail
      refine Calls.mono HC3 ?_
      rintro r9 w4 ⟨o4, p4, g, rfl, hg, hc⟩
      have hgW : W.heap.size ≤ g := Nat.le_trans HU3.out.size hg
      have HOw4 : Hid (Only b W w4) := (Only.up HU3.out).trans o4
      have HNw4 : Hid _ := hc
      have HPw4 : Hid (QS w4 b bt off n c ml ms (i + 1) d) := p4
      clear o4 p4 hc HC3 hg
      obtain ⟨c9, f9⟩ := new_cell (j := 2) (x := .int .i64 0) HNw4.out (by first | rfl | (unfold pcell; rfl))
      obtain ⟨s1, s2, s3⟩ := put_new (b := b) (W := W) (a := (⟨51, 0, 0, 0, [], (tk l i).pos, 0⟩ : Nd)) (a' := (⟨51, 0, z, 0, [], (tk l i).pos, 0⟩ : Nd)) (x := .int .i64 z) 2 HOw4.out hgW HNw4.out (by first | rfl | (unfold pcell; rfl))
      have HOs : Hid (Only b W (w4.setCell ⟨g, 2, none⟩ (.int .i64 z))) := s1
      have HNs : Hid ((w4.setCell ⟨g, 2, none⟩ (.int .i64 z)).heap[g]? = some (.cells (pcell (⟨51, 0, z, 0, [], (tk l i).pos, 0⟩ : Nd) (.slice none 0 0)) 170 (0, 0))) := s2
      have HPs : Hid (QS (w4.setCell ⟨g, 2, none⟩ (.int .i64 z)) b bt off n c ml ms (i + 1) d) := s3 b _ (by omega) HPw4.out
      clear s1 s2 s3
      go_wp2_with fail
      rw [HPo.out, ← HRE.out]
      exact ⟨HOs.out, g, rfl, leaf_done HNs.out hgW, HPs.out⟩
end TP
end Go.Proofs.YtkldllnnocdhbaaGreatDoor
