/-
  The program's parser: maps of what is read by its first word; a statement.
-/
import Derived.Test.YtkldllnnocdhbaaGreatDoorMp12
namespace Go.Proofs.YtkldllnnocdhbaaGreatDoor
open Go.RowKit
attribute [local go_sem ↓] Go.wp_at_zero Go.wp_at_succ
namespace TP
open TR (Nd Byt nums_inj)
open TK (Tok)
theorem run_lookF {P : Program} {t k e : TypeId} (ht : P.underlying t = some (.map k e)) (hk : P.underlying k = some .string) {W : World} {m : Nat} {l : List (ByteArray × Value)} (h : KD.MP W m l) (s : ByteArray) {z : Value} (hz : (zeroValue e).run P W = .ok z W) :
    (Instr.lookup t (.map (some m)) (.string s) false).run P W = .ok ((KD.lk l s).getD z) W := by
  obtain ⟨es, c, h1, h2⟩ := h
  have e2 := fun b => MapKept.run_checkKey (P := P) (w := W) (k := .string s) hk (by trivial) b 9999
  rcases KD.findNow_mp s es.toList l 0 h2 with ⟨h4, h3⟩ | ⟨j, v, h4, h3⟩
  · have e1 := MapKept.run_findKey (P := P) (w := W) hk h3
    simp [Instr.lookup, run_underlying ht, MapKept.run_getObj_map h1, e2, e1, hz, h4, Result.andThen]
  · have e1 := MapKept.run_findKey (P := P) (w := W) hk h3
    simp [Instr.lookup, run_underlying ht, MapKept.run_getObj_map h1, e2, e1, h4, Result.andThen]
theorem mp_only {W W' : World} {b m : Nat} {l : List (ByteArray × Value)} (h : KD.MP W m l) (o : Only b W W') (hb : m ≠ b) : KD.MP W' m l := by
  obtain ⟨es, c, h1, h2⟩ := h
  exact ⟨es, c, o.heap h1 hb, h2⟩
def fnv (b : Nat) (f : FuncId) : Value := .func (.func f) #[.pointer (some ⟨b, 0, none⟩)] #[]
def kmap (b : Nat) (ks : List (List Int × FuncId)) : List (ByteArray × Value) := ks.map fun p => (strOfNums p.1, fnv b p.2)
theorem lk_key (b : Nat) (x : List Int) (hx : Byt x) : ∀ (ks : List (List Int × FuncId)), (∀ p ∈ ks, Byt p.1) → KD.lk (kmap b ks) (strOfNums x) = (ks.find? (fun p => decide (p.1 = x))).map (fun p => fnv b p.2)
  | [], _ => rfl
  | p :: ks, h => by
    have hp := h p (List.mem_cons_self ..)
    have ih := lk_key b x hx ks (fun q hq => h q (List.mem_cons_of_mem _ hq))
    have e : (strOfNums p.1 = strOfNums x) ↔ p.1 = x := ⟨fun e => nums_inj hp hx (by rw [e]), fun e => by rw [e]⟩
    unfold KD.lk kmap at ih ⊢
    by_cases hk : p.1 = x
    · simp [hk]
    · have hk2 : ¬ strOfNums p.1 = strOfNums x := fun h9 => hk (e.1 h9)
      simp only [List.map_cons, List.find?_cons, decide_eq_false hk, decide_eq_false hk2]
      exact ih
def skey : List (List Int × FuncId) := [([108, 101, 116], 95), ([105, 102], 96), ([114, 101, 112, 101, 97, 116], 97), ([101, 97, 99, 104], 98), ([99, 104, 111, 111, 115, 101], 99), ([115, 116, 111, 112], 100), ([97, 98, 111, 114, 116], 101), ([115, 101, 108, 102], 102), ([109, 101], 102), ([104, 105, 116], 103), ([100, 114, 97, 119], 103)]
theorem skey_byt : ∀ p ∈ skey, Byt p.1 := by unfold Byt skey; decide
theorem frt_nm {t : Tok} (h : fre (nm t) = false) : frt t = false := by
  unfold frt
  unfold nm at h
  by_cases hk : t.kind = 1
  · rw [if_pos hk] at h
    rw [h]
    simp
  · have : (t.kind == 1) = false := by simpa using hk
    rw [this]
    rfl
theorem nm_kind {t : Tok} {x : List Int} (h : nm t = x) (hx : x ≠ []) : t.kind ≠ 0 := by
  unfold nm at h
  by_cases hk : t.kind = 1
  · rw [hk]; decide
  · rw [if_neg hk] at h
    exact absurd h.symm hx
theorem prt0 (w0 : World) (b bt off n c ml ms : Nat) (l : List Tok) (f : FuncId) (g : G) : Prt w0 b bt off n c ml ms l 0 f g := fun _ _ _ _ _ _ _ _ h => by cases h
/- where the maps lie -/
structure Mps (w0 : World) (b ml ms : Nat) (lkey : List (List Int × FuncId)) : Prop where
  st : KD.MP w0 ms (kmap b skey)
  ln : KD.MP w0 ml (kmap b lkey)
  sn : ms ≠ b
  nl : ml ≠ b
theorem mt_map : Tryz.prog.underlying 151 = some (.map 9 78) := by kernel_rfl
theorem mt_str : Tryz.prog.underlying 9 = some .string := by kernel_rfl
theorem fp_ne (fn : Fn) (f c : Array Value) (w : World) : (binOp .eql 78 (.func fn f c) Value.nilFunc).run Tryz.prog w = .ok (.bool false) w := by kernel_rfl
theorem fp_eq (w : World) : (binOp .eql 78 Value.nilFunc Value.nilFunc).run Tryz.prog w = .ok (.bool true) w := by kernel_rfl
theorem mt_zero (W : World) : (zeroValue 78).run Tryz.prog W = .ok .nilFunc W := by kernel_rfl
theorem stmt_bad {a e1 e2 : Bool} {s m : Bool} {X Y Z : Option Rs} {R : Rs} {A : Option Rs} (h : (if (a || s || m) = false then X else if (a || s) = true ∧ e1 = true then Y else if (a || m) = true ∧ e2 = true then Z else A) = some R) : ((a || s || m) = false ∧ X = some R) ∨ ((a || s) = true ∧ e1 = true ∧ Y = some R) ∨ (¬ ((a || s) = true ∧ e1 = true) ∧ (a || m) = true ∧ e2 = true ∧ Z = some R) ∨ ((a || s || m) = true ∧ ¬ ((a || s) = true ∧ e1 = true) ∧ ¬ ((a || m) = true ∧ e2 = true) ∧ A = some R) := by
  revert h
  cases a <;> cases s <;> cases m <;> cases e1 <;> cases e2 <;> simp
set_option maxRecDepth 100000 in
set_option maxHeartbeats 16000000 in
theorem pstmt_ (w0 W : World) (b bt off n c ml ms i d : Nat) (l : List Tok) (hE : Ev w0 b bt off n c l) (ho : Only b w0 W) (hi : i < n) (hP : QS W b bt off n c ml ms i d) (hd : d ≤ 64) (N : Nat) (R : Rs) (hl : (tk l (l.length - 1)).kind = 0) (hX : Ex l n) (lkey : List (List Int × FuncId)) (hM : Mps w0 b ml ms lkey) (hF : ∀ k, k ≤ N → Prt w0 b bt off n c ml ms l k 27 (.row 1)) (hG : Prt w0 b bt off n c ml ms l N 140 .block) (hI : Prf w0 b bt off n c ml ms l N) (hR : P l (N + 1) .stmt i d = some R) : Calls Tryz.prog 168 #[.pointer (some ⟨b, 0, none⟩)] W (QG b bt off n c ml ms d R W) := by
  obtain ⟨Post, hPost⟩ : ∃ P : Ending → World → Prop, P = QG b bt off n c ml ms d R W := ⟨_, rfl⟩
  rw [← hPost]
  have HPo : Hid (Post = QG b bt off n c ml ms d R W) := hPost
  clear hPost
  have HE : Hid (Ev w0 b bt off n c l) := hE
  have HXX : Hid (Ex l n) := hX
  have HW : Hid (Only b w0 W) := ho
  have HP : Hid (QS W b bt off n c ml ms i d) := hP
  have HLA : Hid ((tk l (l.length - 1)).kind = 0) := hl
  have HBL : Hid (b < W.heap.size) := hP.cells.2.2.2.2.2.2
  have hbn : Byt (nm (tk l i)) := by
    unfold nm
    split
    · exact hE.byt i hi
    · intro c hc
      cases hc
  have HLK : Hid (∀ W2, Up W W2 → (Instr.lookup 151 (.map (some ms)) (.string (strOfNums (nm (tk l i)))) false).run Tryz.prog W2 = .ok (((skey.find? (fun p => decide (p.1 = nm (tk l i)))).map (fun p => fnv b p.2)).getD .nilFunc) W2) := fun W2 hu => by
    rw [← lk_key b (nm (tk l i)) hbn skey skey_byt]
    exact run_lookF mt_map mt_str ((mp_only hM.st ho hM.sn).up hu) _ (mt_zero W2)
  have HNM : Hid (∀ W2, Up W W2 → Calls Tryz.prog 137 #[.pointer (some ⟨b, 0, none⟩)] W2 fun r w' => r = .returned (.string (strOfNums (nm (tk l i)))) ∧ Up W2 w') := fun W2 hu => name_ w0 W2 b bt off n c ml ms i d l hE (ho.trans (Only.up hu)) hi (hP.up hu)
  have HW2 : Hid (∀ W2, Up W W2 → Only b w0 W2 ∧ QS W2 b bt off n c ml ms i d) := fun W2 hu => ⟨ho.trans (Only.up hu), hP.up hu⟩
  have HFF : Hid (∀ k, k ≤ N → Prt w0 b bt off n c ml ms l k 27 (.row 1)) := hF
  have HEX : Hid (Prt w0 b bt off n c ml ms l N 27 (.row 1)) := hF N (Nat.le_refl _)
  have HBK : Hid (Prt w0 b bt off n c ml ms l N 140 .block) := hG
  have HIF : Hid (Prf w0 b bt off n c ml ms l N) := hI
  obtain ⟨a0, a1, a2, a3, a4, fz, hbl⟩ := hP.cells
  rw [P] at hR
  have w_let := wd_nm (tk l i) [108, 101, 116] (by decide)
  have w_if := wd_nm (tk l i) [105, 102] (by decide)
  have w_repeat := wd_nm (tk l i) [114, 101, 112, 101, 97, 116] (by decide)
  have w_each := wd_nm (tk l i) [101, 97, 99, 104] (by decide)
  have w_choose := wd_nm (tk l i) [99, 104, 111, 111, 115, 101] (by decide)
  have w_stop := wd_nm (tk l i) [115, 116, 111, 112] (by decide)
  have w_abort := wd_nm (tk l i) [97, 98, 111, 114, 116] (by decide)
  have w_self := wd_nm (tk l i) [115, 101, 108, 102] (by decide)
  have w_me := wd_nm (tk l i) [109, 101] (by decide)
  have w_hit := wd_nm (tk l i) [104, 105, 116] (by decide)
  have w_draw := wd_nm (tk l i) [100, 114, 97, 119] (by decide)
  clear hE ho hP hl hX hF hG hI hM
  generalize hnx : nm (tk l i) = x at *
  by_cases hx : x = [108, 101, 116]
  · have hk0 := nm_kind hnx (by rw [hx]; decide)
    have hfd : skey.find? (fun p => decide (p.1 = x)) = some ([108, 101, 116], 95) := by
      rw [hx]
      rfl
    rw [hfd] at HLK
    rw [if_pos (w_let.2 hx)] at hR
    have HC : Hid (∀ W2, Up W W2 → Calls Tryz.prog 95 #[.pointer (some ⟨b, 0, none⟩)] W2 (QG b bt off n c ml ms d R W2)) := fun W2 hu => plet_ w0 W2 b bt off n c ml ms i d l HE.out (HW2.out W2 hu).1 hi (HW2.out W2 hu).2 hd N R HLA.out HXX.out hk0 HEX.out hR
    clear hR hfd w_let w_if w_repeat w_each w_choose w_stop w_abort w_self w_me w_hit w_draw  hk0 hnx HW2 HFF
    have HLK2 : Hid (∀ W2, Up W W2 → (Instr.lookup 151 (.map (some ms)) (.string (strOfNums x)) false).run Tryz.prog W2 = .ok (.func (.func 95) #[.pointer (some ⟨b, 0, none⟩)] #[]) W2) := HLK
    clear HLK hx
    generalize strOfNums x = sn at *
    have fne9 := fp_ne
    have feq9 := fp_eq
    go_enter Tryz.func168, Tryz.ntmps168
    go_upto_region 1 with fail
    refine wp_region_held_drew (S := fun W9 => Up W W9) (by kernel_rfl) (Up.drew (Up.refl _)) (fun hHeld => ?_)
    have Ua0 : Up W W.drew := Up.drew (Up.refl _)
    refine wpAnyH_take (i := 0) (v := ?_) rfl (by kernel_rfl) (by kernel_rfl) (by kernel_rfl) (fun _ _ _ h => h) (Or.inl ⟨by rfl, ?_⟩) (by assumption) ?_
    rotate_left
    · intro w9 hSw
      go_simp
      try with_reducible rfl
    simp only [Act.put, List.setIfInBounds_toArray, List.set_cons_zero, List.set_cons_succ, List.getElem_toArray, List.getElem_cons_zero]
    refine wpAnyH_take (i := 1) (v := ?_) rfl (by kernel_rfl) (by kernel_rfl) (by kernel_rfl) (fun _ _ _ h => h) (Or.inl ⟨by rfl, ?_⟩) (by assumption) ?_
    rotate_left
    · intro w9 hSw
      go_simp
      try with_reducible rfl
    simp only [Act.put, List.setIfInBounds_toArray, List.set_cons_zero, List.set_cons_succ, List.getElem_toArray, List.getElem_cons_zero, List.getElem_cons_succ]
    refine wpAnyH_take (i := 2) (v := ?_) rfl (by kernel_rfl) (by kernel_rfl) (by kernel_rfl) (fun _ _ _ h => h) (Or.inl ⟨by rfl, ?_⟩) (by assumption) ?_
    rotate_left
    · intro w9 hSw
      go_simp
      try with_reducible rfl
    simp only [Act.put, List.setIfInBounds_toArray, List.set_cons_zero, List.set_cons_succ, List.getElem_toArray, List.getElem_cons_zero, List.getElem_cons_succ]
    refine wpAnyH_take (i := 3) (v := ?_) rfl (by kernel_rfl) (by kernel_rfl) (by kernel_rfl) (fun _ _ _ h => h) (Or.inl ⟨by rfl, ?_⟩) (by assumption) ?_
    rotate_left
    · intro w9 hSw
      have c2 := hSw.cell a4
      go_simp
      try with_reducible rfl
    simp only [Act.put, List.setIfInBounds_toArray, List.set_cons_zero, List.set_cons_succ, List.getElem_toArray, List.getElem_cons_zero, List.getElem_cons_succ]
    refine wpAnyH_take (i := 4) (v := ?_) rfl (by kernel_rfl) (by kernel_rfl) (by kernel_rfl) (fun _ _ _ h => h) (Or.inl ⟨by rfl, ?_⟩) (by assumption) ?_
    rotate_left
    · intro w9 hSw
      go_simp
      try with_reducible rfl
    simp only [Act.put, List.setIfInBounds_toArray, List.set_cons_zero, List.set_cons_succ, List.getElem_toArray, List.getElem_cons_zero, List.getElem_cons_succ]
    refine wpAnyH_ready (rs := [5]) (by kernel_rfl) (by simp) ?_
    refine AllReadyH.cons rfl (fun K hK => ?_) AllReadyH.nil
    simp only [List.getElem_toArray, List.getElem_cons_zero, List.getElem_cons_succ]
    go_simp
    refine Calls.mono (HNM.out _ Ua0) ?_
    rintro r9 Wa1 ⟨rfl, ua1⟩
    go_simp
    have Ua1 := Ua0.trans ua1
    refine hK.out _ _ ?_ (fun hHeld => ?_)
    · exact Ua1
    clear hK K
    try simp only [Act.put, List.setIfInBounds_toArray, List.set_cons_zero, List.set_cons_succ]
    have hSS := Ua1
    refine wpAnyH_take (i := 6) (v := ?_) rfl (by kernel_rfl) (by kernel_rfl) (by kernel_rfl) (fun _ _ _ h => h) (Or.inl ⟨by rfl, ?_⟩) (by assumption) ?_
    rotate_left
    · intro w9 hSw
      have c2 := HLK2.out w9 hSw
      go_simp
      try with_reducible rfl
    simp only [Act.put, List.setIfInBounds_toArray, List.set_cons_zero, List.set_cons_succ, List.getElem_toArray, List.getElem_cons_zero, List.getElem_cons_succ]
    refine wpAnyH_take (i := 7) (v := ?_) rfl (by kernel_rfl) (by kernel_rfl) (by kernel_rfl) (fun _ _ _ h => h) (Or.inl ⟨by rfl, ?_⟩) (by assumption) ?_
    rotate_left
    · intro w9 hSw
      go_simp
      try with_reducible rfl
    simp only [Act.put, List.setIfInBounds_toArray, List.set_cons_zero, List.set_cons_succ, List.getElem_toArray, List.getElem_cons_zero, List.getElem_cons_succ]
    refine wpAnyH_done (by kernel_rfl) ?_ _
    have HU9 : Hid (Up W Wa1) := Ua1
    have HCC := HC.out Wa1 HU9.out
    clear HC HNM HLK2
    go_wp2_with fail
    refine Calls.mono HCC ?_
    intro r9 w8 h
    obtain ⟨ow8, h⟩ := h
    have HOw8 : Hid (Only b W w8) := (Only.up HU9.out).trans ow8
    clear ow8
    cases R with
    | bad er pp =>
      obtain rfl : r9 = pnc er pp := h
      unfold pnc at *
      go_wp2_with fail
      rw [HPo.out]
      exact ⟨rfl, HOw8.out, rfl⟩
    | ok y j =>
      obtain ⟨g, rfl, hy, p9⟩ := h
      have hy9 : PF w8 (Sn W.heap.size w8) y [ptr g] := PF.mono (fun z hz => ⟨Nat.le_trans HU9.out.size hz.1, hz.2⟩) y _ hy
      have HR9 : Hid _ := And.intro hy9 p9
      clear hy p9 hy9
      go_wp2_with fail
      rw [HPo.out]
      exact ⟨HOw8.out, g, rfl, HR9.out.1, HR9.out.2⟩
  have n_let : ¬ x = [108, 101, 116] := hx
  clear hx
  by_cases hx : x = [105, 102]
  · have hk0 := nm_kind hnx (by rw [hx]; decide)
    have hfd : skey.find? (fun p => decide (p.1 = x)) = some ([105, 102], 96) := by
      rw [hx]
      rfl
    rw [hfd] at HLK
    rw [if_neg (fun h => n_let (w_let.1 h)), if_pos (w_if.2 hx)] at hR
    have HC : Hid (∀ W2, Up W W2 → Calls Tryz.prog 96 #[.pointer (some ⟨b, 0, none⟩)] W2 (QG b bt off n c ml ms d R W2)) := fun W2 hu => HIF.out i d R W2 (w_if.2 hx) (HW2.out W2 hu).1 (HW2.out W2 hu).2 hi hd hR
    clear hR hfd w_let w_if w_repeat w_each w_choose w_stop w_abort w_self w_me w_hit w_draw n_let hk0 hnx HW2 HFF
    have HLK2 : Hid (∀ W2, Up W W2 → (Instr.lookup 151 (.map (some ms)) (.string (strOfNums x)) false).run Tryz.prog W2 = .ok (.func (.func 96) #[.pointer (some ⟨b, 0, none⟩)] #[]) W2) := HLK
    clear HLK hx
    generalize strOfNums x = sn at *
    have fne9 := fp_ne
    have feq9 := fp_eq
    go_enter Tryz.func168, Tryz.ntmps168
    go_upto_region 1 with fail
    refine wp_region_held_drew (S := fun W9 => Up W W9) (by kernel_rfl) (Up.drew (Up.refl _)) (fun hHeld => ?_)
    have Ua0 : Up W W.drew := Up.drew (Up.refl _)
    refine wpAnyH_take (i := 0) (v := ?_) rfl (by kernel_rfl) (by kernel_rfl) (by kernel_rfl) (fun _ _ _ h => h) (Or.inl ⟨by rfl, ?_⟩) (by assumption) ?_
    rotate_left
    · intro w9 hSw
      go_simp
      try with_reducible rfl
    simp only [Act.put, List.setIfInBounds_toArray, List.set_cons_zero, List.set_cons_succ, List.getElem_toArray, List.getElem_cons_zero]
    refine wpAnyH_take (i := 1) (v := ?_) rfl (by kernel_rfl) (by kernel_rfl) (by kernel_rfl) (fun _ _ _ h => h) (Or.inl ⟨by rfl, ?_⟩) (by assumption) ?_
    rotate_left
    · intro w9 hSw
      go_simp
      try with_reducible rfl
    simp only [Act.put, List.setIfInBounds_toArray, List.set_cons_zero, List.set_cons_succ, List.getElem_toArray, List.getElem_cons_zero, List.getElem_cons_succ]
    refine wpAnyH_take (i := 2) (v := ?_) rfl (by kernel_rfl) (by kernel_rfl) (by kernel_rfl) (fun _ _ _ h => h) (Or.inl ⟨by rfl, ?_⟩) (by assumption) ?_
    rotate_left
    · intro w9 hSw
      go_simp
      try with_reducible rfl
    simp only [Act.put, List.setIfInBounds_toArray, List.set_cons_zero, List.set_cons_succ, List.getElem_toArray, List.getElem_cons_zero, List.getElem_cons_succ]
    refine wpAnyH_take (i := 3) (v := ?_) rfl (by kernel_rfl) (by kernel_rfl) (by kernel_rfl) (fun _ _ _ h => h) (Or.inl ⟨by rfl, ?_⟩) (by assumption) ?_
    rotate_left
    · intro w9 hSw
      have c2 := hSw.cell a4
      go_simp
      try with_reducible rfl
    simp only [Act.put, List.setIfInBounds_toArray, List.set_cons_zero, List.set_cons_succ, List.getElem_toArray, List.getElem_cons_zero, List.getElem_cons_succ]
    refine wpAnyH_take (i := 4) (v := ?_) rfl (by kernel_rfl) (by kernel_rfl) (by kernel_rfl) (fun _ _ _ h => h) (Or.inl ⟨by rfl, ?_⟩) (by assumption) ?_
    rotate_left
    · intro w9 hSw
      go_simp
      try with_reducible rfl
    simp only [Act.put, List.setIfInBounds_toArray, List.set_cons_zero, List.set_cons_succ, List.getElem_toArray, List.getElem_cons_zero, List.getElem_cons_succ]
    refine wpAnyH_ready (rs := [5]) (by kernel_rfl) (by simp) ?_
    refine AllReadyH.cons rfl (fun K hK => ?_) AllReadyH.nil
    simp only [List.getElem_toArray, List.getElem_cons_zero, List.getElem_cons_succ]
    go_simp
    refine Calls.mono (HNM.out _ Ua0) ?_
    rintro r9 Wa1 ⟨rfl, ua1⟩
    go_simp
    have Ua1 := Ua0.trans ua1
    refine hK.out _ _ ?_ (fun hHeld => ?_)
    · exact Ua1
    clear hK K
    try simp only [Act.put, List.setIfInBounds_toArray, List.set_cons_zero, List.set_cons_succ]
    have hSS := Ua1
    refine wpAnyH_take (i := 6) (v := ?_) rfl (by kernel_rfl) (by kernel_rfl) (by kernel_rfl) (fun _ _ _ h => h) (Or.inl ⟨by rfl, ?_⟩) (by assumption) ?_
    rotate_left
    · intro w9 hSw
      have c2 := HLK2.out w9 hSw
      go_simp
      try with_reducible rfl
    simp only [Act.put, List.setIfInBounds_toArray, List.set_cons_zero, List.set_cons_succ, List.getElem_toArray, List.getElem_cons_zero, List.getElem_cons_succ]
    refine wpAnyH_take (i := 7) (v := ?_) rfl (by kernel_rfl) (by kernel_rfl) (by kernel_rfl) (fun _ _ _ h => h) (Or.inl ⟨by rfl, ?_⟩) (by assumption) ?_
    rotate_left
    · intro w9 hSw
      go_simp
      try with_reducible rfl
    simp only [Act.put, List.setIfInBounds_toArray, List.set_cons_zero, List.set_cons_succ, List.getElem_toArray, List.getElem_cons_zero, List.getElem_cons_succ]
    refine wpAnyH_done (by kernel_rfl) ?_ _
    have HU9 : Hid (Up W Wa1) := Ua1
    have HCC := HC.out Wa1 HU9.out
    clear HC HNM HLK2
    go_wp2_with fail
    refine Calls.mono HCC ?_
    intro r9 w8 h
    obtain ⟨ow8, h⟩ := h
    have HOw8 : Hid (Only b W w8) := (Only.up HU9.out).trans ow8
    clear ow8
    cases R with
    | bad er pp =>
      obtain rfl : r9 = pnc er pp := h
      unfold pnc at *
      go_wp2_with fail
      rw [HPo.out]
      exact ⟨rfl, HOw8.out, rfl⟩
    | ok y j =>
      obtain ⟨g, rfl, hy, p9⟩ := h
      have hy9 : PF w8 (Sn W.heap.size w8) y [ptr g] := PF.mono (fun z hz => ⟨Nat.le_trans HU9.out.size hz.1, hz.2⟩) y _ hy
      have HR9 : Hid _ := And.intro hy9 p9
      clear hy p9 hy9
      go_wp2_with fail
      rw [HPo.out]
      exact ⟨HOw8.out, g, rfl, HR9.out.1, HR9.out.2⟩
  have n_if : ¬ x = [105, 102] := hx
  clear hx
  by_cases hx : x = [114, 101, 112, 101, 97, 116]
  · have hk0 := nm_kind hnx (by rw [hx]; decide)
    have hfd : skey.find? (fun p => decide (p.1 = x)) = some ([114, 101, 112, 101, 97, 116], 97) := by
      rw [hx]
      rfl
    rw [hfd] at HLK
    rw [if_neg (fun h => n_let (w_let.1 h)), if_neg (fun h => n_if (w_if.1 h)), if_pos (w_repeat.2 hx)] at hR
    have HC : Hid (∀ W2, Up W W2 → Calls Tryz.prog 97 #[.pointer (some ⟨b, 0, none⟩)] W2 (QG b bt off n c ml ms d R W2)) := fun W2 hu => prepeat_ w0 W2 b bt off n c ml ms i d l HE.out (HW2.out W2 hu).1 hi (HW2.out W2 hu).2 hd N R HLA.out HXX.out hk0 HBK.out hR
    clear hR hfd w_let w_if w_repeat w_each w_choose w_stop w_abort w_self w_me w_hit w_draw n_let n_if hk0 hnx HW2 HFF
    have HLK2 : Hid (∀ W2, Up W W2 → (Instr.lookup 151 (.map (some ms)) (.string (strOfNums x)) false).run Tryz.prog W2 = .ok (.func (.func 97) #[.pointer (some ⟨b, 0, none⟩)] #[]) W2) := HLK
    clear HLK hx
    generalize strOfNums x = sn at *
    have fne9 := fp_ne
    have feq9 := fp_eq
    go_enter Tryz.func168, Tryz.ntmps168
    go_upto_region 1 with fail
    refine wp_region_held_drew (S := fun W9 => Up W W9) (by kernel_rfl) (Up.drew (Up.refl _)) (fun hHeld => ?_)
    have Ua0 : Up W W.drew := Up.drew (Up.refl _)
    refine wpAnyH_take (i := 0) (v := ?_) rfl (by kernel_rfl) (by kernel_rfl) (by kernel_rfl) (fun _ _ _ h => h) (Or.inl ⟨by rfl, ?_⟩) (by assumption) ?_
    rotate_left
    · intro w9 hSw
      go_simp
      try with_reducible rfl
    simp only [Act.put, List.setIfInBounds_toArray, List.set_cons_zero, List.set_cons_succ, List.getElem_toArray, List.getElem_cons_zero]
    refine wpAnyH_take (i := 1) (v := ?_) rfl (by kernel_rfl) (by kernel_rfl) (by kernel_rfl) (fun _ _ _ h => h) (Or.inl ⟨by rfl, ?_⟩) (by assumption) ?_
    rotate_left
    · intro w9 hSw
      go_simp
      try with_reducible rfl
    simp only [Act.put, List.setIfInBounds_toArray, List.set_cons_zero, List.set_cons_succ, List.getElem_toArray, List.getElem_cons_zero, List.getElem_cons_succ]
    refine wpAnyH_take (i := 2) (v := ?_) rfl (by kernel_rfl) (by kernel_rfl) (by kernel_rfl) (fun _ _ _ h => h) (Or.inl ⟨by rfl, ?_⟩) (by assumption) ?_
    rotate_left
    · intro w9 hSw
      go_simp
      try with_reducible rfl
    simp only [Act.put, List.setIfInBounds_toArray, List.set_cons_zero, List.set_cons_succ, List.getElem_toArray, List.getElem_cons_zero, List.getElem_cons_succ]
    refine wpAnyH_take (i := 3) (v := ?_) rfl (by kernel_rfl) (by kernel_rfl) (by kernel_rfl) (fun _ _ _ h => h) (Or.inl ⟨by rfl, ?_⟩) (by assumption) ?_
    rotate_left
    · intro w9 hSw
      have c2 := hSw.cell a4
      go_simp
      try with_reducible rfl
    simp only [Act.put, List.setIfInBounds_toArray, List.set_cons_zero, List.set_cons_succ, List.getElem_toArray, List.getElem_cons_zero, List.getElem_cons_succ]
    refine wpAnyH_take (i := 4) (v := ?_) rfl (by kernel_rfl) (by kernel_rfl) (by kernel_rfl) (fun _ _ _ h => h) (Or.inl ⟨by rfl, ?_⟩) (by assumption) ?_
    rotate_left
    · intro w9 hSw
      go_simp
      try with_reducible rfl
    simp only [Act.put, List.setIfInBounds_toArray, List.set_cons_zero, List.set_cons_succ, List.getElem_toArray, List.getElem_cons_zero, List.getElem_cons_succ]
    refine wpAnyH_ready (rs := [5]) (by kernel_rfl) (by simp) ?_
    refine AllReadyH.cons rfl (fun K hK => ?_) AllReadyH.nil
    simp only [List.getElem_toArray, List.getElem_cons_zero, List.getElem_cons_succ]
    go_simp
    refine Calls.mono (HNM.out _ Ua0) ?_
    rintro r9 Wa1 ⟨rfl, ua1⟩
    go_simp
    have Ua1 := Ua0.trans ua1
    refine hK.out _ _ ?_ (fun hHeld => ?_)
    · exact Ua1
    clear hK K
    try simp only [Act.put, List.setIfInBounds_toArray, List.set_cons_zero, List.set_cons_succ]
    have hSS := Ua1
    refine wpAnyH_take (i := 6) (v := ?_) rfl (by kernel_rfl) (by kernel_rfl) (by kernel_rfl) (fun _ _ _ h => h) (Or.inl ⟨by rfl, ?_⟩) (by assumption) ?_
    rotate_left
    · intro w9 hSw
      have c2 := HLK2.out w9 hSw
      go_simp
      try with_reducible rfl
    simp only [Act.put, List.setIfInBounds_toArray, List.set_cons_zero, List.set_cons_succ, List.getElem_toArray, List.getElem_cons_zero, List.getElem_cons_succ]
    refine wpAnyH_take (i := 7) (v := ?_) rfl (by kernel_rfl) (by kernel_rfl) (by kernel_rfl) (fun _ _ _ h => h) (Or.inl ⟨by rfl, ?_⟩) (by assumption) ?_
    rotate_left
    · intro w9 hSw
      go_simp
      try with_reducible rfl
    simp only [Act.put, List.setIfInBounds_toArray, List.set_cons_zero, List.set_cons_succ, List.getElem_toArray, List.getElem_cons_zero, List.getElem_cons_succ]
    refine wpAnyH_done (by kernel_rfl) ?_ _
    have HU9 : Hid (Up W Wa1) := Ua1
    have HCC := HC.out Wa1 HU9.out
    clear HC HNM HLK2
    go_wp2_with fail
    refine Calls.mono HCC ?_
    intro r9 w8 h
    obtain ⟨ow8, h⟩ := h
    have HOw8 : Hid (Only b W w8) := (Only.up HU9.out).trans ow8
    clear ow8
    cases R with
    | bad er pp =>
      obtain rfl : r9 = pnc er pp := h
      unfold pnc at *
      go_wp2_with fail
      rw [HPo.out]
      exact ⟨rfl, HOw8.out, rfl⟩
    | ok y j =>
      obtain ⟨g, rfl, hy, p9⟩ := h
      have hy9 : PF w8 (Sn W.heap.size w8) y [ptr g] := PF.mono (fun z hz => ⟨Nat.le_trans HU9.out.size hz.1, hz.2⟩) y _ hy
      have HR9 : Hid _ := And.intro hy9 p9
      clear hy p9 hy9
      go_wp2_with fail
      rw [HPo.out]
      exact ⟨HOw8.out, g, rfl, HR9.out.1, HR9.out.2⟩
  have n_repeat : ¬ x = [114, 101, 112, 101, 97, 116] := hx
  clear hx
  by_cases hx : x = [101, 97, 99, 104]
  · have hk0 := nm_kind hnx (by rw [hx]; decide)
    have hfd : skey.find? (fun p => decide (p.1 = x)) = some ([101, 97, 99, 104], 98) := by
      rw [hx]
      rfl
    rw [hfd] at HLK
    rw [if_neg (fun h => n_let (w_let.1 h)), if_neg (fun h => n_if (w_if.1 h)), if_neg (fun h => n_repeat (w_repeat.1 h)), if_pos (.inl (w_each.2 hx))] at hR
    have hcf : wd (tk l i) [99, 104, 111, 111, 115, 101] = false := by
      cases h9 : wd (tk l i) [99, 104, 111, 111, 115, 101] with
      | false => rfl
      | true => exact absurd ((w_choose.1 h9).symm.trans hx) (by decide)
    simp only [hcf, Bool.false_eq_true, false_and, if_false] at hR
    have HC : Hid (∀ W2, Up W W2 → Calls Tryz.prog 98 #[.pointer (some ⟨b, 0, none⟩)] W2 (QG b bt off n c ml ms d R W2)) := fun W2 hu => peach_ w0 W2 b bt off n c ml ms i d l HE.out (HW2.out W2 hu).1 hi (HW2.out W2 hu).2 hd N R HLA.out HXX.out hk0 HEX.out HBK.out hR
    clear hR hfd w_let w_if w_repeat w_each w_choose w_stop w_abort w_self w_me w_hit w_draw n_let n_if n_repeat hk0 hnx HW2 HFF hcf
    have HLK2 : Hid (∀ W2, Up W W2 → (Instr.lookup 151 (.map (some ms)) (.string (strOfNums x)) false).run Tryz.prog W2 = .ok (.func (.func 98) #[.pointer (some ⟨b, 0, none⟩)] #[]) W2) := HLK
    clear HLK hx
    generalize strOfNums x = sn at *
    have fne9 := fp_ne
    have feq9 := fp_eq
    go_enter Tryz.func168, Tryz.ntmps168
    go_upto_region 1 with fail
    refine wp_region_held_drew (S := fun W9 => Up W W9) (by kernel_rfl) (Up.drew (Up.refl _)) (fun hHeld => ?_)
    have Ua0 : Up W W.drew := Up.drew (Up.refl _)
    refine wpAnyH_take (i := 0) (v := ?_) rfl (by kernel_rfl) (by kernel_rfl) (by kernel_rfl) (fun _ _ _ h => h) (Or.inl ⟨by rfl, ?_⟩) (by assumption) ?_
    rotate_left
    · intro w9 hSw
      go_simp
      try with_reducible rfl
    simp only [Act.put, List.setIfInBounds_toArray, List.set_cons_zero, List.set_cons_succ, List.getElem_toArray, List.getElem_cons_zero]
    refine wpAnyH_take (i := 1) (v := ?_) rfl (by kernel_rfl) (by kernel_rfl) (by kernel_rfl) (fun _ _ _ h => h) (Or.inl ⟨by rfl, ?_⟩) (by assumption) ?_
    rotate_left
    · intro w9 hSw
      go_simp
      try with_reducible rfl
    simp only [Act.put, List.setIfInBounds_toArray, List.set_cons_zero, List.set_cons_succ, List.getElem_toArray, List.getElem_cons_zero, List.getElem_cons_succ]
    refine wpAnyH_take (i := 2) (v := ?_) rfl (by kernel_rfl) (by kernel_rfl) (by kernel_rfl) (fun _ _ _ h => h) (Or.inl ⟨by rfl, ?_⟩) (by assumption) ?_
    rotate_left
    · intro w9 hSw
      go_simp
      try with_reducible rfl
    simp only [Act.put, List.setIfInBounds_toArray, List.set_cons_zero, List.set_cons_succ, List.getElem_toArray, List.getElem_cons_zero, List.getElem_cons_succ]
    refine wpAnyH_take (i := 3) (v := ?_) rfl (by kernel_rfl) (by kernel_rfl) (by kernel_rfl) (fun _ _ _ h => h) (Or.inl ⟨by rfl, ?_⟩) (by assumption) ?_
    rotate_left
    · intro w9 hSw
      have c2 := hSw.cell a4
      go_simp
      try with_reducible rfl
    simp only [Act.put, List.setIfInBounds_toArray, List.set_cons_zero, List.set_cons_succ, List.getElem_toArray, List.getElem_cons_zero, List.getElem_cons_succ]
    refine wpAnyH_take (i := 4) (v := ?_) rfl (by kernel_rfl) (by kernel_rfl) (by kernel_rfl) (fun _ _ _ h => h) (Or.inl ⟨by rfl, ?_⟩) (by assumption) ?_
    rotate_left
    · intro w9 hSw
      go_simp
      try with_reducible rfl
    simp only [Act.put, List.setIfInBounds_toArray, List.set_cons_zero, List.set_cons_succ, List.getElem_toArray, List.getElem_cons_zero, List.getElem_cons_succ]
    refine wpAnyH_ready (rs := [5]) (by kernel_rfl) (by simp) ?_
    refine AllReadyH.cons rfl (fun K hK => ?_) AllReadyH.nil
    simp only [List.getElem_toArray, List.getElem_cons_zero, List.getElem_cons_succ]
    go_simp
    refine Calls.mono (HNM.out _ Ua0) ?_
    rintro r9 Wa1 ⟨rfl, ua1⟩
    go_simp
    have Ua1 := Ua0.trans ua1
    refine hK.out _ _ ?_ (fun hHeld => ?_)
    · exact Ua1
    clear hK K
    try simp only [Act.put, List.setIfInBounds_toArray, List.set_cons_zero, List.set_cons_succ]
    have hSS := Ua1
    refine wpAnyH_take (i := 6) (v := ?_) rfl (by kernel_rfl) (by kernel_rfl) (by kernel_rfl) (fun _ _ _ h => h) (Or.inl ⟨by rfl, ?_⟩) (by assumption) ?_
    rotate_left
    · intro w9 hSw
      have c2 := HLK2.out w9 hSw
      go_simp
      try with_reducible rfl
    simp only [Act.put, List.setIfInBounds_toArray, List.set_cons_zero, List.set_cons_succ, List.getElem_toArray, List.getElem_cons_zero, List.getElem_cons_succ]
    refine wpAnyH_take (i := 7) (v := ?_) rfl (by kernel_rfl) (by kernel_rfl) (by kernel_rfl) (fun _ _ _ h => h) (Or.inl ⟨by rfl, ?_⟩) (by assumption) ?_
    rotate_left
    · intro w9 hSw
      go_simp
      try with_reducible rfl
    simp only [Act.put, List.setIfInBounds_toArray, List.set_cons_zero, List.set_cons_succ, List.getElem_toArray, List.getElem_cons_zero, List.getElem_cons_succ]
    refine wpAnyH_done (by kernel_rfl) ?_ _
    have HU9 : Hid (Up W Wa1) := Ua1
    have HCC := HC.out Wa1 HU9.out
    clear HC HNM HLK2
    go_wp2_with fail
    refine Calls.mono HCC ?_
    intro r9 w8 h
    obtain ⟨ow8, h⟩ := h
    have HOw8 : Hid (Only b W w8) := (Only.up HU9.out).trans ow8
    clear ow8
    cases R with
    | bad er pp =>
      obtain rfl : r9 = pnc er pp := h
      unfold pnc at *
      go_wp2_with fail
      rw [HPo.out]
      exact ⟨rfl, HOw8.out, rfl⟩
    | ok y j =>
      obtain ⟨g, rfl, hy, p9⟩ := h
      have hy9 : PF w8 (Sn W.heap.size w8) y [ptr g] := PF.mono (fun z hz => ⟨Nat.le_trans HU9.out.size hz.1, hz.2⟩) y _ hy
      have HR9 : Hid _ := And.intro hy9 p9
      clear hy p9 hy9
      go_wp2_with fail
      rw [HPo.out]
      exact ⟨HOw8.out, g, rfl, HR9.out.1, HR9.out.2⟩
  have n_each : ¬ x = [101, 97, 99, 104] := hx
  clear hx
  by_cases hx : x = [99, 104, 111, 111, 115, 101]
  · have hk0 := nm_kind hnx (by rw [hx]; decide)
    have hfd : skey.find? (fun p => decide (p.1 = x)) = some ([99, 104, 111, 111, 115, 101], 99) := by
      rw [hx]
      rfl
    rw [hfd] at HLK
    rw [if_neg (fun h => n_let (w_let.1 h)), if_neg (fun h => n_if (w_if.1 h)), if_neg (fun h => n_repeat (w_repeat.1 h)), if_pos (.inr (w_choose.2 hx))] at hR
    have hcf := w_choose.2 hx
    simp only [hcf, true_and, if_true] at hR
    have HC : Hid (∀ W2, Up W W2 → Calls Tryz.prog 99 #[.pointer (some ⟨b, 0, none⟩)] W2 (QG b bt off n c ml ms d R W2)) := fun W2 hu => pchoose_ w0 W2 b bt off n c ml ms i d l HE.out (HW2.out W2 hu).1 hi (HW2.out W2 hu).2 hd N R HLA.out HXX.out hk0 HEX.out HBK.out hR
    clear hR hfd w_let w_if w_repeat w_each w_choose w_stop w_abort w_self w_me w_hit w_draw n_let n_if n_repeat n_each hk0 hnx HW2 HFF hcf
    have HLK2 : Hid (∀ W2, Up W W2 → (Instr.lookup 151 (.map (some ms)) (.string (strOfNums x)) false).run Tryz.prog W2 = .ok (.func (.func 99) #[.pointer (some ⟨b, 0, none⟩)] #[]) W2) := HLK
    clear HLK hx
    generalize strOfNums x = sn at *
    have fne9 := fp_ne
    have feq9 := fp_eq
    go_enter Tryz.func168, Tryz.ntmps168
    go_upto_region 1 with fail
    refine wp_region_held_drew (S := fun W9 => Up W W9) (by kernel_rfl) (Up.drew (Up.refl _)) (fun hHeld => ?_)
    have Ua0 : Up W W.drew := Up.drew (Up.refl _)
    refine wpAnyH_take (i := 0) (v := ?_) rfl (by kernel_rfl) (by kernel_rfl) (by kernel_rfl) (fun _ _ _ h => h) (Or.inl ⟨by rfl, ?_⟩) (by assumption) ?_
    rotate_left
    · intro w9 hSw
      go_simp
      try with_reducible rfl
    simp only [Act.put, List.setIfInBounds_toArray, List.set_cons_zero, List.set_cons_succ, List.getElem_toArray, List.getElem_cons_zero]
    refine wpAnyH_take (i := 1) (v := ?_) rfl (by kernel_rfl) (by kernel_rfl) (by kernel_rfl) (fun _ _ _ h => h) (Or.inl ⟨by rfl, ?_⟩) (by assumption) ?_
    rotate_left
    · intro w9 hSw
      go_simp
      try with_reducible rfl
    simp only [Act.put, List.setIfInBounds_toArray, List.set_cons_zero, List.set_cons_succ, List.getElem_toArray, List.getElem_cons_zero, List.getElem_cons_succ]
    refine wpAnyH_take (i := 2) (v := ?_) rfl (by kernel_rfl) (by kernel_rfl) (by kernel_rfl) (fun _ _ _ h => h) (Or.inl ⟨by rfl, ?_⟩) (by assumption) ?_
    rotate_left
    · intro w9 hSw
      go_simp
      try with_reducible rfl
    simp only [Act.put, List.setIfInBounds_toArray, List.set_cons_zero, List.set_cons_succ, List.getElem_toArray, List.getElem_cons_zero, List.getElem_cons_succ]
    refine wpAnyH_take (i := 3) (v := ?_) rfl (by kernel_rfl) (by kernel_rfl) (by kernel_rfl) (fun _ _ _ h => h) (Or.inl ⟨by rfl, ?_⟩) (by assumption) ?_
    rotate_left
    · intro w9 hSw
      have c2 := hSw.cell a4
      go_simp
      try with_reducible rfl
    simp only [Act.put, List.setIfInBounds_toArray, List.set_cons_zero, List.set_cons_succ, List.getElem_toArray, List.getElem_cons_zero, List.getElem_cons_succ]
    refine wpAnyH_take (i := 4) (v := ?_) rfl (by kernel_rfl) (by kernel_rfl) (by kernel_rfl) (fun _ _ _ h => h) (Or.inl ⟨by rfl, ?_⟩) (by assumption) ?_
    rotate_left
    · intro w9 hSw
      go_simp
      try with_reducible rfl
    simp only [Act.put, List.setIfInBounds_toArray, List.set_cons_zero, List.set_cons_succ, List.getElem_toArray, List.getElem_cons_zero, List.getElem_cons_succ]
    refine wpAnyH_ready (rs := [5]) (by kernel_rfl) (by simp) ?_
    refine AllReadyH.cons rfl (fun K hK => ?_) AllReadyH.nil
    simp only [List.getElem_toArray, List.getElem_cons_zero, List.getElem_cons_succ]
    go_simp
    refine Calls.mono (HNM.out _ Ua0) ?_
    rintro r9 Wa1 ⟨rfl, ua1⟩
    go_simp
    have Ua1 := Ua0.trans ua1
    refine hK.out _ _ ?_ (fun hHeld => ?_)
    · exact Ua1
    clear hK K
    try simp only [Act.put, List.setIfInBounds_toArray, List.set_cons_zero, List.set_cons_succ]
    have hSS := Ua1
    refine wpAnyH_take (i := 6) (v := ?_) rfl (by kernel_rfl) (by kernel_rfl) (by kernel_rfl) (fun _ _ _ h => h) (Or.inl ⟨by rfl, ?_⟩) (by assumption) ?_
    rotate_left
    · intro w9 hSw
      have c2 := HLK2.out w9 hSw
      go_simp
      try with_reducible rfl
    simp only [Act.put, List.setIfInBounds_toArray, List.set_cons_zero, List.set_cons_succ, List.getElem_toArray, List.getElem_cons_zero, List.getElem_cons_succ]
    refine wpAnyH_take (i := 7) (v := ?_) rfl (by kernel_rfl) (by kernel_rfl) (by kernel_rfl) (fun _ _ _ h => h) (Or.inl ⟨by rfl, ?_⟩) (by assumption) ?_
    rotate_left
    · intro w9 hSw
      go_simp
      try with_reducible rfl
    simp only [Act.put, List.setIfInBounds_toArray, List.set_cons_zero, List.set_cons_succ, List.getElem_toArray, List.getElem_cons_zero, List.getElem_cons_succ]
    refine wpAnyH_done (by kernel_rfl) ?_ _
    have HU9 : Hid (Up W Wa1) := Ua1
    have HCC := HC.out Wa1 HU9.out
    clear HC HNM HLK2
    go_wp2_with fail
    refine Calls.mono HCC ?_
    intro r9 w8 h
    obtain ⟨ow8, h⟩ := h
    have HOw8 : Hid (Only b W w8) := (Only.up HU9.out).trans ow8
    clear ow8
    cases R with
    | bad er pp =>
      obtain rfl : r9 = pnc er pp := h
      unfold pnc at *
      go_wp2_with fail
      rw [HPo.out]
      exact ⟨rfl, HOw8.out, rfl⟩
    | ok y j =>
      obtain ⟨g, rfl, hy, p9⟩ := h
      have hy9 : PF w8 (Sn W.heap.size w8) y [ptr g] := PF.mono (fun z hz => ⟨Nat.le_trans HU9.out.size hz.1, hz.2⟩) y _ hy
      have HR9 : Hid _ := And.intro hy9 p9
      clear hy p9 hy9
      go_wp2_with fail
      rw [HPo.out]
      exact ⟨HOw8.out, g, rfl, HR9.out.1, HR9.out.2⟩
  have n_choose : ¬ x = [99, 104, 111, 111, 115, 101] := hx
  clear hx
  by_cases hx : x = [115, 116, 111, 112]
  · have hk0 := nm_kind hnx (by rw [hx]; decide)
    have hfd : skey.find? (fun p => decide (p.1 = x)) = some ([115, 116, 111, 112], 100) := by
      rw [hx]
      rfl
    rw [hfd] at HLK
    rw [if_neg (fun h => n_let (w_let.1 h)), if_neg (fun h => n_if (w_if.1 h)), if_neg (fun h => n_repeat (w_repeat.1 h)), if_neg (fun h => h.elim (fun h => n_each (w_each.1 h)) (fun h => n_choose (w_choose.1 h))), if_pos (.inl (w_stop.2 hx))] at hR
    have hcf := w_stop.2 hx
    simp only [hcf, if_true] at hR
    have HC : Hid (∀ W2, Up W W2 → Calls Tryz.prog 100 #[.pointer (some ⟨b, 0, none⟩)] W2 (QG b bt off n c ml ms d R W2)) := fun W2 hu => pstop_ w0 W2 b bt off n c ml ms i d l HE.out (HW2.out W2 hu).1 hi (HW2.out W2 hu).2 R HLA.out HXX.out hk0 hR
    clear hR hfd w_let w_if w_repeat w_each w_choose w_stop w_abort w_self w_me w_hit w_draw n_let n_if n_repeat n_each n_choose hk0 hnx HW2 HFF hcf
    have HLK2 : Hid (∀ W2, Up W W2 → (Instr.lookup 151 (.map (some ms)) (.string (strOfNums x)) false).run Tryz.prog W2 = .ok (.func (.func 100) #[.pointer (some ⟨b, 0, none⟩)] #[]) W2) := HLK
    clear HLK hx
    generalize strOfNums x = sn at *
    have fne9 := fp_ne
    have feq9 := fp_eq
    go_enter Tryz.func168, Tryz.ntmps168
    go_upto_region 1 with fail
    refine wp_region_held_drew (S := fun W9 => Up W W9) (by kernel_rfl) (Up.drew (Up.refl _)) (fun hHeld => ?_)
    have Ua0 : Up W W.drew := Up.drew (Up.refl _)
    refine wpAnyH_take (i := 0) (v := ?_) rfl (by kernel_rfl) (by kernel_rfl) (by kernel_rfl) (fun _ _ _ h => h) (Or.inl ⟨by rfl, ?_⟩) (by assumption) ?_
    rotate_left
    · intro w9 hSw
      go_simp
      try with_reducible rfl
    simp only [Act.put, List.setIfInBounds_toArray, List.set_cons_zero, List.set_cons_succ, List.getElem_toArray, List.getElem_cons_zero]
    refine wpAnyH_take (i := 1) (v := ?_) rfl (by kernel_rfl) (by kernel_rfl) (by kernel_rfl) (fun _ _ _ h => h) (Or.inl ⟨by rfl, ?_⟩) (by assumption) ?_
    rotate_left
    · intro w9 hSw
      go_simp
      try with_reducible rfl
    simp only [Act.put, List.setIfInBounds_toArray, List.set_cons_zero, List.set_cons_succ, List.getElem_toArray, List.getElem_cons_zero, List.getElem_cons_succ]
    refine wpAnyH_take (i := 2) (v := ?_) rfl (by kernel_rfl) (by kernel_rfl) (by kernel_rfl) (fun _ _ _ h => h) (Or.inl ⟨by rfl, ?_⟩) (by assumption) ?_
    rotate_left
    · intro w9 hSw
      go_simp
      try with_reducible rfl
    simp only [Act.put, List.setIfInBounds_toArray, List.set_cons_zero, List.set_cons_succ, List.getElem_toArray, List.getElem_cons_zero, List.getElem_cons_succ]
    refine wpAnyH_take (i := 3) (v := ?_) rfl (by kernel_rfl) (by kernel_rfl) (by kernel_rfl) (fun _ _ _ h => h) (Or.inl ⟨by rfl, ?_⟩) (by assumption) ?_
    rotate_left
    · intro w9 hSw
      have c2 := hSw.cell a4
      go_simp
      try with_reducible rfl
    simp only [Act.put, List.setIfInBounds_toArray, List.set_cons_zero, List.set_cons_succ, List.getElem_toArray, List.getElem_cons_zero, List.getElem_cons_succ]
    refine wpAnyH_take (i := 4) (v := ?_) rfl (by kernel_rfl) (by kernel_rfl) (by kernel_rfl) (fun _ _ _ h => h) (Or.inl ⟨by rfl, ?_⟩) (by assumption) ?_
    rotate_left
    · intro w9 hSw
      go_simp
      try with_reducible rfl
    simp only [Act.put, List.setIfInBounds_toArray, List.set_cons_zero, List.set_cons_succ, List.getElem_toArray, List.getElem_cons_zero, List.getElem_cons_succ]
    refine wpAnyH_ready (rs := [5]) (by kernel_rfl) (by simp) ?_
    refine AllReadyH.cons rfl (fun K hK => ?_) AllReadyH.nil
    simp only [List.getElem_toArray, List.getElem_cons_zero, List.getElem_cons_succ]
    go_simp
    refine Calls.mono (HNM.out _ Ua0) ?_
    rintro r9 Wa1 ⟨rfl, ua1⟩
    go_simp
    have Ua1 := Ua0.trans ua1
    refine hK.out _ _ ?_ (fun hHeld => ?_)
    · exact Ua1
    clear hK K
    try simp only [Act.put, List.setIfInBounds_toArray, List.set_cons_zero, List.set_cons_succ]
    have hSS := Ua1
    refine wpAnyH_take (i := 6) (v := ?_) rfl (by kernel_rfl) (by kernel_rfl) (by kernel_rfl) (fun _ _ _ h => h) (Or.inl ⟨by rfl, ?_⟩) (by assumption) ?_
    rotate_left
    · intro w9 hSw
      have c2 := HLK2.out w9 hSw
      go_simp
      try with_reducible rfl
    simp only [Act.put, List.setIfInBounds_toArray, List.set_cons_zero, List.set_cons_succ, List.getElem_toArray, List.getElem_cons_zero, List.getElem_cons_succ]
    refine wpAnyH_take (i := 7) (v := ?_) rfl (by kernel_rfl) (by kernel_rfl) (by kernel_rfl) (fun _ _ _ h => h) (Or.inl ⟨by rfl, ?_⟩) (by assumption) ?_
    rotate_left
    · intro w9 hSw
      go_simp
      try with_reducible rfl
    simp only [Act.put, List.setIfInBounds_toArray, List.set_cons_zero, List.set_cons_succ, List.getElem_toArray, List.getElem_cons_zero, List.getElem_cons_succ]
    refine wpAnyH_done (by kernel_rfl) ?_ _
    have HU9 : Hid (Up W Wa1) := Ua1
    have HCC := HC.out Wa1 HU9.out
    clear HC HNM HLK2
    go_wp2_with fail
    refine Calls.mono HCC ?_
    intro r9 w8 h
    obtain ⟨ow8, h⟩ := h
    have HOw8 : Hid (Only b W w8) := (Only.up HU9.out).trans ow8
    clear ow8
    cases R with
    | bad er pp =>
      obtain rfl : r9 = pnc er pp := h
      unfold pnc at *
      go_wp2_with fail
      rw [HPo.out]
      exact ⟨rfl, HOw8.out, rfl⟩
    | ok y j =>
      obtain ⟨g, rfl, hy, p9⟩ := h
      have hy9 : PF w8 (Sn W.heap.size w8) y [ptr g] := PF.mono (fun z hz => ⟨Nat.le_trans HU9.out.size hz.1, hz.2⟩) y _ hy
      have HR9 : Hid _ := And.intro hy9 p9
      clear hy p9 hy9
      go_wp2_with fail
      rw [HPo.out]
      exact ⟨HOw8.out, g, rfl, HR9.out.1, HR9.out.2⟩
  have n_stop : ¬ x = [115, 116, 111, 112] := hx
  clear hx
  by_cases hx : x = [97, 98, 111, 114, 116]
  · have hk0 := nm_kind hnx (by rw [hx]; decide)
    have hfd : skey.find? (fun p => decide (p.1 = x)) = some ([97, 98, 111, 114, 116], 101) := by
      rw [hx]
      rfl
    rw [hfd] at HLK
    rw [if_neg (fun h => n_let (w_let.1 h)), if_neg (fun h => n_if (w_if.1 h)), if_neg (fun h => n_repeat (w_repeat.1 h)), if_neg (fun h => h.elim (fun h => n_each (w_each.1 h)) (fun h => n_choose (w_choose.1 h))), if_pos (.inr (w_abort.2 hx))] at hR
    have hcf : wd (tk l i) [115, 116, 111, 112] = false := by
      cases h9 : wd (tk l i) [115, 116, 111, 112] with
      | false => rfl
      | true => exact absurd ((w_stop.1 h9).symm.trans hx) (by decide)
    simp only [hcf, Bool.false_eq_true, if_false] at hR
    have HC : Hid (∀ W2, Up W W2 → Calls Tryz.prog 101 #[.pointer (some ⟨b, 0, none⟩)] W2 (QG b bt off n c ml ms d R W2)) := fun W2 hu => pabort_ w0 W2 b bt off n c ml ms i d l HE.out (HW2.out W2 hu).1 hi (HW2.out W2 hu).2 R HLA.out HXX.out hk0 hR
    clear hR hfd w_let w_if w_repeat w_each w_choose w_stop w_abort w_self w_me w_hit w_draw n_let n_if n_repeat n_each n_choose n_stop hk0 hnx HW2 HFF hcf
    have HLK2 : Hid (∀ W2, Up W W2 → (Instr.lookup 151 (.map (some ms)) (.string (strOfNums x)) false).run Tryz.prog W2 = .ok (.func (.func 101) #[.pointer (some ⟨b, 0, none⟩)] #[]) W2) := HLK
    clear HLK hx
    generalize strOfNums x = sn at *
    have fne9 := fp_ne
    have feq9 := fp_eq
    go_enter Tryz.func168, Tryz.ntmps168
    go_upto_region 1 with fail
    refine wp_region_held_drew (S := fun W9 => Up W W9) (by kernel_rfl) (Up.drew (Up.refl _)) (fun hHeld => ?_)
    have Ua0 : Up W W.drew := Up.drew (Up.refl _)
    refine wpAnyH_take (i := 0) (v := ?_) rfl (by kernel_rfl) (by kernel_rfl) (by kernel_rfl) (fun _ _ _ h => h) (Or.inl ⟨by rfl, ?_⟩) (by assumption) ?_
    rotate_left
    · intro w9 hSw
      go_simp
      try with_reducible rfl
    simp only [Act.put, List.setIfInBounds_toArray, List.set_cons_zero, List.set_cons_succ, List.getElem_toArray, List.getElem_cons_zero]
    refine wpAnyH_take (i := 1) (v := ?_) rfl (by kernel_rfl) (by kernel_rfl) (by kernel_rfl) (fun _ _ _ h => h) (Or.inl ⟨by rfl, ?_⟩) (by assumption) ?_
    rotate_left
    · intro w9 hSw
      go_simp
      try with_reducible rfl
    simp only [Act.put, List.setIfInBounds_toArray, List.set_cons_zero, List.set_cons_succ, List.getElem_toArray, List.getElem_cons_zero, List.getElem_cons_succ]
    refine wpAnyH_take (i := 2) (v := ?_) rfl (by kernel_rfl) (by kernel_rfl) (by kernel_rfl) (fun _ _ _ h => h) (Or.inl ⟨by rfl, ?_⟩) (by assumption) ?_
    rotate_left
    · intro w9 hSw
      go_simp
      try with_reducible rfl
    simp only [Act.put, List.setIfInBounds_toArray, List.set_cons_zero, List.set_cons_succ, List.getElem_toArray, List.getElem_cons_zero, List.getElem_cons_succ]
    refine wpAnyH_take (i := 3) (v := ?_) rfl (by kernel_rfl) (by kernel_rfl) (by kernel_rfl) (fun _ _ _ h => h) (Or.inl ⟨by rfl, ?_⟩) (by assumption) ?_
    rotate_left
    · intro w9 hSw
      have c2 := hSw.cell a4
      go_simp
      try with_reducible rfl
    simp only [Act.put, List.setIfInBounds_toArray, List.set_cons_zero, List.set_cons_succ, List.getElem_toArray, List.getElem_cons_zero, List.getElem_cons_succ]
    refine wpAnyH_take (i := 4) (v := ?_) rfl (by kernel_rfl) (by kernel_rfl) (by kernel_rfl) (fun _ _ _ h => h) (Or.inl ⟨by rfl, ?_⟩) (by assumption) ?_
    rotate_left
    · intro w9 hSw
      go_simp
      try with_reducible rfl
    simp only [Act.put, List.setIfInBounds_toArray, List.set_cons_zero, List.set_cons_succ, List.getElem_toArray, List.getElem_cons_zero, List.getElem_cons_succ]
    refine wpAnyH_ready (rs := [5]) (by kernel_rfl) (by simp) ?_
    refine AllReadyH.cons rfl (fun K hK => ?_) AllReadyH.nil
    simp only [List.getElem_toArray, List.getElem_cons_zero, List.getElem_cons_succ]
    go_simp
    refine Calls.mono (HNM.out _ Ua0) ?_
    rintro r9 Wa1 ⟨rfl, ua1⟩
    go_simp
    have Ua1 := Ua0.trans ua1
    refine hK.out _ _ ?_ (fun hHeld => ?_)
    · exact Ua1
    clear hK K
    try simp only [Act.put, List.setIfInBounds_toArray, List.set_cons_zero, List.set_cons_succ]
    have hSS := Ua1
    refine wpAnyH_take (i := 6) (v := ?_) rfl (by kernel_rfl) (by kernel_rfl) (by kernel_rfl) (fun _ _ _ h => h) (Or.inl ⟨by rfl, ?_⟩) (by assumption) ?_
    rotate_left
    · intro w9 hSw
      have c2 := HLK2.out w9 hSw
      go_simp
      try with_reducible rfl
    simp only [Act.put, List.setIfInBounds_toArray, List.set_cons_zero, List.set_cons_succ, List.getElem_toArray, List.getElem_cons_zero, List.getElem_cons_succ]
    refine wpAnyH_take (i := 7) (v := ?_) rfl (by kernel_rfl) (by kernel_rfl) (by kernel_rfl) (fun _ _ _ h => h) (Or.inl ⟨by rfl, ?_⟩) (by assumption) ?_
    rotate_left
    · intro w9 hSw
      go_simp
      try with_reducible rfl
    simp only [Act.put, List.setIfInBounds_toArray, List.set_cons_zero, List.set_cons_succ, List.getElem_toArray, List.getElem_cons_zero, List.getElem_cons_succ]
    refine wpAnyH_done (by kernel_rfl) ?_ _
    have HU9 : Hid (Up W Wa1) := Ua1
    have HCC := HC.out Wa1 HU9.out
    clear HC HNM HLK2
    go_wp2_with fail
    refine Calls.mono HCC ?_
    intro r9 w8 h
    obtain ⟨ow8, h⟩ := h
    have HOw8 : Hid (Only b W w8) := (Only.up HU9.out).trans ow8
    clear ow8
    cases R with
    | bad er pp =>
      obtain rfl : r9 = pnc er pp := h
      unfold pnc at *
      go_wp2_with fail
      rw [HPo.out]
      exact ⟨rfl, HOw8.out, rfl⟩
    | ok y j =>
      obtain ⟨g, rfl, hy, p9⟩ := h
      have hy9 : PF w8 (Sn W.heap.size w8) y [ptr g] := PF.mono (fun z hz => ⟨Nat.le_trans HU9.out.size hz.1, hz.2⟩) y _ hy
      have HR9 : Hid _ := And.intro hy9 p9
      clear hy p9 hy9
      go_wp2_with fail
      rw [HPo.out]
      exact ⟨HOw8.out, g, rfl, HR9.out.1, HR9.out.2⟩
  have n_abort : ¬ x = [97, 98, 111, 114, 116] := hx
  clear hx
  by_cases hx : x = [115, 101, 108, 102]
  · have hk0 := nm_kind hnx (by rw [hx]; decide)
    have hfd : skey.find? (fun p => decide (p.1 = x)) = some ([115, 101, 108, 102], 102) := by
      rw [hx]
      rfl
    rw [hfd] at HLK
    rw [if_neg (fun h => n_let (w_let.1 h)), if_neg (fun h => n_if (w_if.1 h)), if_neg (fun h => n_repeat (w_repeat.1 h)), if_neg (fun h => h.elim (fun h => n_each (w_each.1 h)) (fun h => n_choose (w_choose.1 h))), if_neg (fun h => h.elim (fun h => n_stop (w_stop.1 h)) (fun h => n_abort (w_abort.1 h)))] at hR
    have hw9 : wd (tk l i) TR.wself = true := w_self.2 hx
    have hf9 : frt (tk l i) = false := frt_nm (by rw [hnx, hx]; decide)
    have hh9 : (wd (tk l i) TR.whit || wd (tk l i) TR.wdraw) = false := by
      rw [Bool.or_eq_false_iff]
      refine ⟨Bool.eq_false_iff.2 (fun h => ?_), Bool.eq_false_iff.2 (fun h => ?_)⟩
      · exact absurd ((w_hit.1 h).symm.trans hx) (by decide)
      · exact absurd ((w_draw.1 h).symm.trans hx) (by decide)
    have hs9 : (wd (tk l i) TR.wself || wd (tk l i) TR.wme) = true := by rw [hw9]; simp
    have hR2 : (if mk (tk l (i + 1)) [61] = true then bd (P l N (.row 1) (i + 2) d) (fun x j => if mk (tk l j) [59] = true then okr (nod 12 0 (tk l i).text (tk l i).pos x) (j + 1) else bad (tk l j)) else bad (tk l (i + 1))) = some R := by
      rcases stmt_bad hR with ⟨h1, -⟩ | ⟨-, h2, h3⟩ | ⟨-, h1, -, -⟩ | ⟨-, h1, -, h3⟩
      · rw [hs9] at h1; simp at h1
      · rw [if_pos h2]; exact h3
      · rw [hf9, hh9] at h1; cases h1
      · rw [if_neg (fun h => h1 ⟨by rw [hs9]; simp, h⟩)]; exact h3
    have hfr : (frt (tk l i) || sqs.contains (nm (tk l i))) = true := by rw [hnx, hx]; simp [sqs]
    have HC : Hid (∀ W2, Up W W2 → Calls Tryz.prog 102 #[.pointer (some ⟨b, 0, none⟩)] W2 (QG b bt off n c ml ms d R W2)) := fun W2 hu => pset_ w0 W2 b bt off n c ml ms i d l HE.out (HW2.out W2 hu).1 hi (HW2.out W2 hu).2 hd N R HLA.out HXX.out hk0 hfr HEX.out hR2
    clear hR hR2 hfd w_let w_if w_repeat w_each w_choose w_stop w_abort w_self w_me w_hit w_draw n_let n_if n_repeat n_each n_choose n_stop n_abort hk0 hnx HW2 HFF hw9 hf9 hh9 hs9 hfr
    have HLK2 : Hid (∀ W2, Up W W2 → (Instr.lookup 151 (.map (some ms)) (.string (strOfNums x)) false).run Tryz.prog W2 = .ok (.func (.func 102) #[.pointer (some ⟨b, 0, none⟩)] #[]) W2) := HLK
    clear HLK hx
    generalize strOfNums x = sn at *
    have fne9 := fp_ne
    have feq9 := fp_eq
    go_enter Tryz.func168, Tryz.ntmps168
    go_upto_region 1 with fail
    refine wp_region_held_drew (S := fun W9 => Up W W9) (by kernel_rfl) (Up.drew (Up.refl _)) (fun hHeld => ?_)
    have Ua0 : Up W W.drew := Up.drew (Up.refl _)
    refine wpAnyH_take (i := 0) (v := ?_) rfl (by kernel_rfl) (by kernel_rfl) (by kernel_rfl) (fun _ _ _ h => h) (Or.inl ⟨by rfl, ?_⟩) (by assumption) ?_
    rotate_left
    · intro w9 hSw
      go_simp
      try with_reducible rfl
    simp only [Act.put, List.setIfInBounds_toArray, List.set_cons_zero, List.set_cons_succ, List.getElem_toArray, List.getElem_cons_zero]
    refine wpAnyH_take (i := 1) (v := ?_) rfl (by kernel_rfl) (by kernel_rfl) (by kernel_rfl) (fun _ _ _ h => h) (Or.inl ⟨by rfl, ?_⟩) (by assumption) ?_
    rotate_left
    · intro w9 hSw
      go_simp
      try with_reducible rfl
    simp only [Act.put, List.setIfInBounds_toArray, List.set_cons_zero, List.set_cons_succ, List.getElem_toArray, List.getElem_cons_zero, List.getElem_cons_succ]
    refine wpAnyH_take (i := 2) (v := ?_) rfl (by kernel_rfl) (by kernel_rfl) (by kernel_rfl) (fun _ _ _ h => h) (Or.inl ⟨by rfl, ?_⟩) (by assumption) ?_
    rotate_left
    · intro w9 hSw
      go_simp
      try with_reducible rfl
    simp only [Act.put, List.setIfInBounds_toArray, List.set_cons_zero, List.set_cons_succ, List.getElem_toArray, List.getElem_cons_zero, List.getElem_cons_succ]
    refine wpAnyH_take (i := 3) (v := ?_) rfl (by kernel_rfl) (by kernel_rfl) (by kernel_rfl) (fun _ _ _ h => h) (Or.inl ⟨by rfl, ?_⟩) (by assumption) ?_
    rotate_left
    · intro w9 hSw
      have c2 := hSw.cell a4
      go_simp
      try with_reducible rfl
    simp only [Act.put, List.setIfInBounds_toArray, List.set_cons_zero, List.set_cons_succ, List.getElem_toArray, List.getElem_cons_zero, List.getElem_cons_succ]
    refine wpAnyH_take (i := 4) (v := ?_) rfl (by kernel_rfl) (by kernel_rfl) (by kernel_rfl) (fun _ _ _ h => h) (Or.inl ⟨by rfl, ?_⟩) (by assumption) ?_
    rotate_left
    · intro w9 hSw
      go_simp
      try with_reducible rfl
    simp only [Act.put, List.setIfInBounds_toArray, List.set_cons_zero, List.set_cons_succ, List.getElem_toArray, List.getElem_cons_zero, List.getElem_cons_succ]
    refine wpAnyH_ready (rs := [5]) (by kernel_rfl) (by simp) ?_
    refine AllReadyH.cons rfl (fun K hK => ?_) AllReadyH.nil
    simp only [List.getElem_toArray, List.getElem_cons_zero, List.getElem_cons_succ]
    go_simp
    refine Calls.mono (HNM.out _ Ua0) ?_
    rintro r9 Wa1 ⟨rfl, ua1⟩
    go_simp
    have Ua1 := Ua0.trans ua1
    refine hK.out _ _ ?_ (fun hHeld => ?_)
    · exact Ua1
    clear hK K
    try simp only [Act.put, List.setIfInBounds_toArray, List.set_cons_zero, List.set_cons_succ]
    have hSS := Ua1
    refine wpAnyH_take (i := 6) (v := ?_) rfl (by kernel_rfl) (by kernel_rfl) (by kernel_rfl) (fun _ _ _ h => h) (Or.inl ⟨by rfl, ?_⟩) (by assumption) ?_
    rotate_left
    · intro w9 hSw
      have c2 := HLK2.out w9 hSw
      go_simp
      try with_reducible rfl
    simp only [Act.put, List.setIfInBounds_toArray, List.set_cons_zero, List.set_cons_succ, List.getElem_toArray, List.getElem_cons_zero, List.getElem_cons_succ]
    refine wpAnyH_take (i := 7) (v := ?_) rfl (by kernel_rfl) (by kernel_rfl) (by kernel_rfl) (fun _ _ _ h => h) (Or.inl ⟨by rfl, ?_⟩) (by assumption) ?_
    rotate_left
    · intro w9 hSw
      go_simp
      try with_reducible rfl
    simp only [Act.put, List.setIfInBounds_toArray, List.set_cons_zero, List.set_cons_succ, List.getElem_toArray, List.getElem_cons_zero, List.getElem_cons_succ]
    refine wpAnyH_done (by kernel_rfl) ?_ _
    have HU9 : Hid (Up W Wa1) := Ua1
    have HCC := HC.out Wa1 HU9.out
    clear HC HNM HLK2
    go_wp2_with fail
    refine Calls.mono HCC ?_
    intro r9 w8 h
    obtain ⟨ow8, h⟩ := h
    have HOw8 : Hid (Only b W w8) := (Only.up HU9.out).trans ow8
    clear ow8
    cases R with
    | bad er pp =>
      obtain rfl : r9 = pnc er pp := h
      unfold pnc at *
      go_wp2_with fail
      rw [HPo.out]
      exact ⟨rfl, HOw8.out, rfl⟩
    | ok y j =>
      obtain ⟨g, rfl, hy, p9⟩ := h
      have hy9 : PF w8 (Sn W.heap.size w8) y [ptr g] := PF.mono (fun z hz => ⟨Nat.le_trans HU9.out.size hz.1, hz.2⟩) y _ hy
      have HR9 : Hid _ := And.intro hy9 p9
      clear hy p9 hy9
      go_wp2_with fail
      rw [HPo.out]
      exact ⟨HOw8.out, g, rfl, HR9.out.1, HR9.out.2⟩
  have n_self : ¬ x = [115, 101, 108, 102] := hx
  clear hx
  by_cases hx : x = [109, 101]
  · have hk0 := nm_kind hnx (by rw [hx]; decide)
    have hfd : skey.find? (fun p => decide (p.1 = x)) = some ([109, 101], 102) := by
      rw [hx]
      rfl
    rw [hfd] at HLK
    rw [if_neg (fun h => n_let (w_let.1 h)), if_neg (fun h => n_if (w_if.1 h)), if_neg (fun h => n_repeat (w_repeat.1 h)), if_neg (fun h => h.elim (fun h => n_each (w_each.1 h)) (fun h => n_choose (w_choose.1 h))), if_neg (fun h => h.elim (fun h => n_stop (w_stop.1 h)) (fun h => n_abort (w_abort.1 h)))] at hR
    have hw9 : wd (tk l i) TR.wme = true := w_me.2 hx
    have hf9 : frt (tk l i) = false := frt_nm (by rw [hnx, hx]; decide)
    have hh9 : (wd (tk l i) TR.whit || wd (tk l i) TR.wdraw) = false := by
      rw [Bool.or_eq_false_iff]
      refine ⟨Bool.eq_false_iff.2 (fun h => ?_), Bool.eq_false_iff.2 (fun h => ?_)⟩
      · exact absurd ((w_hit.1 h).symm.trans hx) (by decide)
      · exact absurd ((w_draw.1 h).symm.trans hx) (by decide)
    have hs9 : (wd (tk l i) TR.wself || wd (tk l i) TR.wme) = true := by rw [hw9]; simp
    have hR2 : (if mk (tk l (i + 1)) [61] = true then bd (P l N (.row 1) (i + 2) d) (fun x j => if mk (tk l j) [59] = true then okr (nod 12 0 (tk l i).text (tk l i).pos x) (j + 1) else bad (tk l j)) else bad (tk l (i + 1))) = some R := by
      rcases stmt_bad hR with ⟨h1, -⟩ | ⟨-, h2, h3⟩ | ⟨-, h1, -, -⟩ | ⟨-, h1, -, h3⟩
      · rw [hs9] at h1; simp at h1
      · rw [if_pos h2]; exact h3
      · rw [hf9, hh9] at h1; cases h1
      · rw [if_neg (fun h => h1 ⟨by rw [hs9]; simp, h⟩)]; exact h3
    have hfr : (frt (tk l i) || sqs.contains (nm (tk l i))) = true := by rw [hnx, hx]; simp [sqs]
    have HC : Hid (∀ W2, Up W W2 → Calls Tryz.prog 102 #[.pointer (some ⟨b, 0, none⟩)] W2 (QG b bt off n c ml ms d R W2)) := fun W2 hu => pset_ w0 W2 b bt off n c ml ms i d l HE.out (HW2.out W2 hu).1 hi (HW2.out W2 hu).2 hd N R HLA.out HXX.out hk0 hfr HEX.out hR2
    clear hR hR2 hfd w_let w_if w_repeat w_each w_choose w_stop w_abort w_self w_me w_hit w_draw n_let n_if n_repeat n_each n_choose n_stop n_abort n_self hk0 hnx HW2 HFF hw9 hf9 hh9 hs9 hfr
    have HLK2 : Hid (∀ W2, Up W W2 → (Instr.lookup 151 (.map (some ms)) (.string (strOfNums x)) false).run Tryz.prog W2 = .ok (.func (.func 102) #[.pointer (some ⟨b, 0, none⟩)] #[]) W2) := HLK
    clear HLK hx
    generalize strOfNums x = sn at *
    have fne9 := fp_ne
    have feq9 := fp_eq
    go_enter Tryz.func168, Tryz.ntmps168
    go_upto_region 1 with fail
    refine wp_region_held_drew (S := fun W9 => Up W W9) (by kernel_rfl) (Up.drew (Up.refl _)) (fun hHeld => ?_)
    have Ua0 : Up W W.drew := Up.drew (Up.refl _)
    refine wpAnyH_take (i := 0) (v := ?_) rfl (by kernel_rfl) (by kernel_rfl) (by kernel_rfl) (fun _ _ _ h => h) (Or.inl ⟨by rfl, ?_⟩) (by assumption) ?_
    rotate_left
    · intro w9 hSw
      go_simp
      try with_reducible rfl
    simp only [Act.put, List.setIfInBounds_toArray, List.set_cons_zero, List.set_cons_succ, List.getElem_toArray, List.getElem_cons_zero]
    refine wpAnyH_take (i := 1) (v := ?_) rfl (by kernel_rfl) (by kernel_rfl) (by kernel_rfl) (fun _ _ _ h => h) (Or.inl ⟨by rfl, ?_⟩) (by assumption) ?_
    rotate_left
    · intro w9 hSw
      go_simp
      try with_reducible rfl
    simp only [Act.put, List.setIfInBounds_toArray, List.set_cons_zero, List.set_cons_succ, List.getElem_toArray, List.getElem_cons_zero, List.getElem_cons_succ]
    refine wpAnyH_take (i := 2) (v := ?_) rfl (by kernel_rfl) (by kernel_rfl) (by kernel_rfl) (fun _ _ _ h => h) (Or.inl ⟨by rfl, ?_⟩) (by assumption) ?_
    rotate_left
    · intro w9 hSw
      go_simp
      try with_reducible rfl
    simp only [Act.put, List.setIfInBounds_toArray, List.set_cons_zero, List.set_cons_succ, List.getElem_toArray, List.getElem_cons_zero, List.getElem_cons_succ]
    refine wpAnyH_take (i := 3) (v := ?_) rfl (by kernel_rfl) (by kernel_rfl) (by kernel_rfl) (fun _ _ _ h => h) (Or.inl ⟨by rfl, ?_⟩) (by assumption) ?_
    rotate_left
    · intro w9 hSw
      have c2 := hSw.cell a4
      go_simp
      try with_reducible rfl
    simp only [Act.put, List.setIfInBounds_toArray, List.set_cons_zero, List.set_cons_succ, List.getElem_toArray, List.getElem_cons_zero, List.getElem_cons_succ]
    refine wpAnyH_take (i := 4) (v := ?_) rfl (by kernel_rfl) (by kernel_rfl) (by kernel_rfl) (fun _ _ _ h => h) (Or.inl ⟨by rfl, ?_⟩) (by assumption) ?_
    rotate_left
    · intro w9 hSw
      go_simp
      try with_reducible rfl
    simp only [Act.put, List.setIfInBounds_toArray, List.set_cons_zero, List.set_cons_succ, List.getElem_toArray, List.getElem_cons_zero, List.getElem_cons_succ]
    refine wpAnyH_ready (rs := [5]) (by kernel_rfl) (by simp) ?_
    refine AllReadyH.cons rfl (fun K hK => ?_) AllReadyH.nil
    simp only [List.getElem_toArray, List.getElem_cons_zero, List.getElem_cons_succ]
    go_simp
    refine Calls.mono (HNM.out _ Ua0) ?_
    rintro r9 Wa1 ⟨rfl, ua1⟩
    go_simp
    have Ua1 := Ua0.trans ua1
    refine hK.out _ _ ?_ (fun hHeld => ?_)
    · exact Ua1
    clear hK K
    try simp only [Act.put, List.setIfInBounds_toArray, List.set_cons_zero, List.set_cons_succ]
    have hSS := Ua1
    refine wpAnyH_take (i := 6) (v := ?_) rfl (by kernel_rfl) (by kernel_rfl) (by kernel_rfl) (fun _ _ _ h => h) (Or.inl ⟨by rfl, ?_⟩) (by assumption) ?_
    rotate_left
    · intro w9 hSw
      have c2 := HLK2.out w9 hSw
      go_simp
      try with_reducible rfl
    simp only [Act.put, List.setIfInBounds_toArray, List.set_cons_zero, List.set_cons_succ, List.getElem_toArray, List.getElem_cons_zero, List.getElem_cons_succ]
    refine wpAnyH_take (i := 7) (v := ?_) rfl (by kernel_rfl) (by kernel_rfl) (by kernel_rfl) (fun _ _ _ h => h) (Or.inl ⟨by rfl, ?_⟩) (by assumption) ?_
    rotate_left
    · intro w9 hSw
      go_simp
      try with_reducible rfl
    simp only [Act.put, List.setIfInBounds_toArray, List.set_cons_zero, List.set_cons_succ, List.getElem_toArray, List.getElem_cons_zero, List.getElem_cons_succ]
    refine wpAnyH_done (by kernel_rfl) ?_ _
    have HU9 : Hid (Up W Wa1) := Ua1
    have HCC := HC.out Wa1 HU9.out
    clear HC HNM HLK2
    go_wp2_with fail
    refine Calls.mono HCC ?_
    intro r9 w8 h
    obtain ⟨ow8, h⟩ := h
    have HOw8 : Hid (Only b W w8) := (Only.up HU9.out).trans ow8
    clear ow8
    cases R with
    | bad er pp =>
      obtain rfl : r9 = pnc er pp := h
      unfold pnc at *
      go_wp2_with fail
      rw [HPo.out]
      exact ⟨rfl, HOw8.out, rfl⟩
    | ok y j =>
      obtain ⟨g, rfl, hy, p9⟩ := h
      have hy9 : PF w8 (Sn W.heap.size w8) y [ptr g] := PF.mono (fun z hz => ⟨Nat.le_trans HU9.out.size hz.1, hz.2⟩) y _ hy
      have HR9 : Hid _ := And.intro hy9 p9
      clear hy p9 hy9
      go_wp2_with fail
      rw [HPo.out]
      exact ⟨HOw8.out, g, rfl, HR9.out.1, HR9.out.2⟩
  have n_me : ¬ x = [109, 101] := hx
  clear hx
  by_cases hx : x = [104, 105, 116]
  · have hk0 := nm_kind hnx (by rw [hx]; decide)
    have hfd : skey.find? (fun p => decide (p.1 = x)) = some ([104, 105, 116], 103) := by
      rw [hx]
      rfl
    rw [hfd] at HLK
    rw [if_neg (fun h => n_let (w_let.1 h)), if_neg (fun h => n_if (w_if.1 h)), if_neg (fun h => n_repeat (w_repeat.1 h)), if_neg (fun h => h.elim (fun h => n_each (w_each.1 h)) (fun h => n_choose (w_choose.1 h))), if_neg (fun h => h.elim (fun h => n_stop (w_stop.1 h)) (fun h => n_abort (w_abort.1 h)))] at hR
    have hw9 : wd (tk l i) TR.whit = true := w_hit.2 hx
    have hf9 : frt (tk l i) = false := frt_nm (by rw [hnx, hx]; decide)
    have hh9 : (wd (tk l i) TR.wself || wd (tk l i) TR.wme) = false := by
      rw [Bool.or_eq_false_iff]
      refine ⟨Bool.eq_false_iff.2 (fun h => n_self (w_self.1 h)), Bool.eq_false_iff.2 (fun h => n_me (w_me.1 h))⟩
    have hs9 : (wd (tk l i) TR.whit || wd (tk l i) TR.wdraw) = true := by rw [hw9]; simp
    have hR2 : ∃ M, (∀ k, k + 1 ≤ M → Prt w0 b bt off n c ml ms l k 27 (.row 1)) ∧ bd (P l M (.args false) (i + 1) d) (fun x j => if mk (tk l j) [59] = true then okr (nod 19 0 (tk l i).text (tk l i).pos x) (j + 1) else bad (tk l j)) = some R := by
      rcases stmt_bad hR with ⟨h1, -⟩ | ⟨h1, -, -⟩ | ⟨-, -, -, h3⟩ | ⟨-, -, h1, h3⟩
      · rw [hs9] at h1; simp at h1
      · rw [hf9, hh9] at h1; cases h1
      · exact ⟨N, fun k hk => HFF.out k (by omega), h3⟩
      · refine ⟨1, fun k hk => by obtain rfl : k = 0 := by omega
                                  exact prt0 _ _ _ _ _ _ _ _ _ _ _, ?_⟩
        rw [P, if_neg (fun h => h1 ⟨by rw [hs9]; simp, h⟩)]
        exact h3
    have hfr : (frt (tk l i) || hqs.contains (nm (tk l i))) = true := by rw [hnx, hx]; simp [hqs]
    obtain ⟨M, hM1, hM2⟩ := hR2
    have HC : Hid (∀ W2, Up W W2 → Calls Tryz.prog 103 #[.pointer (some ⟨b, 0, none⟩)] W2 (QG b bt off n c ml ms d R W2)) := fun W2 hu => pdo_ w0 W2 b bt off n c ml ms i d l HE.out (HW2.out W2 hu).1 hi (HW2.out W2 hu).2 hd M R HLA.out HXX.out hk0 hfr hM1 hM2
    clear hR hM1 hM2 hfd w_let w_if w_repeat w_each w_choose w_stop w_abort w_self w_me w_hit w_draw n_let n_if n_repeat n_each n_choose n_stop n_abort n_self n_me hk0 hnx HW2 HFF hw9 hf9 hh9 hs9 hfr
    have HLK2 : Hid (∀ W2, Up W W2 → (Instr.lookup 151 (.map (some ms)) (.string (strOfNums x)) false).run Tryz.prog W2 = .ok (.func (.func 103) #[.pointer (some ⟨b, 0, none⟩)] #[]) W2) := HLK
    clear HLK hx
    generalize strOfNums x = sn at *
    have fne9 := fp_ne
    have feq9 := fp_eq
    go_enter Tryz.func168, Tryz.ntmps168
    go_upto_region 1 with fail
    refine wp_region_held_drew (S := fun W9 => Up W W9) (by kernel_rfl) (Up.drew (Up.refl _)) (fun hHeld => ?_)
    have Ua0 : Up W W.drew := Up.drew (Up.refl _)
    refine wpAnyH_take (i := 0) (v := ?_) rfl (by kernel_rfl) (by kernel_rfl) (by kernel_rfl) (fun _ _ _ h => h) (Or.inl ⟨by rfl, ?_⟩) (by assumption) ?_
    rotate_left
    · intro w9 hSw
      go_simp
      try with_reducible rfl
    simp only [Act.put, List.setIfInBounds_toArray, List.set_cons_zero, List.set_cons_succ, List.getElem_toArray, List.getElem_cons_zero]
    refine wpAnyH_take (i := 1) (v := ?_) rfl (by kernel_rfl) (by kernel_rfl) (by kernel_rfl) (fun _ _ _ h => h) (Or.inl ⟨by rfl, ?_⟩) (by assumption) ?_
    rotate_left
    · intro w9 hSw
      go_simp
      try with_reducible rfl
    simp only [Act.put, List.setIfInBounds_toArray, List.set_cons_zero, List.set_cons_succ, List.getElem_toArray, List.getElem_cons_zero, List.getElem_cons_succ]
    refine wpAnyH_take (i := 2) (v := ?_) rfl (by kernel_rfl) (by kernel_rfl) (by kernel_rfl) (fun _ _ _ h => h) (Or.inl ⟨by rfl, ?_⟩) (by assumption) ?_
    rotate_left
    · intro w9 hSw
      go_simp
      try with_reducible rfl
    simp only [Act.put, List.setIfInBounds_toArray, List.set_cons_zero, List.set_cons_succ, List.getElem_toArray, List.getElem_cons_zero, List.getElem_cons_succ]
    refine wpAnyH_take (i := 3) (v := ?_) rfl (by kernel_rfl) (by kernel_rfl) (by kernel_rfl) (fun _ _ _ h => h) (Or.inl ⟨by rfl, ?_⟩) (by assumption) ?_
    rotate_left
    · intro w9 hSw
      have c2 := hSw.cell a4
      go_simp
      try with_reducible rfl
    simp only [Act.put, List.setIfInBounds_toArray, List.set_cons_zero, List.set_cons_succ, List.getElem_toArray, List.getElem_cons_zero, List.getElem_cons_succ]
    refine wpAnyH_take (i := 4) (v := ?_) rfl (by kernel_rfl) (by kernel_rfl) (by kernel_rfl) (fun _ _ _ h => h) (Or.inl ⟨by rfl, ?_⟩) (by assumption) ?_
    rotate_left
    · intro w9 hSw
      go_simp
      try with_reducible rfl
    simp only [Act.put, List.setIfInBounds_toArray, List.set_cons_zero, List.set_cons_succ, List.getElem_toArray, List.getElem_cons_zero, List.getElem_cons_succ]
    refine wpAnyH_ready (rs := [5]) (by kernel_rfl) (by simp) ?_
    refine AllReadyH.cons rfl (fun K hK => ?_) AllReadyH.nil
    simp only [List.getElem_toArray, List.getElem_cons_zero, List.getElem_cons_succ]
    go_simp
    refine Calls.mono (HNM.out _ Ua0) ?_
    rintro r9 Wa1 ⟨rfl, ua1⟩
    go_simp
    have Ua1 := Ua0.trans ua1
    refine hK.out _ _ ?_ (fun hHeld => ?_)
    · exact Ua1
    clear hK K
    try simp only [Act.put, List.setIfInBounds_toArray, List.set_cons_zero, List.set_cons_succ]
    have hSS := Ua1
    refine wpAnyH_take (i := 6) (v := ?_) rfl (by kernel_rfl) (by kernel_rfl) (by kernel_rfl) (fun _ _ _ h => h) (Or.inl ⟨by rfl, ?_⟩) (by assumption) ?_
    rotate_left
    · intro w9 hSw
      have c2 := HLK2.out w9 hSw
      go_simp
      try with_reducible rfl
    simp only [Act.put, List.setIfInBounds_toArray, List.set_cons_zero, List.set_cons_succ, List.getElem_toArray, List.getElem_cons_zero, List.getElem_cons_succ]
    refine wpAnyH_take (i := 7) (v := ?_) rfl (by kernel_rfl) (by kernel_rfl) (by kernel_rfl) (fun _ _ _ h => h) (Or.inl ⟨by rfl, ?_⟩) (by assumption) ?_
    rotate_left
    · intro w9 hSw
      go_simp
      try with_reducible rfl
    simp only [Act.put, List.setIfInBounds_toArray, List.set_cons_zero, List.set_cons_succ, List.getElem_toArray, List.getElem_cons_zero, List.getElem_cons_succ]
    refine wpAnyH_done (by kernel_rfl) ?_ _
    have HU9 : Hid (Up W Wa1) := Ua1
    have HCC := HC.out Wa1 HU9.out
    clear HC HNM HLK2
    go_wp2_with fail
    refine Calls.mono HCC ?_
    intro r9 w8 h
    obtain ⟨ow8, h⟩ := h
    have HOw8 : Hid (Only b W w8) := (Only.up HU9.out).trans ow8
    clear ow8
    cases R with
    | bad er pp =>
      obtain rfl : r9 = pnc er pp := h
      unfold pnc at *
      go_wp2_with fail
      rw [HPo.out]
      exact ⟨rfl, HOw8.out, rfl⟩
    | ok y j =>
      obtain ⟨g, rfl, hy, p9⟩ := h
      have hy9 : PF w8 (Sn W.heap.size w8) y [ptr g] := PF.mono (fun z hz => ⟨Nat.le_trans HU9.out.size hz.1, hz.2⟩) y _ hy
      have HR9 : Hid _ := And.intro hy9 p9
      clear hy p9 hy9
      go_wp2_with fail
      rw [HPo.out]
      exact ⟨HOw8.out, g, rfl, HR9.out.1, HR9.out.2⟩
  have n_hit : ¬ x = [104, 105, 116] := hx
  clear hx
  by_cases hx : x = [100, 114, 97, 119]
  · have hk0 := nm_kind hnx (by rw [hx]; decide)
    have hfd : skey.find? (fun p => decide (p.1 = x)) = some ([100, 114, 97, 119], 103) := by
      rw [hx]
      rfl
    rw [hfd] at HLK
    rw [if_neg (fun h => n_let (w_let.1 h)), if_neg (fun h => n_if (w_if.1 h)), if_neg (fun h => n_repeat (w_repeat.1 h)), if_neg (fun h => h.elim (fun h => n_each (w_each.1 h)) (fun h => n_choose (w_choose.1 h))), if_neg (fun h => h.elim (fun h => n_stop (w_stop.1 h)) (fun h => n_abort (w_abort.1 h)))] at hR
    have hw9 : wd (tk l i) TR.wdraw = true := w_draw.2 hx
    have hf9 : frt (tk l i) = false := frt_nm (by rw [hnx, hx]; decide)
    have hh9 : (wd (tk l i) TR.wself || wd (tk l i) TR.wme) = false := by
      rw [Bool.or_eq_false_iff]
      refine ⟨Bool.eq_false_iff.2 (fun h => n_self (w_self.1 h)), Bool.eq_false_iff.2 (fun h => n_me (w_me.1 h))⟩
    have hs9 : (wd (tk l i) TR.whit || wd (tk l i) TR.wdraw) = true := by rw [hw9]; simp
    have hR2 : ∃ M, (∀ k, k + 1 ≤ M → Prt w0 b bt off n c ml ms l k 27 (.row 1)) ∧ bd (P l M (.args false) (i + 1) d) (fun x j => if mk (tk l j) [59] = true then okr (nod 19 0 (tk l i).text (tk l i).pos x) (j + 1) else bad (tk l j)) = some R := by
      rcases stmt_bad hR with ⟨h1, -⟩ | ⟨h1, -, -⟩ | ⟨-, -, -, h3⟩ | ⟨-, -, h1, h3⟩
      · rw [hs9] at h1; simp at h1
      · rw [hf9, hh9] at h1; cases h1
      · exact ⟨N, fun k hk => HFF.out k (by omega), h3⟩
      · refine ⟨1, fun k hk => by obtain rfl : k = 0 := by omega
                                  exact prt0 _ _ _ _ _ _ _ _ _ _ _, ?_⟩
        rw [P, if_neg (fun h => h1 ⟨by rw [hs9]; simp, h⟩)]
        exact h3
    have hfr : (frt (tk l i) || hqs.contains (nm (tk l i))) = true := by rw [hnx, hx]; simp [hqs]
    obtain ⟨M, hM1, hM2⟩ := hR2
    have HC : Hid (∀ W2, Up W W2 → Calls Tryz.prog 103 #[.pointer (some ⟨b, 0, none⟩)] W2 (QG b bt off n c ml ms d R W2)) := fun W2 hu => pdo_ w0 W2 b bt off n c ml ms i d l HE.out (HW2.out W2 hu).1 hi (HW2.out W2 hu).2 hd M R HLA.out HXX.out hk0 hfr hM1 hM2
    clear hR hM1 hM2 hfd w_let w_if w_repeat w_each w_choose w_stop w_abort w_self w_me w_hit w_draw n_let n_if n_repeat n_each n_choose n_stop n_abort n_self n_me n_hit hk0 hnx HW2 HFF hw9 hf9 hh9 hs9 hfr
    have HLK2 : Hid (∀ W2, Up W W2 → (Instr.lookup 151 (.map (some ms)) (.string (strOfNums x)) false).run Tryz.prog W2 = .ok (.func (.func 103) #[.pointer (some ⟨b, 0, none⟩)] #[]) W2) := HLK
    clear HLK hx
    generalize strOfNums x = sn at *
    have fne9 := fp_ne
    have feq9 := fp_eq
    go_enter Tryz.func168, Tryz.ntmps168
    go_upto_region 1 with fail
    refine wp_region_held_drew (S := fun W9 => Up W W9) (by kernel_rfl) (Up.drew (Up.refl _)) (fun hHeld => ?_)
    have Ua0 : Up W W.drew := Up.drew (Up.refl _)
    refine wpAnyH_take (i := 0) (v := ?_) rfl (by kernel_rfl) (by kernel_rfl) (by kernel_rfl) (fun _ _ _ h => h) (Or.inl ⟨by rfl, ?_⟩) (by assumption) ?_
    rotate_left
    · intro w9 hSw
      go_simp
      try with_reducible rfl
    simp only [Act.put, List.setIfInBounds_toArray, List.set_cons_zero, List.set_cons_succ, List.getElem_toArray, List.getElem_cons_zero]
    refine wpAnyH_take (i := 1) (v := ?_) rfl (by kernel_rfl) (by kernel_rfl) (by kernel_rfl) (fun _ _ _ h => h) (Or.inl ⟨by rfl, ?_⟩) (by assumption) ?_
    rotate_left
    · intro w9 hSw
      go_simp
      try with_reducible rfl
    simp only [Act.put, List.setIfInBounds_toArray, List.set_cons_zero, List.set_cons_succ, List.getElem_toArray, List.getElem_cons_zero, List.getElem_cons_succ]
    refine wpAnyH_take (i := 2) (v := ?_) rfl (by kernel_rfl) (by kernel_rfl) (by kernel_rfl) (fun _ _ _ h => h) (Or.inl ⟨by rfl, ?_⟩) (by assumption) ?_
    rotate_left
    · intro w9 hSw
      go_simp
      try with_reducible rfl
    simp only [Act.put, List.setIfInBounds_toArray, List.set_cons_zero, List.set_cons_succ, List.getElem_toArray, List.getElem_cons_zero, List.getElem_cons_succ]
    refine wpAnyH_take (i := 3) (v := ?_) rfl (by kernel_rfl) (by kernel_rfl) (by kernel_rfl) (fun _ _ _ h => h) (Or.inl ⟨by rfl, ?_⟩) (by assumption) ?_
    rotate_left
    · intro w9 hSw
      have c2 := hSw.cell a4
      go_simp
      try with_reducible rfl
    simp only [Act.put, List.setIfInBounds_toArray, List.set_cons_zero, List.set_cons_succ, List.getElem_toArray, List.getElem_cons_zero, List.getElem_cons_succ]
    refine wpAnyH_take (i := 4) (v := ?_) rfl (by kernel_rfl) (by kernel_rfl) (by kernel_rfl) (fun _ _ _ h => h) (Or.inl ⟨by rfl, ?_⟩) (by assumption) ?_
    rotate_left
    · intro w9 hSw
      go_simp
      try with_reducible rfl
    simp only [Act.put, List.setIfInBounds_toArray, List.set_cons_zero, List.set_cons_succ, List.getElem_toArray, List.getElem_cons_zero, List.getElem_cons_succ]
    refine wpAnyH_ready (rs := [5]) (by kernel_rfl) (by simp) ?_
    refine AllReadyH.cons rfl (fun K hK => ?_) AllReadyH.nil
    simp only [List.getElem_toArray, List.getElem_cons_zero, List.getElem_cons_succ]
    go_simp
    refine Calls.mono (HNM.out _ Ua0) ?_
    rintro r9 Wa1 ⟨rfl, ua1⟩
    go_simp
    have Ua1 := Ua0.trans ua1
    refine hK.out _ _ ?_ (fun hHeld => ?_)
    · exact Ua1
    clear hK K
    try simp only [Act.put, List.setIfInBounds_toArray, List.set_cons_zero, List.set_cons_succ]
    have hSS := Ua1
    refine wpAnyH_take (i := 6) (v := ?_) rfl (by kernel_rfl) (by kernel_rfl) (by kernel_rfl) (fun _ _ _ h => h) (Or.inl ⟨by rfl, ?_⟩) (by assumption) ?_
    rotate_left
    · intro w9 hSw
      have c2 := HLK2.out w9 hSw
      go_simp
      try with_reducible rfl
    simp only [Act.put, List.setIfInBounds_toArray, List.set_cons_zero, List.set_cons_succ, List.getElem_toArray, List.getElem_cons_zero, List.getElem_cons_succ]
    refine wpAnyH_take (i := 7) (v := ?_) rfl (by kernel_rfl) (by kernel_rfl) (by kernel_rfl) (fun _ _ _ h => h) (Or.inl ⟨by rfl, ?_⟩) (by assumption) ?_
    rotate_left
    · intro w9 hSw
      go_simp
      try with_reducible rfl
    simp only [Act.put, List.setIfInBounds_toArray, List.set_cons_zero, List.set_cons_succ, List.getElem_toArray, List.getElem_cons_zero, List.getElem_cons_succ]
    refine wpAnyH_done (by kernel_rfl) ?_ _
    have HU9 : Hid (Up W Wa1) := Ua1
    have HCC := HC.out Wa1 HU9.out
    clear HC HNM HLK2
    go_wp2_with fail
    refine Calls.mono HCC ?_
    intro r9 w8 h
    obtain ⟨ow8, h⟩ := h
    have HOw8 : Hid (Only b W w8) := (Only.up HU9.out).trans ow8
    clear ow8
    cases R with
    | bad er pp =>
      obtain rfl : r9 = pnc er pp := h
      unfold pnc at *
      go_wp2_with fail
      rw [HPo.out]
      exact ⟨rfl, HOw8.out, rfl⟩
    | ok y j =>
      obtain ⟨g, rfl, hy, p9⟩ := h
      have hy9 : PF w8 (Sn W.heap.size w8) y [ptr g] := PF.mono (fun z hz => ⟨Nat.le_trans HU9.out.size hz.1, hz.2⟩) y _ hy
      have HR9 : Hid _ := And.intro hy9 p9
      clear hy p9 hy9
      go_wp2_with fail
      rw [HPo.out]
      exact ⟨HOw8.out, g, rfl, HR9.out.1, HR9.out.2⟩
  have n_draw : ¬ x = [100, 114, 97, 119] := hx
  clear hx
  have hfd : skey.find? (fun p => decide (p.1 = x)) = none := by
    unfold skey
    simp only [List.find?_cons, List.find?_nil, decide_eq_false (Ne.symm n_let), decide_eq_false (Ne.symm n_if), decide_eq_false (Ne.symm n_repeat), decide_eq_false (Ne.symm n_each), decide_eq_false (Ne.symm n_choose), decide_eq_false (Ne.symm n_stop), decide_eq_false (Ne.symm n_abort), decide_eq_false (Ne.symm n_self), decide_eq_false (Ne.symm n_me), decide_eq_false (Ne.symm n_hit), decide_eq_false (Ne.symm n_draw)]
  rw [hfd] at HLK
  rw [if_neg (fun h => n_let (w_let.1 h)), if_neg (fun h => n_if (w_if.1 h)), if_neg (fun h => n_repeat (w_repeat.1 h)), if_neg (fun h => h.elim (fun h => n_each (w_each.1 h)) (fun h => n_choose (w_choose.1 h))), if_neg (fun h => h.elim (fun h => n_stop (w_stop.1 h)) (fun h => n_abort (w_abort.1 h)))] at hR
  have HFE : Hid (∀ W2, Up W W2 → Calls Tryz.prog 183 #[.pointer (some ⟨b, 0, none⟩)] W2 (fun r w' => Up W2 w' ∧ ((frt (tk l i) = true ∧ mk (tk l (i + 1)) [61] = true ∧ r = .returned (.func (.func 102) #[.pointer (some ⟨b, 0, none⟩)] #[])) ∨ (frt (tk l i) = true ∧ mk (tk l (i + 1)) [61] = false ∧ r = .returned (.func (.func 103) #[.pointer (some ⟨b, 0, none⟩)] #[])) ∨ (frt (tk l i) = false ∧ r = pnc 22 (tk l i).pos)))) := fun W2 hu => pfree_ w0 W2 b bt off n c ml ms i d l HE.out (HW2.out W2 hu).1 hi (HW2.out W2 hu).2 HXX.out
  have hsm : (wd (tk l i) TR.wself || wd (tk l i) TR.wme) = false := by
    rw [Bool.or_eq_false_iff]
    exact ⟨Bool.eq_false_iff.2 (fun h => n_self (w_self.1 h)), Bool.eq_false_iff.2 (fun h => n_me (w_me.1 h))⟩
  have hhd : (wd (tk l i) TR.whit || wd (tk l i) TR.wdraw) = false := by
    rw [Bool.or_eq_false_iff]
    exact ⟨Bool.eq_false_iff.2 (fun h => n_hit (w_hit.1 h)), Bool.eq_false_iff.2 (fun h => n_draw (w_draw.1 h))⟩
  clear hfd w_let w_if w_repeat w_each w_choose w_stop w_abort w_self w_me w_hit w_draw n_let n_if n_repeat n_each n_choose n_stop n_abort n_self n_me n_hit n_draw hnx
  have HLK2 : Hid (∀ W2, Up W W2 → (Instr.lookup 151 (.map (some ms)) (.string (strOfNums x)) false).run Tryz.prog W2 = .ok (.nilFunc) W2) := HLK
  clear HLK
  generalize strOfNums x = sn at *
  have fne9 := fp_ne
  have feq9 := fp_eq
  go_enter Tryz.func168, Tryz.ntmps168
  go_upto_region 1 with fail
  refine wp_region_held_drew (S := fun W9 => Up W W9) (by kernel_rfl) (Up.drew (Up.refl _)) (fun hHeld => ?_)
  have Ua0 : Up W W.drew := Up.drew (Up.refl _)
  refine wpAnyH_take (i := 0) (v := ?_) rfl (by kernel_rfl) (by kernel_rfl) (by kernel_rfl) (fun _ _ _ h => h) (Or.inl ⟨by rfl, ?_⟩) (by assumption) ?_
  rotate_left
  · intro w9 hSw
    go_simp
    try with_reducible rfl
  simp only [Act.put, List.setIfInBounds_toArray, List.set_cons_zero, List.set_cons_succ, List.getElem_toArray, List.getElem_cons_zero]
  refine wpAnyH_take (i := 1) (v := ?_) rfl (by kernel_rfl) (by kernel_rfl) (by kernel_rfl) (fun _ _ _ h => h) (Or.inl ⟨by rfl, ?_⟩) (by assumption) ?_
  rotate_left
  · intro w9 hSw
    go_simp
    try with_reducible rfl
  simp only [Act.put, List.setIfInBounds_toArray, List.set_cons_zero, List.set_cons_succ, List.getElem_toArray, List.getElem_cons_zero, List.getElem_cons_succ]
  refine wpAnyH_take (i := 2) (v := ?_) rfl (by kernel_rfl) (by kernel_rfl) (by kernel_rfl) (fun _ _ _ h => h) (Or.inl ⟨by rfl, ?_⟩) (by assumption) ?_
  rotate_left
  · intro w9 hSw
    go_simp
    try with_reducible rfl
  simp only [Act.put, List.setIfInBounds_toArray, List.set_cons_zero, List.set_cons_succ, List.getElem_toArray, List.getElem_cons_zero, List.getElem_cons_succ]
  refine wpAnyH_take (i := 3) (v := ?_) rfl (by kernel_rfl) (by kernel_rfl) (by kernel_rfl) (fun _ _ _ h => h) (Or.inl ⟨by rfl, ?_⟩) (by assumption) ?_
  rotate_left
  · intro w9 hSw
    have c2 := hSw.cell a4
    go_simp
    try with_reducible rfl
  simp only [Act.put, List.setIfInBounds_toArray, List.set_cons_zero, List.set_cons_succ, List.getElem_toArray, List.getElem_cons_zero, List.getElem_cons_succ]
  refine wpAnyH_take (i := 4) (v := ?_) rfl (by kernel_rfl) (by kernel_rfl) (by kernel_rfl) (fun _ _ _ h => h) (Or.inl ⟨by rfl, ?_⟩) (by assumption) ?_
  rotate_left
  · intro w9 hSw
    go_simp
    try with_reducible rfl
  simp only [Act.put, List.setIfInBounds_toArray, List.set_cons_zero, List.set_cons_succ, List.getElem_toArray, List.getElem_cons_zero, List.getElem_cons_succ]
  refine wpAnyH_ready (rs := [5]) (by kernel_rfl) (by simp) ?_
  refine AllReadyH.cons rfl (fun K hK => ?_) AllReadyH.nil
  simp only [List.getElem_toArray, List.getElem_cons_zero, List.getElem_cons_succ]
  go_simp
  refine Calls.mono (HNM.out _ Ua0) ?_
  rintro r9 Wa1 ⟨rfl, ua1⟩
  go_simp
  have Ua1 := Ua0.trans ua1
  refine hK.out _ _ ?_ (fun hHeld => ?_)
  · exact Ua1
  clear hK K
  try simp only [Act.put, List.setIfInBounds_toArray, List.set_cons_zero, List.set_cons_succ]
  have hSS := Ua1
  refine wpAnyH_take (i := 6) (v := ?_) rfl (by kernel_rfl) (by kernel_rfl) (by kernel_rfl) (fun _ _ _ h => h) (Or.inl ⟨by rfl, ?_⟩) (by assumption) ?_
  rotate_left
  · intro w9 hSw
    have c2 := HLK2.out w9 hSw
    go_simp
    try with_reducible rfl
  simp only [Act.put, List.setIfInBounds_toArray, List.set_cons_zero, List.set_cons_succ, List.getElem_toArray, List.getElem_cons_zero, List.getElem_cons_succ]
  refine wpAnyH_take (i := 7) (v := ?_) rfl (by kernel_rfl) (by kernel_rfl) (by kernel_rfl) (fun _ _ _ h => h) (Or.inl ⟨by rfl, ?_⟩) (by assumption) ?_
  rotate_left
  · intro w9 hSw
    go_simp
    try with_reducible rfl
  simp only [Act.put, List.setIfInBounds_toArray, List.set_cons_zero, List.set_cons_succ, List.getElem_toArray, List.getElem_cons_zero, List.getElem_cons_succ]
  refine wpAnyH_done (by kernel_rfl) ?_ _
  have HU9 : Hid (Up W Wa1) := Ua1
  have HC := HFE.out Wa1 HU9.out
  clear HFE HNM HLK2
  go_wp2_with fail
  refine Calls.mono HC ?_
  rintro r9 w7 ⟨u7, ⟨hf9, hm9, rfl⟩ | ⟨hf9, hm9, rfl⟩ | ⟨hf9, rfl⟩⟩
  · have HU7 : Hid (Up W w7) := HU9.out.trans u7
    clear u7 HC
    rw [hf9] at hR
    rcases stmt_bad hR with ⟨h1, -⟩ | ⟨-, -, h3⟩ | ⟨h1, -⟩ | ⟨-, h1, -⟩
    · simp at h1
    · have HCC : Hid (Calls Tryz.prog 102 #[.pointer (some ⟨b, 0, none⟩)] w7 (QG b bt off n c ml ms d R w7)) := pset_ w0 w7 b bt off n c ml ms i d l HE.out (HW2.out w7 HU7.out).1 hi (HW2.out w7 HU7.out).2 hd N R HLA.out HXX.out (frt_kind hf9) (by rw [hf9, Bool.true_or]) HEX.out (by rw [if_pos hm9]; exact h3)
      clear hR h3 HW2 HFF hf9 hm9 hsm hhd
      go_wp2_with fail
      refine Calls.mono HCC.out ?_
      intro r9 w8 h
      obtain ⟨ow8, h⟩ := h
      have HOw8 : Hid (Only b W w8) := (Only.up HU7.out).trans ow8
      clear ow8
      cases R with
      | bad er pp =>
        obtain rfl : r9 = pnc er pp := h
        unfold pnc at *
        go_wp2_with fail
        rw [HPo.out]
        exact ⟨rfl, HOw8.out, rfl⟩
      | ok y j =>
        obtain ⟨g, rfl, hy, p9⟩ := h
        have hy9 : PF w8 (Sn W.heap.size w8) y [ptr g] := PF.mono (fun z hz => ⟨Nat.le_trans HU7.out.size hz.1, hz.2⟩) y _ hy
        have HR9 : Hid _ := And.intro hy9 p9
        clear hy p9 hy9
        go_wp2_with fail
        rw [HPo.out]
        exact ⟨HOw8.out, g, rfl, HR9.out.1, HR9.out.2⟩
    · exact absurd ⟨by simp, hm9⟩ h1
    · exact absurd ⟨by simp, hm9⟩ h1
  · have HU7 : Hid (Up W w7) := HU9.out.trans u7
    clear u7 HC
    rw [hf9] at hR
    have hR2 : ∃ M, (∀ k, k + 1 ≤ M → Prt w0 b bt off n c ml ms l k 27 (.row 1)) ∧ bd (P l M (.args false) (i + 1) d) (fun x j => if mk (tk l j) [59] = true then okr (nod 19 0 (tk l i).text (tk l i).pos x) (j + 1) else bad (tk l j)) = some R := by
      rcases stmt_bad hR with ⟨h1, -⟩ | ⟨-, h2, -⟩ | ⟨-, -, -, h3⟩ | ⟨-, -, h1, h3⟩
      · simp at h1
      · rw [hm9] at h2; cases h2
      · exact ⟨N, fun k hk => HFF.out k (by omega), h3⟩
      · refine ⟨1, fun k hk => by obtain rfl : k = 0 := by omega
                                  exact prt0 _ _ _ _ _ _ _ _ _ _ _, ?_⟩
        rw [P, if_neg (fun h => h1 ⟨by simp, h⟩)]
        exact h3
    obtain ⟨M, hM1, hM2⟩ := hR2
    have HCC : Hid (Calls Tryz.prog 103 #[.pointer (some ⟨b, 0, none⟩)] w7 (QG b bt off n c ml ms d R w7)) := pdo_ w0 w7 b bt off n c ml ms i d l HE.out (HW2.out w7 HU7.out).1 hi (HW2.out w7 HU7.out).2 hd M R HLA.out HXX.out (frt_kind hf9) (by rw [hf9, Bool.true_or]) hM1 hM2
    clear hR hM1 hM2 HW2 HFF hf9 hm9 hsm hhd
    go_wp2_with fail
    refine Calls.mono HCC.out ?_
    intro r9 w8 h
    obtain ⟨ow8, h⟩ := h
    have HOw8 : Hid (Only b W w8) := (Only.up HU7.out).trans ow8
    clear ow8
    cases R with
    | bad er pp =>
      obtain rfl : r9 = pnc er pp := h
      unfold pnc at *
      go_wp2_with fail
      rw [HPo.out]
      exact ⟨rfl, HOw8.out, rfl⟩
    | ok y j =>
      obtain ⟨g, rfl, hy, p9⟩ := h
      have hy9 : PF w8 (Sn W.heap.size w8) y [ptr g] := PF.mono (fun z hz => ⟨Nat.le_trans HU7.out.size hz.1, hz.2⟩) y _ hy
      have HR9 : Hid _ := And.intro hy9 p9
      clear hy p9 hy9
      go_wp2_with fail
      rw [HPo.out]
      exact ⟨HOw8.out, g, rfl, HR9.out.1, HR9.out.2⟩
  · have HU7 : Hid (Up W w7) := HU9.out.trans u7
    clear u7 HC
    rw [hf9] at hR
    rcases stmt_bad hR with ⟨-, h3⟩ | ⟨h1, -⟩ | ⟨-, h1, -⟩ | ⟨h1, -⟩
    · obtain rfl : Rs.bad 22 (tk l i).pos = R := Option.some.inj h3
      clear hR h3 HW2 HFF hf9 hsm hhd
      unfold pnc at *
      go_wp2_with fail
      rw [HPo.out]
      exact ⟨rfl, Only.up HU7.out, rfl⟩
    · rw [hsm] at h1; cases h1
    · rw [hhd] at h1; cases h1
    · rw [hsm, hhd] at h1; cases h1
end TP
end Go.Proofs.YtkldllnnocdhbaaGreatDoor
