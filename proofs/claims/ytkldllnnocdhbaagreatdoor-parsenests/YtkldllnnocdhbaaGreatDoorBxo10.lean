/-
  The program's parser: the lines that begin with on.
-/
import Derived.Test.YtkldllnnocdhbaaGreatDoorBv10
namespace Go.Proofs.YtkldllnnocdhbaaGreatDoor
open Go.RowKit
attribute [local go_sem ↓] Go.wp_at_zero Go.wp_at_succ
namespace TP
open TR (Nd Byt nums_inj)
open TK (Tok)
def posOf (b : Nat) (W : World) : Nat := match W.cell? ⟨b, 1, none⟩ with
  | some (.int _ j) => j.toNat
  | _ => 0
theorem QS.pos {W : World} {b bt off n c ml ms i d : Nat} (h : QS W b bt off n c ml ms i d) : posOf b W = i := by
  unfold posOf
  rw [h.cells.2.1]
  exact Int.toNat_natCast i
set_option maxRecDepth 100000 in
set_option maxHeartbeats 16000000 in
theorem pblock_ (w0 W : World) (b bt off n c ml ms i d : Nat) (l : List Tok) (hE : Ev w0 b bt off n c l) (ho : Only b w0 W) (hi : i < n) (hP : QS W b bt off n c ml ms i d) (hd : d ≤ 64) (N : Nat) (R : Rs) (hl : (tk l (l.length - 1)).kind = 0) (hF : ∀ k, k ≤ N → Prt w0 b bt off n c ml ms l k 168 .stmt) (hR : P l (N + 1) .block i d = some R) : Calls Tryz.prog 140 #[.pointer (some ⟨b, 0, none⟩)] W (QG b bt off n c ml ms d R W) := by
  obtain ⟨Post, hPost⟩ : ∃ P : Ending → World → Prop, P = QG b bt off n c ml ms d R W := ⟨_, rfl⟩
  rw [← hPost]
  have HPo : Hid (Post = QG b bt off n c ml ms d R W) := hPost
  clear hPost
  have HE : Hid (Ev w0 b bt off n c l) := hE
  have HW : Hid (Only b w0 W) := ho
  have HP : Hid (QS W b bt off n c ml ms i d) := hP
  have HLA : Hid ((tk l (l.length - 1)).kind = 0) := hl
  have HBL : Hid (b < W.heap.size) := hP.cells.2.2.2.2.2.2
  have HLP : Hid (∀ k, k ≤ N → Prt w0 b bt off n c ml ms l k 168 .stmt) := hF
  have HHR : Hid _ := here_ w0 W b bt off n c ml ms i d l hE ho hi hP 10
  have HEN : Hid (∀ W2, Up W W2 → Calls Tryz.prog 167 #[.pointer (some ⟨b, 0, none⟩), .string ⟨#[123]⟩] W2 (fun r w' => Only b W2 w' ∧ ((mk (tk l i) [123] = true ∧ d ≠ 64 ∧ r = .returned (.tuple #[]) ∧ QS w' b bt off n c ml ms (i + 1) (d + 1)) ∨ (mk (tk l i) [123] = true ∧ d = 64 ∧ r = pnc 23 (tk l i).pos) ∨ (mk (tk l i) [123] = false ∧ r = pnc 22 (tk l i).pos)))) := fun W2 hu => enter_ w0 W2 b bt off n c ml ms i d l hE (ho.trans (Only.up hu)) hi (hP.up hu) ⟨#[123]⟩ [123] (by unfold TR.Byt; decide) (congrArg ByteArray.toList (show (⟨#[123]⟩ : ByteArray) = strOfNums [123] from rfl)) hd
  have hnx : mk (tk l i) [123] = true → i + 1 < n := fun h => hE.next hi (mk_kind h)
  rw [P] at hR
  clear hE ho hP hl hF
  go_enter Tryz.func140, Tryz.ntmps140
  go_wp2_with fail
  refine Calls.mono HHR.out ?_
  rintro r9 w1 ⟨u1, g, rfl, hg, hc⟩
  have HS1 : Hid (ST W w1 b bt off n c ml ms i d g (⟨10, 0, 0, 0, [], (tk l i).pos, 0⟩ : Nd) (.slice none 0 0) [] .nil) := ST.made (Only.up u1) (HP.out.up u1) HBL.out hg hc
  have HC := HEN.out w1 u1
  clear u1 hg hc HHR HEN
  go_wp2_with fail
  refine Calls.mono HC ?_
  rintro r9 w2 ⟨o2, ⟨hmk, h64, rfl, p2⟩ | ⟨hmk, h64, rfl⟩ | ⟨hmk, rfl⟩⟩
  · rw [if_pos hmk, if_neg h64] at hR
    obtain ⟨R0, hR0, hb0⟩ := bd_get hR
    have hjw2 := hnx hmk
    have HSw2 : Hid (ST W w2 b bt off n c ml ms (i + 1) (d + 1) g (⟨10, 0, 0, 0, [], (tk l i).pos, 0⟩ : Nd) (.slice none 0 0) [] .nil) := HS1.out.only o2 p2
    clear hR o2 p2 HC HS1 hmk hnx
    have HI0 : Hid (∃ (sv : Value) (kv : List Value) (fo : Fo) (j k : Nat), ST W w2 b bt off n c ml ms j (d + 1) g (⟨10, 0, 0, 0, [], (tk l i).pos, 0⟩ : Nd) sv kv fo ∧ j < n ∧ k ≤ N ∧ kv.length ≤ j ∧ P l k (.blkL fo) j (d + 1) = some R0) := ⟨_, _, _, _, N, HSw2.out, hjw2, Nat.le_refl _, Nat.zero_le _, hR0⟩
    clear HSw2 hR0
    go_wp2_with fail
    go_loopw [8] (fun _ W3 => ∃ (sv : Value) (kv : List Value) (fo : Fo) (j k : Nat), ST W W3 b bt off n c ml ms j (d + 1) g (⟨10, 0, 0, 0, [], (tk l i).pos, 0⟩ : Nd) sv kv fo ∧ j < n ∧ k ≤ N ∧ kv.length ≤ j ∧ P l k (.blkL fo) j (d + 1) = some R0) (fun _ W3 => n + 1 - posOf b W3)
    case atStart => exact HI0.out
    case round =>
      obtain ⟨sv, kv, fo, j, k, hs, hj, hk, hkv, hRe⟩ := hrel
      have HSr : Hid (ST W wr b bt off n c ml ms j (d + 1) g (⟨10, 0, 0, 0, [], (tk l i).pos, 0⟩ : Nd) sv kv fo) := hs
      clear hs HI0
      have HIM : Hid _ := isMark_ w0 wr b bt off n c ml ms j (d + 1) l HE.out (HW.out.trans HSr.out.o) hj HSr.out.p ⟨#[125]⟩ [125] (by unfold TR.Byt; decide) (congrArg ByteArray.toList (show (⟨#[125]⟩ : ByteArray) = strOfNums [125] from rfl))
      cases k with
      | zero => cases hRe
      | succ k =>
        rw [P] at hRe
        cases hmc : mk (tk l j) [125] with
        | true =>
          rw [hmc] at HIM
          rw [if_pos hmc] at hRe
          clear hk
          go_wp2_with fail
          refine Calls.mono HIM.out ?_
          rintro r9 w2 ⟨rfl, u2⟩
          have HSe : Hid (ST W w2 b bt off n c ml ms j (d + 1) g (⟨10, 0, 0, 0, [], (tk l i).pos, 0⟩ : Nd) sv kv fo) := HSr.out.up u2
          clear u2 HIM HSr
          have hRf := Option.some.inj hRe
          clear hRe
          have HLV : Hid _ := leave_ w0 w2 b bt off n c ml ms j (d + 1) l HE.out (HW.out.trans HSe.out.o) hj HSe.out.p ⟨#[125]⟩ [125] (by unfold TR.Byt; decide) (congrArg ByteArray.toList (show (⟨#[125]⟩ : ByteArray) = strOfNums [125] from rfl)) d rfl (by omega)
          go_wp2_with fail
          refine Calls.mono HLV.out ?_
          rintro r9 w9 ⟨o9, ⟨-, rfl, p9⟩ | ⟨h9, -⟩⟩
          · subst hRf
            obtain rfl := Option.some.inj (bd_ok hb0)
            have HS9 : Hid _ := HSe.out.only o9 p9
            clear hb0 o9 p9 HLV HSe
            go_wp2_with fail
            rw [HPo.out]
            exact ⟨HS9.out.o, g, rfl, HS9.out.done, HS9.out.p⟩
          · rw [hmc] at h9
            cases h9
        | false =>
          rw [hmc] at HIM
          rw [if_neg (by rw [hmc]; decide)] at hRe
          obtain ⟨R1, h1, hb1⟩ := bd_get hRe
          have hst9 : ∀ y q, R1 = .ok y q → j + 1 ≤ q ∧ q < n := fun y q e => by
            subst e
            have h9 := stays HLA.out h1 (by have := HE.out.len; omega)
            have h8 : j + 1 ≤ q := h9.1
            have := h9.2.1
            have := HE.out.len
            exact ⟨h8, by omega⟩
          have HST9 : Hid (∀ y q, R1 = .ok y q → j + 1 ≤ q ∧ q < n) := hst9
          have HPR : Hid (∀ w2, Up wr w2 → Calls Tryz.prog 168 #[.pointer (some ⟨b, 0, none⟩)] w2 (QG b bt off n c ml ms (d + 1) R1 w2)) := fun w2 u => HLP.out k (by omega) j (d + 1) R1 w2 (HW.out.trans (HSr.out.o.trans (Only.up u))) (HSr.out.p.up u) hj (by omega) h1
          clear hRe h1 hst9
          go_wp2_with fail
          refine Calls.mono HIM.out ?_
          rintro r9 w2 ⟨rfl, u2⟩
          have HS2 : Hid (ST W w2 b bt off n c ml ms j (d + 1) g (⟨10, 0, 0, 0, [], (tk l i).pos, 0⟩ : Nd) sv kv fo) := HSr.out.up u2
          have HC := HPR.out w2 u2
          have hpos := HSr.out.p.pos
          clear u2 HIM HSr HPR
          go_wp2_with fail
          refine Calls.mono HC ?_
          intro r9 w3 hh
          obtain ⟨o3, hh⟩ := hh
          clear HC
          cases R1 with
          | bad er pp =>
            obtain rfl : r9 = pnc er pp := hh
            have hRb := bd_bad hb1
            have HO9 : Hid (Only b W w3) := HS2.out.o.trans o3
            clear hb1 o3 HST9
            subst hRb
            obtain rfl := bd_bad hb0
            clear hb0
            unfold pnc at *
            go_wp2_with fail
            rw [HPo.out]
            exact ⟨rfl, HO9.out, rfl⟩
          | ok y q =>
            obtain ⟨gr, rfl, hy, p3⟩ := hh
            have hRk := bd_ok hb1
            try dsimp only at hRk
            obtain ⟨hq1, hq2⟩ := HST9.out y q rfl
            have HA : Hid _ := HS2.out.add1 o3 p3 hy (by have := HE.out.small; omega)
            clear hb1 o3 p3 hy HST9
            go_wp2_with fail
            refine Calls.mono HA.out ?_
            rintro r9 w4 ⟨rfl, sv4, hs4⟩
            have hp4 := hs4.p.pos
            have HN4 : Hid (∃ (sv : Value) (kv : List Value) (fo : Fo) (j k : Nat), ST W w4 b bt off n c ml ms j (d + 1) g (⟨10, 0, 0, 0, [], (tk l i).pos, 0⟩ : Nd) sv kv fo ∧ j < n ∧ k ≤ N ∧ kv.length ≤ j ∧ P l k (.blkL fo) j (d + 1) = some R0) := ⟨sv4, _, _, q, k, hs4, hq2, by omega, by rw [List.length_append]; simp; omega, hRk⟩
            clear hs4 HA HS2 hRk
            go_wp2_with fail
            go_roundw
            case rel => exact HN4.out
            case measure => rw [hpos, hp4]; omega
  · rw [if_pos hmk, if_pos h64] at hR
    obtain rfl : Rs.bad 23 (tk l i).pos = R := Option.some.inj hR
    have HO9 : Hid (Only b W w2) := HS1.out.o.trans o2
    clear hR o2 HC HS1
    unfold pnc at *
    go_wp2_with fail
    rw [HPo.out]
    exact ⟨rfl, HO9.out, rfl⟩
  · rw [if_neg (by rw [hmk]; decide)] at hR
    obtain rfl : Rs.bad 22 (tk l i).pos = R := Option.some.inj hR
    have HO9 : Hid (Only b W w2) := HS1.out.o.trans o2
    clear hR o2 HC HS1
    unfold pnc at *
    go_wp2_with fail
    rw [HPo.out]
    exact ⟨rfl, HO9.out, rfl⟩
end TP
end Go.Proofs.YtkldllnnocdhbaaGreatDoor
namespace Go.Proofs.YtkldllnnocdhbaaGreatDoor
open Go.RowKit
attribute [local go_sem ↓] Go.wp_at_zero Go.wp_at_succ
namespace TP
open TR (Nd Byt nums_inj)
open TK (Tok)
def eqs : List (List Int) := [[112, 108, 97, 121], [100, 105, 101], [104, 105, 116], [116, 117, 114, 110], [100, 114, 97, 119]]
theorem eqs_row : eqs.map (fun x => Value.string (strOfNums x)) = (#[.string ⟨#[112, 108, 97, 121]⟩, .string ⟨#[100, 105, 101]⟩, .string ⟨#[104, 105, 116]⟩, .string ⟨#[116, 117, 114, 110]⟩, .string ⟨#[100, 114, 97, 119]⟩] : Array Value).toList := by kernel_rfl
theorem eqs_byt : ∀ x ∈ eqs, Byt x := by unfold Byt eqs; decide
theorem evnt_iw (t : Tok) : evnt t = if iw (nm t) eqs 0 < 0 then none else some (iw (nm t) eqs 0) := by
  have h1 := wd_nm t [112, 108, 97, 121] (by decide)
  have h2 := wd_nm t [100, 105, 101] (by decide)
  have h3 := wd_nm t [104, 105, 116] (by decide)
  have h4 := wd_nm t [116, 117, 114, 110] (by decide)
  have h5 := wd_nm t [100, 114, 97, 119] (by decide)
  by_cases k1 : nm t = [112, 108, 97, 121]
  · have e : iw (nm t) eqs 0 = 0 := by
      unfold eqs
      simp only [iw]
      rw [if_pos k1.symm]
      rfl
    rw [e, if_neg (by decide)]
    unfold evnt
    rw [if_pos (h1.2 k1)]
  by_cases k2 : nm t = [100, 105, 101]
  · have e : iw (nm t) eqs 0 = 1 := by
      unfold eqs
      simp only [iw]
      rw [if_neg (Ne.symm k1), if_pos k2.symm]
      rfl
    rw [e, if_neg (by decide)]
    unfold evnt
    rw [if_neg (fun h => k1 (h1.1 h)), if_pos (h2.2 k2)]
  by_cases k3 : nm t = [104, 105, 116]
  · have e : iw (nm t) eqs 0 = 2 := by
      unfold eqs
      simp only [iw]
      rw [if_neg (Ne.symm k1), if_neg (Ne.symm k2), if_pos k3.symm]
      rfl
    rw [e, if_neg (by decide)]
    unfold evnt
    rw [if_neg (fun h => k1 (h1.1 h)), if_neg (fun h => k2 (h2.1 h)), if_pos (h3.2 k3)]
  by_cases k4 : nm t = [116, 117, 114, 110]
  · have e : iw (nm t) eqs 0 = 3 := by
      unfold eqs
      simp only [iw]
      rw [if_neg (Ne.symm k1), if_neg (Ne.symm k2), if_neg (Ne.symm k3), if_pos k4.symm]
      rfl
    rw [e, if_neg (by decide)]
    unfold evnt
    rw [if_neg (fun h => k1 (h1.1 h)), if_neg (fun h => k2 (h2.1 h)), if_neg (fun h => k3 (h3.1 h)), if_pos (h4.2 k4)]
  by_cases k5 : nm t = [100, 114, 97, 119]
  · have e : iw (nm t) eqs 0 = 4 := by
      unfold eqs
      simp only [iw]
      rw [if_neg (Ne.symm k1), if_neg (Ne.symm k2), if_neg (Ne.symm k3), if_neg (Ne.symm k4), if_pos k5.symm]
      rfl
    rw [e, if_neg (by decide)]
    unfold evnt
    rw [if_neg (fun h => k1 (h1.1 h)), if_neg (fun h => k2 (h2.1 h)), if_neg (fun h => k3 (h3.1 h)), if_neg (fun h => k4 (h4.1 h)), if_pos (h5.2 k5)]
  have e : iw (nm t) eqs 0 = -1 := by
    unfold eqs
    simp only [iw]
    rw [if_neg (Ne.symm k1), if_neg (Ne.symm k2), if_neg (Ne.symm k3), if_neg (Ne.symm k4), if_neg (Ne.symm k5)]
  rw [e, if_pos (by decide)]
  unfold evnt
  rw [if_neg (fun h => k1 (h1.1 h)), if_neg (fun h => k2 (h2.1 h)), if_neg (fun h => k3 (h3.1 h)), if_neg (fun h => k4 (h4.1 h)), if_neg (fun h => k5 (h5.1 h))]
def lkey : List (List Int × FuncId) := [([99, 111, 115, 116], 90), ([112, 111, 119, 101, 114], 91), ([104, 101, 97, 108, 116, 104], 92), ([116, 97, 103], 93), ([111, 110], 94)]
theorem lkey_byt : ∀ p ∈ lkey, Byt p.1 := by unfold Byt lkey; decide
set_option maxRecDepth 100000 in
set_option maxHeartbeats 16000000 in
theorem stat_ (w0 W : World) (b bt off n c ml ms i d : Nat) (l : List Tok) (hE : Ev w0 b bt off n c l) (ho : Only b w0 W) (hi : i < n) (hP : QS W b bt off n c ml ms i d) (R : Rs) (hk0 : (tk l i).kind ≠ 0) (op : Int) (hR : (if (tk l (i + 1)).kind = 2 then (if mk (tk l (i + 2)) [59] = true then okr (nod op (tk l (i + 1)).num [] (tk l i).pos .nil) (i + 3) else bad (tk l (i + 2))) else bad (tk l (i + 1))) = some R) : Calls Tryz.prog 134 #[.pointer (some ⟨b, 0, none⟩), .int .i8 op] W (QG b bt off n c ml ms d R W) := by
  obtain ⟨Post, hPost⟩ : ∃ P : Ending → World → Prop, P = QG b bt off n c ml ms d R W := ⟨_, rfl⟩
  rw [← hPost]
  have HPo : Hid (Post = QG b bt off n c ml ms d R W) := hPost
  clear hPost
  have HE : Hid (Ev w0 b bt off n c l) := hE
  have HW : Hid (Only b w0 W) := ho
  have HP : Hid (QS W b bt off n c ml ms i d) := hP
  have HBL : Hid (b < W.heap.size) := hP.cells.2.2.2.2.2.2
  clear hE ho hP
  go_enter Tryz.func134, Tryz.ntmps134
  have HC1 : Hid _ := begin_ w0 W b bt off n c ml ms i d l HE.out HW.out hi HP.out op
  go_wp2_with fail
  refine Calls.mono HC1.out ?_
  rintro r9 w1 ⟨ow1, pw1, g, rfl, hgw1, hcw1⟩
  have HSw1 : Hid (ST W w1 b bt off n c ml ms (i + 1) d g (⟨op, 0, 0, 0, [], (tk l i).pos, 0⟩ : Nd) (.slice none 0 0) [] .nil) := ST.made ow1 pw1 HBL.out hgw1 hcw1
  have hjw1 : i + 1 < n := HE.out.next hi hk0
  clear ow1 pw1 hgw1 hcw1 HC1
  have HC2 : Hid _ := takeNumber_ w0 w1 b bt off n c ml ms (i + 1) d l HE.out (HW.out.trans HSw1.out.o) hjw1 HSw1.out.p 
  go_wp2_with fail
  refine Calls.mono HC2.out ?_
  rintro r9 w2 ⟨ow2, ⟨ht, rfl, pw2⟩ | ⟨ht, rfl⟩⟩
  · rw [if_pos ht] at hR
    have HSw2 : Hid (ST W w2 b bt off n c ml ms ((i + 1) + 1) d g (⟨op, 0, 0, 0, [], (tk l i).pos, 0⟩ : Nd) (.slice none 0 0) [] .nil) := HSw1.out.only ow2 pw2
    have hjw2 : ((i + 1) + 1) < n := HE.out.next hjw1 (by rw [ht]; decide)
    clear ow2 pw2 ht HSw1 hjw1 HC2
    obtain ⟨c3, f3, hs3⟩ := HSw2.out.set 2 (a' := (⟨op, 0, (tk l (i + 1)).num, 0, [], (tk l i).pos, 0⟩ : Nd)) (x := .int .i64 (tk l (i + 1)).num) (y := .int .i64 0) (by first | rfl | (unfold pcell; rfl)) (by first | rfl | (unfold pcell; rfl))
    obtain ⟨V3, hV3⟩ : ∃ V, w2.setCell ⟨g, 2, none⟩ (.int .i64 (tk l (i + 1)).num) = V := ⟨_, rfl⟩
    rw [hV3] at hs3
    have HSV3 : Hid (ST W V3 b bt off n c ml ms ((i + 1) + 1) d g (⟨op, 0, (tk l (i + 1)).num, 0, [], (tk l i).pos, 0⟩ : Nd) (.slice none 0 0) [] .nil) := hs3
    have hjV3 := hjw2
    clear hs3 HSw2
    have HC4 : Hid _ := takeMark_ w0 V3 b bt off n c ml ms ((i + 1) + 1) d l HE.out (HW.out.trans HSV3.out.o) hjV3 HSV3.out.p ⟨#[59]⟩ [59] (by unfold TR.Byt; decide) (congrArg ByteArray.toList (show (⟨#[59]⟩ : ByteArray) = strOfNums [59] from rfl))
    go_wp2_with fail
    try rw [hV3]
    clear hV3
    refine Calls.mono HC4.out ?_
    rintro r9 w4 ⟨ow4, ⟨ht, rfl, pw4⟩ | ⟨ht, rfl⟩⟩
    · rw [if_pos ht] at hR
      have HSw4 : Hid (ST W w4 b bt off n c ml ms (((i + 1) + 1) + 1) d g (⟨op, 0, (tk l (i + 1)).num, 0, [], (tk l i).pos, 0⟩ : Nd) (.slice none 0 0) [] .nil) := HSV3.out.only ow4 pw4
      have hjw4 : (((i + 1) + 1) + 1) < n := HE.out.next hjV3 (mk_kind ht)
      clear ow4 pw4 ht HSV3 hjV3 HC4
      obtain rfl := Option.some.inj hR
      clear hR
      go_wp2_with fail
      rw [HPo.out]
      exact ⟨HSw4.out.o, g, rfl, HSw4.out.done, HSw4.out.p⟩
    · rw [if_neg (by rw [ht]; decide)] at hR
      obtain rfl : Rs.bad 22 (tk l ((i + 1) + 1)).pos = R := Option.some.inj hR
      have HO9 : Hid (Only b W w4) := HSV3.out.o.trans ow4
      clear hR ow4
      unfold pnc at *
      go_wp2_with fail
      rw [HPo.out]
      exact ⟨rfl, HO9.out, rfl⟩
  · rw [if_neg ht] at hR
    obtain rfl : Rs.bad 22 (tk l (i + 1)).pos = R := Option.some.inj hR
    have HO9 : Hid (Only b W w2) := HSw1.out.o.trans ow2
    clear hR ow2
    unfold pnc at *
    go_wp2_with fail
    rw [HPo.out]
    exact ⟨rfl, HO9.out, rfl⟩
set_option maxRecDepth 100000 in
set_option maxHeartbeats 16000000 in
theorem pcost_ (w0 W : World) (b bt off n c ml ms i d : Nat) (l : List Tok) (hE : Ev w0 b bt off n c l) (ho : Only b w0 W) (hi : i < n) (hP : QS W b bt off n c ml ms i d) (R : Rs) (hk0 : (tk l i).kind ≠ 0) (hR : (if (tk l (i + 1)).kind = 2 then (if mk (tk l (i + 2)) [59] = true then okr (nod 3 (tk l (i + 1)).num [] (tk l i).pos .nil) (i + 3) else bad (tk l (i + 2))) else bad (tk l (i + 1))) = some R) : Calls Tryz.prog 90 #[.pointer (some ⟨b, 0, none⟩)] W (QG b bt off n c ml ms d R W) := by
  obtain ⟨Post, hPost⟩ : ∃ P : Ending → World → Prop, P = QG b bt off n c ml ms d R W := ⟨_, rfl⟩
  rw [← hPost]
  have HPo : Hid (Post = QG b bt off n c ml ms d R W) := hPost
  clear hPost
  have HC : Hid _ := stat_ w0 W b bt off n c ml ms i d l hE ho hi hP R hk0 3 hR
  clear hE ho hP hR
  go_enter Tryz.func90, Tryz.ntmps90
  go_wp2_with fail
  refine Calls.mono HC.out ?_
  intro r9 w1 h
  obtain ⟨ow1, h⟩ := h
  have HOw1 : Hid (Only b W w1) := ow1
  clear ow1
  cases R with
  | bad er pp =>
    obtain rfl : r9 = pnc er pp := h
    unfold pnc at *
    go_wp2_with fail
    rw [HPo.out]
    exact ⟨rfl, HOw1.out, rfl⟩
  | ok y j =>
    obtain ⟨g, rfl, hy, p9⟩ := h
    have hy9 : PF w1 (Sn W.heap.size w1) y [ptr g] := hy
    have HR9 : Hid _ := And.intro hy9 p9
    clear hy p9 hy9
    go_wp2_with fail
    rw [HPo.out]
    exact ⟨HOw1.out, g, rfl, HR9.out.1, HR9.out.2⟩
set_option maxRecDepth 100000 in
set_option maxHeartbeats 16000000 in
theorem ppower_ (w0 W : World) (b bt off n c ml ms i d : Nat) (l : List Tok) (hE : Ev w0 b bt off n c l) (ho : Only b w0 W) (hi : i < n) (hP : QS W b bt off n c ml ms i d) (R : Rs) (hk0 : (tk l i).kind ≠ 0) (hR : (if (tk l (i + 1)).kind = 2 then (if mk (tk l (i + 2)) [59] = true then okr (nod 4 (tk l (i + 1)).num [] (tk l i).pos .nil) (i + 3) else bad (tk l (i + 2))) else bad (tk l (i + 1))) = some R) : Calls Tryz.prog 91 #[.pointer (some ⟨b, 0, none⟩)] W (QG b bt off n c ml ms d R W) := by
  obtain ⟨Post, hPost⟩ : ∃ P : Ending → World → Prop, P = QG b bt off n c ml ms d R W := ⟨_, rfl⟩
  rw [← hPost]
  have HPo : Hid (Post = QG b bt off n c ml ms d R W) := hPost
  clear hPost
  have HC : Hid _ := stat_ w0 W b bt off n c ml ms i d l hE ho hi hP R hk0 4 hR
  clear hE ho hP hR
  go_enter Tryz.func91, Tryz.ntmps91
  go_wp2_with fail
  refine Calls.mono HC.out ?_
  intro r9 w1 h
  obtain ⟨ow1, h⟩ := h
  have HOw1 : Hid (Only b W w1) := ow1
  clear ow1
  cases R with
  | bad er pp =>
    obtain rfl : r9 = pnc er pp := h
    unfold pnc at *
    go_wp2_with fail
    rw [HPo.out]
    exact ⟨rfl, HOw1.out, rfl⟩
  | ok y j =>
    obtain ⟨g, rfl, hy, p9⟩ := h
    have hy9 : PF w1 (Sn W.heap.size w1) y [ptr g] := hy
    have HR9 : Hid _ := And.intro hy9 p9
    clear hy p9 hy9
    go_wp2_with fail
    rw [HPo.out]
    exact ⟨HOw1.out, g, rfl, HR9.out.1, HR9.out.2⟩
set_option maxRecDepth 100000 in
set_option maxHeartbeats 16000000 in
theorem phealth_ (w0 W : World) (b bt off n c ml ms i d : Nat) (l : List Tok) (hE : Ev w0 b bt off n c l) (ho : Only b w0 W) (hi : i < n) (hP : QS W b bt off n c ml ms i d) (R : Rs) (hk0 : (tk l i).kind ≠ 0) (hR : (if (tk l (i + 1)).kind = 2 then (if mk (tk l (i + 2)) [59] = true then okr (nod 5 (tk l (i + 1)).num [] (tk l i).pos .nil) (i + 3) else bad (tk l (i + 2))) else bad (tk l (i + 1))) = some R) : Calls Tryz.prog 92 #[.pointer (some ⟨b, 0, none⟩)] W (QG b bt off n c ml ms d R W) := by
  obtain ⟨Post, hPost⟩ : ∃ P : Ending → World → Prop, P = QG b bt off n c ml ms d R W := ⟨_, rfl⟩
  rw [← hPost]
  have HPo : Hid (Post = QG b bt off n c ml ms d R W) := hPost
  clear hPost
  have HC : Hid _ := stat_ w0 W b bt off n c ml ms i d l hE ho hi hP R hk0 5 hR
  clear hE ho hP hR
  go_enter Tryz.func92, Tryz.ntmps92
  go_wp2_with fail
  refine Calls.mono HC.out ?_
  intro r9 w1 h
  obtain ⟨ow1, h⟩ := h
  have HOw1 : Hid (Only b W w1) := ow1
  clear ow1
  cases R with
  | bad er pp =>
    obtain rfl : r9 = pnc er pp := h
    unfold pnc at *
    go_wp2_with fail
    rw [HPo.out]
    exact ⟨rfl, HOw1.out, rfl⟩
  | ok y j =>
    obtain ⟨g, rfl, hy, p9⟩ := h
    have hy9 : PF w1 (Sn W.heap.size w1) y [ptr g] := hy
    have HR9 : Hid _ := And.intro hy9 p9
    clear hy p9 hy9
    go_wp2_with fail
    rw [HPo.out]
    exact ⟨HOw1.out, g, rfl, HR9.out.1, HR9.out.2⟩
set_option maxRecDepth 100000 in
set_option maxHeartbeats 16000000 in
theorem ptag_ (w0 W : World) (b bt off n c ml ms i d : Nat) (l : List Tok) (hE : Ev w0 b bt off n c l) (ho : Only b w0 W) (hi : i < n) (hP : QS W b bt off n c ml ms i d) (R : Rs) (hX : Ex l n) (hk0 : (tk l i).kind ≠ 0) (hR : (if (tk l (i + 1)).kind = 3 then (if mk (tk l (i + 2)) [59] = true then okr (nod 6 0 (tk l (i + 1)).text (tk l i).pos .nil) (i + 3) else bad (tk l (i + 2))) else bad (tk l (i + 1))) = some R) : Calls Tryz.prog 93 #[.pointer (some ⟨b, 0, none⟩)] W (QG b bt off n c ml ms d R W) := by
  obtain ⟨Post, hPost⟩ : ∃ P : Ending → World → Prop, P = QG b bt off n c ml ms d R W := ⟨_, rfl⟩
  rw [← hPost]
  have HPo : Hid (Post = QG b bt off n c ml ms d R W) := hPost
  clear hPost
  have HE : Hid (Ev w0 b bt off n c l) := hE
  have HXX : Hid (Ex l n) := hX
  have HW : Hid (Only b w0 W) := ho
  have HP : Hid (QS W b bt off n c ml ms i d) := hP
  have HBL : Hid (b < W.heap.size) := hP.cells.2.2.2.2.2.2
  clear hE ho hP hX
  go_enter Tryz.func93, Tryz.ntmps93
  have HC5 : Hid _ := begin_ w0 W b bt off n c ml ms i d l HE.out HW.out hi HP.out 6
  go_wp2_with fail
  refine Calls.mono HC5.out ?_
  rintro r9 w5 ⟨ow5, pw5, g, rfl, hgw5, hcw5⟩
  have HSw5 : Hid (ST W w5 b bt off n c ml ms (i + 1) d g (⟨6, 0, 0, 0, [], (tk l i).pos, 0⟩ : Nd) (.slice none 0 0) [] .nil) := ST.made ow5 pw5 HBL.out hgw5 hcw5
  have hjw5 : i + 1 < n := HE.out.next hi hk0
  clear ow5 pw5 hgw5 hcw5 HC5
  have HC6 : Hid _ := takeText_ w0 w5 b bt off n c ml ms (i + 1) d l HE.out (HW.out.trans HSw5.out.o) hjw5 HSw5.out.p HXX.out
  go_wp2_with fail
  refine Calls.mono HC6.out ?_
  rintro r9 w6 ⟨ow6, ⟨ht, rfl, pw6⟩ | ⟨ht, rfl⟩⟩
  · rw [if_pos ht] at hR
    have HSw6 : Hid (ST W w6 b bt off n c ml ms ((i + 1) + 1) d g (⟨6, 0, 0, 0, [], (tk l i).pos, 0⟩ : Nd) (.slice none 0 0) [] .nil) := HSw5.out.only ow6 pw6
    have hjw6 : ((i + 1) + 1) < n := HE.out.next hjw5 (by rw [ht]; decide)
    clear ow6 pw6 ht HSw5 hjw5 HC6
    obtain ⟨c7, f7, hs7⟩ := HSw6.out.set 4 (a' := (⟨6, 0, 0, 0, (tk l (i + 1)).text, (tk l i).pos, 0⟩ : Nd)) (x := .string (strOfNums (tk l (i + 1)).text)) (y := .string ⟨#[]⟩) (by first | rfl | (unfold pcell; rfl)) (by first | rfl | (unfold pcell; rfl))
    obtain ⟨V7, hV7⟩ : ∃ V, w6.setCell ⟨g, 4, none⟩ (.string (strOfNums (tk l (i + 1)).text)) = V := ⟨_, rfl⟩
    rw [hV7] at hs7
    have HSV7 : Hid (ST W V7 b bt off n c ml ms ((i + 1) + 1) d g (⟨6, 0, 0, 0, (tk l (i + 1)).text, (tk l i).pos, 0⟩ : Nd) (.slice none 0 0) [] .nil) := hs7
    have hjV7 := hjw6
    clear hs7 HSw6
    have HC8 : Hid _ := takeMark_ w0 V7 b bt off n c ml ms ((i + 1) + 1) d l HE.out (HW.out.trans HSV7.out.o) hjV7 HSV7.out.p ⟨#[59]⟩ [59] (by unfold TR.Byt; decide) (congrArg ByteArray.toList (show (⟨#[59]⟩ : ByteArray) = strOfNums [59] from rfl))
    go_wp2_with fail
    try rw [hV7]
    clear hV7
    refine Calls.mono HC8.out ?_
    rintro r9 w8 ⟨ow8, ⟨ht, rfl, pw8⟩ | ⟨ht, rfl⟩⟩
    · rw [if_pos ht] at hR
      have HSw8 : Hid (ST W w8 b bt off n c ml ms (((i + 1) + 1) + 1) d g (⟨6, 0, 0, 0, (tk l (i + 1)).text, (tk l i).pos, 0⟩ : Nd) (.slice none 0 0) [] .nil) := HSV7.out.only ow8 pw8
      have hjw8 : (((i + 1) + 1) + 1) < n := HE.out.next hjV7 (mk_kind ht)
      clear ow8 pw8 ht HSV7 hjV7 HC8
      obtain rfl := Option.some.inj hR
      clear hR
      go_wp2_with fail
      rw [HPo.out]
      exact ⟨HSw8.out.o, g, rfl, HSw8.out.done, HSw8.out.p⟩
    · rw [if_neg (by rw [ht]; decide)] at hR
      obtain rfl : Rs.bad 22 (tk l ((i + 1) + 1)).pos = R := Option.some.inj hR
      have HO9 : Hid (Only b W w8) := HSV7.out.o.trans ow8
      clear hR ow8
      unfold pnc at *
      go_wp2_with fail
      rw [HPo.out]
      exact ⟨rfl, HO9.out, rfl⟩
  · rw [if_neg ht] at hR
    obtain rfl : Rs.bad 22 (tk l (i + 1)).pos = R := Option.some.inj hR
    have HO9 : Hid (Only b W w6) := HSw5.out.o.trans ow6
    clear hR ow6
    unfold pnc at *
    go_wp2_with fail
    rw [HPo.out]
    exact ⟨rfl, HO9.out, rfl⟩
end TP
end Go.Proofs.YtkldllnnocdhbaaGreatDoor
namespace Go.Proofs.YtkldllnnocdhbaaGreatDoor
open Go.RowKit
attribute [local go_sem ↓] Go.wp_at_zero Go.wp_at_succ
namespace TP
open TR (Nd Byt nums_inj)
open TK (Tok)
def onP (l : List Tok) (N i d : Nat) : Option Rs := (match evnt (tk l (i + 1)) with | none => bad (tk l (i + 1)) | some v => if wd (tk l (i + 2)) [119, 104, 101, 110] = true then bd (P l N (.row 1) (i + 3) d) fun x j => bd (P l N .block j d) fun y k => okr (nod 7 v [] (tk l i).pos (x.app y)) k else bd (P l N .block (i + 2) d) fun y k => okr (nod 7 v [] (tk l i).pos y) k)
set_option maxRecDepth 100000 in
set_option maxHeartbeats 16000000 in
theorem pon_ (w0 W : World) (b bt off n c ml ms i d : Nat) (l : List Tok) (hE : Ev w0 b bt off n c l) (ho : Only b w0 W) (hi : i < n) (hP : QS W b bt off n c ml ms i d) (hd : d ≤ 64) (N : Nat) (R : Rs) (hl : (tk l (l.length - 1)).kind = 0) (hk0 : (tk l i).kind ≠ 0) (hF : Prt w0 b bt off n c ml ms l N 27 (.row 1)) (hG : Prt w0 b bt off n c ml ms l N 140 (.block)) (hR : onP l N i d = some R) : Calls Tryz.prog 94 #[.pointer (some ⟨b, 0, none⟩)] W (QG b bt off n c ml ms d R W) := by
  obtain ⟨Post, hPost⟩ : ∃ P : Ending → World → Prop, P = QG b bt off n c ml ms d R W := ⟨_, rfl⟩
  rw [← hPost]
  have HPo : Hid (Post = QG b bt off n c ml ms d R W) := hPost
  clear hPost
  unfold onP at hR
  have HE : Hid (Ev w0 b bt off n c l) := hE
  have HW : Hid (Only b w0 W) := ho
  have HP : Hid (QS W b bt off n c ml ms i d) := hP
  have HLA : Hid ((tk l (l.length - 1)).kind = 0) := hl
  have HBL : Hid (b < W.heap.size) := hP.cells.2.2.2.2.2.2
  have HEX : Hid (Prt w0 b bt off n c ml ms l N 27 (.row 1)) := hF
  have HBK : Hid (Prt w0 b bt off n c ml ms l N 140 (.block)) := hG
  clear hE ho hP hl hF hG
  go_enter Tryz.func94, Tryz.ntmps94
  have HC9 : Hid _ := begin_ w0 W b bt off n c ml ms i d l HE.out HW.out hi HP.out 7
  go_wp2_with fail
  refine Calls.mono HC9.out ?_
  rintro r9 w9 ⟨ow9, pw9, g, rfl, hgw9, hcw9⟩
  have HSw9 : Hid (ST W w9 b bt off n c ml ms (i + 1) d g (⟨7, 0, 0, 0, [], (tk l i).pos, 0⟩ : Nd) (.slice none 0 0) [] .nil) := ST.made ow9 pw9 HBL.out hgw9 hcw9
  have hjw9 : i + 1 < n := HE.out.next hi hk0
  clear ow9 pw9 hgw9 hcw9 HC9
  obtain ⟨Wa10, hWa10⟩ : ∃ Wa, w9.alloc (.cells #[.string ⟨#[112, 108, 97, 121]⟩, .string ⟨#[100, 105, 101]⟩, .string ⟨#[104, 105, 116]⟩, .string ⟨#[116, 117, 114, 110]⟩, .string ⟨#[100, 114, 97, 119]⟩] 9) = Wa := ⟨_, rfl⟩
  have HSWa10 : Hid (ST W Wa10 b bt off n c ml ms (i + 1) d g (⟨7, 0, 0, 0, [], (tk l i).pos, 0⟩ : Nd) (.slice none 0 0) [] .nil) := by unfold Hid; rw [← hWa10]; exact HSw9.out.up ((Up.refl _).alloc _)
  have HN10 : Hid _ := name_ w0 Wa10 b bt off n c ml ms (i + 1) d l HE.out (HW.out.trans HSWa10.out.o) hjw9 HSWa10.out.p
  have hbn : Byt (nm (tk l (i + 1))) := by
    unfold nm
    split
    · exact HE.out.byt (i + 1) hjw9
    · intro c hc
      cases hc
  have HI10 : Hid (∀ W2, Up Wa10 W2 → Calls Tryz.prog 136 #[.slice (some ⟨w9.heap.size, 0, none⟩) 5 5, .string (strOfNums (nm (tk l (i + 1))))] W2 fun r w' => r = .returned (.int .i64 (iw (nm (tk l (i + 1))) eqs 0)) ∧ w' = W2) := fun W2 hu => index0_ _ eqs (nm (tk l (i + 1))) W2 (sl_lit eqs eqs_row (by rw [← hWa10]; exact heap_alloc_new _ _) hu) hbn eqs_byt (by decide)
  rw [evnt_iw] at hR
  have HKZ : Hid ((tk l (i + 1)).kind = 0 → iw (nm (tk l (i + 1))) eqs 0 = -1) := fun h => by
    have h9 : nm (tk l (i + 1)) = [] := by unfold nm; rw [if_neg (by rw [h]; decide)]
    rw [h9]
    decide
  generalize iw (nm (tk l (i + 1))) eqs 0 = z at *
  generalize strOfNums (nm (tk l (i + 1))) = sn at *
  clear hbn
  go_wp2_with fail
  try rw [hWa10]
  clear hWa10
  refine Calls.mono HN10.out ?_
  rintro r9 wb10 ⟨rfl, ub10⟩
  have HSwb10 : Hid (ST W wb10 b bt off n c ml ms (i + 1) d g (⟨7, 0, 0, 0, [], (tk l i).pos, 0⟩ : Nd) (.slice none 0 0) [] .nil) := HSWa10.out.up ub10
  have HC10 := HI10.out wb10 ub10
  clear ub10 HN10 HI10 HSWa10 HSw9
  go_wp2_with fail
  refine Calls.mono HC10 ?_
  rintro r9 wc10 ⟨rfl, ec10⟩
  obtain rfl := ec10.symm
  clear ec10 HC10
  by_cases hz : z < 0
  · have HD9 : Hid (decide ((0 : Int) ≤ z) = false) := by unfold Hid; rw [decide_eq_false_iff_not]; omega
    rw [if_pos hz] at hR
    have HC210 : Hid _ := take_f w0 wb10 b bt off n c ml ms (i + 1) d l HE.out (HW.out.trans HSwb10.out.o) hjw9 HSwb10.out.p
    obtain rfl : Rs.bad 22 (tk l (i + 1)).pos = R := Option.some.inj hR
    clear hR HKZ hz
    go_wp2_with fail
    rw [HD9.out]
    refine Calls.mono HC210.out ?_
    rintro r9 w10 ⟨rfl, uw10⟩
    have HO9 : Hid (Only b W w10) := HSwb10.out.o.trans (Only.up uw10)
    clear uw10
    unfold pnc at *
    go_wp2_with fail
    rw [HPo.out]
    exact ⟨rfl, HO9.out, rfl⟩
  · have HD9 : Hid (decide ((0 : Int) ≤ z) = true) := by unfold Hid; rw [decide_eq_true_eq]; omega
    rw [if_neg hz] at hR
    have hR : _ = some R := hR
    try dsimp only at hR
    have HC210 : Hid _ := take_t w0 wb10 b bt off n c ml ms (i + 1) d l HE.out (HW.out.trans HSwb10.out.o) hjw9 HSwb10.out.p
    have hjw10 : ((i + 1) + 1) < n := HE.out.next hjw9 (fun h => by have := HKZ.out h; omega)
    clear HKZ hz
    go_wp2_with fail
    rw [HD9.out]
    refine Calls.mono HC210.out ?_
    rintro r9 w10 ⟨rfl, ow10, pw10⟩
    have HSw10 : Hid (ST W w10 b bt off n c ml ms ((i + 1) + 1) d g (⟨7, 0, 0, 0, [], (tk l i).pos, 0⟩ : Nd) (.slice none 0 0) [] .nil) := HSwb10.out.only ow10 pw10
    clear ow10 pw10 HC210 HSwb10 hjw9
    obtain ⟨c11, f11, hs11⟩ := HSw10.out.set 2 (a' := (⟨7, 0, z, 0, [], (tk l i).pos, 0⟩ : Nd)) (x := .int .i64 z) (y := .int .i64 0) (by first | rfl | (unfold pcell; rfl)) (by first | rfl | (unfold pcell; rfl))
    obtain ⟨V11, hV11⟩ : ∃ V, w10.setCell ⟨g, 2, none⟩ (.int .i64 z) = V := ⟨_, rfl⟩
    rw [hV11] at hs11
    have HSV11 : Hid (ST W V11 b bt off n c ml ms ((i + 1) + 1) d g (⟨7, 0, z, 0, [], (tk l i).pos, 0⟩ : Nd) (.slice none 0 0) [] .nil) := hs11
    have hjV11 := hjw10
    clear hs11 HSw10
    have HC12 : Hid _ := isWord_ w0 V11 b bt off n c ml ms ((i + 1) + 1) d l HE.out (HW.out.trans HSV11.out.o) hjV11 HSV11.out.p ⟨#[119, 104, 101, 110]⟩ [119, 104, 101, 110] (by unfold TR.Byt; decide) (congrArg ByteArray.toList (show (⟨#[119, 104, 101, 110]⟩ : ByteArray) = strOfNums [119, 104, 101, 110] from rfl)) (by decide)
    cases ht12 : wd (tk l ((i + 1) + 1)) [119, 104, 101, 110] with
    | true =>
      rw [ht12] at HC12
      rw [if_pos ht12] at hR
      go_wp2_with fail
      try rw [hV11]
      clear hV11
      refine Calls.mono HC12.out ?_
      rintro r9 w12 ⟨rfl, uw12⟩
      have HSw12 : Hid (ST W w12 b bt off n c ml ms ((i + 1) + 1) d g (⟨7, 0, z, 0, [], (tk l i).pos, 0⟩ : Nd) (.slice none 0 0) [] .nil) := HSV11.out.up uw12
      have hjw12 := hjV11
      clear uw12 HC12 HSV11 hjV11
      have HC13 : Hid _ := pass_ w0 w12 b bt off n c ml ms ((i + 1) + 1) d l HE.out (HW.out.trans HSw12.out.o) hjw12 HSw12.out.p
      go_wp2_with fail
      refine Calls.mono HC13.out ?_
      rintro r9 w13 ⟨rfl, ow13, pw13⟩
      have HSw13 : Hid (ST W w13 b bt off n c ml ms (((i + 1) + 1) + 1) d g (⟨7, 0, z, 0, [], (tk l i).pos, 0⟩ : Nd) (.slice none 0 0) [] .nil) := HSw12.out.only ow13 pw13
      have hjw13 : (((i + 1) + 1) + 1) < n := HE.out.next hjw12 (wd_kind ht12)
      clear ow13 pw13 HC13 HSw12 hjw12
      obtain ⟨R14, h14, hb14⟩ := bd_get hR
      have HC14 : Hid _ := HEX.out (((i + 1) + 1) + 1) d R14 w13 (HW.out.trans (HSw13.out.o)) (HSw13.out.p) hjw13 hd h14
      have HL14 : Hid (∀ f q, R14 = .ok f q → q < n) := fun f q e => ok_lt HE.out HLA.out (by rw [h14, e]) hjw13
      clear hR h14
      go_wp2_with fail
      refine Calls.mono HC14.out ?_
      intro r9 w14 hh
      obtain ⟨ow14, hh⟩ := hh
      clear HC14
      cases R14 with
      | bad er pp =>
        obtain rfl : r9 = pnc er pp := hh
        obtain rfl := bd_bad hb14
        have HO9 : Hid (Only b W w14) := (HSw13.out.o).trans ow14
        clear hb14 ow14
        unfold pnc at *
        go_wp2_with fail
        rw [HPo.out]
        exact ⟨rfl, HO9.out, rfl⟩
      | ok y14 q14 =>
        obtain ⟨gr14, rfl, hy14, pw14⟩ := hh
        have hR := bd_ok hb14
        try dsimp only at hR
        have hjw14 := HL14.out y14 q14 rfl
        have HO14 : Hid (Only b w13 w14) := ow14
        have HP14 : Hid (QS w14 b bt off n c ml ms q14 d) := pw14
        have HY14 : Hid (PF w14 (Sn w13.heap.size w14) y14 [ptr gr14]) := hy14
        clear hb14 HL14 ow14 pw14 hy14
        have HA15 : Hid _ := HSw13.out.add1 HO14.out HP14.out HY14.out (by simp)
        go_wp2_with fail
        refine Calls.mono HA15.out ?_
        rintro r9 w15 ⟨rfl, sv15, hs15⟩
        have HSw15 : Hid (ST W w15 b bt off n c ml ms q14 d g (⟨7, 0, z, 0, [], (tk l i).pos, 0⟩ : Nd) sv15 ([] ++ [ptr gr14]) (Fo.app .nil y14)) := hs15
        have hjw15 := hjw14
        clear hs15 HA15 HO14 HP14 HY14 HSw13
        obtain ⟨R16, h16, hb16⟩ := bd_get hR
        have HC16 : Hid _ := HBK.out q14 d R16 w15 (HW.out.trans (HSw15.out.o)) (HSw15.out.p) hjw15 hd h16
        have HL16 : Hid (∀ f q, R16 = .ok f q → q < n) := fun f q e => ok_lt HE.out HLA.out (by rw [h16, e]) hjw15
        clear hR h16
        go_wp2_with fail
        refine Calls.mono HC16.out ?_
        intro r9 w16 hh
        obtain ⟨ow16, hh⟩ := hh
        clear HC16
        cases R16 with
        | bad er pp =>
          obtain rfl : r9 = pnc er pp := hh
          obtain rfl := bd_bad hb16
          have HO9 : Hid (Only b W w16) := (HSw15.out.o).trans ow16
          clear hb16 ow16
          unfold pnc at *
          go_wp2_with fail
          rw [HPo.out]
          exact ⟨rfl, HO9.out, rfl⟩
        | ok y16 q16 =>
          obtain ⟨gr16, rfl, hy16, pw16⟩ := hh
          have hR := bd_ok hb16
          try dsimp only at hR
          have hjw16 := HL16.out y16 q16 rfl
          have HO16 : Hid (Only b w15 w16) := ow16
          have HP16 : Hid (QS w16 b bt off n c ml ms q16 d) := pw16
          have HY16 : Hid (PF w16 (Sn w15.heap.size w16) y16 [ptr gr16]) := hy16
          clear hb16 HL16 ow16 pw16 hy16
          have HA17 : Hid _ := HSw15.out.add1 HO16.out HP16.out HY16.out (by simp)
          go_wp2_with fail
          refine Calls.mono HA17.out ?_
          rintro r9 w17 ⟨rfl, sv17, hs17⟩
          have HSw17 : Hid (ST W w17 b bt off n c ml ms q16 d g (⟨7, 0, z, 0, [], (tk l i).pos, 0⟩ : Nd) sv17 (([] ++ [ptr gr14]) ++ [ptr gr16]) (Fo.app (Fo.app .nil y14) y16)) := hs17
          have hjw17 := hjw16
          clear hs17 HA17 HO16 HP16 HY16 HSw15
          obtain rfl := Option.some.inj hR
          clear hR
          go_wp2_with fail
          rw [HPo.out]
          exact ⟨HSw17.out.o, g, rfl, HSw17.out.done, HSw17.out.p⟩
    | false =>
      rw [ht12] at HC12
      rw [if_neg (by rw [ht12]; decide)] at hR
      go_wp2_with fail
      try rw [hV11]
      clear hV11
      refine Calls.mono HC12.out ?_
      rintro r9 w12 ⟨rfl, uw12⟩
      have HSw12 : Hid (ST W w12 b bt off n c ml ms ((i + 1) + 1) d g (⟨7, 0, z, 0, [], (tk l i).pos, 0⟩ : Nd) (.slice none 0 0) [] .nil) := HSV11.out.up uw12
      have hjw12 := hjV11
      clear uw12 HC12 HSV11 hjV11
      obtain ⟨R18, h18, hb18⟩ := bd_get hR
      have HC18 : Hid _ := HBK.out ((i + 1) + 1) d R18 w12 (HW.out.trans (HSw12.out.o)) (HSw12.out.p) hjw12 hd h18
      have HL18 : Hid (∀ f q, R18 = .ok f q → q < n) := fun f q e => ok_lt HE.out HLA.out (by rw [h18, e]) hjw12
      clear hR h18
      go_wp2_with fail
      refine Calls.mono HC18.out ?_
      intro r9 w18 hh
      obtain ⟨ow18, hh⟩ := hh
      clear HC18
      cases R18 with
      | bad er pp =>
        obtain rfl : r9 = pnc er pp := hh
        obtain rfl := bd_bad hb18
        have HO9 : Hid (Only b W w18) := (HSw12.out.o).trans ow18
        clear hb18 ow18
        unfold pnc at *
        go_wp2_with fail
        rw [HPo.out]
        exact ⟨rfl, HO9.out, rfl⟩
      | ok y18 q18 =>
        obtain ⟨gr18, rfl, hy18, pw18⟩ := hh
        have hR := bd_ok hb18
        try dsimp only at hR
        have hjw18 := HL18.out y18 q18 rfl
        have HO18 : Hid (Only b w12 w18) := ow18
        have HP18 : Hid (QS w18 b bt off n c ml ms q18 d) := pw18
        have HY18 : Hid (PF w18 (Sn w12.heap.size w18) y18 [ptr gr18]) := hy18
        clear hb18 HL18 ow18 pw18 hy18
        have HA19 : Hid _ := HSw12.out.add1 HO18.out HP18.out HY18.out (by simp)
        go_wp2_with fail
        refine Calls.mono HA19.out ?_
        rintro r9 w19 ⟨rfl, sv19, hs19⟩
        have HSw19 : Hid (ST W w19 b bt off n c ml ms q18 d g (⟨7, 0, z, 0, [], (tk l i).pos, 0⟩ : Nd) sv19 ([] ++ [ptr gr18]) (Fo.app .nil y18)) := hs19
        have hjw19 := hjw18
        clear hs19 HA19 HO18 HP18 HY18 HSw12
        obtain rfl := Option.some.inj hR
        clear hR
        go_wp2_with fail
        rw [HPo.out]
        exact ⟨HSw19.out.o, g, rfl, HSw19.out.done, HSw19.out.p⟩
end TP
end Go.Proofs.YtkldllnnocdhbaaGreatDoor
