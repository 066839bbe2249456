/-
  The program's parser: what stands in parentheses with commas between.
-/
import Derived.Test.YtkldllnnocdhbaaGreatDoorBk10
namespace Go.Proofs.YtkldllnnocdhbaaGreatDoor
open Go.RowKit
attribute [local go_sem ↓] Go.wp_at_zero Go.wp_at_succ
namespace TP
open TR (Nd Byt nums_inj)
open TK (Tok)
/- a list of plants that is being made -/
structure LB (W : World) (lo : Nat) (sv : Value) (kv : List Value) (k : Fo) : Prop where
  row : W.ownsRow lo 91 1 sv kv.length kv
  pf : ∃ S, PF W S k kv ∧ (∀ k1, sv.ownBlock = some k1 → ¬ S k1) ∧ ∀ x, S x → Sn lo W x
theorem LB.nil (W : World) (lo : Nat) : LB W lo (.slice none 0 0) [] .nil := ⟨World.ownsRow_nil _ _ _ _, fun _ => False, rfl, fun _ _ h => h, fun _ h => h.elim⟩
theorem LB.keep {W W' : World} {lo : Nat} {sv : Value} {kv : List Value} {k : Fo} (h : LB W lo sv kv k) (hs : W.heap.size ≤ W'.heap.size) (hk : ∀ x o, lo ≤ x → W.heap[x]? = some o → W'.heap[x]? = some o) : LB W' lo sv kv k := by
  obtain ⟨S, h1, h3, h4⟩ := h.pf
  exact ⟨ows_heap h.row hk, S, PF.keep (fun x o hx e => hk x o (h4 x hx).1 e) k kv h1, h3, fun x hx => ⟨(h4 x hx).1, Nat.lt_of_lt_of_le (h4 x hx).2 hs⟩⟩
theorem LB.only {b : Nat} {W W' : World} {lo : Nat} {sv : Value} {kv : List Value} {k : Fo} (h : LB W lo sv kv k) (ho : Only b W W') (hb : b < lo) : LB W' lo sv kv k := h.keep ho.2.1 fun x o hx e => ho.heap e (by omega)
theorem LB.up {W W' : World} {lo : Nat} {sv : Value} {kv : List Value} {k : Fo} (h : LB W lo sv kv k) (u : Up W W') : LB W' lo sv kv k := h.keep u.size fun _ _ _ e => u.heap e
theorem LB.len {W : World} {lo : Nat} {sv : Value} {kv : List Value} {k : Fo} (h : LB W lo sv kv k) : kv.length = cntF k := by
  obtain ⟨S, h1, -⟩ := h.pf
  exact PF.len k kv h1
/- behind an append -/
theorem LB.more {b : Nat} {W0 W V : World} {lo : Nat} {sv v' : Value} {kv vs : List Value} {k k2 : Fo} {S2 : Nat → Prop} (h : LB W lo sv kv k) (p2 : PF W S2 k2 vs) (ho2 : ∀ k1, sv.ownBlock = some k1 → ¬ S2 k1) (hb2 : ∀ x, S2 x → Sn lo W x)
    (hr : V.ownsRow lo 91 1 v' (kv.length + vs.length) (kv ++ vs)) (hg : W.grownBy V sv.ownBlock) (hl : LiesN sv v' W) (ho : Only b W0 W) (hlo : W0.heap.size ≤ lo) : LB V lo v' (kv ++ vs) (k.app k2) ∧ Only b W0 V ∧ ∀ x o, x < lo → W.heap[x]? = some o → V.heap[x]? = some o := by
  obtain ⟨S, h1, h3, h4⟩ := h.pf
  have hold : ∀ x o, sv.ownBlock ≠ some x → W.heap[x]? = some o → V.heap[x]? = some o := fun x o hs e => by
    rw [hg.block x (Array.getElem?_eq_some_iff.1 e).1 (Ne.symm hs)]
    exact e
  have hv' : ∀ k1, v'.ownBlock = some k1 → ¬ S k1 ∧ ¬ S2 k1 := fun k1 e => by
    rcases hl with e1 | ⟨g1, e1, e2⟩
    · rw [e1] at e
      exact ⟨h3 k1 e, ho2 k1 e⟩
    · rw [e1] at e
      have e9 : g1 = k1 := by simpa using e
      subst e9
      exact ⟨fun hS => by have := (h4 _ hS).2; omega, fun hS => by have := (hb2 _ hS).2; omega⟩
  refine ⟨⟨by rw [List.length_append]; exact hr, fun x => S x ∨ S2 x, ?_, fun k1 e hS => hS.elim (hv' k1 e).1 (hv' k1 e).2, fun x hS => ?_⟩, only_exc (T := fun k => sv.ownBlock = some k) ho ⟨⟨hg.os, hg.tape, hg.output⟩, hg.size, fun k hk ht => hg.block k hk (fun e => ht e.symm)⟩ (fun k1 e => Nat.le_trans hlo (World.ownsRow.lt h.row k1 e).1), fun x o hx e => hold x o (fun e9 => by have := (World.ownsRow.lt h.row x e9).1; omega) e⟩
  · have q1 : PF V (fun x => S x ∨ S2 x) k kv := PF.mono (fun x hx => .inl hx) k kv (PF.keep (fun x o hx e => hold x o (fun e9 => h3 x e9 hx) e) k kv h1)
    have q2 : PF V (fun x => S x ∨ S2 x) k2 vs := PF.mono (fun x hx => .inr hx) k2 vs (PF.keep (fun x o hx e => hold x o (fun e9 => ho2 x e9 hx) e) k2 vs p2)
    exact PF.app k k2 kv vs q1 q2
  · have hs := hg.size
    rcases hS with hS | hS
    · exact ⟨(h4 x hS).1, by have := (h4 x hS).2; omega⟩
    · exact ⟨(hb2 x hS).1, by have := (hb2 x hS).2; omega⟩
theorem PF.one {W : World} {S : Nat → Prop} : ∀ (f : Fo) (vs : List Value), PF W S f vs → ∀ u ∈ vs, u.oneCell' = true
  | .nil, vs, h => by
    have h : vs = [] := h
    rw [h]
    intro u hu
    cases hu
  | .cons _ k r, vs, ⟨g, sv, kv, ws, h1, _, _, _, _, _, h7⟩ => by
    rw [h1]
    intro u hu
    rcases List.mem_cons.1 hu with rfl | hu
    · rfl
    · exact PF.one r ws h7 u hu
/- what a list in parentheses answers -/
def QL (b bt off n c ml ms d : Nat) (R : Rs) (W : World) (e : Ending) (W' : World) : Prop := Only b W W' ∧ match R with
  | .ok f j => ∃ sv kv, e = .returned sv ∧ LB W' W.heap.size sv kv f ∧ QS W' b bt off n c ml ms j d ∧ (kv = [] → sv = .slice none 0 0)
  | .bad er pp => e = pnc er pp
set_option maxRecDepth 100000 in
set_option maxHeartbeats 16000000 in
theorem parens_ (w0 W : World) (b bt off n c ml ms i d : Nat) (l : List Tok) (hE : Ev w0 b bt off n c l) (ho : Only b w0 W) (hi : i < n) (hP : QS W b bt off n c ml ms i d) (hd : d ≤ 64) (N : Nat) (R : Rs) (hl : (tk l (l.length - 1)).kind = 0) (hm : mk (tk l i) [40] = true) (hF : Prt w0 b bt off n c ml ms l N 27 (.row 1)) (hR : (if d = 64 then deep (tk l i) else bd (P l N (.row 1) (i + 1) (d + 1)) (fun x j => if mk (tk l j) [41] = true then okr x (j + 1) else bad (tk l j))) = some R) : Calls Tryz.prog 204 #[.pointer (some ⟨b, 0, none⟩)] W (QG b bt off n c ml ms d R W) := by
  obtain ⟨Post, hPost⟩ : ∃ P : Ending → World → Prop, P = QG b bt off n c ml ms d R W := ⟨_, rfl⟩
  rw [← hPost]
  have HPo : Hid (Post = QG b bt off n c ml ms d R W) := hPost
  clear hPost
  have HEN : Hid (∀ W2, Up W W2 → Calls Tryz.prog 167 #[.pointer (some ⟨b, 0, none⟩), .string ⟨#[40]⟩] W2 (fun r w' => Only b W2 w' ∧ ((mk (tk l i) [40] = true ∧ d ≠ 64 ∧ r = .returned (.tuple #[]) ∧ QS w' b bt off n c ml ms (i + 1) (d + 1)) ∨ (mk (tk l i) [40] = true ∧ d = 64 ∧ r = pnc 23 (tk l i).pos) ∨ (mk (tk l i) [40] = false ∧ r = pnc 22 (tk l i).pos)))) := fun W2 hu => enter_ w0 W2 b bt off n c ml ms i d l hE (ho.trans (Only.up hu)) hi (hP.up hu) ⟨#[40]⟩ [40] (by unfold TR.Byt; decide) (congrArg ByteArray.toList (show (⟨#[40]⟩ : ByteArray) = strOfNums [40] from rfl)) hd
  have HE : Hid (Ev w0 b bt off n c l) := hE
  have HW : Hid (Only b w0 W) := ho
  have HLA : Hid ((tk l (l.length - 1)).kind = 0) := hl
  have HLN : Hid (n = l.length) := hE.len
  have HF : Hid (Prt w0 b bt off n c ml ms l N 27 (.row 1)) := hF
  have hbl := hP.cells.2.2.2.2.2.2
  have hi1 : i + 1 < n := hE.next hi (mk_kind hm)
  clear hE ho hP hF hl
  go_enter Tryz.func204, Tryz.ntmps204
  go_wp2_with fail
  refine Calls.mono (HEN.out W (Up.refl _)) ?_
  rintro r w1 ⟨ow1, ⟨-, h64, rfl, p1⟩ | ⟨-, h64, rfl⟩ | ⟨h9, -⟩⟩
  · have HOw1 : Hid (Only b W w1) := ow1
    rw [if_neg h64] at hR
    obtain ⟨R1, hR1, hb1⟩ : ∃ R1, P l N (.row 1) (i + 1) (d + 1) = some R1 ∧ bd (some R1) (fun x j => if mk (tk l j) [41] = true then okr x (j + 1) else bad (tk l j)) = some R := by
      cases h9 : P l N (.row 1) (i + 1) (d + 1) with
      | none => rw [h9] at hR; cases hR
      | some R1 => rw [h9] at hR; exact ⟨R1, rfl, hR⟩
    have HFC : Hid (Calls Tryz.prog 27 #[.pointer (some ⟨b, 0, none⟩)] w1 (QG b bt off n c ml ms (d + 1) R1 w1)) := HF.out (i + 1) (d + 1) R1 w1 (HW.out.trans ow1) p1 hi1 (by omega) hR1
    have HS1 : Hid (∀ x j, R1 = .ok x j → j < n) := fun x j e => by
      subst e
      have h9 := stays HLA.out hR1 (by have := HLN.out; omega)
      have := h9.2.1
      have := HLN.out
      omega
    clear ow1 p1 HEN hR hR1
    go_wp2_with fail
    refine Calls.mono HFC.out ?_
    intro r9 w2 h
    obtain ⟨o2, h⟩ := h
    have HOw2 : Hid (Only b W w2) := HOw1.out.trans o2
    have hs1 := HOw1.out.2.1
    clear o2 HFC
    cases R1 with
    | bad er pp =>
      obtain rfl : r9 = pnc er pp := h
      obtain rfl : Rs.bad er pp = R := Option.some.inj hb1
      unfold pnc at *
      go_wp2_with fail
      rw [HPo.out]
      exact ⟨rfl, HOw2.out, rfl⟩
    | ok x j =>
      obtain ⟨g, rfl, hx, p2⟩ := h
      have hj := HS1.out x j rfl
      have hb1 : (if mk (tk l j) [41] = true then okr x (j + 1) else bad (tk l j)) = some R := hb1
      have HX2 : Hid (PF w2 (fun z => W.heap.size ≤ z ∧ z < w2.heap.size) x [ptr g]) := PF.mono (fun z hz => ⟨Nat.le_trans hs1 hz.1, hz.2⟩) x _ hx
      have HLV : Hid (Calls Tryz.prog 169 #[.pointer (some ⟨b, 0, none⟩), .string ⟨#[41]⟩] w2 (fun r w' => Only b w2 w' ∧ ((mk (tk l j) [41] = true ∧ r = .returned (.tuple #[]) ∧ QS w' b bt off n c ml ms (j + 1) d) ∨ (mk (tk l j) [41] = false ∧ r = pnc 22 (tk l j).pos)))) := leave_ w0 w2 b bt off n c ml ms j (d + 1) l HE.out (HW.out.trans HOw2.out) hj p2 ⟨#[41]⟩ [41] (by unfold TR.Byt; decide) (congrArg ByteArray.toList (show (⟨#[41]⟩ : ByteArray) = strOfNums [41] from rfl)) d rfl (by omega)
      clear hx p2 HS1
      go_wp2_with fail
      refine Calls.mono HLV.out ?_
      rintro r w3 ⟨ow3, ⟨hm3, rfl, p3⟩ | ⟨hm3, rfl⟩⟩
      · rw [if_pos hm3] at hb1
        obtain rfl := Option.some.inj hb1
        have HO3 : Hid (Only b W w3) := HOw2.out.trans ow3
        have HX3 : Hid (PF w3 (Sn W.heap.size w3) x [ptr g]) := PF.mono (fun z hz => ⟨hz.1, Nat.lt_of_lt_of_le hz.2 ow3.2.1⟩) x _ (PF.only HX2.out ow3 hbl)
        have HP3 : Hid (QS w3 b bt off n c ml ms (j + 1) d) := p3
        clear hb1 ow3 p3 HLV HX2
        go_wp2_with fail
        rw [HPo.out]
        exact ⟨HO3.out, g, rfl, HX3.out, HP3.out⟩
      · rw [if_neg (by rw [hm3]; decide)] at hb1
        obtain rfl : Rs.bad 22 (tk l j).pos = R := Option.some.inj hb1
        have HO3 : Hid (Only b W w3) := HOw2.out.trans ow3
        clear hb1 ow3 HLV HX2
        unfold pnc at *
        go_wp2_with fail
        rw [HPo.out]
        exact ⟨rfl, HO3.out, rfl⟩
  · rw [if_pos h64] at hR
    obtain rfl : Rs.bad 23 (tk l i).pos = R := Option.some.inj hR
    have HO3 : Hid (Only b W w1) := ow1
    clear hR ow1 HEN
    unfold pnc at *
    go_wp2_with fail
    rw [HPo.out]
    exact ⟨rfl, HO3.out, rfl⟩
  · rw [hm] at h9
    cases h9
end TP
end Go.Proofs.YtkldllnnocdhbaaGreatDoor
namespace Go.Proofs.YtkldllnnocdhbaaGreatDoor
open Go.RowKit
attribute [local go_sem ↓] Go.wp_at_zero Go.wp_at_succ
namespace TP
open TR (Nd Byt nums_inj)
open TK (Tok)
def lenW : Value → Nat
  | .slice _ n _ => n
  | _ => 0
set_option maxRecDepth 100000 in
set_option maxHeartbeats 16000000 in
theorem listed_ (w0 W : World) (b bt off n c ml ms i d : Nat) (l : List Tok) (hE : Ev w0 b bt off n c l) (ho : Only b w0 W) (hi : i < n) (hP : QS W b bt off n c ml ms i d) (hd : d ≤ 64) (N : Nat) (R : Rs) (hl : (tk l (l.length - 1)).kind = 0) (f : FuncId) (hen : Ent f) (a : Bool) (hF : ∀ k, k ≤ N → Prt w0 b bt off n c ml ms l k f (if a = true then G.arg else .row 1)) (hR : P l (N + 1) (.args a) i d = some R) : Calls Tryz.prog 147 #[.pointer (some ⟨b, 0, none⟩), .func (.func f) #[.pointer (some ⟨b, 0, none⟩)] #[]] W (QL b bt off n c ml ms d R W) := by
  obtain ⟨Post, hPost⟩ : ∃ P : Ending → World → Prop, P = QL b bt off n c ml ms d R W := ⟨_, rfl⟩
  rw [← hPost]
  have HPo : Hid (Post = QL b bt off n c ml ms d R W) := hPost
  clear hPost
  have hent : ∀ (args : Array Value) (w : World), (callFunc f args).run Tryz.prog w = .ok (.enter f args) w := hen
  obtain ⟨iT, hiT, z0, z1, z2⟩ := info_parts infoPe
  have HEN : Hid (∀ W2, Up W W2 → Calls Tryz.prog 167 #[.pointer (some ⟨b, 0, none⟩), .string ⟨#[40]⟩] W2 (fun r w' => Only b W2 w' ∧ ((mk (tk l i) [40] = true ∧ d ≠ 64 ∧ r = .returned (.tuple #[]) ∧ QS w' b bt off n c ml ms (i + 1) (d + 1)) ∨ (mk (tk l i) [40] = true ∧ d = 64 ∧ r = pnc 23 (tk l i).pos) ∨ (mk (tk l i) [40] = false ∧ r = pnc 22 (tk l i).pos)))) := fun W2 hu => enter_ w0 W2 b bt off n c ml ms i d l hE (ho.trans (Only.up hu)) hi (hP.up hu) ⟨#[40]⟩ [40] (by unfold TR.Byt; decide) (congrArg ByteArray.toList (show (⟨#[40]⟩ : ByteArray) = strOfNums [40] from rfl)) hd
  have HE : Hid (Ev w0 b bt off n c l) := hE
  have HW : Hid (Only b w0 W) := ho
  have HLA : Hid ((tk l (l.length - 1)).kind = 0) := hl
  have HLN : Hid (n = l.length) := hE.len
  have hcon : con (if a = true then G.arg else .row 1) = 1 := by cases a <;> rfl
  have HF : Hid (∀ k, k ≤ N → Prt w0 b bt off n c ml ms l k f (if a = true then G.arg else .row 1)) := hF
  have hbl := hP.cells.2.2.2.2.2.2
  have HBL : Hid (b < W.heap.size) := hbl
  have hns := hE.small
  have hnx : mk (tk l i) [40] = true → i + 1 < n := fun h => hE.next hi (mk_kind h)
  rw [P] at hR
  clear hE ho hP hF hl
  go_enter Tryz.func147, Tryz.ntmps147
  go_wp2_with fail
  refine Calls.mono (HEN.out W (Up.refl _)) ?_
  rintro r w1 ⟨ow1, ⟨hmo, h64, rfl, p1⟩ | ⟨hmo, h64, rfl⟩ | ⟨hmo, rfl⟩⟩
  · have HOw1 : Hid (Only b W w1) := ow1
    have HPw1 : Hid (QS w1 b bt off n c ml ms (i + 1) (d + 1)) := p1
    rw [if_pos hmo, if_neg h64] at hR
    have hi1 := hnx hmo
    have hd64 : d + 1 ≤ 64 := by omega
    have HIM : Hid (Calls Tryz.prog 118 #[.pointer (some ⟨b, 0, none⟩), .string ⟨#[41]⟩] w1 fun r w' => r = .returned (.bool (mk (tk l (i + 1)) [41])) ∧ Up w1 w') := isMark_ w0 w1 b bt off n c ml ms (i + 1) (d + 1) l HE.out (HW.out.trans HOw1.out) hi1 p1 ⟨#[41]⟩ [41] (by unfold TR.Byt; decide) (congrArg ByteArray.toList (show (⟨#[41]⟩ : ByteArray) = strOfNums [41] from rfl))
    clear ow1 p1 HEN hnx hmo
    cases hmc : mk (tk l (i + 1)) [41] with
    | true =>
      rw [hmc] at HIM
      rw [if_pos hmc] at hR
      obtain rfl := Option.some.inj hR
      clear hR
      go_wp2_with fail
      refine Calls.mono HIM.out ?_
      rintro r9 w2 ⟨rfl, u2⟩
      have HOw2 : Hid (Only b W w2) := HOw1.out.trans (Only.up u2)
      have HLV : Hid (Calls Tryz.prog 169 #[.pointer (some ⟨b, 0, none⟩), .string ⟨#[41]⟩] w2 (fun r w' => Only b w2 w' ∧ ((mk (tk l (i + 1)) [41] = true ∧ r = .returned (.tuple #[]) ∧ QS w' b bt off n c ml ms ((i + 1) + 1) d) ∨ (mk (tk l (i + 1)) [41] = false ∧ r = pnc 22 (tk l (i + 1)).pos)))) := leave_ w0 w2 b bt off n c ml ms (i + 1) (d + 1) l HE.out (HW.out.trans HOw2.out) hi1 (HPw1.out.up u2) ⟨#[41]⟩ [41] (by unfold TR.Byt; decide) (congrArg ByteArray.toList (show (⟨#[41]⟩ : ByteArray) = strOfNums [41] from rfl)) d rfl (by omega)
      clear u2 HIM HOw1 HPw1
      go_wp2_with fail
      refine Calls.mono HLV.out ?_
      rintro r w3 ⟨ow3, ⟨hm3, rfl, p3⟩ | ⟨h9, -⟩⟩
      · have HO3 : Hid (Only b W w3) := HOw2.out.trans ow3
        have HP3 : Hid (QS w3 b bt off n c ml ms (i + 2) d) := p3
        clear ow3 p3 HLV
        go_wp2_with fail
        rw [HPo.out]
        exact ⟨HO3.out, _, [], rfl, LB.nil _ _, HP3.out, fun _ => rfl⟩
      · rw [hmc] at h9
        cases h9
    | false =>
      rw [hmc] at HIM
      rw [if_neg (by rw [hmc]; decide)] at hR
      clear hmc
      cases N with
      | zero => cases hR
      | succ N =>
        rw [P] at hR
        obtain ⟨R1, h2, h3⟩ : ∃ R1, P l N (if a = true then G.arg else .row 1) (i + 1) (d + 1) = some R1 ∧ bd (some R1) (fun x j => if mk (tk l j) [44] = true then P l N (.argL a (Fo.nil.app x)) (j + 1) (d + 1) else if mk (tk l j) [41] = true then okr (Fo.nil.app x) (j + 1) else bad (tk l j)) = some R := by
          cases h9 : P l N (if a = true then G.arg else .row 1) (i + 1) (d + 1) with
          | none => rw [h9] at hR; cases hR
          | some R1 => rw [h9] at hR; exact ⟨R1, rfl, hR⟩
        have HFC : Hid (∀ W2, Only b W W2 → QS W2 b bt off n c ml ms (i + 1) (d + 1) → Calls Tryz.prog f #[.pointer (some ⟨b, 0, none⟩)] W2 (QG b bt off n c ml ms (d + 1) R1 W2)) := fun W2 o2 p2 => HF.out N (by omega) (i + 1) (d + 1) R1 W2 (HW.out.trans o2) p2 hi1 hd64 h2
        clear hR
        go_wp2_with fail
        refine Calls.mono HIM.out ?_
        rintro r9 w3 ⟨rfl, u3⟩
        have HOw3 : Hid (Only b W w3) := HOw1.out.trans (Only.up u3)
        have HC3 := HFC.out w3 HOw3.out (HPw1.out.up u3)
        clear u3 HIM HFC HOw1 HPw1
        go_wp2_with fail
        refine Calls.mono HC3 ?_
        intro r9 w4 h
        obtain ⟨o4, h⟩ := h
        have HOw4 : Hid (Only b W w4) := HOw3.out.trans o4
        clear o4 HC3
        cases R1 with
        | bad er pp =>
          obtain rfl : r9 = pnc er pp := h
          obtain rfl : Rs.bad er pp = R := Option.some.inj h3
          clear h2 h3
          unfold pnc at *
          go_wp2_with fail
          rw [HPo.out]
          exact ⟨rfl, HOw4.out, rfl⟩
        | ok y j2 =>
          obtain ⟨gr, rfl, hy, p4⟩ := h
          have HY : Hid (PF w4 (Sn w3.heap.size w4) y [ptr gr]) := hy
          have HPw4 : Hid (QS w4 b bt off n c ml ms j2 (d + 1)) := p4
          have HLB : Hid (LB w4 W.heap.size (.slice none 0 0) [] .nil) := LB.nil _ _
          have HOWN : Hid (∀ k1, (Value.slice none 0 0).ownBlock = some k1 → k1 < w3.heap.size) := fun k1 e => by cases e
          have hst := stays HLA.out h2 (by have := HLN.out; omega)
          have hj2 : j2 < n := by have := hst.2.1; have := HLN.out; omega
          have hjj : i + 1 + 1 ≤ j2 := by have h9 := hst.1; rw [hcon] at h9; omega
          have h3 : (if mk (tk l j2) [44] = true then P l N (.argL a (Fo.nil.app y)) (j2 + 1) (d + 1) else if mk (tk l j2) [41] = true then okr (Fo.nil.app y) (j2 + 1) else bad (tk l j2)) = some R := h3
          clear hy p4 hst
          have HLBA : Hid (LB (w4.alloc (.cells #[ptr gr] 91)) W.heap.size (.slice none 0 0) [] Fo.nil) := HLB.out.up ((Up.refl _).alloc _)
          have HV : Hid ((w4.alloc (.cells #[ptr gr] 91)).ownsRow W.heap.size 91 1 (.slice none 0 0) 0 []) := by
            have h9 := HLBA.out.row
            exact h9
          have HMW : Hid (∀ q u, [ptr gr][q]? = some u → (w4.alloc (.cells #[ptr gr] 91)).cell? ((⟨w4.heap.size, 0, none⟩ : Addr).add q) = some u) := World.news_of_block (cs := #[ptr gr]) (t := 91) (fr := (0, 0)) (heap_alloc_new w4 _)
          have HSZ : Hid (W.heap.size ≤ (w4.alloc (.cells #[ptr gr] 91)).heap.size) := by
            have h9 := HOw4.out.2.1
            unfold Hid
            simp
            omega
          have HPA : Hid (QS (w4.alloc (.cells #[ptr gr] 91)) b bt off n c ml ms j2 (d + 1)) := HPw4.out.up ((Up.refl _).alloc _)
          have HFN : Hid (∀ v' V9, V9.ownsRow W.heap.size 91 1 v' (0 + 1) ([] ++ [ptr gr]) → (w4.alloc (.cells #[ptr gr] 91)).grownBy V9 (Value.ownBlock (.slice none 0 0)) → LiesN (.slice none 0 0) v' (w4.alloc (.cells #[ptr gr] 91)) → LB V9 W.heap.size v' ([] ++ [ptr gr]) (Fo.nil.app y) ∧ Only b W V9 ∧ QS V9 b bt off n c ml ms j2 (d + 1)) := fun v' V9 n1 n2 n3 => by
            have hbl9 := HBL.out
            have hs9 := HOw3.out.2.1
            obtain ⟨q1, q2, q3⟩ := LB.more (b := b) (W0 := W) (vs := [ptr gr]) (k2 := y) (S2 := Sn w3.heap.size w4) HLBA.out (PF.keep (fun _ _ _ e => ((Up.refl w4).alloc _).heap e) y _ HY.out) (fun k1 e hS => by have := HOWN.out k1 e; unfold Sn at hS; omega) (fun z hz => by unfold Sn at hz ⊢; simp; omega) (by exact n1) n2 n3 (HOw4.out.trans (Only.up ((Up.refl _).alloc _))) (Nat.le_refl _)
            exact ⟨q1, q2, q3 b _ hbl9 HPA.out⟩
          have HNX : Hid (∀ w9 fa fc, Only b W w9 → QS w9 b bt off n c ml ms j2 (d + 1) → LB w9 W.heap.size (.slice fa (0 + 1) fc) ([] ++ [ptr gr]) (Fo.nil.app y) → ∃ (sv : Value) (kv : List Value) (fo : Fo) (j k : Nat), Value.slice fa (0 + 1) fc = sv ∧ LB w9 W.heap.size sv kv fo ∧ QS w9 b bt off n c ml ms j (d + 1) ∧ j < n ∧ k ≤ N + 1 ∧ kv.length ≤ j ∧ 0 < kv.length ∧ (if mk (tk l j) [44] = true then P l k (.argL a fo) (j + 1) (d + 1) else if mk (tk l j) [41] = true then okr fo (j + 1) else bad (tk l j)) = some R ∧ Only b W w9) := fun w9 fa fc o9 p9 l9 => ⟨_, _, _, j2, N, rfl, l9, p9, hj2, by omega, by rw [List.length_append]; simp; omega, by simp, h3, o9⟩
          clear h2 h3
          go_wp2_with (first | (at_builtin; go_loud (refine wpList_append_far _ (by rfl) (.tmp 11) (.tmp 14) 168 (by rfl) W.heap.size 91 iT _ 1 8 Tryz.underlying168 hiT z0 z1 z2 (by rfl) (by decide) (.slice none 0 0) 0 [] (by rfl) HV.out ⟨w4.heap.size, 0, none⟩ 1 1 [ptr gr] (by rfl) (Nat.succ_pos _) (by rfl) HMW.out (by simp [Value.oneCell']) (by unfold maxLen; omega) (by omega) HSZ.out ?_; intro v' V9 n1 n2 n3; have HG := HFN.out v' V9 n1 n2 n3; obtain ⟨fa, fc, hva⟩ : ∃ a c, v' = Value.slice a (0 + 1) c := row_val n1; subst hva; clear n1 n2 n3)))
          have HR5 : Hid _ := HNX.out V9 fa fc HG.2.1 HG.2.2 HG.1
          clear HG HFN HV HMW HSZ HNX HPA HLBA
          go_loopw [5] (fun s5 W3 => ∃ (sv : Value) (kv : List Value) (fo : Fo) (j k : Nat), s5 = sv ∧ LB W3 W.heap.size sv kv fo ∧ QS W3 b bt off n c ml ms j (d + 1) ∧ j < n ∧ k ≤ N + 1 ∧ kv.length ≤ j ∧ 0 < kv.length ∧ (if mk (tk l j) [44] = true then P l k (.argL a fo) (j + 1) (d + 1) else if mk (tk l j) [41] = true then okr fo (j + 1) else bad (tk l j)) = some R ∧ Only b W W3) (fun s5 _ => n + 1 - lenW s5)
          case atStart => exact HR5.out
          case round =>
            obtain ⟨sv, kv, fo, j, k, rfl, hlb, hp, hj, hk, hkv, hk0, hRe, hor⟩ := hrel
            have HK0 : Hid (0 < kv.length) := hk0
            clear hk0
            obtain ⟨m, hmL⟩ : ∃ m, m = kv.length := ⟨_, rfl⟩
            have HM : Hid (m = kv.length) := hmL
            obtain ⟨a5, c5, hsv⟩ := row_val hlb.row
            rw [← hmL] at hsv
            subst hsv
            have HLBr : Hid (LB wr W.heap.size (.slice a5 m c5) kv fo) := hlb
            have HOwr : Hid (Only b W wr) := hor
            have HPwr : Hid (QS wr b bt off n c ml ms j (d + 1)) := hp
            have HIC : Hid (Calls Tryz.prog 118 #[.pointer (some ⟨b, 0, none⟩), .string ⟨#[44]⟩] wr fun r w' => r = .returned (.bool (mk (tk l j) [44])) ∧ Up wr w') := isMark_ w0 wr b bt off n c ml ms j (d + 1) l HE.out (HW.out.trans HOwr.out) hj hp ⟨#[44]⟩ [44] (by unfold TR.Byt; decide) (congrArg ByteArray.toList (show (⟨#[44]⟩ : ByteArray) = strOfNums [44] from rfl))
            have hmj : m ≤ j := by omega
            clear hlb hp hor hkv hmL HR5
            cases hmc : mk (tk l j) [44] with
            | true =>
              rw [hmc] at HIC
              rw [if_pos hmc] at hRe
              have hj1 : j + 1 < n := HE.out.next hj (mk_kind hmc)
              cases k with
              | zero => cases hRe
              | succ k =>
                rw [P] at hRe
                obtain ⟨R1, h2, h3⟩ : ∃ R1, P l k (if a = true then G.arg else .row 1) (j + 1) (d + 1) = some R1 ∧ bd (some R1) (fun x j => if mk (tk l j) [44] = true then P l k (.argL a (fo.app x)) (j + 1) (d + 1) else if mk (tk l j) [41] = true then okr (fo.app x) (j + 1) else bad (tk l j)) = some R := by
                  cases h9 : P l k (if a = true then G.arg else .row 1) (j + 1) (d + 1) with
                  | none => rw [h9] at hRe; cases hRe
                  | some R1 => rw [h9] at hRe; exact ⟨R1, rfl, hRe⟩
                have HPS : Hid (∀ W2, Up wr W2 → Calls Tryz.prog 139 #[.pointer (some ⟨b, 0, none⟩)] W2 fun r w' => r = .returned (.agg #[.int .i8 (tk l j).kind, .string (strOfNums (tk l j).text), .int .i64 (tk l j).num, .int .i64 (tk l j).pos]) ∧ Only b W2 w' ∧ QS w' b bt off n c ml ms (j + 1) (d + 1)) := fun W2 hu => pass_ w0 W2 b bt off n c ml ms j (d + 1) l HE.out (HW.out.trans (HOwr.out.trans (Only.up hu))) hj (HPwr.out.up hu)
                have HFC : Hid (∀ W2, Only b W W2 → QS W2 b bt off n c ml ms (j + 1) (d + 1) → Calls Tryz.prog f #[.pointer (some ⟨b, 0, none⟩)] W2 (QG b bt off n c ml ms (d + 1) R1 W2)) := fun W2 o2 p2 => HF.out k (by omega) (j + 1) (d + 1) R1 W2 (HW.out.trans o2) p2 hj1 hd64 h2
                clear hRe hmc
                go_wp2_with fail
                refine Calls.mono HIC.out ?_
                rintro r9 w2 ⟨rfl, u2⟩
                have HOw2 : Hid (Only b W w2) := HOwr.out.trans (Only.up u2)
                have HC := HPS.out w2 u2
                have HLB2 : Hid (LB w2 W.heap.size (.slice a5 m c5) kv fo) := HLBr.out.up u2
                clear u2 HIC HPS HLBr HOwr HPwr
                go_wp2_with fail
                refine Calls.mono HC ?_
                rintro r9 w3 ⟨rfl, o3, p3⟩
                have HOw3 : Hid (Only b W w3) := HOw2.out.trans o3
                have HLB3 : Hid (LB w3 W.heap.size (.slice a5 m c5) kv fo) := HLB2.out.only o3 HBL.out
                have HC3 := HFC.out w3 HOw3.out p3
                clear o3 p3 HC HLB2 HFC
                go_wp2_with fail
                refine Calls.mono HC3 ?_
                intro r9 w4 h
                obtain ⟨o4, h⟩ := h
                have HOw4 : Hid (Only b W w4) := HOw3.out.trans o4
                have HLB : Hid (LB w4 W.heap.size (.slice a5 m c5) kv fo) := HLB3.out.only o4 HBL.out
                have HOWN : Hid (∀ k1, (Value.slice a5 m c5).ownBlock = some k1 → k1 < w3.heap.size) := fun k1 e => (World.ownsRow.lt HLB3.out.row k1 e).2
                clear o4 HC3 HLB3
                cases R1 with
                | bad er pp =>
                  obtain rfl : r9 = pnc er pp := h
                  obtain rfl : Rs.bad er pp = R := Option.some.inj h3
                  clear h2 h3
                  unfold pnc at *
                  go_wp2_with fail
                  rw [HPo.out]
                  exact ⟨rfl, HOw4.out, rfl⟩
                | ok y j2 =>
                  obtain ⟨gr, rfl, hy, p4⟩ := h
                  have HY : Hid (PF w4 (Sn w3.heap.size w4) y [ptr gr]) := hy
                  have HPw4 : Hid (QS w4 b bt off n c ml ms j2 (d + 1)) := p4
                  have hst := stays HLA.out h2 (by have := HLN.out; omega)
                  have hj2 : j2 < n := by have := hst.2.1; have := HLN.out; omega
                  have hjj : j + 1 + 1 ≤ j2 := by have h9 := hst.1; rw [hcon] at h9; omega
                  have h3 : (if mk (tk l j2) [44] = true then P l k (.argL a (fo.app y)) (j2 + 1) (d + 1) else if mk (tk l j2) [41] = true then okr (fo.app y) (j2 + 1) else bad (tk l j2)) = some R := h3
                  clear hy p4 hst
                  have HLBA : Hid (LB (w4.alloc (.cells #[ptr gr] 91)) W.heap.size (.slice a5 m c5) kv fo) := HLB.out.up ((Up.refl _).alloc _)
                  have HV : Hid ((w4.alloc (.cells #[ptr gr] 91)).ownsRow W.heap.size 91 1 (.slice a5 m c5) m kv) := by
                    have h9 := HLBA.out.row
                    rw [← HM.out] at h9; exact h9
                  have HMW : Hid (∀ q u, [ptr gr][q]? = some u → (w4.alloc (.cells #[ptr gr] 91)).cell? ((⟨w4.heap.size, 0, none⟩ : Addr).add q) = some u) := World.news_of_block (cs := #[ptr gr]) (t := 91) (fr := (0, 0)) (heap_alloc_new w4 _)
                  have HSZ : Hid (W.heap.size ≤ (w4.alloc (.cells #[ptr gr] 91)).heap.size) := by
                    have h9 := HOw4.out.2.1
                    unfold Hid
                    simp
                    omega
                  have HPA : Hid (QS (w4.alloc (.cells #[ptr gr] 91)) b bt off n c ml ms j2 (d + 1)) := HPw4.out.up ((Up.refl _).alloc _)
                  have HFN : Hid (∀ v' V9, V9.ownsRow W.heap.size 91 1 v' (m + 1) (kv ++ [ptr gr]) → (w4.alloc (.cells #[ptr gr] 91)).grownBy V9 (Value.ownBlock (.slice a5 m c5)) → LiesN (.slice a5 m c5) v' (w4.alloc (.cells #[ptr gr] 91)) → LB V9 W.heap.size v' (kv ++ [ptr gr]) (fo.app y) ∧ Only b W V9 ∧ QS V9 b bt off n c ml ms j2 (d + 1)) := fun v' V9 n1 n2 n3 => by
                    have hbl9 := HBL.out
                    have hs9 := HOw3.out.2.1
                    obtain ⟨q1, q2, q3⟩ := LB.more (b := b) (W0 := W) (vs := [ptr gr]) (k2 := y) (S2 := Sn w3.heap.size w4) HLBA.out (PF.keep (fun _ _ _ e => ((Up.refl w4).alloc _).heap e) y _ HY.out) (fun k1 e hS => by have := HOWN.out k1 e; unfold Sn at hS; omega) (fun z hz => by unfold Sn at hz ⊢; simp; omega) (by rw [HM.out] at n1; exact n1) n2 n3 (HOw4.out.trans (Only.up ((Up.refl _).alloc _))) (Nat.le_refl _)
                    exact ⟨q1, q2, q3 b _ hbl9 HPA.out⟩
                  have HNX : Hid (∀ w9 fa fc, Only b W w9 → QS w9 b bt off n c ml ms j2 (d + 1) → LB w9 W.heap.size (.slice fa (m + 1) fc) (kv ++ [ptr gr]) (fo.app y) → ∃ (sv : Value) (kv : List Value) (fo : Fo) (j k : Nat), Value.slice fa (m + 1) fc = sv ∧ LB w9 W.heap.size sv kv fo ∧ QS w9 b bt off n c ml ms j (d + 1) ∧ j < n ∧ k ≤ N + 1 ∧ kv.length ≤ j ∧ 0 < kv.length ∧ (if mk (tk l j) [44] = true then P l k (.argL a fo) (j + 1) (d + 1) else if mk (tk l j) [41] = true then okr fo (j + 1) else bad (tk l j)) = some R ∧ Only b W w9) := fun w9 fa fc o9 p9 l9 => ⟨_, _, _, j2, k, rfl, l9, p9, hj2, by omega, by rw [List.length_append]; have := HM.out; simp; omega, by simp, h3, o9⟩
                  clear h2 h3
                  go_wp2_with (first | (at_builtin; go_loud (refine wpList_append_far _ (by rfl) (.tmp 20) (.tmp 23) 168 (by rfl) W.heap.size 91 iT _ 1 8 Tryz.underlying168 hiT z0 z1 z2 (by rfl) (by decide) (.slice a5 m c5) m kv (by rfl) HV.out ⟨w4.heap.size, 0, none⟩ 1 1 [ptr gr] (by rfl) (Nat.succ_pos _) (by rfl) HMW.out (by simp [Value.oneCell']) (by unfold maxLen; omega) (by omega) HSZ.out ?_; intro v' V9 n1 n2 n3; have HG := HFN.out v' V9 n1 n2 n3; obtain ⟨fa, fc, hva⟩ : ∃ a c, v' = Value.slice a (m + 1) c := row_val n1; subst hva; clear n1 n2 n3)))
                  have HR5 : Hid _ := HNX.out V9 fa fc HG.2.1 HG.2.2 HG.1
                  clear HG HFN HV HMW HSZ HNX HPA HLBA
                  go_roundw
                  case rel => exact HR5.out
                  case measure => simp only [lenW]; omega
            | false =>
              rw [hmc] at HIC
              rw [if_neg (by rw [hmc]; decide)] at hRe
              clear hmc
              go_wp2_with fail
              refine Calls.mono HIC.out ?_
              rintro r9 w2 ⟨rfl, u2⟩
              have HOw2 : Hid (Only b W w2) := HOwr.out.trans (Only.up u2)
              have HPw2 : Hid (QS w2 b bt off n c ml ms j (d + 1)) := HPwr.out.up u2
              have HLB : Hid (LB w2 W.heap.size (.slice a5 m c5) kv fo) := HLBr.out.up u2
              clear u2 HIC HLBr HOwr HPwr
              have HLV : Hid (Calls Tryz.prog 169 #[.pointer (some ⟨b, 0, none⟩), .string ⟨#[41]⟩] w2 (fun r w' => Only b w2 w' ∧ ((mk (tk l j) [41] = true ∧ r = .returned (.tuple #[]) ∧ QS w' b bt off n c ml ms (j + 1) d) ∨ (mk (tk l j) [41] = false ∧ r = pnc 22 (tk l j).pos)))) := leave_ w0 w2 b bt off n c ml ms j (d + 1) l HE.out (HW.out.trans HOw2.out) hj HPw2.out ⟨#[41]⟩ [41] (by unfold TR.Byt; decide) (congrArg ByteArray.toList (show (⟨#[41]⟩ : ByteArray) = strOfNums [41] from rfl)) d rfl (by omega)
              go_wp2_with fail
              refine Calls.mono HLV.out ?_
              rintro r w9 ⟨ow9, ⟨hm3, rfl, p3⟩ | ⟨hm3, rfl⟩⟩
              · rw [if_pos hm3] at hRe
                obtain rfl := Option.some.inj hRe
                have HO9 : Hid (Only b W w9) := HOw2.out.trans ow9
                have HB9 : Hid (LB w9 W.heap.size (.slice a5 m c5) kv fo) := HLB.out.only ow9 HBL.out
                have HP9 : Hid (QS w9 b bt off n c ml ms (j + 1) d) := p3
                clear hRe ow9 p3 HLV
                go_wp2_with fail
                rw [HPo.out]
                exact ⟨HO9.out, _, _, rfl, HB9.out, HP9.out, fun e => by have h9 := HK0.out; rw [e] at h9; cases h9⟩
              · rw [if_neg (by rw [hm3]; decide)] at hRe
                obtain rfl : Rs.bad 22 (tk l j).pos = R := Option.some.inj hRe
                have HO9 : Hid (Only b W w9) := HOw2.out.trans ow9
                clear hRe ow9 HLV
                unfold pnc at *
                go_wp2_with fail
                rw [HPo.out]
                exact ⟨rfl, HO9.out, rfl⟩
  · rw [if_pos hmo, if_pos h64] at hR
    obtain rfl : Rs.bad 23 (tk l i).pos = R := Option.some.inj hR
    have HO3 : Hid (Only b W w1) := ow1
    clear hR ow1 HEN
    unfold pnc at *
    go_wp2_with fail
    rw [HPo.out]
    exact ⟨rfl, HO3.out, rfl⟩
  · rw [if_neg (by rw [hmo]; decide)] at hR
    obtain rfl : Rs.bad 22 (tk l i).pos = R := Option.some.inj hR
    have HO3 : Hid (Only b W w1) := ow1
    clear hR ow1 HEN
    unfold pnc at *
    go_wp2_with fail
    rw [HPo.out]
    exact ⟨rfl, HO3.out, rfl⟩
end TP
end Go.Proofs.YtkldllnnocdhbaaGreatDoor
