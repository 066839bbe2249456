/-
  ParseNests: the sources and what is answered: no program.
-/
import Derived.Test.YtkldllnnocdhbaaGreatDoorMy10
import Derived.Test.YtkldllnnocdhbaaGreatDoorBy8
import Derived.Test.YtkldllnnocdhbaaGreatDoorBy10
import Derived.Test.YtkldllnnocdhbaaGreatDoorSa10
namespace Go.Proofs.YtkldllnnocdhbaaGreatDoor
open Go.RowKit
attribute [local go_sem ↓] Go.wp_at_zero Go.wp_at_succ
namespace TP
open TR (Nd Byt nums_inj nums_nil)
open TK (Tok tex TabP)
set_option maxRecDepth 100000 in
set_option maxHeartbeats 16000000 in
theorem may0_ (W : World) (a : Option Addr) (c : Nat) : Calls Tryz.prog 68 #[.slice a 0 c] W (fun r w' => r = .returned (.bool false) ∧ Up W w') := by
  obtain ⟨Post, hPost⟩ : ∃ P : Ending → World → Prop, P = fun r w' => r = .returned (.bool false) ∧ Up W w' := ⟨_, rfl⟩
  rw [← hPost]
  have HPo : Hid (Post = fun r w' => r = .returned (.bool false) ∧ Up W w') := hPost
  clear hPost
  go_enter Tryz.func68, Tryz.ntmps68
  go_wp2_with fail
  rw [HPo.out]
  exact ⟨rfl, Up.refl _⟩
set_option maxRecDepth 100000 in
set_option maxHeartbeats 16000000 in
theorem read_no (W : World) (v fv : Value) (hM : Calls Tryz.prog 68 #[v] W (fun r w' => r = .returned (.bool false) ∧ Up W w')) : Calls Tryz.prog 26 #[v, fv] W (fun r w' => r = .returned (.tuple #[.slice none 0 0, .int .i64 1, .int .i64 0]) ∧ Up W w') := by
  obtain ⟨Post, hPost⟩ : ∃ P : Ending → World → Prop, P = fun r w' => r = .returned (.tuple #[.slice none 0 0, .int .i64 1, .int .i64 0]) ∧ Up W w' := ⟨_, rfl⟩
  rw [← hPost]
  have HPo : Hid (Post = fun r w' => r = .returned (.tuple #[.slice none 0 0, .int .i64 1, .int .i64 0]) ∧ Up W w') := hPost
  clear hPost
  have HM : Hid _ := hM
  clear hM
  go_enter Tryz.func26, Tryz.ntmps26
  go_wp2_with fail
  refine Calls.mono HM.out ?_
  rintro r9 w1 ⟨rfl, u1⟩
  have HU1 : Hid (Up W w1) := u1
  clear HM u1
  go_wp2_with fail
  rw [HPo.out]
  exact ⟨rfl, HU1.out⟩
set_option maxRecDepth 100000 in
set_option maxHeartbeats 16000000 in
theorem expr_no (W : World) (v : Value) (hM : Calls Tryz.prog 68 #[v] W (fun r w' => r = .returned (.bool false) ∧ Up W w')) : Calls Tryz.prog 13 #[v] W (fun r w' => r = .returned (.tuple #[.slice none 0 0, .int .i64 1, .int .i64 0]) ∧ Up W w') := by
  obtain ⟨Post, hPost⟩ : ∃ P : Ending → World → Prop, P = fun r w' => r = .returned (.tuple #[.slice none 0 0, .int .i64 1, .int .i64 0]) ∧ Up W w' := ⟨_, rfl⟩
  rw [← hPost]
  have HPo : Hid (Post = fun r w' => r = .returned (.tuple #[.slice none 0 0, .int .i64 1, .int .i64 0]) ∧ Up W w') := hPost
  clear hPost
  have HM : Hid _ := fun fv => read_no W v fv hM
  have hmf : ∀ (fn : Fn) (first cap : Array Value) (w : World), (Instr.makeFunc fn first cap).run Tryz.prog w = .ok (.func fn first cap) w := fun _ _ _ _ => rfl
  clear hM
  go_enter Tryz.func13, Tryz.ntmps13
  go_wp2_with fail
  refine Calls.mono (HM.out _) ?_
  rintro r9 w1 ⟨rfl, u1⟩
  have HU1 : Hid (Up W w1) := u1
  clear HM u1
  go_wp2_with fail
  rw [HPo.out]
  exact ⟨rfl, HU1.out⟩
set_option maxRecDepth 100000 in
set_option maxHeartbeats 16000000 in
theorem pack_no (W : World) (v : Value) (hM : Calls Tryz.prog 68 #[v] W (fun r w' => r = .returned (.bool false) ∧ Up W w')) : Calls Tryz.prog 14 #[v] W (fun r w' => r = .returned (.tuple #[.slice none 0 0, .int .i64 1, .int .i64 0]) ∧ Up W w') := by
  obtain ⟨Post, hPost⟩ : ∃ P : Ending → World → Prop, P = fun r w' => r = .returned (.tuple #[.slice none 0 0, .int .i64 1, .int .i64 0]) ∧ Up W w' := ⟨_, rfl⟩
  rw [← hPost]
  have HPo : Hid (Post = fun r w' => r = .returned (.tuple #[.slice none 0 0, .int .i64 1, .int .i64 0]) ∧ Up W w') := hPost
  clear hPost
  have HM : Hid _ := fun fv => read_no W v fv hM
  have hmf : ∀ (fn : Fn) (first cap : Array Value) (w : World), (Instr.makeFunc fn first cap).run Tryz.prog w = .ok (.func fn first cap) w := fun _ _ _ _ => rfl
  clear hM
  go_enter Tryz.func14, Tryz.ntmps14
  go_wp2_with fail
  refine Calls.mono (HM.out _) ?_
  rintro r9 w1 ⟨rfl, u1⟩
  have HU1 : Hid (Up W w1) := u1
  clear HM u1
  go_wp2_with fail
  rw [HPo.out]
  exact ⟨rfl, HU1.out⟩
end TP
end Go.Proofs.YtkldllnnocdhbaaGreatDoor
namespace Go.Proofs.YtkldllnnocdhbaaGreatDoor
open Go.RowKit
attribute [local go_sem ↓] Go.wp_at_zero Go.wp_at_succ
namespace TP
open TR (Nd Byt nums_inj)
open TK (Tok)
/- what is asked for at the root -/
def packR (l : List Tok) (R : Option Rs) : Option Rs := bd R (fun x j => okr (nod 1 0 [] (tk l 0).pos x) j)
theorem ex_tl {W : World} {bt off n c : Nat} {l : List Tok} (h : TL W bt off n c l) : (tk l (l.length - 1)).kind = 0 := by rw [← h.len]; exact h.last
theorem ex_bd {r : Option Rs} {k : Fo → Nat → Option Rs} {R : Rs} (h : bd r k = some R) : (∃ e p, r = some (.bad e p) ∧ R = .bad e p) ∨ ∃ f i, r = some (.ok f i) ∧ k f i = some R := bd_some h
set_option maxRecDepth 100000 in
set_option maxHeartbeats 16000000 in
theorem expr_run (W : World) (bt off n c : Nat) (l : List Tok) (hT : TL W bt off n c l) (hX : Ex l n) (R : Rs) (hR : P l (fuel l) (.row 1) 0 0 = some R) (hM : Calls Tryz.prog 68 #[.slice (some ⟨bt, off, none⟩) n c] W (fun r w' => r = .returned (.bool true) ∧ Up W w')) (hRT : W.cell? ⟨0, 0, none⟩ = some (.iface 181 (.agg #[.pointer (some ⟨4, 93, none⟩)]))) : Calls Tryz.prog 13 #[.slice (some ⟨bt, off, none⟩) n c] W (QR l R W) := by
  obtain ⟨Post, hPost⟩ : ∃ P : Ending → World → Prop, P = QR l R W := ⟨_, rfl⟩
  rw [← hPost]
  have HPo : Hid (Post = QR l R W) := hPost
  clear hPost
  have hla := ex_tl hT
  have hn := hT.len
  have hns := hT.small
  have hen : Ent 27 := fun _ _ => by kernel_rfl
  have HRD : Hid _ := read_ W bt off n c l hT 27 hen R (fun w0 b ml ms hE hMp W' o q => (all_ w0 b bt off n c ml ms l hE hX hla hMp (fuel l)).a_expr 0 0 R W' o q hE.pos (by omega) hR) (fun x j e => by
    have h9 := kd_last hla
    have h8 := tot l (l.length - 1) h9 (fuel l) (.row 1) 0 0 (by unfold fuel; show 16 * (l.length - 1 - 0) + 8 < _; omega) (Nat.zero_le _)
    rw [hR, e] at h8
    have h7 : 0 + 1 ≤ j ∧ j ≤ l.length - 1 := h8
    have h6 := hT.pos
    omega) (fun x j e => by
    have h8 := tot l l.length kd_len (fuel l) (.row 1) 0 0 (by unfold fuel; show 16 * (l.length - 0) + 8 < _; omega) (Nat.zero_le _)
    rw [hR, e] at h8
    have h7 : 0 + 1 ≤ j ∧ j ≤ l.length := h8
    obtain ⟨h1, h2⟩ := wf l (fuel l) (.row 1) 0 0 trivial x j (by rw [hR, e])
    have h5 : (flF (gat (.row 1))).length = 0 := rfl
    exact ⟨h1, by omega⟩) hM hRT
  have hmf9 := hmf
  clear hT hX hR hM hla hn hns hen
  go_enter Tryz.func13, Tryz.ntmps13
  go_wp2_with fail
  refine Calls.mono HRD.out ?_
  rintro r9 w1 ⟨u1, h1⟩
  have HU1 : Hid (Up W w1) := u1
  clear HRD u1
  cases R with
  | bad er pp =>
    have h1 : r9 = .returned (.tuple #[.slice none 0 0, .int .i64 er, .int .i64 pp]) := h1
    subst h1
    go_wp2_with fail
    rw [HPo.out]
    exact ⟨HU1.out, rfl⟩
  | ok x j =>
    have h1 : (if (tk l j).kind = 0 then ∃ v, r9 = .returned (.tuple #[v, .int .i64 0, .int .i64 0]) ∧ OwN W.heap.size w1 v (flF x) else r9 = .returned (.tuple #[.slice none 0 0, .int .i64 22, .int .i64 (tk l j).pos])) := h1
    by_cases hk : (tk l j).kind = 0
    · rw [if_pos hk] at h1
      obtain ⟨v, rfl, ho⟩ := h1
      have HKK : Hid ((tk l j).kind = 0) := hk
      have HO : Hid (OwN W.heap.size w1 v (flF x)) := ho
      clear hk ho
      go_wp2_with fail
      rw [HPo.out]
      refine ⟨HU1.out, ?_⟩
      show (if (tk l j).kind = 0 then _ else _)
      rw [if_pos HKK.out]
      exact ⟨v, rfl, HO.out⟩
    · rw [if_neg hk] at h1
      subst h1
      have HKK : Hid (¬ (tk l j).kind = 0) := hk
      clear hk
      go_wp2_with fail
      rw [HPo.out]
      refine ⟨HU1.out, ?_⟩
      show (if (tk l j).kind = 0 then _ else _)
      rw [if_neg HKK.out]
      rfl
set_option maxRecDepth 100000 in
set_option maxHeartbeats 16000000 in
theorem pack_run (W : World) (bt off n c : Nat) (l : List Tok) (hT : TL W bt off n c l) (hX : Ex l n) (R : Rs) (hR : packR l (P l (fuel l) (.cards .nil) 0 0) = some R) (hM : Calls Tryz.prog 68 #[.slice (some ⟨bt, off, none⟩) n c] W (fun r w' => r = .returned (.bool true) ∧ Up W w')) (hRT : W.cell? ⟨0, 0, none⟩ = some (.iface 181 (.agg #[.pointer (some ⟨4, 93, none⟩)]))) : Calls Tryz.prog 14 #[.slice (some ⟨bt, off, none⟩) n c] W (QR l R W) := by
  obtain ⟨Post, hPost⟩ : ∃ P : Ending → World → Prop, P = QR l R W := ⟨_, rfl⟩
  rw [← hPost]
  have HPo : Hid (Post = QR l R W) := hPost
  clear hPost
  have hla := ex_tl hT
  have hn := hT.len
  have hns := hT.small
  have hen : Ent 28 := fun _ _ => by kernel_rfl
  have HRD : Hid _ := read_ W bt off n c l hT 28 hen R (fun w0 b ml ms hE hMp W' o q => ppack_ w0 W' b bt off n c ml ms 0 0 l hE o hE.pos q (by omega) (fuel l) R hla (fun k hk => (all_ w0 b bt off n c ml ms l hE hX hla hMp k).a_card) hR) (fun x j e => by
    subst e
    rcases ex_bd hR with ⟨e1, p1, -, h2⟩ | ⟨f1, i1, h1, h2⟩
    · cases h2
    · obtain ⟨rfl, rfl⟩ : nod 1 0 [] (tk l 0).pos f1 = x ∧ i1 = j := by
        have h3 := Option.some.inj h2
        injection h3 with h4 h5
        exact ⟨h4, h5⟩
      have h9 := kd_last hla
      have h8 := tot l (l.length - 1) h9 (fuel l) (.cards .nil) 0 0 (by unfold fuel; show 16 * (l.length - 1 - 0) + 2 < _; omega) (Nat.zero_le _)
      rw [h1] at h8
      have h7 : 0 + 0 ≤ i1 ∧ i1 ≤ l.length - 1 := h8
      have h6 := hT.pos
      omega) (fun x j e => by
    subst e
    rcases ex_bd hR with ⟨e1, p1, -, h2⟩ | ⟨f1, i1, h1, h2⟩
    · cases h2
    · obtain ⟨rfl, rfl⟩ : nod 1 0 [] (tk l 0).pos f1 = x ∧ i1 = j := by
        have h3 := Option.some.inj h2
        injection h3 with h4 h5
        exact ⟨h4, h5⟩
      have h8 := tot l l.length kd_len (fuel l) (.cards .nil) 0 0 (by unfold fuel; show 16 * (l.length - 0) + 2 < _; omega) (Nat.zero_le _)
      rw [h1] at h8
      have h7 : 0 + 0 ≤ i1 ∧ i1 ≤ l.length := h8
      obtain ⟨h3, h4⟩ := wf l (fuel l) (.cards .nil) 0 0 trivial f1 i1 h1
      have h5 : (flF (gat (.cards .nil))).length = 0 := rfl
      exact ⟨h3.nod, by rw [len_nod]; omega⟩) hM hRT
  have hmf9 := hmf
  clear hT hX hR hM hla hn hns hen
  go_enter Tryz.func14, Tryz.ntmps14
  go_wp2_with fail
  refine Calls.mono HRD.out ?_
  rintro r9 w1 ⟨u1, h1⟩
  have HU1 : Hid (Up W w1) := u1
  clear HRD u1
  cases R with
  | bad er pp =>
    have h1 : r9 = .returned (.tuple #[.slice none 0 0, .int .i64 er, .int .i64 pp]) := h1
    subst h1
    go_wp2_with fail
    rw [HPo.out]
    exact ⟨HU1.out, rfl⟩
  | ok x j =>
    have h1 : (if (tk l j).kind = 0 then ∃ v, r9 = .returned (.tuple #[v, .int .i64 0, .int .i64 0]) ∧ OwN W.heap.size w1 v (flF x) else r9 = .returned (.tuple #[.slice none 0 0, .int .i64 22, .int .i64 (tk l j).pos])) := h1
    by_cases hk : (tk l j).kind = 0
    · rw [if_pos hk] at h1
      obtain ⟨v, rfl, ho⟩ := h1
      have HKK : Hid ((tk l j).kind = 0) := hk
      have HO : Hid (OwN W.heap.size w1 v (flF x)) := ho
      clear hk ho
      go_wp2_with fail
      rw [HPo.out]
      refine ⟨HU1.out, ?_⟩
      show (if (tk l j).kind = 0 then _ else _)
      rw [if_pos HKK.out]
      exact ⟨v, rfl, HO.out⟩
    · rw [if_neg hk] at h1
      subst h1
      have HKK : Hid (¬ (tk l j).kind = 0) := hk
      clear hk
      go_wp2_with fail
      rw [HPo.out]
      refine ⟨HU1.out, ?_⟩
      show (if (tk l j).kind = 0 then _ else _)
      rw [if_neg HKK.out]
      rfl
end TP
end Go.Proofs.YtkldllnnocdhbaaGreatDoor
namespace Go.Proofs.YtkldllnnocdhbaaGreatDoor
open Go.RowKit
namespace TP
open TR (Nd Byt nums_inj nums_nil)
open TK (Tok tex TabP)
theorem isN_ok (l : List Int) : TR.isN l = TK.okN l := rfl
theorem tex_more {t : Tok} (h : tex t ≠ []) : t.kind ≠ 0 ∧ (t.kind = 1 → TR.isN t.text = true) ∧ t.text.length ≤ 100000 := by
  rw [isN_ok]
  unfold tex at h
  by_cases h1 : t.pos < 0 ∨ t.num < 0
  · rw [if_pos h1] at h
    exact absurd rfl h
  rw [if_neg h1] at h
  by_cases h2 : t.kind = 2 ∧ t.text = []
  · exact ⟨by omega, fun h3 => by omega, by rw [h2.2]; exact Nat.zero_le _⟩
  rw [if_neg h2] at h
  by_cases h3 : t.num ≠ 0
  · rw [if_pos h3] at h
    exact absurd rfl h
  rw [if_neg h3] at h
  by_cases h4 : (t.kind = 1 ∧ TK.okN t.text = true) ∨ (t.kind = 4 ∧ TK.mrk t.text = true)
  · rcases h4 with ⟨h5, h6⟩ | ⟨h5, h6⟩
    · refine ⟨by omega, fun _ => h6, ?_⟩
      unfold TK.okN at h6
      simp only [Bool.and_eq_true, decide_eq_true_eq] at h6
      omega
    · refine ⟨by omega, fun h7 => by omega, ?_⟩
      have h8 : ∀ x : List Int, TK.mrk x = true → x.length ≤ 100000
        | [], e => by cases e
        | [_], _ => by show 1 ≤ 100000; decide
        | [_, _], _ => by show 2 ≤ 100000; decide
        | _ :: _ :: _ :: _, e => by cases e
      exact h8 _ h6
  rw [if_neg h4] at h
  by_cases h5 : t.kind = 3 ∧ TK.okT t.text = true
  · refine ⟨by omega, fun h6 => by omega, ?_⟩
    have h6 := h5.2
    unfold TK.okT at h6
    simp only [Bool.and_eq_true, decide_eq_true_eq] at h6
    omega
  · rw [if_neg h5] at h
    exact absurd rfl h
theorem TM.tl {W : World} {bt off n c : Nat} {l : List Tok} (h : TM W bt off n c l) (hm : MayT l) : TL W bt off n c l := by
  have hlen := h.len
  refine ⟨h.len, h.cap, h.pos, h.small, h.cells, fun i hi => (tex_more (hm.1 i (by omega))).1, ?_, h.byt⟩
  have h2 := hm.2.2
  rw [hlen, h2]
theorem TM.ex {W : World} {bt off n c : Nat} {l : List Tok} (h : TM W bt off n c l) (hm : MayT l) : Ex l n := by
  have hlen := h.len
  have h2 := hm.2.2
  refine ⟨fun i hi hk => ?_, fun i hi => ?_⟩
  · rcases Nat.lt_or_ge (i + 1) l.length with h1 | h1
    · exact (tex_more (hm.1 i h1)).2.1 hk
    · obtain rfl : i = l.length - 1 := by omega
      rw [h2] at hk
      have h3 : (0 : Int) = 1 := hk
      omega
  · rcases Nat.lt_or_ge (i + 1) l.length with h1 | h1
    · exact (tex_more (hm.1 i h1)).2.2
    · obtain rfl : i = l.length - 1 := by omega
      rw [h2]
      exact Nat.zero_le _
end TP
end Go.Proofs.YtkldllnnocdhbaaGreatDoor
namespace Go.Proofs.YtkldllnnocdhbaaGreatDoor
open Go.RowKit
namespace TP
open TR (Nd Byt nums_inj nums_nil)
open TK (Tok tex TabP)
/- what is answered: an error and a place, or a tree -/
def AN (l : List Tok) (g : Option Rs) (W : World) (e : Ending) (w' : World) : Prop := Up W w' ∧ ((¬ MayT l ∧ e = .returned (.tuple #[.slice none 0 0, .int .i64 1, .int .i64 0])) ∨ (MayT l ∧ ∃ R, g = some R ∧ QR l R W e w'))
theorem may_yes {W : World} {bt off n c : Nat} {l : List Tok} (h : TM W bt off n c l) (hm : MayT l) : Calls Tryz.prog 68 #[.slice (some ⟨bt, off, none⟩) n c] W (fun r w' => r = .returned (.bool true) ∧ Up W w') :=
  Calls.mono (may_ W bt off n c l h) (fun r w' ⟨bo, h1, h2, h3⟩ => ⟨by rw [h1, h2.2 hm], h3⟩)
theorem may_not {W : World} {bt off n c : Nat} {l : List Tok} (h : TM W bt off n c l) (hm : ¬ MayT l) : Calls Tryz.prog 68 #[.slice (some ⟨bt, off, none⟩) n c] W (fun r w' => r = .returned (.bool false) ∧ Up W w') :=
  Calls.mono (may_ W bt off n c l h) (fun r w' ⟨bo, h1, h2, h3⟩ => ⟨by
    cases bo with
    | false => exact h1
    | true => exact absurd (h2.1 rfl) hm, h3⟩)
theorem expr_any (W : World) (bt off n c : Nat) (l : List Tok) (h : TM W bt off n c l) (hRT : W.cell? ⟨0, 0, none⟩ = some (.iface 181 (.agg #[.pointer (some ⟨4, 93, none⟩)]))) :
    Calls Tryz.prog 13 #[.slice (some ⟨bt, off, none⟩) n c] W (AN l (P l (fuel l) (.row 1) 0 0) W) := by
  by_cases hm : MayT l
  · obtain ⟨R, hR, -⟩ := ends l (.row 1) 0 0 (Nat.zero_le _)
    exact Calls.mono (expr_run W bt off n c l (h.tl hm) (h.ex hm) R hR (may_yes h hm) hRT) (fun r w' hq => ⟨hq.1, .inr ⟨hm, R, hR, hq⟩⟩)
  · exact Calls.mono (expr_no W _ (may_not h hm)) (fun r w' hq => ⟨hq.2, .inl ⟨hm, hq.1⟩⟩)
theorem pack_any (W : World) (bt off n c : Nat) (l : List Tok) (h : TM W bt off n c l) (hRT : W.cell? ⟨0, 0, none⟩ = some (.iface 181 (.agg #[.pointer (some ⟨4, 93, none⟩)]))) :
    Calls Tryz.prog 14 #[.slice (some ⟨bt, off, none⟩) n c] W (AN l (packR l (P l (fuel l) (.cards .nil) 0 0)) W) := by
  by_cases hm : MayT l
  · obtain ⟨R0, hR0, -⟩ := ends l (.cards .nil) 0 0 (Nat.zero_le _)
    obtain ⟨R, hR⟩ : ∃ R, packR l (P l (fuel l) (.cards .nil) 0 0) = some R := by
      rw [hR0]
      cases R0 with
      | bad e p => exact ⟨_, rfl⟩
      | ok f j => exact ⟨_, rfl⟩
    exact Calls.mono (pack_run W bt off n c l (h.tl hm) (h.ex hm) R hR (may_yes h hm) hRT) (fun r w' hq => ⟨hq.1, .inr ⟨hm, R, hR, hq⟩⟩)
  · exact Calls.mono (pack_no W _ (may_not h hm)) (fun r w' hq => ⟨hq.2, .inl ⟨hm, hq.1⟩⟩)
end TP
end Go.Proofs.YtkldllnnocdhbaaGreatDoor
namespace Go.Proofs.YtkldllnnocdhbaaGreatDoor
open Go.RowKit
namespace TP
open TR (Nd Byt nums_inj nums_nil)
open TK (Tok tex TabP)
def TkO (t : Tok) : Prop := Byt t.text ∧ t.text.length ≤ 281474976710656 ∧ -9223372036854775808 ≤ t.num ∧ t.num ≤ 9223372036854775807
theorem nums_app (a b : List Int) : strOfNums a ++ strOfNums b = strOfNums (a ++ b) := by
  apply ByteArray.ext
  show (strOfNums a ++ strOfNums b).data = _
  rw [ByteArray.data_append]
  simp [strOfNums]
def QT3 (pk : Bool) (l : List Tok) (W : World) (e : Ending) (w' : World) : Prop := ∃ R v, ans pk l (fuel l) = some R ∧ e = .returned (.tuple #[v, .int .i64 (told R).1, .int .i64 (told R).2]) ∧ Up W w'
theorem an_told {pk : Bool} {l : List Tok} {W : World} {e : Ending} {w' : World} (hm : MayT l) (h : AN l (part pk l (fuel l)) W e w') : QT3 pk l W e w' := by
  obtain ⟨u, ⟨h1, -⟩ | ⟨-, R, hR, h2⟩⟩ := h
  · exact absurd hm h1
  · have ha : ans pk l (fuel l) = bd (some R) (fun f j => if (tk l j).kind = 0 then okr f j else TP.bad (tk l j)) := by
      show bd (part pk l (fuel l)) _ = _
      rw [hR]
    cases R with
    | bad er pp => exact ⟨.bad er pp, _, ha, h2.2, u⟩
    | ok f j =>
      have h3 : (if (tk l j).kind = 0 then ∃ v, e = .returned (.tuple #[v, .int .i64 0, .int .i64 0]) ∧ OwN W.heap.size w' v (flF f) else e = .returned (.tuple #[.slice none 0 0, .int .i64 22, .int .i64 (tk l j).pos])) := h2.2
      have hb : ans pk l (fuel l) = (if (tk l j).kind = 0 then okr f j else TP.bad (tk l j)) := ha
      by_cases hk : (tk l j).kind = 0
      · rw [if_pos hk] at h3 hb
        obtain ⟨v, h4, -⟩ := h3
        exact ⟨.ok f j, v, hb, h4, u⟩
      · rw [if_neg hk] at h3 hb
        exact ⟨.bad 22 (tk l j).pos, _, hb, h3, u⟩
end TP
end Go.Proofs.YtkldllnnocdhbaaGreatDoor
namespace Go.Proofs.YtkldllnnocdhbaaGreatDoor
namespace TK
/- bytes that are words of their own, and marks -/
def wnB (c : Int) : Bool := c == 49 || c == 97 || c == 98
def mnB (c : Int) : Bool := c == 40 || c == 41 || c == 33 || c == 43 || c == 46
def tk1 (c : Int) (p : Nat) : Tok := if c = 49 then ⟨2, [], 1, p⟩ else if c = 97 ∨ c = 98 then ⟨1, [c], 0, p⟩ else ⟨4, [c], 0, p⟩
structure One (B : List Int) : Prop where
  all : ∀ p, p < B.length → wnB (B.getD p 0) = true ∨ mnB (B.getD p 0) = true
  next : ∀ p, p + 1 < B.length → wnB (B.getD p 0) = true → mnB (B.getD (p + 1) 0) = true
theorem mnB_is {c : Int} (h : mnB c = true) : c = 40 ∨ c = 41 ∨ c = 33 ∨ c = 43 ∨ c = 46 := by
  unfold mnB at h
  simp only [Bool.or_eq_true, beq_iff_eq] at h
  omega
theorem wnB_is {c : Int} (h : wnB c = true) : c = 49 ∨ c = 97 ∨ c = 98 := by
  unfold wnB at h
  simp only [Bool.or_eq_true, beq_iff_eq] at h
  omega
theorem mnB_prt {c : Int} (h : mnB c = true) : prt c = false ∧ dig c = false := by
  rcases mnB_is h with rfl | rfl | rfl | rfl | rfl <;> exact ⟨by decide, by decide⟩
theorem sub_one1 {B : List Int} {p : Nat} (h : p < B.length) : sub B p (p + 1) = [B.getD p 0] := by
  unfold sub
  rw [drop_at h, Nat.add_sub_cancel_left]
  rfl
theorem spn_one {f : Int → Bool} {B : List Int} {p : Nat} (h : p + 1 < B.length → f (B.getD (p + 1) 0) = false) : spn f B (p + 1) = p + 1 := by
  by_cases h1 : p + 1 < B.length
  · exact spn_stop h1 (h h1)
  · exact spn_end h1
theorem two_no1 {a b : Int} (h1 : b ≠ 61) (h2 : a ≠ 38) (h3 : a ≠ 124) : two a b = false := by
  unfold two
  simp [h1, h2, h3]
theorem stp_one1 {B : List Int} (h : One B) {p : Nat} (hp : p < B.length) : stp B p = .tok (tk1 (B.getD p 0) p) (p + 1) := by
  have hn := h.next p
  have hs := sub_one1 hp
  have ha2 : two (B.getD p 0) (B.getD (p + 1) 0) = false := by
    have h1 : B.getD (p + 1) 0 ≠ 61 := by
      rcases Nat.lt_or_ge (p + 1) B.length with h2 | h2
      · rcases h.all (p + 1) h2 with h3 | h3
        · have := wnB_is h3; omega
        · have := mnB_is h3; omega
      · rw [List.getD_eq_getElem?_getD, List.getElem?_eq_none h2]
        decide
    have h4 : B.getD p 0 ≠ 38 ∧ B.getD p 0 ≠ 124 := by
      rcases h.all p hp with h3 | h3
      · have := wnB_is h3; omega
      · have := mnB_is h3; omega
    exact two_no1 h1 h4.1 h4.2
  rcases h.all p hp with hw | hm
  · have e1 : spn prt B (p + 1) = p + 1 := spn_one fun h1 => (mnB_prt (hn h1 hw)).1
    have e2 : spn dig B (p + 1) = p + 1 := spn_one fun h1 => (mnB_prt (hn h1 hw)).2
    rcases wnB_is hw with hc | hc | hc
    · have e3 : nue B p = p + 1 := by
        unfold nue
        rw [hc, if_neg (by decide), e2]
      unfold stp rmk
      rw [hc, if_neg (by decide), if_neg (by simp), if_neg (by decide), if_pos (by decide)]
      unfold nmb
      rw [e3, e1, hs, hc, if_neg (by decide), if_neg (by omega)]
      rfl
    · have e4 : spn prt B p = p + 1 := by rw [spn_more hp (by rw [hc]; decide), e1]
      unfold stp rmk
      rw [hc, if_neg (by decide), if_neg (by simp), if_pos (by decide)]
      unfold nme
      rw [e4, hs, hc, if_neg (by omega)]
      rfl
    · have e4 : spn prt B p = p + 1 := by rw [spn_more hp (by rw [hc]; decide), e1]
      unfold stp rmk
      rw [hc, if_neg (by decide), if_neg (by simp), if_pos (by decide)]
      unfold nme
      rw [e4, hs, hc, if_neg (by omega)]
      rfl
  · have hk : ∀ c, mnB c = true → blk c = false ∧ (c == 47) = false ∧ sml c = false ∧ dig c = false ∧ (c == 34) = false ∧ sgl c = true ∧ tk1 c p = ⟨4, [c], 0, p⟩ := fun c hc => by
      rcases mnB_is hc with rfl | rfl | rfl | rfl | rfl <;> exact ⟨by decide, by decide, by decide, by decide, by decide, by decide, rfl⟩
    obtain ⟨k1, k2, k3, k4, k5, k6, k7⟩ := hk _ hm
    unfold stp rmk mkk
    rw [k1, k2, k3, k4, k5, k6, k7, ha2]
    simp
/- each byte a token -/
def toks1 (B : List Int) : List Tok := (List.range B.length).map (fun i => tk1 (B.getD i 0) i) ++ [⟨0, [], 0, B.length⟩]
theorem ct_one {B : List Int} (h : One B) : ∀ p, p ≤ B.length → Ct B p ((List.range p).map (fun i => tk1 (B.getD i 0) i))
  | 0, _ => ct_start B
  | p + 1, hp => by
    rw [List.range_succ, List.map_append]
    exact (ct_one h p (Nat.le_of_succ_le hp)).tok (Nat.lt_of_succ_le hp) (stp_one1 h (Nat.lt_of_succ_le hp))
theorem cut_one {B : List Int} (h : One B) (hl : B.length ≤ 65536) : cuL B = toks1 B := by
  have h1 := (ct_one h B.length (Nat.le_refl _)).fin (Nat.lt_irrefl _)
  unfold cuL
  rw [if_neg (by omega), h1]
  rfl
end TK
end Go.Proofs.YtkldllnnocdhbaaGreatDoor
namespace Go.Proofs.YtkldllnnocdhbaaGreatDoor
namespace TK
def one1 : List Int → Bool
  | [] => true
  | [c] => wnB c || mnB c
  | c :: d :: r => (mnB c || (wnB c && mnB d)) && one1 (d :: r)
theorem one1_is : ∀ (B : List Int), one1 B = true → One B
  | [], _ => ⟨fun p h => absurd h (Nat.not_lt_zero _), fun p h => absurd h (Nat.not_lt_zero _)⟩
  | [c], h => by
    have h1 : wnB c = true ∨ mnB c = true := by
      unfold one1 at h
      simpa using h
    refine ⟨fun p hp => ?_, fun p hp => absurd hp (by show ¬ p + 1 < 1; omega)⟩
    obtain rfl : p = 0 := by have : p < 1 := hp; omega
    exact h1
  | c :: d :: r, h => by
    have h1 : (mnB c = true ∨ (wnB c = true ∧ mnB d = true)) ∧ one1 (d :: r) = true := by
      unfold one1 at h
      simpa using h
    have ih := one1_is (d :: r) h1.2
    refine ⟨fun p hp => ?_, fun p hp hw => ?_⟩
    · cases p with
      | zero =>
        rcases h1.1 with h2 | h2
        · exact .inr h2
        · exact .inl h2.1
      | succ p => exact ih.all p (Nat.lt_of_succ_lt_succ hp)
    · cases p with
      | zero =>
        rcases h1.1 with h2 | h2
        · have e1 := mnB_is h2
          have e2 := wnB_is (c := c) hw
          omega
        · exact h2.2
      | succ p => exact ih.next p (Nat.lt_of_succ_lt_succ hp) hw
def ntk : Nat → List Int → List Tok
  | p, [] => [⟨0, [], 0, p⟩]
  | p, c :: r => tk1 c p :: ntk (p + 1) r
theorem ntk_is : ∀ (p : Nat) (B : List Int), (List.range B.length).map (fun i => tk1 (B.getD i 0) (p + i)) ++ [⟨0, [], 0, ((p + B.length : Nat) : Int)⟩] = ntk p B
  | p, [] => rfl
  | p, c :: r => by
    have ih := ntk_is (p + 1) r
    show (List.range (r.length + 1)).map _ ++ [_] = tk1 c p :: ntk (p + 1) r
    rw [← ih, List.range_succ_eq_map, List.map_cons, List.map_map, List.cons_append]
    have e : ∀ i, p + (i + 1) = p + 1 + i := fun i => by omega
    congr 1
    congr 1
    · refine List.map_congr_left fun i _ => ?_
      show tk1 ((c :: r).getD (i + 1) 0) (p + (i + 1)) = tk1 (r.getD i 0) (p + 1 + i)
      rw [e]
      rfl
    · rw [show p + (c :: r).length = p + 1 + r.length by rw [List.length_cons]; omega]
theorem cut_ntk {B : List Int} (h : one1 B = true) (hl : B.length ≤ 65536) : cuL B = ntk 0 B := by
  rw [cut_one (one1_is B h) hl, ← ntk_is 0 B]
  unfold toks1
  simp only [Nat.zero_add]
end TK
namespace TP
open TK (Tok)
def rep : Nat → List Int → List Int → List Int
  | 0, _, t => t
  | k + 1, u, t => u ++ rep k u t
def nsrc (kd k : Nat) : List Int := if kd = 0 then rep k [40] (49 :: rep k [41] []) else if kd = 1 then rep k [33] [97] else if kd = 2 then 49 :: rep (k + 1) [43, 49] [] else 97 :: rep (k + 1) [46, 98] []
def npl (kd : Nat) : Int := if kd = 0 ∨ kd = 1 then 64 else 131
def nok (kd k : Nat) : Bool := TK.one1 (nsrc kd k) && decide ((ans false (TK.ntk 0 (nsrc kd k)) (fuel (TK.ntk 0 (nsrc kd k)))).map told = some (if k ≤ 64 then (0, 0) else (23, npl kd)))
end TP
end Go.Proofs.YtkldllnnocdhbaaGreatDoor
