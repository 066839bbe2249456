/-
  Pack and Expr, of any list.
-/
import Derived.Test.YtkldllnnocdhbaaGreatDoorPy10
import Derived.Test.YtkldllnnocdhbaaGreatDoorTt8
import Derived.Test.YtkldllnnocdhbaaGreatDoorSr10
import Derived.Test.YtkldllnnocdhbaaGreatDoorRd10
import Derived.Test.YtkldllnnocdhbaaGreatDoorBy10
namespace Go.Proofs.YtkldllnnocdhbaaGreatDoor
namespace TP
open TR (Nd)
open TK (Tok)
/- "1 - a" -/
def cs1 : List Tok := [⟨2, [], 1, 0⟩, ⟨4, [45], 0, 2⟩, ⟨1, [97], 0, 4⟩, ⟨0, [], 0, 5⟩]
/- card "A" { cost 3; } -/
def cs2 : List Tok := [⟨1, [99, 97, 114, 100], 0, 0⟩, ⟨3, [65], 0, 5⟩, ⟨4, [123], 0, 9⟩, ⟨1, [99, 111, 115, 116], 0, 11⟩, ⟨2, [], 3, 16⟩, ⟨4, [59], 0, 17⟩, ⟨4, [125], 0, 19⟩, ⟨0, [], 0, 20⟩]
theorem cs1_is : P cs1 (fuel cs1) (.row 1) 0 0 = some (.ok (nod 45 0 [] 2 (.cons ⟨30, 0, 1, 0, [], 0, 0⟩ .nil (.cons ⟨33, 0, 0, 0, [97], 4, 0⟩ .nil .nil))) 3) := by decide +kernel
theorem cs2_is : P cs2 (fuel cs2) (.cards .nil) 0 0 = some (.ok (nod 2 0 [65] 0 (nod 3 3 [] 11 .nil)) 7) := by decide +kernel
end TP
end Go.Proofs.YtkldllnnocdhbaaGreatDoor
namespace Go.Proofs.YtkldllnnocdhbaaGreatDoor
namespace TP
open TR (Nd)
open TK (Tok tex)
def cb1 : List Int := [49, 32, 45, 32, 97]
def cb2 : List Int := [99, 97, 114, 100, 32, 34, 65, 34, 32, 123, 32, 99, 111, 115, 116, 32, 51, 59, 32, 125]
theorem cut1_is : TK.cuL cb1 = cs1 ∧ TK.cuE cb1 = 0 ∧ TK.cuA cb1 = 0 := by decide +kernel
theorem cut2_is : TK.cuL cb2 = cs2 ∧ TK.cuE cb2 = 0 ∧ TK.cuA cb2 = 0 := by decide +kernel
theorem fl1_is : flF (nod 45 0 [] 2 (.cons ⟨30, 0, 1, 0, [], 0, 0⟩ .nil (.cons ⟨33, 0, 0, 0, [97], 4, 0⟩ .nil .nil))) = [⟨45, 0, 0, 0, [], 2, 2⟩, ⟨30, 0, 1, 0, [], 0, 0⟩, ⟨33, 0, 0, 0, [97], 4, 0⟩] := by decide +kernel
theorem fl2_is : flF (nod 1 0 [] 0 (nod 2 0 [65] 0 (nod 3 3 [] 11 .nil))) = [⟨1, 0, 0, 0, [], 0, 1⟩, ⟨2, 0, 0, 0, [65], 0, 1⟩, ⟨3, 0, 3, 0, [], 11, 0⟩] := by decide +kernel
theorem tex1 : ∀ i, i + 1 < cs1.length → tex (tk cs1 i) ≠ [] := by
  intro i hi
  have h : i < 3 := by have h2 : cs1.length = 4 := rfl; omega
  rcases i with _ | _ | _ | i <;> first | decide +kernel | omega
theorem tex2 : ∀ i, i + 1 < cs2.length → tex (tk cs2 i) ≠ [] := by
  intro i hi
  have h : i < 7 := by have h2 : cs2.length = 8 := rfl; omega
  rcases i with _ | _ | _ | _ | _ | _ | _ | i <;> first | decide +kernel | omega
end TP
end Go.Proofs.YtkldllnnocdhbaaGreatDoor
namespace Go.Proofs.YtkldllnnocdhbaaGreatDoor
open Go.RowKit
attribute [local go_sem ↓] Go.wp_at_zero Go.wp_at_succ
namespace TP
open TR (Nd Byt nums_inj nums_nil)
open TK (Tok tex TabP)
set_option maxRecDepth 100000 in
set_option maxHeartbeats 16000000 in
theorem may0_ (W : World) (a : Option Addr) (c : Nat) : Calls Tryz.prog 68 #[.slice a 0 c] W (fun r w' => r = .returned (.bool false) ∧ Up W w') := by
  obtain ⟨Post, hPost⟩ : ∃ P : Ending → World → Prop, P = fun r w' => r = .returned (.bool false) ∧ Up W w' := ⟨_, rfl⟩
  rw [← hPost]
  have HPo : Hid (Post = fun r w' => r = .returned (.bool false) ∧ Up W w') := hPost
  clear hPost
  go_enter Tryz.func68, Tryz.ntmps68
  go_wp2_with fail
  rw [HPo.out]
  exact ⟨rfl, Up.refl _⟩
set_option maxRecDepth 100000 in
set_option maxHeartbeats 16000000 in
theorem read_no (W : World) (v fv : Value) (hM : Calls Tryz.prog 68 #[v] W (fun r w' => r = .returned (.bool false) ∧ Up W w')) : Calls Tryz.prog 26 #[v, fv] W (fun r w' => r = .returned (.tuple #[.slice none 0 0, .int .i64 1, .int .i64 0]) ∧ Up W w') := by
  obtain ⟨Post, hPost⟩ : ∃ P : Ending → World → Prop, P = fun r w' => r = .returned (.tuple #[.slice none 0 0, .int .i64 1, .int .i64 0]) ∧ Up W w' := ⟨_, rfl⟩
  rw [← hPost]
  have HPo : Hid (Post = fun r w' => r = .returned (.tuple #[.slice none 0 0, .int .i64 1, .int .i64 0]) ∧ Up W w') := hPost
  clear hPost
  have HM : Hid _ := hM
  clear hM
  go_enter Tryz.func26, Tryz.ntmps26
  go_wp2_with fail
  refine Calls.mono HM.out ?_
  rintro r9 w1 ⟨rfl, u1⟩
  have HU1 : Hid (Up W w1) := u1
  clear HM u1
  go_wp2_with fail
  rw [HPo.out]
  exact ⟨rfl, HU1.out⟩
set_option maxRecDepth 100000 in
set_option maxHeartbeats 16000000 in
theorem expr_no (W : World) (v : Value) (hM : Calls Tryz.prog 68 #[v] W (fun r w' => r = .returned (.bool false) ∧ Up W w')) : Calls Tryz.prog 13 #[v] W (fun r w' => r = .returned (.tuple #[.slice none 0 0, .int .i64 1, .int .i64 0]) ∧ Up W w') := by
  obtain ⟨Post, hPost⟩ : ∃ P : Ending → World → Prop, P = fun r w' => r = .returned (.tuple #[.slice none 0 0, .int .i64 1, .int .i64 0]) ∧ Up W w' := ⟨_, rfl⟩
  rw [← hPost]
  have HPo : Hid (Post = fun r w' => r = .returned (.tuple #[.slice none 0 0, .int .i64 1, .int .i64 0]) ∧ Up W w') := hPost
  clear hPost
  have HM : Hid _ := fun fv => read_no W v fv hM
  have hmf : ∀ (fn : Fn) (first cap : Array Value) (w : World), (Instr.makeFunc fn first cap).run Tryz.prog w = .ok (.func fn first cap) w := fun _ _ _ _ => rfl
  clear hM
  go_enter Tryz.func13, Tryz.ntmps13
  go_wp2_with fail
  refine Calls.mono (HM.out _) ?_
  rintro r9 w1 ⟨rfl, u1⟩
  have HU1 : Hid (Up W w1) := u1
  clear HM u1
  go_wp2_with fail
  rw [HPo.out]
  exact ⟨rfl, HU1.out⟩
set_option maxRecDepth 100000 in
set_option maxHeartbeats 16000000 in
theorem pack_no (W : World) (v : Value) (hM : Calls Tryz.prog 68 #[v] W (fun r w' => r = .returned (.bool false) ∧ Up W w')) : Calls Tryz.prog 14 #[v] W (fun r w' => r = .returned (.tuple #[.slice none 0 0, .int .i64 1, .int .i64 0]) ∧ Up W w') := by
  obtain ⟨Post, hPost⟩ : ∃ P : Ending → World → Prop, P = fun r w' => r = .returned (.tuple #[.slice none 0 0, .int .i64 1, .int .i64 0]) ∧ Up W w' := ⟨_, rfl⟩
  rw [← hPost]
  have HPo : Hid (Post = fun r w' => r = .returned (.tuple #[.slice none 0 0, .int .i64 1, .int .i64 0]) ∧ Up W w') := hPost
  clear hPost
  have HM : Hid _ := fun fv => read_no W v fv hM
  have hmf : ∀ (fn : Fn) (first cap : Array Value) (w : World), (Instr.makeFunc fn first cap).run Tryz.prog w = .ok (.func fn first cap) w := fun _ _ _ _ => rfl
  clear hM
  go_enter Tryz.func14, Tryz.ntmps14
  go_wp2_with fail
  refine Calls.mono (HM.out _) ?_
  rintro r9 w1 ⟨rfl, u1⟩
  have HU1 : Hid (Up W w1) := u1
  clear HM u1
  go_wp2_with fail
  rw [HPo.out]
  exact ⟨rfl, HU1.out⟩
end TP
end Go.Proofs.YtkldllnnocdhbaaGreatDoor
namespace Go.Proofs.YtkldllnnocdhbaaGreatDoor
open Go.RowKit
attribute [local go_sem ↓] Go.wp_at_zero Go.wp_at_succ
namespace TP
open TR (Nd Byt nums_inj)
open TK (Tok)
/- what is asked for at the root -/
def packR (l : List Tok) (R : Option Rs) : Option Rs := bd R (fun x j => okr (nod 1 0 [] (tk l 0).pos x) j)
theorem ex_tl {W : World} {bt off n c : Nat} {l : List Tok} (h : TL W bt off n c l) : (tk l (l.length - 1)).kind = 0 := by rw [← h.len]; exact h.last
theorem ex_bd {r : Option Rs} {k : Fo → Nat → Option Rs} {R : Rs} (h : bd r k = some R) : (∃ e p, r = some (.bad e p) ∧ R = .bad e p) ∨ ∃ f i, r = some (.ok f i) ∧ k f i = some R := bd_some h
set_option maxRecDepth 100000 in
set_option maxHeartbeats 16000000 in
theorem expr_run (W : World) (bt off n c : Nat) (l : List Tok) (hT : TL W bt off n c l) (hX : Ex l n) (R : Rs) (hR : P l (fuel l) (.row 1) 0 0 = some R) (hM : Calls Tryz.prog 68 #[.slice (some ⟨bt, off, none⟩) n c] W (fun r w' => r = .returned (.bool true) ∧ Up W w')) (hRT : W.cell? ⟨0, 0, none⟩ = some (.iface 181 (.agg #[.pointer (some ⟨4, 93, none⟩)]))) : Calls Tryz.prog 13 #[.slice (some ⟨bt, off, none⟩) n c] W (QR l R W) := by
  obtain ⟨Post, hPost⟩ : ∃ P : Ending → World → Prop, P = QR l R W := ⟨_, rfl⟩
  rw [← hPost]
  have HPo : Hid (Post = QR l R W) := hPost
  clear hPost
  have hla := ex_tl hT
  have hn := hT.len
  have hns := hT.small
  have hen : Ent 27 := fun _ _ => by kernel_rfl
  have HRD : Hid _ := read_ W bt off n c l hT 27 hen R (fun w0 b ml ms hE hMp W' o q => (all_ w0 b bt off n c ml ms l hE hX hla hMp (fuel l)).a_expr 0 0 R W' o q hE.pos (by omega) hR) (fun x j e => by
    have h9 := kd_last hla
    have h8 := tot l (l.length - 1) h9 (fuel l) (.row 1) 0 0 (by unfold fuel; show 16 * (l.length - 1 - 0) + 8 < _; omega) (Nat.zero_le _)
    rw [hR, e] at h8
    have h7 : 0 + 1 ≤ j ∧ j ≤ l.length - 1 := h8
    have h6 := hT.pos
    omega) (fun x j e => by
    have h8 := tot l l.length kd_len (fuel l) (.row 1) 0 0 (by unfold fuel; show 16 * (l.length - 0) + 8 < _; omega) (Nat.zero_le _)
    rw [hR, e] at h8
    have h7 : 0 + 1 ≤ j ∧ j ≤ l.length := h8
    obtain ⟨h1, h2⟩ := wf l (fuel l) (.row 1) 0 0 trivial x j (by rw [hR, e])
    have h5 : (flF (gat (.row 1))).length = 0 := rfl
    exact ⟨h1, by omega⟩) hM hRT
  have hmf9 := hmf
  clear hT hX hR hM hla hn hns hen
  go_enter Tryz.func13, Tryz.ntmps13
  go_wp2_with fail
  refine Calls.mono HRD.out ?_
  rintro r9 w1 ⟨u1, h1⟩
  have HU1 : Hid (Up W w1) := u1
  clear HRD u1
  cases R with
  | bad er pp =>
    have h1 : r9 = .returned (.tuple #[.slice none 0 0, .int .i64 er, .int .i64 pp]) := h1
    subst h1
    go_wp2_with fail
    rw [HPo.out]
    exact ⟨HU1.out, rfl⟩
  | ok x j =>
    have h1 : (if (tk l j).kind = 0 then ∃ v, r9 = .returned (.tuple #[v, .int .i64 0, .int .i64 0]) ∧ OwN W.heap.size w1 v (flF x) else r9 = .returned (.tuple #[.slice none 0 0, .int .i64 22, .int .i64 (tk l j).pos])) := h1
    by_cases hk : (tk l j).kind = 0
    · rw [if_pos hk] at h1
      obtain ⟨v, rfl, ho⟩ := h1
      have HKK : Hid ((tk l j).kind = 0) := hk
      have HO : Hid (OwN W.heap.size w1 v (flF x)) := ho
      clear hk ho
      go_wp2_with fail
      rw [HPo.out]
      refine ⟨HU1.out, ?_⟩
      show (if (tk l j).kind = 0 then _ else _)
      rw [if_pos HKK.out]
      exact ⟨v, rfl, HO.out⟩
    · rw [if_neg hk] at h1
      subst h1
      have HKK : Hid (¬ (tk l j).kind = 0) := hk
      clear hk
      go_wp2_with fail
      rw [HPo.out]
      refine ⟨HU1.out, ?_⟩
      show (if (tk l j).kind = 0 then _ else _)
      rw [if_neg HKK.out]
      rfl
set_option maxRecDepth 100000 in
set_option maxHeartbeats 16000000 in
theorem pack_run (W : World) (bt off n c : Nat) (l : List Tok) (hT : TL W bt off n c l) (hX : Ex l n) (R : Rs) (hR : packR l (P l (fuel l) (.cards .nil) 0 0) = some R) (hM : Calls Tryz.prog 68 #[.slice (some ⟨bt, off, none⟩) n c] W (fun r w' => r = .returned (.bool true) ∧ Up W w')) (hRT : W.cell? ⟨0, 0, none⟩ = some (.iface 181 (.agg #[.pointer (some ⟨4, 93, none⟩)]))) : Calls Tryz.prog 14 #[.slice (some ⟨bt, off, none⟩) n c] W (QR l R W) := by
  obtain ⟨Post, hPost⟩ : ∃ P : Ending → World → Prop, P = QR l R W := ⟨_, rfl⟩
  rw [← hPost]
  have HPo : Hid (Post = QR l R W) := hPost
  clear hPost
  have hla := ex_tl hT
  have hn := hT.len
  have hns := hT.small
  have hen : Ent 28 := fun _ _ => by kernel_rfl
  have HRD : Hid _ := read_ W bt off n c l hT 28 hen R (fun w0 b ml ms hE hMp W' o q => ppack_ w0 W' b bt off n c ml ms 0 0 l hE o hE.pos q (by omega) (fuel l) R hla (fun k hk => (all_ w0 b bt off n c ml ms l hE hX hla hMp k).a_card) hR) (fun x j e => by
    subst e
    rcases ex_bd hR with ⟨e1, p1, -, h2⟩ | ⟨f1, i1, h1, h2⟩
    · cases h2
    · obtain ⟨rfl, rfl⟩ : nod 1 0 [] (tk l 0).pos f1 = x ∧ i1 = j := by
        have h3 := Option.some.inj h2
        injection h3 with h4 h5
        exact ⟨h4, h5⟩
      have h9 := kd_last hla
      have h8 := tot l (l.length - 1) h9 (fuel l) (.cards .nil) 0 0 (by unfold fuel; show 16 * (l.length - 1 - 0) + 2 < _; omega) (Nat.zero_le _)
      rw [h1] at h8
      have h7 : 0 + 0 ≤ i1 ∧ i1 ≤ l.length - 1 := h8
      have h6 := hT.pos
      omega) (fun x j e => by
    subst e
    rcases ex_bd hR with ⟨e1, p1, -, h2⟩ | ⟨f1, i1, h1, h2⟩
    · cases h2
    · obtain ⟨rfl, rfl⟩ : nod 1 0 [] (tk l 0).pos f1 = x ∧ i1 = j := by
        have h3 := Option.some.inj h2
        injection h3 with h4 h5
        exact ⟨h4, h5⟩
      have h8 := tot l l.length kd_len (fuel l) (.cards .nil) 0 0 (by unfold fuel; show 16 * (l.length - 0) + 2 < _; omega) (Nat.zero_le _)
      rw [h1] at h8
      have h7 : 0 + 0 ≤ i1 ∧ i1 ≤ l.length := h8
      obtain ⟨h3, h4⟩ := wf l (fuel l) (.cards .nil) 0 0 trivial f1 i1 h1
      have h5 : (flF (gat (.cards .nil))).length = 0 := rfl
      exact ⟨h3.nod, by rw [len_nod]; omega⟩) hM hRT
  have hmf9 := hmf
  clear hT hX hR hM hla hn hns hen
  go_enter Tryz.func14, Tryz.ntmps14
  go_wp2_with fail
  refine Calls.mono HRD.out ?_
  rintro r9 w1 ⟨u1, h1⟩
  have HU1 : Hid (Up W w1) := u1
  clear HRD u1
  cases R with
  | bad er pp =>
    have h1 : r9 = .returned (.tuple #[.slice none 0 0, .int .i64 er, .int .i64 pp]) := h1
    subst h1
    go_wp2_with fail
    rw [HPo.out]
    exact ⟨HU1.out, rfl⟩
  | ok x j =>
    have h1 : (if (tk l j).kind = 0 then ∃ v, r9 = .returned (.tuple #[v, .int .i64 0, .int .i64 0]) ∧ OwN W.heap.size w1 v (flF x) else r9 = .returned (.tuple #[.slice none 0 0, .int .i64 22, .int .i64 (tk l j).pos])) := h1
    by_cases hk : (tk l j).kind = 0
    · rw [if_pos hk] at h1
      obtain ⟨v, rfl, ho⟩ := h1
      have HKK : Hid ((tk l j).kind = 0) := hk
      have HO : Hid (OwN W.heap.size w1 v (flF x)) := ho
      clear hk ho
      go_wp2_with fail
      rw [HPo.out]
      refine ⟨HU1.out, ?_⟩
      show (if (tk l j).kind = 0 then _ else _)
      rw [if_pos HKK.out]
      exact ⟨v, rfl, HO.out⟩
    · rw [if_neg hk] at h1
      subst h1
      have HKK : Hid (¬ (tk l j).kind = 0) := hk
      clear hk
      go_wp2_with fail
      rw [HPo.out]
      refine ⟨HU1.out, ?_⟩
      show (if (tk l j).kind = 0 then _ else _)
      rw [if_neg HKK.out]
      rfl
end TP
end Go.Proofs.YtkldllnnocdhbaaGreatDoor
namespace Go.Proofs.YtkldllnnocdhbaaGreatDoor
open Go.RowKit
namespace TP
open TR (Nd Byt nums_inj nums_nil)
open TK (Tok tex TabP)
theorem isN_ok (l : List Int) : TR.isN l = TK.okN l := rfl
theorem tex_more {t : Tok} (h : tex t ≠ []) : t.kind ≠ 0 ∧ (t.kind = 1 → TR.isN t.text = true) ∧ t.text.length ≤ 100000 := by
  rw [isN_ok]
  unfold tex at h
  by_cases h1 : t.pos < 0 ∨ t.num < 0
  · rw [if_pos h1] at h
    exact absurd rfl h
  rw [if_neg h1] at h
  by_cases h2 : t.kind = 2 ∧ t.text = []
  · exact ⟨by omega, fun h3 => by omega, by rw [h2.2]; exact Nat.zero_le _⟩
  rw [if_neg h2] at h
  by_cases h3 : t.num ≠ 0
  · rw [if_pos h3] at h
    exact absurd rfl h
  rw [if_neg h3] at h
  by_cases h4 : (t.kind = 1 ∧ TK.okN t.text = true) ∨ (t.kind = 4 ∧ TK.mrk t.text = true)
  · rcases h4 with ⟨h5, h6⟩ | ⟨h5, h6⟩
    · refine ⟨by omega, fun _ => h6, ?_⟩
      unfold TK.okN at h6
      simp only [Bool.and_eq_true, decide_eq_true_eq] at h6
      omega
    · refine ⟨by omega, fun h7 => by omega, ?_⟩
      have h8 : ∀ x : List Int, TK.mrk x = true → x.length ≤ 100000
        | [], e => by cases e
        | [_], _ => by show 1 ≤ 100000; decide
        | [_, _], _ => by show 2 ≤ 100000; decide
        | _ :: _ :: _ :: _, e => by cases e
      exact h8 _ h6
  rw [if_neg h4] at h
  by_cases h5 : t.kind = 3 ∧ TK.okT t.text = true
  · refine ⟨by omega, fun h6 => by omega, ?_⟩
    have h6 := h5.2
    unfold TK.okT at h6
    simp only [Bool.and_eq_true, decide_eq_true_eq] at h6
    omega
  · rw [if_neg h5] at h
    exact absurd rfl h
theorem TM.tl {W : World} {bt off n c : Nat} {l : List Tok} (h : TM W bt off n c l) (hm : MayT l) : TL W bt off n c l := by
  have hlen := h.len
  refine ⟨h.len, h.cap, h.pos, h.small, h.cells, fun i hi => (tex_more (hm.1 i (by omega))).1, ?_, h.byt⟩
  have h2 := hm.2.2
  rw [hlen, h2]
theorem TM.ex {W : World} {bt off n c : Nat} {l : List Tok} (h : TM W bt off n c l) (hm : MayT l) : Ex l n := by
  have hlen := h.len
  have h2 := hm.2.2
  refine ⟨fun i hi hk => ?_, fun i hi => ?_⟩
  · rcases Nat.lt_or_ge (i + 1) l.length with h1 | h1
    · exact (tex_more (hm.1 i h1)).2.1 hk
    · obtain rfl : i = l.length - 1 := by omega
      rw [h2] at hk
      have h3 : (0 : Int) = 1 := hk
      omega
  · rcases Nat.lt_or_ge (i + 1) l.length with h1 | h1
    · exact (tex_more (hm.1 i h1)).2.2
    · obtain rfl : i = l.length - 1 := by omega
      rw [h2]
      exact Nat.zero_le _
end TP
end Go.Proofs.YtkldllnnocdhbaaGreatDoor
namespace Go.Proofs.YtkldllnnocdhbaaGreatDoor
open Go.RowKit
namespace TP
open TR (Nd Byt nums_inj nums_nil)
open TK (Tok tex TabP)
/- what is answered: an error and a place, or a tree -/
def AN (l : List Tok) (g : Option Rs) (W : World) (e : Ending) (w' : World) : Prop := Up W w' ∧ ((¬ MayT l ∧ e = .returned (.tuple #[.slice none 0 0, .int .i64 1, .int .i64 0])) ∨ (MayT l ∧ ∃ R, g = some R ∧ QR l R W e w'))
theorem may_yes {W : World} {bt off n c : Nat} {l : List Tok} (h : TM W bt off n c l) (hm : MayT l) : Calls Tryz.prog 68 #[.slice (some ⟨bt, off, none⟩) n c] W (fun r w' => r = .returned (.bool true) ∧ Up W w') :=
  Calls.mono (may_ W bt off n c l h) (fun r w' ⟨bo, h1, h2, h3⟩ => ⟨by rw [h1, h2.2 hm], h3⟩)
theorem may_not {W : World} {bt off n c : Nat} {l : List Tok} (h : TM W bt off n c l) (hm : ¬ MayT l) : Calls Tryz.prog 68 #[.slice (some ⟨bt, off, none⟩) n c] W (fun r w' => r = .returned (.bool false) ∧ Up W w') :=
  Calls.mono (may_ W bt off n c l h) (fun r w' ⟨bo, h1, h2, h3⟩ => ⟨by
    cases bo with
    | false => exact h1
    | true => exact absurd (h2.1 rfl) hm, h3⟩)
theorem expr_any (W : World) (bt off n c : Nat) (l : List Tok) (h : TM W bt off n c l) (hRT : W.cell? ⟨0, 0, none⟩ = some (.iface 181 (.agg #[.pointer (some ⟨4, 93, none⟩)]))) :
    Calls Tryz.prog 13 #[.slice (some ⟨bt, off, none⟩) n c] W (AN l (P l (fuel l) (.row 1) 0 0) W) := by
  by_cases hm : MayT l
  · obtain ⟨R, hR, -⟩ := ends l (.row 1) 0 0 (Nat.zero_le _)
    exact Calls.mono (expr_run W bt off n c l (h.tl hm) (h.ex hm) R hR (may_yes h hm) hRT) (fun r w' hq => ⟨hq.1, .inr ⟨hm, R, hR, hq⟩⟩)
  · exact Calls.mono (expr_no W _ (may_not h hm)) (fun r w' hq => ⟨hq.2, .inl ⟨hm, hq.1⟩⟩)
theorem pack_any (W : World) (bt off n c : Nat) (l : List Tok) (h : TM W bt off n c l) (hRT : W.cell? ⟨0, 0, none⟩ = some (.iface 181 (.agg #[.pointer (some ⟨4, 93, none⟩)]))) :
    Calls Tryz.prog 14 #[.slice (some ⟨bt, off, none⟩) n c] W (AN l (packR l (P l (fuel l) (.cards .nil) 0 0)) W) := by
  by_cases hm : MayT l
  · obtain ⟨R0, hR0, -⟩ := ends l (.cards .nil) 0 0 (Nat.zero_le _)
    obtain ⟨R, hR⟩ : ∃ R, packR l (P l (fuel l) (.cards .nil) 0 0) = some R := by
      rw [hR0]
      cases R0 with
      | bad e p => exact ⟨_, rfl⟩
      | ok f j => exact ⟨_, rfl⟩
    exact Calls.mono (pack_run W bt off n c l (h.tl hm) (h.ex hm) R hR (may_yes h hm) hRT) (fun r w' hq => ⟨hq.1, .inr ⟨hm, R, hR, hq⟩⟩)
  · exact Calls.mono (pack_no W _ (may_not h hm)) (fun r w' hq => ⟨hq.2, .inl ⟨hm, hq.1⟩⟩)
end TP
end Go.Proofs.YtkldllnnocdhbaaGreatDoor
