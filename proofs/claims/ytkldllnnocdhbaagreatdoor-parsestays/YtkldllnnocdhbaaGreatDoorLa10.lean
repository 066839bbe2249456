/-
  A plant is laid: its nodes behind the list, each ahead of its kids.
-/
import Derived.Test.YtkldllnnocdhbaaGreatDoorPb10
import Derived.Test.YtkldllnnocdhbaaGreatDoorNp10
namespace Go.Proofs.YtkldllnnocdhbaaGreatDoor
namespace TP
open TR (Nd)
open TK (Tok)
def WfF : Fo → Prop
  | .nil => True
  | .cons a k r => a.kids = (cntF k : Int) ∧ WfF k ∧ WfF r
theorem WfF.app : ∀ {f g : Fo}, WfF f → WfF g → WfF (f.app g)
  | .nil, _, _, h => h
  | .cons _ _ _, _, ⟨h1, h2, h3⟩, h => ⟨h1, h2, WfF.app h3 h⟩
theorem WfF.nod {op n : Int} {t : List Int} {p : Int} {k : Fo} (h : WfF k) : WfF (nod op n t p k) := ⟨rfl, h, trivial⟩
theorem wln_app (f g : Fo) : (flF (f.app g)).length = (flF f).length + (flF g).length := by rw [flF_app, List.length_append]
theorem wln_nod (op n : Int) (t : List Int) (p : Int) (k : Fo) : (flF (nod op n t p k)).length = (flF k).length + 1 := by
  show ((⟨op, 0, n, 0, t, p, (cntF k : Int)⟩ : Nd) :: (flF k ++ [])).length = _
  rw [List.append_nil, List.length_cons]
theorem wln_nil : (flF .nil).length = 0 := rfl
/- what is gathered so far -/
def gat : G → Fo
  | .rowL _ x _ => x
  | .chn x _ => x
  | .argL _ x => x
  | .blkL x => x
  | .lines x => x
  | .cards x => x
  | _ => .nil
def WW (a c : Nat) (r : Option Rs) : Prop := ∀ f j, r = some (.ok f j) → WfF f ∧ (flF f).length + c ≤ a + j
theorem WW_ok {a c j : Nat} {f : Fo} (h1 : WfF f) (h2 : (flF f).length + c ≤ a + j) : WW a c (okr f j) := fun f' j' e => by
  cases e
  exact ⟨h1, h2⟩
theorem WW_bad {a c : Nat} (t : Tok) : WW a c (bad t) := fun _ _ e => by cases e
theorem WW_deep {a c : Nat} (t : Tok) : WW a c (deep t) := fun _ _ e => by cases e
theorem WW_bd {a c a1 c1 : Nat} {r : Option Rs} {k : Fo → Nat → Option Rs} (h : WW a1 c1 r) (hk : ∀ f j, WfF f → (flF f).length + c1 ≤ a1 + j → WW a c (k f j)) : WW a c (bd r k) := by
  intro f j e
  rcases bd_some e with ⟨e1, p1, -, h2⟩ | ⟨f1, j1, h1, h2⟩
  · cases h2
  · exact hk f1 j1 (h f1 j1 h1).1 (h f1 j1 h1).2 f j h2
theorem WW_ite {a c : Nat} {p : Prop} [Decidable p] {x y : Option Rs} (ha : WW a c x) (hb : WW a c y) : WW a c (if p then x else y) := by
  split
  · exact ha
  · exact hb
theorem WW_mono {a c a1 c1 : Nat} {r : Option Rs} (h : WW a1 c1 r) (hc : a1 + c ≤ a + c1) : WW a c r := fun f j e => by
  have h9 := h f j e
  exact ⟨h9.1, by omega⟩
theorem wf (l : List Tok) : ∀ (n : Nat) (g : G) (i d : Nat), WfF (gat g) → WW (flF (gat g)).length i (P l n g i d)
  | 0, _, _, _, _ => fun _ _ e => by cases e
  | n + 1, g, i, d, hg => by
    have ih := fun g i d => wf l n g i d
    have l0 := wln_nil
    have opn : ∀ r, gat (opnd r) = .nil := fun r => by
      unfold opnd
      by_cases h1 : r = 1
      · subst h1; rfl
      by_cases h2 : r = 2
      · subst h2; rfl
      by_cases h5 : r = 5
      · subst h5; rfl
      rw [if_neg h1, if_neg h2, if_neg h5]
      rfl
    have ag : ∀ a : Bool, gat (if a = true then G.arg else .row 1) = .nil := fun a => by cases a <;> rfl
    have ih0 : ∀ g i d, gat g = .nil → WW 0 i (P l n g i d) := fun g i d e => by
      have h := ih g i d (by rw [e]; trivial)
      rw [e] at h
      exact h
    cases g with
    | arg =>
      simp only [gat]
      rw [P]
      refine WW_ite (WW_ok (WfF.nod trivial) (by rw [wln_nod, l0]; omega)) ?_
      split
      · exact WW_ok (WfF.nod trivial) (by rw [wln_nod, l0]; omega)
      · exact ih0 _ _ _ rfl
    | line =>
      simp only [gat]
      rw [P]
      refine WW_ite (WW_ite (WW_ite (WW_ok (WfF.nod trivial) (by rw [wln_nod, l0]; omega)) (WW_bad _)) (WW_bad _)) ?_
      refine WW_ite (WW_ite (WW_ite (WW_ok (WfF.nod trivial) (by rw [wln_nod, l0]; omega)) (WW_bad _)) (WW_bad _)) ?_
      refine WW_ite ?_ (WW_bad _)
      split
      · exact WW_bad _
      · refine WW_ite ?_ ?_
        · refine WW_bd (ih0 _ _ _ rfl) (fun x j h1 h2 => WW_bd (ih0 _ _ _ rfl) (fun y k h3 h4 => WW_ok (WfF.nod (h1.app h3)) (by rw [wln_nod, wln_app]; omega)))
        · exact WW_bd (ih0 _ _ _ rfl) (fun y k h3 h4 => WW_ok (WfF.nod h3) (by rw [wln_nod]; omega))
    | _ =>
      simp only [gat] at hg ⊢
      rw [P]
      repeat' first
        | exact WW_bad _
        | exact WW_deep _
        | exact WW_ok (by first | exact trivial | assumption | exact WfF.nod trivial | exact WfF.nod (by assumption) | (repeat' first | assumption | apply WfF.nod | apply WfF.app)) (by (try simp only [wln_nod, wln_app, wln_nil]); omega)
        | refine WW_ite ?_ ?_
        | exact WW_mono (ih _ _ _ (by simp only [gat]; first | exact trivial | assumption | (repeat' first | assumption | apply WfF.nod | apply WfF.app))) (by simp only [gat, wln_nod, wln_app, wln_nil]; omega)
        | (refine WW_bd (ih0 _ _ _ (by first | rfl | exact opn _ | exact ag _)) (fun _ _ _ _ => ?_))
end TP
end Go.Proofs.YtkldllnnocdhbaaGreatDoor
namespace Go.Proofs.YtkldllnnocdhbaaGreatDoor
open Go.RowKit
attribute [local go_sem ↓] Go.wp_at_zero Go.wp_at_succ
namespace TP
open TR (Nd Byt nums_inj)
open TK (Tok)
/- a forest's trees -/
def trs : Fo → List (Nd × Fo)
  | .nil => []
  | .cons a k r => (a, k) :: trs r
def fl1 (t : Nd × Fo) : List Nd := t.1 :: flF t.2
theorem trs_len : ∀ f, (trs f).length = cntF f
  | .nil => rfl
  | .cons a k r => by
    show (trs r).length + 1 = cntF r + 1
    rw [trs_len r]
theorem trs_flat : ∀ f, (trs f).flatMap fl1 = flF f
  | .nil => rfl
  | .cons a k r => by
    show fl1 (a, k) ++ (trs r).flatMap fl1 = a :: (flF k ++ flF r)
    rw [trs_flat r]
    rfl
theorem fl1_take (ks : List (Nd × Fo)) (i : Nat) (hi : i < ks.length) : (ks.take (i + 1)).flatMap fl1 = (ks.take i).flatMap fl1 ++ fl1 (ks[i]'hi) := by
  rw [List.take_succ_eq_append_getElem hi, List.flatMap_append]
  simp
theorem fl1_le (ks : List (Nd × Fo)) (i : Nat) : ((ks.take i).flatMap fl1).length ≤ (ks.flatMap fl1).length := by
  have h : ks.flatMap fl1 = (ks.take i).flatMap fl1 ++ (ks.drop i).flatMap fl1 := by rw [← List.flatMap_append, List.take_append_drop]
  rw [h, List.length_append]
  omega
theorem ks_le : ∀ ks : List (Nd × Fo), ks.length ≤ (ks.flatMap fl1).length
  | [] => Nat.zero_le _
  | t :: r => by
    have h := ks_le r
    rw [List.flatMap_cons, List.length_append, List.length_cons]
    have h2 : (fl1 t).length = (flF t.2).length + 1 := rfl
    omega
/- a list with more behind it -/
def LQ (W0 : World) (xs ys : List Nd) : Ending → World → Prop := fun r w' => ∃ u, r = .returned u ∧ OwN W0.heap.size w' u (xs ++ ys) ∧ Up W0 w'
/- a plant that can be laid -/
def LayP (W0 : World) (p : Value) (t : Nd × Fo) : Prop := ∀ (W : World) (v : Value) (xs : List Nd), Up W0 W → OwN W0.heap.size W v xs → xs.length + (fl1 t).length ≤ 100000000 → Calls Tryz.prog 72 #[p, v] W (LQ W0 xs (fl1 t))
set_option maxRecDepth 100000 in
set_option maxHeartbeats 16000000 in
theorem laid1_ (W0 W : World) (g : Nat) (a : Nd) (sv : Value) (kv : List Value) (ks : List (Nd × Fo)) (v : Value) (xs : List Nd) (hc : W0.heap[g]? = some (.cells (pcell a sv) 170 (0, 0))) (hr : W0.ownsRow 0 91 1 sv kv.length kv) (hkv : ks.length = kv.length) (hU : Up W0 W) (hv : OwN W0.heap.size W v xs) (ha : a.kids = (ks.length : Int)) (hK : ∀ i (hi : i < ks.length), ∃ g2, kv[i]? = some (ptr g2) ∧ LayP W0 (ptr g2) (ks[i]'hi)) (hn : xs.length + (a :: ks.flatMap fl1).length ≤ 100000000) : Calls Tryz.prog 72 #[ptr g, v] W (LQ W0 xs (a :: (ks.flatMap fl1))) := by
  obtain ⟨Post, hPost⟩ : ∃ P : Ending → World → Prop, P = LQ W0 xs (a :: (ks.flatMap fl1)) := ⟨_, rfl⟩
  rw [← hPost]
  have HPo : Hid (Post = LQ W0 xs (a :: (ks.flatMap fl1))) := hPost
  clear hPost
  have hmx := hmf
  obtain ⟨iT, hiT, z0, z1, z2⟩ := info_parts infoNd
  obtain ⟨va, vc, rfl⟩ := row_val hv
  obtain ⟨q, hQ⟩ : ∃ q, q = xs.length := ⟨_, rfl⟩
  have HQ : Hid (q = xs.length) := hQ
  obtain ⟨m, hM⟩ : ∃ m, m = ks.length := ⟨_, rfl⟩
  have HM : Hid (m = ks.length) := hM
  obtain ⟨aop, akd, an, am, at_, aps, aks⟩ := a
  have ha0 := ha
  clear ha
  have ha : aks = (m : Int) := by rw [hM]; exact ha0
  subst ha
  clear ha0
  unfold OwN at hv
  rw [← hQ] at hv hn ⊢
  rw [← hkv, ← hM] at hr
  obtain ⟨sa, sc, rfl⟩ := row_val hr
  have HU : Hid (Up W0 W) := hU
  have HCL : Hid (W.heap[g]? = some (.cells (pcell ⟨aop, akd, an, am, at_, aps, (m : Int)⟩ (.slice sa m sc)) 170 (0, 0))) := hU.heap hc
  have H07 : Hid (W0.cell? ⟨g, 7, none⟩ = some (.slice sa m sc)) := by unfold Hid; simp [World.cell?, hc, pcell]
  have c0 : W.cell? ⟨g, 0, none⟩ = some (.int .i8 aop) := by have := HCL.out; simp [World.cell?, this, pcell]
  have c1 : W.cell? ⟨g, 1, none⟩ = some (.int .i8 akd) := by have := HCL.out; simp [World.cell?, this, pcell]
  have c2 : W.cell? ⟨g, 2, none⟩ = some (.int .i64 an) := by have := HCL.out; simp [World.cell?, this, pcell]
  have c3 : W.cell? ⟨g, 3, none⟩ = some (.int .i64 am) := by have := HCL.out; simp [World.cell?, this, pcell]
  have c4 : W.cell? ⟨g, 4, none⟩ = some (.string (strOfNums at_)) := by have := HCL.out; simp [World.cell?, this, pcell]
  have c5 : W.cell? ⟨g, 5, none⟩ = some (.int .i64 aps) := by have := HCL.out; simp [World.cell?, this, pcell]
  have c6 : W.cell? ⟨g, 6, none⟩ = some (.int .i64 0) := by have := HCL.out; simp [World.cell?, this, pcell]
  have c7 : W.cell? ⟨g, 7, none⟩ = some (.slice sa m sc) := by have := HCL.out; simp [World.cell?, this, pcell]
  have hgl : g < W.heap.size := (Array.getElem?_eq_some_iff.1 HCL.out).1
  have hgz : (W.alloc (.cells #[.int .i8 aop, .int .i8 akd, .int .i64 an, .int .i64 am, .string (strOfNums at_), .int .i64 aps, .int .i64 0] 41)).cell? ⟨g, 7, none⟩ = some (.slice sa m sc) := ((Up.refl W).alloc _).cell c7
  have HV : Hid (((W.alloc (.cells #[.int .i8 aop, .int .i8 akd, .int .i64 an, .int .i64 am, .string (strOfNums at_), .int .i64 aps, .int .i64 (m : Int)] 41)).alloc (.cells #[.int .i8 aop, .int .i8 akd, .int .i64 an, .int .i64 am, .string (strOfNums at_), .int .i64 aps, .int .i64 (m : Int)] 41)).ownsRow W0.heap.size 41 7 (.slice va q vc) q (nvs xs)) := row_up (show W.ownsRow W0.heap.size 41 7 (.slice va q vc) q (nvs xs) from hv) (((Up.refl W).alloc _).alloc _)
  have HSZ : Hid (W0.heap.size ≤ ((W.alloc (.cells #[.int .i8 aop, .int .i8 akd, .int .i64 an, .int .i64 am, .string (strOfNums at_), .int .i64 aps, .int .i64 (m : Int)] 41)).alloc (.cells #[.int .i8 aop, .int .i8 akd, .int .i64 an, .int .i64 am, .string (strOfNums at_), .int .i64 aps, .int .i64 (m : Int)] 41)).heap.size) := by
    unfold Hid
    have := hU.size
    simp
    omega
  have HMW : Hid (∀ j u, (nvs [⟨aop, akd, an, am, at_, aps, (m : Int)⟩])[j]? = some u → ((W.alloc (.cells #[.int .i8 aop, .int .i8 akd, .int .i64 an, .int .i64 am, .string (strOfNums at_), .int .i64 aps, .int .i64 (m : Int)] 41)).alloc (.cells #[.int .i8 aop, .int .i8 akd, .int .i64 an, .int .i64 am, .string (strOfNums at_), .int .i64 aps, .int .i64 (m : Int)] 41)).cell? ((⟨W.heap.size + 1, 0, none⟩ : Addr).add j) = some u) := by
    have h9 := World.news_of_block (w := ((W.alloc (.cells #[.int .i8 aop, .int .i8 akd, .int .i64 an, .int .i64 am, .string (strOfNums at_), .int .i64 aps, .int .i64 (m : Int)] 41)).alloc (.cells #[.int .i8 aop, .int .i8 akd, .int .i64 an, .int .i64 am, .string (strOfNums at_), .int .i64 aps, .int .i64 (m : Int)] 41))) (B := W.heap.size + 1) (cs := #[.int .i8 aop, .int .i8 akd, .int .i64 an, .int .i64 am, .string (strOfNums at_), .int .i64 aps, .int .i64 (m : Int)]) (t := 41) (fr := (0, 0)) (by rw [show W.heap.size + 1 = (W.alloc (.cells #[.int .i8 aop, .int .i8 akd, .int .i64 an, .int .i64 am, .string (strOfNums at_), .int .i64 aps, .int .i64 (m : Int)] 41)).heap.size by simp]; exact heap_alloc_new _ _)
    exact h9
  have HU2 : Hid (Up W0 ((W.alloc (.cells #[.int .i8 aop, .int .i8 akd, .int .i64 an, .int .i64 am, .string (strOfNums at_), .int .i64 aps, .int .i64 (m : Int)] 41)).alloc (.cells #[.int .i8 aop, .int .i8 akd, .int .i64 an, .int .i64 am, .string (strOfNums at_), .int .i64 aps, .int .i64 (m : Int)] 41))) := (hU.alloc _).alloc _
  have HVL : Hid (∀ k9, (Value.slice va q vc).ownBlock = some k9 → W0.heap.size ≤ k9) := fun k9 e => (World.ownsRow.lt hv k9 e).1
  have HFN : Hid (∀ v' V9, V9.ownsRow W0.heap.size 41 7 v' (q + 1) (nvs xs ++ nvs [⟨aop, akd, an, am, at_, aps, (m : Int)⟩]) → ((W.alloc (.cells #[.int .i8 aop, .int .i8 akd, .int .i64 an, .int .i64 am, .string (strOfNums at_), .int .i64 aps, .int .i64 (m : Int)] 41)).alloc (.cells #[.int .i8 aop, .int .i8 akd, .int .i64 an, .int .i64 am, .string (strOfNums at_), .int .i64 aps, .int .i64 (m : Int)] 41)).grownBy V9 (Value.slice va q vc).ownBlock → V9.ownsRow W0.heap.size 41 7 v' (q + 1) (nvs (xs ++ [⟨aop, akd, an, am, at_, aps, (m : Int)⟩])) ∧ Up W0 V9) := fun v' V9 n1 n2 => by
    refine ⟨by rw [nvs_app]; exact n1, Below.grown HU2.out n2 HSZ.out HVL.out⟩
  have HKC : Hid (∀ i (hi : i < ks.length), ∀ W9, Up W0 W9 → ∃ sb so g2, sa = some ⟨sb, so, none⟩ ∧ W9.cell? ⟨sb, so + i, none⟩ = some (ptr g2) ∧ LayP W0 (ptr g2) (ks[i]'hi)) := fun i hi W9 hu => by
    obtain ⟨g2, e1, e2⟩ := hK i hi
    rcases hr.2 with ⟨-, h0⟩ | ⟨g9, cap, cur, e3, -, -, -⟩
    · omega
    · injection e3 with e4 e5 e6
      subst e4
      refine ⟨g9, 0, g2, rfl, ?_, e2⟩
      have h9 := hu.cell (hr.cells (g := g9) rfl i _ e1)
      rcases Nat.eq_zero_or_pos i with rfl | h0
      · simpa [Addr.add] using h9
      · simpa [Addr.add, Nat.ne_of_gt h0] using h9
  clear hc hr hv hU hQ hM hkv hK
  show Calls Tryz.prog 72 #[ptr g, .slice va q vc] W Post
  unfold ptr
  go_enter Tryz.func72, Tryz.ntmps72
  go_upto_region 4 with (first | (at_builtin; go_loud (refine wpList_append_far _ (by rfl) (.tmp 18) (.tmp 20) 36 (by rfl) W0.heap.size 41 iT _ 7 56 Tryz.underlying36 hiT z0 z1 z2 (by rfl) (by decide) (.slice va q vc) q (nvs xs) (by rfl) HV.out ⟨W.heap.size + 1, 0, none⟩ 1 1 (nvs [⟨aop, akd, an, am, at_, aps, (m : Int)⟩]) (by rfl) (Nat.succ_pos _) (by rfl) HMW.out (nvs_one _) (by unfold maxLen; omega) (by omega) HSZ.out ?_; intro v' V9 n1 n2 n3; obtain ⟨fa, fc, hva⟩ : ∃ a c, v' = Value.slice a (q + 1) c := row_val n1; subst hva; have HF := HFN.out _ V9 n1 n2; clear n1 n2 n3)))
  obtain ⟨hf1, hf2⟩ := HF
  have HF1 : Hid _ := hf1
  have HF2 : Hid (Up W0 V9) := hf2
  have c9 : V9.cell? ⟨g, 7, none⟩ = some (.slice sa m sc) := HF2.out.cell H07.out
  clear hf1 hf2 HFN HMW HV HU2 HSZ HVL
  rw [List.length_cons] at hn
  obtain ⟨A, hA⟩ : ∃ A : Nd, A = ⟨aop, akd, an, am, at_, aps, (m : Int)⟩ := ⟨_, rfl⟩
  rw [← hA] at HF1 HPo
  clear hA HCL
  clear c0 c1 c2 c3 c4 c5 c6 c7 z0 z1 z2 hiT hgz hgl
  go_wp2_with fail
  go_loopw [1, 27] (fun s1 s27 W3 => ∃ i : Nat, i ≤ m ∧ s27 = .int .i64 (i : Int) ∧ W3.ownsRow W0.heap.size 41 7 s1 (xs ++ [A] ++ (ks.take i).flatMap fl1).length (nvs (xs ++ [A] ++ (ks.take i).flatMap fl1)) ∧ Up W0 W3) (fun _ s27 _ => m - (intOf s27).toNat)
  case atStart =>
    refine ⟨0, Nat.zero_le _, rfl, ?_, HF2.out⟩
    rw [List.take_zero, List.flatMap_nil, List.append_nil, List.length_append, ← HQ.out]
    exact HF1.out
  case round =>
    obtain ⟨i, hi, rfl, hr5, hu⟩ := hrel
    have HU9 : Hid (Up W0 wr) := hu
    have hfl := fl1_le ks i
    have hmk : m ≤ 100000000 := by have := ks_le ks; have := HM.out; omega
    obtain ⟨YS, hY⟩ : ∃ YS, YS = xs ++ [A] ++ (ks.take i).flatMap fl1 := ⟨_, rfl⟩
    have HY : Hid (YS = xs ++ [A] ++ (ks.take i).flatMap fl1) := hY
    rw [← hY] at hr5
    have hyl : YS.length = q + 1 + ((ks.take i).flatMap fl1).length := by rw [hY, List.length_append, List.length_append, HQ.out]; rfl
    have HYL : Hid (YS.length = q + 1 + ((ks.take i).flatMap fl1).length) := hyl
    obtain ⟨a5, c5, rfl⟩ := row_val hr5
    have HR5 : Hid (OwN W0.heap.size wr (.slice a5 YS.length c5) YS) := hr5
    clear hr5 hu hY HF1 HF2 hyl
    by_cases hlt : i < m
    · have hik : i < ks.length := by have := HM.out; omega
      have hlt2 : (i : Int) < (m : Int) := by omega
      have ei : IntKind.i64.wrap ((i : Int) + 1) = ((i + 1 : Nat) : Int) := by rw [IntKind.wrap_i64]; omega
      obtain ⟨sb, so, g2, rfl, y0, hlp⟩ := HKC.out i hik wr HU9.out
      have htf := fl1_take ks i hik
      have hfl2 := fl1_le ks (i + 1)
      rw [htf, List.length_append] at hfl2
      have HCA : Hid _ := hlp wr _ YS HU9.out HR5.out (by have := HYL.out; omega)
      have HTF : Hid _ := htf
      clear htf hfl2 hfl hlp HR5
      unfold ptr at *
      go_wp2_with fail
      refine Calls.mono HCA.out ?_
      rintro r9 w9 ⟨u9, rfl, o9, up9⟩
      have HO9 : Hid (w9.ownsRow W0.heap.size 41 7 u9 (xs ++ [A] ++ (ks.take (i + 1)).flatMap fl1).length (nvs (xs ++ [A] ++ (ks.take (i + 1)).flatMap fl1))) := by
        unfold Hid
        rw [HTF.out, ← List.append_assoc, ← HY.out]
        exact o9
      have HUP : Hid (Up W0 w9) := up9
      clear o9 up9 HCA HTF
      go_wp2_with fail
      go_roundw
      case rel => exact ⟨i + 1, hlt, by go_num, HO9.out, HUP.out⟩
      case measure => simp [intOf]; omega
    · obtain rfl : i = m := by omega
      have hlt2 : ¬ (i : Int) < (i : Int) := by omega
      go_wp2_with fail
      rw [HPo.out]
      refine ⟨_, rfl, ?_, HU9.out⟩
      have h9 := HR5.out
      have h8 := HY.out
      rw [List.take_of_length_le (by have := HM.out; omega), List.append_assoc] at h8
      have h7 : YS = xs ++ A :: ks.flatMap fl1 := h8
      rw [← h7]
      exact h9
/- every tree of a forest can be laid -/
theorem laid_ {W0 : World} {S : Nat → Prop} : ∀ (f : Fo) (vs : List Value), WfF f → PF W0 S f vs → ∀ i (hi : i < (trs f).length), ∃ g, vs[i]? = some (ptr g) ∧ LayP W0 (ptr g) ((trs f)[i]'hi)
  | .nil, _, _, _, i, hi => absurd hi (Nat.not_lt_zero _)
  | .cons a k r, vs, ⟨w1, w2, w3⟩, ⟨g, sv, kv, ws, h1, h2, h3, h4, h5, h6, h7⟩, i, hi => by
    subst h1
    cases i with
    | zero =>
      refine ⟨g, rfl, ?_⟩
      intro W v xs hU hv hn
      have hn : xs.length + (a :: flF k).length ≤ 100000000 := hn
      have hq := laid1_ W0 W g a sv kv (trs k) v xs h3 h4 (by rw [trs_len, PF.len k kv h6]) hU hv (by rw [trs_len]; exact w1) (laid_ k kv w2 h6) (by rw [trs_flat]; exact hn)
      rw [trs_flat] at hq
      exact hq
    | succ i =>
      obtain ⟨g2, e1, e2⟩ := laid_ r ws w3 h7 i (Nat.lt_of_succ_lt_succ hi)
      exact ⟨g2, e1, e2⟩
end TP
end Go.Proofs.YtkldllnnocdhbaaGreatDoor
