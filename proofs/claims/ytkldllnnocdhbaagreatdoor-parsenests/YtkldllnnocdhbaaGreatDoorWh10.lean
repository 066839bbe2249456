/-
  The whole of a part: the first fault comes up as a panic, and is caught.
-/
import Derived.Test.YtkldllnnocdhbaaGreatDoorWf10
import Derived.Defers
import Derived.Recover
import Derived.RegionTactic
import Derived.ChangeAlike
namespace Go.Proofs.YtkldllnnocdhbaaGreatDoor
open Go.RowKit
attribute [local go_sem ↓] Go.wp_at_zero Go.wp_at_succ
namespace TP
open TR (Nd Byt nums_inj)
open TK (Tok)
/- a forest's trees -/
def trs : Fo → List (Nd × Fo)
  | .nil => []
  | .cons a k r => (a, k) :: trs r
def fl1 (t : Nd × Fo) : List Nd := t.1 :: flF t.2
theorem trs_len : ∀ f, (trs f).length = cntF f
  | .nil => rfl
  | .cons a k r => by
    show (trs r).length + 1 = cntF r + 1
    rw [trs_len r]
theorem trs_flat : ∀ f, (trs f).flatMap fl1 = flF f
  | .nil => rfl
  | .cons a k r => by
    show fl1 (a, k) ++ (trs r).flatMap fl1 = a :: (flF k ++ flF r)
    rw [trs_flat r]
    rfl
theorem fl1_take (ks : List (Nd × Fo)) (i : Nat) (hi : i < ks.length) : (ks.take (i + 1)).flatMap fl1 = (ks.take i).flatMap fl1 ++ fl1 (ks[i]'hi) := by
  rw [List.take_succ_eq_append_getElem hi, List.flatMap_append]
  simp
theorem fl1_le (ks : List (Nd × Fo)) (i : Nat) : ((ks.take i).flatMap fl1).length ≤ (ks.flatMap fl1).length := by
  have h : ks.flatMap fl1 = (ks.take i).flatMap fl1 ++ (ks.drop i).flatMap fl1 := by rw [← List.flatMap_append, List.take_append_drop]
  rw [h, List.length_append]
  omega
theorem ks_le : ∀ ks : List (Nd × Fo), ks.length ≤ (ks.flatMap fl1).length
  | [] => Nat.zero_le _
  | t :: r => by
    have h := ks_le r
    rw [List.flatMap_cons, List.length_append, List.length_cons]
    have h2 : (fl1 t).length = (flF t.2).length + 1 := rfl
    omega
/- a list with more behind it -/
def LQ (W0 : World) (xs ys : List Nd) : Ending → World → Prop := fun r w' => ∃ u, r = .returned u ∧ OwN W0.heap.size w' u (xs ++ ys) ∧ Up W0 w'
/- a plant that can be laid -/
def LayP (W0 : World) (p : Value) (t : Nd × Fo) : Prop := ∀ (W : World) (v : Value) (xs : List Nd), Up W0 W → OwN W0.heap.size W v xs → xs.length + (fl1 t).length ≤ 100000000 → Calls Tryz.prog 72 #[p, v] W (LQ W0 xs (fl1 t))
set_option maxRecDepth 100000 in
set_option maxHeartbeats 16000000 in
theorem laid1_ (W0 W : World) (g : Nat) (a : Nd) (sv : Value) (kv : List Value) (ks : List (Nd × Fo)) (v : Value) (xs : List Nd) (hc : W0.heap[g]? = some (.cells (pcell a sv) 170 (0, 0))) (hr : W0.ownsRow 0 91 1 sv kv.length kv) (hkv : ks.length = kv.length) (hU : Up W0 W) (hv : OwN W0.heap.size W v xs) (ha : a.kids = (ks.length : Int)) (hK : ∀ i (hi : i < ks.length), ∃ g2, kv[i]? = some (ptr g2) ∧ LayP W0 (ptr g2) (ks[i]'hi)) (hn : xs.length + (a :: ks.flatMap fl1).length ≤ 100000000) : Calls Tryz.prog 72 #[ptr g, v] W (LQ W0 xs (a :: (ks.flatMap fl1))) := by
  obtain ⟨Post, hPost⟩ : ∃ P : Ending → World → Prop, P = LQ W0 xs (a :: (ks.flatMap fl1)) := ⟨_, rfl⟩
  rw [← hPost]
  have HPo : Hid (Post = LQ W0 xs (a :: (ks.flatMap fl1))) := hPost
  clear hPost
  have hmx := hmf
  obtain ⟨iT, hiT, z0, z1, z2⟩ := info_parts infoNd
  obtain ⟨va, vc, rfl⟩ := row_val hv
  obtain ⟨q, hQ⟩ : ∃ q, q = xs.length := ⟨_, rfl⟩
  have HQ : Hid (q = xs.length) := hQ
  obtain ⟨m, hM⟩ : ∃ m, m = ks.length := ⟨_, rfl⟩
  have HM : Hid (m = ks.length) := hM
  obtain ⟨aop, akd, an, am, at_, aps, aks⟩ := a
  have ha0 := ha
  clear ha
  have ha : aks = (m : Int) := by rw [hM]; exact ha0
  subst ha
  clear ha0
  unfold OwN at hv
  rw [← hQ] at hv hn ⊢
  rw [← hkv, ← hM] at hr
  obtain ⟨sa, sc, rfl⟩ := row_val hr
  have HU : Hid (Up W0 W) := hU
  have HCL : Hid (W.heap[g]? = some (.cells (pcell ⟨aop, akd, an, am, at_, aps, (m : Int)⟩ (.slice sa m sc)) 170 (0, 0))) := hU.heap hc
  have H07 : Hid (W0.cell? ⟨g, 7, none⟩ = some (.slice sa m sc)) := by unfold Hid; simp [World.cell?, hc, pcell]
  have c0 : W.cell? ⟨g, 0, none⟩ = some (.int .i8 aop) := by have := HCL.out; simp [World.cell?, this, pcell]
  have c1 : W.cell? ⟨g, 1, none⟩ = some (.int .i8 akd) := by have := HCL.out; simp [World.cell?, this, pcell]
  have c2 : W.cell? ⟨g, 2, none⟩ = some (.int .i64 an) := by have := HCL.out; simp [World.cell?, this, pcell]
  have c3 : W.cell? ⟨g, 3, none⟩ = some (.int .i64 am) := by have := HCL.out; simp [World.cell?, this, pcell]
  have c4 : W.cell? ⟨g, 4, none⟩ = some (.string (strOfNums at_)) := by have := HCL.out; simp [World.cell?, this, pcell]
  have c5 : W.cell? ⟨g, 5, none⟩ = some (.int .i64 aps) := by have := HCL.out; simp [World.cell?, this, pcell]
  have c6 : W.cell? ⟨g, 6, none⟩ = some (.int .i64 0) := by have := HCL.out; simp [World.cell?, this, pcell]
  have c7 : W.cell? ⟨g, 7, none⟩ = some (.slice sa m sc) := by have := HCL.out; simp [World.cell?, this, pcell]
  have hgl : g < W.heap.size := (Array.getElem?_eq_some_iff.1 HCL.out).1
  have hgz : (W.alloc (.cells #[.int .i8 aop, .int .i8 akd, .int .i64 an, .int .i64 am, .string (strOfNums at_), .int .i64 aps, .int .i64 0] 41)).cell? ⟨g, 7, none⟩ = some (.slice sa m sc) := ((Up.refl W).alloc _).cell c7
  have HV : Hid (((W.alloc (.cells #[.int .i8 aop, .int .i8 akd, .int .i64 an, .int .i64 am, .string (strOfNums at_), .int .i64 aps, .int .i64 (m : Int)] 41)).alloc (.cells #[.int .i8 aop, .int .i8 akd, .int .i64 an, .int .i64 am, .string (strOfNums at_), .int .i64 aps, .int .i64 (m : Int)] 41)).ownsRow W0.heap.size 41 7 (.slice va q vc) q (nvs xs)) := row_up (show W.ownsRow W0.heap.size 41 7 (.slice va q vc) q (nvs xs) from hv) (((Up.refl W).alloc _).alloc _)
  have HSZ : Hid (W0.heap.size ≤ ((W.alloc (.cells #[.int .i8 aop, .int .i8 akd, .int .i64 an, .int .i64 am, .string (strOfNums at_), .int .i64 aps, .int .i64 (m : Int)] 41)).alloc (.cells #[.int .i8 aop, .int .i8 akd, .int .i64 an, .int .i64 am, .string (strOfNums at_), .int .i64 aps, .int .i64 (m : Int)] 41)).heap.size) := by
    unfold Hid
    have := hU.size
    simp
    omega
  have HMW : Hid (∀ j u, (nvs [⟨aop, akd, an, am, at_, aps, (m : Int)⟩])[j]? = some u → ((W.alloc (.cells #[.int .i8 aop, .int .i8 akd, .int .i64 an, .int .i64 am, .string (strOfNums at_), .int .i64 aps, .int .i64 (m : Int)] 41)).alloc (.cells #[.int .i8 aop, .int .i8 akd, .int .i64 an, .int .i64 am, .string (strOfNums at_), .int .i64 aps, .int .i64 (m : Int)] 41)).cell? ((⟨W.heap.size + 1, 0, none⟩ : Addr).add j) = some u) := by
    have h9 := World.news_of_block (w := ((W.alloc (.cells #[.int .i8 aop, .int .i8 akd, .int .i64 an, .int .i64 am, .string (strOfNums at_), .int .i64 aps, .int .i64 (m : Int)] 41)).alloc (.cells #[.int .i8 aop, .int .i8 akd, .int .i64 an, .int .i64 am, .string (strOfNums at_), .int .i64 aps, .int .i64 (m : Int)] 41))) (B := W.heap.size + 1) (cs := #[.int .i8 aop, .int .i8 akd, .int .i64 an, .int .i64 am, .string (strOfNums at_), .int .i64 aps, .int .i64 (m : Int)]) (t := 41) (fr := (0, 0)) (by rw [show W.heap.size + 1 = (W.alloc (.cells #[.int .i8 aop, .int .i8 akd, .int .i64 an, .int .i64 am, .string (strOfNums at_), .int .i64 aps, .int .i64 (m : Int)] 41)).heap.size by simp]; exact heap_alloc_new _ _)
    exact h9
  have HU2 : Hid (Up W0 ((W.alloc (.cells #[.int .i8 aop, .int .i8 akd, .int .i64 an, .int .i64 am, .string (strOfNums at_), .int .i64 aps, .int .i64 (m : Int)] 41)).alloc (.cells #[.int .i8 aop, .int .i8 akd, .int .i64 an, .int .i64 am, .string (strOfNums at_), .int .i64 aps, .int .i64 (m : Int)] 41))) := (hU.alloc _).alloc _
  have HVL : Hid (∀ k9, (Value.slice va q vc).ownBlock = some k9 → W0.heap.size ≤ k9) := fun k9 e => (World.ownsRow.lt hv k9 e).1
  have HFN : Hid (∀ v' V9, V9.ownsRow W0.heap.size 41 7 v' (q + 1) (nvs xs ++ nvs [⟨aop, akd, an, am, at_, aps, (m : Int)⟩]) → ((W.alloc (.cells #[.int .i8 aop, .int .i8 akd, .int .i64 an, .int .i64 am, .string (strOfNums at_), .int .i64 aps, .int .i64 (m : Int)] 41)).alloc (.cells #[.int .i8 aop, .int .i8 akd, .int .i64 an, .int .i64 am, .string (strOfNums at_), .int .i64 aps, .int .i64 (m : Int)] 41)).grownBy V9 (Value.slice va q vc).ownBlock → V9.ownsRow W0.heap.size 41 7 v' (q + 1) (nvs (xs ++ [⟨aop, akd, an, am, at_, aps, (m : Int)⟩])) ∧ Up W0 V9) := fun v' V9 n1 n2 => by
    refine ⟨by rw [nvs_app]; exact n1, Below.grown HU2.out n2 HSZ.out HVL.out⟩
  have HKC : Hid (∀ i (hi : i < ks.length), ∀ W9, Up W0 W9 → ∃ sb so g2, sa = some ⟨sb, so, none⟩ ∧ W9.cell? ⟨sb, so + i, none⟩ = some (ptr g2) ∧ LayP W0 (ptr g2) (ks[i]'hi)) := fun i hi W9 hu => by
    obtain ⟨g2, e1, e2⟩ := hK i hi
    rcases hr.2 with ⟨-, h0⟩ | ⟨g9, cap, cur, e3, -, -, -⟩
    · omega
    · injection e3 with e4 e5 e6
      subst e4
      refine ⟨g9, 0, g2, rfl, ?_, e2⟩
      have h9 := hu.cell (hr.cells (g := g9) rfl i _ e1)
      rcases Nat.eq_zero_or_pos i with rfl | h0
      · simpa [Addr.add] using h9
      · simpa [Addr.add, Nat.ne_of_gt h0] using h9
  clear hc hr hv hU hQ hM hkv hK
  show Calls Tryz.prog 72 #[ptr g, .slice va q vc] W Post
  unfold ptr
  go_enter Tryz.func72, Tryz.ntmps72
  go_upto_region 4 with (first | (at_builtin; go_loud (refine wpList_append_far _ (by rfl) (.tmp 18) (.tmp 20) 36 (by rfl) W0.heap.size 41 iT _ 7 56 Tryz.underlying36 hiT z0 z1 z2 (by rfl) (by decide) (.slice va q vc) q (nvs xs) (by rfl) HV.out ⟨W.heap.size + 1, 0, none⟩ 1 1 (nvs [⟨aop, akd, an, am, at_, aps, (m : Int)⟩]) (by rfl) (Nat.succ_pos _) (by rfl) HMW.out (nvs_one _) (by unfold maxLen; omega) (by omega) HSZ.out ?_; intro v' V9 n1 n2 n3; obtain ⟨fa, fc, hva⟩ : ∃ a c, v' = Value.slice a (q + 1) c := row_val n1; subst hva; have HF := HFN.out _ V9 n1 n2; clear n1 n2 n3)))
  obtain ⟨hf1, hf2⟩ := HF
  have HF1 : Hid _ := hf1
  have HF2 : Hid (Up W0 V9) := hf2
  have c9 : V9.cell? ⟨g, 7, none⟩ = some (.slice sa m sc) := HF2.out.cell H07.out
  clear hf1 hf2 HFN HMW HV HU2 HSZ HVL
  rw [List.length_cons] at hn
  obtain ⟨A, hA⟩ : ∃ A : Nd, A = ⟨aop, akd, an, am, at_, aps, (m : Int)⟩ := ⟨_, rfl⟩
  rw [← hA] at HF1 HPo
  clear hA HCL
  clear c0 c1 c2 c3 c4 c5 c6 c7 z0 z1 z2 hiT hgz hgl
  go_wp2_with fail
  go_loopw [1, 27] (fun s1 s27 W3 => ∃ i : Nat, i ≤ m ∧ s27 = .int .i64 (i : Int) ∧ W3.ownsRow W0.heap.size 41 7 s1 (xs ++ [A] ++ (ks.take i).flatMap fl1).length (nvs (xs ++ [A] ++ (ks.take i).flatMap fl1)) ∧ Up W0 W3) (fun _ s27 _ => m - (intOf s27).toNat)
  case atStart =>
    refine ⟨0, Nat.zero_le _, rfl, ?_, HF2.out⟩
    rw [List.take_zero, List.flatMap_nil, List.append_nil, List.length_append, ← HQ.out]
    exact HF1.out
  case round =>
    obtain ⟨i, hi, rfl, hr5, hu⟩ := hrel
    have HU9 : Hid (Up W0 wr) := hu
    have hfl := fl1_le ks i
    have hmk : m ≤ 100000000 := by have := ks_le ks; have := HM.out; omega
    obtain ⟨YS, hY⟩ : ∃ YS, YS = xs ++ [A] ++ (ks.take i).flatMap fl1 := ⟨_, rfl⟩
    have HY : Hid (YS = xs ++ [A] ++ (ks.take i).flatMap fl1) := hY
    rw [← hY] at hr5
    have hyl : YS.length = q + 1 + ((ks.take i).flatMap fl1).length := by rw [hY, List.length_append, List.length_append, HQ.out]; rfl
    have HYL : Hid (YS.length = q + 1 + ((ks.take i).flatMap fl1).length) := hyl
    obtain ⟨a5, c5, rfl⟩ := row_val hr5
    have HR5 : Hid (OwN W0.heap.size wr (.slice a5 YS.length c5) YS) := hr5
    clear hr5 hu hY HF1 HF2 hyl
    by_cases hlt : i < m
    · have hik : i < ks.length := by have := HM.out; omega
      have hlt2 : (i : Int) < (m : Int) := by omega
      have ei : IntKind.i64.wrap ((i : Int) + 1) = ((i + 1 : Nat) : Int) := by rw [IntKind.wrap_i64]; omega
      obtain ⟨sb, so, g2, rfl, y0, hlp⟩ := HKC.out i hik wr HU9.out
      have htf := fl1_take ks i hik
      have hfl2 := fl1_le ks (i + 1)
      rw [htf, List.length_append] at hfl2
      have HCA : Hid _ := hlp wr _ YS HU9.out HR5.out (by have := HYL.out; omega)
      have HTF : Hid _ := htf
      clear htf hfl2 hfl hlp HR5
      unfold ptr at *
      go_wp2_with fail
      refine Calls.mono HCA.out ?_
      rintro r9 w9 ⟨u9, rfl, o9, up9⟩
      have HO9 : Hid (w9.ownsRow W0.heap.size 41 7 u9 (xs ++ [A] ++ (ks.take (i + 1)).flatMap fl1).length (nvs (xs ++ [A] ++ (ks.take (i + 1)).flatMap fl1))) := by
        unfold Hid
        rw [HTF.out, ← List.append_assoc, ← HY.out]
        exact o9
      have HUP : Hid (Up W0 w9) := up9
      clear o9 up9 HCA HTF
      go_wp2_with fail
      go_roundw
      case rel => exact ⟨i + 1, hlt, by go_num, HO9.out, HUP.out⟩
      case measure => simp [intOf]; omega
    · obtain rfl : i = m := by omega
      have hlt2 : ¬ (i : Int) < (i : Int) := by omega
      go_wp2_with fail
      rw [HPo.out]
      refine ⟨_, rfl, ?_, HU9.out⟩
      have h9 := HR5.out
      have h8 := HY.out
      rw [List.take_of_length_le (by have := HM.out; omega), List.append_assoc] at h8
      have h7 : YS = xs ++ A :: ks.flatMap fl1 := h8
      rw [← h7]
      exact h9
/- every tree of a forest can be laid -/
theorem laid_ {W0 : World} {S : Nat → Prop} : ∀ (f : Fo) (vs : List Value), WfF f → PF W0 S f vs → ∀ i (hi : i < (trs f).length), ∃ g, vs[i]? = some (ptr g) ∧ LayP W0 (ptr g) ((trs f)[i]'hi)
  | .nil, _, _, _, i, hi => absurd hi (Nat.not_lt_zero _)
  | .cons a k r, vs, ⟨w1, w2, w3⟩, ⟨g, sv, kv, ws, h1, h2, h3, h4, h5, h6, h7⟩, i, hi => by
    subst h1
    cases i with
    | zero =>
      refine ⟨g, rfl, ?_⟩
      intro W v xs hU hv hn
      have hn : xs.length + (a :: flF k).length ≤ 100000000 := hn
      have hq := laid1_ W0 W g a sv kv (trs k) v xs h3 h4 (by rw [trs_len, PF.len k kv h6]) hU hv (by rw [trs_len]; exact w1) (laid_ k kv w2 h6) (by rw [trs_flat]; exact hn)
      rw [trs_flat] at hq
      exact hq
    | succ i =>
      obtain ⟨g2, e1, e2⟩ := laid_ r ws w3 h7 i (Nat.lt_of_succ_lt_succ hi)
      exact ⟨g2, e1, e2⟩
end TP
end Go.Proofs.YtkldllnnocdhbaaGreatDoor
namespace Go.Proofs.YtkldllnnocdhbaaGreatDoor
open Go.RowKit
attribute [local go_sem ↓] Go.wp_at_zero Go.wp_at_succ
namespace TP
open TR (Nd Byt nums_inj)
open TK (Tok)
theorem taF_hit (v : Value) (w : World) : (Instr.typeAssert (.iface 98 v) 20 98 true).run Tryz.prog w = .ok (.tuple #[v, .bool true]) w := by kernel_rfl
theorem taF_nil (w : World) : (Instr.typeAssert .nilIface 20 98 true).run Tryz.prog w = .ok (.tuple #[.agg #[.int .i64 0, .int .i64 0], .bool false]) w := by kernel_rfl
/- a region whose first operation recovers -/
theorem S_rec {P : Program} {d : Option Nat} {ty : TypeId} {ps : String} {af : Array Edge} {l : List Oper} {Q : Exit → Act → List Frame → World → Prop} {rest : List Nat} {a : Act} {cs cs2 : List Frame} {w : World} (v : Value)
    (hv : (recoverD cs = none ∧ cs2 = cs ∧ v = .nilIface) ∨ recoverD cs = some (v, cs2)) (h : wpOpsS P ({ dst := d, op := .call { callee := .builtin .recover, args := #[], argTypes := #[] }, type := ty, pos := ps, after := af, guard := none } :: l).toArray Q rest (a.put d v) cs2 w) : wpOpsS P ({ dst := d, op := .call { callee := .builtin .recover, args := #[], argTypes := #[] }, type := ty, pos := ps, after := af, guard := none } :: l).toArray Q (0 :: rest) a cs w := by
  have hr : (execOp a.eval { dst := d, op := .call { callee := .builtin .recover, args := #[], argTypes := #[] }, type := ty, pos := ps, after := af, guard := none }).run P w = .ok .recover w := by
    unfold execOp
    simp [resolve, invoke, builtin]
  simp only [wpOpsS]
  simp only [List.getElem?_toArray, List.getElem?_cons_zero, Region.wanted]
  rw [if_pos trivial, hr]
  rcases hv with ⟨h1, rfl, rfl⟩ | h1
  · simp only [h1]
    exact h
  · simp only [h1]
    exact h
theorem S_ops {P : Program} {ops : Array Oper} {Q : Exit → Act → List Frame → World → Prop} {cs : List Frame} (hq : ∀ a w, ¬ Q .outgrown a cs w) : ∀ (l : List Nat) (a : Act) (w : World), wpOps P ops (fun e a' w' => Q e a' cs w') l a w → wpOpsS P ops Q l a cs w
  | [], _, _, h => h
  | i :: rest, a, w, h => by
    simp only [wpOps] at h
    simp only [wpOpsS]
    cases ho : ops[i]? with
    | none =>
      simp only [ho] at h ⊢
      exact S_ops hq rest a w h
    | some o =>
      simp only [ho] at h ⊢
      by_cases hw : Region.wanted o (yielded ops a.tmps) = true
      · rw [if_pos hw] at h ⊢
        rcases h with h | ⟨-, a9, w9, h9⟩
        · have hn : (fun a w => wpOps P ops (fun e a' w' => Q e a' cs w') rest a w) = fun a w => wpOps P ops (fun e a' w' => Q e a' cs w') rest a w := rfl
          have hm : o.wp P a w (fun a w => wpOpsS P ops Q rest a cs w) (fun e a' w' => Q e a' cs w') := Oper.wp_mono (fun a w h => S_ops hq rest a w h) h
          unfold Oper.wp at hm
          generalize (execOp a.eval o).run P w = R at hm ⊢
          rcases R with ⟨n, w2⟩ | ⟨h2, w2⟩
          · cases n <;> first | exact hm | exact hm.elim
          · exact hm
        · exact absurd h9 (hq a9 w9)
      · rw [if_neg hw] at h ⊢
        exact S_ops hq rest _ _ h
theorem S_list {P : Program} {o0 : Oper} {l : List Oper} {Q : Exit → Act → List Frame → World → Prop} {cs : List Frame} {a : Act} {w : World} (js : List Nat) (hj : js = List.range' 1 l.length) (hq : ∀ a w, ¬ Q .outgrown a cs w) (h : wpList P (o0 :: l).toArray (fun e a' w' => Q e a' cs w') l a w) : wpOpsS P (o0 :: l).toArray Q js a cs w := by
  subst hj
  refine S_ops hq _ a w ?_
  rw [wpOps_eq_wpList l 1 (fun j => by simp [Nat.add_comm 1 j])]
  exact h
attribute [local irreducible] wpOpsS
set_option maxRecDepth 100000 in
set_option maxHeartbeats 4000000 in
theorem catch_idle (pr pe : Addr) (w : World) :
    CallsD Tryz.prog 104 #[.pointer (some pr), .pointer (some pe)] .returning w fun e u' w' => e = .returned (.tuple #[]) ∧ u' = .returning ∧ Up w w' := by
  have e9 := taF_nil
  refine callsD_of_wpS Tryz.func104 rfl fun c₀ cs hu => ?_
  show Code.wpS Tryz.prog _ _ { tmps := #[.pointer (some pr), .pointer (some pe), undef, undef, undef, undef, undef, undef, undef, undef, undef, undef], defers := [] } _ _
  apply wpS_seq
  apply wpS_region
  show wpOpsS _ _ _ [0, 1, 2, 3, 4, 5, 6, 7] _ _ _
  refine S_rec (cs2 := (c₀ :: cs)) .nilIface (.inl ⟨by simp [recoverD, hu], rfl, rfl⟩) ?_
  refine S_list _ rfl (fun a w h => by simp [Exit.thenS, bodyPostS] at h) ?_
  go_wp2_with fail
  simp only [Exit.thenS]
  refine wpS_of_wp ?_
  go_wp2_with fail
  refine ⟨rfl, .returning, by cases c₀; simp_all, .tuple #[], by simp [results, Tryz.results104, go_sem], rfl, rfl, (Up.refl _).alloc _⟩
set_option maxRecDepth 100000 in
set_option maxHeartbeats 4000000 in
theorem catch_fault (x y : Nat) (er pp : Int) (v0 : Value) (w : World) (hx : w.cell? ⟨x, 0, none⟩ = some v0) (fx : w.frozen? ⟨x, 0, none⟩ = false) (hy : w.cell? ⟨y, 0, none⟩ = some .nilIface) (fy : w.frozen? ⟨y, 0, none⟩ = false) (hxy : x ≠ y) :
    CallsD Tryz.prog 104 #[.pointer (some ⟨x, 0, none⟩), .pointer (some ⟨y, 0, none⟩)] (.panicking [{ v := (.iface 98 (.agg #[.int .i64 er, .int .i64 pp])), recovered := false }]) w fun e u' w' => e = .returned (.tuple #[]) ∧ u' = (.panicking [{ v := (.iface 98 (.agg #[.int .i64 er, .int .i64 pp])), recovered := true }]) ∧ Exc (fun k => k = x ∨ k = y) w w' ∧ w'.cell? ⟨x, 0, none⟩ = some (.pointer none) ∧ w'.cell? ⟨y, 0, none⟩ = some (.iface 98 (.agg #[.int .i64 er, .int .i64 pp])) := by
  have e9 := taF_hit
  refine callsD_of_wpS Tryz.func104 rfl fun c₀ cs hu => ?_
  show Code.wpS Tryz.prog _ _ { tmps := #[.pointer (some ⟨x, 0, none⟩), .pointer (some ⟨y, 0, none⟩), undef, undef, undef, undef, undef, undef, undef, undef, undef, undef], defers := [] } _ _
  apply wpS_seq
  apply wpS_region
  show wpOpsS _ _ _ [0, 1, 2, 3, 4, 5, 6, 7] _ _ _
  refine S_rec (cs2 := ({ c₀ with mode := (.panicking [{ v := (.iface 98 (.agg #[.int .i64 er, .int .i64 pp])), recovered := true }]) } :: cs)) (.iface 98 (.agg #[.int .i64 er, .int .i64 pp])) (.inr (by simp [recoverD, hu])) ?_
  refine S_list _ rfl (fun a w h => by simp [Exit.thenS, bodyPostS] at h) ?_
  go_wp2_with fail
  simp only [Exit.thenS]
  refine wpS_of_wp ?_
  go_wp2_with fail
  obtain ⟨z, hz⟩ : ∃ z, z = w.heap.size := ⟨_, rfl⟩
  have hxl : x < w.heap.size := by have := World.block_lt_of_cell? w ⟨x, 0, none⟩ hx; exact this
  have hyl : y < w.heap.size := by have := World.block_lt_of_cell? w ⟨y, 0, none⟩ hy; exact this
  have HEX : Hid (∀ V : World, V.heap = (((w.alloc (.cells #[.int .i64 er, .int .i64 pp] 98)).setCell ⟨x, 0, none⟩ (.pointer none)).setCell ⟨y, 0, none⟩ (.iface 98 (.agg #[.int .i64 er, .int .i64 pp]))).heap → (V.os = w.os ∧ V.tape = w.tape ∧ V.output = w.output) → Exc (fun k => k = x ∨ k = y) w V ∧ V.cell? ⟨x, 0, none⟩ = some (.pointer none) ∧ V.cell? ⟨y, 0, none⟩ = some (.iface 98 (.agg #[.int .i64 er, .int .i64 pp]))) := fun V hV ho => by
    have hcx := ((Up.refl w).alloc (.cells #[.int .i64 er, .int .i64 pp] 98)).cell hx
    have hcy := ((Up.refl w).alloc (.cells #[.int .i64 er, .int .i64 pp] 98)).cell hy
    have hce : ∀ p, V.cell? p = ((((w.alloc (.cells #[.int .i64 er, .int .i64 pp] 98)).setCell ⟨x, 0, none⟩ (.pointer none)).setCell ⟨y, 0, none⟩ (.iface 98 (.agg #[.int .i64 er, .int .i64 pp])))).cell? p := fun p => by unfold World.cell?; rw [hV]
    refine ⟨⟨ho, by rw [hV]; simp [World.setCell], fun k hk hn => ?_⟩, ?_, ?_⟩
    · rw [hV, Below.heap_setCell _ _ _ _ (show k ≠ y from fun e => hn (.inr e)), Below.heap_setCell _ _ _ _ (show k ≠ x from fun e => hn (.inl e))]
      exact ((Up.refl w).alloc _).block k hk
    · rw [hce, World.cell?_setCell_far _ _ _ _ (show y ≠ x from fun e => hxy e.symm), World.cell?_setCell_same _ _ _ hcx]
    · rw [hce]
      exact World.cell?_setCell_same _ _ _ (by rw [World.cell?_setCell_far _ _ _ _ (show x ≠ y from hxy)]; exact hcy)
  have q0 : (w.alloc (.cells #[.int .i64 er, .int .i64 pp] 98)).cell? ⟨x, 0, none⟩ = some v0 := ((Up.refl w).alloc _).cell hx
  have q1 : (w.alloc (.cells #[.int .i64 er, .int .i64 pp] 98)).cell? ⟨y, 0, none⟩ = some .nilIface := ((Up.refl w).alloc _).cell hy
  have q2 : (w.alloc (.cells #[.int .i64 er, .int .i64 pp] 98)).frozen? ⟨x, 0, none⟩ = false := by rw [World.frozen?_alloc_old w _ _ (Nat.ne_of_lt hxl)]; exact fx
  have q3 : (w.alloc (.cells #[.int .i64 er, .int .i64 pp] 98)).frozen? ⟨y, 0, none⟩ = false := by rw [World.frozen?_alloc_old w _ _ (Nat.ne_of_lt hyl)]; exact fy
  have q4 : (w.alloc (.cells #[.int .i64 er, .int .i64 pp] 98)).cell? ⟨z, 0, none⟩ = some (.int .i64 er) := by rw [hz]; have h9 := heap_alloc_new w (.cells #[.int .i64 er, .int .i64 pp] 98); unfold World.cell?; rw [h9]; rfl
  have q5 : (w.alloc (.cells #[.int .i64 er, .int .i64 pp] 98)).cell? ⟨z, 1, none⟩ = some (.int .i64 pp) := by rw [hz]; have h9 := heap_alloc_new w (.cells #[.int .i64 er, .int .i64 pp] 98); unfold World.cell?; rw [h9]; rfl
  have n1 : z ≠ x := by omega
  have n2 : z ≠ y := by omega
  have n3 : x ≠ z := by omega
  have n4 : y ≠ z := by omega
  have n5 : y ≠ x := fun e => hxy e.symm
  rw [← hz]
  have HZ : Hid (z = w.heap.size) := hz
  generalize hw1 : w.alloc (.cells #[.int .i64 er, .int .i64 pp] 98) = w1 at q0 q1 q2 q3 q4 q5 ⊢
  have HW1 : Hid (w.alloc (.cells #[.int .i64 er, .int .i64 pp] 98) = w1) := hw1
  clear hw1 hz hx hy fx fy hxl hyl
  go_region
  rw [← HW1.out] at *
  obtain ⟨x1, x2, x3⟩ := HEX.out ((((w.alloc (.cells #[.int .i64 er, .int .i64 pp] 98)).setCell ⟨x, 0, none⟩ (.pointer none)).setCell ⟨y, 0, none⟩ (.iface 98 (.agg #[.int .i64 er, .int .i64 pp]))).drew) rfl ⟨rfl, rfl, rfl⟩
  exact ⟨rfl, _, rfl, .tuple #[], by simp [results, Tryz.results104, go_sem], rfl, rfl, x1, x2, x3⟩
end TP
end Go.Proofs.YtkldllnnocdhbaaGreatDoor
