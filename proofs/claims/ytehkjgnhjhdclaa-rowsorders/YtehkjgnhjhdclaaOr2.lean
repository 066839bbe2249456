/-
  The document's Order and Back.
-/
import Derived.Test.YtehkjgnhjhdclaaOd
namespace Go.Proofs.Ytehkjgnhjhdclaa
open Go.RowKit
attribute [local go_sem ↓] Go.wp_at_zero Go.wp_at_succ

namespace OD
open IN AP CU
set_option maxRecDepth 100000 in
set_option maxHeartbeats 4000000 in
theorem rorder_ (v u : Value) (xs zs : List Int) (w : World) (hv : LiesI w v xs) (hu : LiesI w u zs) (hn : xs.length ≤ 10000000) (hm : zs.length ≤ 10000000) :
    Calls Try.prog 23 #[v, u] w (ROPost w xs zs) := by
  obtain ⟨iT, hiT, z0, z1, z2⟩ := info_parts infoT
  obtain ⟨Post, hPost⟩ : ∃ P : Ending → World → Prop, P = ROPost w xs zs := ⟨_, rfl⟩
  rw [← hPost]
  have HPo : Hid (Post = ROPost w xs zs) := hPost
  have HIS : Hid _ := ris_ u zs w hu hm
  obtain ⟨a1, k1, rfl, h1⟩ := lies_at hv
  obtain ⟨a2, k2, rfl, h2⟩ := lies_at hu
  have H1 : Hid _ := h1
  have H2 : Hid _ := h2
  clear hv hu h1 h2 hPost
  by_cases hne : zs.length = xs.length
  · rw [hne] at HIS ⊢
    obtain ⟨n, hn0⟩ : ∃ n, n = xs.length := ⟨_, rfl⟩
    have HN : Hid (zs.length = n ∧ xs.length = n) := ⟨by rw [hne, hn0], hn0.symm⟩
    rw [← hn0] at HIS hn ⊢
    clear hne hn0 hm
    go_enter Try.func23, Try.ntmps23
    go_wp2_with fail
    refine Calls.mono HIS.out ?_
    rintro e w1 ⟨rfl, u1⟩
    have HU1 : Hid (Up w w1) := u1
    clear u1 HIS
    by_cases hb : (bk zs).isSome = true
    · have HIN := bk_in zs hb
      have HIN2 : Hid _ := HIN
      have HOK : Hid (ordOk xs zs = true ∧ ordL xs zs = ol xs zs) := ⟨by rw [ordOk, decide_eq_true ⟨by rw [HN.out.1, HN.out.2], hb⟩], by rw [ordL, if_pos ⟨by rw [HN.out.1, HN.out.2], hb⟩]⟩
      rw [hb]
      clear hb HIN
      go_wp2_with fail
      go_loopw [6, 7] (fun ov s7 wq => ∃ q : Nat, q ≤ n ∧ s7 = .int .i64 q ∧ wq.ownsRow w1.heap.size 3 1 ov ((ol xs zs).take q).length (iv ((ol xs zs).take q)) ∧ Up w1 wq) (fun _ s7 _ => n - (intOf s7).toNat)
      case atStart => exact ⟨0, Nat.zero_le _, rfl, World.ownsRow_nil _ _ _ _, Up.refl _⟩
      case round =>
        obtain ⟨q, hq, rfl, hrow, hup⟩ := hrel
        have HUP : Hid (Up w1 wr) := hup
        have HROW : Hid (wr.ownsRow w1.heap.size 3 1 u6 ((ol xs zs).take q).length (iv ((ol xs zs).take q))) := hrow
        have hol : ((ol xs zs).take q).length ≤ 10000000 := by rw [List.length_take]; omega
        obtain ⟨oad, ocap, hov⟩ := row_val hrow
        subst hov
        have hzw : w1.heap.size ≤ wr.heap.size := hup.size
        clear hrow hup
        by_cases hlt : q < n
        · have hlt2 : (q : Int) < (n : Int) := by omega
          obtain ⟨y, hy, hyl⟩ := HIN2.out q (by rw [HN.out.1]; exact hlt)
          rw [HN.out.1] at hyl
          obtain ⟨b1, o1, rfl, -, c1⟩ := H1.out (by rw [HN.out.2]; omega)
          obtain ⟨b2, o2, rfl, -, c2⟩ := H2.out (by rw [HN.out.1]; omega)
          have x2 := c2 _ (HU1.out.trans HUP.out) q (by rw [HN.out.1]; exact hlt)
          have x1 := c1 _ (HU1.out.trans HUP.out) y (by rw [HN.out.2]; exact hyl)
          rw [hy] at x2
          have hyl2 : (y : Int) < (n : Int) := by omega
          have hog := ol_get xs zs q (by rw [HN.out.1]; exact hlt)
          rw [hy, Int.toNat_natCast] at hog
          have HE := take_more (ol xs zs) q (by rw [ol_len, HN.out.1]; exact hlt)
          rw [hog] at HE
          generalize xs.getD y 0 = z at x1 HE
          have HE2 : Hid _ := HE
          have hzb : b1 < wr.heap.size := World.block_lt_of_cell? wr _ x1
          obtain ⟨cl, hcl⟩ : ∃ cl, cl = (ol xs zs).take q := ⟨_, rfl⟩
          rw [← hcl] at HROW hol HE2 ⊢
          have HOA : Hid ((wr.alloc (.cells #[.int .i64 z] 3)).ownsRow w1.heap.size 3 1 (.slice oad cl.length ocap) cl.length (iv cl)) := HROW.out.alloc _
          generalize hcn : cl.length = cn at *
          have HCN : Hid (cl.length = cn) := hcn
          clear hcn hcl HE c1 c2 hy hog
          go_wp2_with (at_builtin; refine wpList_append_own _ rfl (.tmp 24) (.tmp 32) 22 rfl w1.heap.size 3 iT (.int .i64 0) 1 8 Try.underlying22 hiT z0 z1 z2 rfl (by decide) _ _ _ rfl HOA.out ⟨wr.heap.size, 0, none⟩ 1 1 [.int .i64 z] rfl rfl (World.news_of_block (cs := #[.int .i64 z]) (heap_alloc_new wr _)) (by simp [Value.oneCell']) (by unfold maxLen; omega) (by omega) (by simp; omega) ?_; intro v' W4 hown hgrow hkeep)
          have HAP : Hid _ := own_app (xs := cl) (y := z) (v' := v') HUP.out (by rw [HCN.out]; exact HROW.out) (by rw [HCN.out]; exact hown) hgrow
          clear hown hgrow hkeep HOA
          go_wp2
          go_roundw
          case rel => exact ⟨q + 1, by omega, by go_num, by rw [HE2.out]; exact HAP.out.2, HAP.out.1⟩
          case measure => simp [intOf] <;> omega
        · obtain rfl : q = n := by omega
          have hlt2 : ¬ (q : Int) < (q : Int) := by omega
          have HF : Hid (ROPost w xs zs (.returned (.tuple #[.slice oad ((ol xs zs).take q).length ocap, .bool true])) wr) := by
            refine ⟨_, by rw [HOK.out.1], ?_, HU1.out.trans HUP.out⟩
            have h8 := HROW.out
            rw [List.take_of_length_le (by rw [ol_len, HN.out.1]; exact Nat.le_refl _)] at h8 ⊢
            rw [HOK.out.2]
            exact own_lies h8
          clear HROW
          generalize ((ol xs zs).take q).length = cn at *
          go_wp2
          rw [HPo.out]
          exact HF.out
    · have hb2 : (bk zs).isSome = false := by simpa using hb
      rw [hb2]
      have HF : Hid _ := ro_none (w := w) (w' := w1) (xs := xs) (zs := zs) (fun h => hb h.2) HU1.out
      clear hb hb2
      go_wp2
      rw [HPo.out]
      exact HF.out
  · have HF : Hid _ := ro_none (w := w) (w' := w) (xs := xs) (zs := zs) (fun h => hne h.1) (Up.refl _)
    generalize zs.length = m at *
    generalize xs.length = n at *
    have hne2 : ((n : Int) == (m : Int)) = false := beq_eq_false_iff_ne.2 (by omega)
    have hne3 : ¬ n = m := by omega
    clear HIS H1 H2
    go_enter Try.func23, Try.ntmps23
    go_wp2
    rw [HPo.out]
    exact HF.out
def RBPost (w : World) (zs : List Int) (e : Ending) (w' : World) : Prop := ∃ cv, e = .returned (.tuple #[cv, .bool (bk zs).isSome]) ∧ LiesI w' cv ((bk zs).getD []) ∧ Up w w'
def fl (zs : List Int) : List Int := (List.range zs.length).map (fun j => fnd zs (j : Nat) zs.length 0)
theorem fl_get (zs : List Int) (i : Nat) (hi : i < zs.length) : (fl zs).getD i 0 = fnd zs (i : Nat) zs.length 0 := by simp [fl, List.getD, hi]
theorem fl_len (zs : List Int) : (fl zs).length = zs.length := by simp [fl]
set_option maxRecDepth 100000 in
set_option maxHeartbeats 4000000 in
theorem rback_ (u : Value) (zs : List Int) (w : World) (hu : LiesI w u zs) (hm : zs.length ≤ 10000000) :
    Calls Try.prog 24 #[u] w (RBPost w zs) := by
  obtain ⟨iT, hiT, z0, z1, z2⟩ := info_parts infoT
  obtain ⟨Post, hPost⟩ : ∃ P : Ending → World → Prop, P = RBPost w zs := ⟨_, rfl⟩
  rw [← hPost]
  have HPo : Hid (Post = RBPost w zs) := hPost
  have HIS : Hid _ := ris_ u zs w hu hm
  have HLU : Hid (LiesI w u zs) := hu
  obtain ⟨a2, k2, rfl, -⟩ := hu
  obtain ⟨n, hn0⟩ : ∃ n, n = zs.length := ⟨_, rfl⟩
  have HN : Hid (n = zs.length) := hn0
  rw [← hn0] at HIS HLU hm ⊢
  clear hPost hn0
  go_enter Try.func24, Try.ntmps24
  go_wp2_with fail
  refine Calls.mono HIS.out ?_
  rintro e w1 ⟨rfl, u1⟩
  have HU1 : Hid (Up w w1) := u1
  clear u1 HIS
  by_cases hb : (bk zs).isSome = true
  · have HOK : Hid ((bk zs).isSome = true ∧ (bk zs).getD [] = fl zs) := by
      refine ⟨hb, ?_⟩
      obtain ⟨b, hbb⟩ := Option.isSome_iff_exists.1 hb
      rw [hbb]; exact bk_fnd zs b hbb
    rw [hb]
    clear hb
    go_wp2_with fail
    go_loopw [4, 5] (fun ov s5 wq => ∃ q : Nat, q ≤ n ∧ s5 = .int .i64 q ∧ wq.ownsRow w1.heap.size 3 1 ov ((fl zs).take q).length (iv ((fl zs).take q)) ∧ Up w1 wq) (fun _ s5 _ => n - (intOf s5).toNat)
    case atStart => exact ⟨0, Nat.zero_le _, rfl, World.ownsRow_nil _ _ _ _, Up.refl _⟩
    case round =>
      obtain ⟨q, hq, rfl, hrow, hup⟩ := hrel
      have HUP : Hid (Up w1 wr) := hup
      have HROW : Hid (wr.ownsRow w1.heap.size 3 1 u4 ((fl zs).take q).length (iv ((fl zs).take q))) := hrow
      have hol : ((fl zs).take q).length ≤ 10000000 := by rw [List.length_take]; omega
      obtain ⟨oad, ocap, hov⟩ := row_val hrow
      subst hov
      have hzw : w1.heap.size ≤ wr.heap.size := hup.size
      clear hrow hup
      by_cases hlt : q < n
      · have hlt2 : (q : Int) < (n : Int) := by omega
        have HE := take_more (fl zs) q (by rw [fl_len, ← HN.out]; exact hlt)
        rw [fl_get zs q (by rw [← HN.out]; exact hlt)] at HE
        have HFI := rfind_ (.slice a2 n k2) zs (q : Nat) wr (HLU.out.up (HU1.out.trans HUP.out)) (by rw [← HN.out]; omega)
        generalize fnd zs (q : Nat) zs.length 0 = z at HFI HE
        have HFI2 : Hid _ := HFI
        have HE2 : Hid _ := HE
        obtain ⟨cl, hcl⟩ : ∃ cl, cl = (fl zs).take q := ⟨_, rfl⟩
        rw [← hcl] at HROW hol HE2 ⊢
        have HOA : Hid ((wr.alloc (.cells #[.int .i64 z] 3)).ownsRow w1.heap.size 3 1 (.slice oad cl.length ocap) cl.length (iv cl)) := HROW.out.alloc _
        generalize hcn : cl.length = cn at *
        have HCN : Hid (cl.length = cn) := hcn
        clear hcn hcl HE HFI
        go_wp2_with fail
        refine Calls.mono HFI2.out ?_
        rintro e w9 ⟨rfl, rfl⟩
        go_wp2_with (at_builtin; refine wpList_append_own _ rfl (.tmp 15) (.tmp 19) 22 rfl w1.heap.size 3 iT (.int .i64 0) 1 8 Try.underlying22 hiT z0 z1 z2 rfl (by decide) _ _ _ rfl HOA.out ⟨w9.heap.size, 0, none⟩ 1 1 [.int .i64 z] rfl rfl (World.news_of_block (cs := #[.int .i64 z]) (heap_alloc_new w9 _)) (by simp [Value.oneCell']) (by unfold maxLen; omega) (by omega) (by simp; omega) ?_; intro v' W4 hown hgrow hkeep)
        have HAP : Hid _ := own_app (xs := cl) (y := z) (v' := v') HUP.out (by rw [HCN.out]; exact HROW.out) (by rw [HCN.out]; exact hown) hgrow
        clear hown hgrow hkeep HOA
        go_wp2
        go_roundw
        case rel => exact ⟨q + 1, by omega, by go_num, by rw [HE2.out]; exact HAP.out.2, HAP.out.1⟩
        case measure => simp [intOf] <;> omega
      · obtain rfl : q = n := by omega
        have hlt2 : ¬ (q : Int) < (q : Int) := by omega
        have HF : Hid (RBPost w zs (.returned (.tuple #[.slice oad ((fl zs).take q).length ocap, .bool true])) wr) := by
          refine ⟨_, by rw [HOK.out.1], ?_, HU1.out.trans HUP.out⟩
          have h8 := HROW.out
          rw [List.take_of_length_le (by rw [fl_len, ← HN.out]; exact Nat.le_refl _)] at h8 ⊢
          rw [HOK.out.2]
          exact own_lies h8
        clear HROW
        generalize ((fl zs).take q).length = cn at *
        go_wp2
        rw [HPo.out]
        exact HF.out
  · have hb2 : (bk zs).isSome = false := by simpa using hb
    have HF : Hid (RBPost w zs (.returned (.tuple #[.slice none 0 0, .bool false])) w1) := by
      refine ⟨.slice none 0 0, by rw [hb2], ?_, HU1.out⟩
      rw [show bk zs = none by simpa using hb2]
      exact ⟨none, 0, rfl, fun h => absurd rfl h⟩
    rw [hb2]
    clear hb hb2
    go_wp2
    rw [HPo.out]
    exact HF.out
end OD
end Go.Proofs.Ytehkjgnhjhdclaa
