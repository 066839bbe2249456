
/-
  TokensTexts: the law's walk.
-/
import Derived.Test.YtibdnklkcgafkaaDoorRz8
import Derived.Test.YtibdnklkcgafkaaDoorWk8
import Derived.Test.YtibdnklkcgafkaaDoorTc
namespace Go.Proofs.YtibdnklkcgafkaaDoor
open Go.RowKit
attribute [local go_sem ↓] Go.wp_at_zero Go.wp_at_succ
namespace TK
set_option maxRecDepth 100000 in
set_option maxHeartbeats 8000000 in
theorem ttexts (k : Int) (s : ByteArray) (n p : Int) (w : World) (hn0 : -9223372036854775808 ≤ n) (hn1 : n ≤ 9223372036854775807) (hT : TabP w) (her : ER w) :
    Calls Tryd.prog 5 #[.agg #[.int .i8 k, .string s, .int .i64 n, .int .i64 p]] w fun e w' => e = .returned (.bool true) ∧ Up w w' := by
  obtain ⟨Post, hPost⟩ : ∃ P : Ending → World → Prop, P = fun e w' => e = .returned (.bool true) ∧ Up w w' := ⟨_, rfl⟩
  rw [← hPost]
  have HPo : Hid (Post = fun e w' => e = .returned (.bool true) ∧ Up w w') := hPost
  clear hPost
  have hnb := nums_back s
  have hby := byt_nums s
  obtain ⟨l, hl⟩ : ∃ l, l = s.data.toList.map fun b => (b.toNat : Int) := ⟨_, rfl⟩
  rw [← hl] at hnb hby
  clear hl
  have HSZ : Hid (s.size = l.length) := by unfold Hid; rw [← hnb, strOfNums_size]
  have HTX : Hid (∀ W, Up w W → s.size ≤ 2147483647 → Calls Tryd.prog 22 #[.agg #[.int .i8 k, .string s, .int .i64 n, .int .i64 p]] W fun e w' => e = .returned (.string (strOfNums (tex ⟨k, l, n, p⟩))) ∧ Up W w') := fun W u hz => by
    have h9 := text8_ k l n p W hby (by have := HSZ.out; omega) hn0 hn1 (hT.up u)
    rw [hnb] at h9
    exact h9
  have HRX : Hid (∀ W, Up w W → s.size ≤ 2147483647 → Calls Tryd.prog 23 #[.agg #[.int .i8 k, .string s, .int .i64 n, .int .i64 p]] W fun e w' => e = .returned (.string (strOfNums (tex ⟨k, l, n, p⟩))) ∧ Up W w') := fun W u hz => by
    have h9 := rtext8_ k l n p W hby (by have := HSZ.out; omega) hn0 hn1 (hT.up u)
    rw [hnb] at h9
    exact h9
  have HER : Hid (ER w) := her
  obtain ⟨W0, hW0⟩ : ∃ W0, w.alloc (.cells #[.int .i8 k, .string s, .int .i64 n, .int .i64 p] 63) = W0 := ⟨_, rfl⟩
  have gB : W0.heap[w.heap.size]? = some (.cells #[.int .i8 k, .string s, .int .i64 n, .int .i64 p] 63 (0, 0)) := by rw [← hW0]; exact heap_alloc_new _ _
  have HU : Hid (Up w W0) := by unfold Hid; rw [← hW0]; exact (Up.refl _).alloc _
  have c1 : ∀ U : UW W0, U.W.cell? ⟨w.heap.size, 0, none⟩ = some (.int .i8 k) ∧ U.W.cell? ⟨w.heap.size, 1, none⟩ = some (.string s) ∧ U.W.cell? ⟨w.heap.size, 2, none⟩ = some (.int .i64 n) ∧ U.W.cell? ⟨w.heap.size, 3, none⟩ = some (.int .i64 p) := by
    intro U
    have g := U.up.heap gB
    refine ⟨?_, ?_, ?_, ?_⟩ <;> (simp only [World.cell?, g]; rfl)
  have ne : Nonempty (UW W0) := ⟨⟨W0, Up.refl _⟩⟩
  have x0 : ∀ U : UW W0, _ := fun U => (c1 U).1
  have x1 : ∀ U : UW W0, _ := fun U => (c1 U).2.1
  have x2 : ∀ U : UW W0, _ := fun U => (c1 U).2.2.1
  have x3 : ∀ U : UW W0, _ := fun U => (c1 U).2.2.2
  have mk : ∀ {f : Nat} {args : Array Value} {R : Value} (U : UW W0), Calls Tryd.prog f args U.W (fun e w' => e = .returned R ∧ Up U.W w') → Calls Tryd.prog f args U.W (fun e w' => e = .returned R ∧ ∃ V : UW W0, w' = V.W) := fun U h => h.mono fun e w' ⟨he, u⟩ => ⟨he, ⟨w', U.up.trans u⟩, rfl⟩
  obtain ⟨B, hB⟩ : ∃ B, B = decide (2147483647 < s.size) := ⟨_, rfl⟩
  have HQ0 : Hid (∀ U : UW W0, Calls Tryd.prog 9 #[.int .i64 s.size] U.W (fun e w' => e = .returned (.bool B) ∧ ∃ V : UW W0, w' = V.W)) := fun U => mk U (by rw [hB]; exact (SM.longB s.size U.W).mono fun e w' ⟨he, hw⟩ => ⟨he, by rw [hw]; exact Up.refl _⟩)
  have HQ1 : Hid (∀ U : UW W0, B = false → Calls Tryd.prog 22 #[.agg #[.int .i8 k, .string s, .int .i64 n, .int .i64 p]] U.W (fun e w' => e = .returned (.string (strOfNums (tex ⟨k, l, n, p⟩))) ∧ ∃ V : UW W0, w' = V.W)) := fun U hb => mk U (HTX.out U.W (HU.out.trans U.up) (by rw [hB] at hb; have := of_decide_eq_false hb; omega))
  have HQ2 : Hid (∀ U : UW W0, B = false → Calls Tryd.prog 23 #[.agg #[.int .i8 k, .string s, .int .i64 n, .int .i64 p]] U.W (fun e w' => e = .returned (.string (strOfNums (tex ⟨k, l, n, p⟩))) ∧ ∃ V : UW W0, w' = V.W)) := fun U hb => mk U (HRX.out U.W (HU.out.trans U.up) (by rw [hB] at hb; have := of_decide_eq_false hb; omega))
  have HQ3 : Hid (∀ U : UW W0, Calls Tryd.prog 19 #[] U.W (fun e w' => e = .returned (.bool true) ∧ ∃ V : UW W0, w' = V.W)) := fun U => mk U (works_ U.W (HER.out.up (HU.out.trans U.up)))
  generalize strOfNums (tex ⟨k, l, n, p⟩) = y at HQ1 HQ2
  clear hnb hby hT her hn0 hn1 HTX HRX HER c1 mk gB hB HSZ
  subst hW0
  cases B
  · have HQ4 : Hid (∀ U : UW (w.alloc (.cells #[.int .i8 k, .string s, .int .i64 n, .int .i64 p] 63)), Calls Tryd.prog 22 #[.agg #[.int .i8 k, .string s, .int .i64 n, .int .i64 p]] U.W (fun e w' => e = .returned (.string y) ∧ ∃ V : UW (w.alloc (.cells #[.int .i8 k, .string s, .int .i64 n, .int .i64 p] 63)), w' = V.W)) := fun U => HQ1.out U rfl
    have HQ5 : Hid (∀ U : UW (w.alloc (.cells #[.int .i8 k, .string s, .int .i64 n, .int .i64 p] 63)), Calls Tryd.prog 23 #[.agg #[.int .i8 k, .string s, .int .i64 n, .int .i64 p]] U.W (fun e w' => e = .returned (.string y) ∧ ∃ V : UW (w.alloc (.cells #[.int .i8 k, .string s, .int .i64 n, .int .i64 p] 63)), w' = V.W)) := fun U => HQ2.out U rfl
    clear HQ1 HQ2
    go_enter Tryd.func5, Tryd.ntmps5
    go_wp2_with fail
    refine TailR.wp_region_seqC 14 (fun w' => ∃ U : UW (w.alloc (.cells #[.int .i8 k, .string s, .int .i64 n, .int .i64 p] 63)), w' = U.W) ⟨⟨_, (Up.refl _).drewN 1⟩, rfl⟩ (by kernel_rfl) (by kernel_rfl) ?_
    simp only [List.take_succ_cons, List.take_zero, List.drop_succ_cons, List.drop_zero]
    repeat (go_big_quiet_step (first | with_reducible exact HQ0.out _ | with_reducible exact HQ4.out _ | with_reducible exact HQ5.out _ | with_reducible exact HQ3.out _))
    refine wpQuiet_nil ?_
    intro _ hw'
    obtain ⟨U, hw''⟩ := hw'
    subst hw''
    go_wp2
    rw [HPo.out]
    exact ⟨rfl, HU.out.trans U.up⟩
  · clear HQ1 HQ2 HQ3
    go_enter Tryd.func5, Tryd.ntmps5
    go_wp2_with fail
    refine TailR.wp_region_seqC 14 (fun w' => ∃ U : UW (w.alloc (.cells #[.int .i8 k, .string s, .int .i64 n, .int .i64 p] 63)), w' = U.W) ⟨⟨_, (Up.refl _).drewN 1⟩, rfl⟩ (by kernel_rfl) (by kernel_rfl) ?_
    simp only [List.take_succ_cons, List.take_zero, List.drop_succ_cons, List.drop_zero]
    repeat (go_big_quiet_step (first | with_reducible exact HQ0.out _))
    refine wpQuiet_nil ?_
    intro _ hw'
    obtain ⟨U, hw''⟩ := hw'
    subst hw''
    go_wp2
    rw [HPo.out]
    exact ⟨rfl, HU.out.trans U.up⟩
end TK
end Go.Proofs.YtibdnklkcgafkaaDoor
