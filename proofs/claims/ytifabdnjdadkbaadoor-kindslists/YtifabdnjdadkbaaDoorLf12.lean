
/-
  The lists by their numbers, names in them.
-/
import Derived.Test.YtifabdnjdadkbaaDoorKt12
namespace Go.Proofs.YtifabdnjdadkbaaDoor
open Go.RowKit
attribute [local go_sem ↓] Go.wp_at_zero Go.wp_at_succ
namespace KD
def lst (k : Nat) : List Sg := if k = 0 then fieldsL else if k = 1 then funcsL else effectsL
/- the list number k -/
def LsR (W : World) (k : Nat) (e : Ending) (w' : World) : Prop := ∃ b, e = .returned (.slice (some ⟨b + (lst k).length, 0, none⟩) (lst k).length (lst k).length) ∧ SL w' b (lst k) ∧ Up W w' ∧ W.heap.size ≤ b
theorem lst_0 (W : World) : Calls Tryd.prog 9 #[] W (LsR W 0) := (fields_ W).mono fun e w' ⟨h1, h2⟩ => ⟨_, h1, by rw [h2]; exact sl_objs W fieldsL, by rw [h2]; exact allocs_up _ _, Nat.le_refl _⟩
theorem lst_1 (W : World) : Calls Tryd.prog 21 #[] W (LsR W 1) := (funcs_ W).mono fun e w' ⟨h1, h2⟩ => ⟨_, h1, by rw [h2]; exact sl_objs W funcsL, by rw [h2]; exact allocs_up _ _, Nat.le_refl _⟩
theorem lst_2 (W : World) : Calls Tryd.prog 22 #[] W (LsR W 2) := (effects_ W).mono fun e w' ⟨h1, h2⟩ => ⟨_, h1, by rw [h2]; exact sl_objs W effectsL, by rw [h2]; exact allocs_up _ _, Nat.le_refl _⟩
set_option maxRecDepth 100000 in
set_option maxHeartbeats 8000000 in
theorem list_ (k : Nat) (w : World) (hk : k < 3) : Calls Tryd.prog 5 #[.int .i64 k] w (LsR w k) := by
  obtain ⟨Post, hPost⟩ : ∃ P : Ending → World → Prop, P = LsR w k := ⟨_, rfl⟩
  rw [← hPost]
  have HP : Hid (∀ e W, LsR w k e W → Post e W) := fun e W h => by rw [hPost]; exact h
  clear hPost
  match k, hk with
  | 0, _ =>
    have H := lst_0 w
    go_enter Tryd.func5, Tryd.ntmps5
    go_wp2_with fail
    refine H.mono ?_
    intro r W1 h1
    have h2 := HP.out _ _ h1
    obtain ⟨b, rfl, -⟩ := h1
    go_wp2_with fail
    exact h2
  | 1, _ =>
    have H := lst_1 w
    go_enter Tryd.func5, Tryd.ntmps5
    go_wp2_with fail
    refine H.mono ?_
    intro r W1 h1
    have h2 := HP.out _ _ h1
    obtain ⟨b, rfl, -⟩ := h1
    go_wp2_with fail
    exact h2
  | 2, _ =>
    have H := lst_2 w
    go_enter Tryd.func5, Tryd.ntmps5
    go_wp2_with fail
    refine H.mono ?_
    intro r W1 h1
    have h2 := HP.out _ _ h1
    obtain ⟨b, rfl, -⟩ := h1
    go_wp2_with fail
    exact h2
set_option maxRecDepth 100000 in
set_option maxHeartbeats 8000000 in
theorem lfind_ (k : Nat) (s : ByteArray) (w : World) (hk : k < 3) : Calls Tryd.prog 13 #[.int .i64 k, .string s] w fun e w' => FdR w.heap.size w' (lst k) s e ∧ Up w w' := by
  obtain ⟨Post, hPost⟩ : ∃ P : Ending → World → Prop, P = fun e w' => FdR w.heap.size w' (lst k) s e ∧ Up w w' := ⟨_, rfl⟩
  rw [← hPost]
  have HPo : Hid (Post = fun e w' => FdR w.heap.size w' (lst k) s e ∧ Up w w') := hPost
  clear hPost
  match k, hk with
  | 0, _ =>
    have HF : Hid (∀ W, Calls Tryd.prog 50 #[.string s] W fun e w' => FdR W.heap.size w' fieldsL s e ∧ Up W w') := field_ s
    rw [show lst 0 = fieldsL from rfl] at HPo
    go_enter Tryd.func13, Tryd.ntmps13
    go_wp2_with fail
    refine (HF.out _).mono ?_
    rintro r W2 ⟨hr, u2⟩
    have g2 := u2.heap (heap_alloc_new w (.cells #[.string ⟨#[]⟩, .slice none 0 0, .int .i8 0, .nilFunc] 55))
    have HU2 : Hid (Up w W2) := ((Up.refl w).alloc _).trans u2
    obtain ⟨y0, y1, y2, y3⟩ : W2.cell? ⟨w.heap.size, 0, none⟩ = some (.string ⟨#[]⟩) ∧ W2.cell? ⟨w.heap.size, 1, none⟩ = some (.slice none 0 0) ∧ W2.cell? ⟨w.heap.size, 2, none⟩ = some (.int .i8 0) ∧ W2.cell? ⟨w.heap.size, 3, none⟩ = some (.nilFunc) := ⟨by simp [World.cell?, g2], by simp [World.cell?, g2], by simp [World.cell?, g2], by simp [World.cell?, g2]⟩
    obtain ⟨f0, f1, f2, f3⟩ : W2.frozen? ⟨w.heap.size, 0, none⟩ = false ∧ W2.frozen? ⟨w.heap.size, 1, none⟩ = false ∧ W2.frozen? ⟨w.heap.size, 2, none⟩ = false ∧ W2.frozen? ⟨w.heap.size, 3, none⟩ = false := ⟨by simp [World.frozen?, g2], by simp [World.frozen?, g2], by simp [World.frozen?, g2], by simp [World.frozen?, g2]⟩
    have HG2 : Hid _ := g2
    clear u2 g2 HF
    unfold FdR at hr
    cases hf : fnd fieldsL s with
    | none =>
      rw [hf] at hr
      dsimp only at hr
      subst hr
      unfold sz
      go_wp2_with fail
      refine bodyPost_ret (v := .tuple #[.int .i64 0, .agg #[.string ⟨#[]⟩, .slice none 0 0, .int .i8 0, .nilFunc], .bool false]) (res_f (p := 5) (q := 4) (r := 6) (ty := 55) rfl _ _ w.heap.size 55 _ (0, 0) _ _ _ rfl rfl rfl (set_four' HG2.out) Tryd.underlying55 rfl infoSg) rfl ?_
      rw [HPo.out]
      refine ⟨?_, (((HU2.out.setc (Nat.le_refl _) _ _).setc (Nat.le_refl _) _ _).setc (Nat.le_refl _) _ _).setc (Nat.le_refl _) _ _⟩
      unfold FdR
      rw [hf]
      rfl
    | some k =>
      rw [hf] at hr
      dsimp only at hr
      obtain ⟨g, hr, hg, hge⟩ := hr
      have HGE : Hid (w.heap.size ≤ g) := by simp at hge; unfold Hid; omega
      clear hge
      have HA : Hid (W2.heap[g]? = some (argO (fieldsL.getD k ds))) := hg
      have HNE : Hid (g ≠ w.heap.size) := by
        rintro rfl
        rw [HG2.out] at hg
        unfold argO at hg
        simp only [Option.some.injEq, Obj.cells.injEq] at hg
        exact absurd hg.2.1 (by decide)
      clear hg
      have HRE : Hid (∀ W, W.heap[g]? = some (argO (fieldsL.getD k ds)) → FdR w.heap.size W fieldsL s (.returned (.tuple #[.int .i64 (k : Int), .agg #[.string (fieldsL.getD k ds).name, .slice (some ⟨g, 0, none⟩) (fieldsL.getD k ds).args.length (fieldsL.getD k ds).args.length, .int .i8 (fieldsL.getD k ds).tell, .func (.func (gi (fieldsL.getD k ds).each)) #[] #[]], .bool true]))) := fun W h9 => by
        unfold FdR
        rw [hf]
        exact ⟨g, rfl, h9, HGE.out⟩
      unfold sgc gas at hr
      generalize fieldsL.getD k ds = a9 at *
      obtain ⟨a0, a1, a2, a3⟩ := a9
      simp only at hr HRE
      generalize a1.length = q1 at *
      generalize gi a3 = q3 at *
      subst hr
      go_wp2_with fail
      refine bodyPost_ret (v := .tuple #[.int .i64 (k : Int), .agg #[.string a0, .slice (some ⟨g, 0, none⟩) q1 q1, .int .i8 a2, .func (.func q3) #[] #[]], .bool true]) (res_f (p := 5) (q := 4) (r := 6) (ty := 55) rfl _ _ w.heap.size 55 _ (0, 0) _ _ _ rfl rfl rfl (set_four' HG2.out) Tryd.underlying55 rfl infoSg) rfl ?_
      rw [HPo.out]
      refine ⟨HRE.out _ ?_, (((HU2.out.setc (Nat.le_refl _) _ _).setc (Nat.le_refl _) _ _).setc (Nat.le_refl _) _ _).setc (Nat.le_refl _) _ _⟩
      rw [Below.heap_setCell _ _ _ _ HNE.out, Below.heap_setCell _ _ _ _ HNE.out, Below.heap_setCell _ _ _ _ HNE.out, Below.heap_setCell _ _ _ _ HNE.out]
      exact HA.out
  | 1, _ =>
    have HF : Hid (∀ W, Calls Tryd.prog 52 #[.string s] W fun e w' => FdR W.heap.size w' funcsL s e ∧ Up W w') := func_ s
    rw [show lst 1 = funcsL from rfl] at HPo
    go_enter Tryd.func13, Tryd.ntmps13
    go_wp2_with fail
    refine (HF.out _).mono ?_
    rintro r W2 ⟨hr, u2⟩
    have g2 := u2.heap (heap_alloc_new w (.cells #[.string ⟨#[]⟩, .slice none 0 0, .int .i8 0, .nilFunc] 55))
    have HU2 : Hid (Up w W2) := ((Up.refl w).alloc _).trans u2
    obtain ⟨y0, y1, y2, y3⟩ : W2.cell? ⟨w.heap.size, 0, none⟩ = some (.string ⟨#[]⟩) ∧ W2.cell? ⟨w.heap.size, 1, none⟩ = some (.slice none 0 0) ∧ W2.cell? ⟨w.heap.size, 2, none⟩ = some (.int .i8 0) ∧ W2.cell? ⟨w.heap.size, 3, none⟩ = some (.nilFunc) := ⟨by simp [World.cell?, g2], by simp [World.cell?, g2], by simp [World.cell?, g2], by simp [World.cell?, g2]⟩
    obtain ⟨f0, f1, f2, f3⟩ : W2.frozen? ⟨w.heap.size, 0, none⟩ = false ∧ W2.frozen? ⟨w.heap.size, 1, none⟩ = false ∧ W2.frozen? ⟨w.heap.size, 2, none⟩ = false ∧ W2.frozen? ⟨w.heap.size, 3, none⟩ = false := ⟨by simp [World.frozen?, g2], by simp [World.frozen?, g2], by simp [World.frozen?, g2], by simp [World.frozen?, g2]⟩
    have HG2 : Hid _ := g2
    clear u2 g2 HF
    unfold FdR at hr
    cases hf : fnd funcsL s with
    | none =>
      rw [hf] at hr
      dsimp only at hr
      subst hr
      unfold sz
      go_wp2_with fail
      refine bodyPost_ret (v := .tuple #[.int .i64 0, .agg #[.string ⟨#[]⟩, .slice none 0 0, .int .i8 0, .nilFunc], .bool false]) (res_f (p := 5) (q := 4) (r := 6) (ty := 55) rfl _ _ w.heap.size 55 _ (0, 0) _ _ _ rfl rfl rfl (set_four' HG2.out) Tryd.underlying55 rfl infoSg) rfl ?_
      rw [HPo.out]
      refine ⟨?_, (((HU2.out.setc (Nat.le_refl _) _ _).setc (Nat.le_refl _) _ _).setc (Nat.le_refl _) _ _).setc (Nat.le_refl _) _ _⟩
      unfold FdR
      rw [hf]
      rfl
    | some k =>
      rw [hf] at hr
      dsimp only at hr
      obtain ⟨g, hr, hg, hge⟩ := hr
      have HGE : Hid (w.heap.size ≤ g) := by simp at hge; unfold Hid; omega
      clear hge
      have HA : Hid (W2.heap[g]? = some (argO (funcsL.getD k ds))) := hg
      have HNE : Hid (g ≠ w.heap.size) := by
        rintro rfl
        rw [HG2.out] at hg
        unfold argO at hg
        simp only [Option.some.injEq, Obj.cells.injEq] at hg
        exact absurd hg.2.1 (by decide)
      clear hg
      have HRE : Hid (∀ W, W.heap[g]? = some (argO (funcsL.getD k ds)) → FdR w.heap.size W funcsL s (.returned (.tuple #[.int .i64 (k : Int), .agg #[.string (funcsL.getD k ds).name, .slice (some ⟨g, 0, none⟩) (funcsL.getD k ds).args.length (funcsL.getD k ds).args.length, .int .i8 (funcsL.getD k ds).tell, .func (.func (gi (funcsL.getD k ds).each)) #[] #[]], .bool true]))) := fun W h9 => by
        unfold FdR
        rw [hf]
        exact ⟨g, rfl, h9, HGE.out⟩
      unfold sgc gas at hr
      generalize funcsL.getD k ds = a9 at *
      obtain ⟨a0, a1, a2, a3⟩ := a9
      simp only at hr HRE
      generalize a1.length = q1 at *
      generalize gi a3 = q3 at *
      subst hr
      go_wp2_with fail
      refine bodyPost_ret (v := .tuple #[.int .i64 (k : Int), .agg #[.string a0, .slice (some ⟨g, 0, none⟩) q1 q1, .int .i8 a2, .func (.func q3) #[] #[]], .bool true]) (res_f (p := 5) (q := 4) (r := 6) (ty := 55) rfl _ _ w.heap.size 55 _ (0, 0) _ _ _ rfl rfl rfl (set_four' HG2.out) Tryd.underlying55 rfl infoSg) rfl ?_
      rw [HPo.out]
      refine ⟨HRE.out _ ?_, (((HU2.out.setc (Nat.le_refl _) _ _).setc (Nat.le_refl _) _ _).setc (Nat.le_refl _) _ _).setc (Nat.le_refl _) _ _⟩
      rw [Below.heap_setCell _ _ _ _ HNE.out, Below.heap_setCell _ _ _ _ HNE.out, Below.heap_setCell _ _ _ _ HNE.out, Below.heap_setCell _ _ _ _ HNE.out]
      exact HA.out
  | 2, _ =>
    have HF : Hid (∀ W, Calls Tryd.prog 51 #[.string s] W fun e w' => FdR W.heap.size w' effectsL s e ∧ Up W w') := effect_ s
    rw [show lst 2 = effectsL from rfl] at HPo
    go_enter Tryd.func13, Tryd.ntmps13
    go_wp2_with fail
    refine (HF.out _).mono ?_
    rintro r W2 ⟨hr, u2⟩
    have g2 := u2.heap (heap_alloc_new w (.cells #[.string ⟨#[]⟩, .slice none 0 0, .int .i8 0, .nilFunc] 55))
    have HU2 : Hid (Up w W2) := ((Up.refl w).alloc _).trans u2
    obtain ⟨y0, y1, y2, y3⟩ : W2.cell? ⟨w.heap.size, 0, none⟩ = some (.string ⟨#[]⟩) ∧ W2.cell? ⟨w.heap.size, 1, none⟩ = some (.slice none 0 0) ∧ W2.cell? ⟨w.heap.size, 2, none⟩ = some (.int .i8 0) ∧ W2.cell? ⟨w.heap.size, 3, none⟩ = some (.nilFunc) := ⟨by simp [World.cell?, g2], by simp [World.cell?, g2], by simp [World.cell?, g2], by simp [World.cell?, g2]⟩
    obtain ⟨f0, f1, f2, f3⟩ : W2.frozen? ⟨w.heap.size, 0, none⟩ = false ∧ W2.frozen? ⟨w.heap.size, 1, none⟩ = false ∧ W2.frozen? ⟨w.heap.size, 2, none⟩ = false ∧ W2.frozen? ⟨w.heap.size, 3, none⟩ = false := ⟨by simp [World.frozen?, g2], by simp [World.frozen?, g2], by simp [World.frozen?, g2], by simp [World.frozen?, g2]⟩
    have HG2 : Hid _ := g2
    clear u2 g2 HF
    unfold FdR at hr
    cases hf : fnd effectsL s with
    | none =>
      rw [hf] at hr
      dsimp only at hr
      subst hr
      unfold sz
      go_wp2_with fail
      refine bodyPost_ret (v := .tuple #[.int .i64 0, .agg #[.string ⟨#[]⟩, .slice none 0 0, .int .i8 0, .nilFunc], .bool false]) (res_f (p := 5) (q := 4) (r := 6) (ty := 55) rfl _ _ w.heap.size 55 _ (0, 0) _ _ _ rfl rfl rfl (set_four' HG2.out) Tryd.underlying55 rfl infoSg) rfl ?_
      rw [HPo.out]
      refine ⟨?_, (((HU2.out.setc (Nat.le_refl _) _ _).setc (Nat.le_refl _) _ _).setc (Nat.le_refl _) _ _).setc (Nat.le_refl _) _ _⟩
      unfold FdR
      rw [hf]
      rfl
    | some k =>
      rw [hf] at hr
      dsimp only at hr
      obtain ⟨g, hr, hg, hge⟩ := hr
      have HGE : Hid (w.heap.size ≤ g) := by simp at hge; unfold Hid; omega
      clear hge
      have HA : Hid (W2.heap[g]? = some (argO (effectsL.getD k ds))) := hg
      have HNE : Hid (g ≠ w.heap.size) := by
        rintro rfl
        rw [HG2.out] at hg
        unfold argO at hg
        simp only [Option.some.injEq, Obj.cells.injEq] at hg
        exact absurd hg.2.1 (by decide)
      clear hg
      have HRE : Hid (∀ W, W.heap[g]? = some (argO (effectsL.getD k ds)) → FdR w.heap.size W effectsL s (.returned (.tuple #[.int .i64 (k : Int), .agg #[.string (effectsL.getD k ds).name, .slice (some ⟨g, 0, none⟩) (effectsL.getD k ds).args.length (effectsL.getD k ds).args.length, .int .i8 (effectsL.getD k ds).tell, .func (.func (gi (effectsL.getD k ds).each)) #[] #[]], .bool true]))) := fun W h9 => by
        unfold FdR
        rw [hf]
        exact ⟨g, rfl, h9, HGE.out⟩
      unfold sgc gas at hr
      generalize effectsL.getD k ds = a9 at *
      obtain ⟨a0, a1, a2, a3⟩ := a9
      simp only at hr HRE
      generalize a1.length = q1 at *
      generalize gi a3 = q3 at *
      subst hr
      go_wp2_with fail
      refine bodyPost_ret (v := .tuple #[.int .i64 (k : Int), .agg #[.string a0, .slice (some ⟨g, 0, none⟩) q1 q1, .int .i8 a2, .func (.func q3) #[] #[]], .bool true]) (res_f (p := 5) (q := 4) (r := 6) (ty := 55) rfl _ _ w.heap.size 55 _ (0, 0) _ _ _ rfl rfl rfl (set_four' HG2.out) Tryd.underlying55 rfl infoSg) rfl ?_
      rw [HPo.out]
      refine ⟨HRE.out _ ?_, (((HU2.out.setc (Nat.le_refl _) _ _).setc (Nat.le_refl _) _ _).setc (Nat.le_refl _) _ _).setc (Nat.le_refl _) _ _⟩
      rw [Below.heap_setCell _ _ _ _ HNE.out, Below.heap_setCell _ _ _ _ HNE.out, Below.heap_setCell _ _ _ _ HNE.out, Below.heap_setCell _ _ _ _ HNE.out]
      exact HA.out
end KD
end Go.Proofs.YtifabdnjdadkbaaDoor
