
/-
  Field, Func, Effect: what they answer.
-/
import Derived.Test.YtifabdnjdadkbaaDoorFd12
import Derived.Test.YtifabdnjdadkbaaDoorLs12
namespace Go.Proofs.YtifabdnjdadkbaaDoor
open Go.RowKit
attribute [local go_sem ↓] Go.wp_at_zero Go.wp_at_succ
namespace KD
theorem set_four' {W : World} {q : Nat} {a b c d a' b' c' d' : Value} {t : TypeId} (h : W.heap[q]? = some (.cells #[a, b, c, d] t (0, 0))) : ((((W.setCell ⟨q, 0, none⟩ a').setCell ⟨q, 1, none⟩ b').setCell ⟨q, 2, none⟩ c').setCell ⟨q, 3, none⟩ d').heap[q]? = some (.cells #[a', b', c', d'] t (0, 0)) := by
  simp only [World.setCell, Array.getElem?_modify]; rw [h]; simp
theorem fnd_lt {l : List Sg} {s : ByteArray} {k : Nat} (h : fnd l s = some k) : k < l.length := (fnd_some h).1
def ndB (l : List Sg) : Bool := (List.range l.length).all fun j => (List.range j).all fun i => !decide ((l.getD i ds).name = (l.getD j ds).name)
theorem nd_of {l : List Sg} (h : ndB l = true) : Nd l := by
  intro i j hij hj e
  have h1 := List.all_eq_true.1 h j (List.mem_range.2 hj)
  have h2 := List.all_eq_true.1 h1 i (List.mem_range.2 hij)
  rw [decide_eq_true e] at h2
  cases h2
theorem fields_nd : Nd fieldsL := nd_of (by decide +kernel)
theorem funcs_nd : Nd funcsL := nd_of (by decide +kernel)
theorem effects_nd : Nd effectsL := nd_of (by decide +kernel)
set_option maxRecDepth 100000 in
set_option maxHeartbeats 8000000 in
theorem field_ (s : ByteArray) (w : World) : Calls Tryd.prog 50 #[.string s] w fun e w' => FdR w.heap.size w' fieldsL s e ∧ Up w w' := by
  obtain ⟨Post, hPost⟩ : ∃ P : Ending → World → Prop, P = fun e w' => FdR w.heap.size w' fieldsL s e ∧ Up w w' := ⟨_, rfl⟩
  rw [← hPost]
  have HPo : Hid (Post = fun e w' => FdR w.heap.size w' fieldsL s e ∧ Up w w') := hPost
  clear hPost
  have HL : Hid (∀ W, Calls Tryd.prog 9 #[] W fun e w' => ∃ b, e = .returned (.slice (some ⟨b + 13, 0, none⟩) 13 13) ∧ SL w' b fieldsL ∧ Up W w' ∧ W.heap.size ≤ b) := fun W => (fields_ W).mono fun e w' ⟨h1, h2⟩ => ⟨_, h1, by rw [h2]; exact sl_objs W fieldsL, by rw [h2]; exact allocs_up _ _, Nat.le_refl _⟩
  have HF : Hid (∀ W b, SL W b fieldsL → Calls Tryd.prog 60 #[.slice (some ⟨b + 13, 0, none⟩) 13 13, .string s] W fun e w' => FdB b fieldsL s e ∧ Up W w') := fun W b h => find_ b fieldsL s W h (by decide) fields_nd
  go_enter Tryd.func50, Tryd.ntmps50
  go_wp2_with fail
  refine Calls.mono (HL.out _) ?_
  rintro r W1 ⟨b, rfl, hsl, u1, hb⟩
  have HB : Hid (w.heap.size < b) := by simp at hb; unfold Hid; omega
  have g0 := u1.heap (heap_alloc_new w (.cells #[.string ⟨#[]⟩, .slice none 0 0, .int .i8 0, .nilFunc] 55))
  have HU : Hid (Up w W1) := ((Up.refl w).alloc _).trans u1
  clear u1
  go_wp2_with fail
  refine Calls.mono (HF.out _ _ hsl) ?_
  rintro r W2 ⟨hr, u2⟩
  have g2 := u2.heap g0
  have HU2 : Hid (Up w W2) := HU.out.trans u2
  have HS2 : Hid (SL W2 b fieldsL) := hsl.up u2
  obtain ⟨y0, y1, y2, y3⟩ : W2.cell? ⟨w.heap.size, 0, none⟩ = some (.string ⟨#[]⟩) ∧ W2.cell? ⟨w.heap.size, 1, none⟩ = some (.slice none 0 0) ∧ W2.cell? ⟨w.heap.size, 2, none⟩ = some (.int .i8 0) ∧ W2.cell? ⟨w.heap.size, 3, none⟩ = some (.nilFunc) := ⟨by simp [World.cell?, g2], by simp [World.cell?, g2], by simp [World.cell?, g2], by simp [World.cell?, g2]⟩
  obtain ⟨f0, f1, f2, f3⟩ : W2.frozen? ⟨w.heap.size, 0, none⟩ = false ∧ W2.frozen? ⟨w.heap.size, 1, none⟩ = false ∧ W2.frozen? ⟨w.heap.size, 2, none⟩ = false ∧ W2.frozen? ⟨w.heap.size, 3, none⟩ = false := ⟨by simp [World.frozen?, g2], by simp [World.frozen?, g2], by simp [World.frozen?, g2], by simp [World.frozen?, g2]⟩
  have HG2 : Hid _ := g2
  clear u2 g0 g2 hsl HF HL HU hb
  unfold FdB at hr
  cases hf : fnd fieldsL s with
  | none =>
    rw [hf] at hr
    subst hr
    unfold sz
    go_wp2_with fail
    refine bodyPost_ret (v := .tuple #[.int .i64 0, .agg #[.string ⟨#[]⟩, .slice none 0 0, .int .i8 0, .nilFunc], .bool false]) (res_f (p := 3) (q := 2) (r := 4) (ty := 55) rfl _ _ w.heap.size 55 _ (0, 0) _ _ _ rfl rfl rfl (set_four' HG2.out) Tryd.underlying55 rfl infoSg) rfl ?_
    rw [HPo.out]
    refine ⟨?_, (((HU2.out.setc (Nat.le_refl _) _ _).setc (Nat.le_refl _) _ _).setc (Nat.le_refl _) _ _).setc (Nat.le_refl _) _ _⟩
    unfold FdR
    rw [hf]
    rfl
  | some k =>
    rw [hf] at hr
    dsimp only at hr
    have HA : Hid (W2.heap[b + k]? = some (argO (fieldsL.getD k ds))) := HS2.out.args (fnd_lt hf)
    have HGE : Hid (w.heap.size ≤ b + k) := by have := HB.out; unfold Hid; omega
    have HNE : Hid (b + k ≠ w.heap.size) := by have := HB.out; unfold Hid; omega
    generalize b + k = g at *
    have HRE : Hid (∀ W, W.heap[g]? = some (argO (fieldsL.getD k ds)) → FdR w.heap.size W fieldsL s (.returned (.tuple #[.int .i64 (k : Int), .agg #[.string (fieldsL.getD k ds).name, .slice (some ⟨g, 0, none⟩) (fieldsL.getD k ds).args.length (fieldsL.getD k ds).args.length, .int .i8 (fieldsL.getD k ds).tell, .func (.func (gi (fieldsL.getD k ds).each)) #[] #[]], .bool true]))) := fun W h9 => by
      unfold FdR
      rw [hf]
      exact ⟨g, rfl, h9, HGE.out⟩
    unfold sgc gas at hr
    generalize fieldsL.getD k ds = a9 at *
    obtain ⟨a0, a1, a2, a3⟩ := a9
    simp only at hr HRE
    generalize a1.length = q1 at *
    generalize gi a3 = q3 at *
    subst hr
    go_wp2_with fail
    refine bodyPost_ret (v := .tuple #[.int .i64 (k : Int), .agg #[.string a0, .slice (some ⟨g, 0, none⟩) q1 q1, .int .i8 a2, .func (.func q3) #[] #[]], .bool true]) (res_f (p := 3) (q := 2) (r := 4) (ty := 55) rfl _ _ w.heap.size 55 _ (0, 0) _ _ _ rfl rfl rfl (set_four' HG2.out) Tryd.underlying55 rfl infoSg) rfl ?_
    rw [HPo.out]
    refine ⟨HRE.out _ ?_, (((HU2.out.setc (Nat.le_refl _) _ _).setc (Nat.le_refl _) _ _).setc (Nat.le_refl _) _ _).setc (Nat.le_refl _) _ _⟩
    rw [Below.heap_setCell _ _ _ _ HNE.out, Below.heap_setCell _ _ _ _ HNE.out, Below.heap_setCell _ _ _ _ HNE.out, Below.heap_setCell _ _ _ _ HNE.out]
    exact HA.out
set_option maxRecDepth 100000 in
set_option maxHeartbeats 8000000 in
theorem func_ (s : ByteArray) (w : World) : Calls Tryd.prog 52 #[.string s] w fun e w' => FdR w.heap.size w' funcsL s e ∧ Up w w' := by
  obtain ⟨Post, hPost⟩ : ∃ P : Ending → World → Prop, P = fun e w' => FdR w.heap.size w' funcsL s e ∧ Up w w' := ⟨_, rfl⟩
  rw [← hPost]
  have HPo : Hid (Post = fun e w' => FdR w.heap.size w' funcsL s e ∧ Up w w') := hPost
  clear hPost
  have HL : Hid (∀ W, Calls Tryd.prog 21 #[] W fun e w' => ∃ b, e = .returned (.slice (some ⟨b + 9, 0, none⟩) 9 9) ∧ SL w' b funcsL ∧ Up W w' ∧ W.heap.size ≤ b) := fun W => (funcs_ W).mono fun e w' ⟨h1, h2⟩ => ⟨_, h1, by rw [h2]; exact sl_objs W funcsL, by rw [h2]; exact allocs_up _ _, Nat.le_refl _⟩
  have HF : Hid (∀ W b, SL W b funcsL → Calls Tryd.prog 60 #[.slice (some ⟨b + 9, 0, none⟩) 9 9, .string s] W fun e w' => FdB b funcsL s e ∧ Up W w') := fun W b h => find_ b funcsL s W h (by decide) funcs_nd
  go_enter Tryd.func52, Tryd.ntmps52
  go_wp2_with fail
  refine Calls.mono (HL.out _) ?_
  rintro r W1 ⟨b, rfl, hsl, u1, hb⟩
  have HB : Hid (w.heap.size < b) := by simp at hb; unfold Hid; omega
  have g0 := u1.heap (heap_alloc_new w (.cells #[.string ⟨#[]⟩, .slice none 0 0, .int .i8 0, .nilFunc] 55))
  have HU : Hid (Up w W1) := ((Up.refl w).alloc _).trans u1
  clear u1
  go_wp2_with fail
  refine Calls.mono (HF.out _ _ hsl) ?_
  rintro r W2 ⟨hr, u2⟩
  have g2 := u2.heap g0
  have HU2 : Hid (Up w W2) := HU.out.trans u2
  have HS2 : Hid (SL W2 b funcsL) := hsl.up u2
  obtain ⟨y0, y1, y2, y3⟩ : W2.cell? ⟨w.heap.size, 0, none⟩ = some (.string ⟨#[]⟩) ∧ W2.cell? ⟨w.heap.size, 1, none⟩ = some (.slice none 0 0) ∧ W2.cell? ⟨w.heap.size, 2, none⟩ = some (.int .i8 0) ∧ W2.cell? ⟨w.heap.size, 3, none⟩ = some (.nilFunc) := ⟨by simp [World.cell?, g2], by simp [World.cell?, g2], by simp [World.cell?, g2], by simp [World.cell?, g2]⟩
  obtain ⟨f0, f1, f2, f3⟩ : W2.frozen? ⟨w.heap.size, 0, none⟩ = false ∧ W2.frozen? ⟨w.heap.size, 1, none⟩ = false ∧ W2.frozen? ⟨w.heap.size, 2, none⟩ = false ∧ W2.frozen? ⟨w.heap.size, 3, none⟩ = false := ⟨by simp [World.frozen?, g2], by simp [World.frozen?, g2], by simp [World.frozen?, g2], by simp [World.frozen?, g2]⟩
  have HG2 : Hid _ := g2
  clear u2 g0 g2 hsl HF HL HU hb
  unfold FdB at hr
  cases hf : fnd funcsL s with
  | none =>
    rw [hf] at hr
    subst hr
    unfold sz
    go_wp2_with fail
    refine bodyPost_ret (v := .tuple #[.int .i64 0, .agg #[.string ⟨#[]⟩, .slice none 0 0, .int .i8 0, .nilFunc], .bool false]) (res_f (p := 3) (q := 2) (r := 4) (ty := 55) rfl _ _ w.heap.size 55 _ (0, 0) _ _ _ rfl rfl rfl (set_four' HG2.out) Tryd.underlying55 rfl infoSg) rfl ?_
    rw [HPo.out]
    refine ⟨?_, (((HU2.out.setc (Nat.le_refl _) _ _).setc (Nat.le_refl _) _ _).setc (Nat.le_refl _) _ _).setc (Nat.le_refl _) _ _⟩
    unfold FdR
    rw [hf]
    rfl
  | some k =>
    rw [hf] at hr
    dsimp only at hr
    have HA : Hid (W2.heap[b + k]? = some (argO (funcsL.getD k ds))) := HS2.out.args (fnd_lt hf)
    have HGE : Hid (w.heap.size ≤ b + k) := by have := HB.out; unfold Hid; omega
    have HNE : Hid (b + k ≠ w.heap.size) := by have := HB.out; unfold Hid; omega
    generalize b + k = g at *
    have HRE : Hid (∀ W, W.heap[g]? = some (argO (funcsL.getD k ds)) → FdR w.heap.size W funcsL s (.returned (.tuple #[.int .i64 (k : Int), .agg #[.string (funcsL.getD k ds).name, .slice (some ⟨g, 0, none⟩) (funcsL.getD k ds).args.length (funcsL.getD k ds).args.length, .int .i8 (funcsL.getD k ds).tell, .func (.func (gi (funcsL.getD k ds).each)) #[] #[]], .bool true]))) := fun W h9 => by
      unfold FdR
      rw [hf]
      exact ⟨g, rfl, h9, HGE.out⟩
    unfold sgc gas at hr
    generalize funcsL.getD k ds = a9 at *
    obtain ⟨a0, a1, a2, a3⟩ := a9
    simp only at hr HRE
    generalize a1.length = q1 at *
    generalize gi a3 = q3 at *
    subst hr
    go_wp2_with fail
    refine bodyPost_ret (v := .tuple #[.int .i64 (k : Int), .agg #[.string a0, .slice (some ⟨g, 0, none⟩) q1 q1, .int .i8 a2, .func (.func q3) #[] #[]], .bool true]) (res_f (p := 3) (q := 2) (r := 4) (ty := 55) rfl _ _ w.heap.size 55 _ (0, 0) _ _ _ rfl rfl rfl (set_four' HG2.out) Tryd.underlying55 rfl infoSg) rfl ?_
    rw [HPo.out]
    refine ⟨HRE.out _ ?_, (((HU2.out.setc (Nat.le_refl _) _ _).setc (Nat.le_refl _) _ _).setc (Nat.le_refl _) _ _).setc (Nat.le_refl _) _ _⟩
    rw [Below.heap_setCell _ _ _ _ HNE.out, Below.heap_setCell _ _ _ _ HNE.out, Below.heap_setCell _ _ _ _ HNE.out, Below.heap_setCell _ _ _ _ HNE.out]
    exact HA.out
set_option maxRecDepth 100000 in
set_option maxHeartbeats 8000000 in
theorem effect_ (s : ByteArray) (w : World) : Calls Tryd.prog 51 #[.string s] w fun e w' => FdR w.heap.size w' effectsL s e ∧ Up w w' := by
  obtain ⟨Post, hPost⟩ : ∃ P : Ending → World → Prop, P = fun e w' => FdR w.heap.size w' effectsL s e ∧ Up w w' := ⟨_, rfl⟩
  rw [← hPost]
  have HPo : Hid (Post = fun e w' => FdR w.heap.size w' effectsL s e ∧ Up w w') := hPost
  clear hPost
  have HL : Hid (∀ W, Calls Tryd.prog 22 #[] W fun e w' => ∃ b, e = .returned (.slice (some ⟨b + 9, 0, none⟩) 9 9) ∧ SL w' b effectsL ∧ Up W w' ∧ W.heap.size ≤ b) := fun W => (effects_ W).mono fun e w' ⟨h1, h2⟩ => ⟨_, h1, by rw [h2]; exact sl_objs W effectsL, by rw [h2]; exact allocs_up _ _, Nat.le_refl _⟩
  have HF : Hid (∀ W b, SL W b effectsL → Calls Tryd.prog 60 #[.slice (some ⟨b + 9, 0, none⟩) 9 9, .string s] W fun e w' => FdB b effectsL s e ∧ Up W w') := fun W b h => find_ b effectsL s W h (by decide) effects_nd
  go_enter Tryd.func51, Tryd.ntmps51
  go_wp2_with fail
  refine Calls.mono (HL.out _) ?_
  rintro r W1 ⟨b, rfl, hsl, u1, hb⟩
  have HB : Hid (w.heap.size < b) := by simp at hb; unfold Hid; omega
  have g0 := u1.heap (heap_alloc_new w (.cells #[.string ⟨#[]⟩, .slice none 0 0, .int .i8 0, .nilFunc] 55))
  have HU : Hid (Up w W1) := ((Up.refl w).alloc _).trans u1
  clear u1
  go_wp2_with fail
  refine Calls.mono (HF.out _ _ hsl) ?_
  rintro r W2 ⟨hr, u2⟩
  have g2 := u2.heap g0
  have HU2 : Hid (Up w W2) := HU.out.trans u2
  have HS2 : Hid (SL W2 b effectsL) := hsl.up u2
  obtain ⟨y0, y1, y2, y3⟩ : W2.cell? ⟨w.heap.size, 0, none⟩ = some (.string ⟨#[]⟩) ∧ W2.cell? ⟨w.heap.size, 1, none⟩ = some (.slice none 0 0) ∧ W2.cell? ⟨w.heap.size, 2, none⟩ = some (.int .i8 0) ∧ W2.cell? ⟨w.heap.size, 3, none⟩ = some (.nilFunc) := ⟨by simp [World.cell?, g2], by simp [World.cell?, g2], by simp [World.cell?, g2], by simp [World.cell?, g2]⟩
  obtain ⟨f0, f1, f2, f3⟩ : W2.frozen? ⟨w.heap.size, 0, none⟩ = false ∧ W2.frozen? ⟨w.heap.size, 1, none⟩ = false ∧ W2.frozen? ⟨w.heap.size, 2, none⟩ = false ∧ W2.frozen? ⟨w.heap.size, 3, none⟩ = false := ⟨by simp [World.frozen?, g2], by simp [World.frozen?, g2], by simp [World.frozen?, g2], by simp [World.frozen?, g2]⟩
  have HG2 : Hid _ := g2
  clear u2 g0 g2 hsl HF HL HU hb
  unfold FdB at hr
  cases hf : fnd effectsL s with
  | none =>
    rw [hf] at hr
    subst hr
    unfold sz
    go_wp2_with fail
    refine bodyPost_ret (v := .tuple #[.int .i64 0, .agg #[.string ⟨#[]⟩, .slice none 0 0, .int .i8 0, .nilFunc], .bool false]) (res_f (p := 3) (q := 2) (r := 4) (ty := 55) rfl _ _ w.heap.size 55 _ (0, 0) _ _ _ rfl rfl rfl (set_four' HG2.out) Tryd.underlying55 rfl infoSg) rfl ?_
    rw [HPo.out]
    refine ⟨?_, (((HU2.out.setc (Nat.le_refl _) _ _).setc (Nat.le_refl _) _ _).setc (Nat.le_refl _) _ _).setc (Nat.le_refl _) _ _⟩
    unfold FdR
    rw [hf]
    rfl
  | some k =>
    rw [hf] at hr
    dsimp only at hr
    have HA : Hid (W2.heap[b + k]? = some (argO (effectsL.getD k ds))) := HS2.out.args (fnd_lt hf)
    have HGE : Hid (w.heap.size ≤ b + k) := by have := HB.out; unfold Hid; omega
    have HNE : Hid (b + k ≠ w.heap.size) := by have := HB.out; unfold Hid; omega
    generalize b + k = g at *
    have HRE : Hid (∀ W, W.heap[g]? = some (argO (effectsL.getD k ds)) → FdR w.heap.size W effectsL s (.returned (.tuple #[.int .i64 (k : Int), .agg #[.string (effectsL.getD k ds).name, .slice (some ⟨g, 0, none⟩) (effectsL.getD k ds).args.length (effectsL.getD k ds).args.length, .int .i8 (effectsL.getD k ds).tell, .func (.func (gi (effectsL.getD k ds).each)) #[] #[]], .bool true]))) := fun W h9 => by
      unfold FdR
      rw [hf]
      exact ⟨g, rfl, h9, HGE.out⟩
    unfold sgc gas at hr
    generalize effectsL.getD k ds = a9 at *
    obtain ⟨a0, a1, a2, a3⟩ := a9
    simp only at hr HRE
    generalize a1.length = q1 at *
    generalize gi a3 = q3 at *
    subst hr
    go_wp2_with fail
    refine bodyPost_ret (v := .tuple #[.int .i64 (k : Int), .agg #[.string a0, .slice (some ⟨g, 0, none⟩) q1 q1, .int .i8 a2, .func (.func q3) #[] #[]], .bool true]) (res_f (p := 3) (q := 2) (r := 4) (ty := 55) rfl _ _ w.heap.size 55 _ (0, 0) _ _ _ rfl rfl rfl (set_four' HG2.out) Tryd.underlying55 rfl infoSg) rfl ?_
    rw [HPo.out]
    refine ⟨HRE.out _ ?_, (((HU2.out.setc (Nat.le_refl _) _ _).setc (Nat.le_refl _) _ _).setc (Nat.le_refl _) _ _).setc (Nat.le_refl _) _ _⟩
    rw [Below.heap_setCell _ _ _ _ HNE.out, Below.heap_setCell _ _ _ _ HNE.out, Below.heap_setCell _ _ _ _ HNE.out, Below.heap_setCell _ _ _ _ HNE.out]
    exact HA.out
end KD
end Go.Proofs.YtifabdnjdadkbaaDoor
