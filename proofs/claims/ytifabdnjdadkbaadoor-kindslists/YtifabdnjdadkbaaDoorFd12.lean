
/-
  What find answers.
-/
import Derived.Test.YtifabdnjdadkbaaDoorBy12
import Derived.Test.YtifabdnjdadkbaaDoorLast
namespace Go.Proofs.YtifabdnjdadkbaaDoor
open Go.RowKit
attribute [local go_sem ↓] Go.wp_at_zero Go.wp_at_succ
namespace KD
def FdB (b : Nat) (l : List Sg) (s : ByteArray) (e : Ending) : Prop := match fnd l s with
  | none => e = .returned (.tuple #[.int .i64 0, .agg sz, .bool false])
  | some k => e = .returned (.tuple #[.int .i64 k, .agg (sgc (b + k) (l.getD k ds)).toArray, .bool true])
theorem _root_.Go.Proofs.YtifabdnjdadkbaaDoor.Up.setc {w W : World} {q : Nat} (u : Up w W) (h : w.heap.size ≤ q) (j : Nat) (v : Value) : Up w (W.setCell ⟨q, j, none⟩ v) := by
  refine ⟨u.os, u.tape, u.output, by have := u.size; simpa using this, fun g hg => ?_⟩
  rw [Below.heap_setCell _ _ _ _ (show g ≠ q by omega)]
  exact u.block g hg
theorem set_four {W : World} {q : Nat} {a b c d a' b' c' d' : Value} {t : TypeId} (h : W.heap[q]? = some (.cells #[a, b, c, d] t (0, 0))) : (((((W.setCell ⟨q, 0, none⟩ a').setCell ⟨q, 1, none⟩ b').setCell ⟨q, 2, none⟩ c').setCell ⟨q, 3, none⟩ d').drew).heap[q]? = some (.cells #[a', b', c', d'] t (0, 0)) := by
  simp only [World.drew, World.setCell, Array.getElem?_modify]; rw [h]; simp
theorem infoSg : (Tryd.prog.info? 55).map (·.size) = some 4 := by kernel_rfl
theorem zero45 (w : World) : (zeroValue 127).run Tryd.prog w = .ok (.agg nz) w := by kernel_rfl
set_option maxRecDepth 100000 in
set_option maxHeartbeats 8000000 in
theorem find_none (b : Nat) (l : List Sg) (s : ByteArray) (w : World) (h : SL w b l) (hn : l.length ≤ 100) (hd : Nd l) (hf : fnd l s = none) : Calls Tryd.prog 60 #[.slice (some ⟨b + l.length, 0, none⟩) l.length l.length, .string s] w fun e w' => FdB b l s e ∧ Up w w' := by
  obtain ⟨Post, hPost⟩ : ∃ P : Ending → World → Prop, P = fun e w' => FdB b l s e ∧ Up w w' := ⟨_, rfl⟩
  rw [← hPost]
  have HPo : Hid (Post = fun e w' => FdB b l s e ∧ Up w w') := hPost
  clear hPost
  have HB : Hid (∀ W, Up w W → Calls Tryd.prog 63 #[.slice (some ⟨b + l.length, 0, none⟩) l.length l.length] W fun e w' => ∃ m, e = .returned (.map (some m)) ∧ MP w' m (ens b l l.length) ∧ Up W w') := fun W u => byName_ b l W (h.up u) hn hd
  have HLK : Hid (∀ W m, MP W m (ens b l l.length) → (Instr.lookup 129 (.map (some m)) (.string s) true).run Tryd.prog W = .ok (.tuple #[.agg #[.int .i64 0, .string ⟨#[]⟩, .slice none 0 0, .int .i8 0, .nilFunc], .bool false]) W) := fun W m h9 => by
    have h8 := run_look (P := Tryd.prog) Tryd.underlying129 Tryd.underlying9 h9 s (zero45 W)
    rw [lk_ens_none (fnd_none hf)] at h8
    exact h8
  have HRE : Hid (FdB b l s (.returned (.tuple #[.int .i64 0, .agg #[.string ⟨#[]⟩, .slice none 0 0, .int .i8 0, .nilFunc], .bool false]))) := by
    unfold Hid FdB
    rw [hf]
    rfl
  generalize l.length = n at *
  clear h hn hd hf
  go_enter Tryd.func60, Tryd.ntmps60
  go_wp2_with fail
  refine Calls.mono (HB.out _ ((Up.refl w).alloc _)) ?_
  rintro r W1 ⟨m, rfl, hmp, u1⟩
  have hlk := HLK.out W1 m hmp
  have HU : Hid (Up w W1) := ((Up.refl w).alloc _).trans u1
  have g0 := u1.heap (heap_alloc_new w (.cells #[.string ⟨#[]⟩, .slice none 0 0, .int .i8 0, .nilFunc] 55))
  have hl0 := (Array.getElem?_eq_some_iff.1 g0).1
  clear u1 hmp
  go_wp2_with fail
  obtain ⟨q, hq⟩ : ∃ q, q = w.heap.size := ⟨_, rfl⟩
  obtain ⟨p, hp⟩ : ∃ p, p = W1.heap.size := ⟨_, rfl⟩
  obtain ⟨W2, hW2⟩ : ∃ W, W = W1.alloc (.cells #[.int .i64 0, .string ⟨#[]⟩, .slice none 0 0, .int .i8 0, .nilFunc] 127) := ⟨_, rfl⟩
  rw [← hW2, ← hp, ← hq]
  have hne : ¬ q = p := by omega
  have g1 : W2.heap[p]? = some (.cells #[.int .i64 0, .string ⟨#[]⟩, .slice none 0 0, .int .i8 0, .nilFunc] 127 (0, 0)) := by rw [hW2, hp]; exact heap_alloc_new W1 _
  have g2 : W2.heap[q]? = some (.cells #[.string ⟨#[]⟩, .slice none 0 0, .int .i8 0, .nilFunc] 55 (0, 0)) := by rw [hW2, hq]; exact ((Up.refl W1).alloc _).heap g0
  obtain ⟨x0, x1, x2, x3, x4⟩ : W2.cell? ⟨p, 0, none⟩ = some (.int .i64 0) ∧ W2.cell? ⟨p, 1, none⟩ = some (.string ⟨#[]⟩) ∧ W2.cell? ⟨p, 2, none⟩ = some (.slice none 0 0) ∧ W2.cell? ⟨p, 3, none⟩ = some (.int .i8 0) ∧ W2.cell? ⟨p, 4, none⟩ = some (.nilFunc) := ⟨by simp [World.cell?, g1], by simp [World.cell?, g1], by simp [World.cell?, g1], by simp [World.cell?, g1], by simp [World.cell?, g1]⟩
  obtain ⟨y0, y1, y2, y3⟩ : W2.cell? ⟨q, 0, none⟩ = some (.string ⟨#[]⟩) ∧ W2.cell? ⟨q, 1, none⟩ = some (.slice none 0 0) ∧ W2.cell? ⟨q, 2, none⟩ = some (.int .i8 0) ∧ W2.cell? ⟨q, 3, none⟩ = some (.nilFunc) := ⟨by simp [World.cell?, g2], by simp [World.cell?, g2], by simp [World.cell?, g2], by simp [World.cell?, g2]⟩
  obtain ⟨f0, f1, f2, f3⟩ : W2.frozen? ⟨q, 0, none⟩ = false ∧ W2.frozen? ⟨q, 1, none⟩ = false ∧ W2.frozen? ⟨q, 2, none⟩ = false ∧ W2.frozen? ⟨q, 3, none⟩ = false := ⟨by simp [World.frozen?, g2], by simp [World.frozen?, g2], by simp [World.frozen?, g2], by simp [World.frozen?, g2]⟩
  have HU2 : Hid (Up w W2) := by unfold Hid; rw [hW2]; exact HU.out.alloc _
  have HQ : Hid (w.heap.size ≤ q) := by unfold Hid; omega
  have HG2 : Hid _ := g2
  clear g0 g1 g2 hW2 hp hq hl0 HU HLK HB
  go_region_held3 (fun W' => W'.cell? ⟨p, 0, none⟩ = some (.int .i64 0) ∧ W'.cell? ⟨p, 1, none⟩ = some (.string ⟨#[]⟩) ∧ W'.cell? ⟨p, 2, none⟩ = some (.slice none 0 0) ∧ W'.cell? ⟨p, 3, none⟩ = some (.int .i8 0) ∧ W'.cell? ⟨p, 4, none⟩ = some (.nilFunc)) (go_keep) (fail)
  go_wp2_with fail
  refine bodyPost_ret (v := .tuple #[.int .i64 0, .agg #[.string ⟨#[]⟩, .slice none 0 0, .int .i8 0, .nilFunc], .bool false]) (res_f (p := 5) (q := 4) (r := 6) (ty := 55) rfl _ _ q 55 _ (0, 0) _ _ _ rfl rfl rfl (set_four HG2.out) Tryd.underlying55 rfl infoSg) rfl ?_
  rw [HPo.out]
  exact ⟨HRE.out, ((((HU2.out.setc HQ.out _ _).setc HQ.out _ _).setc HQ.out _ _).setc HQ.out _ _).drew⟩
set_option maxRecDepth 100000 in
set_option maxHeartbeats 8000000 in
theorem find_some (b : Nat) (l : List Sg) (s : ByteArray) (k : Nat) (w : World) (h : SL w b l) (hn : l.length ≤ 100) (hd : Nd l) (hf : fnd l s = some k) : Calls Tryd.prog 60 #[.slice (some ⟨b + l.length, 0, none⟩) l.length l.length, .string s] w fun e w' => FdB b l s e ∧ Up w w' := by
  obtain ⟨Post, hPost⟩ : ∃ P : Ending → World → Prop, P = fun e w' => FdB b l s e ∧ Up w w' := ⟨_, rfl⟩
  rw [← hPost]
  have HPo : Hid (Post = fun e w' => FdB b l s e ∧ Up w w') := hPost
  clear hPost
  have HB : Hid (∀ W, Up w W → Calls Tryd.prog 63 #[.slice (some ⟨b + l.length, 0, none⟩) l.length l.length] W fun e w' => ∃ m, e = .returned (.map (some m)) ∧ MP w' m (ens b l l.length) ∧ Up W w') := fun W u => byName_ b l W (h.up u) hn hd
  obtain ⟨hk, hs⟩ := fnd_some hf
  have HLK : Hid (∀ W m, MP W m (ens b l l.length) → (Instr.lookup 129 (.map (some m)) (.string s) true).run Tryd.prog W = .ok (.tuple #[.agg #[.int .i64 (k : Int), .string (l.getD k ds).name, .slice (some ⟨b + k, 0, none⟩) (l.getD k ds).args.length (l.getD k ds).args.length, .int .i8 (l.getD k ds).tell, .func (.func (gi (l.getD k ds).each)) #[] #[]], .bool true]) W) := fun W m h9 => by
    have h8 := run_look (P := Tryd.prog) Tryd.underlying129 Tryd.underlying9 h9 s (zero45 W)
    rw [← hs, lk_ens_some hd hk (Nat.le_refl _)] at h8
    rw [← hs]
    exact h8
  have HRE : Hid (FdB b l s (.returned (.tuple #[.int .i64 (k : Int), .agg #[.string (l.getD k ds).name, .slice (some ⟨b + k, 0, none⟩) (l.getD k ds).args.length (l.getD k ds).args.length, .int .i8 (l.getD k ds).tell, .func (.func (gi (l.getD k ds).each)) #[] #[]], .bool true]))) := by
    unfold Hid FdB
    rw [hf]
    rfl
  generalize (l.getD k ds).args.length = a1 at *
  generalize (l.getD k ds).tell = a2 at *
  generalize gi (l.getD k ds).each = a3 at *
  generalize (l.getD k ds).name = a0 at *
  generalize l.length = n at *
  clear h hn hd hf hs hk
  go_enter Tryd.func60, Tryd.ntmps60
  go_wp2_with fail
  refine Calls.mono (HB.out _ ((Up.refl w).alloc _)) ?_
  rintro r W1 ⟨m, rfl, hmp, u1⟩
  have hlk := HLK.out W1 m hmp
  have HU : Hid (Up w W1) := ((Up.refl w).alloc _).trans u1
  have g0 := u1.heap (heap_alloc_new w (.cells #[.string ⟨#[]⟩, .slice none 0 0, .int .i8 0, .nilFunc] 55))
  have hl0 := (Array.getElem?_eq_some_iff.1 g0).1
  clear u1 hmp
  go_wp2_with fail
  obtain ⟨q, hq⟩ : ∃ q, q = w.heap.size := ⟨_, rfl⟩
  obtain ⟨p, hp⟩ : ∃ p, p = W1.heap.size := ⟨_, rfl⟩
  obtain ⟨W2, hW2⟩ : ∃ W, W = W1.alloc (.cells #[.int .i64 (k : Int), .string a0, .slice (some ⟨b + k, 0, none⟩) a1 a1, .int .i8 a2, .func (.func a3) #[] #[]] 127) := ⟨_, rfl⟩
  rw [← hW2, ← hp, ← hq]
  have hne : ¬ q = p := by omega
  have g1 : W2.heap[p]? = some (.cells #[.int .i64 (k : Int), .string a0, .slice (some ⟨b + k, 0, none⟩) a1 a1, .int .i8 a2, .func (.func a3) #[] #[]] 127 (0, 0)) := by rw [hW2, hp]; exact heap_alloc_new W1 _
  have g2 : W2.heap[q]? = some (.cells #[.string ⟨#[]⟩, .slice none 0 0, .int .i8 0, .nilFunc] 55 (0, 0)) := by rw [hW2, hq]; exact ((Up.refl W1).alloc _).heap g0
  obtain ⟨x0, x1, x2, x3, x4⟩ : W2.cell? ⟨p, 0, none⟩ = some (.int .i64 (k : Int)) ∧ W2.cell? ⟨p, 1, none⟩ = some (.string a0) ∧ W2.cell? ⟨p, 2, none⟩ = some (.slice (some ⟨b + k, 0, none⟩) a1 a1) ∧ W2.cell? ⟨p, 3, none⟩ = some (.int .i8 a2) ∧ W2.cell? ⟨p, 4, none⟩ = some (.func (.func a3) #[] #[]) := ⟨by simp [World.cell?, g1], by simp [World.cell?, g1], by simp [World.cell?, g1], by simp [World.cell?, g1], by simp [World.cell?, g1]⟩
  obtain ⟨y0, y1, y2, y3⟩ : W2.cell? ⟨q, 0, none⟩ = some (.string ⟨#[]⟩) ∧ W2.cell? ⟨q, 1, none⟩ = some (.slice none 0 0) ∧ W2.cell? ⟨q, 2, none⟩ = some (.int .i8 0) ∧ W2.cell? ⟨q, 3, none⟩ = some (.nilFunc) := ⟨by simp [World.cell?, g2], by simp [World.cell?, g2], by simp [World.cell?, g2], by simp [World.cell?, g2]⟩
  obtain ⟨f0, f1, f2, f3⟩ : W2.frozen? ⟨q, 0, none⟩ = false ∧ W2.frozen? ⟨q, 1, none⟩ = false ∧ W2.frozen? ⟨q, 2, none⟩ = false ∧ W2.frozen? ⟨q, 3, none⟩ = false := ⟨by simp [World.frozen?, g2], by simp [World.frozen?, g2], by simp [World.frozen?, g2], by simp [World.frozen?, g2]⟩
  have HU2 : Hid (Up w W2) := by unfold Hid; rw [hW2]; exact HU.out.alloc _
  have HQ : Hid (w.heap.size ≤ q) := by unfold Hid; omega
  have HG2 : Hid _ := g2
  clear g0 g1 g2 hW2 hp hq hl0 HU HLK HB
  go_region_held3 (fun W' => W'.cell? ⟨p, 0, none⟩ = some (.int .i64 (k : Int)) ∧ W'.cell? ⟨p, 1, none⟩ = some (.string a0) ∧ W'.cell? ⟨p, 2, none⟩ = some (.slice (some ⟨b + k, 0, none⟩) a1 a1) ∧ W'.cell? ⟨p, 3, none⟩ = some (.int .i8 a2) ∧ W'.cell? ⟨p, 4, none⟩ = some (.func (.func a3) #[] #[])) (go_keep) (fail)
  go_wp2_with fail
  refine bodyPost_ret (v := .tuple #[.int .i64 (k : Int), .agg #[.string a0, .slice (some ⟨b + k, 0, none⟩) a1 a1, .int .i8 a2, .func (.func a3) #[] #[]], .bool true]) (res_f (p := 5) (q := 4) (r := 6) (ty := 55) rfl _ _ q 55 _ (0, 0) _ _ _ rfl rfl rfl (set_four HG2.out) Tryd.underlying55 rfl infoSg) rfl ?_
  rw [HPo.out]
  exact ⟨HRE.out, ((((HU2.out.setc HQ.out _ _).setc HQ.out _ _).setc HQ.out _ _).setc HQ.out _ _).drew⟩
theorem find_ (b : Nat) (l : List Sg) (s : ByteArray) (w : World) (h : SL w b l) (hn : l.length ≤ 100) (hd : Nd l) : Calls Tryd.prog 60 #[.slice (some ⟨b + l.length, 0, none⟩) l.length l.length, .string s] w fun e w' => FdB b l s e ∧ Up w w' := by
  cases hf : fnd l s with
  | none => exact find_none b l s w h hn hd hf
  | some k => exact find_some b l s k w h hn hd hf
end KD
end Go.Proofs.YtifabdnjdadkbaaDoor
