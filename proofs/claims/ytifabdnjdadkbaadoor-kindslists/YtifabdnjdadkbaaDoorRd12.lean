
/-
  The document's Find.
-/
import Derived.Test.YtifabdnjdadkbaaDoorRw12
namespace Go.Proofs.YtifabdnjdadkbaaDoor
open Go.RowKit
attribute [local go_sem ↓] Go.wp_at_zero Go.wp_at_succ
namespace KD
theorem infoRs : (Tryd.prog.info? 57).map (·.size) = some 3 := by kernel_rfl
theorem set_three {W : World} {q : Nat} {a b c a' b' c' : Value} {t : TypeId} (h : W.heap[q]? = some (.cells #[a, b, c] t (0, 0))) : (((W.setCell ⟨q, 0, none⟩ a').setCell ⟨q, 1, none⟩ b').setCell ⟨q, 2, none⟩ c').heap[q]? = some (.cells #[a', b', c'] t (0, 0)) := by
  simp only [World.setCell, Array.getElem?_modify]; rw [h]; simp
theorem fnd_first {l : List Sg} {s : ByteArray} {i : Nat} (hi : i < l.length) (h : (l.getD i ds).name = s) (hb : ∀ j, j < i → (l.getD j ds).name ≠ s) : fnd l s = some i := by
  unfold fnd
  rw [List.findIdx?_eq_some_iff_getElem]
  refine ⟨hi, ?_, fun j hj => ?_⟩
  · rw [List.getD_eq_getElem?_getD, List.getElem?_eq_getElem hi] at h
    simpa using h
  · have h9 := hb j hj
    rw [List.getD_eq_getElem?_getD, List.getElem?_eq_getElem (by omega)] at h9
    simpa using h9
theorem fnd_not {l : List Sg} {s : ByteArray} (hb : ∀ j, j < l.length → (l.getD j ds).name ≠ s) : fnd l s = none := by
  unfold fnd
  rw [List.findIdx?_eq_none_iff]
  intro x hx
  obtain ⟨j, hj, rfl⟩ := List.getElem_of_mem hx
  have h9 := hb j hj
  rw [List.getD_eq_getElem?_getD, List.getElem?_eq_getElem hj] at h9
  simpa using h9
def FdQ (W : World) (l : List Sg) (s : ByteArray) (e : Ending) : Prop := match fnd l s with
  | none => e = .returned (.tuple #[.int .i64 0, .agg #[.string ⟨#[]⟩, .slice none 0 0, .int .i8 0], .bool false])
  | some k => ∃ g, e = .returned (.tuple #[.int .i64 k, .agg #[.string (l.getD k ds).name, .slice (some ⟨g, 0, none⟩) (l.getD k ds).args.length (l.getD k ds).args.length, .int .i8 (l.getD k ds).tell], .bool true]) ∧ W.heap[g]? = some (argO (l.getD k ds))
set_option maxRecDepth 100000 in
set_option maxHeartbeats 8000000 in
theorem rfind_ (k : Nat) (s : ByteArray) (w : World) (hk : k < 3) : Calls Tryd.prog 14 #[.int .i64 k, .string s] w fun e w' => FdQ w' (lst k) s e ∧ Up w w' := by
  obtain ⟨Post, hPost⟩ : ∃ P : Ending → World → Prop, P = fun e w' => FdQ w' (lst k) s e ∧ Up w w' := ⟨_, rfl⟩
  rw [← hPost]
  have HPo : Hid (Post = fun e w' => FdQ w' (lst k) s e ∧ Up w w') := hPost
  have HL : Hid (∀ W, Calls Tryd.prog 6 #[.int .i64 (k : Int)] W (LrR W k)) := fun W => rlist_ k W hk
  have HLN : Hid ((lst k).length ≤ 1000) := by
    match k, hk with
    | 0, _ => exact (by decide : fieldsL.length ≤ 1000)
    | 1, _ => exact (by decide : funcsL.length ≤ 1000)
    | 2, _ => exact (by decide : effectsL.length ≤ 1000)
  clear hPost hk
  go_enter Tryd.func14, Tryd.ntmps14
  go_wp2_with fail
  refine (HL.out _).mono ?_
  rintro r W1 ⟨b1, rfl, hrl, u1, hb1⟩
  have g0h := u1.heap (heap_alloc_new w (.cells #[.string ⟨#[]⟩, .slice none 0 0, .int .i8 0] 57))
  have HG : Hid (W1.heap[w.heap.size]? = some (.cells #[.string ⟨#[]⟩, .slice none 0 0, .int .i8 0] 57 (0, 0))) := g0h
  have HU : Hid (Up w W1) := ((Up.refl w).alloc _).trans u1
  have HR : Hid (RL W1 b1 (lst k)) := hrl
  have HB : Hid (w.heap.size < b1) := by simp at hb1; unfold Hid; omega
  obtain ⟨y0, y1, y2⟩ : W1.cell? ⟨w.heap.size, 0, none⟩ = some (.string ⟨#[]⟩) ∧ W1.cell? ⟨w.heap.size, 1, none⟩ = some (.slice none 0 0) ∧ W1.cell? ⟨w.heap.size, 2, none⟩ = some (.int .i8 0) := ⟨by simp [World.cell?, g0h], by simp [World.cell?, g0h], by simp [World.cell?, g0h]⟩
  obtain ⟨f0, f1, f2⟩ : W1.frozen? ⟨w.heap.size, 0, none⟩ = false ∧ W1.frozen? ⟨w.heap.size, 1, none⟩ = false ∧ W1.frozen? ⟨w.heap.size, 2, none⟩ = false := ⟨by simp [World.frozen?, g0h], by simp [World.frozen?, g0h], by simp [World.frozen?, g0h]⟩
  clear u1 hrl hb1 g0h HL
  obtain ⟨n, hn⟩ : ∃ n, n = (lst k).length := ⟨_, rfl⟩
  have HN : Hid (n = (lst k).length) := hn
  obtain ⟨g0, hg0⟩ : ∃ g, g = b1 + (lst k).length := ⟨_, rfl⟩
  have HG0 : Hid (g0 = b1 + (lst k).length) := hg0
  rw [← hg0, ← hn]
  have hne : ¬ w.heap.size = g0 := by have := HB.out; omega
  have hn2 : n ≤ 1000 := by rw [hn]; exact HLN.out
  clear hg0 hn
  go_wp2_with fail
  go_loopw [8] (fun s8 W => ∃ i : Nat, i ≤ n ∧ s8 = .int .i64 i ∧ (∀ j, j < i → ((lst k).getD j ds).name ≠ s) ∧ W = W1) (fun s8 _ => n - (intOf s8).toNat)
  case atStart => exact ⟨0, by omega, rfl, fun j hj => by omega, rfl⟩
  case round =>
    obtain ⟨i, hi, rfl, hj, rfl⟩ := hrel
    have HJ : Hid (∀ j, j < i → ((lst k).getD j ds).name ≠ s) := hj
    clear hj
    by_cases hlt : i < n
    · have hlt2 : (i : Int) < (n : Int) := by omega
      have HIL : Hid (i < (lst k).length) := by unfold Hid; rw [← HN.out]; exact hlt
      have ei : IntKind.i64.wrap ((i : Int) + 1) = ((i + 1 : Nat) : Int) := by rw [IntKind.wrap_i64]; omega
      have hrow := HR.out.row HIL.out
      rw [← HG0.out] at hrow
      obtain ⟨x0, x1, x2⟩ := hrow
      by_cases he : ((lst k).getD i ds).name = s
      · have HRE : Hid (∀ W, W.heap[b1 + i]? = some (argO ((lst k).getD i ds)) → FdQ W (lst k) s (.returned (.tuple #[.int .i64 (i : Int), .agg #[.string ((lst k).getD i ds).name, .slice (some ⟨b1 + i, 0, none⟩) ((lst k).getD i ds).args.length ((lst k).getD i ds).args.length, .int .i8 ((lst k).getD i ds).tell], .bool true]))) := fun W h9 => by
          unfold FdQ
          rw [fnd_first HIL.out he HJ.out]
          exact ⟨_, rfl, h9⟩
        have HA : Hid (wr.heap[b1 + i]? = some (argO ((lst k).getD i ds))) := HR.out.args HIL.out
        have HNE : Hid (b1 + i ≠ w.heap.size) := by have := HB.out; unfold Hid; omega
        rw [he] at x0 HRE
        generalize ((lst k).getD i ds).args.length = a1 at *
        generalize ((lst k).getD i ds).tell = a2 at *
        obtain ⟨a0, ha0⟩ : ∃ a, a = s := ⟨_, rfl⟩
        rw [← ha0] at x0 HRE
        have hs9 : (a0.toList == s.toList) = true := by rw [ha0]; exact beq_self_eq_true _
        clear HJ he
        go_wp2_with fail
        go_region_held3 (fun W' => W'.cell? ⟨g0, i * 3, none⟩ = some (.string a0) ∧ W'.cell? ⟨g0, i * 3 + 1, none⟩ = some (.slice (some ⟨b1 + i, 0, none⟩) a1 a1) ∧ W'.cell? ⟨g0, i * 3 + 2, none⟩ = some (.int .i8 a2)) (go_keep) (fail)
        go_wp2_with fail
        refine bodyPost_ret (v := .tuple #[.int .i64 (i : Int), .agg #[.string s, .slice (some ⟨b1 + i, 0, none⟩) a1 a1, .int .i8 a2], .bool true]) (res_f (p := 5) (q := 4) (r := 6) (ty := 57) rfl _ _ w.heap.size 57 #[.string s, .slice (some ⟨b1 + i, 0, none⟩) a1 a1, .int .i8 a2] (0, 0) _ _ _ rfl rfl rfl (set_three HG.out) Tryd.underlying57 rfl infoRs) rfl ?_
        rw [HPo.out]
        rw [ha0] at HRE
        refine ⟨HRE.out _ ?_, (((HU.out.setc (Nat.le_refl _) _ _).setc (Nat.le_refl _) _ _).setc (Nat.le_refl _) _ _).drew⟩
        show (((wr.setCell ⟨w.heap.size, 0, none⟩ (.string s)).setCell ⟨w.heap.size, 1, none⟩ (.slice (some ⟨b1 + i, 0, none⟩) a1 a1)).setCell ⟨w.heap.size, 2, none⟩ (.int .i8 a2)).heap[b1 + i]? = _
        rw [Below.heap_setCell _ _ _ _ HNE.out, Below.heap_setCell _ _ _ _ HNE.out, Below.heap_setCell _ _ _ _ HNE.out]
        exact HA.out
      · have HJ3 : Hid (∀ j, j < i + 1 → ((lst k).getD j ds).name ≠ s) := fun j hj => by
          by_cases e : j = i
          · subst e; exact he
          · exact HJ.out j (by omega)
        have he2 := bytes_ne he
        generalize ((lst k).getD i ds).name = y at *
        go_wp2_with fail
        go_roundw
        case rel => exact ⟨i + 1, by omega, by go_num, HJ3.out, by trivial⟩
        case measure => simp [intOf]; omega
    · have hlt2 : ¬ (i : Int) < (n : Int) := by omega
      have HRE : Hid (∀ W, FdQ W (lst k) s (.returned (.tuple #[.int .i64 0, .agg #[.string ⟨#[]⟩, .slice none 0 0, .int .i8 0], .bool false]))) := fun W => by
        unfold FdQ
        rw [fnd_not (fun j hj => HJ.out j (by have := HN.out; omega))]
      clear HJ
      go_wp2_with fail
      refine bodyPost_ret (v := .tuple #[.int .i64 0, .agg #[.string ⟨#[]⟩, .slice none 0 0, .int .i8 0], .bool false]) (res_f (p := 5) (q := 4) (r := 6) (ty := 57) rfl _ _ w.heap.size 57 _ (0, 0) _ _ _ rfl rfl rfl (set_three HG.out) Tryd.underlying57 rfl infoRs) rfl ?_
      rw [HPo.out]
      exact ⟨HRE.out _, ((HU.out.setc (Nat.le_refl _) _ _).setc (Nat.le_refl _) _ _).setc (Nat.le_refl _) _ _⟩
end KD
end Go.Proofs.YtifabdnjdadkbaaDoor
