
/-
  The document's List, Find, Event, Zone, Word.
-/
import Derived.Test.YtifabdnjdadkbaaDoorSn12
namespace Go.Proofs.YtifabdnjdadkbaaDoor
open Go.RowKit
attribute [local go_sem ↓] Go.wp_at_zero Go.wp_at_succ
namespace KD
def LrR (W : World) (k : Nat) (e : Ending) (w' : World) : Prop := ∃ b, e = .returned (.slice (some ⟨b + (lst k).length, 0, none⟩) (lst k).length (lst k).length) ∧ RL w' b (lst k) ∧ Up W w' ∧ W.heap.size ≤ b
theorem rlst_0 (W : World) : Calls Tryd.prog 11 #[] W (LrR W 0) := (rfields_ W).mono fun e w' ⟨h1, h2⟩ => ⟨_, h1, by rw [h2]; exact rl_objs W fieldsL, by rw [h2]; exact allocs_up _ _, Nat.le_refl _⟩
theorem rlst_1 (W : World) : Calls Tryd.prog 23 #[] W (LrR W 1) := (rfuncs_ W).mono fun e w' ⟨h1, h2⟩ => ⟨_, h1, by rw [h2]; exact rl_objs W funcsL, by rw [h2]; exact allocs_up _ _, Nat.le_refl _⟩
theorem rlst_2 (W : World) : Calls Tryd.prog 24 #[] W (LrR W 2) := (reffects_ W).mono fun e w' ⟨h1, h2⟩ => ⟨_, h1, by rw [h2]; exact rl_objs W effectsL, by rw [h2]; exact allocs_up _ _, Nat.le_refl _⟩
set_option maxRecDepth 100000 in
set_option maxHeartbeats 8000000 in
theorem rlist_ (k : Nat) (w : World) (hk : k < 3) : Calls Tryd.prog 6 #[.int .i64 k] w (LrR w k) := by
  obtain ⟨Post, hPost⟩ : ∃ P : Ending → World → Prop, P = LrR w k := ⟨_, rfl⟩
  rw [← hPost]
  have HP : Hid (∀ e W, LrR w k e W → Post e W) := fun e W h => by rw [hPost]; exact h
  clear hPost
  match k, hk with
  | 0, _ =>
    have H := rlst_0 w
    go_enter Tryd.func6, Tryd.ntmps6
    go_wp2_with fail
    refine H.mono ?_
    intro r W1 h1
    have h2 := HP.out _ _ h1
    obtain ⟨b, rfl, -⟩ := h1
    go_wp2_with fail
    exact h2
  | 1, _ =>
    have H := rlst_1 w
    go_enter Tryd.func6, Tryd.ntmps6
    go_wp2_with fail
    refine H.mono ?_
    intro r W1 h1
    have h2 := HP.out _ _ h1
    obtain ⟨b, rfl, -⟩ := h1
    go_wp2_with fail
    exact h2
  | 2, _ =>
    have H := rlst_2 w
    go_enter Tryd.func6, Tryd.ntmps6
    go_wp2_with fail
    refine H.mono ?_
    intro r W1 h1
    have h2 := HP.out _ _ h1
    obtain ⟨b, rfl, -⟩ := h1
    go_wp2_with fail
    exact h2
/- a list of texts in block g -/
def TX (W : World) (g : Nat) (l : List ByteArray) : Prop := ∀ j, j < l.length → W.cell? ⟨g, j, none⟩ = some (.string (l.getD j ⟨#[]⟩))
def pos (l : List ByteArray) (s : ByteArray) : Option Nat := l.findIdx? fun x => decide (x = s)
theorem tx_new (w : World) (l : List ByteArray) : TX (w.alloc (.cells (l.map Value.string).toArray 9)) w.heap.size l := fun j hj => by
  have h9 := heap_alloc_new w (.cells (l.map Value.string).toArray 9)
  simp only [World.cell?]
  rw [h9]
  simp [List.getD_eq_getElem?_getD, List.getElem?_eq_getElem hj]
theorem TX.up {W W' : World} {g : Nat} {l : List ByteArray} (h : TX W g l) (u : Up W W') : TX W' g l := fun j hj => u.cell (h j hj)
theorem bytes_ne {a b : ByteArray} (h : a ≠ b) : (a.toList == b.toList) = false := by
  rw [beq_eq_false_iff_ne]
  intro e
  rw [ByteArray.toList_eq, ByteArray.toList_eq] at e
  exact h (ByteArray.ext (Array.toList_inj.1 e))
theorem pos_some {l : List ByteArray} {s : ByteArray} {i : Nat} (hi : i < l.length) (h : l.getD i ⟨#[]⟩ = s) (hb : ∀ j, j < i → l.getD j ⟨#[]⟩ ≠ s) : pos l s = some i := by
  unfold pos
  rw [List.findIdx?_eq_some_iff_getElem]
  refine ⟨hi, ?_, fun j hj => ?_⟩
  · rw [List.getD_eq_getElem?_getD, List.getElem?_eq_getElem hi] at h
    simpa using h
  · have h9 := hb j hj
    rw [List.getD_eq_getElem?_getD, List.getElem?_eq_getElem (by omega)] at h9
    simpa using h9
theorem pos_none {l : List ByteArray} {s : ByteArray} (hb : ∀ j, j < l.length → l.getD j ⟨#[]⟩ ≠ s) : pos l s = none := by
  unfold pos
  rw [List.findIdx?_eq_none_iff]
  intro x hx
  obtain ⟨j, hj, rfl⟩ := List.getElem_of_mem hx
  have h9 := hb j hj
  rw [List.getD_eq_getElem?_getD, List.getElem?_eq_getElem hj] at h9
  simpa using h9
set_option maxRecDepth 100000 in
set_option maxHeartbeats 8000000 in
theorem place_ (g : Nat) (l : List ByteArray) (s : ByteArray) (w : World) (h : TX w g l) (hl : l.length ≤ 1000) : Calls Tryd.prog 54 #[.slice (some ⟨g, 0, none⟩) l.length l.length, .string s] w fun e w' => e = .returned (.tuple #[.int .i64 (((pos l s).getD 0 : Nat) : Int), .bool (pos l s).isSome]) ∧ w' = w := by
  obtain ⟨Post, hPost⟩ : ∃ P : Ending → World → Prop, P = fun e w' => e = .returned (.tuple #[.int .i64 (((pos l s).getD 0 : Nat) : Int), .bool (pos l s).isSome]) ∧ w' = w := ⟨_, rfl⟩
  rw [← hPost]
  have HS : Hid (∀ i, i < l.length → l.getD i ⟨#[]⟩ = s → (∀ j, j < i → l.getD j ⟨#[]⟩ ≠ s) → Post (.returned (.tuple #[.int .i64 (i : Int), .bool true])) w) := fun i hi h1 h2 => by rw [hPost, pos_some hi h1 h2]; exact ⟨rfl, rfl⟩
  have HN : Hid ((∀ j, j < l.length → l.getD j ⟨#[]⟩ ≠ s) → Post (.returned (.tuple #[.int .i64 0, .bool false])) w) := fun h1 => by rw [hPost, pos_none h1]; exact ⟨rfl, rfl⟩
  have HT : Hid (TX w g l) := h
  clear hPost h
  obtain ⟨n, hn⟩ : ∃ n, n = l.length := ⟨_, rfl⟩
  have HE : Hid (n = l.length) := hn
  rw [← hn] at HS HN hl ⊢
  clear hn
  go_enter Tryd.func54, Tryd.ntmps54
  go_wp2_with fail
  go_loopw [6] (fun s6 W => ∃ i : Nat, i ≤ n ∧ s6 = .int .i64 i ∧ (∀ j, j < i → l.getD j ⟨#[]⟩ ≠ s) ∧ W = w) (fun s6 _ => n - (intOf s6).toNat)
  case atStart => exact ⟨0, by omega, rfl, fun j hj => by omega, rfl⟩
  case round =>
    obtain ⟨i, hi, rfl, hj, rfl⟩ := hrel
    have HJ : Hid (∀ j, j < i → l.getD j ⟨#[]⟩ ≠ s) := hj
    clear hj
    by_cases hlt : i < n
    · have hlt2 : (i : Int) < (n : Int) := by omega
      have x0 := HT.out i (by rw [← HE.out]; exact hlt)
      have ei : IntKind.i64.wrap ((i : Int) + 1) = ((i + 1 : Nat) : Int) := by rw [IntKind.wrap_i64]; omega
      by_cases he : l.getD i ⟨#[]⟩ = s
      · have HQ := HS.out i hlt he HJ.out
        rw [he] at x0
        go_wp2_with fail
        exact HQ
      · have HJ3 : Hid (∀ j, j < i + 1 → l.getD j ⟨#[]⟩ ≠ s) := fun j hj => by
          by_cases e : j = i
          · subst e; exact he
          · exact HJ.out j (by omega)
        have he2 := bytes_ne he
        generalize l.getD i ⟨#[]⟩ = y at *
        go_wp2_with fail
        go_roundw
        case rel => exact ⟨i + 1, by omega, by go_num, HJ3.out, by trivial⟩
        case measure => simp [intOf]; omega
    · have hlt2 : ¬ (i : Int) < (n : Int) := by omega
      have HQ := HN.out (fun j hj => HJ.out j (by omega))
      go_wp2_with fail
      exact HQ
def evT : List ByteArray := [⟨#[112, 108, 97, 121]⟩, ⟨#[100, 105, 101]⟩, ⟨#[104, 105, 116]⟩, ⟨#[116, 117, 114, 110]⟩, ⟨#[100, 114, 97, 119]⟩]
theorem ev_pos (s : ByteArray) : (((pos evT s).getD 0 : Nat) : Int) = (lkI evI s).getD 0 ∧ (pos evT s).isSome = (lkI evI s).isSome := by
  by_cases h0 : (⟨#[112, 108, 97, 121]⟩ : ByteArray) = s
  · subst h0; exact ⟨by decide +kernel, by decide +kernel⟩
  by_cases h1 : (⟨#[100, 105, 101]⟩ : ByteArray) = s
  · subst h1; exact ⟨by decide +kernel, by decide +kernel⟩
  by_cases h2 : (⟨#[104, 105, 116]⟩ : ByteArray) = s
  · subst h2; exact ⟨by decide +kernel, by decide +kernel⟩
  by_cases h3 : (⟨#[116, 117, 114, 110]⟩ : ByteArray) = s
  · subst h3; exact ⟨by decide +kernel, by decide +kernel⟩
  by_cases h4 : (⟨#[100, 114, 97, 119]⟩ : ByteArray) = s
  · subst h4; exact ⟨by decide +kernel, by decide +kernel⟩
  simp [pos, lkI, evT, evI, List.findIdx?_cons, h0, h1, h2, h3, h4]
set_option maxRecDepth 100000 in
set_option maxHeartbeats 8000000 in
theorem revent_ (s : ByteArray) (w : World) : Calls Tryd.prog 16 #[.string s] w fun e w' => e = .returned (.tuple #[.int .i64 ((lkI evI s).getD 0), .bool (lkI evI s).isSome]) ∧ Up w w' := by
  rw [← (ev_pos s).1, ← (ev_pos s).2]
  obtain ⟨Post, hPost⟩ : ∃ P : Ending → World → Prop, P = fun e w' => e = .returned (.tuple #[.int .i64 (((pos evT s).getD 0 : Nat) : Int), .bool (pos evT s).isSome]) ∧ Up w w' := ⟨_, rfl⟩
  rw [← hPost]
  have HP : Hid (∀ W, Up w W → Post (.returned (.tuple #[.int .i64 (((pos evT s).getD 0 : Nat) : Int), .bool (pos evT s).isSome])) W) := fun W u => by rw [hPost]; exact ⟨rfl, u⟩
  clear hPost
  have HL : Hid (Calls Tryd.prog 54 #[.slice (some ⟨w.heap.size, 0, none⟩) 5 5, .string s] (w.alloc (.cells #[.string ⟨#[112, 108, 97, 121]⟩, .string ⟨#[100, 105, 101]⟩, .string ⟨#[104, 105, 116]⟩, .string ⟨#[116, 117, 114, 110]⟩, .string ⟨#[100, 114, 97, 119]⟩] 9)) fun e w' => e = .returned (.tuple #[.int .i64 (((pos evT s).getD 0 : Nat) : Int), .bool (pos evT s).isSome]) ∧ w' = w.alloc (.cells #[.string ⟨#[112, 108, 97, 121]⟩, .string ⟨#[100, 105, 101]⟩, .string ⟨#[104, 105, 116]⟩, .string ⟨#[116, 117, 114, 110]⟩, .string ⟨#[100, 114, 97, 119]⟩] 9)) := place_ w.heap.size evT s _ (tx_new w evT) (by decide)
  generalize (((pos evT s).getD 0 : Nat) : Int) = x at *
  generalize (pos evT s).isSome = y at *
  go_enter Tryd.func16, Tryd.ntmps16
  go_wp2_with fail
  refine HL.out.mono ?_
  rintro r W1 ⟨rfl, hw⟩
  have HU : Hid (Up w W1) := by unfold Hid; rw [hw]; exact (Up.refl w).alloc _
  clear hw HL
  go_wp2_with fail
  exact HP.out _ HU.out
def zoT : List ByteArray := [⟨#[100, 101, 99, 107]⟩, ⟨#[104, 97, 110, 100]⟩, ⟨#[98, 111, 97, 114, 100]⟩, ⟨#[103, 114, 97, 118, 101]⟩]
theorem zo_pos (s : ByteArray) : (((pos zoT s).getD 0 : Nat) : Int) = (lkI zoI s).getD 0 ∧ (pos zoT s).isSome = (lkI zoI s).isSome := by
  by_cases h0 : (⟨#[100, 101, 99, 107]⟩ : ByteArray) = s
  · subst h0; exact ⟨by decide +kernel, by decide +kernel⟩
  by_cases h1 : (⟨#[104, 97, 110, 100]⟩ : ByteArray) = s
  · subst h1; exact ⟨by decide +kernel, by decide +kernel⟩
  by_cases h2 : (⟨#[98, 111, 97, 114, 100]⟩ : ByteArray) = s
  · subst h2; exact ⟨by decide +kernel, by decide +kernel⟩
  by_cases h3 : (⟨#[103, 114, 97, 118, 101]⟩ : ByteArray) = s
  · subst h3; exact ⟨by decide +kernel, by decide +kernel⟩
  simp [pos, lkI, zoT, zoI, List.findIdx?_cons, h0, h1, h2, h3]
set_option maxRecDepth 100000 in
set_option maxHeartbeats 8000000 in
theorem rzone_ (s : ByteArray) (w : World) : Calls Tryd.prog 18 #[.string s] w fun e w' => e = .returned (.tuple #[.int .i64 ((lkI zoI s).getD 0), .bool (lkI zoI s).isSome]) ∧ Up w w' := by
  rw [← (zo_pos s).1, ← (zo_pos s).2]
  obtain ⟨Post, hPost⟩ : ∃ P : Ending → World → Prop, P = fun e w' => e = .returned (.tuple #[.int .i64 (((pos zoT s).getD 0 : Nat) : Int), .bool (pos zoT s).isSome]) ∧ Up w w' := ⟨_, rfl⟩
  rw [← hPost]
  have HP : Hid (∀ W, Up w W → Post (.returned (.tuple #[.int .i64 (((pos zoT s).getD 0 : Nat) : Int), .bool (pos zoT s).isSome])) W) := fun W u => by rw [hPost]; exact ⟨rfl, u⟩
  clear hPost
  have HL : Hid (Calls Tryd.prog 54 #[.slice (some ⟨w.heap.size, 0, none⟩) 4 4, .string s] (w.alloc (.cells #[.string ⟨#[100, 101, 99, 107]⟩, .string ⟨#[104, 97, 110, 100]⟩, .string ⟨#[98, 111, 97, 114, 100]⟩, .string ⟨#[103, 114, 97, 118, 101]⟩] 9)) fun e w' => e = .returned (.tuple #[.int .i64 (((pos zoT s).getD 0 : Nat) : Int), .bool (pos zoT s).isSome]) ∧ w' = w.alloc (.cells #[.string ⟨#[100, 101, 99, 107]⟩, .string ⟨#[104, 97, 110, 100]⟩, .string ⟨#[98, 111, 97, 114, 100]⟩, .string ⟨#[103, 114, 97, 118, 101]⟩] 9)) := place_ w.heap.size zoT s _ (tx_new w zoT) (by decide)
  generalize (((pos zoT s).getD 0 : Nat) : Int) = x at *
  generalize (pos zoT s).isSome = y at *
  go_enter Tryd.func18, Tryd.ntmps18
  go_wp2_with fail
  refine HL.out.mono ?_
  rintro r W1 ⟨rfl, hw⟩
  have HU : Hid (Up w W1) := by unfold Hid; rw [hw]; exact (Up.refl w).alloc _
  clear hw HL
  go_wp2_with fail
  exact HP.out _ HU.out
def woT : List ByteArray := [⟨#[99, 97, 114, 100]⟩, ⟨#[99, 111, 115, 116]⟩, ⟨#[112, 111, 119, 101, 114]⟩, ⟨#[104, 101, 97, 108, 116, 104]⟩, ⟨#[116, 97, 103]⟩, ⟨#[111, 110]⟩, ⟨#[119, 104, 101, 110]⟩, ⟨#[108, 101, 116]⟩, ⟨#[105, 102]⟩, ⟨#[101, 108, 115, 101]⟩, ⟨#[114, 101, 112, 101, 97, 116]⟩, ⟨#[97, 115]⟩, ⟨#[101, 97, 99, 104]⟩, ⟨#[105, 110]⟩, ⟨#[99, 104, 111, 111, 115, 101]⟩, ⟨#[115, 116, 111, 112]⟩, ⟨#[97, 98, 111, 114, 116]⟩, ⟨#[116, 114, 117, 101]⟩, ⟨#[102, 97, 108, 115, 101]⟩, ⟨#[115, 101, 108, 102]⟩, ⟨#[109, 101]⟩, ⟨#[100, 101, 99, 107]⟩, ⟨#[104, 97, 110, 100]⟩, ⟨#[98, 111, 97, 114, 100]⟩, ⟨#[103, 114, 97, 118, 101]⟩, ⟨#[112, 108, 97, 121]⟩, ⟨#[100, 105, 101]⟩, ⟨#[104, 105, 116]⟩, ⟨#[116, 117, 114, 110]⟩, ⟨#[100, 114, 97, 119]⟩]
theorem wo_wd (s : ByteArray) : (pos woT s).isSome = wd s := by
  have h1 : woT = wordsN.map fun x => ⟨x.toArray⟩ := by decide +kernel
  unfold pos wd
  rw [h1, List.findIdx?_isSome, List.any_map]
  congr 1
  funext x
  rw [Bool.eq_iff_iff]
  simp only [Function.comp_apply, decide_eq_true_eq, beq_iff_eq]
  rw [ByteArray.toList_eq]
  constructor
  · rintro rfl; simp
  · intro e; apply ByteArray.ext; simp [← e]
theorem rwords_ (w : World) : Calls Tryd.prog 61 #[] w fun e w' => e = .returned (.slice (some ⟨w.heap.size, 0, none⟩) 30 30) ∧ w' = w.alloc (.cells (woT.map Value.string).toArray 9) := by
  go_enter Tryd.func61, Tryd.ntmps61
  go_wp2
  go_ret
  exact ⟨rfl, rfl⟩
set_option maxRecDepth 100000 in
set_option maxHeartbeats 8000000 in
theorem r9word_ (s : ByteArray) (w : World) : Calls Tryd.prog 57 #[.string s] w fun e w' => e = .returned (.bool (wd s)) ∧ Up w w' := by
  rw [← wo_wd]
  obtain ⟨Post, hPost⟩ : ∃ P : Ending → World → Prop, P = fun e w' => e = .returned (.bool (pos woT s).isSome) ∧ Up w w' := ⟨_, rfl⟩
  rw [← hPost]
  obtain ⟨W0, hW0⟩ : ∃ W, w.alloc (.cells (woT.map Value.string).toArray 9) = W := ⟨_, rfl⟩
  have HU : Hid (Up w W0) := by unfold Hid; rw [← hW0]; exact (Up.refl _).alloc _
  have HS : Hid (∀ i, i < 30 → woT.getD i ⟨#[]⟩ = s → (∀ j, j < i → woT.getD j ⟨#[]⟩ ≠ s) → Post (.returned (.bool true)) W0) := fun i hi h1 h2 => by rw [hPost, pos_some (l := woT) hi h1 h2]; exact ⟨rfl, HU.out⟩
  have HN : Hid ((∀ j, j < 30 → woT.getD j ⟨#[]⟩ ≠ s) → Post (.returned (.bool false)) W0) := fun h1 => by rw [hPost, pos_none (l := woT) h1]; exact ⟨rfl, HU.out⟩
  have HT : Hid (TX W0 w.heap.size woT) := by unfold Hid; rw [← hW0]; exact tx_new w woT
  have HM : Hid (Calls Tryd.prog 61 #[] w fun e w' => e = .returned (.slice (some ⟨w.heap.size, 0, none⟩) 30 30) ∧ w' = W0) := by rw [← hW0]; exact rwords_ w
  clear hPost hW0
  go_enter Tryd.func57, Tryd.ntmps57
  go_wp2_with fail
  refine HM.out.mono ?_
  rintro r W1 ⟨rfl, hw⟩
  obtain rfl := hw.symm
  clear hw HM
  go_wp2_with fail
  go_loopw [4] (fun s4 W => ∃ i : Nat, i ≤ 30 ∧ s4 = .int .i64 i ∧ (∀ j, j < i → woT.getD j ⟨#[]⟩ ≠ s) ∧ W = W0) (fun s4 _ => 30 - (intOf s4).toNat)
  case atStart => exact ⟨0, by omega, rfl, fun j hj => by omega, rfl⟩
  case round =>
    obtain ⟨i, hi, rfl, hj, rfl⟩ := hrel
    have HJ : Hid (∀ j, j < i → woT.getD j ⟨#[]⟩ ≠ s) := hj
    clear hj
    by_cases hlt : i < 30
    · have hlt2 : (i : Int) < 30 := by omega
      have x0 := HT.out i hlt
      have ei : IntKind.i64.wrap ((i : Int) + 1) = ((i + 1 : Nat) : Int) := by rw [IntKind.wrap_i64]; omega
      by_cases he : woT.getD i ⟨#[]⟩ = s
      · have HQ := HS.out i hlt he HJ.out
        rw [he] at x0
        go_wp2_with fail
        exact HQ
      · have HJ3 : Hid (∀ j, j < i + 1 → woT.getD j ⟨#[]⟩ ≠ s) := fun j hj => by
          by_cases e : j = i
          · subst e; exact he
          · exact HJ.out j (by omega)
        have he2 := bytes_ne he
        generalize woT.getD i ⟨#[]⟩ = y at *
        go_wp2_with fail
        go_roundw
        case rel => exact ⟨i + 1, by omega, by go_num, HJ3.out, by trivial⟩
        case measure => simp [intOf]; omega
    · have hlt2 : ¬ (i : Int) < 30 := by omega
      have HQ := HN.out (fun j hj => HJ.out j (by omega))
      go_wp2_with fail
      exact HQ
theorem r12word_ (s : ByteArray) (w : World) : Calls Tryd.prog 20 #[.string s] w fun e w' => e = .returned (.bool (wd s)) ∧ Up w w' := by
  have H := r9word_ s w
  generalize wd s = x at *
  go_enter Tryd.func20, Tryd.ntmps20
  go_wp2_with fail
  refine H.mono ?_
  rintro r W1 ⟨rfl, u⟩
  go_wp2_with fail
  go_ret
  exact ⟨rfl, u⟩
end KD
end Go.Proofs.YtifabdnjdadkbaaDoor
