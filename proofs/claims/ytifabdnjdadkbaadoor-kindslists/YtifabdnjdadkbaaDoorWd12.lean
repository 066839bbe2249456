
/-
  Words, events, zones; what a sign costs.
-/
import Derived.Test.YtifabdnjdadkbaaDoorFi12
namespace Go.Proofs.YtifabdnjdadkbaaDoor
open Go.RowKit
attribute [local go_sem ↓] Go.wp_at_zero Go.wp_at_succ
namespace KD
def gcost (b : Bool) (z : Int) : Int := if b then (if z < 0 then 1 else if 4611686018427387903 < z then 4611686018427387904 else 1 + z) else 1
theorem one_ (z : Int) (w : World) : Calls Tryd.prog 27 #[.int .i64 z] w fun e w' => e = .returned (.int .i64 1) ∧ w' = w := by
  go_enter Tryd.func27, Tryd.ntmps27
  go_wp2_with fail
  go_ret
  exact ⟨rfl, rfl⟩
theorem each_ (z : Int) (w : World) : Calls Tryd.prog 28 #[.int .i64 z] w fun e w' => e = .returned (.int .i64 (gcost true z)) ∧ w' = w := by
  by_cases h0 : z < 0
  · have e1 : gcost true z = 1 := by simp [gcost, h0]
    have h1 : ¬ (4611686018427387903 : Int) < 0 := by decide
    rw [e1]
    go_enter Tryd.func28, Tryd.ntmps28
    go_wp2_with fail
    all_goals first | (exfalso; simp_all; omega) | (go_ret; exact ⟨rfl, rfl⟩)
  · by_cases h2 : 4611686018427387903 < z
    · have e1 : gcost true z = 4611686018427387904 := by simp [gcost, h0, h2]
      rw [e1]
      go_enter Tryd.func28, Tryd.ntmps28
      go_wp2_with fail
      all_goals first | (exfalso; simp_all; omega) | (go_ret; exact ⟨rfl, rfl⟩)
    · have e1 : gcost true z = 1 + z := by simp [gcost, h0, h2]
      rw [e1]
      go_enter Tryd.func28, Tryd.ntmps28
      go_wp2_with fail
      all_goals first | (exfalso; simp_all; omega) | (go_ret; exact ⟨rfl, rfl⟩)
theorem gas_ (b : Bool) (z : Int) (w : World) : Calls Tryd.prog (gi b) #[.int .i64 z] w fun e w' => e = .returned (.int .i64 (gcost b z)) ∧ w' = w := by
  cases b with
  | true => exact each_ z w
  | false => exact one_ z w
def wordsN : List (List UInt8) := [[99, 97, 114, 100], [99, 111, 115, 116], [112, 111, 119, 101, 114], [104, 101, 97, 108, 116, 104], [116, 97, 103], [111, 110], [119, 104, 101, 110], [108, 101, 116], [105, 102], [101, 108, 115, 101], [114, 101, 112, 101, 97, 116], [97, 115], [101, 97, 99, 104], [105, 110], [99, 104, 111, 111, 115, 101], [115, 116, 111, 112], [97, 98, 111, 114, 116], [116, 114, 117, 101], [102, 97, 108, 115, 101], [115, 101, 108, 102], [109, 101], [100, 101, 99, 107], [104, 97, 110, 100], [98, 111, 97, 114, 100], [103, 114, 97, 118, 101], [112, 108, 97, 121], [100, 105, 101], [104, 105, 116], [116, 117, 114, 110], [100, 114, 97, 119]]
def wd (s : ByteArray) : Bool := wordsN.any fun x => s.toList == x
set_option maxRecDepth 100000 in
set_option maxHeartbeats 8000000 in
theorem rword_ (s : ByteArray) (w : World) : Calls Tryd.prog 56 #[.string s] w fun e w' => e = .returned (.bool (wd s)) ∧ w' = w := by
  obtain ⟨Post, hPost⟩ : ∃ P : Ending → World → Prop, P = fun e w' => e = .returned (.bool (wd s)) ∧ w' = w := ⟨_, rfl⟩
  rw [← hPost]
  have HT : Hid (wd s = true → Post (.returned (.bool true)) w) := fun h => by rw [hPost, h]; exact ⟨rfl, rfl⟩
  have HF : Hid (wd s = false → Post (.returned (.bool false)) w) := fun h => by rw [hPost, h]; exact ⟨rfl, rfl⟩
  clear hPost
  go_enter Tryd.func56, Tryd.ntmps56
  go_wp2_with fail
  all_goals
    first
      | (exfalso; simp_all; done)
      | (refine HT.out ?_; simp only [wd, wordsN, List.any_cons, *, Bool.true_or, Bool.or_true]; done)
      | (refine HF.out ?_; simp only [wd, wordsN, List.any_cons, List.any_nil, *, Bool.or_false]; done)
theorem word_ (s : ByteArray) (w : World) : Calls Tryd.prog 19 #[.string s] w fun e w' => e = .returned (.bool (wd s)) ∧ w' = w := by
  have H := rword_ s w
  generalize wd s = x at *
  go_enter Tryd.func19, Tryd.ntmps19
  go_wp2_with fail
  refine H.mono ?_
  rintro r W1 ⟨rfl, hw⟩
  obtain rfl := hw.symm
  go_wp2_with fail
  go_ret
  exact ⟨rfl, rfl⟩
def evI : List (ByteArray × Int) := [(⟨#[112, 108, 97, 121]⟩, 0), (⟨#[100, 105, 101]⟩, 1), (⟨#[104, 105, 116]⟩, 2), (⟨#[116, 117, 114, 110]⟩, 3), (⟨#[100, 114, 97, 119]⟩, 4)]
def zoI : List (ByteArray × Int) := [(⟨#[100, 101, 99, 107]⟩, 0), (⟨#[104, 97, 110, 100]⟩, 1), (⟨#[98, 111, 97, 114, 100]⟩, 2), (⟨#[103, 114, 97, 118, 101]⟩, 3)]
def lkI (l : List (ByteArray × Int)) (s : ByteArray) : Option Int := (l.find? (fun p => decide (p.1 = s))).map (·.2)
def evN : List (ByteArray × Value) := evI.map fun p => (p.1, .int .i64 p.2)
def zoN : List (ByteArray × Value) := zoI.map fun p => (p.1, .int .i64 p.2)
theorem lk_map (s : ByteArray) : ∀ l : List (ByteArray × Int), lk (l.map fun p => (p.1, Value.int .i64 p.2)) s = (lkI l s).map fun z => .int .i64 z
  | [] => rfl
  | p :: l => by
    have ih := lk_map s l
    unfold lk lkI at ih ⊢
    rw [List.map_cons, List.find?_cons, List.find?_cons]
    by_cases h : p.1 = s
    · rw [decide_eq_true h]; rfl
    · rw [decide_eq_false h]; exact ih
theorem zero3 (w : World) : (zeroValue 3).run Tryd.prog w = .ok (.int .i64 0) w := by kernel_rfl
set_option maxRecDepth 100000 in
set_option maxHeartbeats 8000000 in
theorem events_ (w : World) : Calls Tryd.prog 53 #[] w fun e w' => ∃ m, e = .returned (.map (some m)) ∧ MP w' m evN ∧ Up w w' := by
  have hmm := @run_makeMap Tryd.prog
  have h0 := mp_made w
  have u0 : Up w (w.alloc (.map #[] 0)) := (Up.refl w).alloc _
  obtain ⟨W0, hW0⟩ : ∃ W, W = w.alloc (.map #[] 0) := ⟨_, rfl⟩
  rw [← hW0] at h0 u0
  obtain ⟨W1, r0, h1, o0⟩ := run_upd (P := Tryd.prog) (l := []) Tryd.underlying74 Tryd.underlying9 h0 ⟨#[112, 108, 97, 121]⟩ (.int .i64 0) (by decide)
  have u1 := u0.only o0 (Nat.le_refl _)
  obtain ⟨W2, r1, h2, o1⟩ := run_upd (P := Tryd.prog) (l := [(⟨#[112, 108, 97, 121]⟩, .int .i64 0)]) Tryd.underlying74 Tryd.underlying9 h1 ⟨#[100, 105, 101]⟩ (.int .i64 1) (by decide)
  have u2 := u1.only o1 (Nat.le_refl _)
  obtain ⟨W3, r2, h3, o2⟩ := run_upd (P := Tryd.prog) (l := [(⟨#[112, 108, 97, 121]⟩, .int .i64 0), (⟨#[100, 105, 101]⟩, .int .i64 1)]) Tryd.underlying74 Tryd.underlying9 h2 ⟨#[104, 105, 116]⟩ (.int .i64 2) (by decide)
  have u3 := u2.only o2 (Nat.le_refl _)
  obtain ⟨W4, r3, h4, o3⟩ := run_upd (P := Tryd.prog) (l := [(⟨#[112, 108, 97, 121]⟩, .int .i64 0), (⟨#[100, 105, 101]⟩, .int .i64 1), (⟨#[104, 105, 116]⟩, .int .i64 2)]) Tryd.underlying74 Tryd.underlying9 h3 ⟨#[116, 117, 114, 110]⟩ (.int .i64 3) (by decide)
  have u4 := u3.only o3 (Nat.le_refl _)
  obtain ⟨W5, r4, h5, o4⟩ := run_upd (P := Tryd.prog) (l := [(⟨#[112, 108, 97, 121]⟩, .int .i64 0), (⟨#[100, 105, 101]⟩, .int .i64 1), (⟨#[104, 105, 116]⟩, .int .i64 2), (⟨#[116, 117, 114, 110]⟩, .int .i64 3)]) Tryd.underlying74 Tryd.underlying9 h4 ⟨#[100, 114, 97, 119]⟩ (.int .i64 4) (by decide)
  have u5 := u4.only o4 (Nat.le_refl _)
  have HE : Hid (MP W5 w.heap.size evN ∧ Up w W5) := ⟨h5, u5⟩
  rw [hW0] at r0
  clear h0 h1 h2 h3 h4 h5 u0 u1 u2 u3 u4 u5 o0 o1 o2 o3 o4 hW0
  go_enter Tryd.func53, Tryd.ntmps53
  go_wp2_with fail
  go_ret
  exact ⟨_, rfl, HE.out⟩
set_option maxRecDepth 100000 in
set_option maxHeartbeats 8000000 in
theorem event_ (s : ByteArray) (w : World) : Calls Tryd.prog 15 #[.string s] w fun e w' => e = .returned (.tuple #[.int .i64 ((lkI evI s).getD 0), .bool (lkI evI s).isSome]) ∧ Up w w' := by
  have HM : Hid (Calls Tryd.prog 53 #[] w fun e w' => ∃ m, e = .returned (.map (some m)) ∧ MP w' m evN ∧ Up w w') := events_ w
  have HLK : Hid (∀ W m, MP W m evN → (Instr.lookup 74 (.map (some m)) (.string s) true).run Tryd.prog W = .ok (.tuple #[.int .i64 ((lkI evI s).getD 0), .bool (lkI evI s).isSome]) W) := fun W m h => by
    have h9 := run_look (P := Tryd.prog) Tryd.underlying74 Tryd.underlying9 h s (zero3 W)
    rw [h9, evN, lk_map]
    cases lkI evI s <;> rfl
  generalize (lkI evI s).getD 0 = x at *
  generalize (lkI evI s).isSome = y at *
  obtain ⟨Post, hPost⟩ : ∃ P : Ending → World → Prop, P = fun e w' => e = .returned (.tuple #[.int .i64 x, .bool y]) ∧ Up w w' := ⟨_, rfl⟩
  rw [← hPost]
  have HP : Hid (∀ W, Up w W → Post (.returned (.tuple #[.int .i64 x, .bool y])) W) := fun W h => by rw [hPost]; exact ⟨rfl, h⟩
  clear hPost
  go_enter Tryd.func15, Tryd.ntmps15
  go_wp2_with fail
  refine HM.out.mono ?_
  rintro r W1 ⟨m, rfl, hm, u⟩
  have hlk := HLK.out W1 m hm
  go_wp2_with fail
  exact HP.out _ u
set_option maxRecDepth 100000 in
set_option maxHeartbeats 8000000 in
theorem zones_ (w : World) : Calls Tryd.prog 55 #[] w fun e w' => ∃ m, e = .returned (.map (some m)) ∧ MP w' m zoN ∧ Up w w' := by
  have hmm := @run_makeMap Tryd.prog
  have h0 := mp_made w
  have u0 : Up w (w.alloc (.map #[] 0)) := (Up.refl w).alloc _
  obtain ⟨W0, hW0⟩ : ∃ W, W = w.alloc (.map #[] 0) := ⟨_, rfl⟩
  rw [← hW0] at h0 u0
  obtain ⟨W1, r0, h1, o0⟩ := run_upd (P := Tryd.prog) (l := []) Tryd.underlying74 Tryd.underlying9 h0 ⟨#[100, 101, 99, 107]⟩ (.int .i64 0) (by decide)
  have u1 := u0.only o0 (Nat.le_refl _)
  obtain ⟨W2, r1, h2, o1⟩ := run_upd (P := Tryd.prog) (l := [(⟨#[100, 101, 99, 107]⟩, .int .i64 0)]) Tryd.underlying74 Tryd.underlying9 h1 ⟨#[104, 97, 110, 100]⟩ (.int .i64 1) (by decide)
  have u2 := u1.only o1 (Nat.le_refl _)
  obtain ⟨W3, r2, h3, o2⟩ := run_upd (P := Tryd.prog) (l := [(⟨#[100, 101, 99, 107]⟩, .int .i64 0), (⟨#[104, 97, 110, 100]⟩, .int .i64 1)]) Tryd.underlying74 Tryd.underlying9 h2 ⟨#[98, 111, 97, 114, 100]⟩ (.int .i64 2) (by decide)
  have u3 := u2.only o2 (Nat.le_refl _)
  obtain ⟨W4, r3, h4, o3⟩ := run_upd (P := Tryd.prog) (l := [(⟨#[100, 101, 99, 107]⟩, .int .i64 0), (⟨#[104, 97, 110, 100]⟩, .int .i64 1), (⟨#[98, 111, 97, 114, 100]⟩, .int .i64 2)]) Tryd.underlying74 Tryd.underlying9 h3 ⟨#[103, 114, 97, 118, 101]⟩ (.int .i64 3) (by decide)
  have u4 := u3.only o3 (Nat.le_refl _)
  have HE : Hid (MP W4 w.heap.size zoN ∧ Up w W4) := ⟨h4, u4⟩
  rw [hW0] at r0
  clear h0 h1 h2 h3 h4 u0 u1 u2 u3 u4 o0 o1 o2 o3 hW0
  go_enter Tryd.func55, Tryd.ntmps55
  go_wp2_with fail
  go_ret
  exact ⟨_, rfl, HE.out⟩
set_option maxRecDepth 100000 in
set_option maxHeartbeats 8000000 in
theorem zone_ (s : ByteArray) (w : World) : Calls Tryd.prog 17 #[.string s] w fun e w' => e = .returned (.tuple #[.int .i64 ((lkI zoI s).getD 0), .bool (lkI zoI s).isSome]) ∧ Up w w' := by
  have HM : Hid (Calls Tryd.prog 55 #[] w fun e w' => ∃ m, e = .returned (.map (some m)) ∧ MP w' m zoN ∧ Up w w') := zones_ w
  have HLK : Hid (∀ W m, MP W m zoN → (Instr.lookup 74 (.map (some m)) (.string s) true).run Tryd.prog W = .ok (.tuple #[.int .i64 ((lkI zoI s).getD 0), .bool (lkI zoI s).isSome]) W) := fun W m h => by
    have h9 := run_look (P := Tryd.prog) Tryd.underlying74 Tryd.underlying9 h s (zero3 W)
    rw [h9, zoN, lk_map]
    cases lkI zoI s <;> rfl
  generalize (lkI zoI s).getD 0 = x at *
  generalize (lkI zoI s).isSome = y at *
  obtain ⟨Post, hPost⟩ : ∃ P : Ending → World → Prop, P = fun e w' => e = .returned (.tuple #[.int .i64 x, .bool y]) ∧ Up w w' := ⟨_, rfl⟩
  rw [← hPost]
  have HP : Hid (∀ W, Up w W → Post (.returned (.tuple #[.int .i64 x, .bool y])) W) := fun W h => by rw [hPost]; exact ⟨rfl, h⟩
  clear hPost
  go_enter Tryd.func17, Tryd.ntmps17
  go_wp2_with fail
  refine HM.out.mono ?_
  rintro r W1 ⟨m, rfl, hm, u⟩
  have hlk := HLK.out W1 m hm
  go_wp2_with fail
  exact HP.out _ u
end KD
end Go.Proofs.YtifabdnjdadkbaaDoor
