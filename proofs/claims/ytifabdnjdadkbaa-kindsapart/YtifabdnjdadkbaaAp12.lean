
/-
  Words, functions, effects, events, zones: the law KindsApart.
-/
import Derived.Test.YtifabdnjdadkbaaLi12
namespace Go.Proofs.Ytifabdnjdadkbaa
open Go.RowKit
attribute [local go_sem ↓] Go.wp_at_zero Go.wp_at_succ
namespace KD
def evB (s : ByteArray) : Bool := (lkI evI s).isSome
def zoB (s : ByteArray) : Bool := (lkI zoI s).isSome
def fuB (s : ByteArray) : Bool := (fnd funcsL s).isSome
def efB (s : ByteArray) : Bool := (fnd effectsL s).isSome
def hit : ByteArray := ⟨#[104, 105, 116]⟩
def draw : ByteArray := ⟨#[100, 114, 97, 119]⟩
theorem of_toList {s : ByteArray} {l : List UInt8} (h : s.toList = l) : s = ⟨l.toArray⟩ := by
  rw [ByteArray.toList_eq] at h
  apply ByteArray.ext
  simp [← h]
/- all that the law asks, word by word -/
def apB (s : ByteArray) : Bool := !(evB s && zoB s) && !fuB s && (!efB s || s.toList == hit.toList || s.toList == draw.toList)
theorem ap_words : (wordsN.all fun x => apB ⟨x.toArray⟩) = true := by decide +kernel
theorem ev_word : (evI.all fun p => wd p.1) = true := by decide +kernel
theorem zo_word : (zoI.all fun p => wd p.1) = true := by decide +kernel
theorem lkI_in {l : List (ByteArray × Int)} {s : ByteArray} (h : (lkI l s).isSome = true) : ∃ p ∈ l, p.1 = s := by
  unfold lkI at h
  rw [Option.isSome_map, List.find?_isSome] at h
  obtain ⟨p, hp, h1⟩ := h
  exact ⟨p, hp, by simpa using h1⟩
theorem ev_wd {s : ByteArray} (h : wd s = false) : evB s = false := by
  cases h1 : evB s with
  | false => rfl
  | true =>
    obtain ⟨p, hp, rfl⟩ := lkI_in h1
    rw [List.all_eq_true.1 ev_word p hp] at h
    cases h
theorem zo_wd {s : ByteArray} (h : wd s = false) : zoB s = false := by
  cases h1 : zoB s with
  | false => rfl
  | true =>
    obtain ⟨p, hp, rfl⟩ := lkI_in h1
    rw [List.all_eq_true.1 zo_word p hp] at h
    cases h
theorem wd_ap {s : ByteArray} (h : wd s = true) : apB s = true := by
  unfold wd at h
  obtain ⟨x, hx, h1⟩ := List.any_eq_true.1 h
  rw [of_toList (by simpa using h1 : s.toList = x)]
  exact List.all_eq_true.1 ap_words x hx
/- what Func and Effect answer, of which only the last part counts -/
theorem func_b (s : ByteArray) (w : World) : Calls Try.prog 13 #[.string s] w fun e w' => ∃ (k : Int) (b : ByteArray) (c : Option Addr) (d : Nat) (f : Int) (y : Value), e = .returned (.tuple #[.int .i64 k, .agg #[.string b, .slice c d d, .int .i8 f, y], .bool (fuB s)]) ∧ y.oneCell' = true ∧ Up w w' := (func_ s w).mono fun e w' ⟨h1, h2⟩ => by
  unfold FdR at h1
  unfold fuB
  cases hf : fnd funcsL s with
  | none => rw [hf] at h1; exact ⟨0, _, _, _, 0, .nilFunc, h1, rfl, h2⟩
  | some k => rw [hf] at h1; obtain ⟨g, h1, _⟩ := h1; exact ⟨k, _, _, _, _, gas _, h1, rfl, h2⟩
theorem effect_b (s : ByteArray) (w : World) : Calls Try.prog 14 #[.string s] w fun e w' => ∃ (k : Int) (b : ByteArray) (c : Option Addr) (d : Nat) (f : Int) (y : Value), e = .returned (.tuple #[.int .i64 k, .agg #[.string b, .slice c d d, .int .i8 f, y], .bool (efB s)]) ∧ y.oneCell' = true ∧ Up w w' := (effect_ s w).mono fun e w' ⟨h1, h2⟩ => by
  unfold FdR at h1
  unfold efB
  cases hf : fnd effectsL s with
  | none => rw [hf] at h1; exact ⟨0, _, _, _, 0, .nilFunc, h1, rfl, h2⟩
  | some k => rw [hf] at h1; obtain ⟨g, h1, _⟩ := h1; exact ⟨k, _, _, _, _, gas _, h1, rfl, h2⟩
theorem ap_bool : ∀ ev zo fu ef h d : Bool, (!(ev && zo) && !fu && (!ef || h || d)) = true → (ev = false ∨ zo = false) ∧ fu = false ∧ (ef = false ∨ h = true ∨ h = false ∧ d = true) := by decide
set_option maxRecDepth 100000 in
set_option maxHeartbeats 8000000 in
theorem kapart (s : ByteArray) (w : World) : Calls Try.prog 5 #[.string s] w fun e w' => e = .returned (.bool true) ∧ Up w w' := by
  obtain ⟨Post, hPost⟩ : ∃ P : Ending → World → Prop, P = fun e w' => e = .returned (.bool true) ∧ Up w w' := ⟨_, rfl⟩
  rw [← hPost]
  have HP : Hid (∀ W, Up w W → Post (.returned (.bool true)) W) := fun W h => by rw [hPost]; exact ⟨rfl, h⟩
  clear hPost
  have H1 : Hid (Calls Try.prog 11 #[.string s] w fun e w' => ∃ i : Int, e = .returned (.tuple #[.int .i64 i, .bool (evB s)]) ∧ Up w w') := (event_ s w).mono fun e w' ⟨h1, h2⟩ => ⟨_, h1, h2⟩
  have H2 : Hid (∀ W, Calls Try.prog 12 #[.string s] W fun e w' => ∃ i : Int, e = .returned (.tuple #[.int .i64 i, .bool (zoB s)]) ∧ Up W w') := fun W => (zone_ s W).mono fun e w' ⟨h1, h2⟩ => ⟨_, h1, h2⟩
  have H3 : Hid (∀ W, Calls Try.prog 13 #[.string s] W fun e w' => ∃ (k : Int) (b : ByteArray) (c : Option Addr) (d : Nat) (f : Int) (y : Value), e = .returned (.tuple #[.int .i64 k, .agg #[.string b, .slice c d d, .int .i8 f, y], .bool (fuB s)]) ∧ y.oneCell' = true ∧ Up W w') := func_b s
  have H4 : Hid (∀ W, Calls Try.prog 14 #[.string s] W fun e w' => ∃ (k : Int) (b : ByteArray) (c : Option Addr) (d : Nat) (f : Int) (y : Value), e = .returned (.tuple #[.int .i64 k, .agg #[.string b, .slice c d d, .int .i8 f, y], .bool (efB s)]) ∧ y.oneCell' = true ∧ Up W w') := effect_b s
  have H5 : Hid (∀ W, Calls Try.prog 15 #[.string s] W fun e w' => e = .returned (.bool (wd s)) ∧ w' = W) := word_ s
  have HA : Hid (wd s = false → evB s = false ∧ zoB s = false) := fun h => ⟨ev_wd h, zo_wd h⟩
  have HB : Hid (wd s = true → (evB s = false ∨ zoB s = false) ∧ fuB s = false ∧ (efB s = false ∨ (s.toList == [104, 105, 116]) = true ∨ (s.toList == [104, 105, 116]) = false ∧ (s.toList == [100, 114, 97, 119]) = true)) := fun h => by
    have h9 := wd_ap h
    have e1 : hit.toList = [104, 105, 116] := by rw [ByteArray.toList_eq]; rfl
    have e2 : draw.toList = [100, 114, 97, 119] := by rw [ByteArray.toList_eq]; rfl
    unfold apB at h9
    rw [e1, e2] at h9
    exact ap_bool _ _ _ _ _ _ h9
  generalize evB s = ev at *
  generalize zoB s = zo at *
  generalize fuB s = fu at *
  generalize efB s = ef at *
  generalize wd s = wo at *
  go_enter Try.func5, Try.ntmps5
  go_wp2_with fail
  refine H1.out.mono ?_
  rintro r W1 ⟨i1, rfl, u1⟩
  have HU1 : Hid (Up w W1) := u1
  clear u1 H1
  go_wp2_with fail
  refine (H2.out _).mono ?_
  rintro r W2 ⟨i2, rfl, u2⟩
  have HU2 : Hid (Up w W2) := HU1.out.trans u2
  clear u2 H2 HU1
  go_wp2_with fail
  refine (H3.out _).mono ?_
  rintro r W3 ⟨k3, b3, c3, d3, f3, y3, rfl, hy3, u3⟩
  have HU3 : Hid (Up w W3) := HU2.out.trans u3
  have hst := fun (W : World) (a : Addr) (m : Mode) => run_store Try.prog W a y3 m hy3
  clear u3 H3 HU2 hy3
  go_wp2_with fail
  refine (H4.out _).mono ?_
  rintro r W4 ⟨k4, b4, c4, d4, f4, y4, rfl, hy4, u4⟩
  have HU4 : Hid (Up w W4) := (HU3.out.alloc _).trans u4
  have hst4 := fun (W : World) (a : Addr) (m : Mode) => run_store Try.prog W a y4 m hy4
  clear u4 H4 HU3 hy4 hst
  go_wp2_with fail
  refine (H5.out _).mono ?_
  rintro r W5 ⟨rfl, hw⟩
  have HU5 : Hid (Up w W5) := by unfold Hid; rw [hw]; exact HU4.out.alloc _
  have HLV : Hid (∀ W, Calls Try.prog 8 #[] W fun e w' => e = .returned (.bool true) ∧ Up W w') := lives_
  clear H5 HU4 hst4 hw
  cases wo with
  | false =>
    obtain ⟨rfl, rfl⟩ := HA.out rfl
    go_wp2_with fail
    refine (HLV.out _).mono ?_
    rintro r W6 ⟨rfl, u6⟩
    have HU6 : Hid (Up w W6) := HU5.out.trans u6
    clear u6
    go_wp2_with fail
    exact HP.out _ HU6.out
  | true =>
    obtain ⟨h1, rfl, h3⟩ := HB.out rfl
    rcases h3 with rfl | hh | ⟨hh, hd⟩
    · rcases h1 with rfl | rfl
      · cases zo with
        | false =>
          go_wp2_with fail
          refine (HLV.out _).mono ?_
          rintro r W6 ⟨rfl, u6⟩
          have HU6 : Hid (Up w W6) := HU5.out.trans u6
          clear u6
          go_wp2_with fail
          exact HP.out _ HU6.out
        | true =>
          go_wp2_with fail
          refine (HLV.out _).mono ?_
          rintro r W6 ⟨rfl, u6⟩
          have HU6 : Hid (Up w W6) := HU5.out.trans u6
          clear u6
          go_wp2_with fail
          exact HP.out _ HU6.out
      · cases ev with
        | false =>
          go_wp2_with fail
          refine (HLV.out _).mono ?_
          rintro r W6 ⟨rfl, u6⟩
          have HU6 : Hid (Up w W6) := HU5.out.trans u6
          clear u6
          go_wp2_with fail
          exact HP.out _ HU6.out
        | true =>
          go_wp2_with fail
          refine (HLV.out _).mono ?_
          rintro r W6 ⟨rfl, u6⟩
          have HU6 : Hid (Up w W6) := HU5.out.trans u6
          clear u6
          go_wp2_with fail
          exact HP.out _ HU6.out
    · cases ef with
      | false =>
        rcases h1 with rfl | rfl
        · cases zo with
          | false =>
            go_wp2_with fail
            refine (HLV.out _).mono ?_
            rintro r W6 ⟨rfl, u6⟩
            have HU6 : Hid (Up w W6) := HU5.out.trans u6
            clear u6
            go_wp2_with fail
            exact HP.out _ HU6.out
          | true =>
            go_wp2_with fail
            refine (HLV.out _).mono ?_
            rintro r W6 ⟨rfl, u6⟩
            have HU6 : Hid (Up w W6) := HU5.out.trans u6
            clear u6
            go_wp2_with fail
            exact HP.out _ HU6.out
        · cases ev with
          | false =>
            go_wp2_with fail
            refine (HLV.out _).mono ?_
            rintro r W6 ⟨rfl, u6⟩
            have HU6 : Hid (Up w W6) := HU5.out.trans u6
            clear u6
            go_wp2_with fail
            exact HP.out _ HU6.out
          | true =>
            go_wp2_with fail
            refine (HLV.out _).mono ?_
            rintro r W6 ⟨rfl, u6⟩
            have HU6 : Hid (Up w W6) := HU5.out.trans u6
            clear u6
            go_wp2_with fail
            exact HP.out _ HU6.out
      | true =>
        rcases h1 with rfl | rfl
        · cases zo with
          | false =>
            go_wp2_with fail
            refine (HLV.out _).mono ?_
            rintro r W6 ⟨rfl, u6⟩
            have HU6 : Hid (Up w W6) := HU5.out.trans u6
            clear u6
            go_wp2_with fail
            exact HP.out _ HU6.out
          | true =>
            go_wp2_with fail
            refine (HLV.out _).mono ?_
            rintro r W6 ⟨rfl, u6⟩
            have HU6 : Hid (Up w W6) := HU5.out.trans u6
            clear u6
            go_wp2_with fail
            exact HP.out _ HU6.out
        · cases ev with
          | false =>
            go_wp2_with fail
            refine (HLV.out _).mono ?_
            rintro r W6 ⟨rfl, u6⟩
            have HU6 : Hid (Up w W6) := HU5.out.trans u6
            clear u6
            go_wp2_with fail
            exact HP.out _ HU6.out
          | true =>
            go_wp2_with fail
            refine (HLV.out _).mono ?_
            rintro r W6 ⟨rfl, u6⟩
            have HU6 : Hid (Up w W6) := HU5.out.trans u6
            clear u6
            go_wp2_with fail
            exact HP.out _ HU6.out
    · cases ef with
      | false =>
        rcases h1 with rfl | rfl
        · cases zo with
          | false =>
            go_wp2_with fail
            refine (HLV.out _).mono ?_
            rintro r W6 ⟨rfl, u6⟩
            have HU6 : Hid (Up w W6) := HU5.out.trans u6
            clear u6
            go_wp2_with fail
            exact HP.out _ HU6.out
          | true =>
            go_wp2_with fail
            refine (HLV.out _).mono ?_
            rintro r W6 ⟨rfl, u6⟩
            have HU6 : Hid (Up w W6) := HU5.out.trans u6
            clear u6
            go_wp2_with fail
            exact HP.out _ HU6.out
        · cases ev with
          | false =>
            go_wp2_with fail
            refine (HLV.out _).mono ?_
            rintro r W6 ⟨rfl, u6⟩
            have HU6 : Hid (Up w W6) := HU5.out.trans u6
            clear u6
            go_wp2_with fail
            exact HP.out _ HU6.out
          | true =>
            go_wp2_with fail
            refine (HLV.out _).mono ?_
            rintro r W6 ⟨rfl, u6⟩
            have HU6 : Hid (Up w W6) := HU5.out.trans u6
            clear u6
            go_wp2_with fail
            exact HP.out _ HU6.out
      | true =>
        rcases h1 with rfl | rfl
        · cases zo with
          | false =>
            go_wp2_with fail
            refine (HLV.out _).mono ?_
            rintro r W6 ⟨rfl, u6⟩
            have HU6 : Hid (Up w W6) := HU5.out.trans u6
            clear u6
            go_wp2_with fail
            exact HP.out _ HU6.out
          | true =>
            go_wp2_with fail
            refine (HLV.out _).mono ?_
            rintro r W6 ⟨rfl, u6⟩
            have HU6 : Hid (Up w W6) := HU5.out.trans u6
            clear u6
            go_wp2_with fail
            exact HP.out _ HU6.out
        · cases ev with
          | false =>
            go_wp2_with fail
            refine (HLV.out _).mono ?_
            rintro r W6 ⟨rfl, u6⟩
            have HU6 : Hid (Up w W6) := HU5.out.trans u6
            clear u6
            go_wp2_with fail
            exact HP.out _ HU6.out
          | true =>
            go_wp2_with fail
            refine (HLV.out _).mono ?_
            rintro r W6 ⟨rfl, u6⟩
            have HU6 : Hid (Up w W6) := HU5.out.trans u6
            clear u6
            go_wp2_with fail
            exact HP.out _ HU6.out
end KD
end Go.Proofs.Ytifabdnjdadkbaa
