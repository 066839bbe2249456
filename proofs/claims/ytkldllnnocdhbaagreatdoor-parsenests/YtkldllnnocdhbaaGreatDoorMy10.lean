/-
  Which lists may be parsed.
-/
import Derived.Test.YtkldllnnocdhbaaGreatDoorTv8
import Derived.Test.YtkldllnnocdhbaaGreatDoorKt8
import Derived.Test.YtkldllnnocdhbaaGreatDoorBy8
namespace Go.Proofs.YtkldllnnocdhbaaGreatDoor
open Go.RowKit
attribute [local go_sem ↓] Go.wp_at_zero Go.wp_at_succ
namespace TK
set_option maxRecDepth 100000 in
set_option maxHeartbeats 8000000 in
theorem text8_ (k : Int) (l : List Int) (n p : Int) (w : World) (hl : Byt l) (hln : l.length ≤ 281474976710656) (hn0 : -9223372036854775808 ≤ n) (hn1 : n ≤ 9223372036854775807) (hT : TabP w) :
    Calls Tryz.prog 89 #[.agg #[.int .i8 k, .string (strOfNums l), .int .i64 n, .int .i64 p]] w fun e w' => e = .returned (.string (strOfNums (tex ⟨k, l, n, p⟩))) ∧ Up w w' := by
  obtain ⟨Post, hPost⟩ : ∃ P : Ending → World → Prop, P = fun e w' => e = .returned (.string (strOfNums (tex ⟨k, l, n, p⟩))) ∧ Up w w' := ⟨_, rfl⟩
  rw [← hPost]
  have HPo : Hid (Post = fun e w' => e = .returned (.string (strOfNums (tex ⟨k, l, n, p⟩))) ∧ Up w w') := hPost
  clear hPost
  have HT : Hid (TabP w) := hT
  have HIN : Hid (∀ W, Calls Tryz.prog 129 #[.string (strOfNums l)] W fun e w' => e = .returned (.bool (okN l)) ∧ Up W w') := fun W => isName_ l W hl hln
  have HIT : Hid (∀ W, Calls Tryz.prog 132 #[.string (strOfNums l)] W fun e w' => e = .returned (.bool (okT l)) ∧ Up W w') := fun W => isText_ l W hl hln
  have HIM : Hid (∀ W, Calls Tryz.prog 130 #[.string (strOfNums l)] W fun e w' => e = .returned (.bool (mrk l)) ∧ Up W w') := fun W => Calls.mono (isMark_ (strOfNums l) W) (fun e w' h => by
    obtain ⟨h1, h2⟩ := h
    subst h2
    exact ⟨by rw [h1, mrk_is hl], Up.refl _⟩)
  have HCL : Hid (∀ W, Calls Tryz.prog 131 #[.string (strOfNums l)] W fun e w' => e = .returned (.string (strOfNums l)) ∧ Up W w') := fun W => clone_ _ W (by rw [strOfNums_size]; exact hln)
  have HQU : Hid (okT l = true → ∀ W, Calls Tryz.prog 133 #[.string (strOfNums l)] W fun e w' => e = .returned (.string (strOfNums (quo l))) ∧ Up W w') := fun h9 W => quoted_ l W hl (by
    unfold okT at h9
    simp only [Bool.and_eq_true, decide_eq_true_eq] at h9
    exact h9.1)
  have hni : (strOfNums l).toList = [] ↔ l = [] := nums_nil
  have HXE : Hid (∀ e : Bool, e = (strOfNums l).toList.isEmpty → (e = true ↔ l = [])) := fun e h9 => by
    rw [h9, List.isEmpty_iff]
    exact hni
  have hte := HXE.out _ rfl
  obtain ⟨te, hte2⟩ : ∃ e, (strOfNums l).toList.isEmpty = e := ⟨_, rfl⟩
  rw [hte2] at hte
  have HLS : Hid (strOfNums [] = ⟨#[]⟩) := rfl
  obtain ⟨s, hs⟩ : ∃ s, strOfNums l = s := ⟨_, rfl⟩
  rw [hs] at HIN HIT HIM HCL HQU hte2 ⊢
  have HSS : Hid (strOfNums l = s) := hs
  obtain ⟨W0, hW0⟩ : ∃ W0, w.alloc (.cells #[.int .i8 k, .string s, .int .i64 n, .int .i64 p] 45) = W0 := ⟨_, rfl⟩
  have gB : W0.heap[w.heap.size]? = some (.cells #[.int .i8 k, .string s, .int .i64 n, .int .i64 p] 45 (0, 0)) := by rw [← hW0]; exact heap_alloc_new _ _
  have HU : Hid (Up w W0) := by unfold Hid; rw [← hW0]; exact (Up.refl _).alloc _
  have x0 : W0.cell? ⟨w.heap.size, 0, none⟩ = some (.int .i8 k) := by simp only [World.cell?, gB]; rfl
  have x1 : W0.cell? ⟨w.heap.size, 1, none⟩ = some (.string s) := by simp only [World.cell?, gB]; rfl
  have x2 : W0.cell? ⟨w.heap.size, 2, none⟩ = some (.int .i64 n) := by simp only [World.cell?, gB]; rfl
  have x3 : W0.cell? ⟨w.heap.size, 3, none⟩ = some (.int .i64 p) := by simp only [World.cell?, gB]; rfl
  clear hT hl hln hni HXE hs
  by_cases hp : p < 0
  · have HQ : Hid (tex ⟨k, l, n, p⟩ = []) := by unfold Hid tex; rw [if_pos (.inl hp)]
    go_enter Tryz.func89, Tryz.ntmps89
    go_wp2_with fail
    rw [HPo.out]
    exact ⟨by rw [HQ.out] <;> rfl, HU.out⟩
  · by_cases hn : n < 0
    · have HQ : Hid (tex ⟨k, l, n, p⟩ = []) := by unfold Hid tex; rw [if_pos (.inr hn)]
      go_enter Tryz.func89, Tryz.ntmps89
      go_wp2_with fail
      rw [HPo.out]
      exact ⟨by rw [HQ.out] <;> rfl, HU.out⟩
    · have HQ0 : Hid (tex ⟨k, l, n, p⟩ = if k = 2 ∧ l = [] then dcm n else if n ≠ 0 then [] else if (k = 1 ∧ okN l = true) ∨ (k = 4 ∧ mrk l = true) then l else if k = 3 ∧ okT l = true then quo l else []) := by
        unfold Hid tex
        rw [if_neg (fun h9 => by rcases h9 with h9 | h9 <;> contradiction)]
      by_cases hk2 : k = 2
      · subst hk2
        cases te with
        | true =>
          have HQ : Hid (tex ⟨2, l, n, p⟩ = dcm n) := by unfold Hid; rw [HQ0.out, if_pos ⟨rfl, hte.1 rfl⟩]
          have HFM : Hid (Calls Tryz.prog 128 #[.int .i64 n, .int .i64 10] W0 fun e w' => e = .returned (.string (strOfNums (dcm n))) ∧ Up W0 w') := fmt_ n hn0 hn1 W0 (HT.out.up HU.out)
          clear hte
          go_enter Tryz.func89, Tryz.ntmps89
          go_wp2_with fail
          first | refine calls_world hW0 (Calls.mono HFM.out ?_) | refine Calls.mono HFM.out ?_
          rintro r W1 ⟨rfl, u⟩
          have HU : Hid (Up w W1) := HU.out.trans u
          clear u
          go_wp2_with fail
          rw [HPo.out]
          exact ⟨by rw [HQ.out] <;> rfl, HU.out⟩
        | false =>
          have HQ : Hid (tex ⟨2, l, n, p⟩ = []) := by
            unfold Hid
            rw [HQ0.out, if_neg (fun h9 => by have := hte.2 h9.2; cases this)]
            by_cases hnz : n = 0
            · rw [if_neg (fun h9 => h9 hnz), if_neg (by omega), if_neg (by omega)]
            · rw [if_pos hnz]
          clear hte
          by_cases hnz : n = 0
          · subst hnz
            go_enter Tryz.func89, Tryz.ntmps89
            go_wp2_with fail
            rw [HPo.out]
            exact ⟨by rw [HQ.out] <;> rfl, HU.out⟩
          · have hnz2 : (n != 0) = true := by simpa using hnz
            go_enter Tryz.func89, Tryz.ntmps89
            go_wp2_with fail
            rw [HPo.out]
            exact ⟨by rw [HQ.out] <;> rfl, HU.out⟩
      · have hk2b : (k == 2) = false := by simpa using hk2
        by_cases hnz : n = 0
        · subst hnz
          have HQ1 : Hid (tex ⟨k, l, 0, p⟩ = if (k = 1 ∧ okN l = true) ∨ (k = 4 ∧ mrk l = true) then l else if k = 3 ∧ okT l = true then quo l else []) := by
            unfold Hid
            rw [HQ0.out, if_neg (fun h9 => hk2 h9.1), if_neg (fun h9 => h9 rfl)]
          clear HQ0 hte hn0 hn1
          by_cases hk1 : k = 1
          · subst hk1
            cases hok : okN l with
            | true =>
              have HQ : Hid (tex ⟨1, l, 0, p⟩ = l) := by unfold Hid; rw [HQ1.out, if_pos (.inl ⟨rfl, hok⟩)]
              rw [hok] at HIN
              clear hok
              go_enter Tryz.func89, Tryz.ntmps89
              go_wp2_with fail
              first | refine calls_world hW0 (Calls.mono (HIN.out _) ?_) | refine Calls.mono (HIN.out _) ?_
              rintro r W1 ⟨rfl, u⟩
              have HU : Hid (Up w W1) := HU.out.trans u
              have gB := u.heap gB
              have x0 : W1.cell? ⟨w.heap.size, 0, none⟩ = some (.int .i8 1) := by simp only [World.cell?, gB]; rfl
              have x1 : W1.cell? ⟨w.heap.size, 1, none⟩ = some (.string s) := by simp only [World.cell?, gB]; rfl
              have x2 : W1.cell? ⟨w.heap.size, 2, none⟩ = some (.int .i64 0) := by simp only [World.cell?, gB]; rfl
              clear u
              go_wp2_with fail
              refine Calls.mono (HCL.out _) ?_
              rintro r W2 ⟨rfl, u⟩
              have HU : Hid (Up w W2) := HU.out.trans u
              clear u
              go_wp2_with fail
              rw [HPo.out]
              exact ⟨by rw [HQ.out, HSS.out] <;> rfl, HU.out⟩
            | false =>
              have HQ : Hid (tex ⟨1, l, 0, p⟩ = []) := by unfold Hid; rw [HQ1.out, hok, if_neg (by simp), if_neg (by simp)]
              rw [hok] at HIN
              clear hok
              go_enter Tryz.func89, Tryz.ntmps89
              go_wp2_with fail
              first | refine calls_world hW0 (Calls.mono (HIN.out _) ?_) | refine Calls.mono (HIN.out _) ?_
              rintro r W1 ⟨rfl, u⟩
              have HU : Hid (Up w W1) := HU.out.trans u
              have gB := u.heap gB
              have x0 : W1.cell? ⟨w.heap.size, 0, none⟩ = some (.int .i8 1) := by simp only [World.cell?, gB]; rfl
              have x1 : W1.cell? ⟨w.heap.size, 1, none⟩ = some (.string s) := by simp only [World.cell?, gB]; rfl
              have x2 : W1.cell? ⟨w.heap.size, 2, none⟩ = some (.int .i64 0) := by simp only [World.cell?, gB]; rfl
              clear u
              go_wp2_with fail
              rw [HPo.out]
              exact ⟨by rw [HQ.out] <;> rfl, HU.out⟩
          · have hk1b : (k == 1) = false := by simpa using hk1
            by_cases hk4 : k = 4
            · subst hk4
              cases hok : mrk l with
              | true =>
                have HQ : Hid (tex ⟨4, l, 0, p⟩ = l) := by unfold Hid; rw [HQ1.out, if_pos (.inr ⟨rfl, hok⟩)]
                rw [hok] at HIM
                clear hok
                go_enter Tryz.func89, Tryz.ntmps89
                go_wp2_with fail
                first | refine calls_world hW0 (Calls.mono (HIM.out _) ?_) | refine Calls.mono (HIM.out _) ?_
                rintro r W1 ⟨rfl, u⟩
                have HU : Hid (Up w W1) := HU.out.trans u
                have gB := u.heap gB
                have x0 : W1.cell? ⟨w.heap.size, 0, none⟩ = some (.int .i8 4) := by simp only [World.cell?, gB]; rfl
                have x1 : W1.cell? ⟨w.heap.size, 1, none⟩ = some (.string s) := by simp only [World.cell?, gB]; rfl
                have x2 : W1.cell? ⟨w.heap.size, 2, none⟩ = some (.int .i64 0) := by simp only [World.cell?, gB]; rfl
                clear u
                go_wp2_with fail
                refine Calls.mono (HCL.out _) ?_
                rintro r W2 ⟨rfl, u⟩
                have HU : Hid (Up w W2) := HU.out.trans u
                clear u
                go_wp2_with fail
                rw [HPo.out]
                exact ⟨by rw [HQ.out, HSS.out] <;> rfl, HU.out⟩
              | false =>
                have HQ : Hid (tex ⟨4, l, 0, p⟩ = []) := by unfold Hid; rw [HQ1.out, hok, if_neg (by simp), if_neg (by simp)]
                rw [hok] at HIM
                clear hok
                go_enter Tryz.func89, Tryz.ntmps89
                go_wp2_with fail
                first | refine calls_world hW0 (Calls.mono (HIM.out _) ?_) | refine Calls.mono (HIM.out _) ?_
                rintro r W1 ⟨rfl, u⟩
                have HU : Hid (Up w W1) := HU.out.trans u
                have gB := u.heap gB
                have x0 : W1.cell? ⟨w.heap.size, 0, none⟩ = some (.int .i8 4) := by simp only [World.cell?, gB]; rfl
                have x1 : W1.cell? ⟨w.heap.size, 1, none⟩ = some (.string s) := by simp only [World.cell?, gB]; rfl
                have x2 : W1.cell? ⟨w.heap.size, 2, none⟩ = some (.int .i64 0) := by simp only [World.cell?, gB]; rfl
                clear u
                go_wp2_with fail
                rw [HPo.out]
                exact ⟨by rw [HQ.out] <;> rfl, HU.out⟩
            · have hk4b : (k == 4) = false := by simpa using hk4
              by_cases hk3 : k = 3
              · subst hk3
                cases hok : okT l with
                | true =>
                  have HQ : Hid (tex ⟨3, l, 0, p⟩ = quo l) := by unfold Hid; rw [HQ1.out, if_neg (by simp), if_pos ⟨rfl, hok⟩]
                  have HQ2 : Hid (∀ W, Calls Tryz.prog 133 #[.string s] W fun e w' => e = .returned (.string (strOfNums (quo l))) ∧ Up W w') := HQU.out hok
                  rw [hok] at HIT
                  clear hok HQU
                  go_enter Tryz.func89, Tryz.ntmps89
                  go_wp2_with fail
                  first | refine calls_world hW0 (Calls.mono (HIT.out _) ?_) | refine Calls.mono (HIT.out _) ?_
                  rintro r W1 ⟨rfl, u⟩
                  have HU : Hid (Up w W1) := HU.out.trans u
                  have gB := u.heap gB
                  have x0 : W1.cell? ⟨w.heap.size, 0, none⟩ = some (.int .i8 3) := by simp only [World.cell?, gB]; rfl
                  have x1 : W1.cell? ⟨w.heap.size, 1, none⟩ = some (.string s) := by simp only [World.cell?, gB]; rfl
                  have x2 : W1.cell? ⟨w.heap.size, 2, none⟩ = some (.int .i64 0) := by simp only [World.cell?, gB]; rfl
                  clear u
                  go_wp2_with fail
                  refine Calls.mono (HQ2.out _) ?_
                  rintro r W2 ⟨rfl, u⟩
                  have HU : Hid (Up w W2) := HU.out.trans u
                  clear u
                  go_wp2_with fail
                  rw [HPo.out]
                  exact ⟨by rw [HQ.out] <;> rfl, HU.out⟩
                | false =>
                  have HQ : Hid (tex ⟨3, l, 0, p⟩ = []) := by unfold Hid; rw [HQ1.out, hok, if_neg (by simp), if_neg (by simp)]
                  rw [hok] at HIT
                  clear hok
                  go_enter Tryz.func89, Tryz.ntmps89
                  go_wp2_with fail
                  first | refine calls_world hW0 (Calls.mono (HIT.out _) ?_) | refine Calls.mono (HIT.out _) ?_
                  rintro r W1 ⟨rfl, u⟩
                  have HU : Hid (Up w W1) := HU.out.trans u
                  have gB := u.heap gB
                  have x0 : W1.cell? ⟨w.heap.size, 0, none⟩ = some (.int .i8 3) := by simp only [World.cell?, gB]; rfl
                  have x1 : W1.cell? ⟨w.heap.size, 1, none⟩ = some (.string s) := by simp only [World.cell?, gB]; rfl
                  have x2 : W1.cell? ⟨w.heap.size, 2, none⟩ = some (.int .i64 0) := by simp only [World.cell?, gB]; rfl
                  clear u
                  go_wp2_with fail
                  rw [HPo.out]
                  exact ⟨by rw [HQ.out] <;> rfl, HU.out⟩
              · have hk3b : (k == 3) = false := by simpa using hk3
                have HQ : Hid (tex ⟨k, l, 0, p⟩ = []) := by unfold Hid; rw [HQ1.out, if_neg (fun h9 => by rcases h9 with h9 | h9; exact hk1 h9.1; exact hk4 h9.1), if_neg (fun h9 => hk3 h9.1)]
                go_enter Tryz.func89, Tryz.ntmps89
                go_wp2_with fail
                rw [HPo.out]
                exact ⟨by rw [HQ.out] <;> rfl, HU.out⟩
        · have hnz2 : (n != 0) = true := by simpa using hnz
          have HQ : Hid (tex ⟨k, l, n, p⟩ = []) := by
            unfold Hid
            rw [HQ0.out, if_neg (fun h9 => hk2 h9.1), if_pos hnz]
          clear hte
          go_enter Tryz.func89, Tryz.ntmps89
          go_wp2_with fail
          rw [HPo.out]
          exact ⟨by rw [HQ.out] <;> rfl, HU.out⟩
end TK
end Go.Proofs.YtkldllnnocdhbaaGreatDoor
namespace Go.Proofs.YtkldllnnocdhbaaGreatDoor
open Go.RowKit
attribute [local go_sem ↓] Go.wp_at_zero Go.wp_at_succ
namespace TP
open TR (Nd Byt nums_inj nums_nil)
open TK (Tok tex TabP)
/- a list of tokens, where it lies -/
structure TM (W : World) (bt off n c : Nat) (l : List Tok) : Prop where
  len : n = l.length
  cap : n ≤ c
  pos : 0 < n
  small : n ≤ 1048576
  cells : ∀ i, i < n → ∀ j x, (tvs1 (tk l i))[j]? = some x → W.cell? ⟨bt, off + i * 4 + j, none⟩ = some x
  byt : ∀ i, i < n → Byt (tk l i).text
  tln : ∀ i, i < n → (tk l i).text.length ≤ 281474976710656
  num : ∀ i, i < n → -9223372036854775808 ≤ (tk l i).num ∧ (tk l i).num ≤ 9223372036854775807
  tab : TabP W
def MayT (l : List Tok) : Prop := (∀ i, i + 1 < l.length → tex (tk l i) ≠ []) ∧ 0 ≤ (tk l (l.length - 1)).pos ∧ tk l (l.length - 1) = ⟨0, [], 0, (tk l (l.length - 1)).pos⟩
theorem mayEnd {l : List Tok} {kd tn tp : Int} {tx : List Int} {st : ByteArray} (hs : st.toList = [] ↔ tx = []) (hm : MayT l ↔ 0 ≤ tp ∧ (⟨kd, tx, tn, tp⟩ : Tok) = ⟨0, [], 0, tp⟩) (hp : 0 ≤ tp) : (kd = 0 → st.toList = [] → tn = 0 → MayT l) ∧ (¬ kd = 0 → ¬ MayT l) ∧ (¬ st.toList = [] → ¬ MayT l) ∧ (¬ tn = 0 → ¬ MayT l) := by
  refine ⟨fun h1 h2 h3 => hm.2 ⟨hp, by rw [h1, hs.1 h2, h3]⟩, fun h h2 => h ?_, fun h h2 => h ?_, fun h h2 => h ?_⟩
  · have h3 := (hm.1 h2).2
    simp only [Tok.mk.injEq] at h3
    exact h3.1
  · have h3 := (hm.1 h2).2
    simp only [Tok.mk.injEq] at h3
    exact hs.2 h3.2.1
  · have h3 := (hm.1 h2).2
    simp only [Tok.mk.injEq] at h3
    exact h3.2.2.1
theorem TM.tok {W W2 : World} {bt off n c : Nat} {l : List Tok} (h : TM W bt off n c l) (u : Up W W2) {i : Nat} (hi : i < n) : W2.cell? ⟨bt, off + i * 4, none⟩ = some (.int .i8 (tk l i).kind) ∧ W2.cell? ⟨bt, off + i * 4 + 1, none⟩ = some (.string (strOfNums (tk l i).text)) ∧ W2.cell? ⟨bt, off + i * 4 + 2, none⟩ = some (.int .i64 (tk l i).num) ∧ W2.cell? ⟨bt, off + i * 4 + 3, none⟩ = some (.int .i64 (tk l i).pos) :=
  ⟨u.cell (h.cells i hi 0 _ rfl), u.cell (h.cells i hi 1 _ rfl), u.cell (h.cells i hi 2 _ rfl), u.cell (h.cells i hi 3 _ rfl)⟩
set_option maxRecDepth 100000 in
set_option maxHeartbeats 16000000 in
theorem may_ (W : World) (bt off n c : Nat) (l : List Tok) (hT : TM W bt off n c l) : Calls Tryz.prog 68 #[.slice (some ⟨bt, off, none⟩) n c] W (fun r w' => ∃ bo, r = .returned (.bool bo) ∧ (bo = true ↔ MayT l) ∧ Up W w') := by
  obtain ⟨Post, hPost⟩ : ∃ P : Ending → World → Prop, P = fun r w' => ∃ bo, r = .returned (.bool bo) ∧ (bo = true ↔ MayT l) ∧ Up W w' := ⟨_, rfl⟩
  rw [← hPost]
  have HPo : Hid (Post = fun r w' => ∃ bo, r = .returned (.bool bo) ∧ (bo = true ↔ MayT l) ∧ Up W w') := hPost
  clear hPost
  obtain ⟨m, hm⟩ : ∃ m, n = m + 1 := ⟨n - 1, by have := hT.pos; omega⟩
  subst hm
  have HT : Hid (TM W bt off (m + 1) c l) := hT
  have hsm := hT.small
  have hcp := hT.cap
  have e1 : IntKind.i64.wrap (((m + 1 : Nat) : Int) - 1) = (m : Int) := by rw [IntKind.wrap_i64]; omega
  have hn0 : ¬ ((m + 1 : Nat) : Int) = 0 := by omega
  clear hT
  have hz0 : ((m : Int) + 1 == 0) = false := by rw [beq_eq_false_iff_ne]; omega
  go_enter Tryz.func68, Tryz.ntmps68
  go_wp2_with fail
  go_loopw [15] (fun s15 w3 => ∃ i : Nat, i ≤ m ∧ s15 = .int .i64 (i : Int) ∧ Up W w3 ∧ ∀ q, q < i → tex (tk l q) ≠ []) (fun s15 _ => m - (intOf s15).toNat)
  case atStart => exact ⟨0, Nat.zero_le _, rfl, Up.refl _, fun q hq => absurd hq (Nat.not_lt_zero _)⟩
  case round =>
    obtain ⟨i, hi, rfl, hu, hall⟩ := hrel
    have HU : Hid (Up W wr) := hu
    have HAL : Hid (∀ q, q < i → tex (tk l q) ≠ []) := hall
    clear hu hall
    by_cases hlt : i < m
    · have hlt2 : (i : Int) < (m : Int) := by omega
      have ei : IntKind.i64.wrap ((i : Int) + 1) = ((i + 1 : Nat) : Int) := by rw [IntKind.wrap_i64]; omega
      obtain ⟨y0, y1, y2, y3⟩ := HT.out.tok HU.out (show i < m + 1 by omega)
      have hone := tkA_one (tk l i)
      have HTX : Hid (∀ W2, Up W W2 → Calls Tryz.prog 89 #[.agg #[.int .i8 (tk l i).kind, .string (strOfNums (tk l i).text), .int .i64 (tk l i).num, .int .i64 (tk l i).pos]] W2 fun e w' => e = .returned (.string (strOfNums (tex (tk l i)))) ∧ Up W2 w') := fun W2 hu => TK.text8_ _ _ _ _ W2 (HT.out.byt i (by omega)) (HT.out.tln i (by omega)) (HT.out.num i (by omega)).1 (HT.out.num i (by omega)).2 (HT.out.tab.up hu)
      have HNX : Hid (tex (tk l i) ≠ [] → ∀ q, q < i + 1 → tex (tk l q) ≠ []) := fun h q hq => by
        rcases Nat.lt_or_ge q i with h1 | h1
        · exact HAL.out q h1
        · obtain rfl : q = i := by omega
          exact h
      have HFA : Hid (tex (tk l i) = [] → ¬ MayT l) := fun h h2 => h2.1 i (by have := HT.out.len; omega) h
      unfold tkA at hone
      generalize tk l i = t at *
      obtain ⟨kd, tx, tn, tp⟩ := t
      simp only at y0 y1 y2 y3 hone HTX HNX HFA
      generalize strOfNums tx = st at *
      generalize tex ⟨kd, tx, tn, tp⟩ = te at *
      clear HAL
      obtain ⟨g, hg⟩ : ∃ g, g = wr.heap.size := ⟨_, rfl⟩
      obtain ⟨W1, hW1⟩ : ∃ W1, (wr.alloc (.cells tz 45)).setRow wr.heap.size #[.int .i8 kd, .string st, .int .i64 tn, .int .i64 tp] = W1 := ⟨_, rfl⟩
      have r1 : W1.heap[g]? = some (.cells #[.int .i8 kd, .string st, .int .i64 tn, .int .i64 tp] 45 (0, 0)) := by rw [← hW1, hg]; exact setRow_heap _ _ _ _ _ _ (heap_alloc_new _ _)
      have v1 : Up wr W1 := by rw [← hW1]; exact up_setRow ((Up.refl _).alloc _) (Nat.le_refl _) _
      have HUW1 : Hid (Up W W1) := HU.out.trans v1
      have x0 : W1.cell? ⟨g, 0, none⟩ = some (.int .i8 kd) := by simp [World.cell?, r1]
      have x1 : W1.cell? ⟨g, 1, none⟩ = some (.string st) := by simp [World.cell?, r1]
      have x2 : W1.cell? ⟨g, 2, none⟩ = some (.int .i64 tn) := by simp [World.cell?, r1]
      have x3 : W1.cell? ⟨g, 3, none⟩ = some (.int .i64 tp) := by simp [World.cell?, r1]
      have hW1b : Hid ((wr.alloc (.cells tz 45)).setRow wr.heap.size #[.int .i8 kd, .string st, .int .i64 tn, .int .i64 tp] = W1) := hW1
      clear hW1 v1 r1
      go_upto_region 6 with (first | (refine wpList_store_row rfl 45 (.tmp 4) (.tmp 18) rfl wr.heap.size #[.int .i8 kd, .string st, .int .i64 tn, .int .i64 tp] rfl rfl 45 tz (heap_alloc_new wr _) infoTk rfl hone ?_; refine wpList_world hW1b.out ?_))
      rw [← hg]
      clear hg hW1b
      go_wp2_with fail
      refine Calls.mono (HTX.out W1 HUW1.out) ?_
      rintro r9 w5 ⟨rfl, u5⟩
      have HU5 : Hid (Up W w5) := HUW1.out.trans u5
      clear HTX u5 HUW1
      by_cases ht : te = []
      · subst ht
        have HN : Hid (¬ MayT l) := HFA.out rfl
        rw [show strOfNums [] = (⟨#[]⟩ : ByteArray) from rfl]
        clear HFA HNX
        go_wp2_with fail
        rw [HPo.out]
        exact ⟨false, rfl, ⟨fun h => Bool.noConfusion h, fun h => absurd h HN.out⟩, HU5.out⟩
      · have HN : Hid _ := HNX.out ht
        have hbe : (strOfNums te).toList.isEmpty = false := by
          rw [Bool.eq_false_iff]
          intro h
          exact ht (nums_nil.1 (List.isEmpty_iff.1 h))
        clear HFA HNX ht
        go_wp2_with fail
        go_roundw
        case rel => exact ⟨i + 1, hlt, by go_num, HU5.out, HN.out⟩
        case measure => simp [intOf]; omega
    · obtain rfl : i = m := by omega
      have hlt2 : ¬ (i : Int) < (i : Int) := by omega
      obtain ⟨y0, y1, y2, y3⟩ := HT.out.tok HU.out (show i < i + 1 by omega)
      have hone := tkA_one (tk l i)
      have HMT : Hid (MayT l ↔ 0 ≤ (tk l i).pos ∧ tk l i = ⟨0, [], 0, (tk l i).pos⟩) := by
        have h1 := HT.out.len
        unfold Hid MayT
        rw [show l.length - 1 = i by omega]
        exact ⟨fun h => h.2, fun h => ⟨fun q hq => HAL.out q (by omega), h⟩⟩
      have HBY : Hid (Byt (tk l i).text) := HT.out.byt i (by omega)
      unfold tkA at hone
      generalize tk l i = t at *
      obtain ⟨kd, tx, tn, tp⟩ := t
      simp only at y0 y1 y2 y3 hone HMT HBY
      have HSX : Hid ((strOfNums tx).toList = [] ↔ tx = []) := nums_nil
      generalize strOfNums tx = st at *
      clear HAL HT
      obtain ⟨g, hg⟩ : ∃ g, g = wr.heap.size := ⟨_, rfl⟩
      obtain ⟨W1, hW1⟩ : ∃ W1, (wr.alloc (.cells tz 45)).setRow wr.heap.size #[.int .i8 kd, .string st, .int .i64 tn, .int .i64 tp] = W1 := ⟨_, rfl⟩
      have r1 : W1.heap[g]? = some (.cells #[.int .i8 kd, .string st, .int .i64 tn, .int .i64 tp] 45 (0, 0)) := by rw [← hW1, hg]; exact setRow_heap _ _ _ _ _ _ (heap_alloc_new _ _)
      have v1 : Up wr W1 := by rw [← hW1]; exact up_setRow ((Up.refl _).alloc _) (Nat.le_refl _) _
      have HUW1 : Hid (Up W W1) := HU.out.trans v1
      have x0 : W1.cell? ⟨g, 0, none⟩ = some (.int .i8 kd) := by simp [World.cell?, r1]
      have x1 : W1.cell? ⟨g, 1, none⟩ = some (.string st) := by simp [World.cell?, r1]
      have x2 : W1.cell? ⟨g, 2, none⟩ = some (.int .i64 tn) := by simp [World.cell?, r1]
      have x3 : W1.cell? ⟨g, 3, none⟩ = some (.int .i64 tp) := by simp [World.cell?, r1]
      have hW1b : Hid ((wr.alloc (.cells tz 45)).setRow wr.heap.size #[.int .i8 kd, .string st, .int .i64 tn, .int .i64 tp] = W1) := hW1
      clear hW1 v1 r1
      go_upto_region 10 with (first | (refine wpList_store_row rfl 45 (.tmp 5) (.tmp 28) rfl wr.heap.size #[.int .i8 kd, .string st, .int .i64 tn, .int .i64 tp] rfl rfl 45 tz (heap_alloc_new wr _) infoTk rfl hone ?_; refine wpList_world hW1b.out ?_))
      rw [← hg]
      clear hg hW1b
      by_cases hp : 0 ≤ tp
      · have HM : Hid _ := mayEnd HSX.out HMT.out hp
        clear HMT HSX
        go_wp2_with fail
        all_goals rw [HPo.out]
        all_goals first | exact ⟨true, rfl, ⟨fun _ => HM.out.1 (by assumption) (by assumption) (by assumption), fun _ => rfl⟩, HUW1.out⟩ | exact ⟨false, rfl, ⟨fun h => Bool.noConfusion h, fun h => absurd h (HM.out.2.1 (by assumption))⟩, HUW1.out⟩ | exact ⟨false, rfl, ⟨fun h => Bool.noConfusion h, fun h => absurd h (HM.out.2.2.1 (by assumption))⟩, HUW1.out⟩ | exact ⟨false, rfl, ⟨fun h => Bool.noConfusion h, fun h => absurd h (HM.out.2.2.2 (by assumption))⟩, HUW1.out⟩
      · have HN : Hid (¬ MayT l) := fun h => hp (HMT.out.1 h).1
        go_wp2_with fail
        rw [HPo.out]
        exact ⟨false, rfl, ⟨fun h => Bool.noConfusion h, fun h => absurd h HN.out⟩, HUW1.out⟩
end TP
end Go.Proofs.YtkldllnnocdhbaaGreatDoor
