
/-
  How a token is written.
-/
import Derived.Test.YtjjikeehifndhaaDoorTv8
import Derived.Test.YtjjikeehifndhaaDoorMr8
namespace Go.Proofs.YtjjikeehifndhaaDoor
open Go.RowKit
attribute [local go_sem ↓] Go.wp_at_zero Go.wp_at_succ
namespace TK
set_option maxRecDepth 100000 in
set_option maxHeartbeats 8000000 in
theorem text8_ (k : Int) (l : List Int) (n p : Int) (w : World) (hl : Byt l) (hln : l.length ≤ 281474976710656) (hn0 : -9223372036854775808 ≤ n) (hn1 : n ≤ 9223372036854775807) (hT : TabP w) :
    Calls Tryd.prog 22 #[.agg #[.int .i8 k, .string (strOfNums l), .int .i64 n, .int .i64 p]] w fun e w' => e = .returned (.string (strOfNums (tex ⟨k, l, n, p⟩))) ∧ Up w w' := by
  obtain ⟨Post, hPost⟩ : ∃ P : Ending → World → Prop, P = fun e w' => e = .returned (.string (strOfNums (tex ⟨k, l, n, p⟩))) ∧ Up w w' := ⟨_, rfl⟩
  rw [← hPost]
  have HPo : Hid (Post = fun e w' => e = .returned (.string (strOfNums (tex ⟨k, l, n, p⟩))) ∧ Up w w') := hPost
  clear hPost
  have HT : Hid (TabP w) := hT
  have HIN : Hid (∀ W, Calls Tryd.prog 58 #[.string (strOfNums l)] W fun e w' => e = .returned (.bool (okN l)) ∧ Up W w') := fun W => isName_ l W hl hln
  have HIT : Hid (∀ W, Calls Tryd.prog 61 #[.string (strOfNums l)] W fun e w' => e = .returned (.bool (okT l)) ∧ Up W w') := fun W => isText_ l W hl hln
  have HIM : Hid (∀ W, Calls Tryd.prog 59 #[.string (strOfNums l)] W fun e w' => e = .returned (.bool (mrk l)) ∧ Up W w') := fun W => Calls.mono (isMark_ (strOfNums l) W) (fun e w' h => by
    obtain ⟨h1, h2⟩ := h
    subst h2
    exact ⟨by rw [h1, mrk_is hl], Up.refl _⟩)
  have HCL : Hid (∀ W, Calls Tryd.prog 60 #[.string (strOfNums l)] W fun e w' => e = .returned (.string (strOfNums l)) ∧ Up W w') := fun W => clone_ _ W (by rw [strOfNums_size]; exact hln)
  have HQU : Hid (okT l = true → ∀ W, Calls Tryd.prog 62 #[.string (strOfNums l)] W fun e w' => e = .returned (.string (strOfNums (quo l))) ∧ Up W w') := fun h9 W => quoted_ l W hl (by
    unfold okT at h9
    simp only [Bool.and_eq_true, decide_eq_true_eq] at h9
    exact h9.1)
  have hni : (strOfNums l).toList = [] ↔ l = [] := nums_nil
  have HXE : Hid (∀ e : Bool, e = (strOfNums l).toList.isEmpty → (e = true ↔ l = [])) := fun e h9 => by
    rw [h9, List.isEmpty_iff]
    exact hni
  have hte := HXE.out _ rfl
  obtain ⟨te, hte2⟩ : ∃ e, (strOfNums l).toList.isEmpty = e := ⟨_, rfl⟩
  rw [hte2] at hte
  have HLS : Hid (strOfNums [] = ⟨#[]⟩) := rfl
  obtain ⟨s, hs⟩ : ∃ s, strOfNums l = s := ⟨_, rfl⟩
  rw [hs] at HIN HIT HIM HCL HQU hte2 ⊢
  have HSS : Hid (strOfNums l = s) := hs
  obtain ⟨W0, hW0⟩ : ∃ W0, w.alloc (.cells #[.int .i8 k, .string s, .int .i64 n, .int .i64 p] 63) = W0 := ⟨_, rfl⟩
  have gB : W0.heap[w.heap.size]? = some (.cells #[.int .i8 k, .string s, .int .i64 n, .int .i64 p] 63 (0, 0)) := by rw [← hW0]; exact heap_alloc_new _ _
  have HU : Hid (Up w W0) := by unfold Hid; rw [← hW0]; exact (Up.refl _).alloc _
  have x0 : W0.cell? ⟨w.heap.size, 0, none⟩ = some (.int .i8 k) := by simp only [World.cell?, gB]; rfl
  have x1 : W0.cell? ⟨w.heap.size, 1, none⟩ = some (.string s) := by simp only [World.cell?, gB]; rfl
  have x2 : W0.cell? ⟨w.heap.size, 2, none⟩ = some (.int .i64 n) := by simp only [World.cell?, gB]; rfl
  have x3 : W0.cell? ⟨w.heap.size, 3, none⟩ = some (.int .i64 p) := by simp only [World.cell?, gB]; rfl
  clear hT hl hln hni HXE hs
  by_cases hp : p < 0
  · have HQ : Hid (tex ⟨k, l, n, p⟩ = []) := by unfold Hid tex; rw [if_pos (.inl hp)]
    go_enter Tryd.func22, Tryd.ntmps22
    go_wp2_with fail
    rw [HPo.out]
    exact ⟨by rw [HQ.out] <;> rfl, HU.out⟩
  · by_cases hn : n < 0
    · have HQ : Hid (tex ⟨k, l, n, p⟩ = []) := by unfold Hid tex; rw [if_pos (.inr hn)]
      go_enter Tryd.func22, Tryd.ntmps22
      go_wp2_with fail
      rw [HPo.out]
      exact ⟨by rw [HQ.out] <;> rfl, HU.out⟩
    · have HQ0 : Hid (tex ⟨k, l, n, p⟩ = if k = 2 ∧ l = [] then dcm n else if n ≠ 0 then [] else if (k = 1 ∧ okN l = true) ∨ (k = 4 ∧ mrk l = true) then l else if k = 3 ∧ okT l = true then quo l else []) := by
        unfold Hid tex
        rw [if_neg (fun h9 => by rcases h9 with h9 | h9 <;> contradiction)]
      by_cases hk2 : k = 2
      · subst hk2
        cases te with
        | true =>
          have HQ : Hid (tex ⟨2, l, n, p⟩ = dcm n) := by unfold Hid; rw [HQ0.out, if_pos ⟨rfl, hte.1 rfl⟩]
          have HFM : Hid (Calls Tryd.prog 57 #[.int .i64 n, .int .i64 10] W0 fun e w' => e = .returned (.string (strOfNums (dcm n))) ∧ Up W0 w') := fmt_ n hn0 hn1 W0 (HT.out.up HU.out)
          clear hte
          go_enter Tryd.func22, Tryd.ntmps22
          go_wp2_with fail
          first | refine calls_world hW0 (Calls.mono HFM.out ?_) | refine Calls.mono HFM.out ?_
          rintro r W1 ⟨rfl, u⟩
          have HU : Hid (Up w W1) := HU.out.trans u
          clear u
          go_wp2_with fail
          rw [HPo.out]
          exact ⟨by rw [HQ.out] <;> rfl, HU.out⟩
        | false =>
          have HQ : Hid (tex ⟨2, l, n, p⟩ = []) := by
            unfold Hid
            rw [HQ0.out, if_neg (fun h9 => by have := hte.2 h9.2; cases this)]
            by_cases hnz : n = 0
            · rw [if_neg (fun h9 => h9 hnz), if_neg (by omega), if_neg (by omega)]
            · rw [if_pos hnz]
          clear hte
          by_cases hnz : n = 0
          · subst hnz
            go_enter Tryd.func22, Tryd.ntmps22
            go_wp2_with fail
            rw [HPo.out]
            exact ⟨by rw [HQ.out] <;> rfl, HU.out⟩
          · have hnz2 : (n != 0) = true := by simpa using hnz
            go_enter Tryd.func22, Tryd.ntmps22
            go_wp2_with fail
            rw [HPo.out]
            exact ⟨by rw [HQ.out] <;> rfl, HU.out⟩
      · have hk2b : (k == 2) = false := by simpa using hk2
        by_cases hnz : n = 0
        · subst hnz
          have HQ1 : Hid (tex ⟨k, l, 0, p⟩ = if (k = 1 ∧ okN l = true) ∨ (k = 4 ∧ mrk l = true) then l else if k = 3 ∧ okT l = true then quo l else []) := by
            unfold Hid
            rw [HQ0.out, if_neg (fun h9 => hk2 h9.1), if_neg (fun h9 => h9 rfl)]
          clear HQ0 hte hn0 hn1
          by_cases hk1 : k = 1
          · subst hk1
            cases hok : okN l with
            | true =>
              have HQ : Hid (tex ⟨1, l, 0, p⟩ = l) := by unfold Hid; rw [HQ1.out, if_pos (.inl ⟨rfl, hok⟩)]
              rw [hok] at HIN
              clear hok
              go_enter Tryd.func22, Tryd.ntmps22
              go_wp2_with fail
              first | refine calls_world hW0 (Calls.mono (HIN.out _) ?_) | refine Calls.mono (HIN.out _) ?_
              rintro r W1 ⟨rfl, u⟩
              have HU : Hid (Up w W1) := HU.out.trans u
              have gB := u.heap gB
              have x0 : W1.cell? ⟨w.heap.size, 0, none⟩ = some (.int .i8 1) := by simp only [World.cell?, gB]; rfl
              have x1 : W1.cell? ⟨w.heap.size, 1, none⟩ = some (.string s) := by simp only [World.cell?, gB]; rfl
              have x2 : W1.cell? ⟨w.heap.size, 2, none⟩ = some (.int .i64 0) := by simp only [World.cell?, gB]; rfl
              clear u
              go_wp2_with fail
              refine Calls.mono (HCL.out _) ?_
              rintro r W2 ⟨rfl, u⟩
              have HU : Hid (Up w W2) := HU.out.trans u
              clear u
              go_wp2_with fail
              rw [HPo.out]
              exact ⟨by rw [HQ.out, HSS.out] <;> rfl, HU.out⟩
            | false =>
              have HQ : Hid (tex ⟨1, l, 0, p⟩ = []) := by unfold Hid; rw [HQ1.out, hok, if_neg (by simp), if_neg (by simp)]
              rw [hok] at HIN
              clear hok
              go_enter Tryd.func22, Tryd.ntmps22
              go_wp2_with fail
              first | refine calls_world hW0 (Calls.mono (HIN.out _) ?_) | refine Calls.mono (HIN.out _) ?_
              rintro r W1 ⟨rfl, u⟩
              have HU : Hid (Up w W1) := HU.out.trans u
              have gB := u.heap gB
              have x0 : W1.cell? ⟨w.heap.size, 0, none⟩ = some (.int .i8 1) := by simp only [World.cell?, gB]; rfl
              have x1 : W1.cell? ⟨w.heap.size, 1, none⟩ = some (.string s) := by simp only [World.cell?, gB]; rfl
              have x2 : W1.cell? ⟨w.heap.size, 2, none⟩ = some (.int .i64 0) := by simp only [World.cell?, gB]; rfl
              clear u
              go_wp2_with fail
              rw [HPo.out]
              exact ⟨by rw [HQ.out] <;> rfl, HU.out⟩
          · have hk1b : (k == 1) = false := by simpa using hk1
            by_cases hk4 : k = 4
            · subst hk4
              cases hok : mrk l with
              | true =>
                have HQ : Hid (tex ⟨4, l, 0, p⟩ = l) := by unfold Hid; rw [HQ1.out, if_pos (.inr ⟨rfl, hok⟩)]
                rw [hok] at HIM
                clear hok
                go_enter Tryd.func22, Tryd.ntmps22
                go_wp2_with fail
                first | refine calls_world hW0 (Calls.mono (HIM.out _) ?_) | refine Calls.mono (HIM.out _) ?_
                rintro r W1 ⟨rfl, u⟩
                have HU : Hid (Up w W1) := HU.out.trans u
                have gB := u.heap gB
                have x0 : W1.cell? ⟨w.heap.size, 0, none⟩ = some (.int .i8 4) := by simp only [World.cell?, gB]; rfl
                have x1 : W1.cell? ⟨w.heap.size, 1, none⟩ = some (.string s) := by simp only [World.cell?, gB]; rfl
                have x2 : W1.cell? ⟨w.heap.size, 2, none⟩ = some (.int .i64 0) := by simp only [World.cell?, gB]; rfl
                clear u
                go_wp2_with fail
                refine Calls.mono (HCL.out _) ?_
                rintro r W2 ⟨rfl, u⟩
                have HU : Hid (Up w W2) := HU.out.trans u
                clear u
                go_wp2_with fail
                rw [HPo.out]
                exact ⟨by rw [HQ.out, HSS.out] <;> rfl, HU.out⟩
              | false =>
                have HQ : Hid (tex ⟨4, l, 0, p⟩ = []) := by unfold Hid; rw [HQ1.out, hok, if_neg (by simp), if_neg (by simp)]
                rw [hok] at HIM
                clear hok
                go_enter Tryd.func22, Tryd.ntmps22
                go_wp2_with fail
                first | refine calls_world hW0 (Calls.mono (HIM.out _) ?_) | refine Calls.mono (HIM.out _) ?_
                rintro r W1 ⟨rfl, u⟩
                have HU : Hid (Up w W1) := HU.out.trans u
                have gB := u.heap gB
                have x0 : W1.cell? ⟨w.heap.size, 0, none⟩ = some (.int .i8 4) := by simp only [World.cell?, gB]; rfl
                have x1 : W1.cell? ⟨w.heap.size, 1, none⟩ = some (.string s) := by simp only [World.cell?, gB]; rfl
                have x2 : W1.cell? ⟨w.heap.size, 2, none⟩ = some (.int .i64 0) := by simp only [World.cell?, gB]; rfl
                clear u
                go_wp2_with fail
                rw [HPo.out]
                exact ⟨by rw [HQ.out] <;> rfl, HU.out⟩
            · have hk4b : (k == 4) = false := by simpa using hk4
              by_cases hk3 : k = 3
              · subst hk3
                cases hok : okT l with
                | true =>
                  have HQ : Hid (tex ⟨3, l, 0, p⟩ = quo l) := by unfold Hid; rw [HQ1.out, if_neg (by simp), if_pos ⟨rfl, hok⟩]
                  have HQ2 : Hid (∀ W, Calls Tryd.prog 62 #[.string s] W fun e w' => e = .returned (.string (strOfNums (quo l))) ∧ Up W w') := HQU.out hok
                  rw [hok] at HIT
                  clear hok HQU
                  go_enter Tryd.func22, Tryd.ntmps22
                  go_wp2_with fail
                  first | refine calls_world hW0 (Calls.mono (HIT.out _) ?_) | refine Calls.mono (HIT.out _) ?_
                  rintro r W1 ⟨rfl, u⟩
                  have HU : Hid (Up w W1) := HU.out.trans u
                  have gB := u.heap gB
                  have x0 : W1.cell? ⟨w.heap.size, 0, none⟩ = some (.int .i8 3) := by simp only [World.cell?, gB]; rfl
                  have x1 : W1.cell? ⟨w.heap.size, 1, none⟩ = some (.string s) := by simp only [World.cell?, gB]; rfl
                  have x2 : W1.cell? ⟨w.heap.size, 2, none⟩ = some (.int .i64 0) := by simp only [World.cell?, gB]; rfl
                  clear u
                  go_wp2_with fail
                  refine Calls.mono (HQ2.out _) ?_
                  rintro r W2 ⟨rfl, u⟩
                  have HU : Hid (Up w W2) := HU.out.trans u
                  clear u
                  go_wp2_with fail
                  rw [HPo.out]
                  exact ⟨by rw [HQ.out] <;> rfl, HU.out⟩
                | false =>
                  have HQ : Hid (tex ⟨3, l, 0, p⟩ = []) := by unfold Hid; rw [HQ1.out, hok, if_neg (by simp), if_neg (by simp)]
                  rw [hok] at HIT
                  clear hok
                  go_enter Tryd.func22, Tryd.ntmps22
                  go_wp2_with fail
                  first | refine calls_world hW0 (Calls.mono (HIT.out _) ?_) | refine Calls.mono (HIT.out _) ?_
                  rintro r W1 ⟨rfl, u⟩
                  have HU : Hid (Up w W1) := HU.out.trans u
                  have gB := u.heap gB
                  have x0 : W1.cell? ⟨w.heap.size, 0, none⟩ = some (.int .i8 3) := by simp only [World.cell?, gB]; rfl
                  have x1 : W1.cell? ⟨w.heap.size, 1, none⟩ = some (.string s) := by simp only [World.cell?, gB]; rfl
                  have x2 : W1.cell? ⟨w.heap.size, 2, none⟩ = some (.int .i64 0) := by simp only [World.cell?, gB]; rfl
                  clear u
                  go_wp2_with fail
                  rw [HPo.out]
                  exact ⟨by rw [HQ.out] <;> rfl, HU.out⟩
              · have hk3b : (k == 3) = false := by simpa using hk3
                have HQ : Hid (tex ⟨k, l, 0, p⟩ = []) := by unfold Hid; rw [HQ1.out, if_neg (fun h9 => by rcases h9 with h9 | h9; exact hk1 h9.1; exact hk4 h9.1), if_neg (fun h9 => hk3 h9.1)]
                go_enter Tryd.func22, Tryd.ntmps22
                go_wp2_with fail
                rw [HPo.out]
                exact ⟨by rw [HQ.out] <;> rfl, HU.out⟩
        · have hnz2 : (n != 0) = true := by simpa using hnz
          have HQ : Hid (tex ⟨k, l, n, p⟩ = []) := by
            unfold Hid
            rw [HQ0.out, if_neg (fun h9 => hk2 h9.1), if_pos hnz]
          clear hte
          go_enter Tryd.func22, Tryd.ntmps22
          go_wp2_with fail
          rw [HPo.out]
          exact ⟨by rw [HQ.out] <;> rfl, HU.out⟩
end TK
end Go.Proofs.YtjjikeehifndhaaDoor
