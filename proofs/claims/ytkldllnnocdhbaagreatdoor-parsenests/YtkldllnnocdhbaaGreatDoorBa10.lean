/-
  The program's parser in memory; its smallest functions.
-/
import Derived.Test.YtkldllnnocdhbaaGreatDoorTail
import Derived.Test.YtkldllnnocdhbaaGreatDoorRm10
import Derived.WalkLawsBesides
namespace Go.Proofs.YtkldllnnocdhbaaGreatDoor
open Go.RowKit
attribute [local go_sem ↓] Go.wp_at_zero Go.wp_at_succ
namespace TP
open TR (Nd Byt nums_inj)
open TK (Tok)
open TR (nums_list nums_nil)
def wordsN : List (List UInt8) := [[99, 97, 114, 100], [99, 111, 115, 116], [112, 111, 119, 101, 114], [104, 101, 97, 108, 116, 104], [116, 97, 103], [111, 110], [119, 104, 101, 110], [108, 101, 116], [105, 102], [101, 108, 115, 101], [114, 101, 112, 101, 97, 116], [97, 115], [101, 97, 99, 104], [105, 110], [99, 104, 111, 111, 115, 101], [115, 116, 111, 112], [97, 98, 111, 114, 116], [116, 114, 117, 101], [102, 97, 108, 115, 101], [115, 101, 108, 102], [109, 101], [100, 101, 99, 107], [104, 97, 110, 100], [98, 111, 97, 114, 100], [103, 114, 97, 118, 101], [112, 108, 97, 121], [100, 105, 101], [104, 105, 116], [116, 117, 114, 110], [100, 114, 97, 119]]
def rwd (s : ByteArray) : Bool := wordsN.any fun x => s.toList == x
set_option maxRecDepth 100000 in
set_option maxHeartbeats 8000000 in
theorem rword0_ (s : ByteArray) (w : World) : Calls Tryz.prog 184 #[.string s] w fun e w' => e = .returned (.bool (rwd s)) ∧ w' = w := by
  obtain ⟨Post, hPost⟩ : ∃ P : Ending → World → Prop, P = fun e w' => e = .returned (.bool (rwd s)) ∧ w' = w := ⟨_, rfl⟩
  rw [← hPost]
  have HT : Hid (rwd s = true → Post (.returned (.bool true)) w) := fun h => by rw [hPost, h]; exact ⟨rfl, rfl⟩
  have HF : Hid (rwd s = false → Post (.returned (.bool false)) w) := fun h => by rw [hPost, h]; exact ⟨rfl, rfl⟩
  clear hPost
  go_enter Tryz.func184, Tryz.ntmps184
  go_wp2_with fail
  all_goals
    first
      | (exfalso; simp_all; done)
      | (refine HT.out ?_; simp only [rwd, wordsN, List.any_cons, *, Bool.true_or, Bool.or_true]; done)
      | (refine HF.out ?_; simp only [rwd, wordsN, List.any_cons, List.any_nil, *, Bool.or_false]; done)
theorem rwd_is {l : List Int} (hl : Byt l) : rwd (strOfNums l) = TR.words.contains l := by
  have e : wordsN = TR.words.map fun x => x.map fun n => UInt8.ofNat n.toNat := by decide
  have hw : ∀ x ∈ TR.words, Byt x := by unfold Byt; decide
  unfold rwd
  rw [e, Bool.eq_iff_iff, List.any_eq_true, List.contains_iff_mem]
  constructor
  · rintro ⟨x, hx, h⟩
    obtain ⟨y, hy, rfl⟩ := List.mem_map.1 hx
    have h : (strOfNums l).toList = y.map fun n => UInt8.ofNat n.toNat := by simpa using h
    rw [← nums_list] at h
    rw [nums_inj hl (hw y hy) h]
    exact hy
  · intro h
    exact ⟨_, List.mem_map.2 ⟨l, h, rfl⟩, by rw [nums_list]; simp⟩

def iw (l : List Int) : List (List Int) → Nat → Int
  | [], _ => -1
  | x :: xs, i => if x = l then (i : Int) else iw l xs (i + 1)
/- a list of strings in memory -/
def SL (w : World) (v : Value) (also : List (List Int)) : Prop := ∃ a c, v = .slice a also.length c ∧ also.length ≤ c ∧ (0 < also.length → ∃ g, a = some ⟨g, 0, none⟩ ∧ ∀ i, i < also.length → w.cell? ⟨g, i, none⟩ = some (.string (strOfNums (also.getD i []))))
theorem drop_cons {α : Type} (d : α) (l : List α) (i : Nat) (h : i < l.length) : l.drop i = l.getD i d :: l.drop (i + 1) := by
  rw [List.getD_eq_getElem?_getD, List.getElem?_eq_getElem h]
  exact List.drop_eq_getElem_cons h
theorem iw_bound (l : List Int) : ∀ (xs : List (List Int)) (i : Nat), (iw l xs i = -1 ∧ xs.contains l = false) ∨ ((i : Int) ≤ iw l xs i ∧ iw l xs i < i + xs.length ∧ xs.contains l = true)
  | [], _ => .inl ⟨rfl, rfl⟩
  | x :: xs, i => by
    unfold iw
    by_cases h : x = l
    · rw [if_pos h]
      refine .inr ⟨Int.le_refl _, by simp; omega, by rw [h]; simp⟩
    · rw [if_neg h]
      have hc : (x :: xs).contains l = xs.contains l := by
        rw [List.contains_cons]
        have : (l == x) = false := by simpa using fun e => h e.symm
        rw [this, Bool.false_or]
      rcases iw_bound l xs (i + 1) with ⟨h1, h2⟩ | ⟨h1, h2, h3⟩
      · exact .inl ⟨h1, by rw [hc]; exact h2⟩
      · refine .inr ⟨by omega, ?_, by rw [hc]; exact h3⟩
        rw [List.length_cons]
        omega
set_option maxRecDepth 100000 in
set_option maxHeartbeats 8000000 in
theorem index0_ (v : Value) (also : List (List Int)) (l : List Int) (w : World) (hv : SL w v also) (hl : Byt l) (ha : ∀ x ∈ also, Byt x) (hn : also.length ≤ 1000) : Calls Tryz.prog 136 #[v, .string (strOfNums l)] w fun e w' => e = .returned (.int .i64 (iw l also 0)) ∧ w' = w := by
  obtain ⟨Post, hPost⟩ : ∃ P : Ending → World → Prop, P = fun e w' => e = .returned (.int .i64 (iw l also 0)) ∧ w' = w := ⟨_, rfl⟩
  rw [← hPost]
  have HPo : Hid (Post = fun e w' => e = .returned (.int .i64 (iw l also 0)) ∧ w' = w) := hPost
  clear hPost
  obtain ⟨a, c, rfl, hc, hcell⟩ := hv
  obtain ⟨s, hs⟩ : ∃ s, s = strOfNums l := ⟨_, rfl⟩
  obtain ⟨n, hN⟩ : ∃ n, n = also.length := ⟨_, rfl⟩
  have HN : Hid (n = also.length) := hN
  have HC : Hid (∀ i, i < n → ∃ g, a = some ⟨g, 0, none⟩ ∧ ∃ ys, w.cell? ⟨g, i, none⟩ = some (.string ys) ∧ (s.toList = ys.toList ↔ also.getD i [] = l)) := fun i hi => by
    obtain ⟨g, h1, h2⟩ := hcell (by omega)
    refine ⟨g, h1, _, h2 i (by omega), ?_⟩
    have hb : Byt (also.getD i []) := ha _ (by rw [List.getD_eq_getElem?_getD, List.getElem?_eq_getElem (by omega)]; exact List.getElem_mem _)
    rw [hs]
    exact ⟨fun h => (nums_inj hl hb h).symm, fun h => by rw [h]⟩
  rw [← hs]
  rw [← hN] at hc hn ⊢
  obtain ⟨M, hM⟩ : ∃ M, M = iw l also 0 := ⟨_, rfl⟩
  have HM : Hid (M = iw l also 0) := hM
  rw [← hM] at HPo
  clear hs hN hl ha hcell hM
  go_enter Tryz.func136, Tryz.ntmps136
  go_wp2_with fail
  go_loopw [8] (fun s9 W => ∃ i : Nat, i ≤ n ∧ s9 = .int .i64 i ∧ M = iw l (also.drop i) i ∧ W = w) (fun s9 _ => n - (intOf s9).toNat)
  case atStart => exact ⟨0, Nat.zero_le _, rfl, HM.out, rfl⟩
  case round =>
    obtain ⟨i, hi, rfl, hal, rfl⟩ := hrel
    have HAL : Hid (M = iw l (also.drop i) i) := hal
    clear hal HM
    by_cases hlt : i < n
    · have hlt2 : (i : Int) < (n : Int) := by omega
      obtain ⟨g, rfl, ys, x0, hq⟩ := HC.out i hlt
      have ei : IntKind.i64.wrap ((i : Int) + 1) = ((i + 1 : Nat) : Int) := by rw [IntKind.wrap_i64]; omega
      have HD : Hid (M = if also.getD i [] = l then (i : Int) else iw l (also.drop (i + 1)) (i + 1)) := by
        unfold Hid
        rw [HAL.out, drop_cons [] also i (by have := HN.out; omega), iw]
      by_cases he : also.getD i [] = l
      · have q1 : s.toList = ys.toList := hq.2 he
        have q2 : (s.toList == ys.toList) = true := by rw [q1]; simp
        rw [if_pos he] at HD
        clear hq he
        go_wp2_with fail
        rw [HPo.out, HD.out]
        exact ⟨rfl, rfl⟩
      · have q1 : ¬ s.toList = ys.toList := fun h9 => he (hq.1 h9)
        have q2 : (s.toList == ys.toList) = false := by simpa using q1
        rw [if_neg he] at HD
        clear hq he
        go_wp2_with fail
        go_roundw
        case rel => exact ⟨i + 1, by omega, by go_num, HD.out, by first | rfl | trivial⟩
        case measure => simp [intOf]; omega
    · have hlt2 : ¬ (i : Int) < (n : Int) := by omega
      obtain rfl : i = n := by omega
      have HT : Hid (M = -1) := by
        have h9 := HAL.out
        rw [HN.out, List.drop_length] at h9
        exact h9
      go_wp2_with fail
      rw [HPo.out, HT.out]
      exact ⟨rfl, rfl⟩
set_option maxRecDepth 100000 in
set_option maxHeartbeats 8000000 in
theorem contains0_ (v : Value) (also : List (List Int)) (l : List Int) (w : World) (hv : SL w v also) (hl : Byt l) (ha : ∀ x ∈ also, Byt x) (hn : also.length ≤ 1000) : Calls Tryz.prog 171 #[v, .string (strOfNums l)] w fun e w' => e = .returned (.bool (also.contains l)) ∧ w' = w := by
  have H : Hid (Calls Tryz.prog 136 #[v, .string (strOfNums l)] w fun e w' => e = .returned (.int .i64 (iw l also 0)) ∧ w' = w) := index0_ v also l w hv hl ha hn
  have HK : Hid (decide (0 ≤ iw l also 0) = also.contains l) := by
    unfold Hid
    rcases iw_bound l also 0 with ⟨h1, h2⟩ | ⟨h1, -, h3⟩
    · rw [h1, h2]
      rfl
    · rw [h3]
      simpa using h1
  obtain ⟨Post, hPost⟩ : ∃ P : Ending → World → Prop, P = fun e w' => e = .returned (.bool (also.contains l)) ∧ w' = w := ⟨_, rfl⟩
  rw [← hPost]
  have HPo : Hid (Post = fun e w' => e = .returned (.bool (also.contains l)) ∧ w' = w) := hPost
  clear hPost hv hl ha hn
  generalize strOfNums l = s at *
  generalize iw l also 0 = k at *
  go_enter Tryz.func171, Tryz.ntmps171
  go_wp2_with fail
  refine Calls.mono H.out ?_
  rintro r W1 ⟨rfl, hw1⟩
  obtain rfl := hw1.symm
  clear hw1
  go_wp2_with fail
  rw [HPo.out, ← HK.out]
  exact ⟨rfl, rfl⟩
set_option maxRecDepth 100000 in
set_option maxHeartbeats 8000000 in
theorem isFree_ (l : List Int) (w : World) (hl : Byt l) : Calls Tryz.prog 170 #[.string (strOfNums l)] w fun e w' => e = .returned (.bool (decide (l ≠ []) && !TR.words.contains l)) ∧ w' = w := by
  have H2 : Hid (Calls Tryz.prog 184 #[.string (strOfNums l)] w fun e w' => e = .returned (.bool (TR.words.contains l)) ∧ w' = w) := by
    have h9 := rword0_ (strOfNums l) w
    rw [rwd_is hl] at h9
    exact h9
  obtain ⟨Post, hPost⟩ : ∃ P : Ending → World → Prop, P = fun e w' => e = .returned (.bool (decide (l ≠ []) && !TR.words.contains l)) ∧ w' = w := ⟨_, rfl⟩
  rw [← hPost]
  have HPo : Hid (Post = fun e w' => e = .returned (.bool (decide (l ≠ []) && !TR.words.contains l)) ∧ w' = w) := hPost
  clear hPost
  have hem : (strOfNums l).toList = [] ↔ l = [] := nums_nil
  generalize strOfNums l = s at *
  generalize TR.words.contains l = b at *
  by_cases h0 : l = []
  · have q8 : s.toList = [] := hem.2 h0
    have q9 : s.toList.isEmpty = true := by rw [q8]; rfl
    have HB : Hid (decide (l ≠ []) = false) := by unfold Hid; simpa using h0
    rw [HB.out] at HPo
    clear hem h0 HB
    go_enter Tryz.func170, Tryz.ntmps170
    go_wp2_with fail
    rw [HPo.out]
    exact ⟨rfl, rfl⟩
  · have q8 : ¬ s.toList = [] := fun h9 => h0 (hem.1 h9)
    have q9 : s.toList.isEmpty = false := by cases hh : s.toList with | nil => exact absurd hh q8 | cons a l => rfl
    have HB : Hid (decide (l ≠ []) = true) := by unfold Hid; simpa using h0
    rw [HB.out] at HPo
    clear hem h0 HB
    go_enter Tryz.func170, Tryz.ntmps170
    go_wp2_with fail
    refine Calls.mono H2.out ?_
    rintro r W1 ⟨rfl, hw1⟩
    obtain rfl := hw1.symm
    clear hw1
    go_wp2_with fail
    rw [HPo.out]
    exact ⟨by first | rfl | trivial, rfl⟩
end TP
end Go.Proofs.YtkldllnnocdhbaaGreatDoor
namespace Go.Proofs.YtkldllnnocdhbaaGreatDoor
open Go.RowKit
attribute [local go_sem ↓] Go.wp_at_zero Go.wp_at_succ
namespace TP
open TR (Nd Byt nums_inj)
open TK (Tok)
open TR (nums_list nums_nil)
/- the program's parser in memory: at i, so many open; its maps -/
def QS (W : World) (b bt off n c ml ms i d : Nat) : Prop := W.heap[b]? = some (.cells #[.slice (some ⟨bt, off, none⟩) n c, .int .i64 (i : Int), .int .i64 (d : Int), .map (some ml), .map (some ms)] 153 (0, 0))
theorem QS.cells {W : World} {b bt off n c ml ms i d : Nat} (h : QS W b bt off n c ml ms i d) : W.cell? ⟨b, 0, none⟩ = some (.slice (some ⟨bt, off, none⟩) n c) ∧ W.cell? ⟨b, 1, none⟩ = some (.int .i64 (i : Int)) ∧ W.cell? ⟨b, 2, none⟩ = some (.int .i64 (d : Int)) ∧ W.cell? ⟨b, 3, none⟩ = some (.map (some ml)) ∧ W.cell? ⟨b, 4, none⟩ = some (.map (some ms)) ∧ (∀ j, W.frozen? ⟨b, j, none⟩ = false) ∧ b < W.heap.size := by
  unfold QS at h
  refine ⟨by simp [World.cell?, h], by simp [World.cell?, h], by simp [World.cell?, h], by simp [World.cell?, h], by simp [World.cell?, h], fun j => by simp [World.frozen?, h], (Array.getElem?_eq_some_iff.1 h).1⟩
theorem QS.up {W W' : World} {b bt off n c ml ms i d : Nat} (h : QS W b bt off n c ml ms i d) (u : Up W W') : QS W' b bt off n c ml ms i d := u.heap h
theorem QS.at {W : World} {b bt off n c ml ms i d : Nat} (h : QS W b bt off n c ml ms i d) (i' : Nat) : QS (W.setCell ⟨b, 1, none⟩ (.int .i64 (i' : Int))) b bt off n c ml ms i' d := by
  unfold QS at h ⊢
  have h9 := set_cells (j := 1) (x := .int .i64 (i' : Int)) h
  simpa using h9
theorem QS.op {W : World} {b bt off n c ml ms i d : Nat} (h : QS W b bt off n c ml ms i d) (d' : Nat) : QS (W.setCell ⟨b, 2, none⟩ (.int .i64 (d' : Int))) b bt off n c ml ms i d' := by
  unfold QS at h ⊢
  have h9 := set_cells (j := 2) (x := .int .i64 (d' : Int)) h
  simpa using h9
/- a fault is told by a panic -/
def pnc (er pp : Int) : Ending := .panicked [{ v := .iface 98 (.agg #[.int .i64 er, .int .i64 pp]), recovered := false }]
def nm (t : Tok) : List Int := if t.kind = 1 then t.text else []
set_option maxRecDepth 100000 in
set_option maxHeartbeats 16000000 in
theorem next_ (w0 W : World) (b bt off n c ml ms i d : Nat) (l : List Tok) (hE : Ev w0 b bt off n c l) (ho : Only b w0 W) (hi : i < n) (hP : QS W b bt off n c ml ms i d) : Calls Tryz.prog 114 #[.pointer (some ⟨b, 0, none⟩)] W fun r w' => r = .returned (.agg #[.int .i8 (tk l i).kind, .string (strOfNums (tk l i).text), .int .i64 (tk l i).num, .int .i64 (tk l i).pos]) ∧ Up W w' := by
  obtain ⟨a0, a1, a2, a3, a4, fz, hbl⟩ := hP.cells
  have hne : ¬ bt = b := hE.ne
  have hin : (i : Int) < (n : Int) := by omega
  obtain ⟨t0, t1, t2, t3⟩ := hE.tok ho hi
  have hcp := hE.cap
  obtain ⟨W0, hW0⟩ : ∃ W0, W.alloc (.cells tz 45) = W0 := ⟨_, rfl⟩
  have u0 : Up W W0 := by rw [← hW0]; exact (Up.refl _).alloc _
  have b0 := u0.cell a0
  have b1 := u0.cell a1
  have k0 := u0.cell t0
  have k1 := u0.cell t1
  have k2 := u0.cell t2
  have k3 := u0.cell t3
  have g0 : W0.heap[W.heap.size]? = some (.cells tz 45 (0, 0)) := by rw [← hW0]; exact heap_alloc_new _ _
  have HU0 : Hid (Up W W0) := u0
  have hone := tkA_one (tk l i)
  have HTA : Hid (tkA (tk l i) = #[.int .i8 (tk l i).kind, .string (strOfNums (tk l i).text), .int .i64 (tk l i).num, .int .i64 (tk l i).pos]) := rfl
  generalize tk l i = t at *
  have hW0b : W.alloc (.cells #[.int .i8 0, .string ⟨#[]⟩, .int .i64 0, .int .i64 0] 45) = W0 := hW0
  clear hE ho hP a0 a1 a2 a3 a4 t0 t1 t2 t3 u0 fz
  go_enter Tryz.func114, Tryz.ntmps114
  go_wp2_with fail
  try rw [hW0b]
  clear hW0 hW0b
  obtain ⟨g, hg⟩ : ∃ g, g = W.heap.size := ⟨_, rfl⟩
  rw [← hg] at g0 ⊢
  have HG : Hid (g = W.heap.size) := hg
  clear hg
  refine TailR.wp_region_seq 10 (by kernel_rfl) (by kernel_rfl) ?_
  simp only [List.take_succ_cons, List.take_zero, List.drop_succ_cons, List.drop_zero]
  repeat (go_big_quiet_step (fail))
  refine wpQuiet_nil ?_
  intro _ hw'
  obtain ⟨nq, hw''⟩ := hw'
  subst hw''
  have g1 : (W0.drewN nq).heap[g]? = some (.cells tz 45 (0, 0)) := g0
  obtain ⟨W9, hW9⟩ : ∃ W9, (W0.drewN nq).setRow g (tkA t) = W9 := ⟨_, rfl⟩
  have r9 : W9.heap[g]? = some (.cells (tkA t) 45 (0, 0)) := by rw [← hW9]; exact setRow_heap _ _ _ _ _ _ g1
  go_wp2_with (first | (refine wpList_store_row rfl 45 (.tmp 2) (.tmp 12) rfl g (tkA t) rfl rfl 45 tz g1 infoTk rfl hone ?_; refine wpList_world hW9 ?_))
  refine bodyPost_ret (v := .agg (tkA t)) (res_c0 (p := 2) (ty := 45) rfl _ _ g 45 (tkA t) (0, 0) _ rfl r9 Tryz.underlying45 rfl infoTk) rfl ?_
  refine ⟨rfl, ?_⟩
  rw [← hW9]
  exact up_setRow (HU0.out.drewN nq) (by rw [HG.out]; exact Nat.le_refl _) _
set_option maxRecDepth 100000 in
set_option maxHeartbeats 16000000 in
theorem isMark_ (w0 W : World) (b bt off n c ml ms i d : Nat) (l : List Tok) (hE : Ev w0 b bt off n c l) (ho : Only b w0 W) (hi : i < n) (hP : QS W b bt off n c ml ms i d) (s : ByteArray) (m : List Int) (hm : Byt m) (hs : s.toList = (strOfNums m).toList) : Calls Tryz.prog 118 #[.pointer (some ⟨b, 0, none⟩), .string s] W (fun r w' => r = .returned (.bool (mk (tk l i) m)) ∧ Up W w') := by
  obtain ⟨Post, hPost⟩ : ∃ P : Ending → World → Prop, P = fun r w' => r = .returned (.bool (mk (tk l i) m)) ∧ Up W w' := ⟨_, rfl⟩
  rw [← hPost]
  have HPo : Hid (Post = fun r w' => r = .returned (.bool (mk (tk l i) m)) ∧ Up W w') := hPost
  clear hPost
  have HNW : Hid (∀ W2, Up W W2 → Calls Tryz.prog 114 #[.pointer (some ⟨b, 0, none⟩)] W2 fun r w' => r = .returned (.agg #[.int .i8 (tk l i).kind, .string (strOfNums (tk l i).text), .int .i64 (tk l i).num, .int .i64 (tk l i).pos]) ∧ Up W2 w') := fun W2 hu => next_ w0 W2 b bt off n c ml ms i d l hE (ho.trans (Only.up hu)) hi (hP.up hu)
  have hby := hE.byt i hi
  have hone := tkA_one (tk l i)
  have hiff : (strOfNums (tk l i).text).toList = s.toList ↔ (tk l i).text = m := by
    rw [hs]
    exact ⟨fun h => nums_inj hby hm h, fun h => by rw [h]⟩
  have HB : Hid (mk (tk l i) m = (decide ((tk l i).kind = 4) && decide ((tk l i).text = m))) := by
    unfold Hid mk
    rw [Bool.eq_iff_iff]
    simp
  rw [HB.out] at HPo
  clear hby hs hm hE ho hP HB
  generalize tk l i = t at *
  obtain ⟨kd, tx, tn, tp⟩ := t
  simp only [tkA] at hiff HNW HPo hone
  obtain ⟨st, hst⟩ : ∃ st, st = strOfNums tx := ⟨_, rfl⟩
  rw [← hst] at HNW hone hiff
  clear hst
  by_cases hk : kd = 4
  · subst hk
    by_cases ht : tx = m
    · have h2 : st.toList = s.toList := hiff.2 ht
      have HT : Hid (decide (tx = m) = true) := by unfold Hid; simpa using ht
      rw [HT.out] at HPo
      clear hiff ht
      go_enter Tryz.func118, Tryz.ntmps118
      go_wp2_with fail
      refine Calls.mono (HNW.out W (Up.refl _)) ?_
      rintro r w1 ⟨rfl, u1⟩
      obtain ⟨g, hg⟩ : ∃ g, g = w1.heap.size := ⟨_, rfl⟩
      obtain ⟨W1, hW1⟩ : ∃ W1, (w1.alloc (.cells tz 45)).setRow w1.heap.size #[.int .i8 4, .string st, .int .i64 tn, .int .i64 tp] = W1 := ⟨_, rfl⟩
      have r1 : W1.heap[g]? = some (.cells #[.int .i8 4, .string st, .int .i64 tn, .int .i64 tp] 45 (0, 0)) := by rw [← hW1, hg]; exact setRow_heap _ _ _ _ _ _ (heap_alloc_new _ _)
      have v1 : Up w1 W1 := by rw [← hW1]; exact up_setRow ((Up.refl _).alloc _) (Nat.le_refl _) _
      have HUW1 : Hid (Up W W1) := u1.trans v1
      have hgW : W.heap.size ≤ g := by rw [hg]; exact u1.size
      have x0 : W1.cell? ⟨g, 0, none⟩ = some (.int .i8 4) := by simp [World.cell?, r1]
      have x1 : W1.cell? ⟨g, 1, none⟩ = some (.string st) := by simp [World.cell?, r1]
      have x2 : W1.cell? ⟨g, 2, none⟩ = some (.int .i64 tn) := by simp [World.cell?, r1]
      have x3 : W1.cell? ⟨g, 3, none⟩ = some (.int .i64 tp) := by simp [World.cell?, r1]
      have hW1b : Hid ((w1.alloc (.cells tz 45)).setRow w1.heap.size #[.int .i8 4, .string st, .int .i64 tn, .int .i64 tp] = W1) := hW1
      clear hW1 u1 v1
      go_upto_region 2 with (first | (refine wpList_store_row rfl 45 (.tmp 5) (.tmp 7) rfl w1.heap.size #[.int .i8 4, .string st, .int .i64 tn, .int .i64 tp] rfl rfl 45 tz (heap_alloc_new w1 _) infoTk rfl hone ?_; refine wpList_world hW1b.out ?_))
      rw [← hg]
      clear hg hW1b
      go_wp2_with fail
      rw [HPo.out]
      exact ⟨rfl, HUW1.out⟩
    · have h2 : ¬ st.toList = s.toList := fun h => ht (hiff.1 h)
      have h3 : (st.toList == s.toList) = false := by simpa using h2
      have HT : Hid (decide (tx = m) = false) := by unfold Hid; simpa using ht
      rw [HT.out] at HPo
      clear hiff ht
      go_enter Tryz.func118, Tryz.ntmps118
      go_wp2_with fail
      refine Calls.mono (HNW.out W (Up.refl _)) ?_
      rintro r w1 ⟨rfl, u1⟩
      obtain ⟨g, hg⟩ : ∃ g, g = w1.heap.size := ⟨_, rfl⟩
      obtain ⟨W1, hW1⟩ : ∃ W1, (w1.alloc (.cells tz 45)).setRow w1.heap.size #[.int .i8 4, .string st, .int .i64 tn, .int .i64 tp] = W1 := ⟨_, rfl⟩
      have r1 : W1.heap[g]? = some (.cells #[.int .i8 4, .string st, .int .i64 tn, .int .i64 tp] 45 (0, 0)) := by rw [← hW1, hg]; exact setRow_heap _ _ _ _ _ _ (heap_alloc_new _ _)
      have v1 : Up w1 W1 := by rw [← hW1]; exact up_setRow ((Up.refl _).alloc _) (Nat.le_refl _) _
      have HUW1 : Hid (Up W W1) := u1.trans v1
      have hgW : W.heap.size ≤ g := by rw [hg]; exact u1.size
      have x0 : W1.cell? ⟨g, 0, none⟩ = some (.int .i8 4) := by simp [World.cell?, r1]
      have x1 : W1.cell? ⟨g, 1, none⟩ = some (.string st) := by simp [World.cell?, r1]
      have x2 : W1.cell? ⟨g, 2, none⟩ = some (.int .i64 tn) := by simp [World.cell?, r1]
      have x3 : W1.cell? ⟨g, 3, none⟩ = some (.int .i64 tp) := by simp [World.cell?, r1]
      have hW1b : Hid ((w1.alloc (.cells tz 45)).setRow w1.heap.size #[.int .i8 4, .string st, .int .i64 tn, .int .i64 tp] = W1) := hW1
      clear hW1 u1 v1
      go_upto_region 2 with (first | (refine wpList_store_row rfl 45 (.tmp 5) (.tmp 7) rfl w1.heap.size #[.int .i8 4, .string st, .int .i64 tn, .int .i64 tp] rfl rfl 45 tz (heap_alloc_new w1 _) infoTk rfl hone ?_; refine wpList_world hW1b.out ?_))
      rw [← hg]
      clear hg hW1b
      go_wp2_with fail
      rw [HPo.out]
      exact ⟨rfl, HUW1.out⟩
  · have hk2 : (kd == 4) = false := by simpa using hk
    have HT : Hid (decide (kd = 4) = false) := by unfold Hid; simpa using hk
    rw [HT.out] at HPo
    clear hiff hk
    go_enter Tryz.func118, Tryz.ntmps118
    go_wp2_with fail
    refine Calls.mono (HNW.out W (Up.refl _)) ?_
    rintro r w1 ⟨rfl, u1⟩
    obtain ⟨g, hg⟩ : ∃ g, g = w1.heap.size := ⟨_, rfl⟩
    obtain ⟨W1, hW1⟩ : ∃ W1, (w1.alloc (.cells tz 45)).setRow w1.heap.size #[.int .i8 kd, .string st, .int .i64 tn, .int .i64 tp] = W1 := ⟨_, rfl⟩
    have r1 : W1.heap[g]? = some (.cells #[.int .i8 kd, .string st, .int .i64 tn, .int .i64 tp] 45 (0, 0)) := by rw [← hW1, hg]; exact setRow_heap _ _ _ _ _ _ (heap_alloc_new _ _)
    have v1 : Up w1 W1 := by rw [← hW1]; exact up_setRow ((Up.refl _).alloc _) (Nat.le_refl _) _
    have HUW1 : Hid (Up W W1) := u1.trans v1
    have hgW : W.heap.size ≤ g := by rw [hg]; exact u1.size
    have x0 : W1.cell? ⟨g, 0, none⟩ = some (.int .i8 kd) := by simp [World.cell?, r1]
    have x1 : W1.cell? ⟨g, 1, none⟩ = some (.string st) := by simp [World.cell?, r1]
    have x2 : W1.cell? ⟨g, 2, none⟩ = some (.int .i64 tn) := by simp [World.cell?, r1]
    have x3 : W1.cell? ⟨g, 3, none⟩ = some (.int .i64 tp) := by simp [World.cell?, r1]
    have hW1b : Hid ((w1.alloc (.cells tz 45)).setRow w1.heap.size #[.int .i8 kd, .string st, .int .i64 tn, .int .i64 tp] = W1) := hW1
    clear hW1 u1 v1
    go_upto_region 2 with (first | (refine wpList_store_row rfl 45 (.tmp 5) (.tmp 7) rfl w1.heap.size #[.int .i8 kd, .string st, .int .i64 tn, .int .i64 tp] rfl rfl 45 tz (heap_alloc_new w1 _) infoTk rfl hone ?_; refine wpList_world hW1b.out ?_))
    rw [← hg]
    clear hg hW1b
    go_wp2_with fail
    rw [HPo.out]
    exact ⟨rfl, HUW1.out⟩
set_option maxRecDepth 100000 in
set_option maxHeartbeats 16000000 in
theorem name_ (w0 W : World) (b bt off n c ml ms i d : Nat) (l : List Tok) (hE : Ev w0 b bt off n c l) (ho : Only b w0 W) (hi : i < n) (hP : QS W b bt off n c ml ms i d) : Calls Tryz.prog 137 #[.pointer (some ⟨b, 0, none⟩)] W (fun r w' => r = .returned (.string (strOfNums (nm (tk l i)))) ∧ Up W w') := by
  obtain ⟨Post, hPost⟩ : ∃ P : Ending → World → Prop, P = fun r w' => r = .returned (.string (strOfNums (nm (tk l i)))) ∧ Up W w' := ⟨_, rfl⟩
  rw [← hPost]
  have HPo : Hid (Post = fun r w' => r = .returned (.string (strOfNums (nm (tk l i)))) ∧ Up W w') := hPost
  clear hPost
  have HNW : Hid (∀ W2, Up W W2 → Calls Tryz.prog 114 #[.pointer (some ⟨b, 0, none⟩)] W2 fun r w' => r = .returned (.agg #[.int .i8 (tk l i).kind, .string (strOfNums (tk l i).text), .int .i64 (tk l i).num, .int .i64 (tk l i).pos]) ∧ Up W2 w') := fun W2 hu => next_ w0 W2 b bt off n c ml ms i d l hE (ho.trans (Only.up hu)) hi (hP.up hu)
  have hone := tkA_one (tk l i)
  clear hE ho hP
  generalize tk l i = t at *
  obtain ⟨kd, tx, tn, tp⟩ := t
  simp only [tkA, nm] at HNW HPo hone
  obtain ⟨st, hst⟩ : ∃ st, st = strOfNums tx := ⟨_, rfl⟩
  rw [← hst] at HNW hone
  have HST : Hid (strOfNums tx = st) := hst.symm
  clear hst
  by_cases hk : kd = 1
  · subst hk
    rw [if_pos rfl, HST.out] at HPo
    go_enter Tryz.func137, Tryz.ntmps137
    go_wp2_with fail
    refine Calls.mono (HNW.out W (Up.refl _)) ?_
    rintro r w1 ⟨rfl, u1⟩
    obtain ⟨g, hg⟩ : ∃ g, g = w1.heap.size := ⟨_, rfl⟩
    obtain ⟨W1, hW1⟩ : ∃ W1, (w1.alloc (.cells tz 45)).setRow w1.heap.size #[.int .i8 1, .string st, .int .i64 tn, .int .i64 tp] = W1 := ⟨_, rfl⟩
    have r1 : W1.heap[g]? = some (.cells #[.int .i8 1, .string st, .int .i64 tn, .int .i64 tp] 45 (0, 0)) := by rw [← hW1, hg]; exact setRow_heap _ _ _ _ _ _ (heap_alloc_new _ _)
    have v1 : Up w1 W1 := by rw [← hW1]; exact up_setRow ((Up.refl _).alloc _) (Nat.le_refl _) _
    have HUW1 : Hid (Up W W1) := u1.trans v1
    have hgW : W.heap.size ≤ g := by rw [hg]; exact u1.size
    have x0 : W1.cell? ⟨g, 0, none⟩ = some (.int .i8 1) := by simp [World.cell?, r1]
    have x1 : W1.cell? ⟨g, 1, none⟩ = some (.string st) := by simp [World.cell?, r1]
    have x2 : W1.cell? ⟨g, 2, none⟩ = some (.int .i64 tn) := by simp [World.cell?, r1]
    have x3 : W1.cell? ⟨g, 3, none⟩ = some (.int .i64 tp) := by simp [World.cell?, r1]
    have hW1b : Hid ((w1.alloc (.cells tz 45)).setRow w1.heap.size #[.int .i8 1, .string st, .int .i64 tn, .int .i64 tp] = W1) := hW1
    clear hW1 u1 v1
    go_upto_region 2 with (first | (refine wpList_store_row rfl 45 (.tmp 3) (.tmp 5) rfl w1.heap.size #[.int .i8 1, .string st, .int .i64 tn, .int .i64 tp] rfl rfl 45 tz (heap_alloc_new w1 _) infoTk rfl hone ?_; refine wpList_world hW1b.out ?_))
    rw [← hg]
    clear hg hW1b
    go_wp2_with fail
    rw [HPo.out]
    exact ⟨rfl, HUW1.out⟩
  · have hk2 : (kd == 1) = false := by simpa using hk
    have hk3 : (kd != 1) = true := by simpa using hk
    rw [if_neg hk] at HPo
    clear hk
    go_enter Tryz.func137, Tryz.ntmps137
    go_wp2_with fail
    refine Calls.mono (HNW.out W (Up.refl _)) ?_
    rintro r w1 ⟨rfl, u1⟩
    obtain ⟨g, hg⟩ : ∃ g, g = w1.heap.size := ⟨_, rfl⟩
    obtain ⟨W1, hW1⟩ : ∃ W1, (w1.alloc (.cells tz 45)).setRow w1.heap.size #[.int .i8 kd, .string st, .int .i64 tn, .int .i64 tp] = W1 := ⟨_, rfl⟩
    have r1 : W1.heap[g]? = some (.cells #[.int .i8 kd, .string st, .int .i64 tn, .int .i64 tp] 45 (0, 0)) := by rw [← hW1, hg]; exact setRow_heap _ _ _ _ _ _ (heap_alloc_new _ _)
    have v1 : Up w1 W1 := by rw [← hW1]; exact up_setRow ((Up.refl _).alloc _) (Nat.le_refl _) _
    have HUW1 : Hid (Up W W1) := u1.trans v1
    have hgW : W.heap.size ≤ g := by rw [hg]; exact u1.size
    have x0 : W1.cell? ⟨g, 0, none⟩ = some (.int .i8 kd) := by simp [World.cell?, r1]
    have x1 : W1.cell? ⟨g, 1, none⟩ = some (.string st) := by simp [World.cell?, r1]
    have x2 : W1.cell? ⟨g, 2, none⟩ = some (.int .i64 tn) := by simp [World.cell?, r1]
    have x3 : W1.cell? ⟨g, 3, none⟩ = some (.int .i64 tp) := by simp [World.cell?, r1]
    have hW1b : Hid ((w1.alloc (.cells tz 45)).setRow w1.heap.size #[.int .i8 kd, .string st, .int .i64 tn, .int .i64 tp] = W1) := hW1
    clear hW1 u1 v1
    go_upto_region 2 with (first | (refine wpList_store_row rfl 45 (.tmp 3) (.tmp 5) rfl w1.heap.size #[.int .i8 kd, .string st, .int .i64 tn, .int .i64 tp] rfl rfl 45 tz (heap_alloc_new w1 _) infoTk rfl hone ?_; refine wpList_world hW1b.out ?_))
    rw [← hg]
    clear hg hW1b
    go_wp2_with fail
    rw [HPo.out]
    exact ⟨rfl, HUW1.out⟩
set_option maxRecDepth 100000 in
set_option maxHeartbeats 16000000 in
theorem isWord_ (w0 W : World) (b bt off n c ml ms i d : Nat) (l : List Tok) (hE : Ev w0 b bt off n c l) (ho : Only b w0 W) (hi : i < n) (hP : QS W b bt off n c ml ms i d) (s : ByteArray) (m : List Int) (hm : Byt m) (hs : s.toList = (strOfNums m).toList) (h0 : m ≠ []) : Calls Tryz.prog 138 #[.pointer (some ⟨b, 0, none⟩), .string s] W (fun r w' => r = .returned (.bool (wd (tk l i) m)) ∧ Up W w') := by
  obtain ⟨Post, hPost⟩ : ∃ P : Ending → World → Prop, P = fun r w' => r = .returned (.bool (wd (tk l i) m)) ∧ Up W w' := ⟨_, rfl⟩
  rw [← hPost]
  have HPo : Hid (Post = fun r w' => r = .returned (.bool (wd (tk l i) m)) ∧ Up W w') := hPost
  clear hPost
  have HN : Hid (Calls Tryz.prog 137 #[.pointer (some ⟨b, 0, none⟩)] W fun r w' => r = .returned (.string (strOfNums (nm (tk l i)))) ∧ Up W w') := name_ w0 W b bt off n c ml ms i d l hE ho hi hP
  have hby := hE.byt i hi
  have hbn : Byt (nm (tk l i)) := by
    unfold nm
    split
    · exact hby
    · intro c hc
      cases hc
  have hiff : (strOfNums (nm (tk l i))).toList = s.toList ↔ nm (tk l i) = m := by
    rw [hs]
    exact ⟨fun h => nums_inj hbn hm h, fun h => by rw [h]⟩
  have HB : Hid (wd (tk l i) m = decide (nm (tk l i) = m)) := by
    unfold Hid wd nm
    rw [Bool.eq_iff_iff]
    by_cases hk : (tk l i).kind = 1
    · rw [if_pos hk]
      simp [hk]
    · rw [if_neg hk]
      simp [hk, Ne.symm h0]
  rw [HB.out] at HPo
  clear hby hbn hs hm hE ho hP HB h0
  generalize nm (tk l i) = x at *
  generalize strOfNums x = st at *
  by_cases ht : x = m
  · have h2 : st.toList = s.toList := hiff.2 ht
    have HT : Hid (decide (x = m) = true) := by unfold Hid; simpa using ht
    rw [HT.out] at HPo
    clear hiff ht
    go_enter Tryz.func138, Tryz.ntmps138
    go_wp2_with fail
    refine Calls.mono HN.out ?_
    rintro r w1 ⟨rfl, u1⟩
    have HU1 : Hid (Up W w1) := u1
    clear u1
    go_wp2_with fail
    rw [HPo.out]
    exact ⟨rfl, HU1.out⟩
  · have h2 : ¬ st.toList = s.toList := fun h => ht (hiff.1 h)
    have h3 : (st.toList == s.toList) = false := by simpa using h2
    have HT : Hid (decide (x = m) = false) := by unfold Hid; simpa using ht
    rw [HT.out] at HPo
    clear hiff ht
    go_enter Tryz.func138, Tryz.ntmps138
    go_wp2_with fail
    refine Calls.mono HN.out ?_
    rintro r w1 ⟨rfl, u1⟩
    have HU1 : Hid (Up W w1) := u1
    clear u1
    go_wp2_with fail
    rw [HPo.out]
    exact ⟨rfl, HU1.out⟩
set_option maxRecDepth 100000 in
set_option maxHeartbeats 16000000 in
theorem isEnd_ (w0 W : World) (b bt off n c ml ms i d : Nat) (l : List Tok) (hE : Ev w0 b bt off n c l) (ho : Only b w0 W) (hi : i < n) (hP : QS W b bt off n c ml ms i d) : Calls Tryz.prog 76 #[.pointer (some ⟨b, 0, none⟩)] W (fun r w' => r = .returned (.bool (decide ((tk l i).kind = 0))) ∧ Up W w') := by
  obtain ⟨Post, hPost⟩ : ∃ P : Ending → World → Prop, P = fun r w' => r = .returned (.bool (decide ((tk l i).kind = 0))) ∧ Up W w' := ⟨_, rfl⟩
  rw [← hPost]
  have HPo : Hid (Post = fun r w' => r = .returned (.bool (decide ((tk l i).kind = 0))) ∧ Up W w') := hPost
  clear hPost
  have HNW : Hid (∀ W2, Up W W2 → Calls Tryz.prog 114 #[.pointer (some ⟨b, 0, none⟩)] W2 fun r w' => r = .returned (.agg #[.int .i8 (tk l i).kind, .string (strOfNums (tk l i).text), .int .i64 (tk l i).num, .int .i64 (tk l i).pos]) ∧ Up W2 w') := fun W2 hu => next_ w0 W2 b bt off n c ml ms i d l hE (ho.trans (Only.up hu)) hi (hP.up hu)
  clear hE ho hP
  have f0 := fld0
  generalize tk l i = t at *
  obtain ⟨kd, tx, tn, tp⟩ := t
  simp only at HNW HPo
  generalize strOfNums tx = st at *
  have HK : Hid (decide (kd = 0) = (kd == 0)) := by unfold Hid; rw [Bool.eq_iff_iff]; simp
  rw [HK.out] at HPo
  go_enter Tryz.func76, Tryz.ntmps76
  go_wp2_with fail
  refine Calls.mono (HNW.out W (Up.refl _)) ?_
  rintro r w1 ⟨rfl, u1⟩
  have HU1 : Hid (Up W w1) := u1
  clear u1
  go_wp2_with fail
  rw [HPo.out]
  exact ⟨by first | rfl | simp, HU1.out⟩
set_option maxRecDepth 100000 in
set_option maxHeartbeats 16000000 in
theorem refuse_ (w0 W : World) (b bt off n c ml ms i d : Nat) (l : List Tok) (hE : Ev w0 b bt off n c l) (ho : Only b w0 W) (hi : i < n) (hP : QS W b bt off n c ml ms i d) (er : Int) : Calls Tryz.prog 148 #[.pointer (some ⟨b, 0, none⟩), .int .i64 er] W (fun r w' => r = pnc er (tk l i).pos ∧ Up W w') := by
  obtain ⟨Post, hPost⟩ : ∃ P : Ending → World → Prop, P = fun r w' => r = pnc er (tk l i).pos ∧ Up W w' := ⟨_, rfl⟩
  rw [← hPost]
  have HPo : Hid (Post = fun r w' => r = pnc er (tk l i).pos ∧ Up W w') := hPost
  clear hPost
  have HNW : Hid (∀ W2, Up W W2 → Calls Tryz.prog 114 #[.pointer (some ⟨b, 0, none⟩)] W2 fun r w' => r = .returned (.agg #[.int .i8 (tk l i).kind, .string (strOfNums (tk l i).text), .int .i64 (tk l i).num, .int .i64 (tk l i).pos]) ∧ Up W2 w') := fun W2 hu => next_ w0 W2 b bt off n c ml ms i d l hE (ho.trans (Only.up hu)) hi (hP.up hu)
  clear hE ho hP
  have f3 := fld3
  generalize tk l i = t at *
  obtain ⟨kd, tx, tn, tp⟩ := t
  simp only at HNW HPo
  generalize strOfNums tx = st at *
  go_enter Tryz.func148, Tryz.ntmps148
  go_wp2_with fail
  refine Calls.mono (HNW.out W (Up.refl _)) ?_
  rintro r w1 ⟨rfl, u1⟩
  have HU1 : Hid (Up W w1) := u1
  clear u1
  go_wp2_with fail
  rw [HPo.out]
  exact ⟨rfl, rfl, HU1.out⟩
end TP
end Go.Proofs.YtkldllnnocdhbaaGreatDoor
