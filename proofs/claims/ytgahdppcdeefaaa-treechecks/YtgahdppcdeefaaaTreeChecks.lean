/- The law TreeChecks returns true for every list of nodes: the program and the document say the same of it, whether it is a tree, at which node it is none, how deep and how heavy it is, and again once a node of it is written over; the list stays as it was handed in; no conditions. -/
import Derived.Test.YtgahdppcdeefaaaRz9
import Derived.Test.YtgahdppcdeefaaaNb9
import Derived.Test.YtgahdppcdeefaaaNf9
import Derived.Test.YtgahdppcdeefaaaNg9
import Derived.Test.YtgahdppcdeefaaaRows
import Derived.WalkKit
import Derived.ProofKit
import Derived.OpenShut
import Derived.ShutString
import Derived.ChangeOld
import Derived.Below
namespace Go.Proofs.Ytgahdppcdeefaaa
open Go.RowKit
attribute [local go_sem ↓] Go.wp_at_zero Go.wp_at_succ
namespace TR
theorem set_at {l : List Value} {m q : Nat} {x : Value} (hm : m < l.length) : (l.set m x)[q]? = if m = q then some x else l[q]? := by
  rw [List.getElem?_set]
  split
  · first | rfl | (rw [if_pos hm])
  · rfl
theorem WN.write {base : Nat} {W : World} {g n c k : Nat} {l : List Nd} (h : WN base W (.slice (some ⟨g, 0, none⟩) n c) l) (hk : k < l.length) : WN base (((W.setCell ⟨g, k * 7, none⟩ (.int .i8 31)).setCell ⟨g, k * 7 + 4, none⟩ (.string ⟨#[]⟩)).setCell ⟨g, k * 7 + 2, none⟩ (.int .i64 0)) (.slice (some ⟨g, 0, none⟩) n c) (l.set k { l.getD k dn with op := 31, text := [], n := 0 }) := by
  obtain ⟨g2, cs, h1, h2, h3, h4, h5⟩ := h
  cases h2
  refine ⟨g, ((cs.set (k * 7) (.int .i8 31)).set (k * 7 + 4) (.string ⟨#[]⟩)).set (k * 7 + 2) (.int .i64 0), h1, by rw [List.length_set], ?_, by simp only [List.length_set]; exact h4, ?_⟩
  · have h9 := set_cellsN (j := k * 7 + 2) (x := .int .i64 0) (set_cellsN (j := k * 7 + 4) (x := .string ⟨#[]⟩) (set_cellsN (j := k * 7) (x := .int .i8 31) h3))
    simpa using h9
  · intro i hi j hj
    rw [List.length_set] at hi
    have hl : k * 7 + 7 ≤ (l.length + 64) * 7 := by omega
    rw [set_at (by simp only [List.length_set]; omega), set_at (by simp only [List.length_set]; omega), set_at (by omega)]
    by_cases hik : i = k
    · subst hik
      have e : wNd (l.set i { l.getD i dn with op := 31, text := [], n := 0 }) i = { l.getD i dn with op := 31, text := [], n := 0 } := by
        unfold wNd
        rw [if_pos (by rw [List.length_set]; exact hk), List.getD_eq_getElem?_getD, List.getElem?_set_self hk]
        rfl
      rw [e]
      have h6 := h5 i hi j hj
      have e2 : wNd l i = l.getD i dn := by unfold wNd; rw [if_pos hk]
      rw [e2] at h6
      have hj2 : j = 0 ∨ j = 1 ∨ j = 2 ∨ j = 3 ∨ j = 4 ∨ j = 5 ∨ j = 6 := by omega
      rcases hj2 with rfl | rfl | rfl | rfl | rfl | rfl | rfl
      · rw [if_neg (by omega), if_neg (by omega), if_pos (by omega)]; rfl
      · rw [if_neg (by omega), if_neg (by omega), if_neg (by omega), h6]; rfl
      · rw [if_pos (by omega)]; rfl
      · rw [if_neg (by omega), if_neg (by omega), if_neg (by omega), h6]; rfl
      · rw [if_neg (by omega), if_pos (by omega)]; rfl
      · rw [if_neg (by omega), if_neg (by omega), if_neg (by omega), h6]; rfl
      · rw [if_neg (by omega), if_neg (by omega), if_neg (by omega), h6]; rfl
    · rw [if_neg (by omega), if_neg (by omega), if_neg (by omega), h5 i hi j hj]
      have e : wNd (l.set k { l.getD k dn with op := 31, text := [], n := 0 }) i = wNd l i := by
        unfold wNd
        rw [List.length_set, List.getD_eq_getElem?_getD, List.getElem?_set_ne (Ne.symm hik), ← List.getD_eq_getElem?_getD]
      rw [e]
theorem ok_byt9 {l : List Nd} (h : ∀ t ∈ l, NdOk t) : ∀ a ∈ l, Byt a.text := fun a ha => (h a ha).1
theorem ok_len9 {l : List Nd} (h : ∀ t ∈ l, NdOk t) : ∀ a ∈ l, a.text.length ≤ 281474976710656 := fun a ha => (h a ha).2.1
theorem ok_kid9 {l : List Nd} (h : ∀ t ∈ l, NdOk t) : ∀ a ∈ l, a.kids ≤ 9223372036854775807 := fun a ha => (h a ha).2.2.2.2.2.2.2.2
theorem ok_n9 {l : List Nd} (h : ∀ t ∈ l, NdOk t) : ∀ a ∈ l, a.n ≤ big := fun a ha => (h a ha).2.2.2.2.1.2
theorem ok_set {l : List Nd} (h : ∀ t ∈ l, NdOk t) (k : Nat) (hk : k < l.length) : ∀ t ∈ l.set k { l.getD k dn with op := 31, text := [], n := 0 }, NdOk t := by
  intro t ht
  rcases List.mem_or_eq_of_mem_set ht with h1 | rfl
  · exact h t h1
  · have hm : l.getD k dn ∈ l := by
      rw [List.getD_eq_getElem?_getD, List.getElem?_eq_getElem hk]
      exact List.getElem_mem _
    obtain ⟨k1, k2, k3, k4, k5, k6, k7, k8⟩ := h _ hm
    exact ⟨fun c hc => by (cases hc), by simp, by simp, k4, by simp, k6, k7, k8⟩
set_option maxRecDepth 100000 in
set_option maxHeartbeats 16000000 in
theorem tchecks (v : Value) (l : List Nd) (w : World) (h0 : NLs w v l) (k0 : ∀ t ∈ l, NdOk t) (n0 : l.length ≤ 140737488355328) : Calls Try.prog 3 #[v] w (fun e w' => e = .returned (.bool true) ∧ Up w w') := by
  obtain ⟨Post, hPost⟩ : ∃ P : Ending → World → Prop, P = fun e w' => e = .returned (.bool true) ∧ Up w w' := ⟨_, rfl⟩
  rw [← hPost]
  have HPo : Hid (Post = fun e w' => e = .returned (.bool true) ∧ Up w w') := hPost
  clear hPost
  have HB0 : Hid (Calls Try.prog 8 #[v] w (BeyR l w)) := beyond_ v l w h0 n0 (ok_len9 k0)
  have HA : Hid (NLs w v l ∧ (∀ a ∈ l, Byt a.text) ∧ (∀ a ∈ l, a.n ≤ big) ∧ (∀ a ∈ l, a.kids ≤ 9223372036854775807)) := ⟨h0, ok_byt9 k0, ok_n9 k0, ok_kid9 k0⟩
  have HOK : Hid (∀ t ∈ l, NdOk t) := k0
  have HU0 : Hid (Up w w) := Up.refl _
  clear h0 k0 n0
  go_enter Try.func3, Try.ntmps3
  go_wp2_with fail
  refine Calls.mono HB0.out ?_
  rintro e w0 ⟨⟨x, rfl, hx⟩, hw0⟩
  obtain rfl := hw0.symm
  clear HB0 hw0
  cases x with
  | true =>
    go_wp2_with fail
    rw [HPo.out]
    exact ⟨rfl, Up.refl _⟩
  | false =>
    have HL0 : Hid (l.length ≤ 65536) := hx rfl
    have HLN : Hid (l.length ≤ 4294967296 ∧ l.length ≤ 1000000) := ⟨Nat.le_trans HL0.out (by decide), Nat.le_trans HL0.out (by decide)⟩
    clear hx
    go_wp2_with fail
    refine Calls.mono (wideN_ v l w HA.out.1 HLN.out.1) ?_
    rintro e w1 ⟨x, rfl, hx, u1⟩
    have HXw1 : Hid (WN w.heap.size w1 x l) := hx
    have HUw1 : Hid (Up w w1) := u1
    clear hx u1
    go_wp2_with fail
    refine Calls.mono (check_ x l w1 HXw1.out.nl HA.out.2.1 HA.out.2.2.2 HLN.out.2) ?_
    rintro e w2 ⟨rfl, uw2⟩
    have HUw2 : Hid (Up w w2) := HUw1.out.trans uw2
    have HXw2 : Hid (WN w.heap.size w2 x l) := HXw1.out.up uw2
    clear HXw1
    clear uw2 HUw1
    go_wp2_with fail
    refine Calls.mono (depth_ x l w2 HXw2.out.nl HA.out.2.1 HA.out.2.2.2 HLN.out.2) ?_
    rintro e w3 ⟨rfl, uw3⟩
    have HUw3 : Hid (Up w w3) := HUw2.out.trans uw3
    have HXw3 : Hid (WN w.heap.size w3 x l) := HXw2.out.up uw3
    clear HXw2
    clear uw3 HUw2
    go_wp2_with fail
    refine Calls.mono (weight_ x l w3 HXw3.out.nl HA.out.2.1 HA.out.2.2.2 HLN.out.2) ?_
    rintro e w4 ⟨rfl, uw4⟩
    have HUw4 : Hid (Up w w4) := HUw3.out.trans uw4
    have HXw4 : Hid (WN w.heap.size w4 x l) := HXw3.out.up uw4
    clear HXw3
    clear uw4 HUw3
    go_wp2_with fail
    refine Calls.mono (rcheck_ v l w4 (HA.out.1.up HUw4.out) HA.out.2.1 HA.out.2.2.1 HA.out.2.2.2 HLN.out.2) ?_
    rintro e w5 ⟨rfl, uw5⟩
    have HUw5 : Hid (Up w w5) := HUw4.out.trans uw5
    have HXw5 : Hid (WN w.heap.size w5 x l) := HXw4.out.up uw5
    clear HXw4
    clear uw5 HUw4
    go_wp2_with fail
    refine Calls.mono (rdepth_ v l w5 (HA.out.1.up HUw5.out) HA.out.2.1 HA.out.2.2.1 HA.out.2.2.2 HLN.out.2) ?_
    rintro e w6 ⟨rfl, uw6⟩
    have HUw6 : Hid (Up w w6) := HUw5.out.trans uw6
    have HXw6 : Hid (WN w.heap.size w6 x l) := HXw5.out.up uw6
    clear HXw5
    clear uw6 HUw5
    go_wp2_with fail
    refine Calls.mono (rweight_ v l w6 (HA.out.1.up HUw6.out) HA.out.2.1 HA.out.2.2.1 HA.out.2.2.2 HLN.out.2) ?_
    rintro e w7 ⟨rfl, uw7⟩
    have HUw7 : Hid (Up w w7) := HUw6.out.trans uw7
    have HXw7 : Hid (WN w.heap.size w7 x l) := HXw6.out.up uw7
    clear HXw6
    clear uw7 HUw6
    go_wp2_with fail
    refine Calls.mono (eqN_ x v l w7 HXw7.out.nl (HA.out.1.up HUw7.out) HLN.out.1) ?_
    rintro e w8 ⟨rfl, uw8⟩
    have HUw8 : Hid (Up w w8) := HUw7.out.trans uw8
    have HXw8 : Hid (WN w.heap.size w8 x l) := HXw7.out.up uw8
    clear HXw7
    clear uw8 HUw7
    go_wp2_with fail
    refine Calls.mono (spareN_ _ x l w8 HXw8.out HLN.out.1) ?_
    rintro e w9 ⟨rfl, uw9⟩
    have HUw9 : Hid (Up w w9) := HUw8.out.trans uw9
    have HXw9 : Hid (WN w.heap.size w9 x l) := HXw8.out.up uw9
    clear HXw8
    clear uw9 HUw8
    obtain ⟨g, hxv⟩ : ∃ g, x = .slice (some ⟨g, 0, none⟩) l.length (l.length + 64) := by
      obtain ⟨g, cs, -, h2, -⟩ := HXw9.out
      exact ⟨g, h2⟩
    subst hxv
    obtain ⟨n, hn⟩ : ∃ n, n = l.length := ⟨_, rfl⟩
    rw [← hn] at HXw9 ⊢
    have HN : Hid (n = l.length) := hn
    have hn9 : n ≤ 65536 := by have := HL0.out; omega
    clear hn
    by_cases hz : n = 0
    · subst hz
      go_wp2_with fail
      refine Calls.mono (lives_ w9) ?_
      rintro e wa ⟨rfl, ua⟩
      have HUa : Hid (Up w wa) := HUw9.out.trans ua
      clear ua
      go_wp2_with fail
      rw [HPo.out]
      exact ⟨rfl, HUa.out⟩
    · have hz2 : ((n : Int) == 0) = false := by simp; omega
      have hz3 : ¬ (n : Int) = 0 := by omega
      obtain ⟨k, hk⟩ : ∃ k, k = n * 2 / 3 := ⟨_, rfl⟩
      have ek1 : IntKind.i64.wrap ((n : Int) * 2) = (n : Int) * 2 := by rw [IntKind.wrap_i64]; omega
      have ek2 : ((n : Int) * 2).tdiv 3 = (k : Int) := by rw [Int.tdiv_eq_ediv_of_nonneg (by omega)]; omega
      have ek3 : IntKind.i64.wrap (k : Int) = (k : Int) := by rw [IntKind.wrap_i64]; omega
      have hkn : (k : Int) < (n : Int) := by omega
      have hkl : k < l.length := by have := HN.out; omega
      obtain ⟨Wz, hWz⟩ : ∃ Wz, ((w9.setCell ⟨g, k * 7, none⟩ (.int .i8 31)).setCell ⟨g, k * 7 + 4, none⟩ (.string ⟨#[]⟩)).setCell ⟨g, k * 7 + 2, none⟩ (.int .i64 0) = Wz := ⟨_, rfl⟩
      obtain ⟨l2, hl2⟩ : ∃ l2, l2 = l.set k { l.getD k dn with op := 31, text := [], n := 0 } := ⟨_, rfl⟩
      have HXz : Hid (WN w.heap.size Wz (.slice (some ⟨g, 0, none⟩) n (n + 64)) l2) := by
        unfold Hid
        rw [← hWz, hl2]
        exact WN.write HXw9.out hkl
      have HOK2 : Hid (∀ t ∈ l2, NdOk t) := by unfold Hid; rw [hl2]; exact ok_set HOK.out k hkl
      have HL2 : Hid (l2.length ≤ 4294967296 ∧ l2.length ≤ 1000000) := by unfold Hid; rw [hl2, List.length_set]; exact HLN.out
      have hgb : w.heap.size ≤ g := by
        obtain ⟨g2, cs, h1, h2, -⟩ := HXw9.out
        cases h2
        exact h1
      have HUz : Hid (Up w Wz) := by unfold Hid; rw [← hWz]; exact up_setN (up_setN (up_setN HUw9.out _ _ hgb) _ _ hgb) _ _ hgb
      have HW9 : Hid (((w9.setCell ⟨g, k * 7, none⟩ (.int .i8 31)).setCell ⟨g, k * 7 + 4, none⟩ (.string ⟨#[]⟩)).setCell ⟨g, k * 7 + 2, none⟩ (.int .i64 0) = Wz) := hWz
      have hcc : ∀ j, j < 7 → w9.cell? ⟨g, k * 7 + j, none⟩ = (ndc (l.getD k dn))[j]? := fun j hj => by
        obtain ⟨g2, cs, h1, h2, h3, h4, h5⟩ := HXw9.out
        cases h2
        have h6 := h5 k (by omega) j hj
        unfold wNd at h6
        rw [if_pos hkl] at h6
        rw [← h6]
        simp [World.cell?, h3]
      have fg : ∀ j, w9.frozen? ⟨g, j, none⟩ = false := fun j => by
        obtain ⟨g2, cs, h1, h2, h3, h4, h5⟩ := HXw9.out
        cases h2
        exact froz_f h3 j
      have x0 : w9.cell? ⟨g, k * 7, none⟩ = some (.int .i8 (l.getD k dn).op) := hcc 0 (by omega)
      have x2 : w9.cell? ⟨g, k * 7 + 2, none⟩ = some (.int .i64 (l.getD k dn).n) := hcc 2 (by omega)
      have x4 : w9.cell? ⟨g, k * 7 + 4, none⟩ = some (.string (strOfNums (l.getD k dn).text)) := hcc 4 (by omega)
      generalize (l.getD k dn).op = xo at x0
      generalize (l.getD k dn).n = xn at x2
      generalize strOfNums (l.getD k dn).text = xt at x4
      generalize ckE l = ce at *
      generalize ckA l = ca at *
      generalize dpt l = dd at *
      generalize wgt l = ww at *
      clear hcc hk hl2 hkl HXw9 HW9 hz
      have hWz2 := hWz
      go_upto_region 16 with fail
      clear hWz hWz2 x0 x2 x4 fg
      go_wp2_with fail
      refine Calls.mono (copyN_ _ l2 Wz HXz.out.nl HL2.out.1) ?_
      rintro e a1 ⟨y, rfl, hy, ua1⟩
      have HUa1 : Hid (Up w a1) := HUz.out.trans ua1
      have HXa1 : Hid (WN w.heap.size a1 (.slice (some ⟨g, 0, none⟩) n (n + 64)) l2) := HXz.out.up ua1
      have HOa1 : Hid (NLs a1 y l2) := own_nl hy
      clear hy ua1 HXz HUz
      go_wp2_with fail
      refine Calls.mono (check_ _ l2 a1 HXa1.out.nl (ok_byt9 HOK2.out) (ok_kid9 HOK2.out) HL2.out.2) ?_
      rintro e a2 ⟨rfl, ua2⟩
      have HUa2 : Hid (Up w a2) := HUa1.out.trans ua2
      have HXa2 : Hid (WN w.heap.size a2 (.slice (some ⟨g, 0, none⟩) n (n + 64)) l2) := HXa1.out.up ua2
      have HOa2 : Hid (NLs a2 y l2) := HOa1.out.up ua2
      clear ua2 HUa1 HXa1 HOa1
      go_wp2_with fail
      refine Calls.mono (rcheck_ y l2 a2 HOa2.out (ok_byt9 HOK2.out) (ok_n9 HOK2.out) (ok_kid9 HOK2.out) HL2.out.2) ?_
      rintro e a3 ⟨rfl, ua3⟩
      have HUa3 : Hid (Up w a3) := HUa2.out.trans ua3
      have HXa3 : Hid (WN w.heap.size a3 (.slice (some ⟨g, 0, none⟩) n (n + 64)) l2) := HXa2.out.up ua3
      have HOa3 : Hid (NLs a3 y l2) := HOa2.out.up ua3
      clear ua3 HUa2 HXa2 HOa2
      go_wp2_with fail
      refine Calls.mono (depth_ _ l2 a3 HXa3.out.nl (ok_byt9 HOK2.out) (ok_kid9 HOK2.out) HL2.out.2) ?_
      rintro e a4 ⟨rfl, ua4⟩
      have HUa4 : Hid (Up w a4) := HUa3.out.trans ua4
      have HXa4 : Hid (WN w.heap.size a4 (.slice (some ⟨g, 0, none⟩) n (n + 64)) l2) := HXa3.out.up ua4
      have HOa4 : Hid (NLs a4 y l2) := HOa3.out.up ua4
      clear ua4 HUa3 HXa3 HOa3
      go_wp2_with fail
      refine Calls.mono (rdepth_ y l2 a4 HOa4.out (ok_byt9 HOK2.out) (ok_n9 HOK2.out) (ok_kid9 HOK2.out) HL2.out.2) ?_
      rintro e a5 ⟨rfl, ua5⟩
      have HUa5 : Hid (Up w a5) := HUa4.out.trans ua5
      have HXa5 : Hid (WN w.heap.size a5 (.slice (some ⟨g, 0, none⟩) n (n + 64)) l2) := HXa4.out.up ua5
      have HOa5 : Hid (NLs a5 y l2) := HOa4.out.up ua5
      clear ua5 HUa4 HXa4 HOa4
      go_wp2_with fail
      refine Calls.mono (lives_ a5) ?_
      rintro e a6 ⟨rfl, ua6⟩
      have HUa6 : Hid (Up w a6) := HUa5.out.trans ua6
      clear ua6
      go_wp2_with fail
      rw [HPo.out]
      exact ⟨rfl, HUa6.out⟩
end TR
end Go.Proofs.Ytgahdppcdeefaaa
namespace Go.Proofs.Ytgahdppcdeefaaa.treeChecks
open Go.ChangeShapes Go.WideShapes Go.ChangeAt Go.RowKit
open Go.ChangeMaps (open_string shut_string)

theorem own : ownKnob Try.prog.godebug = none := by kernel_rfl
theorem laidOut : laidOutB Try.prog = true := by kernel_rfl

theorem walk {W : World} (v0 : Value) (l : List TR.Nd) (h0 : TR.NLs W v0 l) (k0 : ∀ t ∈ l, TR.NdOk t) (n0 : l.length ≤ 140737488355328) (w : World) (e : w = W) :
    Calls Try.prog 3 #[v0] w fun e w' => e = .returned (.bool true) ∧ Below w.heap.size w w' := by
  subst e
  exact TR.tchecks v0 l w h0 k0 n0

set_option maxRecDepth 100000 in
theorem lifted (os : Os) (started : os.Started) (H : Type) (enc : TypeId × Value → H) :
    ReturnsInHanded {} Try.checked os 3 .any (Rows.treeChecksSpec.pre6 enc Try.prog Try.f3 Rows.treeChecksRow.domain false) (Rows.treeChecksSpec.post enc Try.prog Try.f3 false true false false) := by
  refine returnsInHanded_of_change_sized (C := Try.checked) own started (by kernel_rfl) Try.func3
    (ChangeSpec.witness6 (enc := enc) (C := Try.checked) false ⟨#[], #[.slice none 0 0], []⟩ 8 (by kernel_rfl) (by kernel_rfl) (by kernel_rfl) (by kernel_rfl)) ?_
  intro W base args ds gs before hval0 hW hcnd hsz _
  have hval : ∀ (j : Nat) t v, Try.f3.params[j]? = some t → args[j]? = some v → Value.okWide Try.prog W .any base t v := hval0
  have hW' := hW
  obtain ⟨p, q, hA0, hV, rfl, hfz, hnd⟩ := hW
  have hA : DataW.TrodAll enc Try.prog W 0 (fun _ => true) true Try.f3.params.toList args.toList ds p := hA0
  rw [Try.params3] at hA hval
  obtain ⟨v0, vs0, d0, ds0, p0, q0, hargs, rfl, rfl, h0, r0⟩ := trodAll_cons hA
  obtain ⟨rfl, rfl, rfl⟩ := trodAll_nil r0
  obtain rfl : args = #[v0] := by cases args; simp_all
  obtain ⟨rfl, rfl⟩ := trodVars_none hV
  have k0 := h0
  have lt0 : ∀ x ∈ p0, x.block < W.heap.size := by obtain ⟨m, hm⟩ := k0; exact DataW.trod_lt m _ _ _ hm
  obtain ⟨z0, w0, y0, x0⟩ := TR.open_nodes (hval 0 22 v0 rfl rfl) h0 (fun n hn => by
    have := List.all_eq_true.1 hsz n (DataW.weights_mem_each (j := 0) (t := 22) rfl rfl n hn)
    simpa using this)
  clear hA0 hval0
  refine (walk v0 z0 w0 y0 x0 W rfl).mono fun e W' ⟨he, bel⟩ => ?_
  subst he
  exact ⟨_, rfl, _, _, _, [], _, [], hW', trodAll_mk1 (shut_bool Try.underlying4 _), (trodAll_cons_mk (Below.trod laidOut (by kernel_rfl) (of_decide_eq_true (by kernel_rfl)) k0 bel lt0) trodAll_mk0), rfl, bel.frame _, fun h => by cases h⟩

theorem over : Rows.treeChecksRow.holds Try.pinned (OpenSpec.ofChange Rows.treeChecksSpec) :=
  OpenClaim.holds_of_wide 3 Try.f3 rfl rfl rfl rfl rfl rfl rfl ⟨rfl, rfl, rfl, rfl, rfl⟩ rfl rfl rfl rfl rfl (by kernel_rfl) Try.func3 (by kernel_rfl)
    (of_decide_eq_true (by kernel_rfl)) (by unfold Func.isWrapper; first | (rw [if_pos (by decide +kernel)]; kernel_rfl) | (rw [if_neg (by decide +kernel)]; exact ⟨rfl, rfl⟩))
    (fun os started H enc _ => lifted os started H enc)

theorem proved : Rows.TreeChecksSaid := over
end Go.Proofs.Ytgahdppcdeefaaa.treeChecks
namespace Go.Proofs.Ytgahdppcdeefaaa
theorem treeChecks_holds : Rows.TreeChecksSaid := treeChecks.proved
#print axioms treeChecks_holds
end Go.Proofs.Ytgahdppcdeefaaa
