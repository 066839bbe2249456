
/-
  The walk as a flat list of what is wanted; the kinds' table against the document's words.
-/
import Derived.Test.YtgahdppcdeefaaaTy9
import Derived.Test.YtgahdppcdeefaaaRa9
namespace Go.Proofs.Ytgahdppcdeefaaa
namespace TR
def flat (S : List (Nat × Nat)) : List Nat := S.flatMap fun x => List.replicate x.2 x.1
theorem flat_cons (x : Nat × Nat) (S : List (Nat × Nat)) : flat (x :: S) = List.replicate x.2 x.1 ++ flat S := rfl
theorem flat_app (A B : List (Nat × Nat)) : flat (A ++ B) = flat A ++ flat B := List.flatMap_append
def fw : List Nd → List Nat → Nat → Nat × Bool
  | [], W, p => if W = [] then (0, true) else (p, false)
  | _ :: _, [], p => (p, false)
  | a :: r, tk :: W, p => match ews a tk with
    | none => (p, false)
    | some ws => fw r (flat ws ++ W) (p + 1)
theorem flat_pop : ∀ S, flat (popS S) = flat S
  | [] => rfl
  | x :: S => by
    rw [popS]
    split
    · rename_i h; rw [flat_pop S, flat_cons, h]; rfl
    · rfl
theorem flat_nil {S : List (Nat × Nat)} : popS S = [] ↔ flat S = [] := by
  constructor
  · intro h
    rw [← flat_pop, h]
    rfl
  · intro h
    cases hp : popS S with
    | nil => rfl
    | cons x S' =>
      have h1 := flat_pop S
      rw [hp, flat_cons, h] at h1
      have h2 := pop_many hp
      have h3 := congrArg List.length h1
      simp at h3
      exact absurd h3.1 h2
theorem flat_hd {S : List (Nat × Nat)} {x : Nat × Nat} {S' : List (Nat × Nat)} (h : popS S = x :: S') : flat S = x.1 :: flat ((x.1, x.2 - 1) :: S') := by
  have h2 := pop_many h
  obtain ⟨k, hk⟩ : ∃ k, x.2 = k + 1 := ⟨x.2 - 1, by omega⟩
  rw [← flat_pop, h, flat_cons, flat_cons, hk, List.replicate_succ]
  rfl
theorem gsh_fw : ∀ (l : List Nd) (S : List (Nat × Nat)) (p : Nat), gsh l S p = fw l (flat S) p
  | [], S, p => by
    unfold gsh fw
    by_cases h : popS S = []
    · rw [if_pos h, if_pos (flat_nil.1 h)]
    · rw [if_neg h, if_neg (fun h9 => h (flat_nil.2 h9))]
  | a :: r, S, p => by
    rw [gsh_cons]
    cases hp : popS S with
    | nil =>
      rw [flat_nil.1 hp, fw]
    | cons x S' =>
      rw [flat_hd hp, fw]
      simp only
      cases ews a x.1 with
      | none => rfl
      | some ws =>
        simp only
        rw [gsh_fw r, flat_app]
/- the document's wants as masks -/
def wk (w : Int) : Nat := if w = 0 then 1 else if w = 1 then 2 else if w = 2 then 4 else if w = 3 then 64 else if w = 4 then 8 else if w = 5 then 16 else if w = 6 then 40 else 192
def rexp (own : List Int) (other : Int) (next k : Nat) : List Int := (List.range k).map fun i => own.getD (next + i) other
def keys : List Int := tab.map (·.1)
theorem key_or (op : Int) : op ∈ keys ∨ kd op = k0 := by
  unfold kd
  cases h : tab.lookup op with
  | none => exact .inr rfl
  | some k => exact .inl (List.mem_map.2 ⟨(op, k), look_mem h, rfl⟩)
theorem key_is {op : Int} (h : op ∈ keys) : op = 1 ∨ op = 2 ∨ op = 3 ∨ op = 4 ∨ op = 5 ∨ op = 6 ∨ op = 7 ∨ op = 10 ∨ op = 11 ∨ op = 12 ∨ op = 13 ∨ op = 14 ∨ op = 15 ∨ op = 16 ∨ op = 17 ∨ op = 18 ∨ op = 19 ∨ op = 30 ∨ op = 31 ∨ op = 32 ∨ op = 33 ∨ op = 34 ∨ op = 35 ∨ op = 36 ∨ op = 37 ∨ op = 38 ∨ op = 39 ∨ op = 40 ∨ op = 41 ∨ op = 42 ∨ op = 43 ∨ op = 44 ∨ op = 45 ∨ op = 46 ∨ op = 47 ∨ op = 48 ∨ op = 49 ∨ op = 50 ∨ op = 51 ∨ op = 52 := by
  unfold keys tab at h
  simp only [List.map_cons, List.map_nil, List.mem_cons, List.not_mem_nil, or_false] at h
  omega
theorem key_in {op : Int} (h : op = 1 ∨ op = 2 ∨ op = 3 ∨ op = 4 ∨ op = 5 ∨ op = 6 ∨ op = 7 ∨ op = 10 ∨ op = 11 ∨ op = 12 ∨ op = 13 ∨ op = 14 ∨ op = 15 ∨ op = 16 ∨ op = 17 ∨ op = 18 ∨ op = 19 ∨ op = 30 ∨ op = 31 ∨ op = 32 ∨ op = 33 ∨ op = 34 ∨ op = 35 ∨ op = 36 ∨ op = 37 ∨ op = 38 ∨ op = 39 ∨ op = 40 ∨ op = 41 ∨ op = 42 ∨ op = 43 ∨ op = 44 ∨ op = 45 ∨ op = 46 ∨ op = 47 ∨ op = 48 ∨ op = 49 ∨ op = 50 ∨ op = 51 ∨ op = 52) : op ∈ keys := by
  unfold keys tab
  simp only [List.map_cons, List.map_nil, List.mem_cons, List.not_mem_nil, or_false]
  omega
theorem want_tab {op w : Int} (hw : w = 0 ∨ w = 1 ∨ w = 2 ∨ w = 3 ∨ w = 4 ∨ w = 5 ∨ w = 6 ∨ w = 7) : rWant op w = decide ((kd op).is &&& wk w ≠ 0) := by
  rcases key_or op with h | h
  · have h1 : keys.all (fun op => [0, 1, 2, 3, 4, 5, 6, 7].all fun w => rWant op w == decide ((kd op).is &&& wk w ≠ 0)) = true := by decide
    have h2 := List.all_eq_true.1 (List.all_eq_true.1 h1 op h) w (by rcases hw with rfl | rfl | rfl | rfl | rfl | rfl | rfl | rfl <;> simp)
    simpa using h2
  · rw [h]
    have h3 : decide (k0.is &&& wk w ≠ 0) = false := by simp [k0]
    rw [h3, Bool.eq_false_iff]
    intro h4
    have h5 : op ∉ keys := fun h9 => by
      have h6 : keys.all (fun op => (kd op).is != 0) = true := by decide
      have h7 := List.all_eq_true.1 h6 op h9
      rw [h] at h7
      exact absurd h7 (by decide)
    apply h5
    apply key_in
    unfold rWant rExpr at h4
    rcases hw with rfl | rfl | rfl | rfl | rfl | rfl | rfl | rfl <;> simp at h4 <;> omega
theorem num_tab {op n : Int} (h : op ∈ keys) (hn : n ≤ big) : (decide (0 ≤ n) && decide (n ≤ (kd op).most)) = rNum op n := by
  have h1 : keys.all (fun op => (decide (op = 3 ∨ op = 4 ∨ op = 5 ∨ op = 14 ∨ op = 30) && (kd op).most == big) || (decide (op = 7) && (kd op).most == 4) || (decide (op = 51) && (kd op).most == 3) || (decide (¬ (op = 3 ∨ op = 4 ∨ op = 5 ∨ op = 14 ∨ op = 30) ∧ op ≠ 7 ∧ op ≠ 51) && (kd op).most == 0)) = true := by decide
  have h2 := List.all_eq_true.1 h1 op h
  simp only [Bool.or_eq_true, Bool.and_eq_true, decide_eq_true_eq, beq_iff_eq] at h2
  unfold rNum
  rcases h2 with ((⟨h3, h4⟩ | ⟨h3, h4⟩) | ⟨h3, h4⟩) | ⟨⟨h3, h5, h6⟩, h4⟩
  · rw [h4, if_pos h3, decide_eq_true hn, Bool.and_true]
  · rw [h4, if_neg (by omega), if_pos h3]
  · rw [h4, if_neg (by omega), if_neg (by omega), if_pos h3]
  · rw [h4, if_neg h3, if_neg h5, if_neg h6]
    by_cases h0 : n = 0
    · subst h0; rfl
    · rw [decide_eq_false h0]
      by_cases h7 : 0 ≤ n
      · rw [decide_eq_false (p := n ≤ 0) (by omega)]; simp
      · rw [decide_eq_false h7]; rfl
theorem also_two {l a b : List Int} (ha : isN a = true ∧ words.contains a = true) (hb : isN b = true ∧ words.contains b = true) : (isN l && (!words.contains l || [a, b].contains l)) = ((isN l && !words.contains l) || (decide (l = a) || decide (l = b))) := by
  by_cases h1 : l = a
  · subst h1
    rw [ha.1]
    simp
  · by_cases h2 : l = b
    · subst h2
      rw [hb.1]
      simp
    · rw [decide_eq_false h1, decide_eq_false h2, Bool.or_self, Bool.or_false]
      have : [a, b].contains l = false := by
        rw [Bool.eq_false_iff]
        intro h
        rw [List.contains_iff_mem] at h
        simp only [List.mem_cons, List.not_mem_nil, or_false] at h
        rcases h with h | h
        · exact h1 h
        · exact h2 h
      rw [this, Bool.or_false]
theorem txt_tab {op : Int} {l : List Int} (h : op ∈ keys) : (kd op).text.ok l = rTx op l := by
  have h1 : keys.all (fun op => (decide (op = 2 ∨ op = 6 ∨ op = 52) && decide ((kd op).text = .txt)) || (decide (op = 11 ∨ op = 14 ∨ op = 15 ∨ op = 16 ∨ op = 50) && decide ((kd op).text = .free [])) || (decide (op = 12 ∨ op = 33) && decide ((kd op).text = .free [wself, wme])) || (decide (op = 19) && decide ((kd op).text = .free [whit, wdraw])) || (decide (op = 49) && decide ((kd op).text = .nam)) || (decide (¬ (op = 2 ∨ op = 6 ∨ op = 52) ∧ ¬ (op = 11 ∨ op = 14 ∨ op = 15 ∨ op = 16 ∨ op = 50) ∧ ¬ (op = 12 ∨ op = 33) ∧ op ≠ 19 ∧ op ≠ 49) && decide ((kd op).text = .none))) = true := by decide
  have h2 := List.all_eq_true.1 h1 op h
  simp only [Bool.or_eq_true, Bool.and_eq_true, decide_eq_true_eq] at h2
  unfold rTx
  rcases h2 with ((((⟨h3, h4⟩ | ⟨h3, h4⟩) | ⟨h3, h4⟩) | ⟨h3, h4⟩) | ⟨h3, h4⟩) | ⟨⟨h3, h5, h6, h7, h8⟩, h4⟩
  · rw [h4, if_pos h3]; rfl
  · rw [h4, if_neg (by omega), if_pos h3]
    show (isN l && (!words.contains l || [].contains l)) = _
    simp
  · rw [h4, if_neg (by omega), if_neg (by omega), if_pos h3]
    exact also_two (by decide) (by decide)
  · rw [h4, if_neg (by omega), if_neg (by omega), if_neg (by omega), if_pos h3]
    exact also_two (by decide) (by decide)
  · rw [h4, if_neg (by omega), if_neg (by omega), if_neg (by omega), if_neg (by omega), if_pos h3]; rfl
  · rw [h4, if_neg h3, if_neg h5, if_neg h6, if_neg h7, if_neg h8]; rfl
/- what a node wants, flat -/
def pfl (q : List Plc × Nat) : List Nat := flat (q.1.map fun p => (p.takes, q.2))
theorem plcs_each {k : Kd} (h : k.each ≠ 0) (ks : Int) : plcs k ks = if 0 ≤ ks then some ([⟨k.each, 0⟩], ks.toNat) else none := by
  unfold plcs
  rw [if_pos h]
theorem plcs_else {k : Kd} (h : k.each = 0) (hw : k.ways.all (fun w => decide (w.length ≤ 3)) = true) {ks : Int} (h0 : ks ≠ 0) (h1 : ks ≠ 1) (h2 : ks ≠ 2) (h3 : ks ≠ 3) : plcs k ks = none := by
  unfold plcs
  rw [if_neg (by rw [h]; exact fun h => h rfl)]
  have hf : k.ways.find? (fun w => (w.length : Int) == ks) = none := by
    rw [List.find?_eq_none]
    intro w hm
    have h9 := List.all_eq_true.1 hw w hm
    simp only [decide_eq_true_eq] at h9
    simp only [beq_iff_eq]
    omega
  rw [hf, if_neg (fun h => h0 h.1)]
theorem plcs_tab {op ks : Int} (h : op ∈ keys) : (plcs (kd op) ks).map pfl = if (rask op ks).2.2 = true then some ((rexp (rask op ks).1 (rask op ks).2.1 0 ks.toNat).map wk) else none := by
  by_cases hg : op = 1 ∨ op = 2 ∨ op = 10 ∨ op = 19 ∨ op = 50
  · have h1 : (kd op).each ≠ 0 ∧ ∃ o : Int, wk o = (kd op).each ∧ ∀ ks, rask op ks = ([], o, decide (0 ≤ ks)) := by
      rcases hg with rfl | rfl | rfl | rfl | rfl
      · exact ⟨by decide, 1, by decide, fun ks => rfl⟩
      · exact ⟨by decide, 2, by decide, fun ks => rfl⟩
      · exact ⟨by decide, 5, by decide, fun ks => rfl⟩
      · exact ⟨by decide, 3, by decide, fun ks => rfl⟩
      · exact ⟨by decide, 7, by decide, fun ks => rfl⟩
    obtain ⟨h1, o, h2, h3⟩ := h1
    rw [plcs_each h1, h3]
    simp only
    by_cases h0 : 0 ≤ ks
    · rw [if_pos h0, if_pos (by simpa using h0), Option.map_some]
      congr 1
      show flat [((kd op).each, ks.toNat)] = _
      rw [flat_cons, ← h2]
      unfold rexp flat
      rw [List.flatMap_nil, List.append_nil, List.map_map]
      apply List.ext_getElem?
      intro i
      rw [List.getElem?_replicate, List.getElem?_map]
      split
      · rename_i hi
        rw [List.getElem?_range hi]
        rfl
      · rename_i hi
        rw [List.getElem?_eq_none (by simpa using hi)]
        rfl
    · rw [if_neg h0, if_neg (by simpa using h0)]
      rfl
  · have hk := key_is h
    have hall : keys.all (fun op => decide (op = 1 ∨ op = 2 ∨ op = 10 ∨ op = 19 ∨ op = 50) || ((kd op).each == 0 && (kd op).ways.all (fun w => decide (w.length ≤ 3)) && [0, 1, 2, 3].all fun ks => (plcs (kd op) ks).map pfl == if (rask op ks).2.2 = true then some ((rexp (rask op ks).1 (rask op ks).2.1 0 ks.toNat).map wk) else none)) = true := by decide +kernel
    have h2 := List.all_eq_true.1 hall op h
    simp only [Bool.or_eq_true, decide_eq_true_eq, Bool.and_eq_true, beq_iff_eq] at h2
    rcases h2 with h2 | ⟨⟨h2, h3⟩, h4⟩
    · exact absurd h2 hg
    · by_cases hs : ks = 0 ∨ ks = 1 ∨ ks = 2 ∨ ks = 3
      · have h5 := List.all_eq_true.1 h4 ks (by rcases hs with rfl | rfl | rfl | rfl <;> simp)
        simpa using h5
      · rw [plcs_else h2 h3 (by omega) (by omega) (by omega) (by omega)]
        have h6 : (rask op ks).2.2 = false := by
          have e0 : ¬ ks = 0 := by omega
          have e1 : ¬ ks = 1 := by omega
          have e2 : ¬ ks = 2 := by omega
          have e3 : ¬ ks = 3 := by omega
          unfold rask
          rw [if_neg (show ¬ op = 1 by omega), if_neg (show ¬ op = 2 by omega), if_neg (show ¬ op = 10 by omega), if_neg (show ¬ op = 19 by omega), if_neg (show ¬ op = 50 by omega)]
          simp only [apply_ite Prod.snd, decide_eq_false e0, decide_eq_false e1, decide_eq_false e2, decide_eq_false e3, if_neg e1, Bool.or_false, ite_self]
        rw [h6]
        rfl
end TR
end Go.Proofs.Ytgahdppcdeefaaa
