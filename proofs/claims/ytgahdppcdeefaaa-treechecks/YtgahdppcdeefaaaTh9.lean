/-
  The document's walk over its frames, and that it is the flat walk.
-/
import Derived.Test.YtgahdppcdeefaaaTy9
import Derived.Test.YtgahdppcdeefaaaRa9
namespace Go.Proofs.Ytgahdppcdeefaaa
namespace TR
def flat (S : List (Nat × Nat)) : List Nat := S.flatMap fun x => List.replicate x.2 x.1
theorem flat_cons (x : Nat × Nat) (S : List (Nat × Nat)) : flat (x :: S) = List.replicate x.2 x.1 ++ flat S := rfl
theorem flat_app (A B : List (Nat × Nat)) : flat (A ++ B) = flat A ++ flat B := List.flatMap_append
def fw : List Nd → List Nat → Nat → Nat × Bool
  | [], W, p => if W = [] then (0, true) else (p, false)
  | _ :: _, [], p => (p, false)
  | a :: r, tk :: W, p => match ews a tk with
    | none => (p, false)
    | some ws => fw r (flat ws ++ W) (p + 1)
theorem flat_pop : ∀ S, flat (popS S) = flat S
  | [] => rfl
  | x :: S => by
    rw [popS]
    split
    · rename_i h; rw [flat_pop S, flat_cons, h]; rfl
    · rfl
theorem flat_nil {S : List (Nat × Nat)} : popS S = [] ↔ flat S = [] := by
  constructor
  · intro h
    rw [← flat_pop, h]
    rfl
  · intro h
    cases hp : popS S with
    | nil => rfl
    | cons x S' =>
      have h1 := flat_pop S
      rw [hp, flat_cons, h] at h1
      have h2 := pop_many hp
      have h3 := congrArg List.length h1
      simp at h3
      exact absurd h3.1 h2
theorem flat_hd {S : List (Nat × Nat)} {x : Nat × Nat} {S' : List (Nat × Nat)} (h : popS S = x :: S') : flat S = x.1 :: flat ((x.1, x.2 - 1) :: S') := by
  have h2 := pop_many h
  obtain ⟨k, hk⟩ : ∃ k, x.2 = k + 1 := ⟨x.2 - 1, by omega⟩
  rw [← flat_pop, h, flat_cons, flat_cons, hk, List.replicate_succ]
  rfl
theorem gsh_fw : ∀ (l : List Nd) (S : List (Nat × Nat)) (p : Nat), gsh l S p = fw l (flat S) p
  | [], S, p => by
    unfold gsh fw
    by_cases h : popS S = []
    · rw [if_pos h, if_pos (flat_nil.1 h)]
    · rw [if_neg h, if_neg (fun h9 => h (flat_nil.2 h9))]
  | a :: r, S, p => by
    rw [gsh_cons]
    cases hp : popS S with
    | nil =>
      rw [flat_nil.1 hp, fw]
    | cons x S' =>
      rw [flat_hd hp, fw]
      simp only
      cases ews a x.1 with
      | none => rfl
      | some ws =>
        simp only
        rw [gsh_fw r, flat_app]
/- the document's wants as masks -/
def wk (w : Int) : Nat := if w = 0 then 1 else if w = 1 then 2 else if w = 2 then 4 else if w = 3 then 64 else if w = 4 then 8 else if w = 5 then 16 else if w = 6 then 40 else 192
def rexp (own : List Int) (other : Int) (next k : Nat) : List Int := (List.range k).map fun i => own.getD (next + i) other
def keys : List Int := tab.map (·.1)
theorem key_or (op : Int) : op ∈ keys ∨ kd op = k0 := by
  unfold kd
  cases h : tab.lookup op with
  | none => exact .inr rfl
  | some k => exact .inl (List.mem_map.2 ⟨(op, k), look_mem h, rfl⟩)
theorem key_is {op : Int} (h : op ∈ keys) : op = 1 ∨ op = 2 ∨ op = 3 ∨ op = 4 ∨ op = 5 ∨ op = 6 ∨ op = 7 ∨ op = 10 ∨ op = 11 ∨ op = 12 ∨ op = 13 ∨ op = 14 ∨ op = 15 ∨ op = 16 ∨ op = 17 ∨ op = 18 ∨ op = 19 ∨ op = 30 ∨ op = 31 ∨ op = 32 ∨ op = 33 ∨ op = 34 ∨ op = 35 ∨ op = 36 ∨ op = 37 ∨ op = 38 ∨ op = 39 ∨ op = 40 ∨ op = 41 ∨ op = 42 ∨ op = 43 ∨ op = 44 ∨ op = 45 ∨ op = 46 ∨ op = 47 ∨ op = 48 ∨ op = 49 ∨ op = 50 ∨ op = 51 ∨ op = 52 := by
  unfold keys tab at h
  simp only [List.map_cons, List.map_nil, List.mem_cons, List.not_mem_nil, or_false] at h
  omega
theorem key_in {op : Int} (h : op = 1 ∨ op = 2 ∨ op = 3 ∨ op = 4 ∨ op = 5 ∨ op = 6 ∨ op = 7 ∨ op = 10 ∨ op = 11 ∨ op = 12 ∨ op = 13 ∨ op = 14 ∨ op = 15 ∨ op = 16 ∨ op = 17 ∨ op = 18 ∨ op = 19 ∨ op = 30 ∨ op = 31 ∨ op = 32 ∨ op = 33 ∨ op = 34 ∨ op = 35 ∨ op = 36 ∨ op = 37 ∨ op = 38 ∨ op = 39 ∨ op = 40 ∨ op = 41 ∨ op = 42 ∨ op = 43 ∨ op = 44 ∨ op = 45 ∨ op = 46 ∨ op = 47 ∨ op = 48 ∨ op = 49 ∨ op = 50 ∨ op = 51 ∨ op = 52) : op ∈ keys := by
  unfold keys tab
  simp only [List.map_cons, List.map_nil, List.mem_cons, List.not_mem_nil, or_false]
  omega
theorem want_tab {op w : Int} (hw : w = 0 ∨ w = 1 ∨ w = 2 ∨ w = 3 ∨ w = 4 ∨ w = 5 ∨ w = 6 ∨ w = 7) : rWant op w = decide ((kd op).is &&& wk w ≠ 0) := by
  rcases key_or op with h | h
  · have h1 : keys.all (fun op => [0, 1, 2, 3, 4, 5, 6, 7].all fun w => rWant op w == decide ((kd op).is &&& wk w ≠ 0)) = true := by decide
    have h2 := List.all_eq_true.1 (List.all_eq_true.1 h1 op h) w (by rcases hw with rfl | rfl | rfl | rfl | rfl | rfl | rfl | rfl <;> simp)
    simpa using h2
  · rw [h]
    have h3 : decide (k0.is &&& wk w ≠ 0) = false := by simp [k0]
    rw [h3, Bool.eq_false_iff]
    intro h4
    have h5 : op ∉ keys := fun h9 => by
      have h6 : keys.all (fun op => (kd op).is != 0) = true := by decide
      have h7 := List.all_eq_true.1 h6 op h9
      rw [h] at h7
      exact absurd h7 (by decide)
    apply h5
    apply key_in
    unfold rWant rExpr at h4
    rcases hw with rfl | rfl | rfl | rfl | rfl | rfl | rfl | rfl <;> simp at h4 <;> omega
theorem num_tab {op n : Int} (h : op ∈ keys) (hn : n ≤ big) : (decide (0 ≤ n) && decide (n ≤ (kd op).most)) = rNum op n := by
  have h1 : keys.all (fun op => (decide (op = 3 ∨ op = 4 ∨ op = 5 ∨ op = 14 ∨ op = 30) && (kd op).most == big) || (decide (op = 7) && (kd op).most == 4) || (decide (op = 51) && (kd op).most == 3) || (decide (¬ (op = 3 ∨ op = 4 ∨ op = 5 ∨ op = 14 ∨ op = 30) ∧ op ≠ 7 ∧ op ≠ 51) && (kd op).most == 0)) = true := by decide
  have h2 := List.all_eq_true.1 h1 op h
  simp only [Bool.or_eq_true, Bool.and_eq_true, decide_eq_true_eq, beq_iff_eq] at h2
  unfold rNum
  rcases h2 with ((⟨h3, h4⟩ | ⟨h3, h4⟩) | ⟨h3, h4⟩) | ⟨⟨h3, h5, h6⟩, h4⟩
  · rw [h4, if_pos h3, decide_eq_true hn, Bool.and_true]
  · rw [h4, if_neg (by omega), if_pos h3]
  · rw [h4, if_neg (by omega), if_neg (by omega), if_pos h3]
  · rw [h4, if_neg h3, if_neg h5, if_neg h6]
    by_cases h0 : n = 0
    · subst h0; rfl
    · rw [decide_eq_false h0]
      by_cases h7 : 0 ≤ n
      · rw [decide_eq_false (p := n ≤ 0) (by omega)]; simp
      · rw [decide_eq_false h7]; rfl
theorem also_two {l a b : List Int} (ha : isN a = true ∧ words.contains a = true) (hb : isN b = true ∧ words.contains b = true) : (isN l && (!words.contains l || [a, b].contains l)) = ((isN l && !words.contains l) || (decide (l = a) || decide (l = b))) := by
  by_cases h1 : l = a
  · subst h1
    rw [ha.1]
    simp
  · by_cases h2 : l = b
    · subst h2
      rw [hb.1]
      simp
    · rw [decide_eq_false h1, decide_eq_false h2, Bool.or_self, Bool.or_false]
      have : [a, b].contains l = false := by
        rw [Bool.eq_false_iff]
        intro h
        rw [List.contains_iff_mem] at h
        simp only [List.mem_cons, List.not_mem_nil, or_false] at h
        rcases h with h | h
        · exact h1 h
        · exact h2 h
      rw [this, Bool.or_false]
theorem txt_tab {op : Int} {l : List Int} (h : op ∈ keys) : (kd op).text.ok l = rTx op l := by
  have h1 : keys.all (fun op => (decide (op = 2 ∨ op = 6 ∨ op = 52) && decide ((kd op).text = .txt)) || (decide (op = 11 ∨ op = 14 ∨ op = 15 ∨ op = 16 ∨ op = 50) && decide ((kd op).text = .free [])) || (decide (op = 12 ∨ op = 33) && decide ((kd op).text = .free [wself, wme])) || (decide (op = 19) && decide ((kd op).text = .free [whit, wdraw])) || (decide (op = 49) && decide ((kd op).text = .nam)) || (decide (¬ (op = 2 ∨ op = 6 ∨ op = 52) ∧ ¬ (op = 11 ∨ op = 14 ∨ op = 15 ∨ op = 16 ∨ op = 50) ∧ ¬ (op = 12 ∨ op = 33) ∧ op ≠ 19 ∧ op ≠ 49) && decide ((kd op).text = .none))) = true := by decide
  have h2 := List.all_eq_true.1 h1 op h
  simp only [Bool.or_eq_true, Bool.and_eq_true, decide_eq_true_eq] at h2
  unfold rTx
  rcases h2 with ((((⟨h3, h4⟩ | ⟨h3, h4⟩) | ⟨h3, h4⟩) | ⟨h3, h4⟩) | ⟨h3, h4⟩) | ⟨⟨h3, h5, h6, h7, h8⟩, h4⟩
  · rw [h4, if_pos h3]; rfl
  · rw [h4, if_neg (by omega), if_pos h3]
    show (isN l && (!words.contains l || [].contains l)) = _
    simp
  · rw [h4, if_neg (by omega), if_neg (by omega), if_pos h3]
    exact also_two (by decide) (by decide)
  · rw [h4, if_neg (by omega), if_neg (by omega), if_neg (by omega), if_pos h3]
    exact also_two (by decide) (by decide)
  · rw [h4, if_neg (by omega), if_neg (by omega), if_neg (by omega), if_neg (by omega), if_pos h3]; rfl
  · rw [h4, if_neg h3, if_neg h5, if_neg h6, if_neg h7, if_neg h8]; rfl
/- what a node wants, flat -/
def pfl (q : List Plc × Nat) : List Nat := flat (q.1.map fun p => (p.takes, q.2))
theorem plcs_each {k : Kd} (h : k.each ≠ 0) (ks : Int) : plcs k ks = if 0 ≤ ks then some ([⟨k.each, 0⟩], ks.toNat) else none := by
  unfold plcs
  rw [if_pos h]
theorem plcs_else {k : Kd} (h : k.each = 0) (hw : k.ways.all (fun w => decide (w.length ≤ 3)) = true) {ks : Int} (h0 : ks ≠ 0) (h1 : ks ≠ 1) (h2 : ks ≠ 2) (h3 : ks ≠ 3) : plcs k ks = none := by
  unfold plcs
  rw [if_neg (by rw [h]; exact fun h => h rfl)]
  have hf : k.ways.find? (fun w => (w.length : Int) == ks) = none := by
    rw [List.find?_eq_none]
    intro w hm
    have h9 := List.all_eq_true.1 hw w hm
    simp only [decide_eq_true_eq] at h9
    simp only [beq_iff_eq]
    omega
  rw [hf, if_neg (fun h => h0 h.1)]
theorem plcs_tab {op ks : Int} (h : op ∈ keys) : (plcs (kd op) ks).map pfl = if (rask op ks).2.2 = true then some ((rexp (rask op ks).1 (rask op ks).2.1 0 ks.toNat).map wk) else none := by
  by_cases hg : op = 1 ∨ op = 2 ∨ op = 10 ∨ op = 19 ∨ op = 50
  · have h1 : (kd op).each ≠ 0 ∧ ∃ o : Int, wk o = (kd op).each ∧ ∀ ks, rask op ks = ([], o, decide (0 ≤ ks)) := by
      rcases hg with rfl | rfl | rfl | rfl | rfl
      · exact ⟨by decide, 1, by decide, fun ks => rfl⟩
      · exact ⟨by decide, 2, by decide, fun ks => rfl⟩
      · exact ⟨by decide, 5, by decide, fun ks => rfl⟩
      · exact ⟨by decide, 3, by decide, fun ks => rfl⟩
      · exact ⟨by decide, 7, by decide, fun ks => rfl⟩
    obtain ⟨h1, o, h2, h3⟩ := h1
    rw [plcs_each h1, h3]
    simp only
    by_cases h0 : 0 ≤ ks
    · rw [if_pos h0, if_pos (by simpa using h0), Option.map_some]
      congr 1
      show flat [((kd op).each, ks.toNat)] = _
      rw [flat_cons, ← h2]
      unfold rexp flat
      rw [List.flatMap_nil, List.append_nil, List.map_map]
      apply List.ext_getElem?
      intro i
      rw [List.getElem?_replicate, List.getElem?_map]
      split
      · rename_i hi
        rw [List.getElem?_range hi]
        rfl
      · rename_i hi
        rw [List.getElem?_eq_none (by simpa using hi)]
        rfl
    · rw [if_neg h0, if_neg (by simpa using h0)]
      rfl
  · have hk := key_is h
    have hall : keys.all (fun op => decide (op = 1 ∨ op = 2 ∨ op = 10 ∨ op = 19 ∨ op = 50) || ((kd op).each == 0 && (kd op).ways.all (fun w => decide (w.length ≤ 3)) && [0, 1, 2, 3].all fun ks => (plcs (kd op) ks).map pfl == if (rask op ks).2.2 = true then some ((rexp (rask op ks).1 (rask op ks).2.1 0 ks.toNat).map wk) else none)) = true := by decide +kernel
    have h2 := List.all_eq_true.1 hall op h
    simp only [Bool.or_eq_true, decide_eq_true_eq, Bool.and_eq_true, beq_iff_eq] at h2
    rcases h2 with h2 | ⟨⟨h2, h3⟩, h4⟩
    · exact absurd h2 hg
    · by_cases hs : ks = 0 ∨ ks = 1 ∨ ks = 2 ∨ ks = 3
      · have h5 := List.all_eq_true.1 h4 ks (by rcases hs with rfl | rfl | rfl | rfl <;> simp)
        simpa using h5
      · rw [plcs_else h2 h3 (by omega) (by omega) (by omega) (by omega)]
        have h6 : (rask op ks).2.2 = false := by
          have e0 : ¬ ks = 0 := by omega
          have e1 : ¬ ks = 1 := by omega
          have e2 : ¬ ks = 2 := by omega
          have e3 : ¬ ks = 3 := by omega
          unfold rask
          rw [if_neg (show ¬ op = 1 by omega), if_neg (show ¬ op = 2 by omega), if_neg (show ¬ op = 10 by omega), if_neg (show ¬ op = 19 by omega), if_neg (show ¬ op = 50 by omega)]
          simp only [apply_ite Prod.snd, decide_eq_false e0, decide_eq_false e1, decide_eq_false e2, decide_eq_false e3, if_neg e1, Bool.or_false, ite_self]
        rw [h6]
        rfl
end TR
end Go.Proofs.Ytgahdppcdeefaaa
namespace Go.Proofs.Ytgahdppcdeefaaa
namespace TR
/- is a node one for a place that wants w, in the document's words -/
def dok (a : Nd) (w : Int) : Bool := rWant a.op w && (a.kind == 0 && (a.m == 0 && (decide (0 ≤ a.pos) && (rTx a.op a.text && (rNum a.op a.n && (rask a.op a.kids).2.2)))))
def Wok (w : Int) : Prop := w = 0 ∨ w = 1 ∨ w = 2 ∨ w = 3 ∨ w = 4 ∨ w = 5 ∨ w = 6 ∨ w = 7
theorem ews_doc {a : Nd} {w : Int} (hw : Wok w) (hn : a.n ≤ big) : (ews a (wk w)).map flat = if dok a w = true then some ((rexp (rask a.op a.kids).1 (rask a.op a.kids).2.1 0 a.kids.toNat).map wk) else none := by
  have hwt := want_tab (op := a.op) hw
  rcases key_or a.op with h | h
  · have hp := plcs_tab (ks := a.kids) h
    have ht := txt_tab (l := a.text) h
    have hnu := num_tab h hn
    unfold ews dok
    rw [hwt, ← ht, ← hnu]
    by_cases h1 : (kd a.op).is &&& wk w = 0
    · rw [if_pos (.inl h1), h1]
      rfl
    · by_cases h2 : fits (kd a.op) a = false
      · rw [if_pos (.inr h2), if_neg]
        · rfl
        · intro h3
          simp only [Bool.and_eq_true] at h3
          have h4 : fits (kd a.op) a = true := by
            unfold fits
            simp only [Bool.and_eq_true]
            exact ⟨h3.2.1, h3.2.2.1, h3.2.2.2.1, h3.2.2.2.2.2.1.1, h3.2.2.2.2.2.1.2, h3.2.2.2.2.1⟩
          rw [h2] at h4
          exact absurd h4 (by decide)
      · rw [if_neg (by rintro (h9 | h9); exact h1 h9; exact h2 h9)]
        have h4 : fits (kd a.op) a = true := by simpa using h2
        unfold fits at h4
        simp only [Bool.and_eq_true] at h4
        rw [h4.1, h4.2.1, h4.2.2.1, h4.2.2.2.1, h4.2.2.2.2.1, h4.2.2.2.2.2, decide_eq_true h1]
        simp only [Bool.true_and, Bool.and_self]
        cases hc : plcs (kd a.op) a.kids with
        | none =>
          rw [hc] at hp
          exact hp
        | some q =>
          obtain ⟨ps, many⟩ := q
          rw [hc] at hp
          exact hp
  · have h1 : (kd a.op).is &&& wk w = 0 := by rw [h]; simp [k0]
    unfold ews dok
    rw [if_pos (.inl h1), hwt, h1]
    rfl
/- a frame -/
structure Fm where
  own : List Int
  other : Int
  left : Nat
  next : Nat
  deriving DecidableEq
def Fm.want (f : Fm) : Int := f.own.getD f.next f.other
def FOk (f : Fm) : Prop := (∀ w ∈ f.own, Wok w) ∧ Wok f.other
theorem FOk.wok {f : Fm} (h : FOk f) : Wok f.want := by
  unfold Fm.want
  rw [List.getD_eq_getElem?_getD]
  cases hc : f.own[f.next]? with
  | none => exact h.2
  | some w => exact h.1 w (List.mem_of_getElem? hc)
def popF : List Fm → List Fm
  | [] => []
  | f :: S => if f.left = 0 then popF S else f :: S
theorem popF_ok : ∀ {S : List Fm}, (∀ f ∈ S, FOk f) → ∀ f ∈ popF S, FOk f
  | [], h => h
  | g :: S, h => by
    rw [popF]
    split
    · exact popF_ok fun f hf => h f (.tail _ hf)
    · exact h
theorem popF_pos : ∀ {S : List Fm} {f : Fm} {S' : List Fm}, popF S = f :: S' → f.left ≠ 0
  | [], f, S', h => by cases h
  | g :: S, f, S', h => by
    rw [popF] at h
    split at h
    · exact popF_pos h
    · rename_i h1
      cases h
      exact h1
def ffl (S : List Fm) : List Nat := S.flatMap fun f => (rexp f.own f.other f.next f.left).map wk
theorem ffl_cons (f : Fm) (S : List Fm) : ffl (f :: S) = (rexp f.own f.other f.next f.left).map wk ++ ffl S := rfl
theorem ffl_pop : ∀ S, ffl (popF S) = ffl S
  | [] => rfl
  | x :: S => by
    rw [popF]
    split
    · rename_i h
      rw [ffl_pop S, ffl_cons, h]
      rfl
    · rfl
theorem rexp_succ (own : List Int) (other : Int) (next k : Nat) : rexp own other next (k + 1) = own.getD next other :: rexp own other (next + 1) k := by
  unfold rexp
  rw [List.range_succ_eq_map, List.map_cons, List.map_map]
  congr 1
  apply List.map_congr_left
  intro i _
  show own.getD (next + (i + 1)) other = own.getD (next + 1 + i) other
  rw [show next + (i + 1) = next + 1 + i by omega]
def fnx (f : Fm) : Fm := ⟨f.own, f.other, f.left - 1, f.next + 1⟩
theorem ffl_hd {S : List Fm} {f : Fm} {S' : List Fm} (h : popF S = f :: S') : ffl S = wk f.want :: ffl (fnx f :: S') := by
  have h2 := popF_pos h
  rw [← ffl_pop, h, ffl_cons, ffl_cons]
  obtain ⟨k, hk⟩ : ∃ k, f.left = k + 1 := ⟨f.left - 1, by omega⟩
  rw [hk, rexp_succ]
  unfold fnx Fm.want
  rw [hk]
  rfl
theorem ffl_nil {S : List Fm} : popF S = [] ↔ ffl S = [] := by
  constructor
  · intro h
    rw [← ffl_pop, h]
    rfl
  · intro h
    cases hp : popF S with
    | nil => rfl
    | cons x S' =>
      rw [ffl_hd hp] at h
      cases h
def fnew (a : Nd) : Fm := ⟨(rask a.op a.kids).1, (rask a.op a.kids).2.1, a.kids.toNat, 0⟩
theorem ite_elim_ {c : Prop} [Decidable c] {a b : List Int × Int × Bool} (ha : (∀ w ∈ a.1, Wok w) ∧ Wok a.2.1) (hb : (∀ w ∈ b.1, Wok w) ∧ Wok b.2.1) : (∀ w ∈ (if c then a else b).1, Wok w) ∧ Wok (if c then a else b).2.1 := by
  split
  · exact ha
  · exact hb
theorem rask_wok (op ks : Int) : (∀ w ∈ (rask op ks).1, Wok w) ∧ Wok (rask op ks).2.1 := by
  unfold rask
  repeat' (refine ite_elim_ ?_ ?_)
  all_goals simp [Wok]
theorem fnew_ok (a : Nd) : FOk (fnew a) := rask_wok a.op a.kids
theorem fnx_ok {f : Fm} (h : FOk f) : FOk (fnx f) := h
def fsh : List Nd → List Fm → Nat → Nat × Bool
  | [], S, p => if popF S = [] then (0, true) else (p, false)
  | a :: r, S, p => match popF S with
    | [] => (p, false)
    | f :: S' => if dok a f.want = true then fsh r (fnew a :: fnx f :: S') (p + 1) else (p, false)
theorem fsh_fw : ∀ (l : List Nd) (S : List Fm) (p : Nat), (∀ a ∈ l, a.n ≤ big) → (∀ f ∈ S, FOk f) → fsh l S p = fw l (ffl S) p
  | [], S, p, _, _ => by
    unfold fsh fw
    by_cases h : popF S = []
    · rw [if_pos h, if_pos (ffl_nil.1 h)]
    · rw [if_neg h, if_neg (fun h9 => h (ffl_nil.2 h9))]
  | a :: r, S, p, hn, hS => by
    rw [fsh]
    cases hp : popF S with
    | nil =>
      rw [ffl_nil.1 hp, fw]
    | cons f S' =>
      have hf : ∀ g ∈ f :: S', FOk g := fun g hg => popF_ok hS g (hp ▸ hg)
      have he := ews_doc (a := a) (FOk.wok (hf f (.head _))) (hn a (.head _))
      rw [ffl_hd hp, fw]
      simp only
      cases hc : ews a (wk f.want) with
      | none =>
        rw [hc] at he
        by_cases hd : dok a f.want = true
        · rw [if_pos hd] at he
          cases he
        · rw [if_neg hd]
      | some ws =>
        rw [hc] at he
        by_cases hd : dok a f.want = true
        · rw [if_pos hd] at he
          rw [if_pos hd]
          simp only
          rw [fsh_fw r _ _ (fun b hb => hn b (.tail _ hb)) (by
            intro g hg
            rcases List.mem_cons.1 hg with rfl | hg
            · exact fnew_ok a
            rcases List.mem_cons.1 hg with rfl | hg
            · exact fnx_ok (hf f (.head _))
            · exact hf g (.tail _ hg))]
          rw [show flat ws = (rexp (fnew a).own (fnew a).other (fnew a).next (fnew a).left).map wk from Option.some.inj he, ffl_cons]
        · rw [if_neg hd] at he
          cases he
/- the walk of the program is the walk of the document -/
theorem gsh_fsh {l : List Nd} (hn : ∀ a ∈ l, a.n ≤ big) : gsh l [(1, 1)] 0 = fsh l [⟨[0], 0, 1, 0⟩] 0 := by
  rw [gsh_fw, fsh_fw l _ _ hn (by
    intro f hf
    rcases List.mem_singleton.1 hf with rfl
    exact ⟨by intro w hw; rcases List.mem_singleton.1 hw with rfl; exact .inl rfl, .inl rfl⟩)]
  rfl
end TR
end Go.Proofs.Ytgahdppcdeefaaa
