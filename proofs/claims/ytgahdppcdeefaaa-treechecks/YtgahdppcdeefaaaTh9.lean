
/-
  The document's walk over its frames, and that it is the flat walk.
-/
import Derived.Test.YtgahdppcdeefaaaTf9
namespace Go.Proofs.Ytgahdppcdeefaaa
namespace TR
/- is a node one for a place that wants w, in the document's words -/
def dok (a : Nd) (w : Int) : Bool := rWant a.op w && (a.kind == 0 && (a.m == 0 && (decide (0 ≤ a.pos) && (rTx a.op a.text && (rNum a.op a.n && (rask a.op a.kids).2.2)))))
def Wok (w : Int) : Prop := w = 0 ∨ w = 1 ∨ w = 2 ∨ w = 3 ∨ w = 4 ∨ w = 5 ∨ w = 6 ∨ w = 7
theorem ews_doc {a : Nd} {w : Int} (hw : Wok w) (hn : a.n ≤ big) : (ews a (wk w)).map flat = if dok a w = true then some ((rexp (rask a.op a.kids).1 (rask a.op a.kids).2.1 0 a.kids.toNat).map wk) else none := by
  have hwt := want_tab (op := a.op) hw
  rcases key_or a.op with h | h
  · have hp := plcs_tab (ks := a.kids) h
    have ht := txt_tab (l := a.text) h
    have hnu := num_tab h hn
    unfold ews dok
    rw [hwt, ← ht, ← hnu]
    by_cases h1 : (kd a.op).is &&& wk w = 0
    · rw [if_pos (.inl h1), h1]
      rfl
    · by_cases h2 : fits (kd a.op) a = false
      · rw [if_pos (.inr h2), if_neg]
        · rfl
        · intro h3
          simp only [Bool.and_eq_true] at h3
          have h4 : fits (kd a.op) a = true := by
            unfold fits
            simp only [Bool.and_eq_true]
            exact ⟨h3.2.1, h3.2.2.1, h3.2.2.2.1, h3.2.2.2.2.2.1.1, h3.2.2.2.2.2.1.2, h3.2.2.2.2.1⟩
          rw [h2] at h4
          exact absurd h4 (by decide)
      · rw [if_neg (by rintro (h9 | h9); exact h1 h9; exact h2 h9)]
        have h4 : fits (kd a.op) a = true := by simpa using h2
        unfold fits at h4
        simp only [Bool.and_eq_true] at h4
        rw [h4.1, h4.2.1, h4.2.2.1, h4.2.2.2.1, h4.2.2.2.2.1, h4.2.2.2.2.2, decide_eq_true h1]
        simp only [Bool.true_and, Bool.and_self]
        cases hc : plcs (kd a.op) a.kids with
        | none =>
          rw [hc] at hp
          exact hp
        | some q =>
          obtain ⟨ps, many⟩ := q
          rw [hc] at hp
          exact hp
  · have h1 : (kd a.op).is &&& wk w = 0 := by rw [h]; simp [k0]
    unfold ews dok
    rw [if_pos (.inl h1), hwt, h1]
    rfl
/- a frame -/
structure Fm where
  own : List Int
  other : Int
  left : Nat
  next : Nat
  deriving DecidableEq
def Fm.want (f : Fm) : Int := f.own.getD f.next f.other
def FOk (f : Fm) : Prop := (∀ w ∈ f.own, Wok w) ∧ Wok f.other
theorem FOk.wok {f : Fm} (h : FOk f) : Wok f.want := by
  unfold Fm.want
  rw [List.getD_eq_getElem?_getD]
  cases hc : f.own[f.next]? with
  | none => exact h.2
  | some w => exact h.1 w (List.mem_of_getElem? hc)
def popF : List Fm → List Fm
  | [] => []
  | f :: S => if f.left = 0 then popF S else f :: S
theorem popF_ok : ∀ {S : List Fm}, (∀ f ∈ S, FOk f) → ∀ f ∈ popF S, FOk f
  | [], h => h
  | g :: S, h => by
    rw [popF]
    split
    · exact popF_ok fun f hf => h f (.tail _ hf)
    · exact h
theorem popF_pos : ∀ {S : List Fm} {f : Fm} {S' : List Fm}, popF S = f :: S' → f.left ≠ 0
  | [], f, S', h => by cases h
  | g :: S, f, S', h => by
    rw [popF] at h
    split at h
    · exact popF_pos h
    · rename_i h1
      cases h
      exact h1
def ffl (S : List Fm) : List Nat := S.flatMap fun f => (rexp f.own f.other f.next f.left).map wk
theorem ffl_cons (f : Fm) (S : List Fm) : ffl (f :: S) = (rexp f.own f.other f.next f.left).map wk ++ ffl S := rfl
theorem ffl_pop : ∀ S, ffl (popF S) = ffl S
  | [] => rfl
  | x :: S => by
    rw [popF]
    split
    · rename_i h
      rw [ffl_pop S, ffl_cons, h]
      rfl
    · rfl
theorem rexp_succ (own : List Int) (other : Int) (next k : Nat) : rexp own other next (k + 1) = own.getD next other :: rexp own other (next + 1) k := by
  unfold rexp
  rw [List.range_succ_eq_map, List.map_cons, List.map_map]
  congr 1
  apply List.map_congr_left
  intro i _
  show own.getD (next + (i + 1)) other = own.getD (next + 1 + i) other
  rw [show next + (i + 1) = next + 1 + i by omega]
def fnx (f : Fm) : Fm := ⟨f.own, f.other, f.left - 1, f.next + 1⟩
theorem ffl_hd {S : List Fm} {f : Fm} {S' : List Fm} (h : popF S = f :: S') : ffl S = wk f.want :: ffl (fnx f :: S') := by
  have h2 := popF_pos h
  rw [← ffl_pop, h, ffl_cons, ffl_cons]
  obtain ⟨k, hk⟩ : ∃ k, f.left = k + 1 := ⟨f.left - 1, by omega⟩
  rw [hk, rexp_succ]
  unfold fnx Fm.want
  rw [hk]
  rfl
theorem ffl_nil {S : List Fm} : popF S = [] ↔ ffl S = [] := by
  constructor
  · intro h
    rw [← ffl_pop, h]
    rfl
  · intro h
    cases hp : popF S with
    | nil => rfl
    | cons x S' =>
      rw [ffl_hd hp] at h
      cases h
def fnew (a : Nd) : Fm := ⟨(rask a.op a.kids).1, (rask a.op a.kids).2.1, a.kids.toNat, 0⟩
theorem ite_elim_ {c : Prop} [Decidable c] {a b : List Int × Int × Bool} (ha : (∀ w ∈ a.1, Wok w) ∧ Wok a.2.1) (hb : (∀ w ∈ b.1, Wok w) ∧ Wok b.2.1) : (∀ w ∈ (if c then a else b).1, Wok w) ∧ Wok (if c then a else b).2.1 := by
  split
  · exact ha
  · exact hb
theorem rask_wok (op ks : Int) : (∀ w ∈ (rask op ks).1, Wok w) ∧ Wok (rask op ks).2.1 := by
  unfold rask
  repeat' (refine ite_elim_ ?_ ?_)
  all_goals simp [Wok]
theorem fnew_ok (a : Nd) : FOk (fnew a) := rask_wok a.op a.kids
theorem fnx_ok {f : Fm} (h : FOk f) : FOk (fnx f) := h
def fsh : List Nd → List Fm → Nat → Nat × Bool
  | [], S, p => if popF S = [] then (0, true) else (p, false)
  | a :: r, S, p => match popF S with
    | [] => (p, false)
    | f :: S' => if dok a f.want = true then fsh r (fnew a :: fnx f :: S') (p + 1) else (p, false)
theorem fsh_fw : ∀ (l : List Nd) (S : List Fm) (p : Nat), (∀ a ∈ l, a.n ≤ big) → (∀ f ∈ S, FOk f) → fsh l S p = fw l (ffl S) p
  | [], S, p, _, _ => by
    unfold fsh fw
    by_cases h : popF S = []
    · rw [if_pos h, if_pos (ffl_nil.1 h)]
    · rw [if_neg h, if_neg (fun h9 => h (ffl_nil.2 h9))]
  | a :: r, S, p, hn, hS => by
    rw [fsh]
    cases hp : popF S with
    | nil =>
      rw [ffl_nil.1 hp, fw]
    | cons f S' =>
      have hf : ∀ g ∈ f :: S', FOk g := fun g hg => popF_ok hS g (hp ▸ hg)
      have he := ews_doc (a := a) (FOk.wok (hf f (.head _))) (hn a (.head _))
      rw [ffl_hd hp, fw]
      simp only
      cases hc : ews a (wk f.want) with
      | none =>
        rw [hc] at he
        by_cases hd : dok a f.want = true
        · rw [if_pos hd] at he
          cases he
        · rw [if_neg hd]
      | some ws =>
        rw [hc] at he
        by_cases hd : dok a f.want = true
        · rw [if_pos hd] at he
          rw [if_pos hd]
          simp only
          rw [fsh_fw r _ _ (fun b hb => hn b (.tail _ hb)) (by
            intro g hg
            rcases List.mem_cons.1 hg with rfl | hg
            · exact fnew_ok a
            rcases List.mem_cons.1 hg with rfl | hg
            · exact fnx_ok (hf f (.head _))
            · exact hf g (.tail _ hg))]
          rw [show flat ws = (rexp (fnew a).own (fnew a).other (fnew a).next (fnew a).left).map wk from Option.some.inj he, ffl_cons]
        · rw [if_neg hd] at he
          cases he
/- the walk of the program is the walk of the document -/
theorem gsh_fsh {l : List Nd} (hn : ∀ a ∈ l, a.n ≤ big) : gsh l [(1, 1)] 0 = fsh l [⟨[0], 0, 1, 0⟩] 0 := by
  rw [gsh_fw, fsh_fw l _ _ hn (by
    intro f hf
    rcases List.mem_singleton.1 hf with rfl
    exact ⟨by intro w hw; rcases List.mem_singleton.1 hw with rfl; exact .inl rfl, .inl rfl⟩)]
  rfl
end TR
end Go.Proofs.Ytgahdppcdeefaaa
