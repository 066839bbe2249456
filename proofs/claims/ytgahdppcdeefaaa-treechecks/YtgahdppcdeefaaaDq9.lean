
/-
  The depth of the walk is the document's: any tree.
-/
import Derived.Test.YtgahdppcdeefaaaDp9
namespace Go.Proofs.Ytgahdppcdeefaaa
namespace TR
theorem nogo {a : Nd} (h : (kd a.op).row = false) (r : List Nd) : mks (a :: r) = 0 ∧ gos (a :: r) = false := by
  cases r with
  | nil => exact ⟨rfl, rfl⟩
  | cons b t =>
    have hg : goes a b = false := by unfold goes; rw [h]; rfl
    exact ⟨by rw [mks, hg]; rfl, by rw [gos, hg]⟩
theorem dogo {a b : Nd} (t : List Nd) : mks (a :: b :: t) = (if goes a b then mks (b :: t) + 1 else 0) ∧ gos (a :: b :: t) = goes a b := ⟨by rw [mks], by rw [gos]⟩
theorem wants_f (ps : List Plc) (many o : Nat) : wants ps many o false = ps.map fun q => ⟨q, many, o, false⟩ := by
  cases ps with
  | nil => rfl
  | cons p r => rfl
theorem kl_ge (op : Int) : ∀ (f : Fo) (i : Int) (d : Nat), d ≤ klK op i f d
  | .nil, i, d => by rw [klK]; exact Nat.le_refl _
  | .cons b kb r, i, d => by
    have := kl_ge op r (i + 1) d
    rw [klK]
    omega
theorem kind_of {op : Int} (h : op ∈ keys) : ((kd op).each ≠ 0 ∧ op ≠ 49 ∧ rrow op = false) ∨ ((kd op).each = 0 ∧ op ≠ 49 ∧ rrow op = false) ∨ (op = 49 ∧ (kd op).each = 0 ∧ (kd op).ways = [[⟨64, 8⟩]] ∧ rrow op = false) ∨ (rrow op = true ∧ op ≠ 49 ∧ (kd op).each = 0 ∧ ∃ r1 r2, (kd op).ways = [[⟨64, r1⟩, ⟨64, r2⟩]]) := by
  have h1 : keys.all (fun op => decide ((kd op).each ≠ 0 ∧ op ≠ 49 ∧ rrow op = false) || (decide ((kd op).each = 0 ∧ op ≠ 49 ∧ rrow op = false) || (decide (op = 49 ∧ (kd op).each = 0 ∧ (kd op).ways = [[⟨64, 8⟩]] ∧ rrow op = false) || (decide (rrow op = true ∧ op ≠ 49 ∧ (kd op).each = 0) && (match (kd op).ways with | [[a, b]] => a.takes == 64 && b.takes == 64 | _ => false))))) = true := by decide +kernel
  have h2 := List.all_eq_true.1 h1 op h
  simp only [Bool.or_eq_true, decide_eq_true_eq, Bool.and_eq_true] at h2
  rcases h2 with h2 | h2 | h2 | ⟨⟨h2, h3, h4⟩, h5⟩
  · exact .inl h2
  · exact .inr (.inl h2)
  · exact .inr (.inr (.inl h2))
  · refine .inr (.inr (.inr ⟨h2, h3, h4, ?_⟩))
    split at h5
    · rename_i a b hw
      simp only [Bool.and_eq_true, beq_iff_eq] at h5
      obtain ⟨t1, r1⟩ := a
      obtain ⟨t2, r2⟩ := b
      obtain ⟨rfl, rfl⟩ := h5
      exact ⟨r1, r2, hw⟩
    · cases h5
theorem same_row {a b : Int} (ha : a ∈ keys) (hb : b ∈ keys) (hr : rrow a = true) (he : rRank b = rRank a) : rrow b = true ∧ b ≠ 49 ∧ dopn b = 0 ∧ par b (rWants a 0) = 0 := by
  have h1 : keys.all (fun a => keys.all fun b => decide (¬ rrow a = true ∨ ¬ rRank b = rRank a) || decide (rrow b = true ∧ b ≠ 49 ∧ dopn b = 0 ∧ par b (rWants a 0) = 0)) = true := by decide +kernel
  have h2 := List.all_eq_true.1 (List.all_eq_true.1 h1 a ha) b hb
  simp only [Bool.or_eq_true, decide_eq_true_eq] at h2
  rcases h2 with (h2 | h2) | h2
  · exact absurd hr h2
  · exact absurd he h2
  · exact h2
theorem plcs_way {k : Kd} (h : k.each = 0) {kids : Int} {ps : List Plc} {many : Nat} (hp : plcs k kids = some (ps, many)) : (ps ∈ k.ways ∧ many = 1) ∨ (ps = [] ∧ k.ways = []) := by
  unfold plcs at hp
  rw [if_neg (by rw [h]; exact fun h => h rfl)] at hp
  split at hp
  · rename_i w hw
    cases hp
    exact .inl ⟨List.mem_of_find?_eq_some hw, rfl⟩
  · split at hp
    · rename_i h9
      cases hp
      exact .inr ⟨rfl, h9.2⟩
    · cases hp
set_option maxHeartbeats 4000000 in
theorem core : ∀ (n : Nat) (a : Nd) (k : Fo), SizeOf.sizeOf k ≤ n → CoreAt a k
  | n, a, k, hn => by
    have ih : ∀ b kb, SizeOf.sizeOf kb < SizeOf.sizeOf k → CoreAt b kb := fun b kb hs => core (n - 1) b kb (by omega)
    intro tl ps many e D W D1 hk hpl hg hp hD
    rcases kind_of hk with ⟨h1, h2, h3⟩ | ⟨h1, h2, h3⟩ | ⟨h2, h1, h4, h3⟩ | ⟨h3, h2, h1, r1, r2, h4⟩
    · have hrow : (kd a.op).row = false := by rw [row_tab hk, h3, decide_eq_false h2]; rfl
      obtain ⟨m0, g0⟩ := nogo hrow (flF k ++ tl)
      rw [m0, g0, wants_f] at hg
      rw [m0] at hD ⊢
      have hb : bdy a k e = klK a.op 0 k e := by unfold bdy; rw [if_neg h2, h3]; rfl
      rw [plcs_each h1] at hpl
      split at hpl
      · cases hpl
        refine ⟨?_, ?_, fun h9 => absurd h9 (by rw [h3]; decide), fun h9 => absurd h9 h2⟩
        · rw [hb]
          exact kl_each hk h1 k 0 tl ⟨⟨(kd a.op).each, 0⟩, a.kids.toNat, e + 0, false⟩ D W D1 ih rfl rfl hD hg hp
        · rw [hb]
          exact kl_ge _ _ _ _
      · cases hpl
    · have hrow : (kd a.op).row = false := by rw [row_tab hk, h3, decide_eq_false h2]; rfl
      obtain ⟨m0, g0⟩ := nogo hrow (flF k ++ tl)
      rw [m0, g0, wants_f] at hg
      rw [m0] at hD ⊢
      have hb : bdy a k e = klK a.op 0 k e := by unfold bdy; rw [if_neg h2, h3]; rfl
      refine ⟨?_, by rw [hb]; exact kl_ge _ _ _ _, fun h9 => absurd h9 (by rw [h3]; decide), fun h9 => absurd h9 h2⟩
      rw [hb]
      rcases plcs_way h1 hpl with ⟨hw, rfl⟩ | ⟨rfl, -⟩
      · exact kl_way hk hw k 0 tl _ e D W D1 ih rfl hD hg hp
      · obtain ⟨rfl, rfl⟩ := goF_none hg
        rw [klK]
        omega
    · rcases plcs_way h1 hpl with ⟨hw, rfl⟩ | ⟨-, h9⟩
      · have hw0 := hw
        rw [h4] at hw
        obtain rfl := List.mem_singleton.1 hw
        obtain ⟨b, kb, r, o, ws, W1, D2, rfl, e1, e2, e3, e4⟩ := goF_one (by simp) hg hp
        obtain ⟨W2, e5, -⟩ := goF_zero rfl e4 hp
        obtain ⟨rfl, rfl⟩ := goF_none e5
        have hbk := is_key (ent_is e1).1
        have hfl : flF (.cons b kb .nil) ++ tl = b :: (flF kb ++ (flF .nil ++ tl)) := by
          show b :: (flF kb ++ []) ++ tl = b :: (flF kb ++ ([] ++ tl))
          rw [List.append_nil]
          rfl
        rw [hfl] at hD ⊢ e1
        have hgo : goes a b = decide (b.op = 49) := by
          show ((kd a.op).row && ((kd b.op).row && (kd a.op).rank == (kd b.op).rank)) = _
          rw [goes_tab hk hbk, h3, h2]
          simp
        obtain ⟨m0, g0⟩ := dogo (a := a) (b := b) (flF kb ++ (flF .nil ++ tl))
        rw [m0] at hD ⊢ e1
        rw [g0] at e1
        have hb : bdy a (.cons b kb .nil) e = chK (.cons b kb .nil) 1 e := by unfold bdy; rw [if_pos h2]
        by_cases h49 : b.op = 49
        · rw [hgo, decide_eq_true h49] at e1 hD ⊢
          simp only [if_true] at e1 hD ⊢
          have hmr : mr (kd b.op) ⟨64, 8⟩ = 0 := by rw [h49]; decide
          obtain ⟨q1, q2, -, q4⟩ := ent_rest (ih b kb (by simp; omega)) (e := e) e1 rfl hmr (by rw [h49]; decide) (by simp only; omega) e2 e3
          have hc : ∀ n, chK (.cons b kb .nil) n e = chK kb (n + 1) e := fun n => by rw [chK, if_pos h49]
          have hbb : bdy b kb e = chK kb 1 e := by unfold bdy; rw [if_pos h49]
          rw [hb, hc]
          rw [hbb] at q1 q2
          have q5 := q4 h49
          refine ⟨?_, ?_, fun h9 => absurd h9 (by rw [h3]; decide), fun _ n hn1 => ?_⟩
          · rw [q1, q5 (1 + 1) (by omega)]
            omega
          · rw [q5 (1 + 1) (by omega)]
            omega
          · rw [hc, q5 (n + 1) (by omega), q5 (1 + 1) (by omega)]
            omega
        · rw [hgo, decide_eq_false h49] at e1 hD ⊢
          simp only [Bool.false_eq_true, if_false] at e1 hD ⊢
          obtain ⟨q1, q2, q3, q4⟩ := ent_core (ih b kb (by simp; omega)) e1 rfl e2 e3
          have hmr : mr (kd b.op) ⟨64, 8⟩ = par b.op 8 := by
            have := way_tab hk hbk hw0 (j := 0) rfl q2
            rw [this, if_neg (by omega), h2]
            rfl
          simp only at q3 q4
          rw [hmr] at q3 q4
          have hc : ∀ n, chK (.cons b kb .nil) n e = max (e + n - 1) (opK b kb (e + par b.op 8)) := fun n => by rw [chK, if_neg h49]
          rw [Nat.add_zero] at q3 q4
          rw [hb, hc]
          refine ⟨by rw [q3]; omega, by omega, fun h9 => absurd h9 (by rw [h3]; decide), fun _ n hn1 => ?_⟩
          rw [hc]
          omega
      · rw [h4] at h9
        cases h9
    · rcases plcs_way h1 hpl with ⟨hw, rfl⟩ | ⟨-, h9⟩
      · have hw0 := hw
        rw [h4] at hw
        obtain rfl := List.mem_singleton.1 hw
        obtain ⟨b, kb, r, o, ws, W1, D2, rfl, e1, e2, e3, e4⟩ := goF_one (by simp) hg hp
        obtain ⟨W2, e5, hp2⟩ := goF_zero rfl e4 hp
        obtain ⟨c, kc, r3, o2, ws2, W3, D3, rfl, f1, f2, f3, f4⟩ := goF_one (by simp) e5 hp2
        obtain ⟨W4, f5, -⟩ := goF_zero rfl f4 hp2
        obtain ⟨rfl, rfl⟩ := goF_none f5
        have hbk := is_key (ent_is e1).1
        have hfl : flF (.cons b kb (.cons c kc .nil)) ++ tl = b :: (flF kb ++ (flF (.cons c kc .nil) ++ tl)) := by
          show b :: (flF kb ++ flF (.cons c kc .nil)) ++ tl = _
          rw [List.cons_append, List.append_assoc]
        rw [hfl] at hD ⊢ e1 f1
        have hgo : goes a b = decide (rRank b.op = rRank a.op) := by
          show ((kd a.op).row && ((kd b.op).row && (kd a.op).rank == (kd b.op).rank)) = _
          rw [goes_tab hk hbk, h3, decide_eq_false (fun h9 => h2 h9.1)]
          simp
        obtain ⟨m0, g0⟩ := dogo (a := a) (b := b) (flF kb ++ (flF (.cons c kc .nil) ++ tl))
        rw [m0] at hD ⊢ e1 f1
        rw [g0] at e1
        have hb : bdy a (.cons b kb (.cons c kc .nil)) e = (rowK a.op (.cons b kb (.cons c kc .nil)) e).1 := by unfold bdy; rw [if_neg h2, if_pos h3]
        rw [hb]
        obtain ⟨s1, s2, s3, s4⟩ := ent_core (ih c kc (by simp; omega)) f1 rfl f2 f3
        have hmc : mr (kd c.op) ⟨64, r2⟩ = par c.op (rWants a.op 1) := by
          have := way_tab hk s1 hw0 (j := 1) rfl s2
          rw [this, if_neg (by omega)]
          rfl
        simp only at s3 s4
        rw [hmc] at s3 s4
        by_cases hrr : rRank b.op = rRank a.op
        · rw [hgo, decide_eq_true hrr] at e1 hD s3 s4 ⊢
          simp only [if_true] at e1 hD s3 s4 ⊢
          obtain ⟨t1, t2, t3, t4⟩ := same_row hk hbk h3 hrr
          have hmr : mr (kd b.op) ⟨64, r1⟩ = 0 := by
            have := way_tab hk hbk hw0 (j := 0) rfl (ent_is e1).1
            rw [this, if_neg (by omega)]
            exact t4
          obtain ⟨q1, q2, q3, -⟩ := ent_rest (ih b kb (by simp; omega)) (e := e) e1 rfl hmr t3 (by simp only; omega) e2 e3
          have q3 := q3 t1
          have hbb : bdy b kb e = (rowK b.op kb e).1 := by unfold bdy; rw [if_neg t2, if_pos t1]
          rw [hbb] at q1 q2
          rw [← q3] at s3 s4
          rw [rowK, if_pos hrr]
          simp only
          rw [q3] at s3 s4 ⊢
          refine ⟨?_, ?_, fun _ => rfl, fun h9 => absurd h9 h2⟩
          · rw [s3, q1]
            omega
          · omega
        · rw [hgo, decide_eq_false hrr] at e1 hD s3 s4 ⊢
          simp only [Bool.false_eq_true, if_false] at e1 hD s3 s4 ⊢
          obtain ⟨q1, q2, q3, q4⟩ := ent_core (ih b kb (by simp; omega)) e1 rfl e2 e3
          have hmr : mr (kd b.op) ⟨64, r1⟩ = par b.op (rWants a.op 0) := by
            have := way_tab hk hbk hw0 (j := 0) rfl q2
            rw [this, if_neg (by omega)]
            rfl
          simp only at q3 q4
          rw [hmr] at q3 q4
          rw [Nat.add_zero] at q3 q4 s3 s4
          rw [rowK, if_neg hrr]
          simp only
          refine ⟨?_, ?_, fun _ => trivial, fun h9 => absurd h9 h2⟩
          · rw [s3, q3]
            omega
          · omega
      · rw [h4] at h9
        cases h9
/- the depth of a tree is the document's -/
theorem dpt_tree {l : List Nd} {a : Nd} {k : Fo} {W : List Wt} (hg : goF (.cons a k .nil) [] [wroot] 0 = some (W, dpt l)) (hp : pop W = []) : dpt l = opK a k 0 := by
  obtain ⟨b, kb, r, o, ws, W1, D2, e, h1, h2, h3, h4⟩ := goF_one (by decide) hg hp
  cases e
  obtain ⟨W', h5, -⟩ := goF_zero rfl h4 hp
  obtain ⟨-, h6⟩ := goF_none h5
  obtain ⟨q1, q2, q3, -⟩ := ent_core (core _ a k (Nat.le_refl _)) h1 rfl h2 h3
  rw [h6, q3]
  have hm : mr (kd a.op) wroot.plc = 0 := by
    have h7 : keys.all (fun op => decide ((kd op).is &&& 1 = 0) || mr (kd op) ⟨1, 0⟩ == 0) = true := by decide +kernel
    have h8 := List.all_eq_true.1 h7 a.op q1
    simp only [Bool.or_eq_true, decide_eq_true_eq, beq_iff_eq] at h8
    rcases h8 with h8 | h8
    · exact absurd h8 q2
    · exact h8
  rw [hm]
  show max 0 (opK a k 0) = _
  omega
end TR
end Go.Proofs.Ytgahdppcdeefaaa
