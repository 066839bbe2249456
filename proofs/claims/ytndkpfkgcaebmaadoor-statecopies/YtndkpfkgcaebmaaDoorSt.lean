/-
  States of games, no program: which may be, the first thing that is not so, where a card stands, what a number put in or taken out does.
-/
import Derived.Below
namespace Go.Proofs.YtndkpfkgcaebmaaDoor

structure Ply where
  life : Int
  energy : Int
  out : Bool
  deriving DecidableEq
structure Crd where
  kind : Int
  owner : Int
  power : Int
  health : Int
  damage : Int
  marks : Int
  deriving DecidableEq
structure Stt where
  ps : List Ply
  cs : List Crd
  zs : List (List Int)
  turn : Int
  whose : Int
  fin : Int
  winner : Int
namespace ST
def dp : Ply := ⟨0, 0, false⟩
def dc : Crd := ⟨0, 0, 0, 0, 0, 0⟩
def statB (x : Int) : Bool := decide (-1000000000 ≤ x) && decide (x ≤ 1000000000)
def numB (x : Int) (n : Nat) : Bool := decide (0 ≤ x) && decide (x < (n : Int))
def plyB (p : Ply) : Bool := statB p.life && statB p.energy
def crd0B (c : Crd) : Bool := numB c.kind 256 && statB c.power && statB c.health && statB c.damage && statB c.marks
def crdB (n : Nat) (c : Crd) : Bool := crd0B c && numB c.owner n
def npB (n : Nat) : Bool := decide (2 ≤ n) && decide (n ≤ 4)
def ncB (m : Nat) : Bool := decide (1 ≤ m) && decide (m ≤ 256)
def sizesB (s : Stt) : Bool := npB s.ps.length && ncB s.cs.length && decide (s.zs.length = 4 * s.ps.length)
/- the entry at place k is a card's number, and stood not ahead -/
def okAt (m : Nat) (l : List Int) (k : Nat) : Bool := match l[k]? with
  | some x => numB x m && !(l.take k).contains x
  | none => false
def goodF (m : Nat) (l : List Int) : Nat → Nat → Nat
  | 0, k => k
  | f + 1, k => if okAt m l k then goodF m l f (k + 1) else k
def good (m : Nat) (l : List Int) : Nat := goodF m l l.length 0
theorem goodF_at (m : Nat) (l : List Int) (k : Nat) (hk : k < l.length → okAt m l k = false) : ∀ f j, j ≤ k → k ≤ j + f → j + f = l.length → (∀ i, j ≤ i → i < k → okAt m l i = true) → goodF m l f j = k := by
  intro f
  induction f with
  | zero => intro j h1 h2 _ _; simp only [goodF]; omega
  | succ f ih =>
    intro j h1 h2 h3 h
    by_cases e : j = k
    · subst e
      simp only [goodF]
      rw [hk (by omega)]; simp
    · simp only [goodF]
      rw [h j (Nat.le_refl _) (by omega), if_pos rfl]
      exact ih (j + 1) (by omega) (by omega) (by omega) (fun i h4 h5 => h i (by omega) h5)
theorem good_at (m : Nat) (l : List Int) (k : Nat) (h1 : k ≤ l.length) (h2 : ∀ i, i < k → okAt m l i = true) (h3 : k < l.length → okAt m l k = false) : good m l = k :=
  goodF_at m l k h3 l.length 0 (Nat.zero_le _) (by omega) (by omega) (fun i _ h => h2 i h)
theorem goodF_ok (m : Nat) (l : List Int) : ∀ f j, (∀ i, j ≤ i → i < goodF m l f j → okAt m l i = true) ∧ j ≤ goodF m l f j ∧ goodF m l f j ≤ j + f := by
  intro f
  induction f with
  | zero => intro j; simp only [goodF]; exact ⟨fun i h1 h2 => by omega, Nat.le_refl _, by omega⟩
  | succ f ih =>
    intro j
    simp only [goodF]
    split
    · rename_i h
      obtain ⟨a, b, c⟩ := ih (j + 1)
      refine ⟨fun i h1 h2 => ?_, by omega, by omega⟩
      by_cases e : i = j
      · subst e; exact h
      · exact a i (by omega) h2
    · exact ⟨fun i h1 h2 => by omega, Nat.le_refl _, by omega⟩
theorem good_le (m : Nat) (l : List Int) : good m l ≤ l.length := by have := (goodF_ok m l l.length 0).2.2; unfold good; omega
theorem good_ok (m : Nat) (l : List Int) (i : Nat) (h : i < good m l) : okAt m l i = true := (goodF_ok m l l.length 0).1 i (Nat.zero_le _) h
/- all entries are cards' numbers, each once -/
def Ent (m : Nat) (l : List Int) : Prop := l.Nodup ∧ ∀ x ∈ l, numB x m = true
theorem good_ent (m : Nat) (l : List Int) (k : Nat) (hk : k ≤ l.length) (h : ∀ i, i < k → okAt m l i = true) : Ent m (l.take k) := by
  induction k with
  | zero => simp [Ent]
  | succ k ih =>
    obtain ⟨a, b⟩ := ih (by omega) (fun i hi => h i (by omega))
    have hx := h k (by omega)
    have e : l.take (k + 1) = l.take k ++ [l[k]'(by omega)] := by rw [List.take_add_one, List.getElem?_eq_getElem (by omega)]; rfl
    simp only [okAt, List.getElem?_eq_getElem (show k < l.length by omega), Bool.and_eq_true, Bool.not_eq_true'] at hx
    obtain ⟨h1, h2⟩ := hx
    have h2 : ¬ l[k]'(by omega) ∈ l.take k := by
      intro hm
      have := List.contains_iff_mem.2 hm
      rw [this] at h2; cases h2
    rw [Ent, e]
    refine ⟨?_, fun x hx => ?_⟩
    · rw [List.nodup_append]
      refine ⟨a, by simp, fun x hx y hy => ?_⟩
      simp at hy; subst hy
      rintro rfl; exact h2 hx
    · rcases List.mem_append.1 hx with hx | hx
      · exact b x hx
      · simp at hx; subst hx; exact h1
theorem ent_good (m : Nat) (l : List Int) (h : Ent m l) : good m l = l.length := by
  refine good_at m l l.length (Nat.le_refl _) (fun i hi => ?_) (fun h => by omega)
  simp only [okAt, List.getElem?_eq_getElem hi, Bool.and_eq_true, Bool.not_eq_true']
  refine ⟨h.2 _ (List.getElem_mem hi), ?_⟩
  rw [Bool.eq_false_iff]
  intro hc
  have hm := List.contains_iff_mem.1 hc
  have hd : l = l.take i ++ l[i] :: l.drop (i + 1) := by rw [List.getElem_cons_drop]; exact (List.take_append_drop i l).symm
  have hn := h.1
  rw [hd, List.nodup_append] at hn
  exact hn.2.2 _ hm _ (List.mem_cons_self ..) rfl
theorem good_iff (m : Nat) (l : List Int) : good m l = l.length ↔ Ent m l := by
  refine ⟨fun h => ?_, ent_good m l⟩
  have := good_ent m l l.length (Nat.le_refl _) (fun i hi => good_ok m l i (by omega))
  rwa [List.take_length] at this
theorem sub_len {A : Type} [DecidableEq A] : ∀ (l r : List A), l.Nodup → (∀ x ∈ l, x ∈ r) → l.length ≤ r.length := by
  intro l
  induction l with
  | nil => intro r _ _; exact Nat.zero_le _
  | cons x l ih =>
    intro r hn h
    have hx := h x (List.mem_cons_self ..)
    rw [List.nodup_cons] at hn
    have := ih (r.erase x) hn.2 (fun y hy => (List.mem_erase_of_ne (fun e => hn.1 (by rw [← e]; exact hy))).2 (h y (List.mem_cons_of_mem _ hy)))
    rw [List.length_erase_of_mem hx] at this
    have : 0 < r.length := List.length_pos_of_mem hx
    simp only [List.length_cons]; omega
def nums (m : Nat) : List Int := (List.range m).map (fun i : Nat => (i : Int))
theorem mem_nums {m : Nat} {x : Int} : x ∈ nums m ↔ numB x m = true := by
  simp only [nums, List.mem_map, List.mem_range, numB, Bool.and_eq_true, decide_eq_true_eq]
  exact ⟨fun ⟨i, h, e⟩ => by omega, fun ⟨a, b⟩ => ⟨x.toNat, by omega, by omega⟩⟩
theorem ent_le {m : Nat} {l : List Int} (h : Ent m l) : l.length ≤ m := by
  have := sub_len l (nums m) h.1 (fun x hx => mem_nums.2 (h.2 x hx))
  simpa [nums] using this
theorem ent_all {m : Nat} {l : List Int} (h : Ent m l) (hl : l.length = m) (x : Int) (hx : numB x m = true) : x ∈ l := by
  by_cases hm : x ∈ l
  · exact hm
  · have : Ent m (x :: l) := ⟨List.nodup_cons.2 ⟨hm, h.1⟩, fun y hy => by rcases List.mem_cons.1 hy with rfl | hy; exact hx; exact h.2 y hy⟩
    have := ent_le this
    simp at this; omega
theorem good_small (m : Nat) (l : List Int) (k : Nat) (hk : k ≤ l.length) (h : ∀ i, i < k → okAt m l i = true) : k ≤ m := by
  have := ent_le (good_ent m l k hk h)
  rw [List.length_take] at this; omega
def winB (s : Stt) : Bool := if s.fin = 1 then numB s.winner s.ps.length else decide (s.winner = 0)
def finB (s : Stt) : Bool := decide (s.fin = 0) || decide (s.fin = 1) || decide (s.fin = 2)
def flat (s : Stt) : List Int := s.zs.flatten
def ff (s : Stt) : Option Nat :=
  if sizesB s = false then some 0 else
  match s.ps.findIdx? (fun p => !plyB p) with
  | some i => some (1 + i)
  | none => match s.cs.findIdx? (fun c => !crdB s.ps.length c) with
    | some i => some (1 + s.ps.length + i)
    | none => if good s.cs.length (flat s) < (flat s).length ∨ good s.cs.length (flat s) < s.cs.length then some (1 + s.ps.length + s.cs.length + good s.cs.length (flat s)) else
      if ¬ 1 ≤ s.turn then some (2 + s.ps.length + 2 * s.cs.length) else
      if numB s.whose s.ps.length = false then some (3 + s.ps.length + 2 * s.cs.length) else
      if finB s = false then some (4 + s.ps.length + 2 * s.cs.length) else
      if winB s = false then some (5 + s.ps.length + 2 * s.cs.length) else none
/- all but the entries -/
def Rest (s : Stt) : Prop := sizesB s = true ∧ (∀ p ∈ s.ps, plyB p = true) ∧ (∀ c ∈ s.cs, crdB s.ps.length c = true) ∧ 1 ≤ s.turn ∧ numB s.whose s.ps.length = true ∧ finB s = true ∧ winB s = true
theorem findIdx_none {A : Type} (l : List A) (f : A → Bool) : l.findIdx? (fun x => !f x) = none ↔ ∀ x ∈ l, f x = true := by
  rw [List.findIdx?_eq_none_iff]
  exact ⟨fun h x hx => by have := h x hx; simpa using this, fun h x hx => by simp [h x hx]⟩
theorem ff_none (s : Stt) : ff s = none ↔ Rest s ∧ Ent s.cs.length (flat s) ∧ (flat s).length = s.cs.length := by
  have hg := good_le s.cs.length (flat s)
  have hi := good_iff s.cs.length (flat s)
  constructor
  · intro h
    unfold ff at h
    split at h
    · cases h
    rename_i h0
    split at h
    · cases h
    rename_i h1
    split at h
    · cases h
    rename_i h2
    split at h
    · cases h
    rename_i h3
    split at h
    · cases h
    rename_i h4
    split at h
    · cases h
    rename_i h5
    split at h
    · cases h
    rename_i h6
    split at h
    · cases h
    rename_i h7
    have he : Ent s.cs.length (flat s) := hi.1 (by omega)
    have := ent_le he
    exact ⟨⟨by simpa using h0, (findIdx_none _ _).1 h1, (findIdx_none _ _).1 h2, by omega, by simpa using h5, by simpa using h6, by simpa using h7⟩, he, by omega⟩
  · rintro ⟨⟨h0, h1, h2, h3, h4, h5, h6⟩, h7, h8⟩
    have := hi.2 h7
    unfold ff
    rw [if_neg (by simp [h0]), (findIdx_none _ _).2 h1, (findIdx_none _ _).2 h2]
    dsimp only
    rw [if_neg (by omega), if_neg (by omega), if_neg (by simp [h4]), if_neg (by simp [h5]), if_neg (by simp [h6])]
/- where a number stands -/
def wh (c : Int) : List (List Int) → Nat → Option (Nat × Nat)
  | [], _ => none
  | l :: zs, z => match l.findIdx? (fun x => decide (x = c)) with
    | some i => some (z, i)
    | none => wh c zs (z + 1)
def whereOf (s : Stt) (c : Int) : Option (Nat × Nat) := if ff s = none then wh c s.zs 0 else none
theorem wh_some (c : Int) : ∀ (zs : List (List Int)) (k z i : Nat), wh c zs k = some (z, i) → k ≤ z ∧ z - k < zs.length ∧ i < (zs.getD (z - k) []).length ∧ (zs.getD (z - k) []).getD i 0 = c := by
  intro zs
  induction zs with
  | nil => intro k z i h; cases h
  | cons l zs ih =>
    intro k z i h
    unfold wh at h
    split at h
    · rename_i j hj
      simp at h
      obtain ⟨rfl, rfl⟩ := h
      rw [List.findIdx?_eq_some_iff_getElem] at hj
      obtain ⟨h1, h2, -⟩ := hj
      refine ⟨Nat.le_refl _, by simp, ?_⟩
      simp
      exact ⟨h1, by simpa [List.getElem?_eq_getElem h1] using h2⟩
    · obtain ⟨a, b, c, d⟩ := ih (k + 1) z i h
      have e : z - k = (z - (k + 1)) + 1 := by omega
      refine ⟨by omega, by simp; omega, ?_⟩
      rw [e]
      exact ⟨c, d⟩
theorem wh_none (c : Int) : ∀ (zs : List (List Int)) (k : Nat), wh c zs k = none → ∀ l ∈ zs, c ∉ l := by
  intro zs
  induction zs with
  | nil => intro k h l hl; cases hl
  | cons l zs ih =>
    intro k h
    unfold wh at h
    split at h
    · cases h
    · rename_i hj
      intro r hr
      rcases List.mem_cons.1 hr with rfl | hr
      · intro hc
        have := (List.findIdx?_eq_none_iff.1 hj) c hc
        simp at this
      · exact ih (k + 1) h r hr
theorem wh_mem (c : Int) (zs : List (List Int)) (h : c ∈ zs.flatten) : ∃ z i, wh c zs 0 = some (z, i) := by
  cases e : wh c zs 0 with
  | some p => exact ⟨p.1, p.2, rfl⟩
  | none =>
    obtain ⟨l, hl, hc⟩ := List.mem_flatten.1 h
    exact (wh_none c zs 0 e l hl hc).elim
theorem nodup_at {A : Type} {l : List A} (h : l.Nodup) {i j : Nat} (hi : i < l.length) (hj : j < l.length) (e : l[i] = l[j]) : i = j := by
  rw [List.nodup_iff_pairwise_ne] at h
  rw [List.pairwise_iff_getElem] at h
  rcases Nat.lt_trichotomy i j with hl | hl | hl
  · exact (h i j hi hj hl e).elim
  · exact hl
  · exact (h j i hj hi hl e.symm).elim
theorem flat_one : ∀ (zs : List (List Int)), zs.flatten.Nodup → ∀ (c : Int) (z i k : Nat), z < zs.length → i < (zs.getD z []).length → (zs.getD z []).getD i 0 = c → wh c zs k = some (k + z, i) := by
  intro zs
  induction zs with
  | nil => intro _ c z i k hz; simp at hz
  | cons l zs ih =>
    intro hn c z i k hz hi hc
    rw [List.flatten_cons, List.nodup_append] at hn
    obtain ⟨n1, n2, n3⟩ := hn
    unfold wh
    cases z with
    | zero =>
      simp at hi hc
      have : l.findIdx? (fun x => decide (x = c)) = some i := by
        rw [List.findIdx?_eq_some_iff_getElem]
        refine ⟨hi, by simpa [List.getElem?_eq_getElem hi] using hc, fun j hj => ?_⟩
        simp
        intro e
        have hj' : j < l.length := by omega
        have h2 : l[j] = l[i] := by rw [e]; simpa [List.getElem?_eq_getElem hi] using hc.symm
        have := nodup_at n1 hj' hi h2
        omega
      rw [this]
      rfl
    | succ z =>
      simp at hi hc hz
      have hl : (zs.getD z []) ∈ zs := by rw [List.getD_eq_getElem?_getD, List.getElem?_eq_getElem hz]; exact List.getElem_mem _
      have hi' : i < (zs.getD z []).length := by simpa using hi
      have hcm : c ∈ zs.flatten := by
        refine List.mem_flatten.2 ⟨_, hl, ?_⟩
        have : (zs.getD z []).getD i 0 = c := by simpa using hc
        rw [← this, List.getD_eq_getElem?_getD (l := zs.getD z []), List.getElem?_eq_getElem hi']
        exact List.getElem_mem _
      have : l.findIdx? (fun x => decide (x = c)) = none := by
        rw [List.findIdx?_eq_none_iff]
        intro x hx
        simp
        rintro rfl
        exact n3 x hx x hcm rfl
      rw [this]
      have := ih n2 c z i (k + 1) hz hi' (by simpa using hc)
      rw [this]
      rw [Nat.add_assoc, Nat.add_comm 1 z]
/- a zone that has turned -/
theorem flat_set : ∀ (zs : List (List Int)) (z : Nat) (l : List Int), z < zs.length → ((zs.set z l).flatten ++ zs.getD z []).Perm (zs.flatten ++ l) := by
  intro zs
  induction zs with
  | nil => intro z l h; simp at h
  | cons a zs ih =>
    intro z l h
    cases z with
    | zero =>
      simp only [List.set_cons_zero, List.flatten_cons, List.getD_cons_zero]
      rw [List.append_assoc a]
      exact (List.perm_append_comm).trans (List.Perm.append_left a List.perm_append_comm)
    | succ z =>
      simp only [List.set_cons_succ, List.flatten_cons, List.getD_cons_succ, List.append_assoc]
      exact (ih z l (by simpa using h)).append_left a
/- other zones -/
def withZ (s : Stt) (zs : List (List Int)) : Stt := { s with zs := zs }
theorem rest_z {s : Stt} (h : Rest s) {zs : List (List Int)} (hl : zs.length = s.zs.length) : Rest (withZ s zs) := by
  obtain ⟨h0, h1⟩ := h
  refine ⟨?_, h1⟩
  simp only [sizesB] at h0 ⊢
  rw [show (withZ s zs).zs.length = s.zs.length from hl]
  exact h0
theorem set_put {zs : List (List Int)} {z : Nat} {l : List Int} {c : Int} (hz : z < zs.length) (h : l.Perm (c :: zs.getD z [])) : (zs.set z l).flatten.Perm (c :: zs.flatten) := by
  have h1 := flat_set zs z l hz
  have h2 : (zs.flatten ++ l).Perm ((c :: zs.flatten) ++ zs.getD z []) := by
    refine (List.Perm.append_left _ h).trans ?_
    exact List.perm_middle
  exact (List.perm_append_right_iff _).1 (h1.trans h2)
theorem set_gone {zs : List (List Int)} {z : Nat} {l : List Int} {c : Int} (hz : z < zs.length) (h : (c :: l).Perm (zs.getD z [])) : (c :: (zs.set z l).flatten).Perm zs.flatten := by
  have h1 := flat_set zs z l hz
  have h2 : ((zs.set z l).flatten ++ zs.getD z []).Perm ((c :: (zs.set z l).flatten) ++ l) := by
    refine (List.Perm.append_left _ h.symm).trans ?_
    exact List.perm_middle
  exact (List.perm_append_right_iff _).1 (h2.symm.trans h1)
theorem put_bad {s : Stt} (h : ff s = none) {z : Nat} {l : List Int} {c : Int} (hz : z < s.zs.length) (hl : l.Perm (c :: s.zs.getD z [])) : ff (withZ s (s.zs.set z l)) ≠ none := by
  intro h2
  have a := ((ff_none s).1 h).2.2
  have b := ((ff_none _).1 h2).2.2
  have c := (set_put hz hl).length_eq
  simp only [flat, withZ, List.length_cons] at a b c
  omega
theorem gone_bad {s : Stt} (h : ff s = none) {z : Nat} {l : List Int} {c : Int} (hz : z < s.zs.length) (hl : (c :: l).Perm (s.zs.getD z [])) : ff (withZ s (s.zs.set z l)) ≠ none := by
  intro h2
  have a := ((ff_none s).1 h).2.2
  have b := ((ff_none _).1 h2).2.2
  have c := (set_gone hz hl).length_eq
  simp only [flat, withZ, List.length_cons] at a b c
  omega
theorem moved_ok {s : Stt} (h : ff s = none) {z : Nat} {l : List Int} {c : Int} (hz : z < s.zs.length) (hl : (c :: l).Perm (s.zs.getD z [])) {y : Nat} {r : List Int} (hy : y < s.zs.length) (hr : r.Perm (c :: (s.zs.set z l).getD y [])) : ff (withZ s ((s.zs.set z l).set y r)) = none := by
  obtain ⟨h1, h2, h3⟩ := (ff_none s).1 h
  have p : ((s.zs.set z l).set y r).flatten.Perm s.zs.flatten := (set_put (by simpa using hy) hr).trans (set_gone hz hl)
  refine (ff_none _).2 ⟨rest_z h1 (by simp), ⟨?_, fun x hx => ?_⟩, ?_⟩
  · exact p.nodup_iff.2 h2.1
  · exact h2.2 x (p.mem_iff.1 hx)
  · exact p.length_eq.trans h3
theorem ins_perm (l : List Int) (c : Int) (k : Nat) : (l.take k ++ c :: l.drop k).Perm (c :: l) := by
  have := List.perm_middle (a := c) (l₁ := l.take k) (l₂ := l.drop k)
  rwa [List.take_append_drop] at this
theorem cut_perm (l : List Int) (c : Int) (k : Nat) (hk : k < l.length) (hc : l.getD k 0 = c) : (c :: (l.take k ++ l.drop (k + 1))).Perm l := by
  have e : l.drop k = c :: l.drop (k + 1) := by
    rw [List.drop_eq_getElem_cons hk]
    rw [List.getD_eq_getElem?_getD, List.getElem?_eq_getElem hk] at hc
    simp at hc; rw [hc]
  have := List.perm_middle (a := c) (l₁ := l.take k) (l₂ := l.drop (k + 1))
  rw [← e, List.take_append_drop] at this
  exact this.symm
/- how a game begins -/
def owned (p : Nat) (l : List Crd) : List Crd := l.map (fun c => { c with owner := (p : Int) })
def cardsF : Nat → List (List Crd) → List Crd
  | _, [] => []
  | p, d :: ds => owned p d ++ cardsF (p + 1) ds
def numsF (a k : Nat) : List Int := (List.range k).map (fun i : Nat => ((a + i : Nat) : Int))
def zonesF : Nat → List (List Crd) → List (List Int)
  | _, [] => []
  | a, d :: ds => numsF a d.length :: [] :: [] :: [] :: zonesF (a + d.length) ds
def total (ds : List (List Crd)) : Nat := ds.flatten.length
def decksB (ds : List (List Crd)) : Bool := npB ds.length && ncB (total ds) && ds.all (fun d => d.all crd0B)
def newB (ds : List (List Crd)) (life energy : Int) : Bool := decksB ds && statB life && statB energy
def newS (ds : List (List Crd)) (life energy : Int) : Stt := ⟨List.replicate ds.length ⟨life, energy, false⟩, cardsF 0 ds, zonesF 0 ds, 1, 0, 0, 0⟩
def noS : Stt := ⟨[], [], [], 0, 0, 0, 0⟩
theorem cardsF_len : ∀ (ds : List (List Crd)) (p : Nat), (cardsF p ds).length = total ds := by
  intro ds
  induction ds with
  | nil => intro p; rfl
  | cons d ds ih => intro p; simp only [cardsF, total, List.length_append, List.flatten_cons, owned, List.length_map]; rw [ih]; rfl
theorem zonesF_len : ∀ (ds : List (List Crd)) (a : Nat), (zonesF a ds).length = 4 * ds.length := by
  intro ds
  induction ds with
  | nil => intro a; rfl
  | cons d ds ih => intro a; simp only [zonesF, List.length_cons]; rw [ih]; omega
theorem cardsF_more : ∀ (ds : List (List Crd)) (p : Nat) (d : List Crd), cardsF p (ds ++ [d]) = cardsF p ds ++ owned (p + ds.length) d := by
  intro ds
  induction ds with
  | nil => intro p d; simp [cardsF]
  | cons e ds ih => intro p d; simp only [List.cons_append, cardsF, ih, List.append_assoc, List.length_cons]; rw [Nat.add_assoc, Nat.add_comm 1]
theorem zonesF_more : ∀ (ds : List (List Crd)) (a : Nat) (d : List Crd), zonesF a (ds ++ [d]) = zonesF a ds ++ [numsF (a + total ds) d.length, [], [], []] := by
  intro ds
  induction ds with
  | nil => intro a d; simp [zonesF, total]
  | cons e ds ih => intro a d; simp only [List.cons_append, zonesF, ih, total, List.flatten_cons, List.length_append]; rw [Nat.add_assoc]
end ST
end Go.Proofs.YtndkpfkgcaebmaaDoor
