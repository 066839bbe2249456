/-
  A list cut at its end, as one step of a walk.
-/
import Derived.Test.YtmpamcdobhiipaaGreatDoorBaseToLc
import Derived.Below
namespace Go.Proofs.YtmpamcdobhiipaaGreatDoor
open Go.RowKit

theorem wpList_slice_h {P : Program} {w : World} {ops : Array Oper} {rest : List Oper} {o : Oper} {a : Act} {Q : Exit → Act → World → Prop} (hgd : o.guard = none) (t : TypeId) (x hi : Operand) (ho : o.op = .slice t x none (some hi) none)
    (e : TypeId) (size : Nat) (hu : P.underlying t = some (.slice e)) (hsz : (P.info? e).map (·.size) = some size) (ad : Option Addr) (n cap k : Nat) (hx : a.eval x = .slice ad n cap) (hk : a.eval hi = .int .i64 (k : Int)) (hle : k ≤ cap)
    (h : wpList P ops Q rest (a.put o.dst (.slice ad k cap)) w) : wpList P ops Q (o :: rest) a w := by
  refine wpList_plain hgd fun K hK => ?_
  have hrun : (Instr.sliceAt t (.slice ad n cap) none (some (.int .i64 (k : Int))) none).run P w = .ok (.slice ad k cap) w := by
    have hadd : ∀ z : Addr, z.add 0 = z := fun z => by cases z with | mk b o s => cases s <;> rfl
    cases hq : P.info? e with
    | none => simp [hq] at hsz
    | some i =>
      simp only [Instr.sliceAt, Sem.run_bind, run_underlying hu, Result.andThen]
      simp [Instr.slice, run_underlying hu, Instr.sliceBounds, run_sliceBound, sizeOf, typeInfo, hq, hle]
      cases ad <;> simp [hadd]
  unfold Oper.wp execOp
  simp only [ho, Option.map, hx, hk, Sem.run_bind, hrun, Result.andThen_ok, Sem.run_pure]
  exact hK _ _ h
theorem wpList_slice_l {P : Program} {w : World} {ops : Array Oper} {rest : List Oper} {o : Oper} {a : Act} {Q : Exit → Act → World → Prop} (hgd : o.guard = none) (t : TypeId) (x lo : Operand) (ho : o.op = .slice t x (some lo) none none)
    (e : TypeId) (size : Nat) (hu : P.underlying t = some (.slice e)) (hsz : (P.info? e).map (·.size) = some size) (ad : Option Addr) (n cap k : Nat) (hx : a.eval x = .slice ad n cap) (hk : a.eval lo = .int .i64 (k : Int)) (hle : k ≤ n) (hnc : n ≤ cap)
    (h : ∀ ad', (k < n → ad' = ad.map (·.add (k * size))) → wpList P ops Q rest (a.put o.dst (.slice ad' (n - k) (cap - k))) w) : wpList P ops Q (o :: rest) a w := by
  refine wpList_plain hgd fun K hK => ?_
  have hrun : (Instr.sliceAt t (.slice ad n cap) (some (.int .i64 (k : Int))) none none).run P w = .ok (.slice (if cap = k then ad else ad.map (·.add (k * size))) (n - k) (cap - k)) w := by
    cases hq : P.info? e with
    | none => simp [hq] at hsz
    | some i =>
      have hi : i.size = size := by simpa [hq] using hsz
      simp only [Instr.sliceAt, Sem.run_bind, run_underlying hu, Result.andThen]
      simp [Instr.slice, run_underlying hu, Instr.sliceBounds, run_sliceBound, sizeOf, typeInfo, hq, hle, hi]
  unfold Oper.wp execOp
  simp only [ho, Option.map, hx, hk, Sem.run_bind, hrun, Result.andThen_ok, Sem.run_pure]
  exact hK _ _ (h _ (fun hlt => if_neg (by omega)))
theorem src_take {w w1 : World} {b off n : Nat} {cs c : List Value} (h : ∀ j x, cs[j]? = some x → w.cell? ⟨b, off + j, none⟩ = some x) (u : Up w w1) (hc : c = cs.take n) : ∀ j v, c[j]? = some v → w1.cell? ((⟨b, off, none⟩ : Addr).add j) = some v := by
  intro j v hv
  rw [Addr.add_mid]
  refine u.cell (h j v ?_)
  rw [hc, List.getElem?_take] at hv
  split at hv
  · exact hv
  · cases hv
theorem src_drop {w w1 : World} {b off n : Nat} {cs c : List Value} (h : ∀ j x, cs[j]? = some x → w.cell? ⟨b, off + j, none⟩ = some x) (u : Up w w1) (hc : c = cs.drop n) : ∀ j v, c[j]? = some v → w1.cell? ((⟨b, off + n, none⟩ : Addr).add j) = some v := by
  intro j v hv
  rw [Addr.add_mid, Nat.add_assoc]
  refine u.cell (h (n + j) v ?_)
  rw [hc, List.getElem?_drop] at hv
  exact hv
theorem run_copy0 {P : Program} (w : World) (dT sT ty elem : TypeId) (size : Nat) (hu : P.underlying dT = some (.slice elem)) (hsz : (P.info? elem).map (·.size) = some size) (dp sp : Option Addr) (dLen dCap sCap : Nat) :
    (Builtin.copy_ #[dT, sT] ty #[.slice dp dLen dCap, .slice sp 0 sCap]).run P w = .ok (goInt 0) w := by
  cases hq : P.info? elem with
  | none => simp [hq] at hsz
  | some i =>
    have hm : Nat.min 0 dLen = 0 := Nat.zero_min _
    have hl0 : ∀ (x : Addr), (loadCells x 0).run P w = .ok #[] w := fun x => by simpa using run_loadCells_list (P := P) w x [] (by simp)
    cases sp <;> cases dp <;> simp [Builtin.copy_, run_underlying hu, Builtin.lenOf, Builtin.firstCells, sizeOf, typeInfo, hq, hm, storeCells, hl0]
theorem made_up {w w1 : World} (h : w.grownBy w1 none) : Up w w1 := Below.grown (Up.refl _) h (Nat.le_refl _) (fun k hk => by cases hk)
end Go.Proofs.YtmpamcdobhiipaaGreatDoor
/-
  States of games, no program: which may be, the first thing that is not so, where a card stands, what a number put in or taken out does.
-/
namespace Go.Proofs.YtmpamcdobhiipaaGreatDoor

structure Ply where
  life : Int
  energy : Int
  out : Bool
  deriving DecidableEq
structure Crd where
  kind : Int
  owner : Int
  power : Int
  health : Int
  damage : Int
  marks : Int
  deriving DecidableEq
structure Stt where
  ps : List Ply
  cs : List Crd
  zs : List (List Int)
  turn : Int
  whose : Int
  fin : Int
  winner : Int
namespace ST
def dp : Ply := ⟨0, 0, false⟩
def dc : Crd := ⟨0, 0, 0, 0, 0, 0⟩
def statB (x : Int) : Bool := decide (-1000000000 ≤ x) && decide (x ≤ 1000000000)
def numB (x : Int) (n : Nat) : Bool := decide (0 ≤ x) && decide (x < (n : Int))
def plyB (p : Ply) : Bool := statB p.life && statB p.energy
def crd0B (c : Crd) : Bool := numB c.kind 256 && statB c.power && statB c.health && statB c.damage && statB c.marks
def crdB (n : Nat) (c : Crd) : Bool := crd0B c && numB c.owner n
def npB (n : Nat) : Bool := decide (2 ≤ n) && decide (n ≤ 4)
def ncB (m : Nat) : Bool := decide (1 ≤ m) && decide (m ≤ 256)
def sizesB (s : Stt) : Bool := npB s.ps.length && ncB s.cs.length && decide (s.zs.length = 4 * s.ps.length)
/- the entry at place k is a card's number, and stood not ahead -/
def okAt (m : Nat) (l : List Int) (k : Nat) : Bool := match l[k]? with
  | some x => numB x m && !(l.take k).contains x
  | none => false
def goodF (m : Nat) (l : List Int) : Nat → Nat → Nat
  | 0, k => k
  | f + 1, k => if okAt m l k then goodF m l f (k + 1) else k
def good (m : Nat) (l : List Int) : Nat := goodF m l l.length 0
theorem goodF_at (m : Nat) (l : List Int) (k : Nat) (hk : k < l.length → okAt m l k = false) : ∀ f j, j ≤ k → k ≤ j + f → j + f = l.length → (∀ i, j ≤ i → i < k → okAt m l i = true) → goodF m l f j = k := by
  intro f
  induction f with
  | zero => intro j h1 h2 _ _; simp only [goodF]; omega
  | succ f ih =>
    intro j h1 h2 h3 h
    by_cases e : j = k
    · subst e
      simp only [goodF]
      rw [hk (by omega)]; simp
    · simp only [goodF]
      rw [h j (Nat.le_refl _) (by omega), if_pos rfl]
      exact ih (j + 1) (by omega) (by omega) (by omega) (fun i h4 h5 => h i (by omega) h5)
theorem good_at (m : Nat) (l : List Int) (k : Nat) (h1 : k ≤ l.length) (h2 : ∀ i, i < k → okAt m l i = true) (h3 : k < l.length → okAt m l k = false) : good m l = k :=
  goodF_at m l k h3 l.length 0 (Nat.zero_le _) (by omega) (by omega) (fun i _ h => h2 i h)
theorem goodF_ok (m : Nat) (l : List Int) : ∀ f j, (∀ i, j ≤ i → i < goodF m l f j → okAt m l i = true) ∧ j ≤ goodF m l f j ∧ goodF m l f j ≤ j + f := by
  intro f
  induction f with
  | zero => intro j; simp only [goodF]; exact ⟨fun i h1 h2 => by omega, Nat.le_refl _, by omega⟩
  | succ f ih =>
    intro j
    simp only [goodF]
    split
    · rename_i h
      obtain ⟨a, b, c⟩ := ih (j + 1)
      refine ⟨fun i h1 h2 => ?_, by omega, by omega⟩
      by_cases e : i = j
      · subst e; exact h
      · exact a i (by omega) h2
    · exact ⟨fun i h1 h2 => by omega, Nat.le_refl _, by omega⟩
theorem good_le (m : Nat) (l : List Int) : good m l ≤ l.length := by have := (goodF_ok m l l.length 0).2.2; unfold good; omega
theorem good_ok (m : Nat) (l : List Int) (i : Nat) (h : i < good m l) : okAt m l i = true := (goodF_ok m l l.length 0).1 i (Nat.zero_le _) h
/- all entries are cards' numbers, each once -/
def Ent (m : Nat) (l : List Int) : Prop := l.Nodup ∧ ∀ x ∈ l, numB x m = true
theorem good_ent (m : Nat) (l : List Int) (k : Nat) (hk : k ≤ l.length) (h : ∀ i, i < k → okAt m l i = true) : Ent m (l.take k) := by
  induction k with
  | zero => simp [Ent]
  | succ k ih =>
    obtain ⟨a, b⟩ := ih (by omega) (fun i hi => h i (by omega))
    have hx := h k (by omega)
    have e : l.take (k + 1) = l.take k ++ [l[k]'(by omega)] := by rw [List.take_add_one, List.getElem?_eq_getElem (by omega)]; rfl
    simp only [okAt, List.getElem?_eq_getElem (show k < l.length by omega), Bool.and_eq_true, Bool.not_eq_true'] at hx
    obtain ⟨h1, h2⟩ := hx
    have h2 : ¬ l[k]'(by omega) ∈ l.take k := by
      intro hm
      have := List.contains_iff_mem.2 hm
      rw [this] at h2; cases h2
    rw [Ent, e]
    refine ⟨?_, fun x hx => ?_⟩
    · rw [List.nodup_append]
      refine ⟨a, by simp, fun x hx y hy => ?_⟩
      simp at hy; subst hy
      rintro rfl; exact h2 hx
    · rcases List.mem_append.1 hx with hx | hx
      · exact b x hx
      · simp at hx; subst hx; exact h1
theorem ent_good (m : Nat) (l : List Int) (h : Ent m l) : good m l = l.length := by
  refine good_at m l l.length (Nat.le_refl _) (fun i hi => ?_) (fun h => by omega)
  simp only [okAt, List.getElem?_eq_getElem hi, Bool.and_eq_true, Bool.not_eq_true']
  refine ⟨h.2 _ (List.getElem_mem hi), ?_⟩
  rw [Bool.eq_false_iff]
  intro hc
  have hm := List.contains_iff_mem.1 hc
  have hd : l = l.take i ++ l[i] :: l.drop (i + 1) := by rw [List.getElem_cons_drop]; exact (List.take_append_drop i l).symm
  have hn := h.1
  rw [hd, List.nodup_append] at hn
  exact hn.2.2 _ hm _ (List.mem_cons_self ..) rfl
theorem good_iff (m : Nat) (l : List Int) : good m l = l.length ↔ Ent m l := by
  refine ⟨fun h => ?_, ent_good m l⟩
  have := good_ent m l l.length (Nat.le_refl _) (fun i hi => good_ok m l i (by omega))
  rwa [List.take_length] at this
theorem sub_len {A : Type} [DecidableEq A] : ∀ (l r : List A), l.Nodup → (∀ x ∈ l, x ∈ r) → l.length ≤ r.length := by
  intro l
  induction l with
  | nil => intro r _ _; exact Nat.zero_le _
  | cons x l ih =>
    intro r hn h
    have hx := h x (List.mem_cons_self ..)
    rw [List.nodup_cons] at hn
    have := ih (r.erase x) hn.2 (fun y hy => (List.mem_erase_of_ne (fun e => hn.1 (by rw [← e]; exact hy))).2 (h y (List.mem_cons_of_mem _ hy)))
    rw [List.length_erase_of_mem hx] at this
    have : 0 < r.length := List.length_pos_of_mem hx
    simp only [List.length_cons]; omega
def nums (m : Nat) : List Int := (List.range m).map (fun i : Nat => (i : Int))
theorem mem_nums {m : Nat} {x : Int} : x ∈ nums m ↔ numB x m = true := by
  simp only [nums, List.mem_map, List.mem_range, numB, Bool.and_eq_true, decide_eq_true_eq]
  exact ⟨fun ⟨i, h, e⟩ => by omega, fun ⟨a, b⟩ => ⟨x.toNat, by omega, by omega⟩⟩
theorem ent_le {m : Nat} {l : List Int} (h : Ent m l) : l.length ≤ m := by
  have := sub_len l (nums m) h.1 (fun x hx => mem_nums.2 (h.2 x hx))
  simpa [nums] using this
theorem ent_all {m : Nat} {l : List Int} (h : Ent m l) (hl : l.length = m) (x : Int) (hx : numB x m = true) : x ∈ l := by
  by_cases hm : x ∈ l
  · exact hm
  · have : Ent m (x :: l) := ⟨List.nodup_cons.2 ⟨hm, h.1⟩, fun y hy => by rcases List.mem_cons.1 hy with rfl | hy; exact hx; exact h.2 y hy⟩
    have := ent_le this
    simp at this; omega
theorem good_small (m : Nat) (l : List Int) (k : Nat) (hk : k ≤ l.length) (h : ∀ i, i < k → okAt m l i = true) : k ≤ m := by
  have := ent_le (good_ent m l k hk h)
  rw [List.length_take] at this; omega
def winB (s : Stt) : Bool := if s.fin = 1 then numB s.winner s.ps.length else decide (s.winner = 0)
def finB (s : Stt) : Bool := decide (s.fin = 0) || decide (s.fin = 1) || decide (s.fin = 2)
def flat (s : Stt) : List Int := s.zs.flatten
def ff (s : Stt) : Option Nat :=
  if sizesB s = false then some 0 else
  match s.ps.findIdx? (fun p => !plyB p) with
  | some i => some (1 + i)
  | none => match s.cs.findIdx? (fun c => !crdB s.ps.length c) with
    | some i => some (1 + s.ps.length + i)
    | none => if good s.cs.length (flat s) < (flat s).length ∨ good s.cs.length (flat s) < s.cs.length then some (1 + s.ps.length + s.cs.length + good s.cs.length (flat s)) else
      if ¬ 1 ≤ s.turn then some (2 + s.ps.length + 2 * s.cs.length) else
      if numB s.whose s.ps.length = false then some (3 + s.ps.length + 2 * s.cs.length) else
      if finB s = false then some (4 + s.ps.length + 2 * s.cs.length) else
      if winB s = false then some (5 + s.ps.length + 2 * s.cs.length) else none
/- all but the entries -/
def Rest (s : Stt) : Prop := sizesB s = true ∧ (∀ p ∈ s.ps, plyB p = true) ∧ (∀ c ∈ s.cs, crdB s.ps.length c = true) ∧ 1 ≤ s.turn ∧ numB s.whose s.ps.length = true ∧ finB s = true ∧ winB s = true
theorem findIdx_none {A : Type} (l : List A) (f : A → Bool) : l.findIdx? (fun x => !f x) = none ↔ ∀ x ∈ l, f x = true := by
  rw [List.findIdx?_eq_none_iff]
  exact ⟨fun h x hx => by have := h x hx; simpa using this, fun h x hx => by simp [h x hx]⟩
theorem ff_none (s : Stt) : ff s = none ↔ Rest s ∧ Ent s.cs.length (flat s) ∧ (flat s).length = s.cs.length := by
  have hg := good_le s.cs.length (flat s)
  have hi := good_iff s.cs.length (flat s)
  constructor
  · intro h
    unfold ff at h
    split at h
    · cases h
    rename_i h0
    split at h
    · cases h
    rename_i h1
    split at h
    · cases h
    rename_i h2
    split at h
    · cases h
    rename_i h3
    split at h
    · cases h
    rename_i h4
    split at h
    · cases h
    rename_i h5
    split at h
    · cases h
    rename_i h6
    split at h
    · cases h
    rename_i h7
    have he : Ent s.cs.length (flat s) := hi.1 (by omega)
    have := ent_le he
    exact ⟨⟨by simpa using h0, (findIdx_none _ _).1 h1, (findIdx_none _ _).1 h2, by omega, by simpa using h5, by simpa using h6, by simpa using h7⟩, he, by omega⟩
  · rintro ⟨⟨h0, h1, h2, h3, h4, h5, h6⟩, h7, h8⟩
    have := hi.2 h7
    unfold ff
    rw [if_neg (by simp [h0]), (findIdx_none _ _).2 h1, (findIdx_none _ _).2 h2]
    dsimp only
    rw [if_neg (by omega), if_neg (by omega), if_neg (by simp [h4]), if_neg (by simp [h5]), if_neg (by simp [h6])]
/- where a number stands -/
def wh (c : Int) : List (List Int) → Nat → Option (Nat × Nat)
  | [], _ => none
  | l :: zs, z => match l.findIdx? (fun x => decide (x = c)) with
    | some i => some (z, i)
    | none => wh c zs (z + 1)
def whereOf (s : Stt) (c : Int) : Option (Nat × Nat) := if ff s = none then wh c s.zs 0 else none
theorem wh_some (c : Int) : ∀ (zs : List (List Int)) (k z i : Nat), wh c zs k = some (z, i) → k ≤ z ∧ z - k < zs.length ∧ i < (zs.getD (z - k) []).length ∧ (zs.getD (z - k) []).getD i 0 = c := by
  intro zs
  induction zs with
  | nil => intro k z i h; cases h
  | cons l zs ih =>
    intro k z i h
    unfold wh at h
    split at h
    · rename_i j hj
      simp at h
      obtain ⟨rfl, rfl⟩ := h
      rw [List.findIdx?_eq_some_iff_getElem] at hj
      obtain ⟨h1, h2, -⟩ := hj
      refine ⟨Nat.le_refl _, by simp, ?_⟩
      simp
      exact ⟨h1, by simpa [List.getElem?_eq_getElem h1] using h2⟩
    · obtain ⟨a, b, c, d⟩ := ih (k + 1) z i h
      have e : z - k = (z - (k + 1)) + 1 := by omega
      refine ⟨by omega, by simp; omega, ?_⟩
      rw [e]
      exact ⟨c, d⟩
theorem wh_none (c : Int) : ∀ (zs : List (List Int)) (k : Nat), wh c zs k = none → ∀ l ∈ zs, c ∉ l := by
  intro zs
  induction zs with
  | nil => intro k h l hl; cases hl
  | cons l zs ih =>
    intro k h
    unfold wh at h
    split at h
    · cases h
    · rename_i hj
      intro r hr
      rcases List.mem_cons.1 hr with rfl | hr
      · intro hc
        have := (List.findIdx?_eq_none_iff.1 hj) c hc
        simp at this
      · exact ih (k + 1) h r hr
theorem wh_mem (c : Int) (zs : List (List Int)) (h : c ∈ zs.flatten) : ∃ z i, wh c zs 0 = some (z, i) := by
  cases e : wh c zs 0 with
  | some p => exact ⟨p.1, p.2, rfl⟩
  | none =>
    obtain ⟨l, hl, hc⟩ := List.mem_flatten.1 h
    exact (wh_none c zs 0 e l hl hc).elim
theorem nodup_at {A : Type} {l : List A} (h : l.Nodup) {i j : Nat} (hi : i < l.length) (hj : j < l.length) (e : l[i] = l[j]) : i = j := by
  rw [List.nodup_iff_pairwise_ne] at h
  rw [List.pairwise_iff_getElem] at h
  rcases Nat.lt_trichotomy i j with hl | hl | hl
  · exact (h i j hi hj hl e).elim
  · exact hl
  · exact (h j i hj hi hl e.symm).elim
theorem flat_one : ∀ (zs : List (List Int)), zs.flatten.Nodup → ∀ (c : Int) (z i k : Nat), z < zs.length → i < (zs.getD z []).length → (zs.getD z []).getD i 0 = c → wh c zs k = some (k + z, i) := by
  intro zs
  induction zs with
  | nil => intro _ c z i k hz; simp at hz
  | cons l zs ih =>
    intro hn c z i k hz hi hc
    rw [List.flatten_cons, List.nodup_append] at hn
    obtain ⟨n1, n2, n3⟩ := hn
    unfold wh
    cases z with
    | zero =>
      simp at hi hc
      have : l.findIdx? (fun x => decide (x = c)) = some i := by
        rw [List.findIdx?_eq_some_iff_getElem]
        refine ⟨hi, by simpa [List.getElem?_eq_getElem hi] using hc, fun j hj => ?_⟩
        simp
        intro e
        have hj' : j < l.length := by omega
        have h2 : l[j] = l[i] := by rw [e]; simpa [List.getElem?_eq_getElem hi] using hc.symm
        have := nodup_at n1 hj' hi h2
        omega
      rw [this]
      rfl
    | succ z =>
      simp at hi hc hz
      have hl : (zs.getD z []) ∈ zs := by rw [List.getD_eq_getElem?_getD, List.getElem?_eq_getElem hz]; exact List.getElem_mem _
      have hi' : i < (zs.getD z []).length := by simpa using hi
      have hcm : c ∈ zs.flatten := by
        refine List.mem_flatten.2 ⟨_, hl, ?_⟩
        have : (zs.getD z []).getD i 0 = c := by simpa using hc
        rw [← this, List.getD_eq_getElem?_getD (l := zs.getD z []), List.getElem?_eq_getElem hi']
        exact List.getElem_mem _
      have : l.findIdx? (fun x => decide (x = c)) = none := by
        rw [List.findIdx?_eq_none_iff]
        intro x hx
        simp
        rintro rfl
        exact n3 x hx x hcm rfl
      rw [this]
      have := ih n2 c z i (k + 1) hz hi' (by simpa using hc)
      rw [this]
      rw [Nat.add_assoc, Nat.add_comm 1 z]
/- a zone that has turned -/
theorem flat_set : ∀ (zs : List (List Int)) (z : Nat) (l : List Int), z < zs.length → ((zs.set z l).flatten ++ zs.getD z []).Perm (zs.flatten ++ l) := by
  intro zs
  induction zs with
  | nil => intro z l h; simp at h
  | cons a zs ih =>
    intro z l h
    cases z with
    | zero =>
      simp only [List.set_cons_zero, List.flatten_cons, List.getD_cons_zero]
      rw [List.append_assoc a]
      exact (List.perm_append_comm).trans (List.Perm.append_left a List.perm_append_comm)
    | succ z =>
      simp only [List.set_cons_succ, List.flatten_cons, List.getD_cons_succ, List.append_assoc]
      exact (ih z l (by simpa using h)).append_left a
/- other zones -/
def withZ (s : Stt) (zs : List (List Int)) : Stt := { s with zs := zs }
theorem rest_z {s : Stt} (h : Rest s) {zs : List (List Int)} (hl : zs.length = s.zs.length) : Rest (withZ s zs) := by
  obtain ⟨h0, h1⟩ := h
  refine ⟨?_, h1⟩
  simp only [sizesB] at h0 ⊢
  rw [show (withZ s zs).zs.length = s.zs.length from hl]
  exact h0
theorem set_put {zs : List (List Int)} {z : Nat} {l : List Int} {c : Int} (hz : z < zs.length) (h : l.Perm (c :: zs.getD z [])) : (zs.set z l).flatten.Perm (c :: zs.flatten) := by
  have h1 := flat_set zs z l hz
  have h2 : (zs.flatten ++ l).Perm ((c :: zs.flatten) ++ zs.getD z []) := by
    refine (List.Perm.append_left _ h).trans ?_
    exact List.perm_middle
  exact (List.perm_append_right_iff _).1 (h1.trans h2)
theorem set_gone {zs : List (List Int)} {z : Nat} {l : List Int} {c : Int} (hz : z < zs.length) (h : (c :: l).Perm (zs.getD z [])) : (c :: (zs.set z l).flatten).Perm zs.flatten := by
  have h1 := flat_set zs z l hz
  have h2 : ((zs.set z l).flatten ++ zs.getD z []).Perm ((c :: (zs.set z l).flatten) ++ l) := by
    refine (List.Perm.append_left _ h.symm).trans ?_
    exact List.perm_middle
  exact (List.perm_append_right_iff _).1 (h2.symm.trans h1)
theorem put_bad {s : Stt} (h : ff s = none) {z : Nat} {l : List Int} {c : Int} (hz : z < s.zs.length) (hl : l.Perm (c :: s.zs.getD z [])) : ff (withZ s (s.zs.set z l)) ≠ none := by
  intro h2
  have a := ((ff_none s).1 h).2.2
  have b := ((ff_none _).1 h2).2.2
  have c := (set_put hz hl).length_eq
  simp only [flat, withZ, List.length_cons] at a b c
  omega
theorem gone_bad {s : Stt} (h : ff s = none) {z : Nat} {l : List Int} {c : Int} (hz : z < s.zs.length) (hl : (c :: l).Perm (s.zs.getD z [])) : ff (withZ s (s.zs.set z l)) ≠ none := by
  intro h2
  have a := ((ff_none s).1 h).2.2
  have b := ((ff_none _).1 h2).2.2
  have c := (set_gone hz hl).length_eq
  simp only [flat, withZ, List.length_cons] at a b c
  omega
theorem moved_ok {s : Stt} (h : ff s = none) {z : Nat} {l : List Int} {c : Int} (hz : z < s.zs.length) (hl : (c :: l).Perm (s.zs.getD z [])) {y : Nat} {r : List Int} (hy : y < s.zs.length) (hr : r.Perm (c :: (s.zs.set z l).getD y [])) : ff (withZ s ((s.zs.set z l).set y r)) = none := by
  obtain ⟨h1, h2, h3⟩ := (ff_none s).1 h
  have p : ((s.zs.set z l).set y r).flatten.Perm s.zs.flatten := (set_put (by simpa using hy) hr).trans (set_gone hz hl)
  refine (ff_none _).2 ⟨rest_z h1 (by simp), ⟨?_, fun x hx => ?_⟩, ?_⟩
  · exact p.nodup_iff.2 h2.1
  · exact h2.2 x (p.mem_iff.1 hx)
  · exact p.length_eq.trans h3
theorem ins_perm (l : List Int) (c : Int) (k : Nat) : (l.take k ++ c :: l.drop k).Perm (c :: l) := by
  have := List.perm_middle (a := c) (l₁ := l.take k) (l₂ := l.drop k)
  rwa [List.take_append_drop] at this
theorem cut_perm (l : List Int) (c : Int) (k : Nat) (hk : k < l.length) (hc : l.getD k 0 = c) : (c :: (l.take k ++ l.drop (k + 1))).Perm l := by
  have e : l.drop k = c :: l.drop (k + 1) := by
    rw [List.drop_eq_getElem_cons hk]
    rw [List.getD_eq_getElem?_getD, List.getElem?_eq_getElem hk] at hc
    simp at hc; rw [hc]
  have := List.perm_middle (a := c) (l₁ := l.take k) (l₂ := l.drop (k + 1))
  rw [← e, List.take_append_drop] at this
  exact this.symm
/- how a game begins -/
def owned (p : Nat) (l : List Crd) : List Crd := l.map (fun c => { c with owner := (p : Int) })
def cardsF : Nat → List (List Crd) → List Crd
  | _, [] => []
  | p, d :: ds => owned p d ++ cardsF (p + 1) ds
def numsF (a k : Nat) : List Int := (List.range k).map (fun i : Nat => ((a + i : Nat) : Int))
def zonesF : Nat → List (List Crd) → List (List Int)
  | _, [] => []
  | a, d :: ds => numsF a d.length :: [] :: [] :: [] :: zonesF (a + d.length) ds
def total (ds : List (List Crd)) : Nat := ds.flatten.length
def decksB (ds : List (List Crd)) : Bool := npB ds.length && ncB (total ds) && ds.all (fun d => d.all crd0B)
def newB (ds : List (List Crd)) (life energy : Int) : Bool := decksB ds && statB life && statB energy
def newS (ds : List (List Crd)) (life energy : Int) : Stt := ⟨List.replicate ds.length ⟨life, energy, false⟩, cardsF 0 ds, zonesF 0 ds, 1, 0, 0, 0⟩
def noS : Stt := ⟨[], [], [], 0, 0, 0, 0⟩
theorem cardsF_len : ∀ (ds : List (List Crd)) (p : Nat), (cardsF p ds).length = total ds := by
  intro ds
  induction ds with
  | nil => intro p; rfl
  | cons d ds ih => intro p; simp only [cardsF, total, List.length_append, List.flatten_cons, owned, List.length_map]; rw [ih]; rfl
theorem zonesF_len : ∀ (ds : List (List Crd)) (a : Nat), (zonesF a ds).length = 4 * ds.length := by
  intro ds
  induction ds with
  | nil => intro a; rfl
  | cons d ds ih => intro a; simp only [zonesF, List.length_cons]; rw [ih]; omega
theorem cardsF_more : ∀ (ds : List (List Crd)) (p : Nat) (d : List Crd), cardsF p (ds ++ [d]) = cardsF p ds ++ owned (p + ds.length) d := by
  intro ds
  induction ds with
  | nil => intro p d; simp [cardsF]
  | cons e ds ih => intro p d; simp only [List.cons_append, cardsF, ih, List.append_assoc, List.length_cons]; rw [Nat.add_assoc, Nat.add_comm 1]
theorem zonesF_more : ∀ (ds : List (List Crd)) (a : Nat) (d : List Crd), zonesF a (ds ++ [d]) = zonesF a ds ++ [numsF (a + total ds) d.length, [], [], []] := by
  intro ds
  induction ds with
  | nil => intro a d; simp [zonesF, total]
  | cons e ds ih => intro a d; simp only [List.cons_append, zonesF, ih, total, List.flatten_cons, List.length_append]; rw [Nat.add_assoc]
end ST
end Go.Proofs.YtmpamcdobhiipaaGreatDoor
/-
  States in memory.
-/
namespace Go.Proofs.YtmpamcdobhiipaaGreatDoor
open Go.RowKit

namespace ST
def pv (p : Ply) : List Value := [.int .i32 p.life, .int .i32 p.energy, .bool p.out]
def cv (c : Crd) : List Value := [.int .i64 c.kind, .int .i64 c.owner, .int .i32 c.power, .int .i32 c.health, .int .i32 c.damage, .int .i32 c.marks]
def pvs (l : List Ply) : List Value := l.flatMap pv
def cvs (l : List Crd) : List Value := l.flatMap cv
def ivs (l : List Int) : List Value := l.map (fun z => .int .i64 z)
theorem pvs_len (l : List Ply) : (pvs l).length = l.length * 3 := flat_len pv 3 (fun _ => rfl) l
theorem cvs_len (l : List Crd) : (cvs l).length = l.length * 6 := flat_len cv 6 (fun _ => rfl) l
theorem ivs_len (l : List Int) : (ivs l).length = l.length := by simp [ivs]
theorem ivs_get (l : List Int) (i : Nat) (hi : i < l.length) : (ivs l)[i]? = some (.int .i64 (l.getD i 0)) := by
  simp [ivs, List.getD_eq_getElem?_getD, List.getElem?_eq_getElem hi]
theorem pvs_get (l : List Ply) (i j : Nat) (hi : i < l.length) (hj : j < 3) : (pvs l)[i * 3 + j]? = (pv (l.getD i dp))[j]? := flat_get pv 3 (fun _ => rfl) dp l i j hi hj
theorem cvs_get (l : List Crd) (i j : Nat) (hi : i < l.length) (hj : j < 6) : (cvs l)[i * 6 + j]? = (cv (l.getD i dc))[j]? := flat_get cv 6 (fun _ => rfl) dc l i j hi hj
/- a list of ints, of players, of cards, of lists of ints -/
def IL (W : World) (v : Value) (l : List Int) : Prop := LC W v 1 l.length (ivs l)
def PLs (W : World) (v : Value) (l : List Ply) : Prop := LC W v 3 l.length (pvs l)
def CLs (W : World) (v : Value) (l : List Crd) : Prop := LC W v 6 l.length (cvs l)
def nl : Value := .slice none 0 0
def ZL (W : World) (v : Value) (zs : List (List Int)) : Prop := ∃ vs : List Value, LC W v 1 zs.length vs ∧ ∀ i, i < zs.length → IL W (vs.getD i nl) (zs.getD i [])
def sv (vp vc vz : Value) (s : Stt) : Value := .agg #[vp, vc, vz, .int .i32 s.turn, .int .i64 s.whose, .int .i8 s.fin, .int .i64 s.winner]
def StL (W : World) (v : Value) (s : Stt) : Prop := ∃ vp vc vz, v = sv vp vc vz s ∧ PLs W vp s.ps ∧ CLs W vc s.cs ∧ ZL W vz s.zs
theorem IL.up {W W' : World} {v : Value} {l : List Int} (h : IL W v l) (u : Up W W') : IL W' v l := LC.up h u
theorem PLs.up {W W' : World} {v : Value} {l : List Ply} (h : PLs W v l) (u : Up W W') : PLs W' v l := LC.up h u
theorem CLs.up {W W' : World} {v : Value} {l : List Crd} (h : CLs W v l) (u : Up W W') : CLs W' v l := LC.up h u
theorem ZL.up {W W' : World} {v : Value} {zs : List (List Int)} (h : ZL W v zs) (u : Up W W') : ZL W' v zs := by
  obtain ⟨vs, h1, h2⟩ := h
  exact ⟨vs, h1.up u, fun i hi => (h2 i hi).up u⟩
theorem StL.up {W W' : World} {v : Value} {s : Stt} (h : StL W v s) (u : Up W W') : StL W' v s := by
  obtain ⟨vp, vc, vz, hv, h1, h2, h3⟩ := h
  exact ⟨vp, vc, vz, hv, h1.up u, h2.up u, h3.up u⟩
/- cells, in every world behind -/
theorem lc_at {w : World} {v : Value} {s n : Nat} {cs : List Value} (h : LC w v s n cs) : ∃ a cap, v = .slice a n cap ∧ n ≤ cap ∧ (n ≠ 0 → ∃ b off, a = some ⟨b, off, none⟩ ∧ (0 < s → b < w.heap.size) ∧ ∀ W, Up w W → ∀ j, j < n * s → W.cell? ⟨b, off + j, none⟩ = cs[j]?) := by
  obtain ⟨h0, a, cap, hv, hc, h⟩ := h
  refine ⟨a, cap, hv, hc, fun hn => ?_⟩
  obtain ⟨b, off, ha, hcell⟩ := h hn
  refine ⟨b, off, ha, fun hs => ?_, fun W hu j hj => ?_⟩
  · have hp : 0 < n * s := Nat.mul_pos (by omega) hs
    have := hcell 0 hp
    rw [List.getElem?_eq_getElem (by omega)] at this
    exact World.block_lt_of_cell? w _ this
  · have := hcell j hj
    rw [List.getElem?_eq_getElem (by omega)] at this ⊢
    exact hu.cell this
theorem il_at {w : World} {v : Value} {l : List Int} (h : IL w v l) : ∃ a cap, v = .slice a l.length cap ∧ l.length ≤ cap ∧ (l.length ≠ 0 → ∃ b off, a = some ⟨b, off, none⟩ ∧ ∀ W, Up w W → ∀ i, i < l.length → W.cell? ⟨b, off + i, none⟩ = some (.int .i64 (l.getD i 0))) := by
  obtain ⟨a, cap, hv, hc, h⟩ := lc_at h
  refine ⟨a, cap, hv, hc, fun hn => ?_⟩
  obtain ⟨b, off, ha, -, hcell⟩ := h hn
  exact ⟨b, off, ha, fun W hu i hi => by rw [hcell W hu i (by omega)]; exact ivs_get l i hi⟩
theorem pl_at {w : World} {v : Value} {l : List Ply} (h : PLs w v l) : ∃ a cap, v = .slice a l.length cap ∧ l.length ≤ cap ∧ (l.length ≠ 0 → ∃ b off, a = some ⟨b, off, none⟩ ∧ ∀ W, Up w W → ∀ i, i < l.length → W.cell? ⟨b, off + i * 3, none⟩ = some (.int .i32 (l.getD i dp).life) ∧ W.cell? ⟨b, off + i * 3 + 1, none⟩ = some (.int .i32 (l.getD i dp).energy) ∧ W.cell? ⟨b, off + i * 3 + 2, none⟩ = some (.bool (l.getD i dp).out)) := by
  obtain ⟨a, cap, hv, hc, h⟩ := lc_at h
  refine ⟨a, cap, hv, hc, fun hn => ?_⟩
  obtain ⟨b, off, ha, -, hcell⟩ := h hn
  refine ⟨b, off, ha, fun W hu i hi => ?_⟩
  have k : ∀ j, j < 3 → W.cell? ⟨b, off + (i * 3 + j), none⟩ = (pv (l.getD i dp))[j]? := fun j hj => by
    rw [hcell W hu (i * 3 + j) (by omega)]; exact pvs_get l i j hi hj
  exact ⟨k 0 (by decide), k 1 (by decide), k 2 (by decide)⟩
theorem cl_at {w : World} {v : Value} {l : List Crd} (h : CLs w v l) : ∃ a cap, v = .slice a l.length cap ∧ l.length ≤ cap ∧ (l.length ≠ 0 → ∃ b off, a = some ⟨b, off, none⟩ ∧ ∀ W, Up w W → ∀ i, i < l.length → W.cell? ⟨b, off + i * 6, none⟩ = some (.int .i64 (l.getD i dc).kind) ∧ W.cell? ⟨b, off + i * 6 + 1, none⟩ = some (.int .i64 (l.getD i dc).owner) ∧ W.cell? ⟨b, off + i * 6 + 2, none⟩ = some (.int .i32 (l.getD i dc).power) ∧ W.cell? ⟨b, off + i * 6 + 3, none⟩ = some (.int .i32 (l.getD i dc).health) ∧ W.cell? ⟨b, off + i * 6 + 4, none⟩ = some (.int .i32 (l.getD i dc).damage) ∧ W.cell? ⟨b, off + i * 6 + 5, none⟩ = some (.int .i32 (l.getD i dc).marks)) := by
  obtain ⟨a, cap, hv, hc, h⟩ := lc_at h
  refine ⟨a, cap, hv, hc, fun hn => ?_⟩
  obtain ⟨b, off, ha, -, hcell⟩ := h hn
  refine ⟨b, off, ha, fun W hu i hi => ?_⟩
  have k : ∀ j, j < 6 → W.cell? ⟨b, off + (i * 6 + j), none⟩ = (cv (l.getD i dc))[j]? := fun j hj => by
    rw [hcell W hu (i * 6 + j) (by omega)]; exact cvs_get l i j hi hj
  exact ⟨k 0 (by decide), k 1 (by decide), k 2 (by decide), k 3 (by decide), k 4 (by decide), k 5 (by decide)⟩
/- row r of a list of lists -/
theorem zl_at {w : World} {v : Value} {zs : List (List Int)} (h : ZL w v zs) : ∃ a cap, v = .slice a zs.length cap ∧ zs.length ≤ cap ∧ (zs.length ≠ 0 → ∃ b off, a = some ⟨b, off, none⟩ ∧ ∀ r, r < zs.length → ∃ ra rc, (∀ W, Up w W → W.cell? ⟨b, off + r, none⟩ = some (.slice ra (zs.getD r []).length rc)) ∧ IL w (.slice ra (zs.getD r []).length rc) (zs.getD r [])) := by
  obtain ⟨vs, h, h2⟩ := h
  have hl := h.1
  obtain ⟨a, cap, hv, hc, h⟩ := lc_at h
  refine ⟨a, cap, hv, hc, fun hn => ?_⟩
  obtain ⟨b, off, ha, -, hcell⟩ := h hn
  refine ⟨b, off, ha, fun r hr => ?_⟩
  have hi := h2 r hr
  obtain ⟨ra, rc, e, -, -⟩ := il_at hi
  refine ⟨ra, rc, fun W hu => ?_, by rw [e] at hi; exact hi⟩
  rw [hcell W hu r (by omega), List.getElem?_eq_getElem (by omega), ← e, List.getD_eq_getElem?_getD, List.getElem?_eq_getElem (by omega)]
  rfl
end ST
end Go.Proofs.YtmpamcdobhiipaaGreatDoor
/-
  The program's small questions: stats, numbers, sizes.
-/
namespace Go.Proofs.YtmpamcdobhiipaaGreatDoor
open Go.RowKit
attribute [local go_sem ↓] Go.wp_at_zero Go.wp_at_succ

namespace ST
set_option maxHeartbeats 1000000 in
theorem isStat_ (n : Int) (w : World) : Calls Tryz.prog 74 #[.int .i32 n] w fun e w' => e = .returned (.bool (statB n)) ∧ w' = w := by
  by_cases h1 : -1000000000 ≤ n
  · by_cases h2 : n ≤ 1000000000
    · go_enter Tryz.func74, Tryz.ntmps74
      go_wp2
      go_ret
      exact ⟨by simp [statB, h1, h2], rfl⟩
    · go_enter Tryz.func74, Tryz.ntmps74
      go_wp2
      go_ret
      exact ⟨by simp [statB, h2], rfl⟩
  · go_enter Tryz.func74, Tryz.ntmps74
    go_wp2
    go_ret
    exact ⟨by simp [statB]; omega, rfl⟩
set_option maxHeartbeats 1000000 in
theorem isNumber_ (x : Int) (n : Nat) (w : World) : Calls Tryz.prog 76 #[.int .i64 x, .int .i64 n] w fun e w' => e = .returned (.bool (numB x n)) ∧ w' = w := by
  by_cases h1 : 0 ≤ x
  · by_cases h2 : x < (n : Int)
    · go_enter Tryz.func76, Tryz.ntmps76
      go_wp2
      go_ret
      exact ⟨by simp [numB, h1, h2], rfl⟩
    · go_enter Tryz.func76, Tryz.ntmps76
      go_wp2
      go_ret
      exact ⟨by simp [numB, h2], rfl⟩
  · go_enter Tryz.func76, Tryz.ntmps76
    go_wp2
    go_ret
    exact ⟨by simp [numB]; omega, rfl⟩
set_option maxHeartbeats 1000000 in
theorem playersFit_ (n : Nat) (w : World) : Calls Tryz.prog 91 #[.int .i64 n] w fun e w' => e = .returned (.bool (npB n)) ∧ w' = w := by
  by_cases h1 : 2 ≤ n
  · have h1' : (2 : Int) ≤ (n : Int) := by omega
    by_cases h2 : n ≤ 4
    · have h2' : (n : Int) ≤ 4 := by omega
      go_enter Tryz.func91, Tryz.ntmps91
      go_wp2
      go_ret
      exact ⟨by simp [npB, h1, h2], rfl⟩
    · have h2' : ¬ (n : Int) ≤ 4 := by omega
      go_enter Tryz.func91, Tryz.ntmps91
      go_wp2
      go_ret
      exact ⟨by simp [npB, h2], rfl⟩
  · have h1' : ¬ (2 : Int) ≤ (n : Int) := by omega
    go_enter Tryz.func91, Tryz.ntmps91
    go_wp2
    go_ret
    exact ⟨by simp [npB, h1], rfl⟩
set_option maxHeartbeats 1000000 in
theorem cardsFit_ (n : Nat) (w : World) : Calls Tryz.prog 92 #[.int .i64 n] w fun e w' => e = .returned (.bool (ncB n)) ∧ w' = w := by
  by_cases h1 : 1 ≤ n
  · have h1' : (1 : Int) ≤ (n : Int) := by omega
    by_cases h2 : n ≤ 256
    · have h2' : (n : Int) ≤ 256 := by omega
      go_enter Tryz.func92, Tryz.ntmps92
      go_wp2
      go_ret
      exact ⟨by simp [ncB, h1, h2], rfl⟩
    · have h2' : ¬ (n : Int) ≤ 256 := by omega
      go_enter Tryz.func92, Tryz.ntmps92
      go_wp2
      go_ret
      exact ⟨by simp [ncB, h2], rfl⟩
  · have h1' : ¬ (1 : Int) ≤ (n : Int) := by omega
    go_enter Tryz.func92, Tryz.ntmps92
    go_wp2
    go_ret
    exact ⟨by simp [ncB, h1], rfl⟩
theorem isStatB (n : Int) (b : Bool) (h : statB n = b) (w : World) : Calls Tryz.prog 74 #[.int .i32 n] w fun e w' => e = .returned (.bool b) ∧ w' = w := by subst h; exact isStat_ n w
theorem isNumberB (x : Int) (n : Nat) (b : Bool) (h : numB x n = b) (w : World) : Calls Tryz.prog 76 #[.int .i64 x, .int .i64 n] w fun e w' => e = .returned (.bool b) ∧ w' = w := by subst h; exact isNumber_ x n w
theorem isNumberC (x : Int) (b : Bool) (h : numB x 256 = b) (w : World) : Calls Tryz.prog 76 #[.int .i64 x, .int .i64 256] w fun e w' => e = .returned (.bool b) ∧ w' = w := by subst h; exact isNumber_ x 256 w
theorem playersFitB (n : Nat) (b : Bool) (h : npB n = b) (w : World) : Calls Tryz.prog 91 #[.int .i64 n] w fun e w' => e = .returned (.bool b) ∧ w' = w := by subst h; exact playersFit_ n w
theorem cardsFitB (n : Nat) (b : Bool) (h : ncB n = b) (w : World) : Calls Tryz.prog 92 #[.int .i64 n] w fun e w' => e = .returned (.bool b) ∧ w' = w := by subst h; exact cardsFit_ n w
def cag (c : Crd) : Value := .agg #[.int .i64 c.kind, .int .i64 c.owner, .int .i32 c.power, .int .i32 c.health, .int .i32 c.damage, .int .i32 c.marks]
set_option maxHeartbeats 2000000 in
theorem cardFits_ (c : Crd) (w : World) : Calls Tryz.prog 75 #[cag c] w fun e w' => e = .returned (.bool (crd0B c)) ∧ Up w w' := by
  unfold cag
  cases h0 : numB c.kind 256
  · go_enter Tryz.func75, Tryz.ntmps75
    go_wp2_with fail
    refine Calls.mono (isNumberC _ false h0 _) ?_
    rintro e w1 ⟨rfl, rfl⟩
    go_wp2
    go_ret
    exact ⟨by simp [crd0B, h0], (Up.refl _).alloc _⟩
  · cases h1 : statB c.power
    · go_enter Tryz.func75, Tryz.ntmps75
      go_wp2_with fail
      refine Calls.mono (isNumberC _ true h0 _) ?_
      rintro e w1 ⟨rfl, rfl⟩
      go_wp2_with fail
      refine Calls.mono (isStatB _ false h1 _) ?_
      rintro e w2 ⟨rfl, rfl⟩
      go_wp2
      go_ret
      exact ⟨by simp [crd0B, h1], (Up.refl _).alloc _⟩
    · cases h2 : statB c.health
      · go_enter Tryz.func75, Tryz.ntmps75
        go_wp2_with fail
        refine Calls.mono (isNumberC _ true h0 _) ?_
        rintro e w1 ⟨rfl, rfl⟩
        go_wp2_with fail
        refine Calls.mono (isStatB _ true h1 _) ?_
        rintro e w2 ⟨rfl, rfl⟩
        go_wp2_with fail
        refine Calls.mono (isStatB _ false h2 _) ?_
        rintro e w3 ⟨rfl, rfl⟩
        go_wp2
        go_ret
        exact ⟨by simp [crd0B, h2], (Up.refl _).alloc _⟩
      · cases h3 : statB c.damage
        · go_enter Tryz.func75, Tryz.ntmps75
          go_wp2_with fail
          refine Calls.mono (isNumberC _ true h0 _) ?_
          rintro e w1 ⟨rfl, rfl⟩
          go_wp2_with fail
          refine Calls.mono (isStatB _ true h1 _) ?_
          rintro e w2 ⟨rfl, rfl⟩
          go_wp2_with fail
          refine Calls.mono (isStatB _ true h2 _) ?_
          rintro e w3 ⟨rfl, rfl⟩
          go_wp2_with fail
          refine Calls.mono (isStatB _ false h3 _) ?_
          rintro e w4 ⟨rfl, rfl⟩
          go_wp2
          go_ret
          exact ⟨by simp [crd0B, h3], (Up.refl _).alloc _⟩
        · cases h4 : statB c.marks
          · go_enter Tryz.func75, Tryz.ntmps75
            go_wp2_with fail
            refine Calls.mono (isNumberC _ true h0 _) ?_
            rintro e w1 ⟨rfl, rfl⟩
            go_wp2_with fail
            refine Calls.mono (isStatB _ true h1 _) ?_
            rintro e w2 ⟨rfl, rfl⟩
            go_wp2_with fail
            refine Calls.mono (isStatB _ true h2 _) ?_
            rintro e w3 ⟨rfl, rfl⟩
            go_wp2_with fail
            refine Calls.mono (isStatB _ true h3 _) ?_
            rintro e w4 ⟨rfl, rfl⟩
            go_wp2_with fail
            refine Calls.mono (isStatB _ false h4 _) ?_
            rintro e w5 ⟨rfl, rfl⟩
            go_wp2
            go_ret
            exact ⟨by simp [crd0B, h4], (Up.refl _).alloc _⟩
          · go_enter Tryz.func75, Tryz.ntmps75
            go_wp2_with fail
            refine Calls.mono (isNumberC _ true h0 _) ?_
            rintro e w1 ⟨rfl, rfl⟩
            go_wp2_with fail
            refine Calls.mono (isStatB _ true h1 _) ?_
            rintro e w2 ⟨rfl, rfl⟩
            go_wp2_with fail
            refine Calls.mono (isStatB _ true h2 _) ?_
            rintro e w3 ⟨rfl, rfl⟩
            go_wp2_with fail
            refine Calls.mono (isStatB _ true h3 _) ?_
            rintro e w4 ⟨rfl, rfl⟩
            go_wp2_with fail
            refine Calls.mono (isStatB _ true h4 _) ?_
            rintro e w5 ⟨rfl, rfl⟩
            go_wp2
            go_ret
            exact ⟨by simp [crd0B, h0, h1, h2, h3, h4], (Up.refl _).alloc _⟩
theorem cardFitsB (c : Crd) (b : Bool) (h : crd0B c = b) (w : World) : Calls Tryz.prog 75 #[cag c] w fun e w' => e = .returned (.bool b) ∧ Up w w' := by subst h; exact cardFits_ c w
set_option maxHeartbeats 2000000 in
theorem sizesFit_ (v : Value) (s : Stt) (w : World) (hs : StL w v s) (hn : s.ps.length ≤ 4294967296) : Calls Tryz.prog 73 #[v] w fun e w' => e = .returned (.bool (sizesB s)) ∧ Up w w' := by
  obtain ⟨vp, vc, vz, rfl, h1, h2, h3⟩ := hs
  obtain ⟨a1, k1, rfl, -, -⟩ := lc_at h1
  obtain ⟨a2, k2, rfl, -, -⟩ := lc_at h2
  obtain ⟨vs, h3, -⟩ := h3
  obtain ⟨a3, k3, rfl, -, -⟩ := lc_at h3
  clear h1 h2 h3
  unfold sv
  obtain ⟨np, hnp⟩ : ∃ n, n = s.ps.length := ⟨_, rfl⟩
  obtain ⟨nc, hnc⟩ : ∃ n, n = s.cs.length := ⟨_, rfl⟩
  obtain ⟨nz, hnz⟩ : ∃ n, n = s.zs.length := ⟨_, rfl⟩
  have HR : Hid (sizesB s = (npB np && ncB nc && decide (nz = 4 * np))) := by unfold Hid; rw [hnp, hnc, hnz]; rfl
  rw [← hnp] at hn ⊢
  rw [← hnc, ← hnz]
  generalize sizesB s = R at HR ⊢
  clear hnp hnc hnz
  cases e1 : npB np
  · go_enter Tryz.func73, Tryz.ntmps73
    go_wp2_with fail
    go_quiet (fail)
    go_wp2_with fail
    refine Calls.mono (playersFitB _ false e1 _) ?_
    rintro e w1 ⟨rfl, rfl⟩
    go_wp2
    go_ret
    exact ⟨by rw [HR.out, e1]; rfl, ((Up.refl _).alloc _).drewN _⟩
  · cases e2 : ncB nc
    · go_enter Tryz.func73, Tryz.ntmps73
      go_wp2_with fail
      go_quiet (fail)
      go_wp2_with fail
      refine Calls.mono (playersFitB _ true e1 _) ?_
      rintro e w1 ⟨rfl, rfl⟩
      go_wp2_with fail
      refine Calls.mono (cardsFitB _ false e2 _) ?_
      rintro e w1 ⟨rfl, rfl⟩
      go_wp2
      go_ret
      exact ⟨by rw [HR.out, e1, e2]; rfl, ((Up.refl _).alloc _).drewN _⟩
    · by_cases e3 : nz = 4 * np
      · have e3' : ((nz : Int) == 4 * (np : Int)) = true := by simp; omega
        go_enter Tryz.func73, Tryz.ntmps73
        go_wp2_with fail
        go_quiet (fail)
        go_wp2_with fail
        refine Calls.mono (playersFitB _ true e1 _) ?_
        rintro e w1 ⟨rfl, rfl⟩
        go_wp2_with fail
        refine Calls.mono (cardsFitB _ true e2 _) ?_
        rintro e w1 ⟨rfl, rfl⟩
        go_wp2
        go_ret
        exact ⟨by rw [HR.out, e1, e2]; simp [e3], ((Up.refl _).alloc _).drewN _⟩
      · have e3' : ((nz : Int) == 4 * (np : Int)) = false := by simp; omega
        go_enter Tryz.func73, Tryz.ntmps73
        go_wp2_with fail
        go_quiet (fail)
        go_wp2_with fail
        refine Calls.mono (playersFitB _ true e1 _) ?_
        rintro e w1 ⟨rfl, rfl⟩
        go_wp2_with fail
        refine Calls.mono (cardsFitB _ true e2 _) ?_
        rintro e w1 ⟨rfl, rfl⟩
        go_wp2
        go_ret
        exact ⟨by rw [HR.out, e1, e2]; simp [e3], ((Up.refl _).alloc _).drewN _⟩
end ST
end Go.Proofs.YtmpamcdobhiipaaGreatDoor
