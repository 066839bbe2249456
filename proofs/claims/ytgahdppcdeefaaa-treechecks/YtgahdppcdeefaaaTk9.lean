
/-
  A block within ifs, rounds, elses: how deep, how heavy.
-/
import Derived.Test.YtgahdppcdeefaaaTr9
namespace Go.Proofs.Ytgahdppcdeefaaa
namespace TR
/- a node that is no row -/
theorem mks_flat {a : Nd} (h : (kd a.op).row = false) (R : List Nd) : mks (a :: R) = 0 := by
  cases R with
  | nil => rfl
  | cons b R =>
    rw [mks]
    unfold goes
    rw [h]
    rfl
theorem gos_flat {a : Nd} (h : (kd a.op).row = false) (R : List Nd) : gos (a :: R) = false := by
  cases R with
  | nil => rfl
  | cons b R =>
    show goes a b = false
    unfold goes
    rw [h]
    rfl
/- a node that is no row: what it wants -/
theorem ent_flat {a : Nd} {k : Kd} (hk : kd a.op = k) (hrow : k.row = false) {tk mn c : Nat} {R : List Nd} {ps : List Plc} {many m : Nat} (ht : k.is &&& tk ≠ 0) (hf : fits k a = true) (hp : plcs k a.kids = some (ps, many)) (hm : (if k.rank < 0 then 1 else 0) + (if k.is &&& tk &&& 32 ≠ 0 then 1 else 0) = m) : ent a R ⟨⟨tk, 0⟩, mn, c, false⟩ = some (c + m + k.opens, ps.map fun q => ⟨q, many, c + m + k.opens, false⟩) := by
  unfold ent
  rw [hk, hf, hp, mks_flat (by rw [hk]; exact hrow), gos_flat (by rw [hk]; exact hrow)]
  rw [if_neg (by
    rintro (h | h)
    · exact ht h
    · cases h)]
  have h9 : more k ⟨⟨tk, 0⟩, mn, c, false⟩ 0 = m := by
    unfold more
    rw [← hm]
    rfl
  simp only
  rw [h9, wants_no]
def blk1 : Nd := ⟨10, 0, 0, 0, [], 0, 1⟩
def if2 : Nd := ⟨13, 0, 0, 0, [], 0, 2⟩
def if3 : Nd := ⟨13, 0, 0, 0, [], 0, 3⟩
def truN : Nd := ⟨31, 0, 0, 0, [], 0, 0⟩
def falN : Nd := ⟨32, 0, 0, 0, [], 0, 0⟩
def repN (i : Nat) : Nd := ⟨14, 0, (i : Int), 0, [105], 0, 1⟩
theorem kd13 : kd 13 = ⟨48, 0, false, 0, 0, .none, 0, [[⟨64, 0⟩, ⟨8, 0⟩], [⟨64, 0⟩, ⟨8, 0⟩, ⟨40, 0⟩]]⟩ := by decide
theorem kd14 : kd 14 = ⟨16, 0, false, 0, big, .free [], 0, [[⟨8, 0⟩]]⟩ := by decide
theorem kd31 : kd 31 = ⟨64, 8, false, 0, 0, .none, 0, []⟩ := by decide
theorem kd32 : kd 32 = ⟨64, 8, false, 0, 0, .none, 0, []⟩ := by decide
def spl (o : Nat) : Wt := ⟨⟨16, 0⟩, 1, o, false⟩
def epl (o : Nat) : Wt := ⟨⟨40, 0⟩, 1, o, false⟩
theorem ent_blk1 (c : Nat) (R : List Nd) : ent blk1 R (bpl c) = some (c + 1, [spl (c + 1)]) :=
  ent_flat (a := blk1) kd10 rfl (tk := 8) (mn := 1) (c := c) (R := R) (ps := [⟨16, 0⟩]) (many := 1) (m := 0) (by decide) (by decide) (by decide) (by decide)
theorem ent_blk0 (c : Nat) (R : List Nd) : ent blkN R (bpl c) = some (c + 1, [⟨⟨16, 0⟩, 0, c + 1, false⟩]) :=
  ent_flat (a := blkN) kd10 rfl (tk := 8) (mn := 1) (c := c) (R := R) (ps := [⟨16, 0⟩]) (many := 0) (m := 0) (by decide) (by decide) (by decide) (by decide)
theorem ent_if2 (c : Nat) (R : List Nd) : ent if2 R (spl c) = some (c, [pl 0 c false, bpl c]) :=
  ent_flat (a := if2) kd13 rfl (tk := 16) (mn := 1) (c := c) (R := R) (ps := [⟨64, 0⟩, ⟨8, 0⟩]) (many := 1) (m := 0) (by decide) (by decide) (by decide) (by decide)
theorem ent_if3 (c : Nat) (R : List Nd) : ent if3 R (spl c) = some (c, [pl 0 c false, bpl c, epl c]) :=
  ent_flat (a := if3) kd13 rfl (tk := 16) (mn := 1) (c := c) (R := R) (ps := [⟨64, 0⟩, ⟨8, 0⟩, ⟨40, 0⟩]) (many := 1) (m := 0) (by decide) (by decide) (by decide) (by decide)
theorem ent_if3e (c : Nat) (R : List Nd) : ent if3 R (epl c) = some (c + 1, [pl 0 (c + 1) false, bpl (c + 1), epl (c + 1)]) :=
  ent_flat (a := if3) kd13 rfl (tk := 40) (mn := 1) (c := c) (R := R) (ps := [⟨64, 0⟩, ⟨8, 0⟩, ⟨40, 0⟩]) (many := 1) (m := 1) (by decide) (by decide) (by decide) (by decide)
theorem ent_tru (c : Nat) (R : List Nd) : ent truN R (pl 0 c false) = some (c, []) :=
  ent_flat (a := truN) kd31 rfl (tk := 64) (mn := 1) (c := c) (R := R) (ps := []) (many := 0) (m := 0) (by decide) (by decide) (by decide) (by decide)
theorem ent_fal (c : Nat) (R : List Nd) : ent falN R (pl 0 c false) = some (c, []) :=
  ent_flat (a := falN) kd32 rfl (tk := 64) (mn := 1) (c := c) (R := R) (ps := []) (many := 0) (m := 0) (by decide) (by decide) (by decide) (by decide)
theorem fits_rep {i : Nat} (hi : i ≤ 1000) : fits ⟨16, 0, false, 0, big, .free [], 0, [[⟨8, 0⟩]]⟩ (repN i) = true := by
  have h1 : decide (0 ≤ (i : Int)) = true := by simp
  have h2 : decide ((i : Int) ≤ big) = true := by rw [decide_eq_true_eq]; unfold big; omega
  show ((0 : Int) == 0 && ((0 : Int) == 0 && (decide ((0 : Int) ≤ 0) && (decide (0 ≤ (i : Int)) && (decide ((i : Int) ≤ big) && Tx.ok (.free []) [105]))))) = true
  rw [h1, h2]
  decide
theorem ent_rep {i : Nat} (hi : i ≤ 1000) (c : Nat) (R : List Nd) : ent (repN i) R (spl c) = some (c, [bpl c]) :=
  ent_flat (a := repN i) (k := ⟨16, 0, false, 0, big, .free [], 0, [[⟨8, 0⟩]]⟩) kd14 rfl (tk := 16) (mn := 1) (c := c) (R := R) (ps := [⟨8, 0⟩]) (many := 1) (m := 0) (by decide) (fits_rep hi) (by show plcs _ 1 = _; decide) (by decide)
/- ifs -/
def ifsL : Nat → List Nd
  | 0 => []
  | n + 1 => ifsL n ++ [blk1, if2, truN]
theorem go_if (R : List Nd) (S : List Wt) (c d p : Nat) : go ([blk1, if2, truN] ++ R) (bpl c :: S) d p = go R (bpl (c + 1) :: S) (max d (c + 1)) (p + 3) := by
  have h1 := go_one (a := blk1) (r := if2 :: truN :: R) (x := bpl c) (S := S) (d := d) (p := p) rfl (ent_blk1 c _)
  have h2 := go_one (a := if2) (r := truN :: R) (x := spl (c + 1)) (S := S) (d := max d (c + 1)) (p := p + 1) rfl (ent_if2 (c + 1) _)
  have h3 := go_one (a := truN) (r := R) (x := pl 0 (c + 1) false) (S := bpl (c + 1) :: S) (d := max (max d (c + 1)) (c + 1)) (p := p + 1 + 1) rfl (ent_tru (c + 1) _)
  refine h1.trans (h2.trans (h3.trans ?_))
  show go R (bpl (c + 1) :: S) (max (max (max d (c + 1)) (c + 1)) (c + 1)) (p + 3) = _
  congr 1
  omega
theorem go_ifs (S : List Wt) : ∀ (n : Nat) (R : List Nd) (c d p : Nat), go (ifsL n ++ R) (bpl c :: S) d p = go R (bpl (c + n) :: S) (if n = 0 then d else max d (c + n)) (p + 3 * n)
  | 0, _, _, _, _ => rfl
  | n + 1, R, c, d, p => by
    rw [ifsL, List.append_assoc, go_ifs S n, go_if, if_neg (Nat.succ_ne_zero n)]
    congr 1
    split <;> omega
/- rounds -/
def rndL : Nat → List Nd
  | 0 => []
  | n + 1 => rndL n ++ [blk1, repN n]
theorem go_rnd {i : Nat} (hi : i ≤ 1000) (R : List Nd) (S : List Wt) (c d p : Nat) : go ([blk1, repN i] ++ R) (bpl c :: S) d p = go R (bpl (c + 1) :: S) (max d (c + 1)) (p + 2) := by
  have h1 := go_one (a := blk1) (r := repN i :: R) (x := bpl c) (S := S) (d := d) (p := p) rfl (ent_blk1 c _)
  have h2 := go_one (a := repN i) (r := R) (x := spl (c + 1)) (S := S) (d := max d (c + 1)) (p := p + 1) rfl (ent_rep hi (c + 1) _)
  refine h1.trans (h2.trans ?_)
  show go R (bpl (c + 1) :: S) (max (max d (c + 1)) (c + 1)) (p + 2) = _
  congr 1
  omega
theorem go_rnds (S : List Wt) : ∀ (n : Nat), n ≤ 1000 → ∀ (R : List Nd) (c d p : Nat), go (rndL n ++ R) (bpl c :: S) d p = go R (bpl (c + n) :: S) (if n = 0 then d else max d (c + n)) (p + 2 * n)
  | 0, _, _, _, _, _ => rfl
  | n + 1, hn, R, c, d, p => by
    rw [rndL, List.append_assoc, go_rnds S n (by omega), go_rnd (by omega), if_neg (Nat.succ_ne_zero n)]
    congr 1
    split <;> omega
/- elses -/
def elsL : Nat → List Nd
  | 0 => []
  | n + 1 => elsL n ++ [if3, falN, blkN]
theorem go_els1 {x : Wt} {o : Nat} (hx : x.many = 1) (he : ∀ R, ent if3 R x = some (o, [pl 0 o false, bpl o, epl o])) (R : List Nd) (S : List Wt) (d p : Nat) : go ([if3, falN, blkN] ++ R) (x :: S) d p = go R (epl o :: S) (max d (o + 1)) (p + 3) := by
  have h1 := go_one (a := if3) (r := falN :: blkN :: R) (x := x) (S := S) (d := d) (p := p) hx (he _)
  have h2 := go_one (a := falN) (r := blkN :: R) (x := pl 0 o false) (S := bpl o :: epl o :: S) (d := max d o) (p := p + 1) rfl (ent_fal o _)
  have h3 := go_one (a := blkN) (r := R) (x := bpl o) (S := epl o :: S) (d := max (max d o) o) (p := p + 1 + 1) rfl (ent_blk0 o _)
  have h4 := go_skip (z := ⟨⟨16, 0⟩, 0, o + 1, false⟩) rfl R [] (epl o :: S) (max (max (max d o) o) (o + 1)) (p + 1 + 1 + 1)
  refine h1.trans (h2.trans (h3.trans (h4.trans ?_)))
  show go R (epl o :: S) (max (max (max d o) o) (o + 1)) (p + 3) = _
  congr 1
  omega
theorem go_els (S : List Wt) : ∀ (n : Nat) (R : List Nd) (c d p : Nat), go (elsL (n + 1) ++ R) (spl c :: S) d p = go R (epl (c + n) :: S) (max d (c + n + 1)) (p + 3 * (n + 1))
  | 0, R, c, d, p => by
    show go ([if3, falN, blkN] ++ R) _ _ _ = _
    rw [go_els1 (x := spl c) rfl (ent_if3 c)]
    rfl
  | n + 1, R, c, d, p => by
    rw [elsL, List.append_assoc, go_els S n, go_els1 (x := epl (c + n)) rfl (ent_if3e (c + n))]
    congr 1
    omega
/- more around it -/
def upW (c : Nat) (x : Wt) : Wt := { x with opn := x.opn + c }
theorem pop_up (c : Nat) : ∀ S : List Wt, pop (S.map (upW c)) = (pop S).map (upW c)
  | [] => rfl
  | x :: S => by
    rw [List.map_cons, pop, pop]
    by_cases h : x.many = 0
    · rw [if_pos h, if_pos (show (upW c x).many = 0 from h), pop_up c S]
    · rw [if_neg h, if_neg (show ¬ (upW c x).many = 0 from h), List.map_cons]
theorem ent_up {a : Nd} {r : List Nd} {x : Wt} {o : Nat} {ws : List Wt} (c : Nat) (hr : x.rest = true → mks (a :: r) ≤ x.opn) (h : ent a r x = some (o, ws)) : ent a r (upW c x) = some (o + c, ws.map (upW c)) := by
  unfold ent at h ⊢
  split at h
  · cases h
  · rename_i h0
    rw [if_neg (show ¬ ((kd a.op).is &&& (upW c x).plc.takes = 0 ∨ fits (kd a.op) a = false) from h0)]
    cases hp : plcs (kd a.op) a.kids with
    | none => rw [hp] at h; cases h
    | some q =>
      obtain ⟨ps, many⟩ := q
      rw [hp] at h
      simp only [Option.some.injEq, Prod.mk.injEq] at h ⊢
      obtain ⟨rfl, rfl⟩ := h
      have hm : more (kd a.op) (upW c x) (mks (a :: r)) = more (kd a.op) x (mks (a :: r)) := rfl
      have ho : (upW c x).opn = x.opn + c := rfl
      rw [hm, ho]
      have he : x.opn + c + more (kd a.op) x (mks (a :: r)) + (kd a.op).opens = x.opn + more (kd a.op) x (mks (a :: r)) + (kd a.op).opens + c := by omega
      refine ⟨he, ?_⟩
      rw [he]
      have hg : gos (a :: r) = true → 1 ≤ x.opn + more (kd a.op) x (mks (a :: r)) + (kd a.op).opens := fun hg => by
        have h1 : 1 ≤ mks (a :: r) := by
          cases r with
          | nil => cases hg
          | cons b r =>
            have hg : goes a b = true := hg
            rw [mks, hg, if_pos rfl]
            omega
        cases hx : x.rest with
        | true => have := hr hx; omega
        | false =>
          have : mks (a :: r) ≤ more (kd a.op) x (mks (a :: r)) := by
            unfold more
            rw [hx]
            simp
          omega
      cases ps with
      | nil => rfl
      | cons q ps =>
        cases hgb : gos (a :: r) with
        | true =>
          have h1 := hg hgb
          unfold wants
          rw [List.map_cons, List.map_map, if_pos rfl, if_pos rfl]
          have e9 : x.opn + more (kd a.op) x (mks (a :: r)) + (kd a.op).opens + c - 1 = x.opn + more (kd a.op) x (mks (a :: r)) + (kd a.op).opens - 1 + c := by omega
          rw [e9]
          rfl
        | false =>
          unfold wants
          rw [List.map_cons, List.map_map]
          rfl
theorem rs_pops {l : List Nd} {p : Nat} : ∀ {S : List Wt}, RS l p S → RS l p (pop S)
  | [], h => h
  | x :: S, h => by
    rw [pop]
    split
    · exact rs_pops h.tail
    · exact h
theorem pop_ne : ∀ {S : List Wt} {x : Wt} {S' : List Wt}, pop S = x :: S' → x.many ≠ 0
  | [], x, S', h => by cases h
  | y :: S, x, S', h => by
    rw [pop] at h
    split at h
    · exact pop_ne h
    · rename_i hy
      cases h
      exact hy
theorem go_up (c : Nat) {l : List Nd} (hk : ∀ a ∈ l, a.kids ≤ 9223372036854775807) : ∀ (r : List Nd) (p : Nat) (S : List Wt) (d q : Nat), l.drop p = r → RS l p S → (go r S d q).2.2 = true → ∀ q', go r (S.map (upW c)) (d + c) q' = ((go r S d q).1 + c, 0, true)
  | [], p, S, d, q, _, _, h, q' => by
    unfold go at h ⊢
    rw [pop_up]
    by_cases hp : pop S = []
    · rw [if_pos hp] at h ⊢
      rw [hp, List.map_nil, if_pos rfl]
    · rw [if_neg hp] at h
      cases h
  | a :: r, p, S, d, q, hd, hrs, h, q' => by
    rw [go_cons] at h ⊢
    rw [go_cons, pop_up]
    have hrp := rs_pops hrs
    cases hp : pop S with
    | nil => rw [hp] at h; cases h
    | cons x S' =>
      rw [hp] at h hrp
      have hx : x.many ≠ 0 := pop_ne hp
      rw [List.map_cons]
      simp only at h ⊢
      cases he : ent a r x with
      | none => rw [he] at h; cases h
      | some w =>
        obtain ⟨o, ws⟩ := w
        rw [he] at h
        have hdr : l.drop (p + 1) = r := by
          have : l.drop (p + 1) = (l.drop p).drop 1 := by rw [List.drop_drop]
          rw [this, hd]
          rfl
        have hent : TR.ent a (l.drop (p + 1)) x = some (o, ws) := by rw [hdr]; exact he
        have hmem : a ∈ l := List.mem_of_mem_drop (i := p) (by rw [hd]; simp)
        have h2 := (hrp.ent hx (by rw [hd, hdr]) (hk a hmem) hent).1
        have hru := ent_up c (fun h9 => by
          have h8 := (hrp.2 x S' rfl).1 h9 hx
          rw [hd] at h8
          exact h8) he
        rw [hru]
        simp only at h ⊢
        have h3 := go_up c hk r (p + 1) _ (max d o) (q + 1) hdr h2 h (q' + 1)
        rw [← h3]
        rw [List.map_append, List.map_cons]
        congr 1
        omega
end TR
end Go.Proofs.Ytgahdppcdeefaaa
