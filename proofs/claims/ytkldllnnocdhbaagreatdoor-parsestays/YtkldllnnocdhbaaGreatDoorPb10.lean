/-
  The parser comes to an end: with so much fuel it answers, and goes on.
-/
import Derived.Test.YtkldllnnocdhbaaGreatDoorTk8
namespace Go.Proofs.YtkldllnnocdhbaaGreatDoor
namespace TP
open TR (Nd)
open TK (Tok)
/- trees side by side: the first one's node, its kids, the others -/
inductive Fo where
  | nil
  | cons (a : Nd) (kids rest : Fo)
  deriving DecidableEq
def flF : Fo → List Nd
  | .nil => []
  | .cons a k r => a :: (flF k ++ flF r)
def cntF : Fo → Nat
  | .nil => 0
  | .cons _ _ r => cntF r + 1
def Fo.app : Fo → Fo → Fo
  | .nil, g => g
  | .cons a k r, g => .cons a k (r.app g)
theorem flF_app : ∀ (f g : Fo), flF (f.app g) = flF f ++ flF g
  | .nil, _ => rfl
  | .cons a k r, g => by
    show a :: (flF k ++ flF (r.app g)) = a :: (flF k ++ flF r) ++ flF g
    rw [flF_app r g, List.cons_append, List.append_assoc]
theorem cntF_app : ∀ (f g : Fo), cntF (f.app g) = cntF f + cntF g
  | .nil, g => by show cntF g = 0 + cntF g; omega
  | .cons _ _ r, g => by
    show cntF (r.app g) + 1 = cntF r + 1 + cntF g
    rw [cntF_app r g]
    omega
theorem app_assoc : ∀ (f g h : Fo), (f.app g).app h = f.app (g.app h)
  | .nil, _, _ => rfl
  | .cons a k r, g, h => by
    show Fo.cons a k ((r.app g).app h) = Fo.cons a k (r.app (g.app h))
    rw [app_assoc r g h]
theorem app_nil : ∀ (f : Fo), f.app .nil = f
  | .nil => rfl
  | .cons a k r => by
    show Fo.cons a k (r.app .nil) = _
    rw [app_nil r]
def nod (op n : Int) (text : List Int) (pos : Int) (k : Fo) : Fo := .cons ⟨op, 0, n, 0, text, pos, (cntF k : Int)⟩ k .nil
def dt : Tok := ⟨0, [], 0, 0⟩
def tk (l : List Tok) (i : Nat) : Tok := l.getD i dt
def mk (t : Tok) (m : List Int) : Bool := t.kind == 4 && t.text == m
def wd (t : Tok) (m : List Int) : Bool := t.kind == 1 && t.text == m
def fre (x : List Int) : Bool := TR.isN x && !TR.words.contains x
def frt (t : Tok) : Bool := t.kind == 1 && fre t.text
def binop (x : List Int) : Int := if x = [124, 124] then 36 else if x = [38, 38] then 37 else if x = [61, 61] then 38 else if x = [33, 61] then 39 else if x = [60] then 40 else if x = [60, 61] then 41 else if x = [62] then 42 else if x = [62, 61] then 43 else if x = [43] then 44 else if x = [45] then 45 else if x = [42] then 46 else if x = [47] then 47 else if x = [37] then 48 else 0
def rnk (op : Int) : Int := if op = 36 then 1 else if op = 37 then 2 else if 38 ≤ op ∧ op ≤ 43 then 4 else if op = 44 ∨ op = 45 then 5 else 6
def bop (t : Tok) (r : Int) : Int := if t.kind = 4 ∧ binop t.text ≠ 0 ∧ rnk (binop t.text) = r then binop t.text else 0
def zone (t : Tok) : Option Int := if wd t [100, 101, 99, 107] = true then some 0 else if wd t [104, 97, 110, 100] = true then some 1 else if wd t [98, 111, 97, 114, 100] = true then some 2 else if wd t [103, 114, 97, 118, 101] = true then some 3 else none
def evnt (t : Tok) : Option Int := if wd t [112, 108, 97, 121] = true then some 0 else if wd t [100, 105, 101] = true then some 1 else if wd t [104, 105, 116] = true then some 2 else if wd t [116, 117, 114, 110] = true then some 3 else if wd t [100, 114, 97, 119] = true then some 4 else none
inductive Rs where
  | bad (e p : Int)
  | ok (f : Fo) (i : Nat)
  deriving DecidableEq
inductive G where
  | row (r : Int) | rowL (r : Int) (x : Fo) (m : Nat) | not | sign | chn (x : Fo) (m : Nat) | item | arg | args (a : Bool) | argL (a : Bool) (acc : Fo)
  | block | blkL (acc : Fo) | stmt | branch | line | lines (acc : Fo) | card | cards (acc : Fo)
def opnd (r : Int) : G := if r = 1 then .row 2 else if r = 2 then .not else if r = 5 then .row 6 else .sign
def bd (r : Option Rs) (k : Fo → Nat → Option Rs) : Option Rs := match r with
  | none => none
  | some (.bad e p) => some (.bad e p)
  | some (.ok f i) => k f i
def okr (f : Fo) (i : Nat) : Option Rs := some (.ok f i)
def bad (t : Tok) : Option Rs := some (.bad 22 t.pos)
def deep (t : Tok) : Option Rs := some (.bad 23 t.pos)
def P (l : List Tok) : Nat → G → Nat → Nat → Option Rs
  | 0, _, _, _ => none
  | n + 1, .row r, i, d => bd (P l n (opnd r) i d) fun x j => P l n (.rowL r x 0) j d
  | n + 1, .rowL r x m, i, d => if bop (tk l i) r = 0 then okr x i
    else if m ≠ 0 ∧ d = 64 then deep (tk l i)
    else bd (P l n (opnd r) (i + 1) (if m = 0 then d else d + 1)) fun y j => P l n (.rowL r (nod (bop (tk l i) r) 0 [] (tk l i).pos (x.app y)) (m + 1)) j (if m = 0 then d else d + 1)
  | n + 1, .not, i, d => if mk (tk l i) [33] = true then (if d = 64 then deep (tk l i) else bd (P l n .not (i + 1) (d + 1)) fun x j => okr (nod 34 0 [] (tk l i).pos x) j)
    else bd (P l n (.row 5) i d) fun x j => if bop (tk l j) 4 = 0 then okr x j else bd (P l n (.row 5) (j + 1) d) fun y k => okr (nod (bop (tk l j) 4) 0 [] (tk l j).pos (x.app y)) k
  | n + 1, .sign, i, d => if mk (tk l i) [45] = true then (if d = 64 then deep (tk l i) else bd (P l n .sign (i + 1) (d + 1)) fun x j => okr (nod 35 0 [] (tk l i).pos x) j)
    else bd (P l n .item i d) fun x j => P l n (.chn x 0) j d
  | n + 1, .chn x m, i, d => if mk (tk l i) [46] = true then (if m ≠ 0 ∧ d = 64 then deep (tk l i)
      else if (tk l (i + 1)).kind = 1 then P l n (.chn (nod 49 0 (tk l (i + 1)).text (tk l (i + 1)).pos x) (m + 1)) (i + 2) (if m = 0 then d else d + 1) else bad (tk l (i + 1)))
    else okr x i
  | n + 1, .item, i, d => if (tk l i).kind = 2 then okr (nod 30 (tk l i).num [] (tk l i).pos .nil) (i + 1)
    else if wd (tk l i) [116, 114, 117, 101] = true then okr (nod 31 0 [] (tk l i).pos .nil) (i + 1)
    else if wd (tk l i) [102, 97, 108, 115, 101] = true then okr (nod 32 0 [] (tk l i).pos .nil) (i + 1)
    else if wd (tk l i) TR.wself = true ∨ wd (tk l i) TR.wme = true then okr (nod 33 0 (tk l i).text (tk l i).pos .nil) (i + 1)
    else if mk (tk l i) [40] = true then (if d = 64 then deep (tk l i) else bd (P l n (.row 1) (i + 1) (d + 1)) fun x j => if mk (tk l j) [41] = true then okr x (j + 1) else bad (tk l j))
    else if frt (tk l i) = true then (if mk (tk l (i + 1)) [40] = true then bd (P l n (.args true) (i + 1) d) fun k j => okr (nod 50 0 (tk l i).text (tk l i).pos k) j else okr (nod 33 0 (tk l i).text (tk l i).pos .nil) (i + 1))
    else bad (tk l i)
  | n + 1, .arg, i, d => if (tk l i).kind = 3 then okr (nod 52 0 (tk l i).text (tk l i).pos .nil) (i + 1)
    else match zone (tk l i) with
      | some z => okr (nod 51 z [] (tk l i).pos .nil) (i + 1)
      | none => P l n (.row 1) i d
  | n + 1, .args a, i, d => if mk (tk l i) [40] = true then (if d = 64 then deep (tk l i) else if mk (tk l (i + 1)) [41] = true then okr .nil (i + 2) else P l n (.argL a .nil) (i + 1) (d + 1)) else bad (tk l i)
  | n + 1, .argL a acc, i, d => bd (P l n (if a = true then .arg else .row 1) i d) fun x j => if mk (tk l j) [44] = true then P l n (.argL a (acc.app x)) (j + 1) d else if mk (tk l j) [41] = true then okr (acc.app x) (j + 1) else bad (tk l j)
  | n + 1, .block, i, d => if mk (tk l i) [123] = true then (if d = 64 then deep (tk l i) else bd (P l n (.blkL .nil) (i + 1) (d + 1)) fun k j => okr (nod 10 0 [] (tk l i).pos k) j) else bad (tk l i)
  | n + 1, .blkL acc, i, d => if mk (tk l i) [125] = true then okr acc (i + 1) else bd (P l n .stmt i d) fun x j => P l n (.blkL (acc.app x)) j d
  | n + 1, .branch, i, d => if wd (tk l i) [105, 102] = true then (bd (P l n (.row 1) (i + 1) d) fun x j => bd (P l n .block j d) fun y k =>
    if wd (tk l k) [101, 108, 115, 101] = true then (if wd (tk l (k + 1)) [105, 102] = true then (if d = 64 then deep (tk l (k + 1)) else bd (P l n .branch (k + 1) (d + 1)) fun z q => okr (nod 13 0 [] (tk l i).pos ((x.app y).app z)) q)
      else bd (P l n .block (k + 1) d) fun z q => okr (nod 13 0 [] (tk l i).pos ((x.app y).app z)) q)
    else okr (nod 13 0 [] (tk l i).pos (x.app y)) k) else bad (tk l i)
  | n + 1, .stmt, i, d =>
    if wd (tk l i) [108, 101, 116] = true then (if frt (tk l (i + 1)) = true then (if mk (tk l (i + 2)) [61] = true then bd (P l n (.row 1) (i + 3) d) fun x j => if mk (tk l j) [59] = true then okr (nod 11 0 (tk l (i + 1)).text (tk l i).pos x) (j + 1) else bad (tk l j) else bad (tk l (i + 2))) else bad (tk l (i + 1)))
    else if wd (tk l i) [105, 102] = true then P l n .branch i d
    else if wd (tk l i) [114, 101, 112, 101, 97, 116] = true then (if (tk l (i + 1)).kind = 2 then (if wd (tk l (i + 2)) [97, 115] = true then (if frt (tk l (i + 3)) = true then bd (P l n .block (i + 4) d) fun x j => okr (nod 14 (tk l (i + 1)).num (tk l (i + 3)).text (tk l i).pos x) j else bad (tk l (i + 3))) else bad (tk l (i + 2))) else bad (tk l (i + 1)))
    else if wd (tk l i) [101, 97, 99, 104] = true ∨ wd (tk l i) [99, 104, 111, 111, 115, 101] = true then (if frt (tk l (i + 1)) = true then (if wd (tk l (i + 2)) [105, 110] = true then bd (P l n (.row 1) (i + 3) d) fun x j => bd (P l n .block j d) fun y k =>
        if wd (tk l i) [99, 104, 111, 111, 115, 101] = true ∧ wd (tk l k) [101, 108, 115, 101] = true then bd (P l n .block (k + 1) d) fun z q => okr (nod 16 0 (tk l (i + 1)).text (tk l i).pos ((x.app y).app z)) q
        else okr (nod (if wd (tk l i) [99, 104, 111, 111, 115, 101] = true then 16 else 15) 0 (tk l (i + 1)).text (tk l i).pos (x.app y)) k else bad (tk l (i + 2))) else bad (tk l (i + 1)))
    else if wd (tk l i) [115, 116, 111, 112] = true ∨ wd (tk l i) [97, 98, 111, 114, 116] = true then (if mk (tk l (i + 1)) [59] = true then okr (nod (if wd (tk l i) [115, 116, 111, 112] = true then 17 else 18) 0 [] (tk l i).pos .nil) (i + 2) else bad (tk l (i + 1)))
    else if (frt (tk l i) || (wd (tk l i) TR.wself || wd (tk l i) TR.wme) || (wd (tk l i) TR.whit || wd (tk l i) TR.wdraw)) = false then bad (tk l i)
    else if (frt (tk l i) || (wd (tk l i) TR.wself || wd (tk l i) TR.wme)) = true ∧ mk (tk l (i + 1)) [61] = true then bd (P l n (.row 1) (i + 2) d) fun x j => if mk (tk l j) [59] = true then okr (nod 12 0 (tk l i).text (tk l i).pos x) (j + 1) else bad (tk l j)
    else if (frt (tk l i) || (wd (tk l i) TR.whit || wd (tk l i) TR.wdraw)) = true ∧ mk (tk l (i + 1)) [40] = true then bd (P l n (.args false) (i + 1) d) fun x j => if mk (tk l j) [59] = true then okr (nod 19 0 (tk l i).text (tk l i).pos x) (j + 1) else bad (tk l j)
    else bad (tk l (i + 1))
  | n + 1, .line, i, d =>
    if wd (tk l i) [99, 111, 115, 116] = true ∨ wd (tk l i) [112, 111, 119, 101, 114] = true ∨ wd (tk l i) [104, 101, 97, 108, 116, 104] = true then (if (tk l (i + 1)).kind = 2 then (if mk (tk l (i + 2)) [59] = true then okr (nod (if wd (tk l i) [99, 111, 115, 116] = true then 3 else if wd (tk l i) [112, 111, 119, 101, 114] = true then 4 else 5) (tk l (i + 1)).num [] (tk l i).pos .nil) (i + 3) else bad (tk l (i + 2))) else bad (tk l (i + 1)))
    else if wd (tk l i) [116, 97, 103] = true then (if (tk l (i + 1)).kind = 3 then (if mk (tk l (i + 2)) [59] = true then okr (nod 6 0 (tk l (i + 1)).text (tk l i).pos .nil) (i + 3) else bad (tk l (i + 2))) else bad (tk l (i + 1)))
    else if wd (tk l i) [111, 110] = true then (match evnt (tk l (i + 1)) with
      | none => bad (tk l (i + 1))
      | some v => if wd (tk l (i + 2)) [119, 104, 101, 110] = true then bd (P l n (.row 1) (i + 3) d) fun x j => bd (P l n .block j d) fun y k => okr (nod 7 v [] (tk l i).pos (x.app y)) k
        else bd (P l n .block (i + 2) d) fun y k => okr (nod 7 v [] (tk l i).pos y) k)
    else bad (tk l i)
  | n + 1, .lines acc, i, d => if mk (tk l i) [125] = true then okr acc (i + 1) else bd (P l n .line i d) fun x j => P l n (.lines (acc.app x)) j d
  | n + 1, .card, i, d => if wd (tk l i) [99, 97, 114, 100] = true then (if (tk l (i + 1)).kind = 3 then (if mk (tk l (i + 2)) [123] = true then bd (P l n (.lines .nil) (i + 3) d) fun k j => okr (nod 2 0 (tk l (i + 1)).text (tk l i).pos k) j else bad (tk l (i + 2))) else bad (tk l (i + 1))) else bad (tk l i)
  | n + 1, .cards acc, i, d => if (tk l i).kind = 0 then okr acc i else bd (P l n .card i d) fun x j => P l n (.cards (acc.app x)) j d
theorem bd_some {r : Option Rs} {k : Fo → Nat → Option Rs} {R : Rs} (h : bd r k = some R) : (∃ e p, r = some (.bad e p) ∧ R = .bad e p) ∨ ∃ f i, r = some (.ok f i) ∧ k f i = some R := by
  cases r with
  | none => cases h
  | some r =>
    cases r with
    | bad e p => exact .inl ⟨e, p, rfl, (Option.some.inj h).symm⟩
    | ok f i => exact .inr ⟨f, i, rfl, h⟩
end TP
end Go.Proofs.YtkldllnnocdhbaaGreatDoor
namespace Go.Proofs.YtkldllnnocdhbaaGreatDoor
namespace TP
open TR (Nd)
open TK (Tok)
def rk : G → Nat
  | .row r => if r = 1 then 8 else if r = 2 then 7 else if r = 5 then 5 else 4
  | .rowL _ _ _ => 1
  | .not => 6
  | .sign => 3
  | .chn _ _ => 2
  | .item => 1
  | .arg => 9
  | .args _ => 1
  | .argL _ _ => 10
  | .block => 1
  | .blkL _ => 3
  | .stmt => 2
  | .branch => 1
  | .line => 1
  | .lines _ => 2
  | .card => 1
  | .cards _ => 2
def con : G → Nat
  | .rowL _ _ _ => 0
  | .chn _ _ => 0
  | .cards _ => 0
  | _ => 1
theorem rk_opnd (r : Int) : rk (opnd r) < rk (.row r) ∧ con (opnd r) = 1 := by
  unfold opnd
  by_cases h1 : r = 1
  · subst h1; decide
  by_cases h2 : r = 2
  · subst h2; decide
  by_cases h5 : r = 5
  · subst h5; decide
  rw [if_neg h1, if_neg h2, if_neg h5]
  show 3 < (if r = 1 then 8 else if r = 2 then 7 else if r = 5 then 5 else 4) ∧ 1 = 1
  rw [if_neg h1, if_neg h2, if_neg h5]
  decide
theorem rk_le (g : G) : rk g ≤ 10 := by
  cases g <;> first | decide | (simp only [rk]; repeat' split) <;> omega
theorem kd_len {l : List Tok} : ∀ i, (tk l i).kind ≠ 0 → i < l.length := fun i h => by
  rcases Nat.lt_or_ge i l.length with h1 | h1
  · exact h1
  · unfold tk at h
    rw [List.getD_eq_getElem?_getD, List.getElem?_eq_none h1] at h
    exact absurd rfl h
theorem kd_last {l : List Tok} (hl : (tk l (l.length - 1)).kind = 0) : ∀ i, (tk l i).kind ≠ 0 → i < l.length - 1 := fun i h => by
  have h1 := kd_len i h
  rcases Nat.lt_or_ge i (l.length - 1) with h2 | h2
  · exact h2
  · obtain rfl : i = l.length - 1 := by omega
    exact absurd hl h
theorem mk_kd {t : Tok} {m : List Int} (h : mk t m = true) : t.kind ≠ 0 := by
  unfold mk at h
  simp only [Bool.and_eq_true, beq_iff_eq] at h
  omega
theorem wd_kd {t : Tok} {m : List Int} (h : wd t m = true) : t.kind ≠ 0 := by
  unfold wd at h
  simp only [Bool.and_eq_true, beq_iff_eq] at h
  omega
theorem frt_kd {t : Tok} (h : frt t = true) : t.kind ≠ 0 := by
  unfold frt at h
  simp only [Bool.and_eq_true, beq_iff_eq] at h
  omega
theorem bop_kd {t : Tok} {r : Int} (h : bop t r ≠ 0) : t.kind ≠ 0 := by
  unfold bop at h
  split at h
  · rename_i h1
    omega
  · exact absurd rfl h
def TT (c n : Nat) (r : Option Rs) : Prop := match r with
  | none => False
  | some (.bad _ _) => True
  | some (.ok _ j) => c ≤ j ∧ j ≤ n
theorem TT_ok {c n j : Nat} {f : Fo} (h1 : c ≤ j) (h2 : j ≤ n) : TT c n (okr f j) := ⟨h1, h2⟩
theorem TT_bad {c n : Nat} (t : Tok) : TT c n (bad t) := trivial
theorem TT_deep {c n : Nat} (t : Tok) : TT c n (deep t) := trivial
theorem TT_bd {c c1 n : Nat} {r : Option Rs} {k : Fo → Nat → Option Rs} (h : TT c1 n r) (hk : ∀ f j, c1 ≤ j → j ≤ n → TT c n (k f j)) : TT c n (bd r k) := by
  cases r with
  | none => exact h
  | some r =>
    cases r with
    | bad e p => exact trivial
    | ok f j => exact hk f j h.1 h.2
theorem TT_mono {c c1 n : Nat} {r : Option Rs} (h : TT c1 n r) (hc : c ≤ c1) : TT c n r := by
  cases r with
  | none => exact h
  | some r =>
    cases r with
    | bad e p => exact trivial
    | ok f j => exact ⟨Nat.le_trans hc h.1, h.2⟩
theorem TT_ite {c n : Nat} {p : Prop} [Decidable p] {a b : Option Rs} (ha : p → TT c n a) (hb : ¬p → TT c n b) : TT c n (if p then a else b) := by
  split
  · exact ha (by assumption)
  · exact hb (by assumption)
theorem TT_mk {c N : Nat} {l : List Tok} (hN : ∀ i, (tk l i).kind ≠ 0 → i < N) {i : Nat} {m : List Int} {a b : Option Rs} (ha : i < N → TT c N a) (hb : TT c N b) : TT c N (if mk (tk l i) m = true then a else b) := TT_ite (fun h => ha (hN _ (mk_kd h))) (fun _ => hb)
theorem TT_wd {c N : Nat} {l : List Tok} (hN : ∀ i, (tk l i).kind ≠ 0 → i < N) {i : Nat} {m : List Int} {a b : Option Rs} (ha : i < N → TT c N a) (hb : TT c N b) : TT c N (if wd (tk l i) m = true then a else b) := TT_ite (fun h => ha (hN _ (wd_kd h))) (fun _ => hb)
theorem TT_wd2 {c N : Nat} {l : List Tok} (hN : ∀ i, (tk l i).kind ≠ 0 → i < N) {i : Nat} {m m2 : List Int} {a b : Option Rs} (ha : i < N → TT c N a) (hb : TT c N b) : TT c N (if wd (tk l i) m = true ∨ wd (tk l i) m2 = true then a else b) := TT_ite (fun h => ha (hN _ (h.elim wd_kd wd_kd))) (fun _ => hb)
theorem TT_wd3 {c N : Nat} {l : List Tok} (hN : ∀ i, (tk l i).kind ≠ 0 → i < N) {i : Nat} {m m2 m3 : List Int} {a b : Option Rs} (ha : i < N → TT c N a) (hb : TT c N b) : TT c N (if wd (tk l i) m = true ∨ wd (tk l i) m2 = true ∨ wd (tk l i) m3 = true then a else b) := TT_ite (fun h => ha (hN _ (h.elim wd_kd (fun h => h.elim wd_kd wd_kd)))) (fun _ => hb)
theorem TT_frt {c N : Nat} {l : List Tok} (hN : ∀ i, (tk l i).kind ≠ 0 → i < N) {i : Nat} {a b : Option Rs} (ha : i < N → TT c N a) (hb : TT c N b) : TT c N (if frt (tk l i) = true then a else b) := TT_ite (fun h => ha (hN _ (frt_kd h))) (fun _ => hb)
theorem TT_kd {c N : Nat} {l : List Tok} (hN : ∀ i, (tk l i).kind ≠ 0 → i < N) {i : Nat} {z : Int} (hz : z ≠ 0) {a b : Option Rs} (ha : i < N → TT c N a) (hb : TT c N b) : TT c N (if (tk l i).kind = z then a else b) := TT_ite (fun h => ha (hN _ (by omega))) (fun _ => hb)
theorem TT_k0 {c N : Nat} {l : List Tok} (hN : ∀ i, (tk l i).kind ≠ 0 → i < N) {i : Nat} {a b : Option Rs} (ha : TT c N a) (hb : i < N → TT c N b) : TT c N (if (tk l i).kind = 0 then a else b) := TT_ite (fun _ => ha) (fun h => hb (hN _ h))
theorem TT_bop {c N : Nat} {l : List Tok} (hN : ∀ i, (tk l i).kind ≠ 0 → i < N) {i : Nat} {r : Int} {a b : Option Rs} (ha : TT c N a) (hb : i < N → TT c N b) : TT c N (if bop (tk l i) r = 0 then a else b) := TT_ite (fun _ => ha) (fun h => hb (hN _ (bop_kd h)))
theorem TT_and {c N : Nat} {l : List Tok} (hN : ∀ i, (tk l i).kind ≠ 0 → i < N) {i : Nat} {m : List Int} {p : Prop} [Decidable p] {a b : Option Rs} (ha : i < N → TT c N a) (hb : TT c N b) : TT c N (if p ∧ mk (tk l i) m = true then a else b) := TT_ite (fun h => ha (hN _ (mk_kd h.2))) (fun _ => hb)
theorem TT_andw {c N : Nat} {l : List Tok} (hN : ∀ i, (tk l i).kind ≠ 0 → i < N) {i : Nat} {m : List Int} {p : Prop} [Decidable p] {a b : Option Rs} (ha : i < N → TT c N a) (hb : TT c N b) : TT c N (if p ∧ wd (tk l i) m = true then a else b) := TT_ite (fun h => ha (hN _ (wd_kd h.2))) (fun _ => hb)
theorem TT_nm {c N : Nat} {l : List Tok} (hN : ∀ i, (tk l i).kind ≠ 0 → i < N) {i : Nat} {m1 m2 m3 m4 : List Int} {a b : Option Rs} (ha : TT c N a) (hb : i < N → TT c N b) : TT c N (if (frt (tk l i) || (wd (tk l i) m1 || wd (tk l i) m2) || (wd (tk l i) m3 || wd (tk l i) m4)) = false then a else b) := TT_ite (fun _ => ha) (fun h => hb (by
  simp only [Bool.or_eq_false_iff, not_and, Bool.not_eq_false] at h
  by_cases h1 : frt (tk l i) = true
  · exact hN _ (frt_kd h1)
  by_cases h2 : wd (tk l i) m1 = true
  · exact hN _ (wd_kd h2)
  by_cases h3 : wd (tk l i) m2 = true
  · exact hN _ (wd_kd h3)
  by_cases h4 : wd (tk l i) m3 = true
  · exact hN _ (wd_kd h4)
  simp only [Bool.not_eq_true] at h1 h2 h3 h4
  exact hN _ (wd_kd (h ⟨h1, h2, h3⟩ h4))))
theorem tot (l : List Tok) (N : Nat) (hN : ∀ i, (tk l i).kind ≠ 0 → i < N) : ∀ (n : Nat) (g : G) (i d : Nat), 16 * (N - i) + rk g < n → i ≤ N → TT (i + con g) N (P l n g i d)
  | 0, _, _, _, h, _ => absurd h (Nat.not_lt_zero _)
  | n + 1, g, i, d, h, hi => by
    have ih := fun g i d => tot l N hN n g i d
    cases g with
    | row r =>
      have h1 := rk_opnd r
      rw [P]
      refine TT_bd (ih _ _ _ (by omega) hi) (fun x j h2 h3 => ?_)
      exact TT_mono (ih _ _ _ (by show 16 * (N - j) + 1 < n; omega) h3) (by show i + 1 ≤ j + 0; omega)
    | rowL r x m =>
      have h1 := rk_opnd r
      have h4 := rk_le (opnd r)
      have h : 16 * (N - i) + 1 < n + 1 := h
      rw [P]
      refine TT_bop hN (TT_ok (by show i + 0 ≤ i; omega) hi) (fun h5 => TT_ite (fun _ => TT_deep _) (fun _ => ?_))
      refine TT_bd (ih _ _ _ (by omega) (by omega)) (fun y j h2 h3 => ?_)
      exact TT_mono (ih _ _ _ (by show 16 * (N - j) + 1 < n; omega) h3) (by show i + 0 ≤ j + 0; omega)
    | arg =>
      simp only [rk] at h
      rw [P]
      refine TT_kd hN (by decide) (fun h5 => TT_ok (by show i + 1 ≤ i + 1; omega) (by omega)) ?_
      split
      · rename_i z hz
        have h5 : i < N := by
          unfold zone at hz
          split at hz
          · rename_i h6; exact hN _ (wd_kd h6)
          split at hz
          · rename_i h6; exact hN _ (wd_kd h6)
          split at hz
          · rename_i h6; exact hN _ (wd_kd h6)
          split at hz
          · rename_i h6; exact hN _ (wd_kd h6)
          cases hz
        exact TT_ok (by show i + 1 ≤ i + 1; omega) (by omega)
      · exact ih _ _ _ (by simp [rk]; omega) hi
    | argL a acc =>
      simp only [rk] at h
      rw [P]
      have h6 : rk (if a = true then G.arg else .row 1) ≤ 9 ∧ con (if a = true then G.arg else .row 1) = 1 := by cases a <;> decide
      refine TT_bd (ih _ _ _ (by omega) hi) (fun x j h2 h3 => ?_)
      refine TT_mk hN (fun h7 => TT_mono (ih _ _ _ (by simp only [rk]; omega) (by omega)) (by show i + 1 ≤ j + 1 + 1; omega)) (TT_mk hN (fun h7 => TT_ok (by show i + 1 ≤ j + 1; omega) (by omega)) (TT_bad _))
    | line =>
      simp only [rk] at h
      rw [P]
      refine TT_wd3 hN (fun h5 => TT_kd hN (by decide) (fun h6 => TT_mk hN (fun h7 => TT_ok (by simp only [con]; omega) (by omega)) (TT_bad _)) (TT_bad _)) ?_
      refine TT_wd hN (fun h5 => TT_kd hN (by decide) (fun h6 => TT_mk hN (fun h7 => TT_ok (by simp only [con]; omega) (by omega)) (TT_bad _)) (TT_bad _)) ?_
      refine TT_wd hN (fun h5 => ?_) (TT_bad _)
      split
      · exact TT_bad _
      · rename_i v hv
        have h5 : i + 1 < N := by
          unfold evnt at hv
          split at hv
          · rename_i h6; exact hN _ (wd_kd h6)
          split at hv
          · rename_i h6; exact hN _ (wd_kd h6)
          split at hv
          · rename_i h6; exact hN _ (wd_kd h6)
          split at hv
          · rename_i h6; exact hN _ (wd_kd h6)
          split at hv
          · rename_i h6; exact hN _ (wd_kd h6)
          cases hv
        refine TT_wd hN (fun h7 => TT_bd (ih _ _ _ (by simp [rk]; omega) (by omega)) (fun x j h2 h3 => TT_bd (ih _ _ _ (by simp only [rk, con] at h2 ⊢; omega) h3) (fun y k h8 h9 => TT_ok (by simp only [con] at h2 h8 ⊢; omega) h9))) ?_
        exact TT_bd (ih _ _ _ (by simp [rk]; omega) (by omega)) (fun y k h8 h9 => TT_ok (by simp only [con] at h8 ⊢; omega) h9)
    | _ =>
      simp only [rk] at h
      simp only [con]
      rw [P]
      repeat' first
        | exact TT_bad _
        | exact TT_deep _
        | exact TT_ok (by omega) (by omega)
        | refine TT_mk hN (fun _ => ?_) ?_
        | refine TT_wd hN (fun _ => ?_) ?_
        | refine TT_wd2 hN (fun _ => ?_) ?_
        | refine TT_frt hN (fun _ => ?_) ?_
        | refine TT_kd hN (by decide) (fun _ => ?_) ?_
        | refine TT_k0 hN ?_ (fun _ => ?_)
        | refine TT_bop hN ?_ (fun _ => ?_)
        | refine TT_nm hN ?_ (fun _ => ?_)
        | refine TT_and hN (fun _ => ?_) ?_
        | refine TT_andw hN (fun _ => ?_) ?_
        | exact TT_mono (ih _ _ _ (by simp only [rk]; omega) (by omega)) (by simp only [con]; omega)
        | (refine TT_bd (ih _ _ _ (by simp [rk]; omega) (by omega)) (fun _ _ h2 _ => ?_); simp only [con] at h2)
        | refine TT_ite (fun _ => ?_) (fun _ => ?_)
def fuel (l : List Tok) : Nat := 16 * l.length + 20
theorem ends (l : List Tok) (g : G) (i d : Nat) (hi : i ≤ l.length) : ∃ r, P l (fuel l) g i d = some r ∧ ∀ f j, r = .ok f j → i + con g ≤ j ∧ j ≤ l.length := by
  have h := tot l l.length kd_len (fuel l) g i d (by have := rk_le g; unfold fuel; omega) hi
  cases hp : P l (fuel l) g i d with
  | none => rw [hp] at h; exact h.elim
  | some r =>
    rw [hp] at h
    refine ⟨r, rfl, fun f j e => ?_⟩
    subst e
    exact h
end TP
end Go.Proofs.YtkldllnnocdhbaaGreatDoor
