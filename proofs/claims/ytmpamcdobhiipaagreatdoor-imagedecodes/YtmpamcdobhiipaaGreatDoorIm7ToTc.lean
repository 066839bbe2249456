/-
  States as bytes, no program: what is written, what is read, there and back.
-/
import Derived.Test.YtmpamcdobhiipaaGreatDoorSlToSm
import Derived.Test.YtmpamcdobhiipaaGreatDoorBaseToLc
namespace Go.Proofs.YtmpamcdobhiipaaGreatDoor
namespace IM
def by1 (n : Int) : List Int := [n % 256]
def by2 (n : Int) : List Int := [n / 256 % 256, n % 256]
def by4 (n : Int) : List Int := [n / 16777216 % 256, n / 65536 % 256, n / 256 % 256, n % 256]
def mk : List Int := [84, 66, 76, 83, 1]
def oneI (b : Bool) : Int := if b then 1 else 0
def plyI (p : Ply) : List Int := by4 p.life ++ (by4 p.energy ++ by1 (oneI p.out))
def crdI (c : Crd) : List Int := by2 c.kind ++ (by1 c.owner ++ (by4 c.power ++ (by4 c.health ++ (by4 c.damage ++ by4 c.marks))))
def zonI (z : List Int) : List Int := by2 (z.length : Int) ++ z.flatMap by2
def img (s : Stt) : List Int := mk ++ (by1 (s.ps.length : Int) ++ (s.ps.flatMap plyI ++ (by2 (s.cs.length : Int) ++ (s.cs.flatMap crdI ++ (s.zs.flatMap zonI ++ (by4 s.turn ++ (by1 s.whose ++ (by1 s.fin ++ by1 s.winner))))))))

/- reading: of what is left, the thing and what is left behind it; or how much is left where the fault is -/
abbrev Rdr (α : Type) := List Int → Except Nat (α × List Int)
def bnd {α β : Type} (p : Rdr α) (f : α → Rdr β) : Rdr β := fun l => match p l with
  | .error r => .error r
  | .ok (x, l') => f x l'
def ret {α : Type} (x : α) : Rdr α := fun l => .ok (x, l)
def rep {α : Type} (p : Rdr α) : Nat → Rdr (List α)
  | 0 => ret []
  | n + 1 => bnd p fun x => bnd (rep p n) fun xs => ret (x :: xs)
def Byt (l : List Int) : Prop := ∀ c ∈ l, 0 ≤ c ∧ c < 256
theorem Byt.right {a b : List Int} (h : Byt (a ++ b)) : Byt b := fun c hc => h c (List.mem_append_right _ hc)
def num1 : Rdr Int
  | a :: l => .ok (a, l)
  | l => .error l.length
def num2 : Rdr Int
  | a :: b :: l => .ok (256 * a + b, l)
  | l => .error l.length
def sg (n : Int) : Int := if n < 2147483648 then n else n - 4294967296
def sg4 : Rdr Int
  | a :: b :: c :: d :: l => .ok (sg (16777216 * a + 65536 * b + 256 * c + d), l)
  | l => .error l.length
def flag : Rdr Bool
  | a :: l => if a > 1 then .error (l.length + 1) else .ok (decide (a = 1), l)
  | [] => .error 0
def mkb (c : Int) : Rdr Unit
  | a :: l => if a = c then .ok ((), l) else .error (l.length + 1)
  | [] => .error 0
def rdP : Rdr Ply := bnd sg4 fun a => bnd sg4 fun b => bnd flag fun c => ret ⟨a, b, c⟩
def rdC : Rdr Crd := bnd num2 fun a => bnd num1 fun b => bnd sg4 fun c => bnd sg4 fun d => bnd sg4 fun e => bnd sg4 fun f => ret ⟨a, b, c, d, e, f⟩
def rdZ : Rdr (List Int) := bnd num2 fun n => rep num2 n.toNat
def i8 (n : Int) : Int := if n < 128 then n else n - 256
def rdT (ps : List Ply) (cs : List Crd) (zs : List (List Int)) : Rdr Stt := bnd sg4 fun a => bnd num1 fun b => bnd num1 fun c => bnd num1 fun d => ret ⟨ps, cs, zs, a, b, i8 c, d⟩
def rdM : Rdr Unit := bnd (mkb 84) fun _ => bnd (mkb 66) fun _ => bnd (mkb 76) fun _ => bnd (mkb 83) fun _ => mkb 1
def rdS : Rdr Stt := bnd rdM fun _ => bnd num1 fun n => bnd (rep rdP n.toNat) fun ps => bnd num2 fun m => bnd (rep rdC m.toNat) fun cs => bnd (rep rdZ (4 * n.toNat)) fun zs => rdT ps cs zs

structure Gd {α : Type} (p : Rdr α) (e : α → List Int) (O Q : α → Prop) : Prop where
  oq : ∀ x, O x → Q x
  there : ∀ x, O x → ∀ l, p (e x ++ l) = .ok (x, l)
  cut : ∀ x, O x → ∀ k, k < (e x).length → ∃ r, p ((e x).take k) = .error r ∧ r ≤ 3
  back : ∀ l, Byt l → ∀ x l', p l = .ok (x, l') → l = e x ++ l' ∧ Q x
structure Ls {α : Type} (p : Rdr α) : Prop where
  err : ∀ l r, p l = .error r → r ≤ l.length
  ok : ∀ l x l', p l = .ok (x, l') → l'.length ≤ l.length
theorem bnd_ok {α β : Type} {p : Rdr α} {f : α → Rdr β} {l l' : List Int} {y : β} (h : bnd p f l = .ok (y, l')) : ∃ x l1, p l = .ok (x, l1) ∧ f x l1 = .ok (y, l') := by
  unfold bnd at h
  cases hp : p l with
  | error r => rw [hp] at h; cases h
  | ok v => rw [hp] at h; exact ⟨v.1, v.2, rfl, h⟩
theorem bnd_go {α β : Type} {p : Rdr α} {f : α → Rdr β} {l l1 : List Int} {x : α} (h : p l = .ok (x, l1)) : bnd p f l = f x l1 := by
  unfold bnd; rw [h]
theorem bnd_no {α β : Type} {p : Rdr α} {f : α → Rdr β} {l : List Int} {r : Nat} (h : p l = .error r) : bnd p f l = .error r := by
  unfold bnd; rw [h]
theorem Ls.bnd {α β : Type} {p : Rdr α} {f : α → Rdr β} (hp : Ls p) (hf : ∀ x, Ls (f x)) : Ls (bnd p f) := by
  constructor
  · intro l r h
    cases hq : p l with
    | error r' => rw [bnd_no hq] at h; cases h; exact hp.err l r hq
    | ok v =>
      obtain ⟨x, l1⟩ := v
      rw [bnd_go hq] at h
      exact Nat.le_trans ((hf x).err l1 r h) (hp.ok l x l1 hq)
  · intro l y l' h
    obtain ⟨x, l1, h1, h2⟩ := bnd_ok h
    exact Nat.le_trans ((hf x).ok l1 y l' h2) (hp.ok l x l1 h1)
theorem Ls.ret {α : Type} (x : α) : Ls (ret x) := ⟨fun l r h => (by cases h), fun l y l' h => by cases h; exact Nat.le_refl _⟩
theorem Ls.rep {α : Type} {p : Rdr α} (hp : Ls p) : ∀ n, Ls (rep p n)
  | 0 => Ls.ret _
  | n + 1 => hp.bnd fun _ => (Ls.rep hp n).bnd fun _ => Ls.ret _
theorem Gd.bnd {α β : Type} {p : Rdr α} {f : α → Rdr β} {e : α → List Int} {O Q : α → Prop} {e' : α → β → List Int} {O' Q' : α → β → Prop} (hp : Gd p e O Q) (h : β → α) (hf : ∀ x, Q x → Gd (f x) (e' x) (O' x) (Q' x)) (hh : ∀ x y, Q x → Q' x y → h y = x) :
    Gd (bnd p f) (fun y => e (h y) ++ e' (h y) y) (fun y => O (h y) ∧ O' (h y) y) (fun y => Q (h y) ∧ Q' (h y) y) := by
  constructor
  · exact fun y ⟨h1, h2⟩ => ⟨hp.oq _ h1, (hf _ (hp.oq _ h1)).oq _ h2⟩
  · intro y ⟨h1, h2⟩ l
    rw [List.append_assoc, bnd_go (hp.there _ h1 _)]
    exact (hf _ (hp.oq _ h1)).there _ h2 _
  · intro y ⟨h1, h2⟩ k hk
    rw [List.length_append] at hk
    rw [List.take_append]
    by_cases hc : k < (e (h y)).length
    · obtain ⟨r, hr, hr3⟩ := hp.cut _ h1 k hc
      rw [show k - (e (h y)).length = 0 by omega, List.take_zero, List.append_nil]
      exact ⟨r, bnd_no hr, hr3⟩
    · rw [List.take_of_length_le (by omega), bnd_go (hp.there _ h1 _)]
      exact (hf _ (hp.oq _ h1)).cut _ h2 _ (by omega)
  · intro l hl y l' hy
    obtain ⟨x, l1, h1, h2⟩ := bnd_ok hy
    obtain ⟨e1, q1⟩ := hp.back l hl x l1 h1
    rw [e1] at hl
    obtain ⟨e2, q2⟩ := (hf x q1).back l1 hl.right y l' h2
    have := hh x y q1 q2
    rw [this, List.append_assoc, ← e2]
    exact ⟨e1, q1, q2⟩
theorem Gd.ret {α : Type} (x : α) : Gd (ret x) (fun _ => []) (fun y => y = x) (fun y => y = x) := by
  constructor
  · exact fun _ h => h
  · rintro y rfl l; rfl
  · intro y _ k hk; exact absurd hk (Nat.not_lt_zero k)
  · intro l _ y l' h; cases h; exact ⟨rfl, rfl⟩
theorem Gd.last {α β : Type} {p : Rdr α} {e : α → List Int} {O Q : α → Prop} (hp : Gd p e O Q) (k : α → β) (h : β → α) (hk : ∀ x, h (k x) = x) :
    Gd (IM.bnd p fun x => IM.ret (k x)) (fun y => e (h y)) (fun y => O (h y) ∧ y = k (h y)) (fun y => Q (h y) ∧ y = k (h y)) := by
  constructor
  · exact fun y h => ⟨hp.oq _ h.1, h.2⟩
  · intro y ⟨h1, h2⟩ l
    rw [bnd_go (hp.there _ h1 _), ← h2]
    rfl
  · intro y ⟨h1, h2⟩ n hn
    obtain ⟨r, hr, hr3⟩ := hp.cut _ h1 n hn
    exact ⟨r, bnd_no hr, hr3⟩
  · intro l hl y l' hy
    obtain ⟨x, l1, h1, h2⟩ := bnd_ok hy
    obtain ⟨e1, q1⟩ := hp.back l hl x l1 h1
    cases h2
    rw [hk x]
    exact ⟨e1, q1, rfl⟩
theorem Gd.as {α : Type} {p : Rdr α} {e e' : α → List Int} {O Q O' Q' : α → Prop} (h : Gd p e O Q) (he : ∀ x, Q x → e x = e' x) (hO : ∀ x, O' x → O x) (hQ : ∀ x, Q x → Q' x) : Gd p e' O' Q' := by
  constructor
  · exact fun x hx => hQ x (h.oq x (hO x hx))
  · intro x hx l; rw [← he x (h.oq x (hO x hx))]; exact h.there x (hO x hx) l
  · intro x hx k hk
    rw [← he x (h.oq x (hO x hx))] at hk ⊢
    exact h.cut x (hO x hx) k hk
  · intro l hl x l' hx
    obtain ⟨h1, h2⟩ := h.back l hl x l' hx
    exact ⟨by rw [← he x h2]; exact h1, hQ x h2⟩
theorem Gd.rep {α : Type} {p : Rdr α} {e : α → List Int} {O Q : α → Prop} (hp : Gd p e O Q) : ∀ n, Gd (rep p n) (fun l => l.flatMap e) (fun l => l.length = n ∧ ∀ x ∈ l, O x) (fun l => l.length = n ∧ ∀ x ∈ l, Q x)
  | 0 => (Gd.ret (α := List α) []).as (fun x hx => by subst hx; rfl) (fun x hx => List.length_eq_zero_iff.1 hx.1) (fun x hx => by subst hx; exact ⟨rfl, fun x hx => absurd hx List.not_mem_nil⟩)
  | n + 1 => by
    constructor
    · exact fun l h => ⟨h.1, fun x hx => hp.oq x (h.2 x hx)⟩
    · intro l ⟨h1, h2⟩ l2
      match l, h1, h2 with
      | x :: xs, h1, h2 =>
        simp only [IM.rep, List.flatMap_cons, List.append_assoc]
        rw [bnd_go (hp.there x (h2 x (List.mem_cons_self)) _), bnd_go ((Gd.rep hp n).there xs ⟨by simpa using h1, fun y hy => h2 y (List.mem_cons_of_mem _ hy)⟩ _)]
        rfl
    · intro l ⟨h1, h2⟩ k hk
      match l, h1, h2, hk with
      | x :: xs, h1, h2, hk =>
        rw [List.flatMap_cons, List.length_append] at hk
        rw [List.flatMap_cons, List.take_append]
        have hx := h2 x (List.mem_cons_self)
        by_cases hc : k < (e x).length
        · obtain ⟨r, hr, hr3⟩ := hp.cut _ hx k hc
          rw [show k - (e x).length = 0 by omega, List.take_zero, List.append_nil]
          exact ⟨r, bnd_no hr, hr3⟩
        · rw [List.take_of_length_le (by omega)]
          obtain ⟨r, hr, hr3⟩ := (Gd.rep hp n).cut xs ⟨by simpa using h1, fun y hy => h2 y (List.mem_cons_of_mem _ hy)⟩ (k - (e x).length) (by omega)
          refine ⟨r, ?_, hr3⟩
          simp only [IM.rep]
          rw [bnd_go (hp.there x hx _)]
          exact bnd_no hr
    · intro l hl y l' hy
      simp only [IM.rep] at hy
      obtain ⟨x, l1, h1, h2⟩ := bnd_ok hy
      obtain ⟨e1, q1⟩ := hp.back l hl x l1 h1
      rw [e1] at hl
      obtain ⟨xs, l2, h3, h4⟩ := bnd_ok h2
      obtain ⟨e2, q2, q3⟩ := (Gd.rep hp n).back l1 hl.right xs l2 h3
      cases h4
      refine ⟨by rw [List.flatMap_cons, List.append_assoc, ← e2]; exact e1, by simp [q2], fun z hz => ?_⟩
      rcases List.mem_cons.1 hz with rfl | hz
      · exact q1
      · exact q3 z hz
/- the numbers -/
def R1 (n : Int) : Prop := 0 ≤ n ∧ n < 256
def R2 (n : Int) : Prop := 0 ≤ n ∧ n < 65536
def R4 (n : Int) : Prop := -2147483648 ≤ n ∧ n < 2147483648
theorem g1 : Gd num1 by1 R1 R1 := by
  constructor
  · exact fun _ h => h
  · intro x h l
    show Except.ok (x % 256, l) = _
    rw [Int.emod_eq_of_lt h.1 h.2]
  · intro x _ k hk
    simp only [by1, List.length_singleton] at hk
    obtain rfl : k = 0 := by omega
    exact ⟨0, rfl, by omega⟩
  · intro l hl x l' h
    match l, hl, h with
    | a :: l, hl, h =>
      cases h
      have ha := hl x List.mem_cons_self
      refine ⟨?_, ha⟩
      show _ = [x % 256] ++ _
      rw [Int.emod_eq_of_lt ha.1 ha.2]; rfl
theorem g2 : Gd num2 by2 R2 R2 := by
  constructor
  · exact fun _ h => h
  · intro x ⟨h1, h2⟩ l
    show Except.ok (256 * (x / 256 % 256) + x % 256, l) = _
    rw [show 256 * (x / 256 % 256) + x % 256 = x by omega]
  · intro x _ k hk
    simp only [by2, List.length_cons, List.length_nil] at hk
    match k, hk with
    | 0, _ => exact ⟨0, rfl, by omega⟩
    | 1, _ => exact ⟨1, rfl, by omega⟩
  · intro l hl x l' h
    match l, hl, h with
    | a :: b :: l, hl, h =>
      cases h
      have ha := hl a List.mem_cons_self
      have hb := hl b (List.mem_cons_of_mem _ List.mem_cons_self)
      refine ⟨?_, by constructor <;> omega⟩
      show _ = [_, _] ++ _
      rw [show (256 * a + b) / 256 % 256 = a by omega, show (256 * a + b) % 256 = b by omega]; rfl
theorem g4 : Gd sg4 by4 R4 R4 := by
  constructor
  · exact fun _ h => h
  · intro x ⟨h1, h2⟩ l
    show Except.ok (sg (16777216 * (x / 16777216 % 256) + 65536 * (x / 65536 % 256) + 256 * (x / 256 % 256) + x % 256), l) = _
    rw [show sg (16777216 * (x / 16777216 % 256) + 65536 * (x / 65536 % 256) + 256 * (x / 256 % 256) + x % 256) = x by unfold sg; split <;> omega]
  · intro x _ k hk
    simp only [by4, List.length_cons, List.length_nil] at hk
    match k, hk with
    | 0, _ => exact ⟨0, rfl, by omega⟩
    | 1, _ => exact ⟨1, rfl, by omega⟩
    | 2, _ => exact ⟨2, rfl, by omega⟩
    | 3, _ => exact ⟨3, rfl, by omega⟩
  · intro l hl x l' h
    match l, hl, h with
    | a :: b :: c :: d :: l, hl, h =>
      cases h
      have ha := hl a (by simp)
      have hb := hl b (by simp)
      have hc := hl c (by simp)
      have hd := hl d (by simp)
      obtain ⟨n, hn⟩ : ∃ n, n = 16777216 * a + 65536 * b + 256 * c + d := ⟨_, rfl⟩
      rw [← hn]
      refine ⟨?_, by unfold sg; constructor <;> split <;> omega⟩
      show _ = [_, _, _, _] ++ _
      rw [show sg n / 16777216 % 256 = a by unfold sg; split <;> omega, show sg n / 65536 % 256 = b by unfold sg; split <;> omega, show sg n / 256 % 256 = c by unfold sg; split <;> omega, show sg n % 256 = d by unfold sg; split <;> omega]; rfl
theorem gf : Gd flag (fun b => by1 (oneI b)) (fun _ => True) (fun _ => True) := by
  constructor
  · exact fun _ h => h
  · intro x _ l
    cases x <;> rfl
  · intro x _ k hk
    simp only [by1, List.length_singleton] at hk
    obtain rfl : k = 0 := by omega
    exact ⟨0, rfl, by omega⟩
  · intro l hl x l' h
    match l, hl, h with
    | a :: l, hl, h =>
      have ha := hl a List.mem_cons_self
      simp only [flag] at h
      split at h
      · cases h
      · cases h
        refine ⟨?_, trivial⟩
        rcases (show a = 0 ∨ a = 1 by omega) with rfl | rfl <;> rfl
theorem gm (c : Int) : Gd (mkb c) (fun _ => [c]) (fun _ => True) (fun _ => True) := by
  constructor
  · exact fun _ h => h
  · intro x _ l
    cases x
    show (if c = c then _ else _) = _
    rw [if_pos rfl]
    rfl
  · intro x _ k hk
    simp only [List.length_singleton] at hk
    obtain rfl : k = 0 := by omega
    exact ⟨0, rfl, by omega⟩
  · intro l _ x l' h
    match l, h with
    | a :: l, h =>
      simp only [mkb] at h
      split at h
      · rename_i ha; cases h; rw [ha]; exact ⟨rfl, trivial⟩
      · cases h
theorem l1 : Ls num1 := ⟨fun l r h => by unfold num1 at h; split at h <;> cases h; exact Nat.le_refl _, fun l x l' h => by unfold num1 at h; split at h <;> cases h; simp⟩
theorem l2 : Ls num2 := ⟨fun l r h => by unfold num2 at h; split at h <;> cases h; exact Nat.le_refl _, fun l x l' h => by unfold num2 at h; split at h <;> cases h; simp; omega⟩
theorem l4 : Ls sg4 := ⟨fun l r h => by unfold sg4 at h; split at h <;> cases h; exact Nat.le_refl _, fun l x l' h => by unfold sg4 at h; split at h <;> cases h; simp; omega⟩
theorem lf : Ls flag := ⟨fun l r h => by
  unfold flag at h
  split at h
  · split at h <;> cases h; simp
  · cases h; simp, fun l x l' h => by
  unfold flag at h
  split at h
  · split at h <;> cases h; simp
  · cases h⟩
theorem lm (c : Int) : Ls (mkb c) := ⟨fun l r h => by
  unfold mkb at h
  split at h
  · split at h <;> cases h; simp
  · cases h; simp, fun l x l' h => by
  unfold mkb at h
  split at h
  · split at h <;> cases h; simp
  · cases h⟩
/- players, cards, zones, the rest, all -/
def RP (p : Ply) : Prop := R4 p.life ∧ R4 p.energy
def RC (c : Crd) : Prop := R2 c.kind ∧ R1 c.owner ∧ R4 c.power ∧ R4 c.health ∧ R4 c.damage ∧ R4 c.marks
def RZ (z : List Int) : Prop := z.length < 65536 ∧ ∀ x ∈ z, R2 x
theorem gp : Gd rdP plyI RP RP :=
  (g4.bnd (h := Ply.life) (fun a _ => g4.bnd (h := Ply.energy) (fun b _ => gf.last (fun c => (⟨a, b, c⟩ : Ply)) Ply.out (fun _ => rfl)) (fun x y _ h => by rw [h.2])) (fun x y _ h => by rw [h.2.2])).as
    (fun x _ => by simp [plyI]) (fun x h => ⟨h.1, h.2, trivial, rfl⟩) (fun x h => ⟨h.1, h.2.1⟩)
theorem lp : Ls rdP := l4.bnd fun _ => l4.bnd fun _ => lf.bnd fun _ => Ls.ret _
theorem gc : Gd rdC crdI RC RC :=
  (g2.bnd (h := Crd.kind) (fun a _ => g1.bnd (h := Crd.owner) (fun b _ => g4.bnd (h := Crd.power) (fun c _ => g4.bnd (h := Crd.health) (fun d _ => g4.bnd (h := Crd.damage) (fun e _ => g4.last (fun f => (⟨a, b, c, d, e, f⟩ : Crd)) Crd.marks (fun _ => rfl))
    (fun x y _ h => by rw [h.2])) (fun x y _ h => by rw [h.2.2])) (fun x y _ h => by rw [h.2.2.2])) (fun x y _ h => by rw [h.2.2.2.2])) (fun x y _ h => by rw [h.2.2.2.2.2])).as
    (fun x _ => by simp [crdI]) (fun x h => ⟨h.1, h.2.1, h.2.2.1, h.2.2.2.1, h.2.2.2.2.1, h.2.2.2.2.2, rfl⟩) (fun x h => ⟨h.1, h.2.1, h.2.2.1, h.2.2.2.1, h.2.2.2.2.1, h.2.2.2.2.2.1⟩)
theorem lc : Ls rdC := l2.bnd fun _ => l1.bnd fun _ => l4.bnd fun _ => l4.bnd fun _ => l4.bnd fun _ => l4.bnd fun _ => Ls.ret _
theorem gz : Gd rdZ zonI RZ RZ :=
  (g2.bnd (h := fun z : List Int => (z.length : Int)) (fun n _ => g2.rep n.toNat) (fun x y hx h => by have h1 := h.1; have h2 := hx.1; omega)).as
    (fun x _ => rfl) (fun x h => ⟨⟨by omega, by have := h.1; omega⟩, by simp, h.2⟩) (fun x h => ⟨by have := h.1.2; omega, h.2.2⟩)
theorem lz : Ls rdZ := l2.bnd fun _ => l2.rep _
end IM
end Go.Proofs.YtmpamcdobhiipaaGreatDoor
/-
  States as bytes, no program: the whole state.
-/
namespace Go.Proofs.YtmpamcdobhiipaaGreatDoor
namespace IM
def RF (n : Int) : Prop := -128 ≤ n ∧ n < 128
/- each number of the state fits its bytes -/
structure RS (s : Stt) : Prop where
  nps : s.ps.length < 256
  ps : ∀ p ∈ s.ps, RP p
  ncs : s.cs.length < 65536
  cs : ∀ c ∈ s.cs, RC c
  nzs : s.zs.length = 4 * s.ps.length
  zs : ∀ z ∈ s.zs, RZ z
  turn : R4 s.turn
  whose : R1 s.whose
  fin : RF s.fin
  winner : R1 s.winner
theorem gM : Gd rdM (fun _ => mk) (fun _ => True) (fun _ => True) :=
  ((gm 84).bnd (h := fun _ => ()) (fun _ _ => (gm 66).bnd (h := fun _ => ()) (fun _ _ => (gm 76).bnd (h := fun _ => ()) (fun _ _ => (gm 83).bnd (h := fun _ => ()) (fun _ _ => gm 1) (fun _ _ _ _ => rfl)) (fun _ _ _ _ => rfl)) (fun _ _ _ _ => rfl)) (fun _ _ _ _ => rfl)).as
    (fun _ _ => rfl) (fun _ _ => ⟨trivial, trivial, trivial, trivial, trivial⟩) (fun _ _ => trivial)
theorem lM : Ls rdM := (lm 84).bnd fun _ => (lm 66).bnd fun _ => (lm 76).bnd fun _ => (lm 83).bnd fun _ => lm 1
theorem i8_back {c : Int} (h : R1 c) : (i8 c) % 256 = c := by
  obtain ⟨h1, h2⟩ := h
  unfold i8; split <;> omega
theorem i8_there {c : Int} (h : RF c) : i8 (c % 256) = c := by
  obtain ⟨h1, h2⟩ := h
  unfold i8; split <;> omega
theorem i8_in {c : Int} (h : R1 c) : RF (i8 c) := by
  obtain ⟨h1, h2⟩ := h
  unfold i8; constructor <;> split <;> omega
theorem gT (ps : List Ply) (cs : List Crd) (zs : List (List Int)) : Gd (rdT ps cs zs) (fun s => by4 s.turn ++ (by1 s.whose ++ (by1 s.fin ++ by1 s.winner)))
    (fun s => (s.ps = ps ∧ s.cs = cs ∧ s.zs = zs) ∧ R4 s.turn ∧ R1 s.whose ∧ RF s.fin ∧ R1 s.winner) (fun s => (s.ps = ps ∧ s.cs = cs ∧ s.zs = zs) ∧ R4 s.turn ∧ R1 s.whose ∧ RF s.fin ∧ R1 s.winner) :=
  (g4.bnd (h := Stt.turn) (fun a _ => g1.bnd (h := Stt.whose) (fun b _ => g1.bnd (h := fun s : Stt => s.fin % 256) (Q' := fun c s => R1 s.winner ∧ s = (⟨ps, cs, zs, a, b, i8 c, s.winner⟩ : Stt)) (fun c _ => g1.last (fun d => (⟨ps, cs, zs, a, b, i8 c, d⟩ : Stt)) Stt.winner (fun _ => rfl)) (fun x y hx h => by rw [h.2]; exact i8_back hx)) (fun x y _ h => by rw [h.2.2])) (fun x y _ h => by rw [h.2.2.2])).as
    (fun x _ => by show _ ++ (_ ++ (by1 (x.fin % 256) ++ _)) = _; rw [show by1 (x.fin % 256) = by1 x.fin by unfold by1; rw [Int.emod_emod_of_dvd _ (Int.dvd_refl 256)]])
    (fun x h => ⟨h.2.1, h.2.2.1, ⟨by omega, by omega⟩, h.2.2.2.2, by
      obtain ⟨⟨rfl, rfl, rfl⟩, -, -, hf, -⟩ := h
      rw [i8_there hf]⟩)
    (fun x h => ⟨by rw [h.2.2.2.2]; exact ⟨rfl, rfl, rfl⟩, h.1, h.2.1, by rw [h.2.2.2.2]; exact i8_in h.2.2.1, h.2.2.2.1⟩)
theorem lT (ps : List Ply) (cs : List Crd) (zs : List (List Int)) : Ls (rdT ps cs zs) := l4.bnd fun _ => l1.bnd fun _ => l1.bnd fun _ => l1.bnd fun _ => Ls.ret _
theorem gS : Gd rdS img RS RS :=
  (gM.bnd (h := fun _ => ()) (fun _ _ => g1.bnd (h := fun s : Stt => (s.ps.length : Int)) (fun n _ => (gp.rep n.toNat).bnd (h := Stt.ps) (fun ps _ => g2.bnd (h := fun s : Stt => (s.cs.length : Int)) (fun m _ => (gc.rep m.toNat).bnd (h := Stt.cs) (fun cs _ => (gz.rep (4 * n.toNat)).bnd (h := Stt.zs) (fun zs _ => gT ps cs zs)
      (fun x y _ h => h.1.2.2)) (fun x y _ h => h.2.1.2.1)) (fun x y hx h => by have h1 := h.1.1; have h2 := hx.1; omega)) (fun x y _ h => h.2.2.2.1.1)) (fun x y hx h => by have h1 := h.1.1; have h2 := hx.1; omega)) (fun _ _ _ _ => rfl)).as
    (fun x _ => rfl)
    (fun x h => ⟨trivial, ⟨by omega, by have := h.nps; omega⟩, ⟨by simp, h.ps⟩, ⟨by omega, by have := h.ncs; omega⟩, ⟨by simp, h.cs⟩, ⟨by have := h.nzs; simpa using this, h.zs⟩, ⟨rfl, rfl, rfl⟩, h.turn, h.whose, h.fin, h.winner⟩)
    (fun x h => by
      obtain ⟨-, h1, ⟨-, h2⟩, h3, ⟨-, h4⟩, ⟨h5, h6⟩, -, h7, h8, h9, h10⟩ := h
      exact ⟨by have := h1.2; omega, h2, by have := h3.2; omega, h4, by simpa using h5, h6, h7, h8, h9, h10⟩)
theorem lS : Ls rdS := lM.bnd fun _ => l1.bnd fun _ => (lp.rep _).bnd fun _ => l2.bnd fun _ => (lc.rep _).bnd fun _ => (lz.rep _).bnd fun _ => lT _ _ _
/- a state that may be fits -/
open Go.Proofs.YtmpamcdobhiipaaGreatDoor.ST in
theorem rs_of {s : Stt} (h : ff s = none) (ht : R4 s.turn) : RS s := by
  obtain ⟨⟨a1, a2, a3, -, a5, a6, a7⟩, ⟨-, e2⟩, hl⟩ := (ff_none s).1 h
  have stat : ∀ x, statB x = true → R4 x := fun x hx => by
    simp only [statB, Bool.and_eq_true, decide_eq_true_eq] at hx
    exact ⟨by omega, by omega⟩
  simp only [sizesB, npB, ncB, Bool.and_eq_true, decide_eq_true_eq] at a1
  simp only [numB, Bool.and_eq_true, decide_eq_true_eq] at a5
  refine ⟨by omega, fun p hp => ?_, by omega, fun c hc => ?_, by omega, fun z hz => ⟨?_, fun x hx => ?_⟩, ht, ⟨by omega, by omega⟩, ?_, ?_⟩
  · have := a2 p hp
    simp only [plyB, Bool.and_eq_true] at this
    exact ⟨stat _ this.1, stat _ this.2⟩
  · have := a3 c hc
    simp only [crdB, crd0B, Bool.and_eq_true] at this
    obtain ⟨⟨⟨⟨⟨b1, b2⟩, b3⟩, b4⟩, b5⟩, b6⟩ := this
    simp only [numB, Bool.and_eq_true, decide_eq_true_eq] at b1 b6
    exact ⟨⟨b1.1, by omega⟩, ⟨b6.1, by omega⟩, stat _ b2, stat _ b3, stat _ b4, stat _ b5⟩
  · have h4 : z.length ≤ (flat s).length := by
      unfold flat
      exact (List.sublist_flatten_of_mem hz).length_le
    omega
  · have := e2 x (by unfold flat; exact List.mem_flatten.2 ⟨z, hz, hx⟩)
    simp only [numB, Bool.and_eq_true, decide_eq_true_eq] at this
    exact ⟨this.1, by omega⟩
  · simp only [finB, Bool.or_eq_true, decide_eq_true_eq] at a6
    exact ⟨by omega, by omega⟩
  · unfold winB at a7
    split at a7
    · simp only [numB, Bool.and_eq_true, decide_eq_true_eq] at a7
      exact ⟨by omega, by omega⟩
    · have : s.winner = 0 := of_decide_eq_true a7
      exact ⟨by omega, by omega⟩
/- what is read of bytes: the state, or how much is left where the fault is -/
def decR (B : List Int) : Except Nat Stt := match rdS B with
  | .error r => .error r
  | .ok (s, []) => .ok s
  | .ok (_, l) => .error l.length
theorem dec_img {s : Stt} (h : RS s) : decR (img s) = .ok s := by
  have := gS.there s h []
  rw [List.append_nil] at this
  unfold decR
  rw [this]
theorem dec_more {s : Stt} (h : RS s) (l : List Int) (hl : l ≠ []) : decR (img s ++ l) = .error l.length := by
  unfold decR
  rw [gS.there s h l]
  cases l with
  | nil => exact absurd rfl hl
  | cons a l => rfl
theorem dec_cut {s : Stt} (h : RS s) (k : Nat) (hk : k < (img s).length) : ∃ r, decR ((img s).take k) = .error r ∧ r ≤ 3 := by
  obtain ⟨r, hr, h3⟩ := gS.cut s h k hk
  refine ⟨r, ?_, h3⟩
  unfold decR
  rw [hr]
theorem dec_back {B : List Int} (hB : Byt B) {s : Stt} (h : decR B = .ok s) : img s = B ∧ RS s := by
  unfold decR at h
  split at h
  · cases h
  · rename_i s' hs
    cases h
    obtain ⟨h1, h2⟩ := gS.back B hB s [] hs
    exact ⟨by rw [h1, List.append_nil], h2⟩
  · cases h
theorem dec_err {B : List Int} {r : Nat} (h : decR B = .error r) : r ≤ B.length := by
  unfold decR at h
  split at h
  · rename_i hs
    cases h
    exact lS.err B r hs
  · cases h
  · rename_i s' l _ hs
    cases h
    exact lS.ok B s' l hs
/- two states are the same just if their images are -/
theorem img_inj {s t : Stt} (hs : RS s) (ht : RS t) (h : img s = img t) : s = t := by
  have h1 := dec_img hs
  rw [h, dec_img ht] at h1
  cases h1
  rfl
end IM
end Go.Proofs.YtmpamcdobhiipaaGreatDoor
/-
  A region that draws its order: its first operation may be a copy that may come up at any time, the others up to the n-th are quiet, and those from the n-th on wait for them, one behind the other: one walk of the lexical order, and the tail behind it.
-/
namespace Go.Proofs.YtmpamcdobhiipaaGreatDoor
open Go

namespace TailR
section
variable {P : Program} {ops : Array Oper} {md : Region.Mode} {C : World → Prop}
def edgeB (md : Region.Mode) (ops : Array Oper) (j i : Nat) : Bool := ((ops[j]?).map fun o => o.after.any fun e => Region.binds md e && e.on == i).getD false
def depsP (md : Region.Mode) (ops : Array Oper) (listed : Array Bool) (j : Nat) : Prop := ∀ o, ops[j]? = some o → ∀ e ∈ o.after, Region.binds md e = true → listed.getD e.on false = true
def closedP (md : Region.Mode) (ops : Array Oper) (listed : Array Bool) : Prop := ∀ j, listed.getD j false = true → depsP md ops listed j
theorem edge_listed {listed : Array Bool} {j i : Nat} (h : depsP md ops listed j) (he : edgeB md ops j i = true) : listed.getD i false = true := by
  unfold edgeB at he
  cases ho : ops[j]? with
  | none => rw [ho] at he; cases he
  | some o =>
    rw [ho] at he
    simp only [Option.map_some, Option.getD_some] at he
    obtain ⟨e, he, hb⟩ := Array.any_eq_true'.1 he
    simp only [Bool.and_eq_true, beq_iff_eq] at hb
    have := h o ho e he hb.1
    rw [hb.2] at this
    exact this
theorem closed_set {listed : Array Bool} {i : Nat} (h : closedP md ops listed) (hr : i ∈ Region.ready md ops listed) : closedP md ops (listed.setIfInBounds i true) := by
  intro j hj o ho e he hb
  by_cases hji : i = j
  · subst hji
    obtain ⟨_, o', ho', hall⟩ := mem_ready.1 hr
    rw [ho] at ho'
    cases ho'
    exact getD_set_true (hall e he hb)
  · rw [getD_set_ne false hji] at hj
    exact getD_set_true (h j hj o ho e he hb)
def waitsB (md : Region.Mode) (ops : Array Oper) (k0 n : Nat) : Bool := ((List.range n).all fun i => decide (i < k0) || (List.range (n + 1)).any fun j => decide (i < j) && edgeB md ops j i) && (List.range ops.size).all fun t => decide (t ≤ n) || edgeB md ops t (t - 1)
theorem down {k0 n : Nat} (hW : waitsB md ops k0 n = true) {listed : Array Bool} (hc : closedP md ops listed) (hd : depsP md ops listed n) : ∀ d i, n - i ≤ d → k0 ≤ i → i < n → listed.getD i false = true := by
  simp only [waitsB, Bool.and_eq_true] at hW
  intro d
  induction d with
  | zero => intro i h1 h2 h3; omega
  | succ d ih =>
    intro i h1 h2 h3
    have h4 := List.all_eq_true.1 hW.1 i (List.mem_range.2 h3)
    simp only [Bool.or_eq_true, decide_eq_true_eq] at h4
    rcases h4 with h4 | h4
    · omega
    · obtain ⟨j, hj, h5⟩ := List.any_eq_true.1 h4
      simp only [Bool.and_eq_true, decide_eq_true_eq] at h5
      rw [List.mem_range] at hj
      by_cases e : j = n
      · subst e; exact edge_listed hd h5.2
      · exact edge_listed (hc j (ih j (by omega) (by omega) (by omega))) h5.2
theorem tail_down {k0 n : Nat} (hW : waitsB md ops k0 n = true) {listed : Array Bool} (hc : closedP md ops listed) : ∀ d t, t = n + d → t < ops.size → depsP md ops listed t → depsP md ops listed n := by
  intro d
  induction d with
  | zero => intro t h1 _ h2; rw [h1] at h2; exact h2
  | succ d ih =>
    intro t h1 h2 h3
    simp only [waitsB, Bool.and_eq_true] at hW
    have h4 := List.all_eq_true.1 hW.2 t (List.mem_range.2 h2)
    simp only [Bool.or_eq_true, decide_eq_true_eq] at h4
    rcases h4 with h4 | h4
    · omega
    · exact ih (t - 1) (by omega) (by omega) (hc (t - 1) (edge_listed h3 h4))
/- while one of the quiet ones is not listed, none of the tail may come up -/
theorem no_tail {k0 n : Nat} (hW : waitsB md ops k0 n = true) {listed : Array Bool} (hc : closedP md ops listed) (h0 : ∀ k, k < k0 → listed.getD k true = true) {i j : Nat} (hi : i ∈ Region.ready md ops listed) (hin : i < n) (hj : j ∈ Region.ready md ops listed) : j < n := by
  rcases Nat.lt_or_ge j n with h | h
  · exact h
  · exfalso
    obtain ⟨_, o, ho, hall⟩ := mem_ready.1 hj
    have hlt : j < ops.size := (Array.getElem?_eq_some_iff.1 ho).1
    have hd : depsP md ops listed j := fun o' ho' e he hb => by
      rw [ho] at ho'
      cases ho'
      exact hall e he hb
    have hdn := tail_down hW hc (j - n) j (by omega) hlt hd
    have hun := (mem_ready.1 hi).1
    by_cases e : i < k0
    · rw [h0 i e] at hun; cases hun
    · have := down hW hc hdn (n - i) i (Nat.le_refl _) (by omega) hin
      rcases Nat.lt_or_ge i listed.size with h' | h'
      · simp [h'] at this hun; rw [this] at hun; cases hun
      · simp [Array.getElem?_eq_none h'] at this
def wpAnyU (P : Program) (md : Region.Mode) (ops : Array Oper) (n : Nat) (C : World → Prop) (R : Array Bool → Act → Prop) : Nat → Array Bool → Act → Prop
  | 0, listed, a => (∀ i ∈ Region.ready md ops listed, n ≤ i) ∧ R listed a
  | fuel + 1, listed, a => (∃ i, i ∈ Region.ready md ops listed ∧ i < n) ∧ ∀ i ∈ Region.ready md ops listed, i < n → qOp P ops C i (wpAnyU P md ops n C R fuel (listed.setIfInBounds i true)) a
theorem wpAnyU_first {n : Nat} {R : Array Bool → Act → Prop} {i : Nat} (hin : i < n) {oi : Oper} {v : Value} (hi : ops[i]? = some oi) (hsel : ∀ (j : Nat) (o : Oper) cs b, ops[j]? = some o → o.op ≠ .select cs b) :
    ∀ (fuel : Nat) (listed : Array Bool) (a : Act),
      (∀ j oj, ops[j]? = some oj → j ≠ i → listed.getD j true = false → (∀ e ∈ oj.after, Region.binds md e = true → e.on ≠ i) → oi.apart ops oj = true) →
      i ∈ Region.ready md ops listed → YieldsIn P ops C oi v a →
      wpAnyU P md ops n C R fuel (listed.setIfInBounds i true) (a.put oi.dst v) → wpAnyU P md ops n C R (fuel + 1) listed a := by
  intro fuel
  induction fuel with
  | zero =>
    intro listed a _ hr hy H
    refine ⟨⟨i, hr, hin⟩, fun j hj hjn => ?_⟩
    by_cases hji : j = i
    · subst hji; exact hy.qOp hi H
    · have := H.1 j (ready_mono hj hji)
      omega
  | succ fuel ih =>
    intro listed a hfree hr hy H
    refine ⟨⟨i, hr, hin⟩, fun j hj hjn => ?_⟩
    by_cases hji : j = i
    · subst hji; exact hy.qOp hi H
    · have h1 := H.2 j (ready_mono hj hji) hjn
      obtain ⟨hjun, oj, hoj, hall⟩ := mem_ready.1 hj
      have hnot : ∀ e ∈ oj.after, Region.binds md e = true → e.on ≠ i := fun e he hb heq => by
        have h1 := hall e he hb
        have h0 := (mem_ready.1 hr).1
        rw [heq] at h1
        rcases Nat.lt_or_ge i listed.size with h' | h'
        · simp [h'] at h0 h1; rw [h0] at h1; cases h1
        · simp [Array.getElem?_eq_none h'] at h1
      have h2 := qOp_put hoj (hfree j oj hoj hji hjun hnot) (fun cs b => hsel i oi cs b hi) (fun cs b => hsel j oj cs b hoj) hy h1
      have hfree' : ∀ k ok, ops[k]? = some ok → k ≠ i → (listed.setIfInBounds j true).getD k true = false →
          (∀ e ∈ ok.after, Region.binds md e = true → e.on ≠ i) → oi.apart ops ok = true := fun k ok hk hki hun hno => by
        refine hfree k ok hk hki ?_ hno
        by_cases hjk : j = k
        · subst hjk; exact hjun
        · rw [getD_set_ne true hjk] at hun; exact hun
      refine qOp_mono (fun a' h3 => ih (listed.setIfInBounds j true) a' hfree' (ready_mono hr (Ne.symm hji)) h3.1 ?_) h2
      rw [Array.setIfInBounds_comm _ _ hji]
      exact h3.2
def lexU (md : Region.Mode) (ops : Array Oper) (n : Nat) : Nat → Nat → Array Bool → Bool
  | 0, _, listed => (Region.ready md ops listed).all fun i => decide (n ≤ i)
  | fuel + 1, k, listed => (Region.ready md ops listed).contains k && decide (k < n) && Region.free md ops listed k && lexU md ops n fuel (k + 1) (listed.setIfInBounds k true)
def lastU : Nat → Nat → Array Bool → Array Bool
  | 0, _, listed => listed
  | fuel + 1, k, listed => lastU fuel (k + 1) (listed.setIfInBounds k true)
theorem wpAnyU_lex {n : Nat} {R : Act → Prop} (hs : Region.noSelect ops = true) : ∀ (l : List Oper) (k : Nat) (listed : Array Bool) (a : Act), (∀ j o, l[j]? = some o → ops[k + j]? = some o) →
    lexU md ops n l.length k listed = true → wpQuiet P ops C R l a → wpAnyU P md ops n C (fun L a => L = lastU l.length k listed ∧ R a) l.length listed a
  | [], _, _, _, _, hB, h => by
    simp only [List.length_nil, lexU, List.all_eq_true, decide_eq_true_eq] at hB
    exact ⟨hB, rfl, h⟩
  | o :: l, k, listed, a, hl, hB, h => by
    have h0 : ops[k]? = some o := hl 0 o rfl
    simp only [List.length_cons, lexU, Bool.and_eq_true, decide_eq_true_eq] at hB
    obtain ⟨⟨⟨hr, hk⟩, hf⟩, hB'⟩ := hB
    have hst : qOp P ops C k (wpQuiet P ops C R l) a := by unfold qOp; simp only [h0]; exact h
    obtain ⟨v, hy, hK⟩ := yieldsIn_of_qOp h0 hst
    exact wpAnyU_first hk h0 (Region.noSelect_spec hs) l.length listed a (Region.free_spec h0 hf) (by simpa using hr) hy
      (wpAnyU_lex hs l (k + 1) _ _ (fun j o' hj => by have := hl (j + 1) o' (by simpa using hj); simpa [Nat.add_assoc, Nat.add_comm 1 j] using this) hB' hK)
theorem wpAny_of_U {k0 n t : Nat} (hW : waitsB md ops k0 n = true) {Q : Exit → Act → World → Prop} {R : Array Bool → Act → Prop} (hR : ∀ L a w, R L a → C w → wpAny P md ops Q t L a w) : ∀ (fuel : Nat) (listed : Array Bool) (a : Act) (w : World), closedP md ops listed → (∀ k, k < k0 → listed.getD k true = true) → C w →
    wpAnyU P md ops n C R fuel listed a → wpAny P md ops Q (t + fuel) listed a w
  | 0, _, _, _, _, _, hw, ⟨_, h2⟩ => hR _ _ _ h2 hw
  | fuel + 1, listed, a, w, hc, h0, hw, ⟨⟨k, hk, hkn⟩, h3⟩ => by
    refine ⟨fun e => (by rw [e] at hk; cases hk), fun i hi => ?_⟩
    have hin := no_tail hW hc h0 hk hkn hi
    refine wpOp_of_qOp hw (fun a' w' hw' h => wpAny_of_U hW hR fuel _ a' w' (closed_set hc hi) ?_ hw' h) (h3 i hi hin)
    intro k hk
    by_cases e : i = k
    · subst e
      have := (mem_ready.1 hi).1
      rw [h0 i hk] at this; cases this
    · rw [getD_set_ne true e]; exact h0 k hk
def tailB (md : Region.Mode) (ops : Array Oper) : Nat → Nat → Array Bool → Bool
  | 0, _, listed => (Region.ready md ops listed).isEmpty
  | t + 1, k, listed => (Region.ready md ops listed == [k]) && tailB md ops t (k + 1) (listed.setIfInBounds k true)
theorem wpAny_tail {Q : Exit → Act → World → Prop} : ∀ (l : List Oper) (k : Nat) (listed : Array Bool) (a : Act) (w : World), (∀ j o, l[j]? = some o → ops[k + j]? = some o) → tailB md ops l.length k listed = true → wpList P ops Q l a w → wpAny P md ops Q l.length listed a w
  | [], _, listed, a, w, _, hB, h => by
    simp only [List.length_nil, tailB, List.isEmpty_iff] at hB
    exact ⟨hB, h⟩
  | o :: l, k, listed, a, w, hl, hB, h => by
    have h0 : ops[k]? = some o := hl 0 o rfl
    simp only [List.length_cons, tailB, Bool.and_eq_true, beq_iff_eq] at hB
    refine ⟨fun e => (by rw [hB.1] at e; cases e), fun i hi => ?_⟩
    rw [hB.1] at hi
    simp at hi
    subst hi
    have hh : wpOp P ops Q i (wpList P ops Q l) a w := by unfold wpOp; simp only [h0]; exact h
    exact wpOp_mono (fun a' w' h' => wpAny_tail l (i + 1) _ a' w' (fun j o' hj => by have := hl (j + 1) o' (by simpa using hj); simpa [Nat.add_assoc, Nat.add_comm 1 j] using this) hB.2 h') hh
def allB (md : Region.Mode) (ops : Array Oper) (n : Nat) : Bool :=
  Region.noSelect ops && waitsB md ops 1 n && Region.free md ops (Array.replicate ops.size false) 0 && (Region.ready md ops (Array.replicate ops.size false)).contains 0 &&
  lexU md ops n (n - 1) 1 ((Array.replicate ops.size false).setIfInBounds 0 true) && tailB md ops (ops.size - n) n (lastU (n - 1) 1 ((Array.replicate ops.size false).setIfInBounds 0 true)) && decide (1 ≤ n) && decide (n ≤ ops.size)
end
theorem rep_false (N j : Nat) : (Array.replicate N false).getD j false = false := by
  rw [Array.getD_eq_getD_getElem?, Array.getElem?_replicate]
  split <;> rfl
theorem wp_region_tail {P : Program} {id : Nat} {Q : Exit → Act → World → Prop} {a : Act} {w : World} {o : Oper} {l : List Oper} (n : Nat) (v : Value) (hm : P.follows .mixedOrders = true) (hB : allB .any (o :: l).toArray (n + 1) = true)
    (hQ : ∀ c a w, Q (.panic c) (a.put o.dst v) w → Q (.panic c) a w) (hy : Yields P (o :: l).toArray o v a)
    (h : wpQuiet P (o :: l).toArray (fun w' => ∃ n, w' = w.drewN n) (fun a' => ∀ w', (∃ n, w' = w.drewN n) → wpList P (o :: l).toArray Q (l.drop n) a' w') (l.take n) (a.put o.dst v)) : (Code.region id (o :: l).toArray true).wp P Q a w := by
  simp only [allB, Bool.and_eq_true, decide_eq_true_eq] at hB
  obtain ⟨⟨⟨⟨⟨⟨⟨hs, hW⟩, hf⟩, hr⟩, hL⟩, hT⟩, -⟩, hn⟩ := hB
  have hsz : (o :: l).toArray.size = l.length + 1 := by simp
  rw [hsz] at hn hL hT hf hr
  have hl : (l.take n).length = n := by simp; omega
  have hd : (l.drop n).length = l.length + 1 - (n + 1) := by simp
  rw [show n + 1 - 1 = n by omega] at hL hT
  refine wp_region_any hm ?_
  rw [hsz]
  refine wpAny_take (i := 0) (v := v) rfl hs hf hr hQ hy ?_
  have key := wpAnyU_lex (P := P) (md := .any) (C := fun w' => ∃ n, w' = w.drewN n) (n := n + 1) (R := fun a' => ∀ w', (∃ n, w' = w.drewN n) → wpList P (o :: l).toArray Q (l.drop n) a' w') hs (l.take n) 1 ((Array.replicate (l.length + 1) false).setIfInBounds 0 true) (a.put o.dst v)
    (fun j o' hj => by
      rw [List.getElem?_take] at hj
      split at hj
      · rw [Nat.add_comm 1 j]; simpa using hj
      · cases hj)
    (by rw [hl]; exact hL) h
  rw [hl] at key
  rw [show l.length = (l.drop n).length + n by rw [hd]; omega]
  refine wpAny_of_U (C := fun w' => ∃ n, w' = w.drewN n) (t := (l.drop n).length) hW (fun L a' w' hRL hw' => ?_) n _ _ _ ?_ ?_ ⟨1, rfl⟩ (by rw [show (l.drop n).length + n = l.length by rw [hd]; omega]; exact key)
  · obtain ⟨rfl, hRL⟩ := hRL
    exact wpAny_tail (l.drop n) (n + 1) _ a' w' (fun j o' hj => by
      rw [List.getElem?_drop] at hj
      rw [show n + 1 + j = n + j + 1 by omega]
      simpa using hj) (by rw [hd]; exact hT) (hRL w' hw')
  · intro j hj o' ho' e he hb
    exfalso
    by_cases e0 : (0 : Nat) = j
    · subst e0
      have ho2 : o' = o := by simpa using ho'.symm
      subst ho2
      obtain ⟨_, o2, ho2, hall⟩ := mem_ready.1 (show 0 ∈ Region.ready .any (o' :: l).toArray (Array.replicate (l.length + 1) false) by simpa using hr)
      have : o2 = o' := by simpa using ho2.symm
      subst this
      have h9 := hall e he hb
      rcases Nat.lt_or_ge e.on (l.length + 1) with h' | h'
      · simp [h'] at h9
      · simp [h'] at h9
    · rw [getD_set_ne false e0] at hj
      rw [rep_false] at hj
      cases hj
  · intro k hk
    rw [show k = 0 by omega]
    simp
theorem wp_region_tail' {P : Program} {id : Nat} {Q : Exit → Act → World → Prop} {a : Act} {w : World} {o : Oper} {l : List Oper} (n : Nat) (x : Operand) (ho : o.op = .move x) (hg : o.guard = none) (hm : P.follows .mixedOrders = true) (hB : allB .any (o :: l).toArray (n + 1) = true)
    (hQ : ∀ c a v w, Q (.panic c) (a.put o.dst v) w → Q (.panic c) a w)
    (h : wpQuiet P (o :: l).toArray (fun w' => ∃ n, w' = w.drewN n) (fun a' => ∀ w', (∃ n, w' = w.drewN n) → wpList P (o :: l).toArray Q (l.drop n) a' w') (o :: l.take n) a) : (Code.region id (o :: l).toArray true).wp P Q a w := by
  have hw : Region.wanted o (yielded (o :: l).toArray a.tmps) = true := by simp [Region.wanted, hg]
  have hy : Yields P (o :: l).toArray o (a.eval x) a := .inl ⟨hw, fun w => by simp [execOp, ho]⟩
  unfold wpQuiet at h
  rw [if_pos hw] at h
  obtain ⟨v, hq, hn⟩ := h
  have hv : a.eval x = v := by
    have := hq (w.drewN 1) ⟨1, rfl⟩
    simp [Oper.quietAt, execOp, ho, Oper.quietUpon] at this
    exact this
  rw [← hv] at hn
  exact wp_region_tail n (a.eval x) hm hB (fun c a' w' => hQ c a' _ w') hy hn
def allB0 (md : Region.Mode) (ops : Array Oper) (n : Nat) : Bool :=
  Region.noSelect ops && waitsB md ops 0 n && lexU md ops n n 0 (Array.replicate ops.size false) && tailB md ops (ops.size - n) n (lastU n 0 (Array.replicate ops.size false)) && decide (n ≤ ops.size)
theorem wp_region_seq {P : Program} {id : Nat} {Q : Exit → Act → World → Prop} {a : Act} {w : World} {l : List Oper} (n : Nat) (hm : P.follows .mixedOrders = true) (hB : allB0 .any l.toArray n = true)
    (h : wpQuiet P l.toArray (fun w' => ∃ n, w' = w.drewN n) (fun a' => ∀ w', (∃ n, w' = w.drewN n) → wpList P l.toArray Q (l.drop n) a' w') (l.take n) a) : (Code.region id l.toArray true).wp P Q a w := by
  simp only [allB0, Bool.and_eq_true, decide_eq_true_eq] at hB
  obtain ⟨⟨⟨⟨hs, hW⟩, hL⟩, hT⟩, hn⟩ := hB
  have hsz : l.toArray.size = l.length := by simp
  rw [hsz] at hn hL hT
  have hl : (l.take n).length = n := by simp; omega
  have hd : (l.drop n).length = l.length - n := by simp
  refine wp_region_any hm ?_
  rw [hsz]
  have key := wpAnyU_lex (P := P) (md := .any) (C := fun w' => ∃ n, w' = w.drewN n) (n := n) (R := fun a' => ∀ w', (∃ n, w' = w.drewN n) → wpList P l.toArray Q (l.drop n) a' w') hs (l.take n) 0 (Array.replicate l.length false) a
    (fun j o' hj => by
      rw [List.getElem?_take] at hj
      split at hj
      · rw [Nat.zero_add]; simpa using hj
      · cases hj)
    (by rw [hl]; exact hL) h
  rw [hl] at key
  rw [show l.length = (l.drop n).length + n by rw [hd]; omega]
  refine wpAny_of_U (C := fun w' => ∃ n, w' = w.drewN n) (t := (l.drop n).length) hW (fun L a' w' hRL hw' => ?_) n _ _ _ ?_ (fun k hk => by omega) ⟨1, rfl⟩ (by rw [show (l.drop n).length + n = l.length by rw [hd]; omega]; exact key)
  · obtain ⟨rfl, hRL⟩ := hRL
    exact wpAny_tail (l.drop n) n _ a' w' (fun j o' hj => by
      rw [List.getElem?_drop] at hj
      simpa using hj) (by rw [hd]; exact hT) (hRL w' hw')
  · intro j hj o' ho' e he hb
    rw [rep_false] at hj
    cases hj
end TailR
end Go.Proofs.YtmpamcdobhiipaaGreatDoor
/-
  The same law for whatever class of worlds; the worlds behind one world.
-/
namespace Go.Proofs.YtmpamcdobhiipaaGreatDoor
open Go

/- a world behind w -/
structure UW (w : World) where
  W : World
  up : Up w W
namespace TailR
theorem wp_region_seqC {P : Program} {id : Nat} {Q : Exit → Act → World → Prop} {a : Act} {w : World} {l : List Oper} (n : Nat) (C : World → Prop) (hC : C (w.drewN 1)) (hm : P.follows .mixedOrders = true) (hB : allB0 .any l.toArray n = true)
    (h : wpQuiet P l.toArray C (fun a' => ∀ w', C w' → wpList P l.toArray Q (l.drop n) a' w') (l.take n) a) : (Code.region id l.toArray true).wp P Q a w := by
  simp only [allB0, Bool.and_eq_true, decide_eq_true_eq] at hB
  obtain ⟨⟨⟨⟨hs, hW⟩, hL⟩, hT⟩, hn⟩ := hB
  have hsz : l.toArray.size = l.length := by simp
  rw [hsz] at hn hL hT
  have hl : (l.take n).length = n := by simp; omega
  have hd : (l.drop n).length = l.length - n := by simp
  refine wp_region_any hm ?_
  rw [hsz]
  have key := wpAnyU_lex (P := P) (md := .any) (C := C) (n := n) (R := fun a' => ∀ w', C w' → wpList P l.toArray Q (l.drop n) a' w') hs (l.take n) 0 (Array.replicate l.length false) a
    (fun j o' hj => by
      rw [List.getElem?_take] at hj
      split at hj
      · rw [Nat.zero_add]; simpa using hj
      · cases hj)
    (by rw [hl]; exact hL) h
  rw [hl] at key
  rw [show l.length = (l.drop n).length + n by rw [hd]; omega]
  refine wpAny_of_U (C := C) (t := (l.drop n).length) hW (fun L a' w' hRL hw' => ?_) n _ _ _ ?_ (fun k hk => by omega) hC (by rw [show (l.drop n).length + n = l.length by rw [hd]; omega]; exact key)
  · obtain ⟨rfl, hRL⟩ := hRL
    exact wpAny_tail (l.drop n) n _ a' w' (fun j o' hj => by
      rw [List.getElem?_drop] at hj
      simpa using hj) (by rw [hd]; exact hT) (hRL w' hw')
  · intro j hj o' ho' e he hb
    rw [rep_false] at hj
    cases hj
end TailR
end Go.Proofs.YtmpamcdobhiipaaGreatDoor
