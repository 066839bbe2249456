/-
  The document's stack of frames: a step of its walk.
-/
import Derived.Test.YtgahdppcdeefaaaNf9
import Derived.Laws.AppendOwn
import Derived.Test.YtgahdppcdeefaaaSk9
namespace Go.Proofs.Ytgahdppcdeefaaa
open Go.RowKit
namespace TR
/- where the longer row lies: in its block, or in a new one -/
def LiesN (v v' : Value) (w : World) : Prop := v'.ownBlock = v.ownBlock ∨ ∃ g, v'.ownBlock = some g ∧ w.heap.size ≤ g
theorem run_append_far {P : Program} (w : World) (base : Nat) (t ty e : TypeId) (i : TypeInfo) (z : Value) (size bytes : Nat) (ht : P.underlying t = some (.slice e)) (hi : P.info? e = some i) (hz : i.zero = some z)
    (hsize : i.size = size) (hby : i.bytes = bytes) (hzs : z.cells.size = size) (hsz : 0 < size)
    (v : Value) (n : Nat) (xs : List Value) (hown : w.ownsRow base e size v n xs)
    (a : Addr) (m c : Nat) (ys : List Value) (hm : 0 < m) (hys : ys.length = m * size) (hnews : ∀ j u, ys[j]? = some u → w.cell? (a.add j) = some u) (hone : ∀ u ∈ ys, u.oneCell' = true)
    (h63 : n + m ≤ maxLen) (hbytes : (n + m) * bytes ≤ 140737488355328) (hbase : base ≤ w.heap.size) :
    ∃ v' w', (Builtin.append_ #[t, t] ty #[v, .slice (some a) m c]).run P w = .ok v' w' ∧ w'.ownsRow base e size v' (n + m) (xs ++ ys) ∧ w.grownBy w' v.ownBlock ∧ LiesN v v' w := by
  subst hby
  subst hsize
  obtain ⟨v', w', hr, h2, h3, _⟩ := run_append_own (P := P) w base t ty e i z i.size i.bytes ht hi hz rfl rfl hzs hsz v n xs hown a m c ys hys hnews hone h63 hbytes hbase
  refine ⟨v', w', hr, h2, h3, ?_⟩
  rcases hown.2 with ⟨rfl, rfl⟩ | ⟨g', cap, cur, rfl, hbg, hgc, hnc, hcm, hcs, htake⟩
  · obtain ⟨v9, w9, hr9, h9, _, _⟩ := run_append_own (P := P) w w.heap.size t ty e i z i.size i.bytes ht hi hz rfl rfl hzs hsz (.slice none 0 0) 0 [] (World.ownsRow_nil _ _ _ _) a m c ys hys hnews hone h63 hbytes (Nat.le_refl _)
    rw [hr] at hr9
    cases hr9
    refine .inr ?_
    rcases h9.2 with ⟨-, h0⟩ | ⟨g, cap, cur, rfl, hb, _⟩
    · omega
    · exact ⟨g, rfl, hb⟩
  · by_cases hroom : n + m ≤ cap
    · have hr2 := run_append_room (P := P) w t ty e i ht hi g' n cap cur hgc a m c ys hys hnews hone hroom (by rw [hcs, hys, ← Nat.add_mul]; exact Nat.mul_le_mul_right _ hroom)
      rw [hr] at hr2
      cases hr2
      exact .inl rfl
    · have holds : ∀ j u, xs[j]? = some u → w.cell? ((⟨g', 0, none⟩ : Addr).add j) = some u := hown.cells (g := g') rfl
      have hr2 := run_append_grow (P := P) w t ty e i z ht hi hz ⟨g', 0, none⟩ n cap xs hown.1 holds a m c ys hys hnews (by omega) (by simp only [maxLen] at h63; omega) (growslice_fits (by omega) hbytes)
      rw [hr] at hr2
      cases hr2
      exact .inr ⟨_, rfl, Nat.le_refl _⟩
theorem wpList_append_far {P : Program} (w : World) {ops : Array Oper} {rest : List Oper} {o : Oper} {a : Act} {Q : Exit → Act → World → Prop} (hgd : o.guard = none) (s x : Operand) (t : TypeId)
    (ho : o.op = .call { callee := .builtin .append, args := #[s, x], argTypes := #[t, t] })
    (base : Nat) (e : TypeId) (i : TypeInfo) (z : Value) (size bytes : Nat) (ht : P.underlying t = some (.slice e)) (hi : P.info? e = some i) (hz : i.zero = some z)
    (hsize : i.size = size) (hby : i.bytes = bytes) (hzs : z.cells.size = size) (hsz : 0 < size)
    (v : Value) (n : Nat) (xs : List Value) (hs : a.eval s = v) (hown : w.ownsRow base e size v n xs)
    (ad : Addr) (m c : Nat) (ys : List Value) (hx : a.eval x = .slice (some ad) m c) (hm : 0 < m) (hys : ys.length = m * size) (hnews : ∀ j u, ys[j]? = some u → w.cell? (ad.add j) = some u) (hone : ∀ u ∈ ys, u.oneCell' = true)
    (h63 : n + m ≤ maxLen) (hbytes : (n + m) * bytes ≤ 140737488355328) (hbase : base ≤ w.heap.size)
    (h : ∀ v' w', w'.ownsRow base e size v' (n + m) (xs ++ ys) → w.grownBy w' v.ownBlock → LiesN v v' w → wpList P ops Q rest (a.put o.dst v') w') : wpList P ops Q (o :: rest) a w := by
  refine wpList_plain hgd fun _ hK => ?_
  obtain ⟨v', w', hr, h2, h3, h4⟩ := run_append_far (P := P) w base t o.type e i z size bytes ht hi hz hsize hby hzs hsz v n xs hown ad m c ys hm hys hnews hone h63 hbytes hbase
  unfold Oper.wp execOp
  simp only [ho, resolve, invoke, builtin, Sem.run_bind, Sem.run_pure, Result.andThen_ok, List.map_toArray, List.map_cons, List.map_nil, hs, hx, hr]
  exact hK _ _ (h v' w' h2 h3 h4)
/- two rows in blocks of their own -/
def Dj (a b : Value) : Prop := ∀ g, a.ownBlock = some g → b.ownBlock ≠ some g
theorem Dj.symm {a b : Value} (h : Dj a b) : Dj b a := fun g h1 h2 => h g h2 h1
theorem Dj.ne {a b : Value} (h : Dj a b) : a.ownBlock = none ∨ a.ownBlock ≠ b.ownBlock := by
  cases ha : a.ownBlock with
  | none => exact .inl rfl
  | some g => exact .inr (fun e => h g ha e.symm)
theorem Dj.next {w : World} {base e s n : Nat} {a a' b : Value} {xs : List Value} (h : Dj a b) (hb : w.ownsRow base e s b n xs) (hl : LiesN a a' w) : Dj a' b := fun g h1 h2 => by
  rcases hl with h3 | ⟨g', h3, h4⟩
  · exact h g (by rw [← h3]; exact h1) h2
  · rw [h3] at h1
    have e9 : g' = g := by simpa using h1
    subst e9
    have := (World.ownsRow.lt hb g' h2).2
    omega
/- nodes in a new block -/
theorem lit_news {w : World} {cs : Array Value} {t : TypeId} : ∀ j u, cs.toList[j]? = some u → (w.alloc (.cells cs t)).cell? ((⟨w.heap.size, 0, none⟩ : Addr).add j) = some u := World.news_of_block (heap_alloc_new w _)
end TR
end Go.Proofs.Ytgahdppcdeefaaa
namespace Go.Proofs.Ytgahdppcdeefaaa
open Go.RowKit
attribute [local go_sem ↓] Go.wp_at_zero Go.wp_at_succ
namespace TR
theorem own_base {W : World} {b1 b2 e s n : Nat} {v : Value} {xs : List Value} (h : W.ownsRow b1 e s v n xs) (hb : b2 ≤ b1) : W.ownsRow b2 e s v n xs := by
  refine ⟨h.1, ?_⟩
  rcases h.2 with h0 | ⟨g, cap, cur, e1, e2, e3, e4⟩
  · exact .inl h0
  · exact .inr ⟨g, cap, cur, e1, Nat.le_trans hb e2, e3, e4⟩
theorem own_low {W : World} {b e s n k : Nat} {v : Value} {xs : List Value} (h : W.ownsRow b e s v n xs) (hk : k < b) : v.ownBlock ≠ some k := fun e9 => by
  rcases h.2 with ⟨rfl, -⟩ | ⟨g, cap, cur, rfl, e2, -⟩
  · simp [Value.ownBlock] at e9
  · have e9 : g = k := by simpa [Value.ownBlock] using e9
    omega
theorem keepN {b e s n g : Nat} {v : Value} {xs : List Value} (hne : v.ownBlock ≠ some g) : ∀ (ys : List Value) (a : Nat) {W : World}, W.ownsRow b e s v n xs → (W.setCells g a ys).ownsRow b e s v n xs
  | [], _, _, h => h
  | _ :: ys, a, _, h => keepN hne ys (a + 1) (own_keep h hne)
theorem SK.step {w0 wr W4 : World} {g n c pT base : Nat} {x y : Fm × Value} {X : List (Fm × Value)} {v : Value} {own : List Int} (h : SK w0 wr (.slice (some ⟨g, 0, none⟩) n c) (x :: X)) (hu : Up wr W4) (hp : wr.heap.size ≤ pT) (hv : W4.ownsRow base 3 1 v own.length (ivn own)) (hb : pT < base) (hy2 : y.2 = x.2) (hyo : y.1.own = x.1.own) (a b : Value) (hw0 : w0.heap.size ≤ base) :
    SK w0 ((((W4.setCell ⟨pT, 2, none⟩ a).setCell ⟨pT, 3, none⟩ b)).setCells g (X.length * 4) (fmc y)) (.slice (some ⟨g, 0, none⟩) n c) (y :: X) ∧ ((((W4.setCell ⟨pT, 2, none⟩ a).setCell ⟨pT, 3, none⟩ b)).setCells g (X.length * 4) (fmc y)).ownsRow w0.heap.size 3 1 v own.length (ivn own) := by
  have hu5 : Up wr ((W4.setCell ⟨pT, 2, none⟩ a).setCell ⟨pT, 3, none⟩ b) := up_setN (up_setN hu 2 a hp) 3 b hp
  refine ⟨(h.up hu5).put hy2 hyo, ?_⟩
  obtain ⟨g2, c2, e, h2, h3, h1, -⟩ := h.top
  cases e
  have hlt := (World.ownsRow.lt h1 g rfl).2
  exact own_base (keepN (own_low hv (by omega)) _ _ (own_keep (own_keep hv (own_low hv hb)) (own_low hv hb))) hw0
theorem SK.push {w0 W W9 : World} {wv v' : Value} {y : Fm × Value} {X : List (Fm × Value)} (h : SK w0 W wv X) (hy : W.ownsRow w0.heap.size 3 1 y.2 y.1.own.length (ivn y.1.own)) (hr : W9.ownsRow w0.heap.size 60 4 v' (X.length + 1) (fms X.reverse ++ fmc y)) (hg : W.grownBy W9 wv.ownBlock) (hu : Up w0 W9) : SK w0 W9 v' (y :: X) := by
  have hne : ∀ {z : Value} {m : Nat} {xs : List Value}, W.ownsRow w0.heap.size 3 1 z m xs → z.ownBlock = none ∨ z.ownBlock ≠ wv.ownBlock := fun {z m xs} hz => by
    rcases h.1.2 with ⟨h1, -⟩ | ⟨g, c, cur, h1, -⟩
    · rw [h1]
      cases hz9 : z.ownBlock with
      | none => exact .inl rfl
      | some k => exact .inr (by simp [Value.ownBlock])
    · have h2 := h.1
      rw [h1] at h2 ⊢
      exact .inr (int_ne h2 hz)
  refine ⟨?_, fun z hz => ?_, hu⟩
  · rw [List.reverse_cons, fms_app, List.length_cons]
    have e : fms [y] = fmc y := by show fmc y ++ [] = _; rw [List.append_nil]
    rw [e]
    exact hr
  · rcases List.mem_cons.1 hz with rfl | hz
    · exact hy.kept hg (hne hy)
    · exact (h.2.1 z hz).kept hg (hne (h.2.1 z hz))
theorem SK.topg {w0 W : World} {g n c : Nat} {x : Fm × Value} {X : List (Fm × Value)} (h : SK w0 W (.slice (some ⟨g, 0, none⟩) n c) (x :: X)) : W.ownsRow w0.heap.size 60 4 (.slice (some ⟨g, 0, none⟩) (X.length + 1) c) (X.length + 1) (fms X.reverse ++ fmc x) ∧ (∀ j, j < 4 → W.cell? ⟨g, X.length * 4 + j, none⟩ = (fmc x)[j]?) ∧ w0.heap.size ≤ g ∧ g < W.heap.size := by
  obtain ⟨g2, c2, e, h2, -, h1, h3⟩ := h.top
  cases e
  exact ⟨h1, h3, h2, (World.ownsRow.lt h1 g rfl).2⟩
def shpR (l : List Nd) : Int := if (fsh l [⟨[0], 0, 1, 0⟩] 0).2 = true then -1 else ((fsh l [⟨[0], 0, 1, 0⟩] 0).1 : Int)
theorem fsh_pop (l : List Nd) (S : List Fm) (p : Nat) : fsh l (popF S) p = fsh l S p := by
  have h : popF (popF S) = popF S := by
    induction S with
    | nil => rfl
    | cons f S ih =>
      by_cases h0 : f.left = 0
      · rw [popF, if_pos h0, ih]
      · rw [popF, if_neg h0, popF, if_neg h0]
  cases l with
  | nil => rw [fsh, fsh, h]
  | cons a r => rw [fsh, fsh, h]
theorem popF_on {f : Fm} {S : List Fm} (h : f.left ≠ 0) : popF (f :: S) = f :: S := by rw [popF, if_neg h]
theorem popF_off {f : Fm} {S : List Fm} (h : f.left = 0) : popF (f :: S) = popF S := by rw [popF, if_pos h]
theorem fsh_go {a : Nd} {r : List Nd} {f : Fm} {S : List Fm} {p : Nat} (h : f.left ≠ 0) : fsh (a :: r) (f :: S) p = if dok a f.want = true then fsh r (fnew a :: fnx f :: S) (p + 1) else (p, false) := by
  rw [fsh, popF_on h]
end TR
end Go.Proofs.Ytgahdppcdeefaaa
