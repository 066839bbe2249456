
/-
  Lists of ints that lie apart: apart, and nothing else of memory changes.
-/
import Derived.Test.YtgonflnmkfgfhaaRefI
namespace Go.Proofs.Ytgonflnmkfgfhaa
open Go.RowKit
attribute [local go_sem ↓] Go.wp_at_zero Go.wp_at_succ

namespace AE
def mark (i q : Nat) : Value := .int .i64 (1000003 * (i : Int) + (q : Int))
def Blk (W : World) (g : Nat) (cs : List Value) : Prop := W.heap[g]? = some (.cells cs.toArray 3 (0, 0))
/- a list that fills its block, its first j cells marked -/
def Part (W : World) (v : Value) (n p j : Nat) : Prop := (v = .slice none 0 0 ∧ n = 0) ∨ ∃ g cs, v = .slice (some ⟨g, 0, none⟩) n n ∧ Blk W g cs ∧ cs.length = n ∧ ∀ q, q < j → cs[q]? = some (mark p q)
theorem Part.keep {W W' : World} {v : Value} {n p j : Nat} (h : Part W v n p j) (k : ∀ g cs, v.ownBlock = some g → Blk W g cs → Blk W' g cs) : Part W' v n p j := by
  rcases h with h | ⟨g, cs, rfl, h1, h2⟩
  · exact .inl h
  · exact .inr ⟨g, cs, rfl, k g cs (by simp [Value.ownBlock]) h1, h2⟩
theorem Part.less {W : World} {v : Value} {n p j j' : Nat} (h : Part W v n p j) (hj : j' ≤ j) : Part W v n p j' := by
  rcases h with h | ⟨g, cs, rfl, h1, h2, h3⟩
  · exact .inl h
  · exact .inr ⟨g, cs, rfl, h1, h2, fun q hq => h3 q (by omega)⟩
theorem Part.block {W : World} {v : Value} {n p j : Nat} (h : Part W v n p j) : (v = .slice none 0 0 ∧ n = 0) ∨ ∃ g, v = .slice (some ⟨g, 0, none⟩) n n ∧ g < W.heap.size := by
  rcases h with h | ⟨g, cs, rfl, h1, -⟩
  · exact .inl h
  · exact .inr ⟨g, rfl, (Array.getElem?_eq_some_iff.1 h1).1⟩
theorem Part.val {W : World} {v : Value} {n p j : Nat} (h : Part W v n p j) : ∃ a, v = .slice a n n := by
  rcases h with ⟨rfl, rfl⟩ | ⟨g, cs, rfl, -⟩
  · exact ⟨none, rfl⟩
  · exact ⟨_, rfl⟩
/- all memory stands but for the blocks in S, and what is new -/
def Exc (S : Nat → Prop) (w w' : World) : Prop := (w'.os = w.os ∧ w'.tape = w.tape ∧ w'.output = w.output) ∧ w.heap.size ≤ w'.heap.size ∧ ∀ b, b < w.heap.size → ¬ S b → w'.heap[b]? = w.heap[b]?
theorem Exc.refl (S : Nat → Prop) (w : World) : Exc S w w := ⟨⟨rfl, rfl, rfl⟩, Nat.le_refl _, fun _ _ _ => rfl⟩
theorem Exc.size {S : Nat → Prop} {w W : World} (h : Exc S w W) : w.heap.size ≤ W.heap.size := h.2.1
theorem Exc.up {S : Nat → Prop} {w W W' : World} (h : Exc S w W) (u : Up W W') : Exc S w W' :=
  ⟨⟨u.os.trans h.1.1, u.tape.trans h.1.2.1, u.output.trans h.1.2.2⟩, Nat.le_trans h.2.1 u.size, fun b hb hs => (u.block b (Nat.lt_of_lt_of_le hb h.2.1)).trans (h.2.2 b hb hs)⟩
theorem Exc.only {S : Nat → Prop} {w W W' : World} {g : Nat} (h : Exc S w W) (o : Only g W W') (hg : S g ∨ w.heap.size ≤ g) : Exc S w W' :=
  ⟨⟨o.1.1.trans h.1.1, o.1.2.1.trans h.1.2.1, o.1.2.2.trans h.1.2.2⟩, Nat.le_trans h.2.1 o.2.1, fun b hb hs => (o.2.2 b (Nat.lt_of_lt_of_le hb h.2.1) (fun e => by
    subst e
    rcases hg with h1 | h1
    · exact hs h1
    · omega)).trans (h.2.2 b hb hs)⟩
abbrev VL := List (Value × Nat)
def dv : Value × Nat := (.slice none 0 0, 0)
def Arr (W : World) (lb : Nat) (L : VL) : Prop := ∃ cur, W.heap[lb]? = some (.cells cur 37 (0, 0)) ∧ ∀ i, i < L.length → cur[i]? = some (L.getD i dv).1
theorem Arr.cell {W : World} {lb : Nat} {L : VL} (h : Arr W lb L) (i : Nat) (hi : i < L.length) : W.cell? ⟨lb, i, none⟩ = some (L.getD i dv).1 := by
  obtain ⟨cur, h1, h2⟩ := h
  simp [World.cell?, h1, h2 i hi]
theorem Arr.up {W W' : World} {lb : Nat} {L : VL} (h : Arr W lb L) (u : Up W W') : Arr W' lb L := by
  obtain ⟨cur, h1, h2⟩ := h
  exact ⟨cur, u.heap h1, h2⟩
def Apart (L : VL) : Prop := ∀ p q g, p < L.length → q < L.length → p ≠ q → (L.getD p dv).1.ownBlock = some g → (L.getD q dv).1.ownBlock ≠ some g
def Own (L : VL) (b : Nat) : Prop := ∃ p, p < L.length ∧ (L.getD p dv).1.ownBlock = some b
/- up to list i all marked, behind it not yet -/
def Mid (W : World) (L : VL) (i : Nat) : Prop := ∀ p, p < L.length → Part W (L.getD p dv).1 (L.getD p dv).2 p (if p < i then (L.getD p dv).2 else 0)
theorem arr_only {W W' : World} {lb g : Nat} {L : VL} {cs : List Value} (h : Arr W lb L) (hb : g < W.heap.size → Blk W g cs) (o : Only g W W') : Arr W' lb L := by
  obtain ⟨cur, h1, h2⟩ := h
  refine ⟨cur, o.heap h1 (fun e => ?_), h2⟩
  subst e
  have := hb (Array.getElem?_eq_some_iff.1 h1).1
  rw [Blk, h1] at this
  cases this
/- an append to a list that fills its block: a new block -/
theorem run_append_new {P : Program} (w : World) (t ty e : TypeId) (i : TypeInfo) (z : Value) (bytes : Nat) (ht : P.underlying t = some (.slice e)) (hi : P.info? e = some i) (hz : i.zero = some z)
    (hsize : i.size = 1) (hby : i.bytes = bytes) (hzs : z.cells.size = 1)
    (v : Value) (n : Nat) (xs : List Value) (hv : v = .slice none 0 0 ∨ ∃ g, v = .slice (some ⟨g, 0, none⟩) n n) (hown : w.ownsRow 0 e 1 v n xs)
    (a : Addr) (c : Nat) (y : Value) (hnew : w.cell? a = some y) (h1 : y.oneCell' = true) (h63 : n + 1 ≤ maxLen) (hbytes : (n + 1) * bytes ≤ 140737488355328) :
    ∃ v' w', (Builtin.append_ #[t, t] ty #[v, .slice (some a) 1 c]).run P w = .ok v' w' ∧ w'.ownsRow w.heap.size e 1 v' (n + 1) (xs ++ [y]) ∧ Up w w' := by
  subst hby
  have hnews : ∀ j u, [y][j]? = some u → w.cell? (a.add j) = some u := by
    intro j u hj
    cases j with
    | zero => simp at hj; subst hj; simpa [Addr.add] using hnew
    | succ j => simp at hj
  have hone : ∀ u ∈ [y], u.oneCell' = true := by intro u hu; simp at hu; subst hu; exact h1
  rcases hv with rfl | ⟨g, rfl⟩
  · have hn0 : n = 0 ∧ xs = [] := by
      rcases hown.2 with ⟨-, h⟩ | ⟨g, cap, cur, h, -⟩
      · exact ⟨h, List.eq_nil_of_length_eq_zero (by rw [hown.1, h])⟩
      · cases h
    obtain ⟨rfl, rfl⟩ := hn0
    obtain ⟨v', w', hr, h2, h3, _⟩ := run_append_own (P := P) w w.heap.size t ty e i z 1 i.bytes ht hi hz hsize rfl hzs (by decide) (.slice none 0 0) 0 [] (World.ownsRow_nil _ _ _ _) a 1 c [y] rfl hnews hone h63 hbytes (Nat.le_refl _)
    exact ⟨v', w', hr, h2, made_up h3⟩
  · obtain ⟨v', w', hr, h2, _, _⟩ := run_append_own (P := P) w 0 t ty e i z 1 i.bytes ht hi hz hsize rfl hzs (by decide) _ n xs hown a 1 c [y] rfl hnews hone h63 hbytes (Nat.zero_le _)
    have holds : ∀ j u, xs[j]? = some u → w.cell? ((⟨g, 0, none⟩ : Addr).add j) = some u := hown.cells (g := g) rfl
    have hr2 := run_append_grow (P := P) w t ty e i z ht hi hz ⟨g, 0, none⟩ n n xs (by rw [hsize]; exact hown.1) holds a 1 c [y] (by rw [hsize]; rfl) hnews (by omega) (by simp only [maxLen] at h63; omega) (growslice_fits (by omega) hbytes)
    rw [hr] at hr2
    cases hr2
    refine ⟨_, _, hr, ⟨h2.1, ?_⟩, ((Up.refl w).drew).alloc _⟩
    rcases h2.2 with ⟨e9, _⟩ | ⟨g', cap, cur, e9, -, rest⟩
    · cases e9
    · refine .inr ⟨g', cap, cur, e9, ?_, rest⟩
      simp only [Value.slice.injEq, Option.some.injEq, Addr.mk.injEq] at e9
      obtain ⟨⟨e9, -⟩, -⟩ := e9
      rw [← e9]; exact Nat.le_refl _
theorem wpList_append_new {P : Program} {w : World} {ops : Array Oper} {rest : List Oper} {o : Oper} {a : Act} {Q : Exit → Act → World → Prop} (hgd : o.guard = none) (s x : Operand) (t : TypeId)
    (ho : o.op = .call { callee := .builtin .append, args := #[s, x], argTypes := #[t, t] })
    (e : TypeId) (i : TypeInfo) (z : Value) (bytes : Nat) (ht : P.underlying t = some (.slice e)) (hi : P.info? e = some i) (hz : i.zero = some z)
    (hsize : i.size = 1) (hby : i.bytes = bytes) (hzs : z.cells.size = 1)
    (v : Value) (n : Nat) (xs : List Value) (hs : a.eval s = v) (hv : v = .slice none 0 0 ∨ ∃ g, v = .slice (some ⟨g, 0, none⟩) n n) (hown : w.ownsRow 0 e 1 v n xs)
    (ad : Addr) (c : Nat) (y : Value) (hx : a.eval x = .slice (some ad) 1 c) (hnew : w.cell? ad = some y) (h1 : y.oneCell' = true) (h63 : n + 1 ≤ maxLen) (hbytes : (n + 1) * bytes ≤ 140737488355328)
    (h : ∀ v' w', w'.ownsRow w.heap.size e 1 v' (n + 1) (xs ++ [y]) → Up w w' → wpList P ops Q rest (a.put o.dst v') w') : wpList P ops Q (o :: rest) a w := by
  refine wpList_plain hgd fun K hK => ?_
  obtain ⟨v', w', hr, h2, h3⟩ := run_append_new (P := P) w t o.type e i z bytes ht hi hz hsize hby hzs v n xs hv hown ad c y hnew h1 h63 hbytes
  unfold Oper.wp execOp
  simp only [ho, resolve, invoke, builtin, Sem.run_bind, Sem.run_pure, Result.andThen_ok, List.map_toArray, List.map_cons, List.map_nil, hs, hx, hr]
  exact hK _ _ (h v' w' h2 h3)
def marks (i m : Nat) : List Value := (List.range m).map (mark i)
theorem marks_len (i m : Nat) : (marks i m).length = m := by simp [marks]
theorem marks_get (i m q : Nat) (h : q < m) : (marks i m)[q]? = some (mark i q) := by simp [marks, h]
theorem marks_more (i m : Nat) : marks i (m + 1) = marks i m ++ [mark i m] := by simp [marks, List.range_succ]
theorem own_less {W : World} {b b' e s n : Nat} {v : Value} {xs : List Value} (h : W.ownsRow b e s v n xs) (hb : b' ≤ b) : W.ownsRow b' e s v n xs := by
  refine ⟨h.1, ?_⟩
  rcases h.2 with h | ⟨g, cap, cur, e1, e2, e3⟩
  · exact .inl h
  · exact .inr ⟨g, cap, cur, e1, Nat.le_trans hb e2, e3⟩
theorem Part.own {W : World} {v : Value} {n p : Nat} (h : Part W v n p n) (hn : n ≤ 10000000) : W.ownsRow 0 3 1 v n (marks p n) ∧ (v = .slice none 0 0 ∨ ∃ g, v = .slice (some ⟨g, 0, none⟩) n n) := by
  rcases h with ⟨rfl, rfl⟩ | ⟨g, cs, rfl, h1, h2, h3⟩
  · exact ⟨World.ownsRow_nil _ _ _ _, .inl rfl⟩
  · have hcs : cs = marks p n := by
      apply List.ext_getElem?
      intro q
      by_cases hq : q < n
      · rw [h3 q hq, marks_get p n q hq]
      · rw [List.getElem?_eq_none (by omega), List.getElem?_eq_none (by rw [marks_len]; omega)]
    subst hcs
    exact ⟨⟨by rw [marks_len, Nat.mul_one], .inr ⟨g, n, (marks p n).toArray, rfl, Nat.zero_le _, h1, Nat.le_refl _, by unfold maxLen; omega, by simp [marks_len], by simp; exact List.take_of_length_le (by rw [marks_len]; exact Nat.le_refl _)⟩⟩, .inr ⟨g, rfl⟩⟩
theorem infoS : (Try.prog.info? 37).map (fun i => (i.zero, i.size, i.bytes)) = some (some (.slice none 0 0), 1, 24) := by kernel_rfl
/- a longer list that was made of list p -/
def Got (W : World) (x : Value) (n p : Nat) : Prop := ∃ g cap cs, x = .slice (some ⟨g, 0, none⟩) (n + 70) cap ∧ Blk W g cs ∧ ∀ q, q < n + 70 → cs[q]? = some (mark p q)
theorem Got.keep {W W' : World} {x : Value} {n p : Nat} (h : Got W x n p) (k : ∀ g cs, Blk W g cs → Blk W' g cs) : Got W' x n p := by
  obtain ⟨g, cap, cs, e, h1, h2⟩ := h
  exact ⟨g, cap, cs, e, k g cs h1, h2⟩
theorem got_own {W : World} {b n p : Nat} {x : Value} (h : W.ownsRow b 3 1 x (n + 70) (marks p (n + 70))) : Got W x n p := by
  rcases h.2 with ⟨-, h0⟩ | ⟨g, cap, cur, e, _, h1, h2, _, h3, h4⟩
  · omega
  · refine ⟨g, cap, cur.toList, e, by simpa [Blk] using h1, fun q hq => ?_⟩
    have := marks_get p (n + 70) q hq
    rw [← h4, Nat.mul_one, List.getElem?_take_of_lt (by omega)] at this
    exact this
theorem blk_grown {W W' : World} {b n : Nat} {v : Value} {xs : List Value} (hr : W.ownsRow b 37 1 v n xs) (k : W.grownBy W' v.ownBlock) (g : Nat) (cs : List Value) (h : Blk W g cs) : Blk W' g cs := by
  have hl := (Array.getElem?_eq_some_iff.1 h).1
  unfold Blk
  rw [k.block g hl ?_]
  · exact h
  · intro eq
    rcases hr.2 with ⟨rfl, _⟩ | ⟨g', cap, cur, rfl, _, hh, _⟩
    · cases eq
    · have eq' : g = g' := by simpa [Value.ownBlock] using eq
      subst eq'
      rw [Blk, hh] at h
      cases h
set_option maxRecDepth 100000 in
set_option maxHeartbeats 8000000 in
theorem apart_ (lb lcap : Nat) (L : VL) (w : World) (ha : Arr w lb L) (hK : L.length ≤ 100) (hm : Mid w L 0) (hd : Apart L) (hn : ∀ p, p < L.length → (L.getD p dv).2 ≤ 10000000) :
    Calls Try.prog 9 #[.slice (some ⟨lb, 0, none⟩) L.length lcap] w fun e w' => e = .returned (.bool true) ∧ Exc (Own L) w w' := by
  obtain ⟨iT, hiT, z0, z1, z2⟩ := info_parts IN.infoT
  obtain ⟨iS, hiS, y0, y1, y2⟩ := info_parts infoS
  obtain ⟨Post, hPost⟩ : ∃ P : Ending → World → Prop, P = fun e w' => e = .returned (.bool true) ∧ Exc (Own L) w w' := ⟨_, rfl⟩
  rw [← hPost]
  have HPost : Hid (Post = fun e w' => e = .returned (.bool true) ∧ Exc (Own L) w w') := hPost
  obtain ⟨K, hK0⟩ : ∃ K, K = L.length := ⟨_, rfl⟩
  have HK : Hid (K = L.length) := hK0
  have HD : Hid (Apart L) := hd
  have HN : Hid (∀ p, p < K → (L.getD p dv).2 ≤ 10000000) := by unfold Hid; rw [hK0]; exact hn
  have HA : Hid (Arr w lb L) := ha
  have HM : Hid (Mid w L 0) := hm
  rw [← hK0] at hK ⊢
  clear hPost hK0 hd hn ha hm
  go_enter Try.func9, Try.ntmps9
  go_wp2_with fail
  go_loopw [4] (fun s4 wr => ∃ i : Nat, i ≤ K ∧ s4 = .int .i64 i ∧ Mid wr L i ∧ Arr wr lb L ∧ Exc (Own L) w wr) (fun s4 _ => K - (intOf s4).toNat)
  case atStart => exact ⟨0, Nat.zero_le _, rfl, HM.out, HA.out, Exc.refl _ _⟩
  case round =>
    obtain ⟨i, hi, rfl, hmid, harr, hbel⟩ := hrel
    clear HM HA
    obtain ⟨W0, rfl⟩ : ∃ W0, W0 = wr := ⟨_, rfl⟩
    by_cases hlt : i < K
    · have hlt2 : (i : Int) < (K : Int) := by omega
      have hil : i < L.length := by rw [← HK.out]; exact hlt
      have hpi := hmid i hil
      rw [if_neg (Nat.lt_irrefl i)] at hpi
      obtain ⟨v, hv⟩ : ∃ v, v = (L.getD i dv).1 := ⟨_, rfl⟩
      obtain ⟨n, hn⟩ : ∃ n, n = (L.getD i dv).2 := ⟨_, rfl⟩
      have hnb : n ≤ 10000000 := by rw [hn]; exact HN.out i hlt
      have hwz : w.heap.size ≤ W0.heap.size := hbel.size
      -- the block that is written
      have hg0 : ∃ g0, (Own L g0 ∨ w.heap.size ≤ g0) ∧ (∀ p, p < L.length → p ≠ i → (L.getD p dv).1.ownBlock ≠ some g0) ∧ (∀ g, v.ownBlock = some g → g = g0) ∧ ∃ cs, g0 < W0.heap.size → Blk W0 g0 cs := by
        rw [← hv, ← hn] at hpi
        rcases hpi with ⟨e, -⟩ | ⟨g, cs, e, h1, -⟩
        · refine ⟨W0.heap.size, .inr hwz, fun p hp _ e2 => ?_, fun g hg => (by rw [e] at hg; cases hg), [], fun h => absurd h (Nat.lt_irrefl _)⟩
          rcases (hmid p hp).block with ⟨e3, -⟩ | ⟨g, e3, h3⟩
          · rw [e3] at e2; cases e2
          · rw [e3] at e2
            have : g = W0.heap.size := by simpa [Value.ownBlock] using e2
            omega
        · refine ⟨g, .inl ⟨i, hil, by rw [← hv, e]; simp [Value.ownBlock]⟩, fun p hp hne => HD.out i p g hil hp (fun h => hne h.symm) (by rw [← hv, e]; simp [Value.ownBlock]), fun g' h' => ?_, cs, fun _ => h1⟩
          rw [e] at h'
          simpa [Value.ownBlock] using h'.symm
      obtain ⟨g0, hg1, hg2, hg3, cs0, hg4⟩ := hg0
      rw [← hv, ← hn] at hpi
      have HPI : Hid (Part W0 v n i 0) := hpi
      have HMID : Hid (Mid W0 L i) := hmid
      have HARR : Hid (Arr W0 lb L) := harr
      have HBEL : Hid (Exc (Own L) w W0) := hbel
      have HG2 : Hid _ := hg2
      have HG3 : Hid (∀ g, v.ownBlock = some g → g = g0) := hg3
      have HG4 : Hid _ := hg4
      have HV : Hid (v = (L.getD i dv).1 ∧ n = (L.getD i dv).2) := ⟨hv, hn⟩
      clear hpi hmid harr hbel hg2 hg3 hg4 hv hn
      go_wp2_with fail
      go_loopw [5] (fun s5 wq => ∃ j : Nat, j ≤ n ∧ s5 = .int .i64 j ∧ Part wq v n i j ∧ Only g0 W0 wq) (fun s5 _ => n - (intOf s5).toNat)
      case atStart => exact ⟨0, Nat.zero_le _, rfl, HPI.out, Only.refl _ _⟩
      case round =>
        obtain ⟨j, hj, rfl, hpart, honly⟩ := hrel
        clear HPI
        have hcw := (arr_only HARR.out HG4.out honly).cell i hil
        rw [← HV.out.1] at hcw
        obtain ⟨a, hva⟩ := hpart.val
        have HPART : Hid (Part wr v n i j) := hpart
        have HONLY : Hid (Only g0 W0 wr) := honly
        clear hpart honly
        by_cases hjn : j < n
        · have hjn2 : (j : Int) < (n : Int) := by omega
          rcases HPART.out with ⟨-, e0⟩ | ⟨g, cs, e1, h1, h2, h3⟩
          · omega
          · have hgg : g = g0 := HG3.out g (by rw [e1]; simp [Value.ownBlock])
            subst hgg
            subst e1
            obtain ⟨p1, pf1⟩ := IN.row_atI h1 j
            rw [List.getElem?_eq_getElem (by omega)] at p1
            generalize cs[j]'(by omega) = q1 at p1
            have HP2 : Hid (Part (wr.setCell ⟨g, j, none⟩ (.int .i64 (1000003 * (i : Int) + (j : Int)))) (.slice (some ⟨g, 0, none⟩) n n) n i (j + 1)) := by
              refine .inr ⟨g, cs.set j _, rfl, IN.row_putI h1 j _, by simpa using h2, fun q hq => ?_⟩
              by_cases e : q = j
              · subst e; rw [List.getElem?_set_self (by omega)]; rfl
              · rw [List.getElem?_set_ne (by omega)]; exact h3 q (by omega)
            have HO2 : Hid (Only g W0 (wr.setCell ⟨g, j, none⟩ (.int .i64 (1000003 * (i : Int) + (j : Int))))) := HONLY.out.set j _
            clear h1 h2 h3 hva HPART HONLY
            go_wp2
            go_roundw
            case rel => exact ⟨j + 1, by omega, by go_num, HP2.out, HO2.out⟩
            case measure => simp [intOf] <;> omega
        · obtain rfl : j = n := by omega
          have hjn2 : ¬ (j : Int) < (j : Int) := by omega
          subst hva
          have HM2 : Hid (Mid wr L (i + 1)) := by
            intro p hp
            by_cases e : p = i
            · subst e
              rw [if_pos (by omega), ← HV.out.1, ← HV.out.2]
              exact HPART.out
            · have h8 := (HMID.out p hp).keep (W' := wr) (fun g cs h1 h2 => HONLY.out.heap h2 (fun e2 => HG2.out p hp e (by rw [h1, e2])))
              by_cases h9 : p < i
              · rw [if_pos (by omega)]; rw [if_pos h9] at h8; exact h8
              · rw [if_neg (by omega)]; rw [if_neg h9] at h8; exact h8
          have HA2 : Hid (Arr wr lb L) := arr_only HARR.out HG4.out HONLY.out
          have HB2 : Hid (Exc (Own L) w wr) := HBEL.out.only HONLY.out hg1
          clear HPART HONLY HMID HARR HBEL
          go_wp2
          go_roundw
          case rel => exact ⟨i + 1, by omega, by go_num, HM2.out, HA2.out, HB2.out⟩
          case measure => simp [intOf] <;> omega
    · obtain rfl : i = K := by omega
      have hlt2 : ¬ (i : Int) < (i : Int) := by omega
      have HFILL : Hid (∀ p, p < i → Part W0 (L.getD p dv).1 (L.getD p dv).2 p (L.getD p dv).2) := fun p hp => by
        have := hmid p (by rw [← HK.out]; exact hp)
        rw [if_pos hp] at this
        exact this
      have HARR : Hid (Arr W0 lb L) := harr
      have HBEL : Hid (Exc (Own L) w W0) := hbel
      clear hmid harr hbel
      go_wp2_with fail
      go_loopw [3, 6] (fun s3 s6 wq => ∃ (i3 : Nat) (xs : List Value), i3 ≤ i ∧ s6 = .int .i64 i3 ∧ xs.length = i3 ∧ wq.ownsRow W0.heap.size 37 1 s3 i3 xs ∧ (∀ p, p < i3 → Got wq (xs.getD p undef) (L.getD p dv).2 p) ∧ Up W0 wq) (fun _ s6 _ => i - (intOf s6).toNat)
      case atStart => exact ⟨0, [], Nat.zero_le _, rfl, rfl, World.ownsRow_nil _ _ _ _, fun p hp => by omega, Up.refl _⟩
      case round =>
        obtain ⟨i3, xs, hi3, rfl, hxl, hrow3, hgot, hup3⟩ := hrel
        obtain ⟨W1, rfl⟩ : ∃ W1, W1 = wr := ⟨_, rfl⟩
        have HROW3 : Hid (W1.ownsRow W0.heap.size 37 1 u3 i3 xs) := hrow3
        have HGOT : Hid (∀ p, p < i3 → Got W1 (xs.getD p undef) (L.getD p dv).2 p) := hgot
        have HUP3 : Hid (Up W0 W1) := hup3
        obtain ⟨a3, cap3, hv3⟩ := row_val hrow3
        subst hv3
        clear hrow3 hgot hup3
        by_cases hlt3 : i3 < i
        · have hlt4 : (i3 : Int) < (i : Int) := by omega
          have hcw := (HARR.out.up HUP3.out).cell i3 (by rw [← HK.out]; exact hlt3)
          obtain ⟨v, hv⟩ : ∃ v, v = (L.getD i3 dv).1 := ⟨_, rfl⟩
          obtain ⟨n, hn⟩ : ∃ n, n = (L.getD i3 dv).2 := ⟨_, rfl⟩
          have hnb : n ≤ 10000000 := by rw [hn]; exact HN.out i3 hlt3
          have hp := (HFILL.out i3 hlt3).keep (W' := W1) (fun g cs _ h => HUP3.out.heap h)
          rw [← hv, ← hn] at hp
          rw [← hv] at hcw
          obtain ⟨hown, hnew⟩ := hp.own hnb
          obtain ⟨a, hva⟩ := hp.val
          have HOWN : Hid (W1.ownsRow 0 3 1 v n (marks i3 n)) := hown
          have HNEW : Hid (v = .slice none 0 0 ∨ ∃ g, v = .slice (some ⟨g, 0, none⟩) n n) := hnew
          have HNV : Hid (n = (L.getD i3 dv).2) := hn
          clear hown hnew hv hn hp
          subst hva
          go_wp2_with fail
          go_loopw [7, 8] (fun s7 s8 wq => ∃ q : Nat, q ≤ 70 ∧ s8 = .int .i64 q ∧ ((q = 0 ∧ s7 = .slice a n n ∧ wq = W1) ∨ (0 < q ∧ wq.ownsRow W1.heap.size 3 1 s7 (n + q) (marks i3 (n + q)) ∧ Up W1 wq))) (fun _ s8 _ => 70 - (intOf s8).toNat)
          case atStart => exact ⟨0, Nat.zero_le _, rfl, .inl ⟨rfl, rfl, rfl⟩⟩
          case round =>
            obtain ⟨q, hq, rfl, hst⟩ := hrel
            have huw : Up W1 wr := by
              rcases hst with ⟨-, -, e⟩ | ⟨-, -, h⟩
              · rw [e]; exact Up.refl _
              · exact h
            have hcw2 : wr.cell? ⟨lb, i3, none⟩ = some (.slice a n n) := huw.cell hcw
            have hzz : W1.heap.size ≤ wr.heap.size := huw.size
            have hlz : lb < wr.heap.size := World.block_lt_of_cell? wr _ hcw2
            by_cases hq70 : q < 70
            · have hq71 : (q : Int) < 70 := by omega
              have HY : Hid ((Value.int .i64 (1000003 * (i3 : Int) + (n : Int) + (q : Int))) = mark i3 (n + q)) := by
                unfold Hid mark
                rw [show 1000003 * (i3 : Int) + (n : Int) + (q : Int) = 1000003 * (i3 : Int) + ((n + q : Nat) : Int) by omega]
              rcases hst with ⟨hq0, rfl, rfl⟩ | ⟨hq0, hro, hup⟩
              · have HQ0 : Hid (q = 0) := hq0
                have hcy : (wr.alloc (.cells #[.int .i64 (1000003 * (i3 : Int) + (n : Int) + (q : Int))] 3)).cell? ⟨wr.heap.size, 0, none⟩ = some (.int .i64 (1000003 * (i3 : Int) + (n : Int) + (q : Int))) := by
                  simp
                have HCY : Hid _ := hcy
                clear hq0 hcy
                go_wp2_with (at_builtin; refine wpList_append_new (by rfl) (.tmp 50) (.tmp 61) 37 (by rfl) 3 iT (.int .i64 0) 8 Try.underlying37 hiT z0 z1 z2 rfl (.slice a n n) n (marks i3 n) (by rfl) HNEW.out (HOWN.out.alloc _) ⟨wr.heap.size, 0, none⟩ 1 (.int .i64 (1000003 * (i3 : Int) + (n : Int) + (q : Int))) (by rfl) HCY.out (by simp [Value.oneCell']) (by unfold maxLen; omega) (by omega) ?_; intro v4 W4 hown4 hup4)
                have HR4 : Hid (W4.ownsRow wr.heap.size 3 1 v4 (n + (q + 1)) (marks i3 (n + (q + 1))) ∧ Up wr W4) := by
                  refine ⟨?_, ((Up.refl _).alloc _).trans hup4⟩
                  rw [HY.out, HQ0.out, Nat.add_zero, ← marks_more] at hown4
                  rw [HQ0.out]
                  exact own_less hown4 (by simp)
                clear hown4 hup4 HCY
                go_roundw
                case rel => exact ⟨q + 1, by omega, by go_num, .inr ⟨by omega, HR4.out.1, HR4.out.2⟩⟩
                case measure => simp [intOf] <;> omega
              · obtain ⟨a7, c7, e7⟩ := row_val hro
                subst e7
                have HRO : Hid (wr.ownsRow W1.heap.size 3 1 (.slice a7 (n + q) c7) (n + q) (marks i3 (n + q))) := hro
                have HUP : Hid (Up W1 wr) := hup
                clear hro hup
                go_wp2_with (at_builtin; refine wpList_append_own _ rfl (.tmp 50) (.tmp 61) 37 rfl W1.heap.size 3 iT (.int .i64 0) 1 8 Try.underlying37 hiT z0 z1 z2 rfl (by decide) _ _ _ rfl (HRO.out.alloc _) ⟨wr.heap.size, 0, none⟩ 1 1 [(.int .i64 (1000003 * (i3 : Int) + (n : Int) + (q : Int)))] rfl rfl (World.news_of_block (cs := #[(.int .i64 (1000003 * (i3 : Int) + (n : Int) + (q : Int)))]) (heap_alloc_new wr _)) (by simp [Value.oneCell']) (by unfold maxLen; omega) (by omega) (by simp; omega) ?_; intro v4 W4 hown4 hgrow4 hkeep4)
                have HR4 : Hid (W4.ownsRow W1.heap.size 3 1 v4 (n + (q + 1)) (marks i3 (n + (q + 1))) ∧ Up W1 W4) := by
                  refine ⟨?_, Below.grown (HUP.out.alloc _) hgrow4 (Nat.le_trans hzz (by simp)) (fun k hk => (HRO.out.lt k hk).1)⟩
                  rw [HY.out, ← marks_more] at hown4
                  exact hown4
                clear hown4 hgrow4 hkeep4 HRO
                go_roundw
                case rel => exact ⟨q + 1, by omega, by go_num, .inr ⟨by omega, HR4.out.1, HR4.out.2⟩⟩
                case measure => simp [intOf] <;> omega
            · obtain rfl : q = 70 := by omega
              have hq71 : ¬ ((70 : Nat) : Int) < 70 := by omega
              rcases hst with ⟨hq0, -, -⟩ | ⟨-, hro, hup⟩
              · omega
              · obtain ⟨a7, c7, e7⟩ := row_val hro
                subst e7
                have HGI : Hid (Got wr (.slice a7 (n + 70) c7) n i3) := got_own hro
                have HUP : Hid (Up W1 wr) := hup
                have HR3 : Hid (wr.ownsRow W0.heap.size 37 1 (.slice a3 i3 cap3) i3 xs) := row_up HROW3.out hup
                have hz0 : W0.heap.size ≤ wr.heap.size := Nat.le_trans HUP3.out.size hup.size
                clear hro hup
                go_wp2_with (at_builtin; refine wpList_append_own _ rfl (.tmp 63) (.tmp 65) 30 rfl W0.heap.size 37 iS (.slice none 0 0) 1 24 Try.underlying30 hiS y0 y1 y2 rfl (by decide) _ _ _ rfl (HR3.out.alloc _) ⟨wr.heap.size, 0, none⟩ 1 1 [.slice a7 (n + 70) c7] rfl rfl (World.news_of_block (cs := #[.slice a7 (n + 70) c7]) (heap_alloc_new wr _)) (by simp [Value.oneCell']) (by unfold maxLen; omega) (by omega) (by simp; omega) ?_; intro v4 W4 hown4 hgrow4 hkeep4)
                have hkb : ∀ g cs, Blk wr g cs → Blk W4 g cs := fun g cs h => blk_grown (HR3.out.alloc _) hgrow4 g cs (((Up.refl wr).alloc _).heap h)
                have HR4 : Hid (W4.ownsRow W0.heap.size 37 1 v4 (i3 + 1) (xs ++ [.slice a7 (n + 70) c7]) ∧ (∀ p, p < i3 + 1 → Got W4 ((xs ++ [Value.slice a7 (n + 70) c7]).getD p undef) (L.getD p dv).2 p) ∧ Up W0 W4) := by
                  refine ⟨hown4, fun p hp => ?_, Below.grown ((HUP3.out.trans HUP.out).alloc _) hgrow4 (Nat.le_trans hz0 (by simp)) (fun k hk => (HR3.out.lt k hk).1)⟩
                  by_cases e : p < i3
                  · rw [List.getD_eq_getElem?_getD, List.getElem?_append_left (by omega), ← List.getD_eq_getElem?_getD]
                    exact ((HGOT.out p e).keep (fun g cs h => HUP.out.heap h)).keep hkb
                  · obtain rfl : p = i3 := by omega
                    rw [List.getD_eq_getElem?_getD, List.getElem?_append_right (by omega), hxl, Nat.sub_self, ← HNV.out]
                    exact HGI.out.keep hkb
                clear hown4 hgrow4 hkeep4 hkb HR3 HGI HUP
                go_wp2
                go_roundw
                case rel => exact ⟨i3 + 1, _, by omega, by go_num, by simp [hxl], HR4.out.1, HR4.out.2.1, HR4.out.2.2⟩
                case measure => simp [intOf] <;> omega
        · obtain rfl : i3 = i := by omega
          have hlt4 : ¬ (i3 : Int) < (i3 : Int) := by omega
          go_wp2_with fail
          go_loopw [9] (fun s9 wq => ∃ i5 : Nat, i5 ≤ i3 ∧ s9 = .int .i64 i5 ∧ Up W1 wq) (fun s9 _ => i3 - (intOf s9).toNat)
          case atStart => exact ⟨0, Nat.zero_le _, rfl, Up.refl _⟩
          case round =>
            obtain ⟨i5, hi5, rfl, hup5⟩ := hrel
            by_cases hlt5 : i5 < i3
            · have hlt6 : (i5 : Int) < (i3 : Int) := by omega
              have HU5 : Hid (Up W1 wr) := hup5
              obtain ⟨v, hv⟩ : ∃ v, v = (L.getD i5 dv).1 := ⟨_, rfl⟩
              obtain ⟨n, hn⟩ : ∃ n, n = (L.getD i5 dv).2 := ⟨_, rfl⟩
              have hnb : n ≤ 10000000 := by rw [hn]; exact HN.out i5 hlt5
              have HCA : Hid (∀ W, Up W1 W → W.cell? ⟨lb, i5, none⟩ = some v) := fun W hW => by
                rw [hv]; exact Arr.cell ((HARR.out.up HUP3.out).up hW) i5 (by rw [← HK.out]; exact hlt5)
              have hp := HFILL.out i5 hlt5
              rw [← hv, ← hn] at hp
              obtain ⟨a, hva⟩ := hp.val
              have hgot := HGOT.out i5 hlt5
              rw [← hn] at hgot
              obtain ⟨g, cap, cs, hxe, hgb, hgc⟩ := hgot
              obtain ⟨b3, cap3', -, -, e3⟩ := row_some HROW3.out (by omega)
              cases e3
              have HC3 : Hid (∀ W, Up W1 W → W.cell? ⟨b3, i5, none⟩ = some (.slice (some ⟨g, 0, none⟩) (n + 70) cap)) := fun W hW => by
                refine hW.cell ?_
                rw [HROW3.out.cellAt i5 (by omega), ← hxe, List.getD_eq_getElem?_getD, List.getElem?_eq_getElem (by omega)]
                rfl
              have HCG : Hid (∀ W, Up W1 W → ∀ j, j < n + 70 → W.cell? ⟨g, j, none⟩ = some (mark i5 j)) := fun W hW j hj => by
                rw [(IN.row_atI (hW.heap hgb) j).1]; exact hgc j hj
              have HCV : Hid (n ≠ 0 → ∃ gv, a = some ⟨gv, 0, none⟩ ∧ ∀ W, Up W1 W → ∀ j, j < n → W.cell? ⟨gv, j, none⟩ = some (mark i5 j)) := fun hn0 => by
                rcases hp with ⟨-, h0⟩ | ⟨gv, cv, e1, h1, h2, h3⟩
                · exact absurd h0 hn0
                · rw [hva] at e1
                  cases e1
                  exact ⟨gv, rfl, fun W hW j hj => by rw [(IN.row_atI (hW.heap (HUP3.out.heap h1)) j).1]; exact h3 j hj⟩
              clear hp hgb hgc hxe hv hn
              subst hva
              have cc3 := HC3.out wr hup5
              clear hup5
              go_wp2_with fail
              clear cc3
              go_loopw [10] (fun s10 wq => ∃ j : Nat, j ≤ n + 70 ∧ s10 = .int .i64 j ∧ Up W1 wq) (fun s10 _ => n + 70 - (intOf s10).toNat)
              case atStart => exact ⟨0, Nat.zero_le _, rfl, HU5.out⟩
              case round =>
                obtain ⟨j, hj, rfl, hup6⟩ := hrel
                have HU6 : Hid (Up W1 wr) := hup6
                have ca := HCA.out wr hup6
                have cc3 := HC3.out wr hup6
                by_cases hj7 : j < n + 70
                · have hj8 : (j : Int) < (n : Int) + 70 := by omega
                  have cg := HCG.out wr hup6 j hj7
                  unfold mark at cg
                  by_cases hjn : j < n
                  · have hjn2 : (j : Int) < (n : Int) := by omega
                    obtain ⟨gv, rfl, hcv⟩ := HCV.out (by omega)
                    have cv := hcv wr hup6 j hjn
                    unfold mark at cv
                    clear hcv hup6
                    go_wp2_with fail
                    go_quiet (fail)
                    go_wp2
                    go_roundw
                    case rel => exact ⟨j + 1, by omega, by go_num, HU6.out.drewN _⟩
                    case measure => simp [intOf] <;> omega
                  · have hjn2 : decide ((j : Int) < (n : Int)) = false := decide_eq_false (by omega)
                    have hjn3 : ¬ (j : Int) < (n : Int) := by omega
                    clear hup6
                    go_wp2_with fail
                    go_quiet (fail)
                    go_wp2
                    go_roundw
                    case rel => exact ⟨j + 1, by omega, by go_num, HU6.out.drewN _⟩
                    case measure => simp [intOf] <;> omega
                · have hj8 : ¬ (j : Int) < (n : Int) + 70 := by omega
                  clear hup6
                  go_wp2
                  go_roundw
                  case rel => exact ⟨i5 + 1, by omega, by go_num, HU6.out⟩
                  case measure => simp [intOf] <;> omega
            · have hlt6 : ¬ (i5 : Int) < (i3 : Int) := by omega
              have HF : Hid (Exc (Own L) w wr) := HBEL.out.up (HUP3.out.trans hup5)
              clear hup5
              go_wp2
              rw [HPost.out]
              exact ⟨rfl, HF.out⟩
end AE
end Go.Proofs.Ytgonflnmkfgfhaa
