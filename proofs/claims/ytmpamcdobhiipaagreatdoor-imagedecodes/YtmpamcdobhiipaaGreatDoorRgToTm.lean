/-
  The document's Check, May and Where, given what it makes of the list of things.
-/
import Derived.Test.YtmpamcdobhiipaaGreatDoorRsx7ToRf
import Derived.Test.YtmpamcdobhiipaaGreatDoorWhToCt
import Derived.Test.YtmpamcdobhiipaaGreatDoorSlToSm
namespace Go.Proofs.YtmpamcdobhiipaaGreatDoor
open Go.RowKit
attribute [local go_sem ↓] Go.wp_at_zero Go.wp_at_succ

namespace ST
def bvs (l : List Bool) : List Value := l.map (fun b => .bool b)
theorem bvs_get (l : List Bool) (i : Nat) (hi : i < l.length) : (bvs l)[i]? = some (.bool (l.getD i false)) := by
  simp [bvs, List.getD_eq_getElem?_getD, List.getElem?_eq_getElem hi]
def BL (W : World) (v : Value) (l : List Bool) : Prop := LC W v 1 l.length (bvs l)
/- things answers a list of which the first that is not so is ff s -/
def ThingsOk (s : Stt) : Prop := ∀ v w, StL w v s → Calls Tryz.prog 54 #[v] w fun e w' => ∃ x l, e = .returned x ∧ BL w' x l ∧ l.findIdx? (fun b => !b) = ff s ∧ l.length ≤ 4294967296 ∧ Up w w'
set_option maxRecDepth 100000 in
set_option maxHeartbeats 4000000 in
theorem rcheck_ (v : Value) (s : Stt) (w : World) (hs : StL w v s) (ht : ThingsOk s) :
    Calls Tryz.prog 19 #[v] w fun e w' => e = .returned (ckV (ff s)) ∧ Up w w' := by
  obtain ⟨Post, hPost⟩ : ∃ P : Ending → World → Prop, P = fun e w' => e = .returned (ckV (ff s)) ∧ Up w w' := ⟨_, rfl⟩
  rw [← hPost]
  have HP : Hid (Post = fun e w' => e = .returned (ckV (ff s)) ∧ Up w w') := hPost
  have hc := ht v _ (hs.up ((Up.refl w).alloc (.cells v.cells 30)))
  obtain ⟨vp, vc, vz, rfl, -, -, -⟩ := hs
  unfold sv at hc ⊢
  have HC : Hid _ := hc
  clear hc ht hPost
  go_enter Tryz.func19, Tryz.ntmps19
  go_wp2_with fail
  refine Calls.mono HC.out ?_
  rintro e w1 ⟨x, l, rfl, hx, hf, hn, u1⟩
  have HU : Hid (Up w w1) := ((Up.refl w).alloc _).trans u1
  obtain ⟨a1, k1, rfl, -, h1⟩ := lc_at hx
  have H1 : Hid (∀ i, i < l.length → ∃ b o, a1 = some ⟨b, o, none⟩ ∧ w1.cell? ⟨b, o + i, none⟩ = some (.bool (l.getD i false))) := fun i hi => by
    obtain ⟨b, o, ha, -, hcell⟩ := h1 (by omega)
    exact ⟨b, o, ha, by rw [hcell w1 (Up.refl _) i (by omega)]; exact bvs_get l i hi⟩
  have HF : Hid (l.findIdx? (fun b => !b) = ff s) := hf
  obtain ⟨n, hn0⟩ : ∃ n, n = l.length := ⟨_, rfl⟩
  have HN : Hid (n = l.length) := hn0
  rw [← hn0] at hn H1 ⊢
  clear HC hx h1 hf u1 hn0
  go_wp2_with fail
  go_loopw [2, 3, 5] (fun s2 s3 s5 W => ∃ i : Nat, i ≤ n ∧ s2 = .int .i64 0 ∧ s3 = .int .i64 0 ∧ s5 = .int .i64 i ∧ W = w1 ∧ ∀ j, j < i → l.getD j false = true) (fun _ _ s5 _ => n - (intOf s5).toNat)
  case atStart => exact ⟨0, Nat.zero_le _, rfl, rfl, rfl, rfl, fun j hj => by omega⟩
  case round =>
    obtain ⟨i, hi, rfl, rfl, rfl, rfl, hj⟩ := hrel
    have HJ : Hid (∀ j, j < i → l.getD j false = true) := hj
    clear hj
    by_cases hlt : i < n
    · have hlt2 : (i : Int) < (n : Int) := by omega
      obtain ⟨b, o, rfl, x1⟩ := H1.out i hlt
      have HY : Hid ((l.getD i false = true → ∀ j, j < i + 1 → l.getD j false = true) ∧ (l.getD i false = false → ff s = some i)) := ⟨fun e j hj => by
        by_cases ej : j = i
        · subst ej; exact e
        · exact HJ.out j (by omega), fun e => by rw [← HF.out]; exact findIdx_at l (fun b => b) false i (by rw [← HN.out]; exact hlt) HJ.out e⟩
      clear HJ
      generalize l.getD i false = y at x1 HY
      cases y
      · have HR : Hid (ff s = some i) := HY.out.2 rfl
        clear HY
        go_wp2
        rw [HP.out, HR.out]
        exact ⟨rfl, HU.out⟩
      · have HR : Hid _ := HY.out.1 rfl
        clear HY
        go_wp2_with fail
        go_roundw
        case rel => exact ⟨i + 1, by omega, rfl, rfl, by go_num, by first | rfl | trivial, HR.out⟩
        case measure => simp [intOf]; omega
    · have hlt2 : ¬ (i : Int) < (n : Int) := by omega
      have HR : Hid (ff s = none) := by unfold Hid; rw [← HF.out]; exact findIdx_no l (fun b => b) false (fun j hj => HJ.out j (by have := HN.out; omega))
      clear HJ
      go_wp2
      rw [HP.out, HR.out]
      exact ⟨rfl, HU.out⟩
end ST
end Go.Proofs.YtmpamcdobhiipaaGreatDoor
/-
  The list of things that are looked at, no program: the first that is not so is ff s.
-/
namespace Go.Proofs.YtmpamcdobhiipaaGreatDoor
namespace ST
def thA (s : Stt) : List Bool := true :: (s.ps.map plyB ++ s.cs.map (crdB s.ps.length))
def thT (s : Stt) (k : Nat) : List Bool := if k < (flat s).length then [false] else [decide (s.cs.length ≤ k), decide (1 ≤ s.turn), numB s.whose s.ps.length, finB s, winB s]
def thL (s : Stt) : List Bool := if sizesB s = false then [false] else thA s ++ (List.replicate (good s.cs.length (flat s)) true ++ thT s (good s.cs.length (flat s)))
theorem rep_none (k : Nat) : (List.replicate k true).findIdx? (fun b => !b) = none := by
  rw [List.findIdx?_eq_none_iff]
  intro x hx
  rw [List.eq_of_mem_replicate hx]; rfl
theorem thL_ff (s : Stt) : (thL s).findIdx? (fun b => !b) = ff s := by
  have hgl := good_le s.cs.length (flat s)
  have hgs := good_small s.cs.length (flat s) (good s.cs.length (flat s)) hgl (fun i hi => good_ok _ _ i hi)
  unfold thL ff
  cases hs : sizesB s
  · simp
  · rw [if_neg (by simp), if_neg (by simp)]
    generalize good s.cs.length (flat s) = k at *
    unfold thA
    rw [List.findIdx?_append, List.findIdx?_cons, List.findIdx?_append, List.findIdx?_map, List.findIdx?_map, List.findIdx?_append, rep_none]
    simp only [Function.comp_def]
    cases h1 : s.ps.findIdx? (fun p => !plyB p) with
    | some i => simp; omega
    | none =>
      cases h2 : s.cs.findIdx? (fun c => !crdB s.ps.length c) with
      | some i => simp; omega
      | none =>
        unfold thT
        by_cases h3 : k < (flat s).length
        · simp [h3]; omega
        · by_cases h4 : k < s.cs.length
          · have : ¬ s.cs.length ≤ k := by omega
            simp [h3, h4, this, List.findIdx?_cons]; omega
          · have e4 : s.cs.length ≤ k := by omega
            have hk : k = s.cs.length := by omega
            by_cases h5 : 1 ≤ s.turn
            · cases h6 : numB s.whose s.ps.length
              · simp [h3, h4, e4, h5, List.findIdx?_cons]; omega
              · cases h7 : finB s
                · simp [h3, h4, e4, h5, List.findIdx?_cons]; omega
                · cases h8 : winB s
                  · simp [h3, h4, e4, h5, List.findIdx?_cons]; omega
                  · simp [h3, h4, e4, h5, List.findIdx?_cons]
            · simp [h3, h4, e4, h5, List.findIdx?_cons]; omega
theorem thL_len (s : Stt) : (thL s).length ≤ 1 + 4 + 256 + 256 + 5 := by
  have hgl := good_le s.cs.length (flat s)
  have hgs := good_small s.cs.length (flat s) (good s.cs.length (flat s)) hgl (fun i hi => good_ok _ _ i hi)
  unfold thL
  cases hs : sizesB s
  · simp
  · rw [if_neg (by simp)]
    simp only [sizesB, npB, ncB, Bool.and_eq_true, decide_eq_true_eq] at hs
    have : (thT s (good s.cs.length (flat s))).length ≤ 5 := by unfold thT; split <;> simp
    simp only [thA, List.length_append, List.length_cons, List.length_map, List.length_replicate]
    omega
end ST
end Go.Proofs.YtmpamcdobhiipaaGreatDoor
/-
  What the list of things is while it is made: a row of bools of its own, the marks of the cards that stood, the entries.
-/
namespace Go.Proofs.YtmpamcdobhiipaaGreatDoor
open Go.RowKit
attribute [local go_sem ↓] Go.wp_at_zero Go.wp_at_succ

theorem big_apart {W : World} {base e q g : Nat} {v : Value} {xs : List Value} {cs : Array Value} {t : TypeId} (h : W.ownsRow base e 1 v q xs) (hg : W.heap[g]? = some (.cells cs t (0, 0))) (hq : cs.size < q) : v.ownBlock ≠ some g := by
  rcases h.2 with ⟨-, h0⟩ | ⟨g', cap, cur, rfl, _, h1, h2, _, h3, _⟩
  · omega
  · intro eq
    have eq' : g' = g := by simpa [Value.ownBlock] using eq
    subst eq'
    rw [h1] at hg
    cases hg
    omega
theorem type_apart {W : World} {base e q g : Nat} {v : Value} {xs : List Value} {cs : Array Value} {t : TypeId} (h : W.ownsRow base e 1 v q xs) (hg : W.heap[g]? = some (.cells cs t (0, 0))) (ht : e ≠ t) : v.ownBlock ≠ some g := by
  rcases h.2 with ⟨rfl, h0⟩ | ⟨g', cap, cur, rfl, _, h1, _⟩
  · simp [Value.ownBlock]
  · intro eq
    have eq' : g' = g := by simpa [Value.ownBlock] using eq
    subst eq'
    rw [h1] at hg
    cases hg
    exact ht rfl
namespace ST
theorem infoB : (Tryz.prog.info? 4).map (fun i => (i.zero, i.size, i.bytes)) = some (some (.bool false), 1, 1) := by kernel_rfl
theorem bvs_len (l : List Bool) : (bvs l).length = l.length := by simp [bvs]
theorem bvs_app (a b : List Bool) : bvs (a ++ b) = bvs a ++ bvs b := by simp [bvs]
theorem bvs_one (l : List Bool) : ∀ u ∈ bvs l, u.oneCell' = true := by
  intro u hu
  simp only [bvs, List.mem_map] at hu
  obtain ⟨z, _, rfl⟩ := hu
  rfl
/- the list so far, with the state's block -/
def TI (w W : World) (box : Array Value) (v : Value) (q : Nat) (l : List Bool) : Prop := W.heap[w.heap.size]? = some (.cells box 30 (0, 0)) ∧ W.ownsRow (w.heap.size + 1) 4 1 v q (bvs l) ∧ Up w W ∧ w.heap.size + 1 ≤ W.heap.size ∧ q = l.length
theorem TI.up {w W W' : World} {box : Array Value} {v : Value} {q : Nat} {l : List Bool} (h : TI w W box v q l) (u : Up W W') : TI w W' box v q l :=
  ⟨u.heap h.1, row_up h.2.1 u, h.2.2.1.trans u, Nat.le_trans h.2.2.2.1 u.size, h.2.2.2.2⟩
theorem TI.more {w W w' : World} {box : Array Value} {v v' : Value} {q n : Nat} {l bs : List Bool} (h : TI w W box v q l) (hin : w'.ownsRow (w.heap.size + 1) 4 1 v' (q + n) (bvs l ++ bvs bs)) (hg : W.grownBy w' v.ownBlock) (hn : n = bs.length) : TI w w' box v' (q + n) (l ++ bs) := by
  obtain ⟨h1, h2, h3, h4, h5⟩ := h
  refine ⟨?_, by rw [bvs_app]; exact hin, ?_, Nat.le_trans h4 hg.size, by rw [List.length_append, h5, hn]⟩
  · rw [hg.block _ (by omega) (fun e => type_apart h2 h1 (by decide) e.symm)]; exact h1
  · refine Below.grown h3 hg h3.size ?_
    intro k hk
    have := (World.ownsRow.lt h2 k hk).1
    omega
def seenM (m : Nat) (l : List Int) (k : Nat) : Array Value := ((List.range m).map fun j : Nat => Value.bool (decide ((j : Int) ∈ l.take k))).toArray
theorem seenM_zero (m : Nat) (l : List Int) : (List.replicate m (Value.bool false)).toArray = seenM m l 0 := by
  apply Array.ext
  · simp [seenM]
  · intro i h1 h2
    simp [seenM]
theorem seenM_cell {W : World} {g m : Nat} {l : List Int} {k : Nat} {t : TypeId} (h : W.heap[g]? = some (.cells (seenM m l k) t (0, 0))) (e : Nat) (he : e < m) : W.cell? ⟨g, e, none⟩ = some (.bool (decide ((e : Int) ∈ l.take k))) ∧ W.frozen? ⟨g, e, none⟩ = false := by
  refine ⟨?_, by simp [World.frozen?, h]⟩
  simp only [World.cell?, h]
  simp [seenM, he]
theorem seenM_set (m : Nat) (l : List Int) (k e : Nat) (he : l[k]? = some (e : Int)) : (seenM m l k).setIfInBounds e (.bool true) = seenM m l (k + 1) := by
  apply Array.ext
  · simp [seenM]
  · intro i h1 h2
    simp only [seenM, List.setIfInBounds_toArray, List.getElem_toArray, List.getElem_set, List.getElem_map, List.getElem_range]
    have ht : l.take (k + 1) = l.take k ++ [(e : Int)] := by rw [List.take_add_one, he]; rfl
    rw [ht]
    by_cases c : e = i
    · subst c; simp
    · rw [if_neg c]
      have : ¬ (i : Int) = (e : Int) := by omega
      simp [this]
theorem seenM_put {W : World} {g m : Nat} {l : List Int} {k : Nat} {t : TypeId} (h : W.heap[g]? = some (.cells (seenM m l k) t (0, 0))) (e : Nat) (he : l[k]? = some (e : Int)) : (W.setCell ⟨g, e, none⟩ (.bool true)).heap[g]? = some (.cells (seenM m l (k + 1)) t (0, 0)) := by
  rw [← seenM_set m l k e he]
  simp only [World.setCell, Array.getElem?_modify]
  rw [h]
  simp
/- the entries -/
def EL (W : World) (la : Option Addr) (l : List Int) : Prop := l.length ≠ 0 → ∃ gl cur, la = some ⟨gl, 0, none⟩ ∧ W.heap[gl]? = some (.cells cur 3 (0, 0)) ∧ ∀ i, i < l.length → cur[i]? = some (.int .i64 (l.getD i 0))
theorem EL.keep {W W' : World} {la : Option Addr} {l : List Int} (h : EL W la l) (k : ∀ (g : Nat) (cs : Array Value), W.heap[g]? = some (.cells cs 3 (0, 0)) → W'.heap[g]? = some (.cells cs 3 (0, 0))) : EL W' la l := fun hn => by
  obtain ⟨gl, cur, e, h1, h2⟩ := h hn
  exact ⟨gl, cur, e, k _ _ h1, h2⟩
theorem el_of {W : World} {base : Nat} {la : Option Addr} {lk : Nat} {l : List Int} (h : IRow base W (.slice la l.length lk) l) : EL W la l := fun hn => by
  rcases h.2 with ⟨-, h0⟩ | ⟨g', cap, cur, e, _, h1, h2, _, h3, h4⟩
  · omega
  · simp only [Value.slice.injEq] at e
    obtain ⟨rfl, -, rfl⟩ := e
    refine ⟨g', cur, rfl, h1, fun i hi => ?_⟩
    have := ivs_get l i hi
    rw [← h4, Nat.mul_one, List.getElem?_take_of_lt (by omega)] at this
    simpa using this
theorem EL.at {W : World} {la : Option Addr} {l : List Int} (h : EL W la l) (i : Nat) (hi : i < l.length) : ∃ gl, la = some ⟨gl, 0, none⟩ ∧ W.cell? ⟨gl, i, none⟩ = some (.int .i64 (l.getD i 0)) := by
  obtain ⟨gl, cur, e, h1, h2⟩ := h (by omega)
  exact ⟨gl, e, by simp [World.cell?, h1, h2 i hi]⟩
/- behind k entries -/
def T3 (w W : World) (box : Array Value) (v : Value) (q : Nat) (A : List Bool) (g m : Nat) (la : Option Addr) (l : List Int) (k : Nat) (bs : List Bool) : Prop := TI w W box v q (A ++ (List.replicate k true ++ bs)) ∧ W.heap[g]? = some (.cells (seenM m l k) 4 (0, 0)) ∧ EL W la l ∧ (∀ j, j < k → okAt m l j = true) ∧ m < A.length ∧ w.heap.size + 1 ≤ g
theorem T3.up {w W W' : World} {box : Array Value} {v : Value} {q : Nat} {A : List Bool} {g m : Nat} {la : Option Addr} {l : List Int} {k : Nat} {bs : List Bool} (h : T3 w W box v q A g m la l k bs) (u : Up W W') : T3 w W' box v q A g m la l k bs :=
  ⟨h.1.up u, u.heap h.2.1, h.2.2.1.keep (fun _ _ h => u.heap h), h.2.2.2⟩
theorem T3.more {w W w' : World} {box : Array Value} {v v' : Value} {q n : Nat} {A : List Bool} {g m : Nat} {la : Option Addr} {l : List Int} {k : Nat} {bs bs' : List Bool} (h : T3 w W box v q A g m la l k bs) (hin : w'.ownsRow (w.heap.size + 1) 4 1 v' (q + n) (bvs (A ++ (List.replicate k true ++ bs)) ++ bvs bs')) (hg : W.grownBy w' v.ownBlock) (hn : n = bs'.length) : T3 w w' box v' (q + n) A g m la l k (bs ++ bs') := by
  obtain ⟨h1, h2, h3, h4, h5, h6⟩ := h
  have hq : m < q := by rw [h1.2.2.2.2, List.length_append]; omega
  refine ⟨?_, ?_, h3.keep (fun g' cs h => ?_), h4, h5, h6⟩
  · have := h1.more hin hg hn
    simpa only [List.append_assoc] using this
  · rw [hg.block _ (Array.getElem?_eq_some_iff.1 h2).1 (fun e => big_apart h1.2.1 h2 (by simpa [seenM] using hq) e.symm)]; exact h2
  · rw [hg.block _ (Array.getElem?_eq_some_iff.1 h).1 (fun e => type_apart h1.2.1 h (by decide) e.symm)]; exact h
theorem T3.set {w W : World} {box : Array Value} {v : Value} {q : Nat} {A : List Bool} {g m : Nat} {la : Option Addr} {l : List Int} {k e : Nat} (h : T3 w W box v q A g m la l k [true]) (he : l[k]? = some (e : Int)) (ho : okAt m l k = true) : T3 w (W.setCell ⟨g, e, none⟩ (.bool true)) box v q A g m la l (k + 1) [] := by
  obtain ⟨h1, h2, h3, h4, h5, h6⟩ := h
  have hq : m < q := by rw [h1.2.2.2.2, List.length_append]; omega
  have hr : List.replicate k true ++ [true] = List.replicate (k + 1) true := by rw [List.replicate_succ']
  obtain ⟨i1, i2, i3, i4, i5⟩ := h1
  refine ⟨⟨?_, ?_, Up.set i3 _ _ (by show w.heap.size ≤ g; omega), by simpa using i4, by rw [List.append_nil, ← hr]; exact i5⟩, seenM_put h2 e he, h3.keep (fun g' cs h => ?_), fun j hj => ?_, h5, h6⟩
  · rw [Below.heap_setCell _ _ _ _ (by show w.heap.size ≠ g; omega)]; exact i1
  · rw [List.append_nil, ← hr]
    refine ⟨i2.1, ?_⟩
    have hb := big_apart i2 h2 (by simpa [seenM] using hq)
    rcases i2.2 with h | ⟨g', cap, cur, e1, e2, e3, e4⟩
    · exact .inl h
    · refine .inr ⟨g', cap, cur, e1, e2, ?_, e4⟩
      rw [Below.heap_setCell _ _ _ _ (by
        show g' ≠ g
        intro eq
        rw [e1] at hb
        exact hb (by simp [Value.ownBlock, eq]))]
      exact e3
  · rw [Below.heap_setCell _ _ _ _ (by
      show g' ≠ g
      intro eq
      subst eq
      rw [h2] at h
      cases h)]
    exact h
  · by_cases ej : j = k
    · subst ej; exact ho
    · exact h4 j (by omega)
theorem all_iff (m : Nat) (l : List Int) (h : Ent m l) : (List.range m).all (fun j : Nat => decide ((j : Int) ∈ l)) = decide (m ≤ l.length) := by
  by_cases c : m ≤ l.length
  · rw [decide_eq_true c, List.all_eq_true]
    intro j hj
    have := ent_le h
    rw [List.mem_range] at hj
    exact decide_eq_true (ent_all h (by omega) (j : Int) (by simp [numB]; omega))
  · rw [decide_eq_false c, Bool.eq_false_iff]
    intro ha
    rw [List.all_eq_true] at ha
    have := sub_len (nums m) l (by
      unfold nums
      unfold List.Nodup
      rw [List.pairwise_map]
      exact List.Pairwise.imp (fun {a b} (h : a ≠ b) => by omega) (List.nodup_range (n := m))) (fun x hx => by
      simp only [nums, List.mem_map, List.mem_range] at hx
      obtain ⟨i, hi, rfl⟩ := hx
      simpa using ha i (List.mem_range.2 hi))
    simp [nums] at this
    omega
end ST
end Go.Proofs.YtmpamcdobhiipaaGreatDoor
