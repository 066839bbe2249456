/-
  Who answers what stands in a list, one behind the other, and keeps what was asked.
-/
import Derived.Test.YthnpdlbcdaodkaaDoorLiveB
import Derived.Test.YthnpdlbcdaodkaaDoorProd
import Derived.Laws.AppendOwnNone
import Derived.Deep.MidRow
namespace Go.Proofs.YthnpdlbcdaodkaaDoor
open Go.RowKit

/- a list of answers in memory, in a block that is not a -/
def AnsL (a N : Nat) (W : World) (v : Value) (rs : List (Int × Bool)) : Prop := ∃ ad cap, v = .slice ad rs.length cap ∧ (rs.length ≠ 0 → ∃ b off, ad = some ⟨b, off, none⟩ ∧ b ≠ a ∧ b < N ∧ ∀ i, i < rs.length → W.cell? ⟨b, off + i * 2, none⟩ = some (.int .i64 (rs.getD i (0, true)).1) ∧ W.cell? ⟨b, off + i * 2 + 1, none⟩ = some (.bool (rs.getD i (0, true)).2))
theorem AnsL.only {a N : Nat} {W W' : World} {v : Value} {rs : List (Int × Bool)} (h : AnsL a N W v rs) (hN : N ≤ W.heap.size) (o : Only a W W') : AnsL a N W' v rs := by
  obtain ⟨ad, cap, rfl, h⟩ := h
  refine ⟨ad, cap, rfl, fun hn => ?_⟩
  obtain ⟨b, off, ha, hne, hb, hc⟩ := h hn
  refine ⟨b, off, ha, hne, hb, fun i hi => ?_⟩
  have e := o.2.2 b (by omega) hne
  rw [World.cell?_of_block (w := W) (w' := W') (a := ⟨b, off + i * 2, none⟩) e, World.cell?_of_block (w := W) (w' := W') (a := ⟨b, off + i * 2 + 1, none⟩) e]
  exact hc i hi
def Asker (a : Nat) (lv : Value) (w0 : World) (qs : List Int) (W : World) : Prop :=
  (∃ av, W.heap[a]? = some (.cells #[lv, av] 64 (0, 0)) ∧ W.ownsRow w0.heap.size 2 1 av qs.length (qs.map (Value.int .i64))) ∧ Only a w0 W
theorem Asker.drewN {a : Nat} {lv : Value} {w0 : World} {qs : List Int} {W : World} (h : Asker a lv w0 qs W) (n : Nat) : Asker a lv w0 qs (W.drewN n) := h
theorem KeepI.drewN {W W' : World} (h : KeepI W W') (n : Nat) : KeepI W (W'.drewN n) := h
theorem Below.drewN' {B : Nat} {W W' : World} (h : Below B W W') (n : Nat) : Below B W (W'.drewN n) := ⟨h.os, h.tape, h.output, h.size, h.block⟩
def askA (rs : List (Int × Bool)) (qs : List Int) (_i : Nat) : Int × Bool := if qs.length < rs.length then ((rs.getD qs.length (0, true)).1, !(rs.getD qs.length (0, true)).2) else (0, false)
def nxtA (qs : List Int) (i : Nat) : List Int := qs ++ [(i : Int) + 1]
theorem info2 : (Tryd.prog.info? 2).map (fun i => (i.zero, i.size, i.bytes)) = some (some (.int .i64 0), 1, 8) := by kernel_rfl
theorem two_cells {W : World} {a : Nat} {x y : Value} {t : TypeId} (h : W.heap[a]? = some (.cells #[x, y] t (0, 0))) : W.cell? ⟨a, 0, none⟩ = some x ∧ W.cell? ⟨a, 1, none⟩ = some y ∧ W.frozen? ⟨a, 1, none⟩ = false := by
  refine ⟨by simp [World.cell?, h], by simp [World.cell?, h], by simp [World.frozen?, h]⟩
theorem ones (qs : List Int) : ∀ u ∈ qs.map (Value.int .i64), u.oneCell' = true := by
  intro u hu
  obtain ⟨c, _, rfl⟩ := List.mem_map.1 hu
  rfl
theorem cell_fresh (W : World) (v : Value) (e n : Nat) (h : n = W.heap.size) : (W.alloc (.cells #[v] e)).cell? ⟨n, 0, none⟩ = some v := by subst h; simp
theorem row_val {w : World} {base e n : Nat} {v : Value} {xs : List Value} (h : w.ownsRow base e 1 v n xs) : ∃ ad cap, v = .slice ad n cap := by
  rcases h.2 with ⟨rfl, hn⟩ | ⟨g, cap, cur, rfl, _⟩
  · exact ⟨none, 0, by rw [hn]⟩
  · exact ⟨_, cap, rfl⟩
/- a store into the asker's second field, behind an append to its row -/
theorem asker_next {a : Nat} {lv v' : Value} {w0 W W1 : World} {qs : List Int} {x : Int} {o : Obj} {av : Value} (ha : a < w0.heap.size) (hb : W.heap[a]? = some (.cells #[lv, av] 64 (0, 0))) (hr : W.ownsRow w0.heap.size 2 1 av qs.length (qs.map (Value.int .i64))) (hO : Only a w0 W)
    (hown : W1.ownsRow w0.heap.size 2 1 v' (qs.length + 1) (qs.map (Value.int .i64) ++ [.int .i64 x])) (hgrow : (W.alloc o).grownBy W1 av.ownBlock) :
    W1.heap[a]? = some (.cells #[lv, av] 64 (0, 0)) ∧ Asker a lv w0 (qs ++ [x]) (W1.setCell ⟨a, 1, none⟩ v') ∧ KeepI W (W1.setCell ⟨a, 1, none⟩ v') ∧ Below a W (W1.setCell ⟨a, 1, none⟩ v') := by
  have hal : a < W.heap.size := Nat.lt_of_lt_of_le ha hO.2.1
  have hne : ∀ k, av.ownBlock = some k → w0.heap.size ≤ k := fun k hk => (hr.lt k hk).1
  have hB : Below w0.heap.size W W1 := Below.grown ((Below.refl _ W).alloc hO.2.1 o) hgrow (Nat.le_trans hO.2.1 (by simp)) hne
  have h1 : W1.heap[a]? = some (.cells #[lv, av] 64 (0, 0)) := by rw [hB.block a ha]; exact hb
  refine ⟨h1, ⟨⟨v', ?_, ?_⟩, ?_⟩, ?_, ?_⟩
  · simp only [World.setCell, Array.getElem?_modify]
    rw [h1]; simp
  · have := ownsRow_setCell_below hown (a := ⟨a, 1, none⟩) ha v'
    rw [List.length_append, List.map_append]
    exact this
  · have o1 : Only a w0 W1 := by
      refine ⟨⟨hB.os.trans hO.1.1, hB.tape.trans hO.1.2.1, hB.output.trans hO.1.2.2⟩, Nat.le_trans hO.2.1 hB.size, fun g hg hga => ?_⟩
      rw [hB.block g hg]; exact hO.2.2 g hg hga
    exact o1.set 1 v'
  · refine KeepI.setX ?_ v' (by intro cs fz e; have e : W1.heap[a]? = _ := e; rw [h1] at e; cases e)
    intro g cs fz e
    have hg : g < W.heap.size := (Array.getElem?_eq_some_iff.1 e).1
    have e2 : (W.alloc o).heap[g]? = some (.cells cs 3 fz) := by rw [Below.heap_alloc _ _ _ hg]; exact e
    by_cases hk : av.ownBlock = some g
    · exfalso
      rcases hr.2 with ⟨rfl, _⟩ | ⟨g', cap, cur, rfl, _, hh, _⟩
      · cases hk
      · cases hk
        rw [hh] at e; cases e
    · rw [hgrow.block g (Nat.lt_of_lt_of_le hg (by simp)) (fun h => hk h.symm)]; exact e2
  · exact Below.setCell (hB.mono (Nat.le_of_lt ha)) (Nat.le_refl _) v'
set_option maxRecDepth 100000 in
set_option maxHeartbeats 1000000 in
theorem ask (a : Nat) (lv : Value) (rs : List (Int × Bool)) (w0 W : World) (qs : List Int) (i : Nat) (ha : a < w0.heap.size) (hl : AnsL a w0.heap.size w0 lv rs) (h : Asker a lv w0 qs W) (hq : qs.length ≤ 65536) :
    Calls Tryd.prog 13 #[.pointer (some ⟨a, 0, none⟩), .int .i64 ((i : Int) + 1)] W fun e W' => e = .returned (.tuple #[.int .i64 (askA rs qs i).1, .bool (askA rs qs i).2]) ∧ Asker a lv w0 (nxtA qs i) W' ∧ KeepI W W' ∧ Below a W W' := by
  obtain ⟨i2, hi2, z0, z1, z2⟩ := info_parts info2
  obtain ⟨⟨av, hb, hr⟩, hO⟩ := h
  have hl2 := hl.only (Nat.le_refl _) hO
  obtain ⟨ad, cap, rfl⟩ := row_val hr
  obtain ⟨ldd, lcap, rfl, hlc⟩ := hl2
  obtain ⟨c0, c1, f1⟩ := two_cells hb
  have hrA := hr.alloc (.cells #[.int .i64 ((i : Int) + 1)] 2)
  have hsz : w0.heap.size ≤ W.heap.size := hO.2.1
  have hm : qs.length + 1 ≤ 65537 := by omega
  have HNX : Hid (∀ (v' : Value) (W1 : World), W1.ownsRow w0.heap.size 2 1 v' (qs.length + 1) (qs.map (Value.int .i64) ++ [.int .i64 ((i : Int) + 1)]) → (W.alloc (.cells #[.int .i64 ((i : Int) + 1)] 2)).grownBy W1 (Value.slice ad qs.length cap).ownBlock → _) := fun v' W1 h1 h2 => asker_next (o := .cells #[.int .i64 ((i : Int) + 1)] 2) ha hb hr hO h1 h2
  have HLC : Hid (∀ (W' : World), Only a w0 W' → AnsL a w0.heap.size W' (.slice ldd rs.length lcap) rs) := fun W' o => hl.only (Nat.le_refl _) o
  clear hlc hl hb
  go_enter Tryd.func13, Tryd.ntmps13
  go_wp2_with (at_builtin; refine wpList_append_own _ rfl (.tmp 16) (.tmp 18) 62 rfl w0.heap.size 2 i2 (.int .i64 0) 1 8 Tryd.underlying62 hi2 z0 z1 z2 rfl (by decide) _ _ _ rfl hrA ⟨W.heap.size, 0, none⟩ 1 1 [.int .i64 ((i : Int) + 1)] rfl rfl ?c1 (ones [(i : Int) + 1]) ?c3 ?c4 ?c5 ?_)
  case c1 =>
    intro j u hj
    cases j with
    | zero => rw [Addr.add_mid, ← hj]; exact cell_fresh W _ 2 _ rfl
    | succ j => simp at hj
  case c3 => unfold maxLen; omega
  case c4 => omega
  case c5 => simp; omega
  intro v' W1 hown hgrow _
  obtain ⟨hb1, hA2, hK2, hB2⟩ := HNX.out v' W1 hown hgrow
  obtain ⟨d0, d1, g1⟩ := two_cells hb1
  obtain ⟨ad', cap', rfl⟩ := row_val hown
  obtain ⟨⟨av2, hb2, _⟩, hO2⟩ := id hA2
  have k0 := (two_cells hb2).1
  have hl3 := HLC.out _ hO2
  obtain ⟨ld', lc', he, hlc⟩ := hl3
  simp only [Value.slice.injEq, true_and] at he
  obtain ⟨rfl, rfl⟩ := he
  have HF : Hid (Asker a (.slice ldd rs.length lcap) w0 (nxtA qs i) _ ∧ KeepI W _ ∧ Below a W _) := ⟨hA2, hK2, hB2⟩
  clear hA2 hK2 hB2 HNX HLC hb1 hb2 hO2 hown hgrow hrA hr c0 c1 f1
  by_cases hlt : qs.length < rs.length
  · have hli : ¬ (rs.length : Int) ≤ (qs.length : Int) := by omega
    have hl4 : (qs.length : Int) < (rs.length : Int) := by omega
    obtain ⟨b, off, rfl, _, _, hc⟩ := hlc (by omega)
    obtain ⟨x0, x1⟩ := hc qs.length hlt
    have HA : Hid (askA rs qs i = ((rs.getD qs.length (0, true)).1, !(rs.getD qs.length (0, true)).2)) := by unfold Hid askA; rw [if_pos hlt]
    generalize rs.getD qs.length (0, true) = r at *
    obtain ⟨rn, ro⟩ := r
    clear hc hlc
    generalize hn : qs.length = n at *
    generalize hn2 : rs.length = m at *
    go_wp2_with fail
    go_quiet (fail)
    go_wp2
    go_ret2
    subst hn hn2
    exact ⟨by rw [HA.out]; rfl, Asker.drewN HF.out.1 nq, KeepI.drewN HF.out.2.1 nq, Below.drewN' HF.out.2.2 nq⟩
  · have hli : (rs.length : Int) ≤ (qs.length : Int) := by omega
    have HA : Hid (askA rs qs i = (0, false)) := by unfold Hid askA; rw [if_neg hlt]
    clear hlc
    go_wp2
    go_ret2
    exact ⟨by rw [HA.out]; rfl, HF.out⟩
theorem asksA (a : Nat) (lv : Value) (rs : List (Int × Bool)) (w0 : World) (n : Nat) (hn : n ≤ 65536) (ha : a < w0.heap.size) (hl : AnsL a w0.heap.size w0 lv rs) :
    Asks w0.heap.size 13 #[.pointer (some ⟨a, 0, none⟩)] #[] a n (Asker a lv w0) (askA rs) nxtA (fun qs i => qs.length + i + 1 = n) := by
  refine ⟨?_, enters_of Tryd.func13 (by kernel_rfl) rfl, ?_, ?_⟩
  · intro qs i h
    unfold nxtA
    rw [List.length_append, List.length_singleton]
    omega
  · rintro qs W W' ⟨⟨av, hb, hr⟩, hO⟩ k
    refine ⟨⟨av, k.2.2 a _ hb (.inl ha), hr.1, ?_⟩, hO.keepX k (Nat.le_refl _)⟩
    rcases hr.2 with h | ⟨g, cap, cur, e1, e2, e3, e4⟩
    · exact .inl h
    · exact .inr ⟨g, cap, cur, e1, e2, k.2.2 g _ e3 (.inr (by intro cs fz e; cases e)), e4⟩
  · intro qs W i h hok hi1 hi2
    exact ask a lv rs w0 W qs i ha hl h (by omega)
theorem shuffleA (a : Nat) (lv : Value) (rs : List (Int × Bool)) (n : Nat) (w : World) (hn : n ≤ 65536) (hl : AnsL a w.heap.size w lv rs) (hb : w.heap[a]? = some (.cells #[lv, .slice none 0 0] 64 (0, 0))) :
    Calls Tryd.prog 12 #[.int .i64 n, .func (.func 13) #[.pointer (some ⟨a, 0, none⟩)] #[]] w (ShufPost w a (Asker a lv w) (shuf (askA rs) nxtA (n - 1) [] (List.range n))) := by
  have ha : a < w.heap.size := (Array.getElem?_eq_some_iff.1 hb).1
  exact shuffle _ _ _ a n (Asker a lv w) (askA rs) nxtA _ w (asksA a lv rs w n hn ha hl) [] ⟨⟨_, hb, World.ownsRow_nil _ _ _ _⟩, Only.refl _ _⟩ (fun h => by show 0 + (n - 1) + 1 = n; omega) hn (Nat.le_of_lt ha)
end Go.Proofs.YthnpdlbcdaodkaaDoor
