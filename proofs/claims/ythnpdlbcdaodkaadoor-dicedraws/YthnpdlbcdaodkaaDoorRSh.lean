/-
  The document's Shuffle: the order that comes of answers, and what was asked.
-/
import Derived.Test.YthnpdlbcdaodkaaDoorPermD
namespace Go.Proofs.YthnpdlbcdaodkaaDoor
open Go.RowKit

theorem rows_ne {w : World} {b b' e1 e2 s1 s2 : Nat} {v u : Value} {n m : Nat} {xs ys : List Value} (h : w.ownsRow b e1 s1 v n xs) (k : w.ownsRow b' e2 s2 u m ys) (hne : e1 ≠ e2) : v.ownBlock = none ∨ v.ownBlock ≠ u.ownBlock := by
  rcases h.2 with ⟨rfl, _⟩ | ⟨g, cap, cur, rfl, _, h1, _⟩
  · exact .inl rfl
  · right
    rcases k.2 with ⟨rfl, _⟩ | ⟨g', cap', cur', rfl, _, h2, _⟩
    · intro e; cases e
    · intro e
      cases e
      rw [h1] at h2
      cases h2
      exact hne rfl
theorem row_some {w : World} {b e s n : Nat} {v : Value} {xs : List Value} (h : w.ownsRow b e s v n xs) (hn : 0 < n) : ∃ g cap, b ≤ g ∧ v = .slice (some ⟨g, 0, none⟩) n cap := by
  rcases h.2 with ⟨rfl, h0⟩ | ⟨g, cap, cur, rfl, hb, _⟩
  · omega
  · exact ⟨g, cap, hb, rfl⟩
theorem map_iv_get (l : List Nat) (j : Nat) (h : j < l.length) : (l.map iv)[j]? = some (.int .i64 ((l.getD j 0 : Nat) : Int)) := by
  simp [List.getD, h, iv]

set_option maxRecDepth 100000 in
set_option maxHeartbeats 1000000 in
theorem firstI (n : Nat) (w : World) (hm : n ≤ 65536) :
    Calls Tryd.prog 51 #[.int .i64 n] w fun e w' => ∃ v, e = .returned v ∧ w'.ownsRow w.heap.size 3 1 v n ((List.range n).map iv) ∧ Up w w' := by
  obtain ⟨i3, hi3, z0, z1, z2⟩ := info_parts info3
  obtain ⟨Post, hPost⟩ : ∃ P : Ending → World → Prop, P = fun e w' => ∃ v, e = .returned v ∧ w'.ownsRow w.heap.size 3 1 v n ((List.range n).map iv) ∧ Up w w' := ⟨_, rfl⟩
  rw [← hPost]
  have HPost : Hid (Post = fun e w' => ∃ v, e = .returned v ∧ w'.ownsRow w.heap.size 3 1 v n ((List.range n).map iv) ∧ Up w w') := hPost
  clear hPost
  have hO0 : w.ownsRow w.heap.size 3 1 (.slice none 0 0) 0 [] := World.ownsRow_nil _ _ _ _
  go_enter Tryd.func51, Tryd.ntmps51
  go_wp2_with fail
  go_loopw [3, 4] (fun lv i wr => ∃ k : Nat, k ≤ n ∧ i = .int .i64 k ∧ wr.ownsRow w.heap.size 3 1 lv k ((List.range k).map iv) ∧ Up w wr) (fun _ i _ => n - (intOf i).toNat)
  case atStart => exact ⟨0, Nat.zero_le _, rfl, hO0, Up.refl _⟩
  case round =>
    obtain ⟨k, hk, rfl, hr, hup⟩ := hrel
    clear hO0
    by_cases hlt : k < n
    · have hki : (k : Int) < (n : Int) := by omega
      obtain ⟨ad, lcap, rfl⟩ := row_val hr
      have hrA := hr.alloc (.cells #[.int .i64 (k : Int)] 3)
      have hsz := hup.size
      have HU : Hid (Up w (wr.alloc (.cells #[.int .i64 (k : Int)] 3))) := hup.alloc _
      have HR : Hid (wr.ownsRow w.heap.size 3 1 (.slice ad k lcap) k ((List.range k).map iv)) := hr
      clear hup hr
      go_wp2_with (at_builtin; refine wpList_append_own _ rfl (.tmp 10) (.tmp 12) 65 rfl w.heap.size 3 i3 (.int .i64 0) 1 8 Tryd.underlying65 hi3 z0 z1 z2 rfl (by decide) _ _ _ rfl hrA ⟨wr.heap.size, 0, none⟩ 1 1 [.int .i64 (k : Int)] rfl rfl ?c1 (ones [(k : Int)]) ?c3 ?c4 ?c5 ?_)
      case c1 =>
        intro j u hj
        cases j with
        | zero => rw [Addr.add_mid, ← hj]; exact cell_fresh wr _ 3 _ rfl
        | succ j => simp at hj
      case c3 => unfold maxLen; omega
      case c4 => omega
      case c5 => simp; omega
      intro v' W1 hown hgrow _
      have hU2 : Up w W1 := Below.grown HU.out hgrow HU.out.size (fun k hk => (HR.out.lt k hk).1)
      have hown2 : W1.ownsRow w.heap.size 3 1 v' (k + 1) ((List.range (k + 1)).map iv) := by
        rw [List.range_succ, List.map_append]; exact hown
      clear hown hgrow HU hrA HR
      go_wp2
      go_roundw
      case rel => first | exact ⟨k + 1, by omega, by go_num, hown2, hU2⟩ | ((repeat apply Exists.intro); exact ⟨⟨k + 1, by omega, by go_num, hown2, hU2⟩, rfl⟩)
      case measure => simp [intOf]; omega
    · obtain rfl : k = n := by omega
      have HF : Hid (Post (.returned u3) wr) := by unfold Hid; rw [HPost.out]; exact ⟨u3, rfl, hr, hup⟩
      clear hr hup
      go_wp2
      exact HF.out
/- what the two rows are between two rounds -/
def TwoQ (w : World) (lv av : Value) (n : Nat) (cur : List Nat) (qs : List Int) (wr : World) : Prop :=
  wr.ownsRow w.heap.size 3 1 lv n (cur.map iv) ∧ wr.ownsRow w.heap.size 2 1 av qs.length (qs.map (Value.int .i64)) ∧ Up w wr
theorem TwoQ.cell {w : World} {av : Value} {g cap n : Nat} {cur : List Nat} {qs : List Int} {wr : World} (h : TwoQ w (.slice (some ⟨g, 0, none⟩) n cap) av n cur qs wr) (hl : cur.length = n) (j : Nat) (hj : j < n) : wr.cell? ⟨g, j, none⟩ = some (.int .i64 ((cur.getD j 0 : Nat) : Int)) := by
  rw [h.1.cellAt j (by omega), map_iv_get cur j (by omega)]
theorem TwoQ.app {w wr w' : World} {lv av v' : Value} {n : Nat} {cur : List Nat} {qs : List Int} {x : Int} {o : Obj} (h : TwoQ w lv av n cur qs wr) (hown : w'.ownsRow w.heap.size 2 1 v' (qs.length + 1) (qs.map (Value.int .i64) ++ [.int .i64 x])) (hg : (wr.alloc o).grownBy w' av.ownBlock) :
    TwoQ w lv v' n cur (qs ++ [x]) w' := by
  obtain ⟨h1, h2, h3⟩ := h
  refine ⟨(h1.alloc o).kept hg (rows_ne h1 h2 (by decide)), ?_, Below.grown (h3.alloc o) hg (h3.alloc o).size (fun k hk => (h2.lt k hk).1)⟩
  rw [List.map_append, List.length_append]
  exact hown
theorem TwoQ.swap {w wr : World} {av : Value} {g cap n : Nat} {cur : List Nat} {qs : List Int} (h : TwoQ w (.slice (some ⟨g, 0, none⟩) n cap) av n cur qs wr) (hb : w.heap.size ≤ g) (i j : Nat) :
    TwoQ w (.slice (some ⟨g, 0, none⟩) n cap) av n (swp cur i j) qs ((wr.setCell ⟨g, i, none⟩ (.int .i64 ((cur.getD j 0 : Nat) : Int))).setCell ⟨g, j, none⟩ (.int .i64 ((cur.getD i 0 : Nat) : Int))) := by
  obtain ⟨h1, h2, h3⟩ := h
  have hne := rows_ne h2 h1 (by decide)
  have hne' : av.ownBlock ≠ some g := by
    rcases hne with e | e
    · rw [e]; intro h; cases h
    · exact e
  refine ⟨?_, ownsRow_setCell_other (ownsRow_setCell_other h2 hne' _) hne' _, Below.setCell (Below.setCell h3 hb _) hb _⟩
  have := ((h1.stored i (.int .i64 ((cur.getD j 0 : Nat) : Int))).1.stored j (.int .i64 ((cur.getD i 0 : Nat) : Int))).1
  have e : (swp cur i j).map iv = ((cur.map iv).set i (.int .i64 ((cur.getD j 0 : Nat) : Int))).set j (.int .i64 ((cur.getD i 0 : Nat) : Int)) := by
    unfold swp
    rw [List.map_set, List.map_set]; rfl
  rw [e]
  exact this
theorem rshuffleLow (n : Int) (u : Value) (w : World) (h : n < 0 ∨ 65536 < n) :
    Calls Tryd.prog 14 #[.int .i64 n, u] w fun e w' => e = .returned (.tuple #[.slice none 0 0, .bool false, .slice none 0 0]) ∧ w' = w := by
  obtain ⟨Post, hPost⟩ : ∃ P : Ending → World → Prop, P = fun e w' => e = .returned (.tuple #[.slice none 0 0, .bool false, .slice none 0 0]) ∧ w' = w := ⟨_, rfl⟩
  rw [← hPost]
  have HPost : Hid (Post = fun e w' => e = .returned (.tuple #[.slice none 0 0, .bool false, .slice none 0 0]) ∧ w' = w) := hPost
  clear hPost
  rcases h with h | h
  · go_enter Tryd.func14, Tryd.ntmps14
    go_wp2
    rw [HPost.out]
    exact ⟨rfl, rfl⟩
  · have h0 : ¬ n < 0 := by omega
    go_enter Tryd.func14, Tryd.ntmps14
    go_wp2
    rw [HPost.out]
    exact ⟨rfl, rfl⟩
def RShPost (w : World) (n : Nat) (r : Option (List Nat)) (qs : List Int) (e : Ending) (w' : World) : Prop :=
  ∃ av, w'.ownsRow w.heap.size 2 1 av qs.length (qs.map (Value.int .i64)) ∧ Up w w' ∧
  match r with
  | some l => ∃ lv, w'.ownsRow w.heap.size 3 1 lv n (l.map iv) ∧ e = .returned (.tuple #[lv, .bool true, av])
  | none => e = .returned (.tuple #[.slice none 0 0, .bool false, av])
def RRel (w : World) (n : Nat) (rs : List (Int × Bool)) (R1 : Option (List Nat)) (R2 : List Int) (lv av i : Value) (wr : World) : Prop :=
  ∃ (m : Nat) (cur : List Nat) (qs : List Int), m ≤ n ∧ qs.length + m ≤ n ∧ cur.length = n ∧ i = .int .i64 ((m : Int) - 1) ∧ (run (m - 1) (rs.drop qs.length) cur = R1 ∧ qs ++ qsT (m - 1) (rs.drop qs.length) = R2) ∧ TwoQ w lv av n cur qs wr
set_option maxRecDepth 100000 in
set_option maxHeartbeats 2000000 in
theorem rshuffle (n : Nat) (u : Value) (rs : List (Int × Bool)) (w : World) (hn : n ≤ 65536) (hl : AnsL w.heap.size w.heap.size w u rs) :
    Calls Tryd.prog 14 #[.int .i64 n, u] w (RShPost w n (run (n - 1) rs (List.range n)) (qsT (n - 1) rs)) := by
  obtain ⟨i2, hi2, z0, z1, z2⟩ := info_parts info2
  obtain ⟨R1, hR1⟩ : ∃ R, R = run (n - 1) rs (List.range n) := ⟨_, rfl⟩
  obtain ⟨R2, hR2⟩ : ∃ R, R = qsT (n - 1) rs := ⟨_, rfl⟩
  rw [← hR1, ← hR2]
  have HR : Hid (run (n - 1) (rs.drop 0) (List.range n) = R1 ∧ [] ++ qsT (n - 1) (rs.drop 0) = R2) := by
    refine ⟨?_, ?_⟩
    · rw [List.drop_zero, hR1]
    · rw [List.drop_zero, hR2, List.nil_append]
  clear hR1 hR2
  obtain ⟨Post, hPost⟩ : ∃ P : Ending → World → Prop, P = RShPost w n R1 R2 := ⟨_, rfl⟩
  rw [← hPost]
  have HPost : Hid (Post = RShPost w n R1 R2) := hPost
  clear hPost
  obtain ⟨ldd, lcap, rfl, hlc⟩ := hl
  have HLC : Hid (rs.length ≠ 0 → ∃ b off, ldd = some ⟨b, off, none⟩ ∧ b ≠ w.heap.size ∧ b < w.heap.size ∧ ∀ i, i < rs.length → w.cell? ⟨b, off + i * 2, none⟩ = some (.int .i64 (rs.getD i (0, true)).1) ∧ w.cell? ⟨b, off + i * 2 + 1, none⟩ = some (.bool (rs.getD i (0, true)).2)) := hlc
  clear hlc
  go_enter Tryd.func14, Tryd.ntmps14
  go_wp2_with fail
  refine (firstI n w hn).mono ?_
  rintro e w1 ⟨lv, rfl, hrow, hup⟩
  obtain ⟨lad, lcp, rfl⟩ := row_val hrow
  have HT : Hid (TwoQ w (.slice lad n lcp) (.slice none 0 0) n (List.range n) [] w1) := ⟨hrow, World.ownsRow_nil _ _ _ _, hup⟩
  clear hrow hup
  go_wp2_with fail
  go_loopw [7, 9] (fun av i wr => RRel w n rs R1 R2 (.slice lad n lcp) av i wr) (fun _ i _ => (intOf i).toNat)
  case atStart => exact ⟨n, List.range n, [], Nat.le_refl _, by simp, by simp, by go_num, HR.out, HT.out⟩
  case round =>
    obtain ⟨m, cur, qs, hmn, hqm, hl, rfl, hrun, htw⟩ := hrel
    clear HT HR
    have HRU : Hid (run (m - 1) (rs.drop qs.length) cur = R1 ∧ qs ++ qsT (m - 1) (rs.drop qs.length) = R2) := hrun
    have HT : Hid (TwoQ w (.slice lad n lcp) u7 n cur qs wr) := htw
    clear hrun htw
    by_cases h2 : m < 2
    · have h2' : (m : Int) - 1 < 1 := by omega
      have HF : Hid (Post (.returned (.tuple #[.slice lad n lcp, .bool true, u7])) wr) := by
        unfold Hid; rw [HPost.out]
        obtain ⟨g1, g2⟩ := HRU.out
        rw [show m - 1 = 0 by omega, run] at g1
        rw [show m - 1 = 0 by omega, qsT, List.append_nil] at g2
        subst g1 g2
        exact ⟨u7, HT.out.2.1, HT.out.2.2, _, HT.out.1, rfl⟩
      clear HRU HT
      go_wp2
      exact HF.out
    · obtain ⟨q, rfl⟩ : ∃ q, m = q + 2 := ⟨m - 2, by omega⟩
      have hq : ((q + 2 : Nat) : Int) - 1 = (q : Int) + 1 := by omega
      rw [hq]
      have hq1 : (1 : Int) ≤ (q : Int) + 1 := by omega
      obtain ⟨g, gcap, hgb, hge⟩ := row_some HT.out.1 (by omega)
      simp only [Value.slice.injEq, true_and] at hge
      obtain ⟨rfl, rfl⟩ := hge
      obtain ⟨ad, acap, rfl⟩ := row_val HT.out.2.1
      have hrA := HT.out.2.1.alloc (.cells #[.int .i64 ((q : Int) + 1 + 1)] 2)
      have hsz := HT.out.2.2.size
      have hql : qs.length ≤ 65536 := by omega
      have HU : Hid (run (q + 1) (rs.drop qs.length) cur = R1 ∧ qs ++ qsT (q + 1) (rs.drop qs.length) = R2) := HRU.out
      clear HRU
      go_wp2_with (at_builtin; refine wpList_append_own _ rfl (.tmp 29) (.tmp 32) 62 rfl w.heap.size 2 i2 (.int .i64 0) 1 8 Tryd.underlying62 hi2 z0 z1 z2 rfl (by decide) _ _ _ rfl hrA ⟨wr.heap.size, 0, none⟩ 1 1 [.int .i64 ((q : Int) + 1 + 1)] rfl rfl ?c1 (ones [(q : Int) + 1 + 1]) ?c3 ?c4 ?c5 ?_)
      case c1 =>
        intro j u hj
        cases j with
        | zero => rw [Addr.add_mid, ← hj]; exact cell_fresh wr _ 2 _ rfl
        | succ j => simp at hj
      case c3 => unfold maxLen; omega
      case c4 => omega
      case c5 => simp; omega
      intro v' W1 hown hgrow _
      have htw := TwoQ.app (o := .cells #[.int .i64 ((q : Int) + 1 + 1)] 2) HT.out hown hgrow
      clear hown hgrow hrA HT
      obtain ⟨oad, ocap, rfl⟩ : ∃ oad ocap, v' = .slice oad (qs.length + 1) ocap := by
        obtain ⟨x, y, e⟩ := row_val htw.2.1
        exact ⟨x, y, by rw [e, List.length_append]; rfl⟩
      have HT : Hid (TwoQ w (.slice (some ⟨g, 0, none⟩) n lcp) (.slice oad (qs.length + 1) ocap) n cur (qs ++ [(q : Int) + 1 + 1]) W1) := htw
      have hbad : ∀ r : Option (List Nat), r = R1 → r = none → qs ++ [(q : Int) + 1 + 1] = R2 → Post (.returned (.tuple #[.slice none 0 0, .bool false, .slice oad (qs.length + 1) ocap])) W1 := by
        intro r e1 e2 e3
        rw [HPost.out, ← e1, e2, ← e3]
        exact ⟨_, HT.out.2.1, HT.out.2.2, rfl⟩
      have HBAD : Hid (∀ r : Option (List Nat), r = R1 → r = none → qs ++ [(q : Int) + 1 + 1] = R2 → Post (.returned (.tuple #[.slice none 0 0, .bool false, .slice oad (qs.length + 1) ocap])) W1) := hbad
      clear hbad htw
      by_cases hlt : qs.length < rs.length
      · have hli : ¬ (rs.length : Int) ≤ (qs.length : Int) := by omega
        have hl4 : (qs.length : Int) < (rs.length : Int) := by omega
        obtain ⟨b, off, rfl, _, _, hc⟩ := HLC.out (by omega)
        obtain ⟨x0, x1⟩ := hc qs.length hlt
        have y0 := HT.out.2.2.cell x0
        have y1 := HT.out.2.2.cell x1
        clear hc x0 x1
        have hdr := List.drop_eq_getElem_cons hlt
        have hgd : rs.getD qs.length (0, true) = rs[qs.length] := by simp [List.getD, hlt]
        rw [hgd] at y0 y1
        have HU2 : Hid ((if right (rs[qs.length].1, !rs[qs.length].2) (q + 1) = true then run q (rs.drop (qs.length + 1)) (swp cur (q + 1) rs[qs.length].1.toNat) else none) = R1 ∧ qs ++ ((((q + 1 : Nat) : Int) + 1) :: (if right (rs[qs.length].1, !rs[qs.length].2) (q + 1) = true then qsT q (rs.drop (qs.length + 1)) else [])) = R2) := by
          have := HU.out
          rw [hdr, run, qsT] at this
          exact this
        clear HU hdr hgd
        generalize rs[qs.length] = r at *
        obtain ⟨rn, ro⟩ := r
        generalize hn2 : rs.length = m2 at *
        by_cases hgood : right (rn, !ro) (q + 1) = true
        · obtain ⟨hro, h0, h1⟩ := (right_iff _ _ _).1 hgood
          have hro' : ro = false := by simpa using hro
          subst hro'
          obtain ⟨p, rfl⟩ := Int.eq_ofNat_of_zero_le h0
          have hpq : p ≤ q + 1 := by omega
          have hn0 : ¬ (p : Int) < 0 := by omega
          have hn1 : ¬ (q : Int) + 1 < (p : Int) := by omega
          have ci := HT.out.cell hl (q + 1) (by omega)
          have cj := HT.out.cell hl p (by omega)
          have fi := HT.out.1.frozenAt (q + 1)
          have htw2 := HT.out.swap hgb (q + 1) p
          have hs1 := (HT.out.1.stored (q + 1) (.int .i64 ((cur.getD p 0 : Nat) : Int))).1
          have fj2 := hs1.frozenAt p
          have cj2 := hs1.cellAt p (by omega)
          rw [show ((cur.map iv).set (q + 1) (.int .i64 ((cur.getD p 0 : Nat) : Int)))[p]? = some (.int .i64 (((cur.set (q + 1) (cur.getD p 0)).getD p 0 : Nat) : Int)) by
            have := map_iv_get (cur.set (q + 1) (cur.getD p 0)) p (by simp; omega)
            rw [List.map_set] at this
            exact this] at cj2
          have HT3 : Hid (TwoQ w (.slice (some ⟨g, 0, none⟩) n lcp) (.slice oad (qs.length + 1) ocap) n (swp cur (q + 1) p) (qs ++ [(q : Int) + 1 + 1]) _) := htw2
          have HQ : Hid (run q (rs.drop (qs ++ [(q : Int) + 1 + 1]).length) (swp cur (q + 1) p) = R1 ∧ (qs ++ [(q : Int) + 1 + 1]) ++ qsT q (rs.drop (qs ++ [(q : Int) + 1 + 1]).length) = R2) := by
            obtain ⟨g1, g2⟩ := HU2.out
            rw [if_pos hgood] at g1 g2
            rw [List.length_append, List.length_singleton]
            refine ⟨g1, ?_⟩
            rw [← g2, List.append_assoc]; rfl
          clear htw2 hs1 HT HU2 hgood hro HBAD
          generalize cur.getD p 0 = xj at *
          generalize cur.getD (q + 1) 0 = xi at *
          generalize (cur.set (q + 1) xj).getD p 0 = xk at *
          have hjk : (p : Int) < (n : Int) := by omega
          have hqk : (q : Int) + 1 < (n : Int) := by omega
          go_wp2
          go_roundw
          case rel => first | exact ⟨q + 1, swp cur (q + 1) p, qs ++ [(q : Int) + 1 + 1], by omega, by rw [List.length_append, List.length_singleton]; omega, by rw [swp_len]; exact hl, by first | rfl | go_num, HQ.out, HT3.out⟩ | ((repeat apply Exists.intro); exact ⟨⟨q + 1, swp cur (q + 1) p, qs ++ [(q : Int) + 1 + 1], by omega, by rw [List.length_append, List.length_singleton]; omega, by rw [swp_len]; exact hl, by first | rfl | go_num, HQ.out, HT3.out⟩, rfl, rfl, rfl, rfl, rfl⟩)
          case measure => first | (simp [intOf]; done) | (simp [intOf]; omega)
        · have HF : Hid (Post (.returned (.tuple #[.slice none 0 0, .bool false, .slice oad (qs.length + 1) ocap])) W1) := by
            obtain ⟨g1, g2⟩ := HU2.out
            rw [if_neg hgood] at g1 g2
            exact HBAD.out _ g1 rfl g2
          have hb2 : ro = true ∨ (ro = false ∧ (rn < 0 ∨ (¬ rn < 0 ∧ (q : Int) + 1 < rn))) := by
            cases ro
            · right
              refine ⟨rfl, ?_⟩
              by_cases hj : rn < 0
              · exact .inl hj
              · refine .inr ⟨hj, ?_⟩
                apply Classical.byContradiction
                intro hle
                exact hgood ((right_iff _ _ _).2 ⟨rfl, by omega, by omega⟩)
            · exact .inl rfl
          clear HU2 HBAD hgood HT
          rcases hb2 with rfl | ⟨rfl, hj | ⟨hj, hj2⟩⟩
          · go_wp2
            exact HF.out
          · go_wp2
            exact HF.out
          · go_wp2
            exact HF.out
      · have hli : (rs.length : Int) ≤ (qs.length : Int) := by omega
        have HF : Hid (Post (.returned (.tuple #[.slice none 0 0, .bool false, .slice oad (qs.length + 1) ocap])) W1) := by
          obtain ⟨g1, g2⟩ := HU.out
          rw [List.drop_of_length_le (by omega), run] at g1
          rw [List.drop_of_length_le (by omega), qsT] at g2
          exact HBAD.out _ g1 rfl g2
        clear HU HBAD HT
        go_wp2
        exact HF.out
end Go.Proofs.YthnpdlbcdaodkaaDoor
