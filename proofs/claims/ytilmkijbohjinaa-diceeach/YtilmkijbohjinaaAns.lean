/-
  The answers by which an order comes: what the law's own reckoning does.
-/
import Derived.Test.YtilmkijbohjinaaIsO
namespace Go.Proofs.Ytilmkijbohjinaa
open Go.RowKit

def flatA (ps : List (Int × Bool)) : List Value := ps.flatMap fun r => [.int .i64 r.1, .bool r.2]
theorem flatA_len (ps : List (Int × Bool)) : (flatA ps).length = ps.length * 2 := by
  induction ps with
  | nil => rfl
  | cons r ps ih => show ([_, _] ++ flatA ps).length = _; rw [List.length_append, ih]; simp; omega
theorem flatA_app (ps qs : List (Int × Bool)) : flatA (ps ++ qs) = flatA ps ++ flatA qs := List.flatMap_append
theorem flatA_get (ps : List (Int × Bool)) : ∀ i, i < ps.length → (flatA ps)[i * 2]? = some (.int .i64 (ps.getD i (0, true)).1) ∧ (flatA ps)[i * 2 + 1]? = some (.bool (ps.getD i (0, true)).2) := by
  induction ps with
  | nil => intro i h; simp at h
  | cons r ps ih =>
    intro i h
    have e : flatA (r :: ps) = .int .i64 r.1 :: .bool r.2 :: flatA ps := rfl
    rw [e]
    cases i with
    | zero => exact ⟨rfl, rfl⟩
    | succ i =>
      have := ih i (by simpa using h)
      rw [show (i + 1) * 2 = i * 2 + 1 + 1 by omega]
      exact this
theorem ones2 (x : Int) (b : Bool) : ∀ u ∈ [Value.int .i64 x, .bool b], u.oneCell' = true := by
  intro u hu
  rcases List.mem_cons.1 hu with rfl | hu
  · rfl
  · rcases List.mem_cons.1 hu with rfl | hu
    · rfl
    · cases hu
theorem infoA : (Try.prog.info? 43).map (fun i => (i.zero, i.size, i.bytes)) = some (some (.agg #[.int .i64 0, .bool false]), 2, 16) := by kernel_rfl
theorem rows_ne {w : World} {b b' e1 e2 s1 s2 : Nat} {v u : Value} {n m : Nat} {xs ys : List Value} (h : w.ownsRow b e1 s1 v n xs) (k : w.ownsRow b' e2 s2 u m ys) (hne : e1 ≠ e2) : v.ownBlock = none ∨ v.ownBlock ≠ u.ownBlock := by
  rcases h.2 with ⟨rfl, _⟩ | ⟨g, cap, cur, rfl, _, h1, _⟩
  · exact .inl rfl
  · right
    rcases k.2 with ⟨rfl, _⟩ | ⟨g', cap', cur', rfl, _, h2, _⟩
    · intro e; cases e
    · intro e
      cases e
      rw [h1] at h2
      cases h2
      exact hne rfl
theorem row_some {w : World} {b e s n : Nat} {v : Value} {xs : List Value} (h : w.ownsRow b e s v n xs) (hn : 0 < n) : ∃ g cap, b ≤ g ∧ v = .slice (some ⟨g, 0, none⟩) n cap := by
  rcases h.2 with ⟨rfl, h0⟩ | ⟨g, cap, cur, rfl, hb, _⟩
  · omega
  · exact ⟨g, cap, hb, rfl⟩
theorem row_drewN {w : World} {b e s n : Nat} {v : Value} {xs : List Value} (h : w.ownsRow b e s v n xs) (k : Nat) : (w.drewN k).ownsRow b e s v n xs := h
theorem map_iv_get (l : List Nat) (j : Nat) (h : j < l.length) : (l.map iv)[j]? = some (.int .i64 ((l.getD j 0 : Nat) : Int)) := by
  simp [List.getD, h, iv]
def AnsPost (w : World) (t : List Nat) (e : Ending) (w' : World) : Prop := ∃ v, e = .returned v ∧ w'.ownsRow w.heap.size 43 2 v (ansP (t.length - 1) (List.range t.length) t).length (flatA (ansP (t.length - 1) (List.range t.length) t)) ∧ Up w w'
/- what the two rows are between two rounds -/
def TwoR (w : World) (lv ov : Value) (n : Nat) (cur : List Nat) (ps : List (Int × Bool)) (wr : World) : Prop :=
  wr.ownsRow w.heap.size 3 1 lv n (cur.map iv) ∧ wr.ownsRow w.heap.size 43 2 ov ps.length (flatA ps) ∧ Up w wr
theorem TwoR.drewN {w : World} {lv ov : Value} {n : Nat} {cur : List Nat} {ps : List (Int × Bool)} {wr : World} (h : TwoR w lv ov n cur ps wr) (k : Nat) : TwoR w lv ov n cur ps (wr.drewN k) := ⟨h.1, h.2.1, Up.drewN h.2.2 k⟩
theorem TwoR.cell {w : World} {ov : Value} {g cap n : Nat} {cur : List Nat} {ps : List (Int × Bool)} {wr : World} (h : TwoR w (.slice (some ⟨g, 0, none⟩) n cap) ov n cur ps wr) (hl : cur.length = n) (j : Nat) (hj : j < n) : wr.cell? ⟨g, j, none⟩ = some (.int .i64 ((cur.getD j 0 : Nat) : Int)) := by
  rw [h.1.cellAt j (by omega), map_iv_get cur j (by omega)]
theorem TwoR.app {w wr w' : World} {lv ov v' : Value} {n : Nat} {cur : List Nat} {ps : List (Int × Bool)} {x : Int} {o : Obj} (h : TwoR w lv ov n cur ps wr) (hown : w'.ownsRow w.heap.size 43 2 v' (ps.length + 1) (flatA ps ++ [.int .i64 x, .bool false])) (hg : (wr.alloc o).grownBy w' ov.ownBlock) :
    TwoR w lv v' n cur (ps ++ [(x, false)]) w' := by
  obtain ⟨h1, h2, h3⟩ := h
  refine ⟨(h1.alloc o).kept hg (rows_ne h1 h2 (by decide)), ?_, Below.grown (h3.alloc o) hg (h3.alloc o).size (fun k hk => (h2.lt k hk).1)⟩
  rw [flatA_app, List.length_append]
  exact hown
theorem TwoR.swap {w wr : World} {ov : Value} {g cap n : Nat} {cur : List Nat} {ps : List (Int × Bool)} (h : TwoR w (.slice (some ⟨g, 0, none⟩) n cap) ov n cur ps wr) (hb : w.heap.size ≤ g) (i j : Nat) :
    TwoR w (.slice (some ⟨g, 0, none⟩) n cap) ov n (swp cur i j) ps ((wr.setCell ⟨g, i, none⟩ (.int .i64 ((cur.getD j 0 : Nat) : Int))).setCell ⟨g, j, none⟩ (.int .i64 ((cur.getD i 0 : Nat) : Int))) := by
  obtain ⟨h1, h2, h3⟩ := h
  have hne := rows_ne h2 h1 (by decide)
  have hne' : ov.ownBlock ≠ some g := by
    rcases hne with e | e
    · rw [e]; intro h; cases h
    · exact e
  refine ⟨?_, ownsRow_setCell_other (ownsRow_setCell_other h2 hne' _) hne' _, Below.setCell (Below.setCell h3 hb _) hb _⟩
  have := ((h1.stored i (.int .i64 ((cur.getD j 0 : Nat) : Int))).1.stored j (.int .i64 ((cur.getD i 0 : Nat) : Int))).1
  have e : (swp cur i j).map iv = ((cur.map iv).set i (.int .i64 ((cur.getD j 0 : Nat) : Int))).set j (.int .i64 ((cur.getD i 0 : Nat) : Int)) := by
    unfold swp
    rw [List.map_set, List.map_set]; rfl
  rw [e]
  exact this
theorem seek_stop (l : List Nat) (x m j : Nat) (h : l.getD j 0 = x) : seek l x m j = j := by
  cases m with
  | zero => rw [seek]
  | succ m => rw [seek, if_pos h]
theorem seek_go (l : List Nat) (x m j : Nat) (h : l.getD j 0 ≠ x) : seek l x (m + 1) j = seek l x m (j + 1) := by rw [seek, if_neg h]
set_option maxHeartbeats 2000000 in
theorem answersOf (v : Value) (t : List Nat) (w : World) (hv : LiesI w v (intsOf t)) (hm : t.length ≤ 65536) :
    Calls Try.prog 11 #[v] w (AnsPost w t) := by
  obtain ⟨i3, hi3, z0, z1, z2⟩ := info_parts info3
  obtain ⟨iA, hiA, y0, y1, y2⟩ := info_parts infoA
  obtain ⟨a, cap, rfl, h1⟩ := hv
  rw [intsOf_len] at h1
  have H1 : Hid (t.length ≠ 0 → ∃ b off, a = some ⟨b, off, none⟩ ∧ ∀ i, i < t.length → w.cell? ⟨b, off + i, none⟩ = some (.int .i64 ((intsOf t).getD i 0))) := h1
  rw [intsOf_len]
  clear h1
  obtain ⟨n, hn⟩ : ∃ n, n = t.length := ⟨_, rfl⟩
  obtain ⟨Post, hPost⟩ : ∃ P : Ending → World → Prop, P = AnsPost w t := ⟨_, rfl⟩
  rw [← hPost, ← hn]
  rw [← hn] at hm
  have HN : Hid (n = t.length) := hn
  have HPost : Hid (Post = AnsPost w t) := hPost
  clear hn hPost
  have hO0 : w.ownsRow w.heap.size 3 1 (.slice none 0 0) 0 [] := World.ownsRow_nil _ _ _ _
  go_enter Try.func11, Try.ntmps11
  go_wp2_with fail
  go_loopw [3, 5] (fun lv i wr => ∃ k : Nat, k ≤ n ∧ i = .int .i64 k ∧ wr.ownsRow w.heap.size 3 1 lv k ((List.range k).map iv) ∧ Up w wr) (fun _ i _ => n - (intOf i).toNat)
  case atStart => exact ⟨0, Nat.zero_le _, rfl, hO0, Up.refl _⟩
  case round =>
    obtain ⟨k, hk, rfl, hr, hup⟩ := hrel
    clear hO0
    by_cases hlt : k < n
    · have hki : (k : Int) < (n : Int) := by omega
      obtain ⟨ad, lcap, rfl⟩ := row_val hr
      have hrA := hr.alloc (.cells #[.int .i64 (k : Int)] 3)
      have hsz := hup.size
      have HU : Hid (Up w (wr.alloc (.cells #[.int .i64 (k : Int)] 3))) := hup.alloc _
      have HR : Hid (wr.ownsRow w.heap.size 3 1 (.slice ad k lcap) k ((List.range k).map iv)) := hr
      clear hup hr
      go_wp2_with (at_builtin; refine wpList_append_own _ rfl (.tmp 15) (.tmp 17) 27 rfl w.heap.size 3 i3 (.int .i64 0) 1 8 Try.underlying27 hi3 z0 z1 z2 rfl (by decide) _ _ _ rfl hrA ⟨wr.heap.size, 0, none⟩ 1 1 [.int .i64 (k : Int)] rfl rfl ?c1 (ones [(k : Int)]) ?c3 ?c4 ?c5 ?_)
      case c1 =>
        intro j u hj
        cases j with
        | zero => rw [Addr.add_mid, ← hj]; exact cell_fresh wr _ 3 _ rfl
        | succ j => simp at hj
      case c3 => unfold maxLen; omega
      case c4 => omega
      case c5 => simp; omega
      intro v' W1 hown hgrow _
      have hU2 : Up w W1 := Below.grown HU.out hgrow HU.out.size (fun k hk => (HR.out.lt k hk).1)
      have hown2 : W1.ownsRow w.heap.size 3 1 v' (k + 1) ((List.range (k + 1)).map iv) := by
        rw [List.range_succ, List.map_append]; exact hown
      clear hown hgrow HU hrA HR
      go_wp2
      go_roundw
      case rel => first | exact ⟨k + 1, by omega, by go_num, hown2, hU2⟩ | ((repeat apply Exists.intro); exact ⟨⟨k + 1, by omega, by go_num, hown2, hU2⟩, rfl⟩)
      case measure => simp [intOf]; omega
    · obtain rfl : k = n := by omega
      obtain ⟨lv, hlv⟩ : ∃ lv, lv = u3 := ⟨_, rfl⟩
      have HT : Hid (TwoR w u3 (.slice none 0 0) k (List.range k) [] wr) := ⟨hr, World.ownsRow_nil _ _ _ _, hup⟩
      clear hr hup hlv
      go_wp2
      go_loopw [4, 6] (fun ov i wr => ∃ (m : Nat) (cur : List Nat) (ps : List (Int × Bool)), m ≤ k ∧ cur.length = k ∧ i = .int .i64 ((m : Int) - 1) ∧ ps ++ ansP (m - 1) cur t = ansP (k - 1) (List.range k) t ∧ TwoR w u3 ov k cur ps wr) (fun _ i _ => (intOf i).toNat)
      case atStart => exact ⟨k, List.range k, [], Nat.le_refl _, by simp, by go_num, rfl, HT.out⟩
      case round =>
        obtain ⟨m, cur, ps, hmk, hl, rfl, hps, htw⟩ := hrel
        clear HT
        have HPS : Hid (ps ++ ansP (m - 1) cur t = ansP (k - 1) (List.range k) t) := hps
        have HT : Hid (TwoR w u3 u4 k cur ps wr) := htw
        clear hps htw
        by_cases h2 : m < 2
        · have h2' : (m : Int) - 1 < 1 := by omega
          have HF : Hid (Post (.returned u4) wr) := by
            unfold Hid; rw [HPost.out]
            have e := HPS.out
            rw [show m - 1 = 0 by omega, ansP, List.append_nil] at e
            refine ⟨u4, rfl, ?_, HT.out.2.2⟩
            rw [← HN.out, ← e]
            exact HT.out.2.1
          clear HPS HT
          go_wp2
          exact HF.out
        · obtain ⟨q, rfl⟩ : ∃ q, m = q + 2 := ⟨m - 2, by omega⟩
          have hq : ((q + 2 : Nat) : Int) - 1 = (q : Int) + 1 := by omega
          rw [hq]
          have hq1 : (1 : Int) ≤ (q : Int) + 1 := by omega
          obtain ⟨b, off, rfl, hc⟩ := H1.out (by have := HN.out; omega)
          have HC : Hid (∀ (wr : World), Up w wr → wr.cell? ⟨b, off + (q + 1), none⟩ = some (.int .i64 ((t.getD (q + 1) 0 : Nat) : Int))) := by
            intro wr u
            have := u.cell (hc (q + 1) (by have := HN.out; omega))
            rw [intsOf_getD] at this
            exact this
          clear hc
          obtain ⟨g, gcap, hgb, rfl⟩ := row_some HT.out.1 (by omega)
          obtain ⟨x, hx⟩ : ∃ x, x = t.getD (q + 1) 0 := ⟨_, rfl⟩
          obtain ⟨J, hJ⟩ : ∃ J, J = seek cur x (q + 1) 0 := ⟨_, rfl⟩
          have HJ : Hid (J = seek cur (t.getD (q + 1) 0) (q + 1) 0) := by unfold Hid; rw [← hx]; exact hJ
          rw [← hx] at HC
          have HJ2 : Hid (J = seek cur x (q + 1) 0) := hJ
          clear hx hJ
          go_wp2_with fail
          go_loopw [7] (fun s7 wr => ∃ j : Nat, j ≤ q + 1 ∧ s7 = .int .i64 j ∧ seek cur x (q + 1 - j) j = J ∧ TwoR w (.slice (some ⟨g, 0, none⟩) k gcap) u4 k cur ps wr) (fun s7 _ => q + 1 - (intOf s7).toNat)
          case atStart => exact ⟨0, Nat.zero_le _, rfl, HJ2.out.symm, HT.out⟩
          case round =>
            obtain ⟨j, hjq, rfl, hsk, htw⟩ := hrel
            clear HT HJ2
            have HSK : Hid (seek cur x (q + 1 - j) j = J) := hsk
            have HTX : Hid (TwoR w (.slice (some ⟨g, 0, none⟩) k gcap) u4 k cur ps wr) := htw
            have cx := HC.out wr htw.2.2
            have cl := htw.cell hl j (by omega)
            clear hsk htw
            have hjk0 : (j : Int) < (k : Int) := by omega
            have hqk0 : (q : Int) + 1 < (k : Int) := by omega
            by_cases hgo : j < q + 1
            · have hgo' : (j : Int) < (q : Int) + 1 := by omega
              have hd : decide ((j : Int) < (q : Int) + 1) = true := decide_eq_true hgo'
              by_cases hxe : cur.getD j 0 = x
              · have hJ : Hid (j = J) := by unfold Hid; rw [← HSK.out, seek_stop _ _ _ _ hxe]
                rw [hxe] at cl
                have e1 : ((x : Int) == (x : Int)) = true := by simp
                clear HSK
                go_wp2_with fail
                go_quiet (fail)
                obtain ⟨wr2, hw2⟩ : ∃ wr2, wr2 = wr.drewN nq := ⟨_, rfl⟩
                rw [← hw2]
                have hdd : TwoR w (.slice (some ⟨g, 0, none⟩) k gcap) u4 k cur ps wr2 := by rw [hw2]; exact HTX.out.drewN nq
                clear cx cl hw2 hxe e1 hd
                have HT2 : Hid (TwoR w (.slice (some ⟨g, 0, none⟩) k gcap) u4 k cur ps wr2) := hdd
                have hoA := HT2.out.2.1.alloc (.cells #[.int .i64 (j : Int), .bool false] 43)
                have hsz := HT2.out.2.2.size
                have hpl : ps.length ≤ 65536 := by
                  have h1 := congrArg List.length HPS.out
                  rw [List.length_append, ansP_len, ansP_len] at h1
                  omega
                have fr0 : (wr2.alloc (.cells #[.int .i64 (j : Int), .bool false] 43)).cell? ⟨wr2.heap.size, 0, none⟩ = some (.int .i64 (j : Int)) := by simp
                have fr1 : (wr2.alloc (.cells #[.int .i64 (j : Int), .bool false] 43)).cell? ⟨wr2.heap.size, 1, none⟩ = some (.bool false) := by simp
                clear HTX
                go_wp2_with (at_builtin; refine wpList_append_own _ rfl (.tmp 42) (.tmp 45) 29 rfl w.heap.size 43 iA (.agg #[.int .i64 0, .bool false]) 2 16 Try.underlying29 hiA y0 y1 y2 rfl (by decide) _ _ _ rfl hoA ⟨wr2.heap.size, 0, none⟩ 1 1 [.int .i64 (j : Int), .bool false] rfl rfl ?c1 (ones2 (j : Int) false) ?c3 ?c4 ?c5 ?_)
                case c1 =>
                  intro i u hj
                  rw [Addr.add_mid, Nat.zero_add]
                  cases i with
                  | zero => rw [← hj]; exact fr0
                  | succ i =>
                    cases i with
                    | zero => rw [← hj]; exact fr1
                    | succ i => simp at hj
                case c3 => unfold maxLen; omega
                case c4 => omega
                case c5 => simp; omega
                intro v' W1 hown hgrow _
                have htw := TwoR.app (o := .cells #[.int .i64 (j : Int), .bool false] 43) HT2.out hown hgrow
                clear hown hgrow hoA
                obtain ⟨oad, ocap, rfl⟩ : ∃ oad ocap, v' = .slice oad (ps.length + 1) ocap := by
                  have := htw.2.1
                  rcases this.2 with ⟨_, h0⟩ | ⟨g', cap', cur', rfl, _⟩
                  · simp at h0
                  · exact ⟨some ⟨g', 0, none⟩, cap', by rw [List.length_append]; rfl⟩
                have ci := htw.cell hl (q + 1) (by omega)
                have cj := htw.cell hl j (by omega)
                have fi := htw.1.frozenAt (q + 1)
                have htw2 := htw.swap hgb (q + 1) j
                have hs1 := (htw.1.stored (q + 1) (.int .i64 ((cur.getD j 0 : Nat) : Int))).1
                have fj2 := hs1.frozenAt j
                have cj2 := hs1.cellAt j (by omega)
                rw [show ((cur.map iv).set (q + 1) (.int .i64 ((cur.getD j 0 : Nat) : Int)))[j]? = some (.int .i64 (((cur.set (q + 1) (cur.getD j 0)).getD j 0 : Nat) : Int)) by
                  have := map_iv_get (cur.set (q + 1) (cur.getD j 0)) j (by simp; omega)
                  rw [List.map_set] at this
                  exact this] at cj2
                have HT3 : Hid (TwoR w (.slice (some ⟨g, 0, none⟩) k gcap) (.slice oad (ps.length + 1) ocap) k (swp cur (q + 1) j) (ps ++ [((j : Int), false)]) _) := htw2
                have HQ : Hid ((ps ++ [((j : Int), false)]) ++ ansP q (swp cur (q + 1) j) t = ansP (k - 1) (List.range k) t) := by
                  unfold Hid
                  rw [← HPS.out, show q + 2 - 1 = q + 1 from rfl, ansP, ← HJ.out, ← hJ.out, List.append_assoc]; rfl
                clear htw htw2 hs1 HT2 fr0 fr1 HPS
                generalize cur.getD j 0 = xj at *
                generalize cur.getD (q + 1) 0 = xi at *
                generalize (cur.set (q + 1) xj).getD j 0 = xk at *
                have hjk : (j : Int) < (k : Int) := by omega
                have hqk : (q : Int) + 1 < (k : Int) := by omega
                go_wp2
                go_roundw
                case rel => first | exact ⟨q + 1, swp cur (q + 1) j, ps ++ [((j : Int), false)], by omega, by rw [swp_len]; exact hl, by go_num, HQ.out, HT3.out⟩ | ((repeat apply Exists.intro); exact ⟨⟨q + 1, swp cur (q + 1) j, ps ++ [((j : Int), false)], by omega, by rw [swp_len]; exact hl, by go_num, HQ.out, HT3.out⟩, rfl⟩)
                case measure => simp [intOf]

              · have HN2 : Hid (seek cur x (q + 1 - (j + 1)) (j + 1) = J) := by
                  have := HSK.out
                  rw [show q + 1 - j = q + 1 - (j + 1) + 1 by omega, seek_go _ _ _ _ hxe] at this
                  exact this
                clear HSK
                generalize cur.getD j 0 = y at cl hxe
                have e1 : ((y : Int) == (x : Int)) = false := beq_eq_false_iff_ne.2 (by omega)
                clear hxe
                go_wp2_with fail
                go_quiet (fail)
                have HT2 : Hid (TwoR w (.slice (some ⟨g, 0, none⟩) k gcap) u4 k cur ps (wr.drewN nq)) := HTX.out.drewN nq
                go_wp2
                go_roundw
                case rel => first | exact ⟨j + 1, by omega, by go_num, HN2.out, HT2.out⟩ | ((repeat apply Exists.intro); exact ⟨⟨j + 1, by omega, by go_num, HN2.out, HT2.out⟩, rfl⟩)
                case measure => simp [intOf]; omega
            · have hJ : Hid (j = J) := by unfold Hid; rw [← HSK.out, show q + 1 - j = 0 by omega, seek]
              have hd : decide ((j : Int) < (q : Int) + 1) = false := decide_eq_false (by omega)
              clear HSK
              go_wp2_with fail
              go_quiet (fail)
              obtain ⟨wr2, hw2⟩ : ∃ wr2, wr2 = wr.drewN nq := ⟨_, rfl⟩
              rw [← hw2]
              have hdd : TwoR w (.slice (some ⟨g, 0, none⟩) k gcap) u4 k cur ps wr2 := by rw [hw2]; exact HTX.out.drewN nq
              clear cx cl hw2
              have HT2 : Hid (TwoR w (.slice (some ⟨g, 0, none⟩) k gcap) u4 k cur ps wr2) := hdd
              have hoA := HT2.out.2.1.alloc (.cells #[.int .i64 (j : Int), .bool false] 43)
              have hsz := HT2.out.2.2.size
              have hpl : ps.length ≤ 65536 := by
                have h1 := congrArg List.length HPS.out
                rw [List.length_append, ansP_len, ansP_len] at h1
                omega
              have fr0 : (wr2.alloc (.cells #[.int .i64 (j : Int), .bool false] 43)).cell? ⟨wr2.heap.size, 0, none⟩ = some (.int .i64 (j : Int)) := by simp
              have fr1 : (wr2.alloc (.cells #[.int .i64 (j : Int), .bool false] 43)).cell? ⟨wr2.heap.size, 1, none⟩ = some (.bool false) := by simp
              clear HTX
              go_wp2_with (at_builtin; refine wpList_append_own _ rfl (.tmp 42) (.tmp 45) 29 rfl w.heap.size 43 iA (.agg #[.int .i64 0, .bool false]) 2 16 Try.underlying29 hiA y0 y1 y2 rfl (by decide) _ _ _ rfl hoA ⟨wr2.heap.size, 0, none⟩ 1 1 [.int .i64 (j : Int), .bool false] rfl rfl ?c1 (ones2 (j : Int) false) ?c3 ?c4 ?c5 ?_)
              case c1 =>
                intro i u hj
                rw [Addr.add_mid, Nat.zero_add]
                cases i with
                | zero => rw [← hj]; exact fr0
                | succ i =>
                  cases i with
                  | zero => rw [← hj]; exact fr1
                  | succ i => simp at hj
              case c3 => unfold maxLen; omega
              case c4 => omega
              case c5 => simp; omega
              intro v' W1 hown hgrow _
              have htw := TwoR.app (o := .cells #[.int .i64 (j : Int), .bool false] 43) HT2.out hown hgrow
              clear hown hgrow hoA
              obtain ⟨oad, ocap, rfl⟩ : ∃ oad ocap, v' = .slice oad (ps.length + 1) ocap := by
                have := htw.2.1
                rcases this.2 with ⟨_, h0⟩ | ⟨g', cap', cur', rfl, _⟩
                · simp at h0
                · exact ⟨some ⟨g', 0, none⟩, cap', by rw [List.length_append]; rfl⟩
              have ci := htw.cell hl (q + 1) (by omega)
              have cj := htw.cell hl j (by omega)
              have fi := htw.1.frozenAt (q + 1)
              have htw2 := htw.swap hgb (q + 1) j
              have hs1 := (htw.1.stored (q + 1) (.int .i64 ((cur.getD j 0 : Nat) : Int))).1
              have fj2 := hs1.frozenAt j
              have cj2 := hs1.cellAt j (by omega)
              rw [show ((cur.map iv).set (q + 1) (.int .i64 ((cur.getD j 0 : Nat) : Int)))[j]? = some (.int .i64 (((cur.set (q + 1) (cur.getD j 0)).getD j 0 : Nat) : Int)) by
                have := map_iv_get (cur.set (q + 1) (cur.getD j 0)) j (by simp; omega)
                rw [List.map_set] at this
                exact this] at cj2
              have HT3 : Hid (TwoR w (.slice (some ⟨g, 0, none⟩) k gcap) (.slice oad (ps.length + 1) ocap) k (swp cur (q + 1) j) (ps ++ [((j : Int), false)]) _) := htw2
              have HQ : Hid ((ps ++ [((j : Int), false)]) ++ ansP q (swp cur (q + 1) j) t = ansP (k - 1) (List.range k) t) := by
                unfold Hid
                rw [← HPS.out, show q + 2 - 1 = q + 1 from rfl, ansP, ← HJ.out, ← hJ.out, List.append_assoc]; rfl
              clear htw htw2 hs1 HT2 fr0 fr1 HPS
              generalize cur.getD j 0 = xj at *
              generalize cur.getD (q + 1) 0 = xi at *
              generalize (cur.set (q + 1) xj).getD j 0 = xk at *
              have hjk : (j : Int) < (k : Int) := by omega
              have hqk : (q : Int) + 1 < (k : Int) := by omega
              go_wp2
              go_roundw
              case rel => first | exact ⟨q + 1, swp cur (q + 1) j, ps ++ [((j : Int), false)], by omega, by rw [swp_len]; exact hl, by go_num, HQ.out, HT3.out⟩ | ((repeat apply Exists.intro); exact ⟨⟨q + 1, swp cur (q + 1) j, ps ++ [((j : Int), false)], by omega, by rw [swp_len]; exact hl, by go_num, HQ.out, HT3.out⟩, rfl⟩)
              case measure => simp [intOf]

end Go.Proofs.Ytilmkijbohjinaa
