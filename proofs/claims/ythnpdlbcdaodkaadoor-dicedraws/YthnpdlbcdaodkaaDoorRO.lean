/-
  The document's Order.
-/
import Derived.Test.YthnpdlbcdaodkaaDoorRD
namespace Go.Proofs.YthnpdlbcdaodkaaDoor
open Go.RowKit

def ROrdPost (b n z : Nat) (w : World) (e : Ending) (w' : World) : Prop := ∃ lv, e = .returned lv ∧ OwnI w' w.heap.size 3 lv (intsOf (ordL n z)) ∧ RDie w' b (ordZ n z) ∧ Only b w w'
def ORel (b n z : Nat) (w : World) (lv i : Value) (wr : World) : Prop :=
  ∃ (m z' : Nat) (cur : List Nat), m ≤ n ∧ cur.length = n ∧ i = .int .i64 ((m : Int) - 1) ∧ shuf askD nxtD (m - 1) z' cur = (some (ordL n z), ordZ n z) ∧ RDie wr b z' ∧ wr.ownsRow w.heap.size 3 1 lv n (cur.map iv) ∧ Only b w wr
theorem row_die {w wr : World} {b g cap n : Nat} {cur : List Nat} {x y : Value} (hb : b < w.heap.size) (h : wr.ownsRow w.heap.size 3 1 (.slice (some ⟨g, 0, none⟩) n cap) n (cur.map iv)) (z2 : Nat) (hd : RDie wr b z2) (i j : Nat) : RDie ((wr.setCell ⟨g, i, none⟩ x).setCell ⟨g, j, none⟩ y) b z2 := by
  have hg : w.heap.size ≤ g := (h.lt g rfl).1
  unfold RDie
  rw [Below.heap_setCell _ _ _ _ (by show _ ≠ g; omega), Below.heap_setCell _ _ _ _ (by show _ ≠ g; omega)]
  exact hd
theorem row_swap {w wr : World} {g cap n : Nat} {cur : List Nat} (h : wr.ownsRow w.heap.size 3 1 (.slice (some ⟨g, 0, none⟩) n cap) n (cur.map iv)) (i j : Nat) :
    ((wr.setCell ⟨g, i, none⟩ (.int .i64 ((cur.getD j 0 : Nat) : Int))).setCell ⟨g, j, none⟩ (.int .i64 ((cur.getD i 0 : Nat) : Int))).ownsRow w.heap.size 3 1 (.slice (some ⟨g, 0, none⟩) n cap) n ((swp cur i j).map iv) := by
  have := ((h.stored i (.int .i64 ((cur.getD j 0 : Nat) : Int))).1.stored j (.int .i64 ((cur.getD i 0 : Nat) : Int))).1
  have e : (swp cur i j).map iv = ((cur.map iv).set i (.int .i64 ((cur.getD j 0 : Nat) : Int))).set j (.int .i64 ((cur.getD i 0 : Nat) : Int)) := by
    unfold swp
    rw [List.map_set, List.map_set]; rfl
  rw [e]
  exact this
theorem only_row {w wr : World} {b g : Nat} (h : Only b w wr) (hg : w.heap.size ≤ g) (i : Nat) (x : Value) : Only b w (wr.setCell ⟨g, i, none⟩ x) :=
  ⟨h.1, by simp; exact h.2.1, fun k hk hb => by rw [Below.heap_setCell _ _ _ _ (by show _ ≠ g; omega)]; exact h.2.2 k hk hb⟩
theorem cell_row {w wr : World} {g cap n : Nat} {cur : List Nat} (h : wr.ownsRow w.heap.size 3 1 (.slice (some ⟨g, 0, none⟩) n cap) n (cur.map iv)) (hl : cur.length = n) (j : Nat) (hj : j < n) : wr.cell? ⟨g, j, none⟩ = some (.int .i64 ((cur.getD j 0 : Nat) : Int)) := by
  rw [h.cellAt j (by omega), map_iv_get cur j (by omega)]
theorem askD_nat (z q : Nat) : (askD z (q + 1)).1.toNat = hiP (mx (stp z)) (q + 2) := by
  unfold askD
  exact Int.toNat_natCast _
set_option maxRecDepth 100000 in
set_option maxHeartbeats 2000000 in
theorem rorder (b n z : Nat) (w : World) (h : RDie w b z) (hn : n ≤ 65536) :
    Calls Tryd.prog 24 #[dieA b, .int .i64 n] w (ROrdPost b n z w) := by
  have hlt : b < w.heap.size := (Array.getElem?_eq_some_iff.1 h).1
  have HN : Hid (RDie w b z) := h
  have c1 := h.cell1
  have hn0 : ¬ (n : Int) < 0 := by omega
  have hn1 : ¬ (65536 : Int) < (n : Int) := by omega
  obtain ⟨Post, hPost⟩ : ∃ P : Ending → World → Prop, P = ROrdPost b n z w := ⟨_, rfl⟩
  rw [← hPost]
  have HPost : Hid (Post = ROrdPost b n z w) := hPost
  clear hPost h
  unfold dieA
  go_enter Tryd.func24, Tryd.ntmps24
  go_wp2_with fail
  refine (firstI n w hn).mono ?_
  rintro e w1 ⟨lv, rfl, hrow, hup⟩
  obtain ⟨lad, lcp, rfl⟩ := row_val hrow
  have HR : Hid (ORel b n z w (.slice lad n lcp) (.int .i64 ((n : Int) - 1)) w1) := ⟨n, z, List.range n, Nat.le_refl _, by simp, rfl, ordR_eq n z, hup.heap HN.out, hrow, Only.up hup⟩
  clear hrow hup HN c1
  go_wp2_with fail
  go_loopw [6] (fun i wr => ORel b n z w (.slice lad n lcp) i wr) (fun i _ => (intOf i).toNat)
  case atStart => exact HR.out
  case round =>
    obtain ⟨m, z', cur, hmn, hl, rfl, hsh, hd, hrow, hO⟩ := hrel
    clear HR
    by_cases h2 : m < 2
    · have h2' : (m : Int) - 1 < 1 := by omega
      have HF : Hid (Post (.returned (.slice lad n lcp)) wr) := by
        unfold Hid; rw [HPost.out]
        rw [show m - 1 = 0 by omega, shuf] at hsh
        obtain ⟨e1, e2⟩ := Prod.mk.inj hsh
        obtain rfl := Option.some.inj e1
        refine ⟨_, rfl, ?_, by rw [← e2]; exact hd, hO⟩
        unfold OwnI
        rw [intsOf_len, ← iv_map, hl]
        exact hrow
      clear hsh hd hrow hO
      go_wp2
      first | exact HF.out | (go_ret; exact HF.out)
    · obtain ⟨q, rfl⟩ : ∃ q, m = q + 2 := ⟨m - 2, by omega⟩
      have hq : ((q + 2 : Nat) : Int) - 1 = (q : Int) + 1 := by omega
      rw [hq]
      have hq1 : (1 : Int) ≤ (q : Int) + 1 := by omega
      obtain ⟨g, gcap, hgb, hge⟩ := row_some hrow (by omega)
      simp only [Value.slice.injEq, true_and] at hge
      obtain ⟨rfl, rfl⟩ := hge
      obtain ⟨p, hp⟩ : ∃ p, p = hiP (mx (stp z')) (q + 2) := ⟨_, rfl⟩
      have hpq : p < q + 2 := by rw [hp]; exact hiP_below (mx_lt _) (by omega)
      have hsh2 : shuf askD nxtD q (stp z') (swp cur (q + 1) p) = (some (ordL n z), ordZ n z) := by
        rw [← hsh, show q + 2 - 1 = q + 1 by omega, shuf_succ, if_pos (right_askD _ _), hp, askD_nat]
        unfold nxtD
        exact Eq.refl _
      have hd2 := hd.set (stp z')
      have hrow2 := ownsRow_setCell_below hrow (a := ⟨b, 0, none⟩) hlt (.int .u64 (stp z' : Nat))
      have hO2 : Only b w (wr.setCell ⟨b, 0, none⟩ (.int .u64 (stp z' : Nat))) := hO.set 0 _
      have ci := cell_row hrow2 hl (q + 1) (by omega)
      have cj := cell_row hrow2 hl p (by omega)
      have fi := hrow2.frozenAt (q + 1)
      have hs1 := (hrow2.stored (q + 1) (.int .i64 ((cur.getD p 0 : Nat) : Int))).1
      have fj2 := hs1.frozenAt p
      have cj2 := hs1.cellAt p (by omega)
      rw [show ((cur.map iv).set (q + 1) (.int .i64 ((cur.getD p 0 : Nat) : Int)))[p]? = some (.int .i64 (((cur.set (q + 1) (cur.getD p 0)).getD p 0 : Nat) : Int)) by
        have := map_iv_get (cur.set (q + 1) (cur.getD p 0)) p (by simp; omega)
        rw [List.map_set] at this
        exact this] at cj2
      have HX : Hid (ORel b n z w (.slice (some ⟨g, 0, none⟩) n lcp) (.int .i64 (q : Int)) (((wr.setCell ⟨b, 0, none⟩ (.int .u64 (stp z' : Nat))).setCell ⟨g, q + 1, none⟩ (.int .i64 ((cur.getD p 0 : Nat) : Int))).setCell ⟨g, p, none⟩ (.int .i64 ((cur.getD (q + 1) 0 : Nat) : Int)))) :=
        ⟨q + 1, stp z', swp cur (q + 1) p, by omega, by rw [swp_len]; exact hl, by congr 1; omega, hsh2, row_die hlt hrow2 _ hd2 _ _, row_swap hrow2 _ _, only_row (only_row hO2 hgb _ _) hgb _ _⟩
      have HD : Hid (RDie wr b z') := hd
      have HP : Hid (p = hiP (mx (stp z')) (q + 2)) := hp
      clear hd2 hrow2 hO2 hs1 hsh hsh2 hd hrow hO hp
      have hql : (q : Int) + 1 < (n : Int) := by omega
      have hpl : (p : Int) < (n : Int) := by omega
      generalize cur.getD p 0 = xj at *
      generalize cur.getD (q + 1) 0 = xi at *
      generalize (cur.set (q + 1) xj).getD p 0 = xk at *
      go_wp2_with fail
      refine (rbelow b z' (q + 2) wr HD.out (by omega) (by omega)).mono ?_
      rintro e w2 ⟨rfl, rfl⟩
      rw [← HP.out]
      clear HD HP
      go_wp2
      go_roundw
      case rel => first | exact HX.out | ((repeat apply Exists.intro); exact ⟨HX.out, rfl⟩)
      case measure => first | (simp [intOf]; done) | (simp [intOf]; omega)
end Go.Proofs.YthnpdlbcdaodkaaDoor
