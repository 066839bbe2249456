/-
  Lists of nodes with marks behind them: WideNodes, SpareNodes.
-/
import Derived.Test.YtgahdppcdeefaaaKq9
import Derived.Test.YtgahdppcdeefaaaSl
import Derived.Deep.MidRow
import Derived.Deep.QuietTactic
import Derived.Deep.Cut
namespace Go.Proofs.Ytgahdppcdeefaaa
open Go.RowKit
attribute [local go_sem ↓] Go.wp_at_zero Go.wp_at_succ
namespace TR
def numN (i : Nat) : Int := 9437185 + (i : Int)
set_option maxHeartbeats 1000000 in
theorem numN_ (i : Nat) (hi : i ≤ 8589934592) (w : World) : Calls Try.prog 27 #[.int .i64 9, .int .i64 i] w fun e w' => e = .returned (.int .i64 (numN i)) ∧ w' = w := by
  go_enter Try.func27, Try.ntmps27
  go_wp2
  go_ret
  exact ⟨ret_int (by unfold numN; omega), rfl⟩
theorem wpList_world {P : Program} {ops : Array Oper} {rest : List Oper} {a : Act} {w : World} {Q : Exit → Act → World → Prop} {W : World} (h : w = W) (k : wpList P ops Q rest a W) : wpList P ops Q rest a w := by subst h; exact k
theorem set_cellsN {W : World} {a j : Nat} {cs : Array Value} {t : TypeId} {x : Value} (h : W.heap[a]? = some (.cells cs t (0, 0))) : (W.setCell ⟨a, j, none⟩ x).heap[a]? = some (.cells (cs.setIfInBounds j x) t (0, 0)) := by
  simp [World.setCell, Array.getElem?_modify, h]
theorem froz_f {W : World} {a : Nat} {cs : Array Value} {t : TypeId} (h : W.heap[a]? = some (.cells cs t (0, 0))) : ∀ j, W.frozen? ⟨a, j, none⟩ = false := fun j => by simp [World.frozen?, h]
theorem up_setN {w W : World} (h : Up w W) {g : Nat} (j : Nat) (u : Value) (hg : w.heap.size ≤ g) : Up w (W.setCell ⟨g, j, none⟩ u) := (Only.up h).set j u |>.below hg (Nat.le_refl _)
theorem setCells_heap {g : Nat} {t : Nat} : ∀ (ys : List Value) (a : Nat) {W : World} {cur : Array Value}, W.heap[g]? = some (.cells cur t (0, 0)) → a + ys.length ≤ cur.size → (W.setCells g a ys).heap[g]? = some (.cells (cur.toList.take a ++ ys ++ cur.toList.drop (a + ys.length)).toArray t (0, 0))
  | [], a, W, cur, h, _ => by
    rw [World.setCells, h]
    simp
  | y :: ys, a, W, cur, h, hl => by
    have hl' : a + 1 + ys.length ≤ cur.size := by simp at hl; omega
    rw [World.setCells, setCells_heap ys (a + 1) (set_cellsN h) (by simpa using hl')]
    congr 3
    rw [Array.toList_setIfInBounds, List.set_eq_take_append_cons_drop, if_pos (by simp; omega)]
    have e1 : (cur.toList.take a ++ y :: cur.toList.drop (a + 1)).take (a + 1) = cur.toList.take a ++ [y] := by
      rw [List.take_append]
      have : (cur.toList.take a).length = a := by simp; omega
      rw [this, List.take_of_length_le (by omega), show a + 1 - a = 1 by omega]
      rfl
    have e2 : (cur.toList.take a ++ y :: cur.toList.drop (a + 1)).drop (a + 1 + ys.length) = cur.toList.drop (a + (ys.length + 1)) := by
      rw [List.drop_append]
      have : (cur.toList.take a).length = a := by simp; omega
      rw [this, List.drop_of_length_le (by omega), show a + 1 + ys.length - a = ys.length + 1 by omega, List.drop_succ_cons, List.drop_drop, List.nil_append]
      congr 1
      omega
    rw [e1, e2]
    simp
theorem setCells_other {g b : Nat} : ∀ (ys : List Value) (a : Nat) {W : World}, b ≠ g → (W.setCells g a ys).heap[b]? = W.heap[b]?
  | [], _, _, _ => rfl
  | y :: ys, a, W, h => by rw [World.setCells, setCells_other ys (a + 1) h]; exact Below.heap_setCell _ _ _ _ h
theorem setCells_up {w : World} {g : Nat} : ∀ (ys : List Value) (a : Nat) {W : World}, Up w W → w.heap.size ≤ g → Up w (W.setCells g a ys)
  | [], _, _, h, _ => h
  | y :: ys, a, W, h, hg => by rw [World.setCells]; exact setCells_up ys (a + 1) (up_setN h _ _ hg) hg
def wNd (l : List Nd) (i : Nat) : Nd := if i < l.length then l.getD i dn else { dn with pos := numN i }
def WN (base : Nat) (W : World) (v : Value) (l : List Nd) : Prop := ∃ (g : Nat) (cs : List Value), base ≤ g ∧ v = .slice (some ⟨g, 0, none⟩) l.length (l.length + 64) ∧ W.heap[g]? = some (.cells cs.toArray 33 (0, 0)) ∧ cs.length = (l.length + 64) * 7 ∧ ∀ i, i < l.length + 64 → ∀ j, j < 7 → cs[i * 7 + j]? = (ndc (wNd l i))[j]?
theorem WN.up {base : Nat} {W W' : World} {v : Value} {l : List Nd} (h : WN base W v l) (u : Up W W') : WN base W' v l := by
  obtain ⟨g, cs, h1, h2, h3, h4⟩ := h
  exact ⟨g, cs, h1, h2, u.heap h3, h4⟩
theorem nvs_len (l : List Nd) : (nvs l).length = l.length * 7 := flat_len ndc 7 (fun _ => rfl) l
theorem WN.nl {base : Nat} {W : World} {v : Value} {l : List Nd} (h : WN base W v l) : NLs W v l := by
  obtain ⟨g, cs, h1, rfl, h3, h4, h5⟩ := h
  refine ⟨by rw [nvs_len], some ⟨g, 0, none⟩, l.length + 64, rfl, by omega, fun hn => ⟨g, 0, rfl, fun j hj => ?_⟩⟩
  rw [Nat.zero_add]
  have : W.cell? ⟨g, j, none⟩ = cs[j]? := by simp [World.cell?, h3]
  have e : j / 7 * 7 + j % 7 = j := by rw [Nat.mul_comm]; exact Nat.div_add_mod j 7
  have h6 : j / 7 < l.length := by omega
  have h7 := h5 (j / 7) (by omega) (j % 7) (by omega)
  have h8 := nvs_get l (j / 7) (j % 7) h6 (by omega)
  rw [e] at h7 h8
  rw [this, h7, h8, wNd, if_pos h6]
def WNs (w W : World) (g n : Nat) (l : List Nd) (i : Nat) (cs : List Value) : Prop := W.heap[g]? = some (.cells cs.toArray 33 (0, 0)) ∧ cs.length = (n + 64) * 7 ∧ (∀ q, q < i → ∀ j, j < 7 → cs[q * 7 + j]? = (ndc (wNd l q))[j]?) ∧ Up w W
theorem WNs.put {w W W1 : World} {g n : Nat} {l : List Nd} {i : Nat} {cs : List Value} {e : Nd} (h : WNs w W g n l i cs) (u : Up W W1) (hi : i < n + 64) (he : e = wNd l i) (hg : w.heap.size ≤ g) : ∃ cs', WNs w (W1.setCells g (i * 7) (ndA e).toList) g n l (i + 1) cs' := by
  obtain ⟨h1, h2, h3, h4⟩ := h
  have k1 := u.heap h1
  have k2 := setCells_heap (ndA e).toList (i * 7) k1 (by rw [List.size_toArray, h2]; show i * 7 + 7 ≤ _; omega)
  have hl7 : (ndA e).toList.length = 7 := rfl
  refine ⟨_, k2, ?_, fun q hq j hj => ?_, setCells_up _ _ (h4.trans u) hg⟩
  · rw [List.length_append, List.length_append, List.length_take, List.length_drop, hl7]
    dsimp only
    omega
  · have htl : (cs.take (i * 7)).length = i * 7 := by rw [List.length_take]; omega
    by_cases e9 : q = i
    · subst e9
      rw [← he, List.append_assoc, List.getElem?_append_right (by rw [htl]; omega), htl, show q * 7 + j - q * 7 = j by omega, List.getElem?_append_left (by omega)]
      rfl
    · rw [List.append_assoc, List.getElem?_append_left (by rw [htl]; omega), List.getElem?_take, if_pos (by omega)]
      exact h3 q (by omega) j hj
theorem infoNdW : (Try.prog.info? 33).map (fun i => (i.zero, i.size, i.bytes)) = some (some (.agg #[.int .i8 0, .int .i8 0, .int .i64 0, .int .i64 0, .string ⟨#[]⟩, .int .i64 0, .int .i64 0]), 7, 56) := by kernel_rfl
def CpN (w : World) (D : World → Value → Prop) (e : Ending) (w' : World) : Prop := ∃ v', e = .returned v' ∧ D w' v' ∧ Up w w'
set_option maxRecDepth 100000 in
set_option maxHeartbeats 4000000 in
theorem wideN_ (v : Value) (l : List Nd) (w : World) (hv : NLs w v l) (hn : l.length ≤ 4294967296) :
    Calls Try.prog 9 #[v] w (CpN w fun W v' => WN w.heap.size W v' l) := by
  obtain ⟨iT, hiT, z0, z1, z2⟩ := info_parts infoNdW
  obtain ⟨Post, hPost⟩ : ∃ P : Ending → World → Prop, P = CpN w fun W v' => WN w.heap.size W v' l := ⟨_, rfl⟩
  rw [← hPost]
  have HP : Hid (Post = CpN w fun W v' => WN w.heap.size W v' l) := hPost
  obtain ⟨a1, k1, rfl, -, h1⟩ := nl_at hv
  obtain ⟨n, hn0⟩ : ∃ n, n = l.length := ⟨_, rfl⟩
  have HN : Hid (n = l.length) := hn0
  rw [← hn0] at hn h1 ⊢
  have H1 : Hid (n ≠ 0 → ∃ b off, a1 = some ⟨b, off, none⟩ ∧ ∀ W, Up w W → ∀ i, i < n → ∀ j x, (ndc (l.getD i dn))[j]? = some x → W.cell? ⟨b, off + i * 7 + j, none⟩ = some x) := h1
  obtain ⟨g, hg⟩ : ∃ g, g = w.heap.size := ⟨_, rfl⟩
  have HG : Hid (g = w.heap.size) := hg
  clear hPost hv h1 hn0
  go_enter Try.func9, Try.ntmps9
  go_wp2_with (at_make; refine wpList_make_full _ rfl _ _ 22 rfl w.heap.size 33 iT _ 7 Try.underlying22 hiT z0 z1 .i64 .i64 _ _ (n + 64) rfl rfl rfl rfl (by rw [z2]; omega) (by unfold maxLen; omega) (Nat.le_refl _) ?_; intro w1 hin hg1)
  have HI : Hid (∃ cs, WNs w w1 g n l 0 cs) := ⟨_, by rw [hg]; exact row_made hin, by have := hin.1; omega, fun q hq => by omega, made_up hg1⟩
  rw [← hg]
  clear hin hg1 hg
  go_wp2_with fail
  go_loopw [4] (fun s4 W => ∃ (i : Nat) (cs : List Value), i ≤ n + 64 ∧ s4 = .int .i64 i ∧ WNs w W g n l i cs) (fun s4 _ => n + 64 - (intOf s4).toNat)
  case atStart => obtain ⟨cs, h⟩ := HI.out; exact ⟨0, cs, Nat.zero_le _, rfl, h⟩
  case round =>
    obtain ⟨i, cs, hi, rfl, hw⟩ := hrel
    clear HI
    have HW : Hid (WNs w wr g n l i cs) := hw
    have hgw : w.heap.size ≤ g := by rw [HG.out]; exact Nat.le_refl _
    by_cases hlt : i < n + 64
    · have hlt2 : (i : Int) < (n : Int) + 64 := by omega
      have HCe : Hid (∀ W, Up wr W → W.there g (i * 7) 7) := fun W u j hj => by
        have h1 := u.heap hw.1
        have h2 := hw.2.1
        have : W.cell? ⟨g, i * 7 + j, none⟩ = cs[i * 7 + j]? := by simp [World.cell?, h1]
        exact ⟨by rw [this, List.getElem?_eq_getElem (by omega)]; rfl, froz_f h1 _⟩
      have ht := HCe.out wr (Up.refl _)
      by_cases hin : i < n
      · have hin2 : (i : Int) < (n : Int) := by omega
        obtain ⟨b1, o1, rfl, c1⟩ := H1.out (by omega)
        have HE : Hid (wNd l i = l.getD i dn) := by unfold Hid wNd; rw [if_pos (by rw [← HN.out]; exact hin)]
        have HF : Hid (∃ cs', WNs w (wr.setCells g (i * 7) (ndA (l.getD i dn)).toList) g n l (i + 1) cs') := WNs.put HW.out (Up.refl _) hlt HE.out.symm hgw
        have x0 : wr.cell? ⟨b1, o1 + i * 7, none⟩ = some (.int .i8 (l.getD i dn).op) := c1 wr hw.2.2.2 i hin 0 _ rfl
        have x1 : wr.cell? ⟨b1, o1 + i * 7 + 1, none⟩ = some (.int .i8 (l.getD i dn).kind) := c1 wr hw.2.2.2 i hin 1 _ rfl
        have x2 : wr.cell? ⟨b1, o1 + i * 7 + 2, none⟩ = some (.int .i64 (l.getD i dn).n) := c1 wr hw.2.2.2 i hin 2 _ rfl
        have x3 : wr.cell? ⟨b1, o1 + i * 7 + 3, none⟩ = some (.int .i64 (l.getD i dn).m) := c1 wr hw.2.2.2 i hin 3 _ rfl
        have x4 : wr.cell? ⟨b1, o1 + i * 7 + 4, none⟩ = some (.string (strOfNums (l.getD i dn).text)) := c1 wr hw.2.2.2 i hin 4 _ rfl
        have x5 : wr.cell? ⟨b1, o1 + i * 7 + 5, none⟩ = some (.int .i64 (l.getD i dn).pos) := c1 wr hw.2.2.2 i hin 5 _ rfl
        have x6 : wr.cell? ⟨b1, o1 + i * 7 + 6, none⟩ = some (.int .i64 (l.getD i dn).kids) := c1 wr hw.2.2.2 i hin 6 _ rfl
        clear c1 hw HE
        generalize l.getD i dn = e at *
        have hone : (ndA e).all (·.oneCell') = true := ndA_one e
        obtain ⟨W9, hW9⟩ : ∃ W9, wr.setCells g (i * 7) (ndA e).toList = W9 := ⟨_, rfl⟩
        rw [hW9] at HF
        go_wp2_with (first | (refine wpList_store_mid rfl 33 (.tmp 25) (.tmp 24) rfl g (i * 7) (ndA e) rfl rfl ht infoNd hone ?_; refine wpList_world hW9 ?_))
        go_roundw
        case rel => obtain ⟨cs', h9⟩ := HF.out; exact ⟨i + 1, cs', by omega, by go_num, h9⟩
        case measure => simp [intOf]; omega
      · have hin2 : ¬ (i : Int) < (n : Int) := by omega
        clear hw
        go_wp2_with fail
        refine Calls.mono (numN_ i (by omega) _) ?_
        rintro e w2 ⟨rfl, rfl⟩
        have ht := HCe.out w2 (Up.refl _)
        have HF : Hid (∃ cs', WNs w (w2.setCells g (i * 7) (ndA { dn with pos := numN i }).toList) g n l (i + 1) cs') := WNs.put HW.out (Up.refl _) hlt (by unfold wNd; rw [if_neg (by rw [← HN.out]; exact hin)]) hgw
        generalize numN i = z at HF ⊢
        have hone : (ndA { dn with pos := z }).all (·.oneCell') = true := ndA_one _
        obtain ⟨W9, hW9⟩ : ∃ W9, w2.setCells g (i * 7) (ndA { dn with pos := z }).toList = W9 := ⟨_, rfl⟩
        rw [hW9] at HF
        go_wp2_with (first | (refine wpList_store_mid rfl 33 (.tmp 31) (.tmp 30) rfl g (i * 7) (ndA { dn with pos := z }) rfl rfl ht infoNd hone ?_; refine wpList_world hW9 ?_))
        go_roundw
        case rel => obtain ⟨cs', h9⟩ := HF.out; exact ⟨i + 1, cs', by omega, by go_num, h9⟩
        case measure => simp [intOf]; omega
    · have hlt2 : ¬ (i : Int) < (n : Int) + 64 := by omega
      have hn64 : (n : Int) ≤ (n : Int) + 64 := by omega
      clear hw
      go_wp2
      rw [HP.out]
      have hnn := HN.out
      exact ⟨_, rfl, ⟨g, cs, hgw, by rw [← HN.out], HW.out.1, by rw [← hnn]; exact HW.out.2.1, fun j hj => HW.out.2.2.1 j (by omega)⟩, HW.out.2.2.2⟩
set_option maxRecDepth 100000 in
set_option maxHeartbeats 4000000 in
theorem spareN_ (base : Nat) (v : Value) (l : List Nd) (w : World) (hv : WN base w v l) (hn : l.length ≤ 4294967296) :
    Calls Try.prog 17 #[v] w fun e w' => e = .returned (.bool true) ∧ Up w w' := by
  obtain ⟨g, cs, -, rfl, h3, h4, h5⟩ := hv
  obtain ⟨n, hn0⟩ : ∃ n, n = l.length := ⟨_, rfl⟩
  have HC : Hid (∀ i, n ≤ i → i < n + 64 → ∀ W, Up w W → ∀ j x, (ndc { dn with pos := numN i })[j]? = some x → W.cell? ⟨g, i * 7 + j, none⟩ = some x) := fun i h1 h2 W u j x hx => by
    have h6 := h5 i (by omega)
    rw [wNd, if_neg (by omega)] at h6
    have hj : j < 7 := (List.getElem?_eq_some_iff.1 hx).1
    have h7 := u.heap h3
    have : W.cell? ⟨g, i * 7 + j, none⟩ = cs[i * 7 + j]? := by simp [World.cell?, h7]
    rw [this, h6 j hj, hx]
  rw [← hn0] at hn ⊢
  clear h3 h4 h5 hn0
  have e1 : (n : Int) + 64 ≤ (n : Int) + 64 := by omega
  have e2 : (0 : Int) ≤ (n : Int) + 64 := by omega
  have e3 : ((n : Int) + 64).toNat = n + 64 := by omega
  go_enter Try.func17, Try.ntmps17
  go_wp2_with fail
  go_loopw [2, 4] (fun s2 s4 wr => ∃ i : Nat, n ≤ i ∧ i ≤ n + 64 ∧ s2 = .bool false ∧ s4 = .int .i64 i ∧ Up w wr) (fun _ s4 _ => n + 64 - (intOf s4).toNat)
  case atStart => exact ⟨n, Nat.le_refl _, by omega, rfl, rfl, Up.refl _⟩
  case round =>
    obtain ⟨i, hi1, hi2, rfl, rfl, u9⟩ := hrel
    have HU : Hid (Up w wr) := u9
    by_cases hlt : i < n + 64
    · have hlt2 : (i : Int) < (n : Int) + 64 := by omega
      have x0 : wr.cell? ⟨g, i * 7, none⟩ = some (.int .i8 0) := HC.out i hi1 hlt wr u9 0 _ rfl
      have x1 : wr.cell? ⟨g, i * 7 + 1, none⟩ = some (.int .i8 0) := HC.out i hi1 hlt wr u9 1 _ rfl
      have x2 : wr.cell? ⟨g, i * 7 + 2, none⟩ = some (.int .i64 0) := HC.out i hi1 hlt wr u9 2 _ rfl
      have x3 : wr.cell? ⟨g, i * 7 + 3, none⟩ = some (.int .i64 0) := HC.out i hi1 hlt wr u9 3 _ rfl
      have x4 : wr.cell? ⟨g, i * 7 + 4, none⟩ = some (.string ⟨#[]⟩) := HC.out i hi1 hlt wr u9 4 _ rfl
      have x5 : wr.cell? ⟨g, i * 7 + 5, none⟩ = some (.int .i64 (numN i)) := HC.out i hi1 hlt wr u9 5 _ rfl
      have x6 : wr.cell? ⟨g, i * 7 + 6, none⟩ = some (.int .i64 0) := HC.out i hi1 hlt wr u9 6 _ rfl
      have HNm : Hid (∀ W, Calls Try.prog 27 #[.int .i64 9, .int .i64 i] W fun e w' => e = .returned (.int .i64 (numN i)) ∧ w' = W) := numN_ i (by omega)
      clear u9
      generalize numN i = z at *
      obtain ⟨W9, hW9⟩ : ∃ W9, (wr.alloc (.cells zN 33)).setRow wr.heap.size (ndA { dn with pos := z }) = W9 := ⟨_, rfl⟩
      have r9 : W9.heap[wr.heap.size]? = some (.cells (ndA { dn with pos := z }) 33 (0, 0)) := by rw [← hW9]; exact setRow_heap _ _ _ _ _ _ (heap_alloc_new _ _)
      have u9 : Up wr W9 := by rw [← hW9]; exact up_setRow ((Up.refl _).alloc _) (Nat.le_refl _) _
      have c4 : W9.cell? ⟨wr.heap.size, 4, none⟩ = some (.string ⟨#[]⟩) := by simp [World.cell?, r9]; rfl
      have c5 : W9.cell? ⟨wr.heap.size, 5, none⟩ = some (.int .i64 z) := by simp [World.cell?, r9]; rfl
      have HU9 : Hid (Up w W9) := HU.out.trans u9
      have hone : (ndA { dn with pos := z }).all (·.oneCell') = true := ndA_one _
      clear u9 r9
      go_wp2_with (first | (refine wpList_store_row rfl 33 (.tmp 5) (.tmp 22) rfl wr.heap.size (ndA { dn with pos := z }) rfl rfl 33 zN (heap_alloc_new wr _) infoNd rfl hone ?_; refine wpList_world hW9 ?_))
      clear hW9
      go_quiet (exact Calls.quiet_of_same (HNm.out _))
      go_wp2
      go_roundw
      case rel => exact ⟨i + 1, by omega, by omega, rfl, by go_num, HU9.out.drewN _⟩
      case measure => simp [intOf]; omega
    · have hlt2 : ¬ (i : Int) < (n : Int) + 64 := by omega
      clear u9
      go_wp2
      go_ret
      exact ⟨rfl, HU.out⟩
end TR
end Go.Proofs.Ytgahdppcdeefaaa
