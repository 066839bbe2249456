/-
  ParseStays: the list of tokens that may be parsed, its tokens at 0, 10, 20, made of any list.
-/
import Derived.Test.YtkldllnnocdhbaaGreatDoorRd10
import Derived.Test.YtkldllnnocdhbaaGreatDoorTw8
import Derived.Test.YtkldllnnocdhbaaGreatDoorTt8
import Derived.Test.YtkldllnnocdhbaaGreatDoorBase
import Derived.Test.YtkldllnnocdhbaaGreatDoorCp8
import Derived.Test.YtkldllnnocdhbaaGreatDoorOf8
import Derived.Test.YtkldllnnocdhbaaGreatDoorRh10
namespace Go.Proofs.YtkldllnnocdhbaaGreatDoor
open Go.RowKit
attribute [local go_sem ↓] Go.wp_at_zero Go.wp_at_succ
namespace TP
open TR (Nd Byt nums_inj nums_nil)
open TK (Tok tex TabP)
/- a list of tokens, where it lies -/
structure TM (W : World) (bt off n c : Nat) (l : List Tok) : Prop where
  len : n = l.length
  cap : n ≤ c
  pos : 0 < n
  small : n ≤ 1048576
  cells : ∀ i, i < n → ∀ j x, (tvs1 (tk l i))[j]? = some x → W.cell? ⟨bt, off + i * 4 + j, none⟩ = some x
  byt : ∀ i, i < n → Byt (tk l i).text
  tln : ∀ i, i < n → (tk l i).text.length ≤ 281474976710656
  num : ∀ i, i < n → -9223372036854775808 ≤ (tk l i).num ∧ (tk l i).num ≤ 9223372036854775807
  tab : TabP W
def MayT (l : List Tok) : Prop := (∀ i, i + 1 < l.length → tex (tk l i) ≠ []) ∧ 0 ≤ (tk l (l.length - 1)).pos ∧ tk l (l.length - 1) = ⟨0, [], 0, (tk l (l.length - 1)).pos⟩
theorem mayEnd {l : List Tok} {kd tn tp : Int} {tx : List Int} {st : ByteArray} (hs : st.toList = [] ↔ tx = []) (hm : MayT l ↔ 0 ≤ tp ∧ (⟨kd, tx, tn, tp⟩ : Tok) = ⟨0, [], 0, tp⟩) (hp : 0 ≤ tp) : (kd = 0 → st.toList = [] → tn = 0 → MayT l) ∧ (¬ kd = 0 → ¬ MayT l) ∧ (¬ st.toList = [] → ¬ MayT l) ∧ (¬ tn = 0 → ¬ MayT l) := by
  refine ⟨fun h1 h2 h3 => hm.2 ⟨hp, by rw [h1, hs.1 h2, h3]⟩, fun h h2 => h ?_, fun h h2 => h ?_, fun h h2 => h ?_⟩
  · have h3 := (hm.1 h2).2
    simp only [Tok.mk.injEq] at h3
    exact h3.1
  · have h3 := (hm.1 h2).2
    simp only [Tok.mk.injEq] at h3
    exact hs.2 h3.2.1
  · have h3 := (hm.1 h2).2
    simp only [Tok.mk.injEq] at h3
    exact h3.2.2.1
theorem TM.tok {W W2 : World} {bt off n c : Nat} {l : List Tok} (h : TM W bt off n c l) (u : Up W W2) {i : Nat} (hi : i < n) : W2.cell? ⟨bt, off + i * 4, none⟩ = some (.int .i8 (tk l i).kind) ∧ W2.cell? ⟨bt, off + i * 4 + 1, none⟩ = some (.string (strOfNums (tk l i).text)) ∧ W2.cell? ⟨bt, off + i * 4 + 2, none⟩ = some (.int .i64 (tk l i).num) ∧ W2.cell? ⟨bt, off + i * 4 + 3, none⟩ = some (.int .i64 (tk l i).pos) :=
  ⟨u.cell (h.cells i hi 0 _ rfl), u.cell (h.cells i hi 1 _ rfl), u.cell (h.cells i hi 2 _ rfl), u.cell (h.cells i hi 3 _ rfl)⟩
set_option maxRecDepth 100000 in
set_option maxHeartbeats 16000000 in
theorem may_ (W : World) (bt off n c : Nat) (l : List Tok) (hT : TM W bt off n c l) : Calls Tryz.prog 68 #[.slice (some ⟨bt, off, none⟩) n c] W (fun r w' => ∃ bo, r = .returned (.bool bo) ∧ (bo = true ↔ MayT l) ∧ Up W w') := by
  obtain ⟨Post, hPost⟩ : ∃ P : Ending → World → Prop, P = fun r w' => ∃ bo, r = .returned (.bool bo) ∧ (bo = true ↔ MayT l) ∧ Up W w' := ⟨_, rfl⟩
  rw [← hPost]
  have HPo : Hid (Post = fun r w' => ∃ bo, r = .returned (.bool bo) ∧ (bo = true ↔ MayT l) ∧ Up W w') := hPost
  clear hPost
  obtain ⟨m, hm⟩ : ∃ m, n = m + 1 := ⟨n - 1, by have := hT.pos; omega⟩
  subst hm
  have HT : Hid (TM W bt off (m + 1) c l) := hT
  have hsm := hT.small
  have hcp := hT.cap
  have e1 : IntKind.i64.wrap (((m + 1 : Nat) : Int) - 1) = (m : Int) := by rw [IntKind.wrap_i64]; omega
  have hn0 : ¬ ((m + 1 : Nat) : Int) = 0 := by omega
  clear hT
  have hz0 : ((m : Int) + 1 == 0) = false := by rw [beq_eq_false_iff_ne]; omega
  go_enter Tryz.func68, Tryz.ntmps68
  go_wp2_with fail
  go_loopw [15] (fun s15 w3 => ∃ i : Nat, i ≤ m ∧ s15 = .int .i64 (i : Int) ∧ Up W w3 ∧ ∀ q, q < i → tex (tk l q) ≠ []) (fun s15 _ => m - (intOf s15).toNat)
  case atStart => exact ⟨0, Nat.zero_le _, rfl, Up.refl _, fun q hq => absurd hq (Nat.not_lt_zero _)⟩
  case round =>
    obtain ⟨i, hi, rfl, hu, hall⟩ := hrel
    have HU : Hid (Up W wr) := hu
    have HAL : Hid (∀ q, q < i → tex (tk l q) ≠ []) := hall
    clear hu hall
    by_cases hlt : i < m
    · have hlt2 : (i : Int) < (m : Int) := by omega
      have ei : IntKind.i64.wrap ((i : Int) + 1) = ((i + 1 : Nat) : Int) := by rw [IntKind.wrap_i64]; omega
      obtain ⟨y0, y1, y2, y3⟩ := HT.out.tok HU.out (show i < m + 1 by omega)
      have hone := tkA_one (tk l i)
      have HTX : Hid (∀ W2, Up W W2 → Calls Tryz.prog 89 #[.agg #[.int .i8 (tk l i).kind, .string (strOfNums (tk l i).text), .int .i64 (tk l i).num, .int .i64 (tk l i).pos]] W2 fun e w' => e = .returned (.string (strOfNums (tex (tk l i)))) ∧ Up W2 w') := fun W2 hu => TK.text8_ _ _ _ _ W2 (HT.out.byt i (by omega)) (HT.out.tln i (by omega)) (HT.out.num i (by omega)).1 (HT.out.num i (by omega)).2 (HT.out.tab.up hu)
      have HNX : Hid (tex (tk l i) ≠ [] → ∀ q, q < i + 1 → tex (tk l q) ≠ []) := fun h q hq => by
        rcases Nat.lt_or_ge q i with h1 | h1
        · exact HAL.out q h1
        · obtain rfl : q = i := by omega
          exact h
      have HFA : Hid (tex (tk l i) = [] → ¬ MayT l) := fun h h2 => h2.1 i (by have := HT.out.len; omega) h
      unfold tkA at hone
      generalize tk l i = t at *
      obtain ⟨kd, tx, tn, tp⟩ := t
      simp only at y0 y1 y2 y3 hone HTX HNX HFA
      generalize strOfNums tx = st at *
      generalize tex ⟨kd, tx, tn, tp⟩ = te at *
      clear HAL
      obtain ⟨g, hg⟩ : ∃ g, g = wr.heap.size := ⟨_, rfl⟩
      obtain ⟨W1, hW1⟩ : ∃ W1, (wr.alloc (.cells tz 45)).setRow wr.heap.size #[.int .i8 kd, .string st, .int .i64 tn, .int .i64 tp] = W1 := ⟨_, rfl⟩
      have r1 : W1.heap[g]? = some (.cells #[.int .i8 kd, .string st, .int .i64 tn, .int .i64 tp] 45 (0, 0)) := by rw [← hW1, hg]; exact setRow_heap _ _ _ _ _ _ (heap_alloc_new _ _)
      have v1 : Up wr W1 := by rw [← hW1]; exact up_setRow ((Up.refl _).alloc _) (Nat.le_refl _) _
      have HUW1 : Hid (Up W W1) := HU.out.trans v1
      have x0 : W1.cell? ⟨g, 0, none⟩ = some (.int .i8 kd) := by simp [World.cell?, r1]
      have x1 : W1.cell? ⟨g, 1, none⟩ = some (.string st) := by simp [World.cell?, r1]
      have x2 : W1.cell? ⟨g, 2, none⟩ = some (.int .i64 tn) := by simp [World.cell?, r1]
      have x3 : W1.cell? ⟨g, 3, none⟩ = some (.int .i64 tp) := by simp [World.cell?, r1]
      have hW1b : Hid ((wr.alloc (.cells tz 45)).setRow wr.heap.size #[.int .i8 kd, .string st, .int .i64 tn, .int .i64 tp] = W1) := hW1
      clear hW1 v1 r1
      go_upto_region 6 with (first | (refine wpList_store_row rfl 45 (.tmp 4) (.tmp 18) rfl wr.heap.size #[.int .i8 kd, .string st, .int .i64 tn, .int .i64 tp] rfl rfl 45 tz (heap_alloc_new wr _) infoTk rfl hone ?_; refine wpList_world hW1b.out ?_))
      rw [← hg]
      clear hg hW1b
      go_wp2_with fail
      refine Calls.mono (HTX.out W1 HUW1.out) ?_
      rintro r9 w5 ⟨rfl, u5⟩
      have HU5 : Hid (Up W w5) := HUW1.out.trans u5
      clear HTX u5 HUW1
      by_cases ht : te = []
      · subst ht
        have HN : Hid (¬ MayT l) := HFA.out rfl
        rw [show strOfNums [] = (⟨#[]⟩ : ByteArray) from rfl]
        clear HFA HNX
        go_wp2_with fail
        rw [HPo.out]
        exact ⟨false, rfl, ⟨fun h => Bool.noConfusion h, fun h => absurd h HN.out⟩, HU5.out⟩
      · have HN : Hid _ := HNX.out ht
        have hbe : (strOfNums te).toList.isEmpty = false := by
          rw [Bool.eq_false_iff]
          intro h
          exact ht (nums_nil.1 (List.isEmpty_iff.1 h))
        clear HFA HNX ht
        go_wp2_with fail
        go_roundw
        case rel => exact ⟨i + 1, hlt, by go_num, HU5.out, HN.out⟩
        case measure => simp [intOf]; omega
    · obtain rfl : i = m := by omega
      have hlt2 : ¬ (i : Int) < (i : Int) := by omega
      obtain ⟨y0, y1, y2, y3⟩ := HT.out.tok HU.out (show i < i + 1 by omega)
      have hone := tkA_one (tk l i)
      have HMT : Hid (MayT l ↔ 0 ≤ (tk l i).pos ∧ tk l i = ⟨0, [], 0, (tk l i).pos⟩) := by
        have h1 := HT.out.len
        unfold Hid MayT
        rw [show l.length - 1 = i by omega]
        exact ⟨fun h => h.2, fun h => ⟨fun q hq => HAL.out q (by omega), h⟩⟩
      have HBY : Hid (Byt (tk l i).text) := HT.out.byt i (by omega)
      unfold tkA at hone
      generalize tk l i = t at *
      obtain ⟨kd, tx, tn, tp⟩ := t
      simp only at y0 y1 y2 y3 hone HMT HBY
      have HSX : Hid ((strOfNums tx).toList = [] ↔ tx = []) := nums_nil
      generalize strOfNums tx = st at *
      clear HAL HT
      obtain ⟨g, hg⟩ : ∃ g, g = wr.heap.size := ⟨_, rfl⟩
      obtain ⟨W1, hW1⟩ : ∃ W1, (wr.alloc (.cells tz 45)).setRow wr.heap.size #[.int .i8 kd, .string st, .int .i64 tn, .int .i64 tp] = W1 := ⟨_, rfl⟩
      have r1 : W1.heap[g]? = some (.cells #[.int .i8 kd, .string st, .int .i64 tn, .int .i64 tp] 45 (0, 0)) := by rw [← hW1, hg]; exact setRow_heap _ _ _ _ _ _ (heap_alloc_new _ _)
      have v1 : Up wr W1 := by rw [← hW1]; exact up_setRow ((Up.refl _).alloc _) (Nat.le_refl _) _
      have HUW1 : Hid (Up W W1) := HU.out.trans v1
      have x0 : W1.cell? ⟨g, 0, none⟩ = some (.int .i8 kd) := by simp [World.cell?, r1]
      have x1 : W1.cell? ⟨g, 1, none⟩ = some (.string st) := by simp [World.cell?, r1]
      have x2 : W1.cell? ⟨g, 2, none⟩ = some (.int .i64 tn) := by simp [World.cell?, r1]
      have x3 : W1.cell? ⟨g, 3, none⟩ = some (.int .i64 tp) := by simp [World.cell?, r1]
      have hW1b : Hid ((wr.alloc (.cells tz 45)).setRow wr.heap.size #[.int .i8 kd, .string st, .int .i64 tn, .int .i64 tp] = W1) := hW1
      clear hW1 v1 r1
      go_upto_region 10 with (first | (refine wpList_store_row rfl 45 (.tmp 5) (.tmp 28) rfl wr.heap.size #[.int .i8 kd, .string st, .int .i64 tn, .int .i64 tp] rfl rfl 45 tz (heap_alloc_new wr _) infoTk rfl hone ?_; refine wpList_world hW1b.out ?_))
      rw [← hg]
      clear hg hW1b
      by_cases hp : 0 ≤ tp
      · have HM : Hid _ := mayEnd HSX.out HMT.out hp
        clear HMT HSX
        go_wp2_with fail
        all_goals rw [HPo.out]
        all_goals first | exact ⟨true, rfl, ⟨fun _ => HM.out.1 (by assumption) (by assumption) (by assumption), fun _ => rfl⟩, HUW1.out⟩ | exact ⟨false, rfl, ⟨fun h => Bool.noConfusion h, fun h => absurd h (HM.out.2.1 (by assumption))⟩, HUW1.out⟩ | exact ⟨false, rfl, ⟨fun h => Bool.noConfusion h, fun h => absurd h (HM.out.2.2.1 (by assumption))⟩, HUW1.out⟩ | exact ⟨false, rfl, ⟨fun h => Bool.noConfusion h, fun h => absurd h (HM.out.2.2.2 (by assumption))⟩, HUW1.out⟩
      · have HN : Hid (¬ MayT l) := fun h => hp (HMT.out.1 h).1
        go_wp2_with fail
        rw [HPo.out]
        exact ⟨false, rfl, ⟨fun h => Bool.noConfusion h, fun h => absurd h HN.out⟩, HUW1.out⟩
end TP
end Go.Proofs.YtkldllnnocdhbaaGreatDoor
namespace Go.Proofs.YtkldllnnocdhbaaGreatDoor
open Go.RowKit
namespace TP
open TR (Nd Byt nums_inj nums_nil)
open TK (Tok tex TabP)
theorem tvs_at : ∀ (l : List Tok) (i j : Nat), i < l.length → j < 4 → (TK.tvs l)[i * 4 + j]? = (tvs1 (tk l i))[j]?
  | [], i, _, h, _ => absurd h (Nat.not_lt_zero _)
  | t :: r, 0, j, _, hj => by
    show (TK.tvs1 t ++ TK.tvs r)[0 * 4 + j]? = (tvs1 t)[j]?
    rw [Nat.zero_mul, Nat.zero_add, List.getElem?_append_left (show j < (TK.tvs1 t).length from hj)]
    rfl
  | t :: r, i + 1, j, h, hj => by
    show (TK.tvs1 t ++ TK.tvs r)[(i + 1) * 4 + j]? = (tvs1 (tk r i))[j]?
    rw [List.getElem?_append_right (show (TK.tvs1 t).length ≤ (i + 1) * 4 + j by show 4 ≤ _; omega), show (i + 1) * 4 + j - (TK.tvs1 t).length = i * 4 + j by show (i + 1) * 4 + j - 4 = _; omega]
    exact tvs_at r i j (Nat.lt_of_succ_lt_succ h) hj
theorem tm_row {W : World} {v : Value} {base : Nat} {l : List Tok} (h : W.ownsRow base 45 4 v l.length (TK.tvs l)) (h0 : 0 < l.length) (hs : l.length ≤ 1048576) (hb : ∀ i, i < l.length → Byt (tk l i).text) (hn : ∀ i, i < l.length → (tk l i).text.length ≤ 281474976710656) (hm : ∀ i, i < l.length → -9223372036854775808 ≤ (tk l i).num ∧ (tk l i).num ≤ 9223372036854775807) (hT : TabP W) :
    ∃ bt off c, v = .slice (some ⟨bt, off, none⟩) l.length c ∧ TM W bt off l.length c l := by
  rcases h.2 with ⟨-, h1⟩ | ⟨g, cap, cur, rfl, -, -, hcap, -⟩
  · omega
  · refine ⟨g, 0, cap, rfl, ⟨rfl, hcap, h0, hs, fun i hi j x hx => ?_, hb, hn, hm, hT⟩⟩
    have hj : j < 4 := by
      have h2 := (List.getElem?_eq_some_iff.1 hx).1
      exact h2
    have h3 := h.cells (g := g) rfl (i * 4 + j) x (by rw [tvs_at l i j hi hj]; exact hx)
    rcases Nat.eq_zero_or_pos (i * 4 + j) with h4 | h4
    · rw [h4] at h3
      rw [show 0 + i * 4 + j = 0 by omega]
      simpa [Addr.add] using h3
    · rw [show 0 + i * 4 + j = i * 4 + j by omega]
      generalize i * 4 + j = z at h3 h4 ⊢
      simpa [Addr.add, Nat.ne_of_gt h4] using h3
end TP
end Go.Proofs.YtkldllnnocdhbaaGreatDoor
namespace Go.Proofs.YtkldllnnocdhbaaGreatDoor
open Go.RowKit
attribute [local go_sem ↓] Go.wp_at_zero Go.wp_at_succ
namespace TP
open TR (Nd Byt nums_inj nums_nil)
open TK (Tok tex TabP TLs TokOk infoTok infoTs)
def keepT (t : Tok) : Bool := TK.mayB t.kind t.text t.num 0 && !decide (t.kind = 0)
theorem keep_at (t : Tok) (p : Int) : keepT (atp t p) = keepT t := rfl
theorem may_at {t : Tok} {p : Int} (h : 0 ≤ p) : TK.mayB t.kind t.text t.num p = TK.mayB t.kind t.text t.num 0 := by
  unfold TK.mayB
  simp [show ¬ p < 0 by omega]
/- out so far: those of the first i that are kept -/
structure RT (w W : World) (l : List Tok) (i k : Nat) (v : Value) : Prop where
  row : W.ownsRow w.heap.size 45 4 v k (TK.tvs (plc 0 ((l.take i).filter keepT)))
  len : ((l.take i).filter keepT).length = k
  le : k ≤ i
  up : Up w W
theorem RT.upd {w W W' : World} {l : List Tok} {i k : Nat} {v : Value} (h : RT w W l i k v) (u : Up W W') : RT w W' l i k v := ⟨row_up h.row u, h.len, h.le, h.up.trans u⟩
theorem RT.skip {w W : World} {l : List Tok} {i k : Nat} {v : Value} (h : RT w W l i k v) (hi : i < l.length) (hk : keepT (tk l i) = false) : RT w W l (i + 1) k v := by
  have e : (l.take (i + 1)).filter keepT = (l.take i).filter keepT := by
    have e1 : l.take (i + 1) = l.take i ++ [tk l i] := by
      rw [List.take_add_one, List.getElem?_eq_getElem hi]
      show l.take i ++ [l[i]] = l.take i ++ [l.getD i dt]
      rw [List.getD_eq_getElem?_getD, List.getElem?_eq_getElem hi]
      rfl
    rw [e1, List.filter_append, List.filter_cons_of_neg (by rw [hk]; decide), List.filter_nil, List.append_nil]
  exact ⟨by rw [e]; exact h.row, by rw [e]; exact h.len, Nat.le_succ_of_le h.le, h.up⟩
theorem RT.push {w W V : World} {l : List Tok} {i k : Nat} {v v' : Value} (h : RT w W l i k v) (hi : i < l.length) (hk : keepT (tk l i) = true) (hr : V.ownsRow w.heap.size 45 4 v' (k + 1) (TK.tvs (plc 0 ((l.take i).filter keepT)) ++ [.int .i8 (tk l i).kind, .string (strOfNums (tk l i).text), .int .i64 (tk l i).num, .int .i64 (10 * (k : Int))])) (hg : W.grownBy V v.ownBlock) : RT w V l (i + 1) (k + 1) v' := by
  have e := plc_more keepT l hi
  rw [if_pos hk, h.len] at e
  have e1 : l.take (i + 1) = l.take i ++ [tk l i] := by
    rw [List.take_add_one, List.getElem?_eq_getElem hi]
    show l.take i ++ [l[i]] = l.take i ++ [l.getD i dt]
    rw [List.getD_eq_getElem?_getD, List.getElem?_eq_getElem hi]
    rfl
  refine ⟨?_, ?_, Nat.succ_le_succ h.le, Below.grown h.up hg h.up.size (fun k9 hk => (World.ownsRow.lt h.row k9 hk).1)⟩
  · rw [e, TK.tvs_app]
    exact hr
  · rw [e1, List.filter_append, List.filter_cons_of_pos hk, List.length_append, h.len]
    rfl
set_option maxRecDepth 100000 in
set_option maxHeartbeats 16000000 in
theorem right_ (v : Value) (l : List Tok) (w : World) (hv : TLs w v l) (hok : ∀ t ∈ l, TokOk t) (hln : l.length ≤ 1000000) :
    Calls Tryz.prog 11 #[v] w fun e w' => ∃ r, e = .returned r ∧ w'.ownsRow w.heap.size 45 4 r (rt keepT l).length (TK.tvs (rt keepT l)) ∧ Up w w' := by
  obtain ⟨Post, hPost⟩ : ∃ P : Ending → World → Prop, P = fun e w' => ∃ r, e = .returned r ∧ w'.ownsRow w.heap.size 45 4 r (rt keepT l).length (TK.tvs (rt keepT l)) ∧ Up w w' := ⟨_, rfl⟩
  rw [← hPost]
  have HPo : Hid (Post = fun e w' => ∃ r, e = .returned r ∧ w'.ownsRow w.heap.size 45 4 r (rt keepT l).length (TK.tvs (rt keepT l)) ∧ Up w w') := hPost
  clear hPost
  obtain ⟨iT, hiT, y0, y1, y2⟩ := info_parts infoTok
  obtain ⟨a, c, rfl, hc, hcell⟩ := TK.tl_at hv
  obtain ⟨n, hN⟩ : ∃ n, n = l.length := ⟨_, rfl⟩
  have HN : Hid (n = l.length) := hN
  rw [← hN] at hc hcell hln ⊢
  have HC : Hid (∀ i, i < n → ∃ b off, a = some ⟨b, off, none⟩ ∧ TokOk (tk l i) ∧ ∀ W, Up w W → W.cell? ⟨b, off + i * 4, none⟩ = some (.int .i8 (tk l i).kind) ∧ W.cell? ⟨b, off + i * 4 + 1, none⟩ = some (.string (strOfNums (tk l i).text)) ∧ W.cell? ⟨b, off + i * 4 + 2, none⟩ = some (.int .i64 (tk l i).num) ∧ W.cell? ⟨b, off + i * 4 + 3, none⟩ = some (.int .i64 (tk l i).pos)) := fun i hi => by
    obtain ⟨b, off, h1, h2⟩ := hcell (by omega)
    refine ⟨b, off, h1, hok _ ?_, fun W x => h2 W x i hi⟩
    unfold tk
    rw [List.getD_eq_getElem?_getD, List.getElem?_eq_getElem (by omega)]
    exact List.getElem_mem _
  clear hv hok hcell hN
  go_enter Tryz.func11, Tryz.ntmps11
  go_wp2_with fail
  go_loopw [3, 4] (fun s3 s4 W => ∃ (i k : Nat) (sa : Option Addr) (sc : Nat), i ≤ n ∧ s3 = .slice sa k sc ∧ s4 = .int .i64 (i : Int) ∧ RT w W l i k (.slice sa k sc)) (fun _ s4 _ => n - (intOf s4).toNat)
  case atStart => exact ⟨0, 0, none, 0, Nat.zero_le _, rfl, rfl, World.ownsRow_nil _ _ _ _, rfl, Nat.le_refl _, Up.refl _⟩
  case round =>
    obtain ⟨i, k, sa, sc, hi, rfl, rfl, hrt⟩ := hrel
    have HRT : Hid (RT w wr l i k (.slice sa k sc)) := hrt
    have hki := hrt.le
    clear hrt
    have ei : IntKind.i64.wrap ((i : Int) + 1) = ((i + 1 : Nat) : Int) := by rw [IntKind.wrap_i64]; omega
    have ez : IntKind.i64.wrap (10 * (k : Int)) = 10 * (k : Int) := by rw [IntKind.wrap_i64]; omega
    by_cases hlt : i < n
    · have hlt2 : (i : Int) < (n : Int) := by omega
      obtain ⟨b, off, rfl, htok, hce⟩ := HC.out i hlt
      obtain ⟨x0, x1, x2, x3⟩ := hce wr HRT.out.up
      have HMY : Hid (∀ W, Calls Tryz.prog 25 #[.agg #[.int .i8 (tk l i).kind, .string (strOfNums (tk l i).text), .int .i64 (tk l i).num, .int .i64 (10 * (k : Int))]] W fun e w' => e = .returned (.bool (TK.mayB (tk l i).kind (tk l i).text (tk l i).num 0)) ∧ Up W w') := fun W => (TK.rmay_ _ _ _ _ W htok.1 htok.2.1).mono fun e w' h => ⟨by rw [h.1, may_at (t := tk l i) (by omega)], h.2⟩
      have HSK : Hid (keepT (tk l i) = false → ∀ W, RT w W l i k (.slice sa k sc) → RT w W l (i + 1) k (.slice sa k sc)) := fun h W hr => hr.skip (by have := HN.out; omega) h
      have HPU : Hid (keepT (tk l i) = true → ∀ W V v', RT w W l i k (.slice sa k sc) → V.ownsRow w.heap.size 45 4 v' (k + 1) (TK.tvs (plc 0 ((l.take i).filter keepT)) ++ [.int .i8 (tk l i).kind, .string (strOfNums (tk l i).text), .int .i64 (tk l i).num, .int .i64 (10 * (k : Int))]) → W.grownBy V (Value.slice sa k sc).ownBlock → RT w V l (i + 1) (k + 1) v') := fun h W V v' hr h1 h2 => hr.push (by have := HN.out; omega) h h1 h2
      have HKT : Hid (keepT (tk l i) = (TK.mayB (tk l i).kind (tk l i).text (tk l i).num 0 && !decide ((tk l i).kind = 0))) := rfl
      clear htok hce
      generalize keepT (tk l i) = kb at HSK HPU HKT
      generalize TK.mayB (tk l i).kind (tk l i).text (tk l i).num 0 = bo at HMY HKT
      generalize tk l i = t at x0 x1 x2 x3 HMY HPU HKT
      obtain ⟨kd, tx, tn, tp⟩ := t
      simp only at x0 x1 x2 x3 HMY HPU HKT
      generalize strOfNums tx = ts at x1 HMY HPU
      obtain ⟨W5, hW5⟩ : ∃ W5, wr.alloc (.cells #[.int .i8 kd, .string ts, .int .i64 tn, .int .i64 tp] 45) = W5 := ⟨_, rfl⟩
      have g5 : W5.heap[wr.heap.size]? = some (.cells #[.int .i8 kd, .string ts, .int .i64 tn, .int .i64 tp] 45 (0, 0)) := by rw [← hW5]; exact heap_alloc_new _ _
      have HU5 : Hid (Up wr W5) := by unfold Hid; rw [← hW5]; exact (Up.refl _).alloc _
      go_upto_region 6 with fail
      try rw [hW5]
      clear hW5 x0 x1 x2 x3
      obtain ⟨W6, hW6⟩ : ∃ W6, W5.setCell ⟨wr.heap.size, 3, none⟩ (.int .i64 (10 * (k : Int))) = W6 := ⟨_, rfl⟩
      have g6 : W6.heap[wr.heap.size]? = some (.cells #[.int .i8 kd, .string ts, .int .i64 tn, .int .i64 (10 * (k : Int))] 45 (0, 0)) := by rw [← hW6]; exact set3 g5 _
      have HU6 : Hid (Up wr W6) := by
        unfold Hid
        rw [← hW6]
        exact ((Only.up HU5.out).set 3 _).fresh (Nat.le_refl _)
      have f0 : W5.cell? ⟨wr.heap.size, 3, none⟩ = some (.int .i64 tp) := by simp only [World.cell?, g5]; rfl
      have f1 : W5.frozen? ⟨wr.heap.size, 3, none⟩ = false := by simp [World.frozen?, g5]
      go_upto_region 7 with fail
      try rw [hW6]
      clear hW6 f0 f1 g5 ez HU5
      go_wp2_with (first | (refine wpList_load_rowG (by rfl) 45 (.tmp 5) (by rfl) wr.heap.size (by rfl) 45 #[.int .i8 kd, .string ts, .int .i64 tn, .int .i64 (10 * (k : Int))] (0, 0) _ g6 Tryz.underlying45 (by rfl) infoTs ?_))
      refine Calls.mono (HMY.out W6) ?_
      rintro r W7 ⟨rfl, u7⟩
      have g7 : W7.heap[wr.heap.size]? = some (.cells #[.int .i8 kd, .string ts, .int .i64 tn, .int .i64 (10 * (k : Int))] 45 (0, 0)) := u7.heap g6
      have HU7 : Hid (Up wr W7) := HU6.out.trans u7
      have f0 : W7.cell? ⟨wr.heap.size, 0, none⟩ = some (.int .i8 kd) := by simp only [World.cell?, g7]; rfl
      clear g6 u7 HU6 HMY
      cases bo with
      | false =>
        have HRT2 : Hid (RT w W7 l (i + 1) k (.slice sa k sc)) := HSK.out (by rw [HKT.out]; rfl) W7 (HRT.out.upd HU7.out)
        clear HRT HSK HPU HKT g7
        go_wp2_with fail
        go_roundw
        case rel => exact ⟨i + 1, k, sa, sc, by omega, rfl, by go_num, HRT2.out⟩
        case measure => simp [intOf]; omega
      | true =>
        by_cases hk0 : kd = 0
        · subst hk0
          have HRT2 : Hid (RT w W7 l (i + 1) k (.slice sa k sc)) := HSK.out (by rw [HKT.out]; rfl) W7 (HRT.out.upd HU7.out)
          clear HRT HSK HPU HKT g7
          go_wp2_with fail
          go_roundw
          case rel => exact ⟨i + 1, k, sa, sc, by omega, rfl, by go_num, HRT2.out⟩
          case measure => simp [intOf]; omega
        · have hne : (kd == 0) = false := by simpa using hk0
          have HKB : Hid (kb = true) := by unfold Hid; rw [HKT.out]; simp [hk0]
          have HTV : Hid (RT w (W7.alloc (.cells #[.int .i8 kd, .string ts, .int .i64 tn, .int .i64 (10 * (k : Int))] 45)) l i k (.slice sa k sc)) := (HRT.out.upd HU7.out).upd ((Up.refl _).alloc _)
          have HMW : Hid (∀ q u, [.int .i8 kd, .string ts, .int .i64 tn, .int .i64 (10 * (k : Int))][q]? = some u → (W7.alloc (.cells #[.int .i8 kd, .string ts, .int .i64 tn, .int .i64 (10 * (k : Int))] 45)).cell? ((⟨W7.heap.size, 0, none⟩ : Addr).add q) = some u) := World.news_of_block (cs := #[.int .i8 kd, .string ts, .int .i64 tn, .int .i64 (10 * (k : Int))]) (t := 45) (fr := (0, 0)) (heap_alloc_new W7 _)
          have HFN : Hid (∀ v' V', V'.ownsRow w.heap.size 45 4 v' (k + 1) (TK.tvs (plc 0 ((l.take i).filter keepT)) ++ [.int .i8 kd, .string ts, .int .i64 tn, .int .i64 (10 * (k : Int))]) → (W7.alloc (.cells #[.int .i8 kd, .string ts, .int .i64 tn, .int .i64 (10 * (k : Int))] 45)).grownBy V' (Value.slice sa k sc).ownBlock → RT w V' l (i + 1) (k + 1) v') := fun v' V' n1 n2 => HPU.out HKB.out _ V' v' HTV.out n1 n2
          clear HRT HSK HPU HKT
          go_upto_region 4 with (first | (refine wpList_load_rowG (by rfl) 45 (.tmp 5) (by rfl) wr.heap.size (by rfl) 45 #[.int .i8 kd, .string ts, .int .i64 tn, .int .i64 (10 * (k : Int))] (0, 0) _ g7 Tryz.underlying45 (by rfl) infoTs ?_) | (at_builtin; go_loud (refine wpList_append_own _ (by rfl) (.tmp 27) (.tmp 29) 22 (by rfl) w.heap.size 45 iT _ 4 40 Tryz.underlying22 hiT y0 y1 y2 (by rfl) (by decide) (.slice sa k sc) k (TK.tvs (plc 0 ((l.take i).filter keepT))) (by rfl) HTV.out.row ⟨W7.heap.size, 0, none⟩ 1 1 [.int .i8 kd, .string ts, .int .i64 tn, .int .i64 (10 * (k : Int))] (by rfl) (by rfl) HMW.out (by simp [Value.oneCell']) (by unfold maxLen; omega) (by omega) HTV.out.up.size ?_; intro v' V2 hin hg1 _; have HTN : Hid (RT w V2 l (i + 1) (k + 1) v') := HFN.out v' V2 hin hg1; obtain ⟨fb, fd, hva⟩ : ∃ a c, v' = Value.slice a (k + 1) c := row_val hin; subst hva; clear hin hg1 HTV HMW HFN)))
          go_wp2_with fail
          go_roundw
          case rel => exact ⟨i + 1, k + 1, fb, fd, by omega, rfl, by go_num, HTN.out⟩
          case measure => simp [intOf]; omega
    · have hlt2 : ¬ (i : Int) < (n : Int) := by omega
      obtain rfl : i = n := by omega
      have HTV : Hid (RT w (wr.alloc (.cells #[.int .i8 0, .string ⟨#[]⟩, .int .i64 0, .int .i64 (10 * (k : Int))] 45)) l i k (.slice sa k sc)) := HRT.out.upd ((Up.refl _).alloc _)
      have HMW : Hid (∀ q u, [Value.int .i8 0, .string ⟨#[]⟩, .int .i64 0, .int .i64 (10 * (k : Int))][q]? = some u → (wr.alloc (.cells #[.int .i8 0, .string ⟨#[]⟩, .int .i64 0, .int .i64 (10 * (k : Int))] 45)).cell? ((⟨wr.heap.size, 0, none⟩ : Addr).add q) = some u) := World.news_of_block (cs := #[.int .i8 0, .string ⟨#[]⟩, .int .i64 0, .int .i64 (10 * (k : Int))]) (t := 45) (fr := (0, 0)) (heap_alloc_new wr _)
      have HFN : Hid (∀ v' V', V'.ownsRow w.heap.size 45 4 v' (k + 1) (TK.tvs (plc 0 ((l.take i).filter keepT)) ++ [Value.int .i8 0, .string ⟨#[]⟩, .int .i64 0, .int .i64 (10 * (k : Int))]) → (wr.alloc (.cells #[.int .i8 0, .string ⟨#[]⟩, .int .i64 0, .int .i64 (10 * (k : Int))] 45)).grownBy V' (Value.slice sa k sc).ownBlock → V'.ownsRow w.heap.size 45 4 v' (rt keepT l).length (TK.tvs (rt keepT l)) ∧ Up w V') := fun v' V' n1 n2 => by
        have e0 : l.take i = l := by rw [HN.out, List.take_length]
        have e1 : (l.filter keepT).length = k := by have h9 := HTV.out.len; rw [e0] at h9; exact h9
        rw [e0] at n1
        refine ⟨?_, Below.grown HTV.out.up n2 HTV.out.up.size (fun k9 hk => (World.ownsRow.lt HTV.out.row k9 hk).1)⟩
        rw [rt_len, e1]
        show V'.ownsRow w.heap.size 45 4 v' (k + 1) (TK.tvs (plc 0 (l.filter keepT) ++ [ent (l.filter keepT).length]))
        rw [TK.tvs_app, e1]
        exact n1
      go_upto_region 10 with (at_builtin; go_loud (refine wpList_append_own _ (by rfl) (.tmp 31) (.tmp 36) 22 (by rfl) w.heap.size 45 iT _ 4 40 Tryz.underlying22 hiT y0 y1 y2 (by rfl) (by decide) (.slice sa k sc) k (TK.tvs (plc 0 ((l.take i).filter keepT))) (by rfl) HTV.out.row ⟨wr.heap.size, 0, none⟩ 1 1 [Value.int .i8 0, .string ⟨#[]⟩, .int .i64 0, .int .i64 (10 * (k : Int))] (by rfl) (by rfl) HMW.out (by simp [Value.oneCell']) (by unfold maxLen; omega) (by omega) HTV.out.up.size ?_; intro v' V2 hin hg1 _; have HFE : Hid (V2.ownsRow w.heap.size 45 4 v' (rt keepT l).length (TK.tvs (rt keepT l)) ∧ Up w V2) := HFN.out v' V2 hin hg1; clear hin hg1 HTV HMW HFN))
      rw [HPo.out]
      exact ⟨v', rfl, HFE.out.1, HFE.out.2⟩
end TP
end Go.Proofs.YtkldllnnocdhbaaGreatDoor
