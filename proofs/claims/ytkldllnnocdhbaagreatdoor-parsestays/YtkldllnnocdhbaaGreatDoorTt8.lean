/-
  How tokens are written, no program.
-/
import Derived.Test.YtkldllnnocdhbaaGreatDoorSl
import Derived.Test.YtkldllnnocdhbaaGreatDoorTk8
import Derived.Laws.BytesArg
import Derived.Shelf.Abstract
import Derived.Lib.ParseIntBCases
import Derived.Lib.ItoaNum
namespace Go.Proofs.YtkldllnnocdhbaaGreatDoor
namespace SM
open Go.RowKit

def Lies (w : World) (v : Value) (zs : List Nat) : Prop :=
  ∃ a cap, v = .slice a zs.length cap ∧ (a = none → cap = 0) ∧ (zs.length ≠ 0 → ∃ b off, a = some ⟨b, off, none⟩ ∧ ∀ i, i < zs.length → w.cell? ⟨b, off + i, none⟩ = some (.int .u8 (zs.getD i 0 : Nat)))
def Bys (zs : List Nat) : Prop := ∀ i, zs.getD i 0 < 256
theorem Lies.up {w w' : World} {v : Value} {zs : List Nat} (h : Lies w v zs) (u : Up w w') : Lies w' v zs := by
  obtain ⟨a, cap, rfl, hz, h⟩ := h
  refine ⟨a, cap, rfl, hz, fun hn => ?_⟩
  obtain ⟨b, off, rfl, hc⟩ := h hn
  exact ⟨b, off, rfl, fun i hi => u.cell (hc i hi)⟩
theorem take_snoc' (zs : List Nat) (k : Nat) (h : k < zs.length) : zs.take (k + 1) = zs.take k ++ [zs.getD k 0] := by
  rw [List.take_succ_eq_append_getElem h]; simp [List.getD, List.getElem?_eq_getElem h]
theorem Bys.mem {zs : List Nat} (h : Bys zs) : ∀ c ∈ zs, c < 256 := by
  intro c hc
  obtain ⟨i, hi, rfl⟩ := List.getElem_of_mem hc
  have := h i
  rwa [List.getD, List.getElem?_eq_getElem hi] at this
theorem Bys.of {zs : List Nat} (h : ∀ c ∈ zs, c < 256) : Bys zs := by
  intro i
  by_cases hi : i < zs.length
  · rw [List.getD, List.getElem?_eq_getElem hi]; exact h _ (List.getElem_mem hi)
  · rw [List.getD, List.getElem?_eq_none (by omega)]; decide
theorem Bys.take {zs : List Nat} (h : Bys zs) (k : Nat) : Bys (zs.take k) := Bys.of fun c hc => h.mem c (List.mem_of_mem_take hc)

def bv (c : Nat) : Value := .int .u8 (c : Int)
def Owns (w : World) (base : Nat) (v : Value) (zs : List Nat) : Prop := w.ownsRow base 5 1 v zs.length (zs.map bv)
theorem Owns.lies {w : World} {base : Nat} {v : Value} {zs : List Nat} (h : Owns w base v zs) : Lies w v zs := by
  have hs : w.ownsRow base 5 1 v zs.length (zs.map bv) := h
  rcases hs.2 with ⟨rfl, hn⟩ | ⟨g, cap, cur, rfl, _⟩
  · exact ⟨none, 0, by rw [hn], fun _ => rfl, fun hz => absurd hn hz⟩
  · refine ⟨_, cap, rfl, (fun h => by cases h), fun _ => ⟨g, 0, rfl, fun i hi => ?_⟩⟩
    rw [Nat.zero_add, hs.cellAt i (by omega)]
    simp [List.getD, List.getElem?_eq_getElem hi, bv]
theorem bv_one (zs : List Nat) : ∀ u ∈ zs.map bv, u.oneCell' = true := by
  intro u hu
  obtain ⟨c, _, rfl⟩ := List.mem_map.1 hu
  rfl
theorem info5 : (Tryz.prog.info? 5).map (fun i => (i.zero, i.size, i.bytes)) = some (some (.int .u8 0), 1, 1) := by kernel_rfl
theorem lies_cells {w : World} {ad : Addr} {cap : Nat} {zs : List Nat} (h : Lies w (.slice (some ad) zs.length cap) zs) : ∀ j u, (zs.map bv)[j]? = some u → w.cell? (ad.add j) = some u := by
  intro j u hj
  have hjl : j < zs.length := by have := (List.getElem?_eq_some_iff.1 hj).1; simpa using this
  obtain ⟨a', cap', hv, _, h⟩ := h
  simp only [Value.slice.injEq] at hv
  obtain ⟨b, off, ha, hc⟩ := h (by omega)
  obtain ⟨e, _, _⟩ := hv
  rw [ha] at e
  simp only [Option.some.injEq] at e
  subst e
  rw [Addr.add_mid, hc j hjl, ← hj]
  simp [List.getD, List.getElem?_eq_getElem hjl, bv]
theorem lies_none {w : World} {len cap : Nat} {zs : List Nat} (h : Lies w (.slice none len cap) zs) : zs = [] := by
  obtain ⟨a', cap', hv, _, h⟩ := h
  simp only [Value.slice.injEq] at hv
  obtain ⟨e, _, _⟩ := hv
  apply List.eq_nil_of_length_eq_zero
  apply Classical.byContradiction
  intro hn
  obtain ⟨b, off, ha, _⟩ := h hn
  rw [← e] at ha
  cases ha
theorem lies_nocap {w : World} {len cap : Nat} {zs : List Nat} (h : Lies w (.slice none len cap) zs) : cap = 0 := by
  obtain ⟨a', cap', hv, hz, _⟩ := h
  simp only [Value.slice.injEq] at hv
  obtain ⟨e, _, e3⟩ := hv
  rw [e3]; exact hz e.symm
theorem up_grown {w W w' : World} {m base : Nat} {va : Value} {ys : List Value} (hO : W.ownsRow base 5 1 va m ys) (hU : Up w W) (hb : w.heap.size ≤ base)
    (hgrow : W.grownBy w' va.ownBlock) : Up w w' := by
  refine Below.grown hU hgrow hU.size ?_
  intro k hk
  have := hO.lt k hk
  omega
theorem ret_bool {a b : Bool} (h : a = b) : Ending.returned (.bool a) = .returned (.bool b) := by rw [h]
theorem take_ne (zs ys : List Nat) (k : Nat) (h : zs.getD k 0 ≠ ys.getD k 0) : zs ≠ ys := by
  intro e; subst e; exact h rfl
theorem take_eq_snoc (zs ys : List Nat) (k : Nat) (h1 : k < zs.length) (h2 : k < ys.length) (h : zs.take k = ys.take k) (e : zs.getD k 0 = ys.getD k 0) : zs.take (k + 1) = ys.take (k + 1) := by
  rw [take_snoc' zs k h1, take_snoc' ys k h2, h, e]
/- a row of bytes that the call made, written over place by place -/
def Row (w : World) (base g : Nat) (L : List Nat) : Prop := w.ownsRow base 5 1 (.slice (some ⟨g, 0, none⟩) L.length L.length) L.length (L.map bv)
theorem Row.cell {w : World} {base g : Nat} {L : List Nat} (h : Row w base g L) (k : Nat) (hk : k < L.length) : w.cell? ⟨g, k, none⟩ = some (.int .u8 (L.getD k 0 : Nat)) := by
  have h' : w.ownsRow base 5 1 (.slice (some ⟨g, 0, none⟩) L.length L.length) L.length (L.map bv) := h
  rw [h'.cellAt k (by omega)]
  simp [List.getD, List.getElem?_eq_getElem hk, bv]
theorem Row.frozen {w : World} {base g : Nat} {L : List Nat} (h : Row w base g L) (k : Nat) : w.frozen? ⟨g, k, none⟩ = false := World.ownsRow.frozenAt h k
theorem Row.base_le {w : World} {base g : Nat} {L : List Nat} (h : Row w base g L) : base ≤ g ∧ g < w.heap.size := World.ownsRow.lt h g rfl
theorem Row.set {w : World} {base g : Nat} {L : List Nat} (h : Row w base g L) (k c : Nat) : Row (w.setCell ⟨g, k, none⟩ (.int .u8 (c : Int))) base g (L.set k c) := by
  have h' : w.ownsRow base 5 1 (.slice (some ⟨g, 0, none⟩) L.length L.length) L.length (L.map bv) := h
  have := (h'.stored k (.int .u8 (c : Int))).1
  unfold Row
  rw [List.length_set, List.map_set]
  exact this
theorem Row.up {w w' : World} {base g : Nat} {L : List Nat} (h : Row w base g L) (u : Up w w') : Row w' base g L := by
  obtain ⟨h1, h2⟩ := h
  refine ⟨h1, ?_⟩
  rcases h2 with ⟨e, _⟩ | ⟨g', cap, cur, e1, e2, e3, r⟩
  · cases e
  · refine Or.inr ⟨g', cap, cur, e1, e2, ?_, r⟩
    rw [u.block g' (Array.getElem?_eq_some_iff.1 e3).1]; exact e3
theorem Row.lies {w : World} {base g cap : Nat} {L : List Nat} (h : Row w base g L) (n : Nat) (hn : n ≤ L.length) : Lies w (.slice (some ⟨g, 0, none⟩) n cap) (L.take n) := by
  have hl : (L.take n).length = n := by rw [List.length_take]; omega
  refine ⟨_, cap, by rw [hl], (fun e => by cases e), fun _ => ⟨g, 0, rfl, fun i hi => ?_⟩⟩
  rw [Nat.zero_add, h.cell i (by omega)]
  simp only [List.getD]
  rw [List.getElem?_take_of_lt (by omega)]
def mark (j : Nat) : Nat := (282 + 7 * j) % 256
def fillL (zs : List Nat) (k n : Nat) : List Nat := (List.range n).map fun j => if j < k then (if j < zs.length then zs.getD j 0 else mark j) else 0
theorem fillL_len (zs : List Nat) (k n : Nat) : (fillL zs k n).length = n := by simp [fillL]
theorem fillL_zero (zs : List Nat) (n : Nat) : (fillL zs 0 n).map bv = List.replicate n (.int .u8 0) := by
  unfold fillL
  apply List.ext_getElem
  · simp
  · intro i h1 h2; simp [bv]
theorem fillL_set (zs : List Nat) (k n c : Nat) (h : c = if k < zs.length then zs.getD k 0 else mark k) : (fillL zs k n).set k c = fillL zs (k + 1) n := by
  unfold fillL
  apply List.ext_getElem
  · simp
  · intro i h1 h2
    simp only [List.getElem_set, List.getElem_map, List.getElem_range]
    by_cases e : k = i
    · subst e; rw [if_pos rfl, if_pos (Nat.lt_succ_self k), h]
    · rw [if_neg e]
      by_cases hik : i < k
      · rw [if_pos hik, if_pos (show i < k + 1 by omega)]
      · rw [if_neg hik, if_neg (show ¬ i < k + 1 by omega)]
theorem fillL_at (zs : List Nat) (k n j : Nat) (h : j < n) : (fillL zs k n).getD j 0 = if j < k then (if j < zs.length then zs.getD j 0 else mark j) else 0 := by
  simp [fillL, List.getD, h]
theorem fillL_take (zs : List Nat) (n : Nat) (h : zs.length ≤ n) : (fillL zs n n).take zs.length = zs := by
  apply List.ext_getElem
  · simp [fillL]; omega
  · intro i h1 h2
    simp only [List.getElem_take, fillL, List.getElem_map, List.getElem_range]
    rw [if_pos (by omega), if_pos h2, List.getD, List.getElem?_eq_getElem h2]; rfl
end SM
end Go.Proofs.YtkldllnnocdhbaaGreatDoor
namespace Go.Proofs.YtkldllnnocdhbaaGreatDoor
open Go.RowKit
namespace TK
def Byt (l : List Int) : Prop := ∀ c ∈ l, 0 ≤ c ∧ c < 256
theorem Byt.at {l : List Int} (h : Byt l) (i : Nat) : 0 ≤ l.getD i 0 ∧ l.getD i 0 < 256 := by
  by_cases hi : i < l.length
  · rw [List.getD_eq_getElem?_getD, List.getElem?_eq_getElem hi]
    exact h _ (List.getElem_mem hi)
  · rw [List.getD_eq_getElem?_getD, List.getElem?_eq_none (by omega)]
    decide
def bvs (l : List Int) : List Value := l.map fun z => .int .u8 z
theorem bvs_at {l : List Int} {i : Nat} (h : i < l.length) : (bvs l)[i]? = some (.int .u8 (l.getD i 0)) := by simp [bvs, List.getD, h]
def BL (W : World) (v : Value) (l : List Int) : Prop := LC W v 1 l.length (bvs l)
theorem BL.up {W W' : World} {v : Value} {l : List Int} (h : BL W v l) (u : Up W W') : BL W' v l := LC.up h u
theorem bl_cells {W : World} {v : Value} {B : List Int} (h : BL W v B) : ∃ a c, v = .slice a B.length c ∧ B.length ≤ c ∧ (B.length ≠ 0 → ∃ b off, a = some ⟨b, off, none⟩ ∧ ∀ W', Up W W' → ∀ j, j < B.length → W'.cell? ⟨b, off + j, none⟩ = some (.int .u8 (B.getD j 0))) := by
  obtain ⟨-, a, c, h2, h3, h4⟩ := h
  refine ⟨a, c, h2, h3, fun hn => ?_⟩
  obtain ⟨b, off, h5, h6⟩ := h4 hn
  refine ⟨b, off, h5, fun W' u j hj => ?_⟩
  have h7 := h6 j (by omega)
  rw [bvs_at hj] at h7
  exact u.cell h7
/- a list that is not empty, at its block -/
def BA (W : World) (b o : Nat) (B : List Int) : Prop := ∀ W', Up W W' → ∀ j, j < B.length → W'.cell? ⟨b, o + j, none⟩ = some (.int .u8 (B.getD j 0))
theorem BA.up {W W' : World} {b o : Nat} {B : List Int} (h : BA W b o B) (u : Up W W') : BA W' b o B := fun V x => h V (u.trans x)
theorem sub_getD {B : List Int} {p e i : Nat} (hi : i < e - p) : (sub B p e).getD i 0 = B.getD (p + i) 0 := by
  unfold sub
  rw [List.getD_eq_getElem?_getD, List.getElem?_take_of_lt hi, List.getElem?_drop, ← List.getD_eq_getElem?_getD]
theorem sub_len {B : List Int} {p e : Nat} (he : e ≤ B.length) : (sub B p e).length = e - p := by
  unfold sub
  rw [List.length_take, List.length_drop]
  omega
/- a part of the bytes as a text -/
theorem conv_sub {W : World} {b o : Nat} {B : List Int} (h : BA W b o B) {p e : Nat} (he : e ≤ B.length) (cap : Nat) : (convert 26 9 (.slice (some ⟨b, o + p, none⟩) (e - p) cap)).run Tryz.prog W = .ok (.string (strOfNums (sub B p e))) W := by
  refine run_convert_bytes_arg W 26 5 Tryz.underlying26 Tryz.underlying5 b (o + p) (e - p) cap (sub B p e) (sub_len he) (fun i hi => ?_) 9 Tryz.underlying9
  rw [sub_getD hi, Nat.add_assoc]
  exact h W (Up.refl _) (p + i) (by omega)
/- tokens in memory -/
def sv (l : List Int) : Value := .string (strOfNums l)
def tvs1 (t : Tok) : List Value := [.int .i8 t.kind, sv t.text, .int .i64 t.num, .int .i64 t.pos]
def tvs (l : List Tok) : List Value := l.flatMap tvs1
theorem tvs_app (a b : List Tok) : tvs (a ++ b) = tvs a ++ tvs b := List.flatMap_append
theorem tvs_len (l : List Tok) : (tvs l).length = l.length * 4 := by
  induction l with
  | nil => rfl
  | cons t l ih => unfold tvs at *; rw [List.flatMap_cons, List.length_append, ih]; simp [tvs1]; omega
theorem infoTok : (Tryz.prog.info? 45).map (fun i => (i.zero, i.size, i.bytes)) = some (some (.agg #[.int .i8 0, .string ByteArray.empty, .int .i64 0, .int .i64 0]), 4, 40) := by kernel_rfl
end TK
end Go.Proofs.YtkldllnnocdhbaaGreatDoor
namespace Go.Proofs.YtkldllnnocdhbaaGreatDoor
open Go.RowKit
attribute [local go_sem ↓] Go.wp_at_zero Go.wp_at_succ
namespace TK
def clsI (c : Int) : Int := if blk c then 1 else if sml c then 2 else if grt c then 3 else if dig c then 4 else if c == 95 then 5 else if c == 34 then 6 else if c == 47 then 7 else 0
set_option maxRecDepth 100000 in
set_option maxHeartbeats 4000000 in
theorem classOf_ (c : Int) (w : World) : Calls Tryz.prog 161 #[.int .u8 c] w fun e w' => e = .returned (.int .i64 (clsI c)) ∧ w' = w := by
  obtain ⟨k, hk⟩ : ∃ k, k = clsI c := ⟨_, rfl⟩
  rw [← hk]
  have HK : Hid (k = clsI c) := hk
  clear hk
  go_enter Tryz.func161, Tryz.ntmps161
  go_wp2
  all_goals go_ret
  all_goals refine ⟨ret_int ?_, rfl⟩
  all_goals rw [HK.out]
  all_goals unfold clsI blk sml grt dig
  all_goals simp_all
  all_goals omega
def mrkS (s : ByteArray) : Bool := decide (s.toList = [123]) || (decide (s.toList = [125]) || (decide (s.toList = [40]) || (decide (s.toList = [41]) || (decide (s.toList = [59]) || (decide (s.toList = [44]) || (decide (s.toList = [46]) || (decide (s.toList = [61]) || (decide (s.toList = [61, 61]) || (decide (s.toList = [33]) || (decide (s.toList = [33, 61]) || (decide (s.toList = [60]) || (decide (s.toList = [60, 61]) || (decide (s.toList = [62]) || (decide (s.toList = [62, 61]) || (decide (s.toList = [43]) || (decide (s.toList = [45]) || (decide (s.toList = [42]) || (decide (s.toList = [47]) || (decide (s.toList = [37]) || (decide (s.toList = [38, 38]) || (decide (s.toList = [124, 124]))))))))))))))))))))))
set_option maxRecDepth 100000 in
set_option maxHeartbeats 4000000 in
theorem isMark_ (s : ByteArray) (w : World) : Calls Tryz.prog 130 #[.string s] w fun e w' => e = .returned (.bool (mrkS s)) ∧ w' = w := by
  obtain ⟨k, hk⟩ : ∃ k, k = mrkS s := ⟨_, rfl⟩
  rw [← hk]
  have HK : Hid (k = mrkS s) := hk
  clear hk
  go_enter Tryz.func130, Tryz.ntmps130
  go_wp2
  all_goals go_ret
  all_goals refine ⟨?_, rfl⟩
  all_goals rw [HK.out]
  all_goals unfold mrkS
  all_goals simp_all
set_option maxRecDepth 100000 in
set_option maxHeartbeats 4000000 in
theorem isPlain_ (c : Int) (w : World) : Calls Tryz.prog 165 #[.int .u8 c] w fun e w' => e = .returned (.bool (pln c)) ∧ w' = w := by
  obtain ⟨k, hk⟩ : ∃ k, k = pln c := ⟨_, rfl⟩
  rw [← hk]
  have HK : Hid (k = pln c) := hk
  clear hk
  go_enter Tryz.func165, Tryz.ntmps165
  go_wp2
  all_goals go_ret
  all_goals refine ⟨?_, rfl⟩
  all_goals rw [HK.out]
  all_goals unfold pln
  all_goals simp_all
  all_goals omega
set_option maxRecDepth 100000 in
set_option maxHeartbeats 4000000 in
theorem isEscaped_ (c : Int) (w : World) : Calls Tryz.prog 166 #[.int .u8 c] w fun e w' => e = .returned (.bool (esc c)) ∧ w' = w := by
  obtain ⟨k, hk⟩ : ∃ k, k = esc c := ⟨_, rfl⟩
  rw [← hk]
  have HK : Hid (k = esc c) := hk
  clear hk
  go_enter Tryz.func166, Tryz.ntmps166
  go_wp2
  all_goals go_ret
  all_goals refine ⟨?_, rfl⟩
  all_goals rw [HK.out]
  all_goals unfold esc
  all_goals simp_all
end TK
end Go.Proofs.YtkldllnnocdhbaaGreatDoor
namespace Go.Proofs.YtkldllnnocdhbaaGreatDoor
namespace TK
theorem u8_is {a : Int} (h : 0 ≤ a ∧ a < 256) (k : UInt8) : (UInt8.ofNat a.toNat = k) ↔ (a = (k.toNat : Int)) := by
  constructor
  · intro e
    have h1 := congrArg UInt8.toNat e
    rw [UInt8.toNat_ofNat'] at h1
    omega
  · intro e
    apply UInt8.toNat_inj.1
    rw [UInt8.toNat_ofNat']
    have := k.toNat_lt
    omega
theorem nums_list (l : List Int) : (strOfNums l).toList = l.map fun n => UInt8.ofNat n.toNat := by
  rw [ByteArray.toList_eq]
  rfl
theorem mrk_is {l : List Int} (h : Byt l) : mrkS (strOfNums l) = mrk l := by
  unfold mrkS
  rw [nums_list]
  match l, h with
  | [], _ => rfl
  | [a], h =>
    have ha := h a (by simp)
    simp only [List.map_cons, List.map_nil, mrk, sgl, List.cons.injEq, and_true, reduceCtorEq, and_false, decide_false, Bool.or_false, Bool.false_or, u8_is ha]
    rw [Bool.eq_iff_iff]
    simp
    omega
  | [a, b], h =>
    have ha := h a (by simp)
    have hb := h b (by simp)
    simp only [List.map_cons, List.map_nil, mrk, two, List.cons.injEq, and_true, reduceCtorEq, and_false, decide_false, Bool.false_or, u8_is ha, u8_is hb]
    rw [Bool.eq_iff_iff]
    simp
    omega
  | a :: b :: c :: r, _ => simp [mrk]
end TK
end Go.Proofs.YtkldllnnocdhbaaGreatDoor
namespace Go.Proofs.YtkldllnnocdhbaaGreatDoor
namespace TK
def vfr (a : Int) (l : List Int) : Int := l.foldl (fun n c => 10 * n + (c - 48)) a
theorem vfr_ge : ∀ (l : List Int) (a : Int), 0 ≤ a → (∀ c ∈ l, dig c = true) → a ≤ vfr a l
  | [], a, _, _ => Int.le_refl a
  | c :: r, a, ha, h => by
    have hc := h c (by simp)
    unfold dig at hc
    simp only [Bool.and_eq_true, decide_eq_true_eq] at hc
    have := vfr_ge r (10 * a + (c - 48)) (by omega) (fun x hx => h x (by simp [hx]))
    show a ≤ vfr (10 * a + (c - 48)) r
    omega
theorem uint_is : ∀ (l : List Int) (a : Nat), (∀ c ∈ l, dig c = true) → a ≤ 18446744073709551615 → Lib.parseUintM 18446744073709551615 a (l.map fun n => UInt8.ofNat n.toNat) = if vfr a l ≤ 18446744073709551615 then .ok (vfr a l).toNat else .range
  | [], a, _, ha => by
    show Lib.NumEnd.ok a = if (a : Int) ≤ _ then .ok ((a : Int)).toNat else _
    rw [if_pos (by omega), Int.toNat_natCast]
  | c :: r, a, h, ha => by
    have hc := h c (by simp)
    unfold dig at hc
    simp only [Bool.and_eq_true, decide_eq_true_eq] at hc
    have hr : ∀ x ∈ r, dig x = true := fun x hx => h x (by simp [hx])
    have e1 : (UInt8.ofNat c.toNat).toNat = c.toNat := by rw [UInt8.toNat_ofNat']; omega
    have e2 : vfr a (c :: r) = vfr (10 * (a : Int) + (c - 48)) r := rfl
    have hge := vfr_ge r (10 * (a : Int) + (c - 48)) (by omega) hr
    rw [List.map_cons, Lib.parseUintM, e1, if_pos (by omega), e2]
    by_cases h1 : 1844674407370955162 ≤ a
    · rw [if_pos h1, if_neg (by omega)]
    · rw [if_neg h1]
      by_cases h2 : 18446744073709551615 < a * 10 + (c.toNat - 48)
      · rw [if_pos h2, if_neg (by omega)]
      · rw [if_neg h2, uint_is r _ hr (by omega), show ((a * 10 + (c.toNat - 48) : Nat) : Int) = 10 * (a : Int) + (c - 48) by omega]
theorem int_is {l : List Int} (hl : l ≠ []) (h : ∀ c ∈ l, dig c = true) : Lib.parseIntB 64 (strOfNums l).data.toList = if 9223372036854775807 < val l then .range else .ok (val l) := by
  rw [strOfNums_data]
  cases l with
  | nil => exact absurd rfl hl
  | cons c r =>
    have hc := h c (by simp)
    unfold dig at hc
    simp only [Bool.and_eq_true, decide_eq_true_eq] at hc
    have e1 : (UInt8.ofNat c.toNat).toNat = c.toNat := by rw [UInt8.toNat_ofNat']; omega
    have e0 : vfr ((0 : Nat) : Int) (c :: r) = val (c :: r) := rfl
    have hge := vfr_ge (c :: r) ((0 : Nat) : Int) (by omega) h
    rw [List.map_cons, Lib.parseIntB_plain 64 _ _ (by rw [e1]; omega) (by rw [e1]; omega)]
    have h2 := uint_is (c :: r) 0 h (by omega)
    rw [List.map_cons, e0] at h2
    rw [e0] at hge
    unfold Lib.parseUintB
    rw [if_neg (by simp)]
    show Lib.signlessC _ (Lib.parseUintM 18446744073709551615 0 _) = _
    rw [h2]
    by_cases h3 : val (c :: r) ≤ 18446744073709551615
    · rw [if_pos h3]
      show (if 2 ^ (64 - 1) ≤ (val (c :: r)).toNat then Lib.NumEnd.range else .ok (((val (c :: r)).toNat : Nat) : Int)) = _
      by_cases h4 : 9223372036854775807 < val (c :: r)
      · rw [if_pos h4, if_pos (by omega)]
      · rw [if_neg h4, if_neg (by omega), Int.toNat_of_nonneg (by omega)]
    · rw [if_neg h3, if_pos (by omega)]
      rfl
theorem val_nn {l : List Int} (h : ∀ c ∈ l, dig c = true) : 0 ≤ val l := vfr_ge l 0 (by decide) h
theorem nue_dig {B : List Int} {p : Nat} (hp : p < B.length) (hd : dig (B.getD p 0) = true) : sub B p (nue B p) ≠ [] ∧ ∀ c ∈ sub B p (nue B p), dig c = true := by
  have h1 := nue_in hp
  refine ⟨fun h => ?_, fun c hc => ?_⟩
  · have h2 := congrArg List.length h
    rw [sub_len h1.2] at h2
    simp at h2
    omega
  · obtain ⟨i, hi, rfl⟩ := List.getElem_of_mem hc
    have hi2 : i < nue B p - p := by rw [sub_len h1.2] at hi; exact hi
    have h3 := sub_getD (B := B) hi2
    rw [List.getD_eq_getElem?_getD, List.getElem?_eq_getElem hi] at h3
    have h4 : (sub B p (nue B p))[i] = B.getD (p + i) 0 := h3
    rw [h4]
    cases i with
    | zero => exact hd
    | succ i =>
      unfold nue at hi2
      split at hi2
      · omega
      · exact spn_all (p := p + 1) (i := p + (i + 1)) (by omega) (by omega)
end TK
end Go.Proofs.YtkldllnnocdhbaaGreatDoor
namespace Go.Proofs.YtkldllnnocdhbaaGreatDoor
namespace TK
def okN (l : List Int) : Bool := decide (l ≠ []) && (decide (l.length ≤ 32) && (sml (l.getD 0 0) && l.all prt))
def okT (l : List Int) : Bool := decide (l.length ≤ 64) && l.all pln
def quC (c : Int) : List Int := if esc c then [92, c] else [c]
def quo (l : List Int) : List Int := [34] ++ (l.flatMap quC ++ [34])
def dcm (n : Int) : List Int := (Lib.itoa n).map fun b => (b.toNat : Int)
def tex (t : Tok) : List Int :=
  if t.pos < 0 ∨ t.num < 0 then []
  else if t.kind = 2 ∧ t.text = [] then dcm t.num
  else if t.num ≠ 0 then []
  else if (t.kind = 1 ∧ okN t.text = true) ∨ (t.kind = 4 ∧ mrk t.text = true) then t.text
  else if t.kind = 3 ∧ okT t.text = true then quo t.text else []
theorem takeW {f : Int → Bool} : ∀ {l : List Int}, l.all f = true → l.takeWhile f = l
  | [], _ => rfl
  | c :: r, h => by
    rw [List.all_cons, Bool.and_eq_true] at h
    rw [List.takeWhile_cons, if_pos h.1, takeW h.2]
theorem spn_whole (f : Int → Bool) (l : List Int) : (spn f l 0 = l.length) ↔ l.all f = true := by
  unfold spn
  rw [List.drop_zero, Nat.zero_add]
  constructor
  · intro h
    have h1 := List.takeWhile_prefix (l := l) f
    have h2 := h1.eq_of_length h
    rw [← h2]
    exact List.all_takeWhile
  · intro h
    rw [takeW h]
theorem nums_back (s : ByteArray) : strOfNums (s.data.toList.map fun b => (b.toNat : Int)) = s := by
  unfold strOfNums
  rw [List.map_map]
  have h : ((fun n : Int => UInt8.ofNat n.toNat) ∘ fun b : UInt8 => (b.toNat : Int)) = id := by
    funext b
    simp
  rw [h, List.map_id]
theorem byt_nums (s : ByteArray) : Byt (s.data.toList.map fun b => (b.toNat : Int)) := fun c hc => by
  obtain ⟨b, -, rfl⟩ := List.mem_map.1 hc
  have := b.toNat_lt
  omega
theorem dcm_str (n : Int) : strOfNums (dcm n) = ⟨(Lib.itoa n).toArray⟩ := by
  have h := nums_back ⟨(Lib.itoa n).toArray⟩
  exact h
theorem nums_at {l : List Int} (hl : Byt l) {i : Nat} (hi : i < l.length) (h : i < (strOfNums l).size) : (((strOfNums l)[i]'h).toNat : Int) = l.getD i 0 := by
  have h1 := hl.at i
  have h3 := strOfNums_data l
  have h2 : (strOfNums l)[i]'h = UInt8.ofNat (l[i]'hi).toNat := by
    have h4 : (strOfNums l)[i]'h = (strOfNums l).data.toList[i]'(by rw [h3]; simpa using hi) := rfl
    rw [h4, List.getElem_of_eq h3]
    simp
  rw [h2, UInt8.toNat_ofNat']
  rw [List.getD_eq_getElem?_getD, List.getElem?_eq_getElem hi] at h1 ⊢
  simp only [Option.getD_some] at h1 ⊢
  omega
theorem nums_nil {l : List Int} : (strOfNums l).toList = [] ↔ l = [] := by
  rw [nums_list]
  simp
end TK
end Go.Proofs.YtkldllnnocdhbaaGreatDoor
