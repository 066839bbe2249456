
/-
  An instruction is read.
-/
import Derived.Test.YtoaaehgnbapibaaDoorWd16
import Derived.Deep.RegionHeld
namespace Go.Proofs.YtoaaehgnbapibaaDoor
open Go.RowKit
attribute [local go_sem ↓] Go.wp_at_zero Go.wp_at_succ
namespace CD
def Byt (l : List Int) : Prop := ∀ c ∈ l, 0 ≤ c ∧ c < 256
theorem Byt.at {l : List Int} (h : Byt l) (i : Nat) : 0 ≤ l.getD i 0 ∧ l.getD i 0 < 256 := by
  by_cases hi : i < l.length
  · rw [List.getD_eq_getElem?_getD, List.getElem?_eq_getElem hi]
    exact h _ (List.getElem_mem hi)
  · rw [List.getD_eq_getElem?_getD, List.getElem?_eq_none (by omega)]
    decide
def bvs (l : List Int) : List Value := l.map fun z => .int .u8 z
theorem bvs_at {l : List Int} {i : Nat} (h : i < l.length) : (bvs l)[i]? = some (.int .u8 (l.getD i 0)) := by simp [bvs, List.getD, h]
def BL (W : World) (v : Value) (l : List Int) : Prop := LC W v 1 l.length (bvs l)
theorem BL.up {W W' : World} {v : Value} {l : List Int} (h : BL W v l) (u : Up W W') : BL W' v l := LC.up h u
theorem bl_cells {W : World} {v : Value} {B : List Int} (h : BL W v B) : ∃ a c, v = .slice a B.length c ∧ B.length ≤ c ∧ (B.length ≠ 0 → ∃ b off, a = some ⟨b, off, none⟩ ∧ ∀ W', Up W W' → ∀ j, j < B.length → W'.cell? ⟨b, off + j, none⟩ = some (.int .u8 (B.getD j 0))) := by
  obtain ⟨-, a, c, h2, h3, h4⟩ := h
  refine ⟨a, c, h2, h3, fun hn => ?_⟩
  obtain ⟨b, off, h5, h6⟩ := h4 hn
  refine ⟨b, off, h5, fun W' u j hj => ?_⟩
  have h7 := h6 j (by omega)
  rw [bvs_at hj] at h7
  exact u.cell h7
/- an instruction, and what is read at a place -/
structure Ins where
  at_ : Int
  op : Int
  a : Int
  b : Int
  c : Int
  deriving DecidableEq
def insl (x : Ins) : List Value := [.int .i64 x.at_, .int .u8 x.op, .int .i64 x.a, .int .i64 x.b, .int .i64 x.c]
def insv (x : Ins) : Array Value := #[.int .i64 x.at_, .int .u8 x.op, .int .i64 x.a, .int .i64 x.b, .int .i64 x.c]
def zi : Ins := ⟨0, 0, 0, 0, 0⟩
theorem insv_one (x : Ins) : (insv x).all (·.oneCell') = true := by simp [insv, Value.oneCell']
def opn (B : List Int) (p k : Nat) : Int × Int × Int := if k = 2 then (B.getD (p + 1) 0, 0, 0) else if k = 3 then (256 * B.getD (p + 1) 0 + B.getD (p + 2) 0, 0, 0) else if k = 4 then (B.getD (p + 1) 0, B.getD (p + 2) 0, 256 * B.getD (p + 3) 0 + B.getD (p + 4) 0) else (0, 0, 0)
def ko (B : List Int) (p : Nat) : Nat := knd (B.getD p 0).toNat
def rd (B : List Int) (z : Int) : Ins × Int := if z < 0 ∨ (B.length : Int) ≤ z then (zi, 1) else if ko B z.toNat = 0 then (zi, 40) else if B.length - z.toNat < siz (ko B z.toNat) then (zi, 41) else (⟨z, B.getD z.toNat 0, (opn B z.toNat (ko B z.toNat)).1, (opn B z.toNat (ko B z.toNat)).2.1, (opn B z.toNat (ko B z.toNat)).2.2⟩, 0)
theorem wpAnyH_world {P : Program} {md : Region.Mode} {ops : Array Oper} {Q : Exit → Act → World → Prop} {S : World → Prop} {fuel : Nat} {listed : Array Bool} {a : Act} {w W : World} (h : w = W) (k : wpAnyH P md ops Q S fuel listed a W) : wpAnyH P md ops Q S fuel listed a w := by subst h; exact k
theorem stepH_store {P : Program} {o : Oper} {a : Act} {w : World} {K : Act → World → Prop} {Q : Exit → Act → World → Prop} {c X : Prop} [Decidable c] (hw : c) (ty : TypeId) (x y : Operand) (ho : o.op = .store ty x y)
    (g : Nat) (cells : Array Value) (hx : a.eval x = .pointer (some ⟨g, 0, none⟩)) (hy : a.eval y = .agg cells)
    (t : TypeId) (old : Array Value) (hg : w.heap[g]? = some (.cells old t (0, 0))) (hi : (P.info? ty).map (·.size) = some cells.size)
    (hold : old.size = cells.size) (h1 : cells.all (·.oneCell') = true) (h : K (a.put o.dst undef) (w.setRow g cells)) :
    if c then Oper.wp P o a w K Q else X := by
  rw [if_pos hw]
  exact wp_store_row ty x y ho g cells hx hy t old hg hi hold h1 h
theorem infoIns : (Tryd.prog.info? 28).map (fun i => (i.zero, i.size)) = some (some (.agg (insv zi)), 5) := by kernel_rfl
set_option maxRecDepth 100000 in
set_option maxHeartbeats 16000000 in
theorem read_ (W : World) (g : Nat) (v : Value) (B : List Int) (z : Int) (hT : TBat W g) (hv : BL W v B) (hB : Byt B) (hn : B.length ≤ 4611686018427387904) (hz0 : -9223372036854775808 ≤ z) (hz1 : z ≤ 9223372036854775807) : Calls Tryd.prog 36 #[.pointer (some ⟨g, 0, none⟩), v, .int .i64 z] W fun e w' => e = .returned (.tuple #[.agg (insv (rd B z).1), .int .i64 (rd B z).2]) ∧ Up W w' := by
  obtain ⟨Post, hPost⟩ : ∃ P : Ending → World → Prop, P = fun e w' => e = .returned (.tuple #[.agg (insv (rd B z).1), .int .i64 (rd B z).2]) ∧ Up W w' := ⟨_, rfl⟩
  rw [← hPost]
  have HPo : Hid (Post = fun e w' => e = .returned (.tuple #[.agg (insv (rd B z).1), .int .i64 (rd B z).2]) ∧ Up W w') := hPost
  clear hPost
  obtain ⟨hz, -⟩ := zero_of_info (P := Tryd.prog) infoIns
  obtain ⟨hzr, -⟩ := zero_of_info (P := Tryd.prog) infoRow
  obtain ⟨ad, c, rfl, hnc, hce⟩ := bl_cells hv
  obtain ⟨n, hN⟩ : ∃ n, n = B.length := ⟨_, rfl⟩
  have HN : Hid (n = B.length) := hN
  rw [← hN] at hn hnc hce ⊢
  have HCE : Hid (n ≠ 0 → ∃ b off, ad = some ⟨b, off, none⟩ ∧ ∀ W', Up W W' → ∀ j, j < n → W'.cell? ⟨b, off + j, none⟩ = some (.int .u8 (B.getD j 0))) := hce
  have HB : Hid (Byt B) := hB
  obtain ⟨W0, hW0⟩ : ∃ W0, W.alloc (.cells (insv zi) 28) = W0 := ⟨_, rfl⟩
  have g6 : W0.heap[W.heap.size]? = some (.cells (insv zi) 28 (0, 0)) := by rw [← hW0]; exact heap_alloc_new _ _
  have HU0 : Hid (Up W W0) := by unfold Hid; rw [← hW0]; exact (Up.refl _).alloc _
  have HT : Hid (TBat W0 g) := hT.up HU0.out
  clear hT hv hB hN hce
  go_enter Tryd.func36, Tryd.ntmps36
  go_upto_region 1 with fail
  try rw [hW0]
  clear hW0 hz
  obtain ⟨r6, hr6⟩ : ∃ r, r = W.heap.size := ⟨_, rfl⟩
  have HR6 : Hid (r6 = W.heap.size) := hr6
  rw [← hr6] at g6 ⊢
  clear hr6
  by_cases hneg : z < 0
  · have HRD : Hid (rd B z = (zi, 1)) := by unfold Hid rd; rw [if_pos (.inl hneg)]
    obtain ⟨W9, hW9⟩ : ∃ W9, W0.setRow r6 (insv zi) = W9 := ⟨_, rfl⟩
    have r9 : W9.heap[r6]? = some (.cells (insv zi) 28 (0, 0)) := by rw [← hW9]; exact setRow_heap _ _ _ _ _ _ g6
    go_wp2_with (first | (refine wpList_buildTo rfl 28 _ rfl (some 18) rfl (insv zi) (by kernel_rfl) ?_) | (refine wpList_store_row rfl 28 (.tmp 6) (.tmp 18) rfl r6 (insv zi) rfl rfl 28 (insv zi) g6 sizeIns rfl (insv_one _) ?_; refine wpList_world hW9 ?_))
    refine bodyPost_ret (v := .tuple #[.agg (insv zi), .int .i64 1]) (res_c1 (p := 6) (q := 7) (ty := 28) rfl _ _ r6 28 (insv zi) (0, 0) _ (.int .i64 1) rfl rfl r9 Tryd.underlying28 rfl sizeIns) rfl ?_
    rw [HPo.out]
    refine ⟨by rw [HRD.out], ?_⟩
    rw [← hW9]
    exact up_setRow HU0.out (by rw [HR6.out]; exact Nat.le_refl _) _
  by_cases hbey : (n : Int) ≤ z
  · have HRD : Hid (rd B z = (zi, 1)) := by unfold Hid rd; rw [if_pos (.inr (by rw [← HN.out]; exact hbey))]
    have hbey2 : ¬ z < (n : Int) := by omega
    obtain ⟨W9, hW9⟩ : ∃ W9, W0.setRow r6 (insv zi) = W9 := ⟨_, rfl⟩
    have r9 : W9.heap[r6]? = some (.cells (insv zi) 28 (0, 0)) := by rw [← hW9]; exact setRow_heap _ _ _ _ _ _ g6
    go_wp2_with (first | (refine wpList_buildTo rfl 28 _ rfl (some 18) rfl (insv zi) (by kernel_rfl) ?_) | (refine wpList_store_row rfl 28 (.tmp 6) (.tmp 18) rfl r6 (insv zi) rfl rfl 28 (insv zi) g6 sizeIns rfl (insv_one _) ?_; refine wpList_world hW9 ?_))
    refine bodyPost_ret (v := .tuple #[.agg (insv zi), .int .i64 1]) (res_c1 (p := 6) (q := 7) (ty := 28) rfl _ _ r6 28 (insv zi) (0, 0) _ (.int .i64 1) rfl rfl r9 Tryd.underlying28 rfl sizeIns) rfl ?_
    rw [HPo.out]
    refine ⟨by rw [HRD.out], ?_⟩
    rw [← hW9]
    exact up_setRow HU0.out (by rw [HR6.out]; exact Nat.le_refl _) _
  obtain ⟨p, rfl⟩ : ∃ p : Nat, z = (p : Int) := ⟨z.toNat, by omega⟩
  have hpn : p < n := by omega
  have hpn2 : (p : Int) < (n : Int) := by omega
  obtain ⟨b, off, rfl, hce⟩ := HCE.out (by omega)
  obtain ⟨d, hd, hd2⟩ : ∃ d : Nat, (d : Int) = B.getD p 0 ∧ d < 256 := ⟨(B.getD p 0).toNat, by have := HB.out.at p; omega, by have := HB.out.at p; omega⟩
  have hx := hce W0 HU0.out p hpn
  rw [← hd] at hx
  have HKO : Hid (ko B p = knd d) := by unfold Hid ko; rw [← hd, Int.toNat_natCast]
  have HD : Hid ((d : Int) = B.getD p 0) := hd
  have HCB : Hid (∀ W', Up W W' → ∀ j, j < n → W'.cell? ⟨b, off + j, none⟩ = some (.int .u8 (B.getD j 0))) := hce
  have HRW : Hid _ := row_ W0 g d HT.out hd2
  have HSZ : Hid _ := size_ d
  obtain ⟨hk1, hk2, hk3⟩ := rwo_nam d
  have HKN : Hid ((strOfNums (nam d)).toList.isEmpty = decide (knd d = 0)) := by
    unfold Hid
    by_cases hk : knd d = 0
    · have e : nam d = [] := hk1.2 hk
      rw [e, hk, nums_list]
      rfl
    · rw [nums_ne (l := nam d) (fun h => hk (hk1.1 h)), decide_eq_false hk]
  have HK4 : Hid (knd d ≤ 4) := hk2
  have hv : rwv (rwo d) = #[.string (strOfNums (nam d)), .int .i64 (w0 (knd d)), .int .i64 (w1 (knd d)), .int .i64 (w2 (knd d)), fnv (knd d)] := rfl
  have HF : Hid (fnv (knd d) = fnv (knd d)) := rfl
  rw [hv] at HRW HSZ
  obtain ⟨s, hs⟩ : ∃ s, s = strOfNums (nam d) := ⟨_, rfl⟩
  obtain ⟨k, hk⟩ : ∃ k, k = knd d := ⟨_, rfl⟩
  rw [← hs] at HRW HSZ HKN
  rw [← hk] at HRW HSZ HKN HKO HK4
  obtain ⟨a, ha⟩ : ∃ x, x = w0 k := ⟨_, rfl⟩
  obtain ⟨b0, hb0⟩ : ∃ x, x = w1 k := ⟨_, rfl⟩
  obtain ⟨c0, hc0⟩ : ∃ x, x = w2 k := ⟨_, rfl⟩
  obtain ⟨f, hf⟩ : ∃ x, x = fnv k := ⟨_, rfl⟩
  rw [← ha, ← hb0, ← hc0, ← hf] at HRW HSZ
  have HFV : Hid (f = fnv k) := hf
  have HON : Hid ((#[.string s, .int .i64 a, .int .i64 b0, .int .i64 c0, f] : Array Value).all (·.oneCell') = true) := by
    unfold Hid
    rw [hf]
    have h9 := fnv_one k
    simp [Value.oneCell'] at h9 ⊢
    exact h9
  have HHS : Hid _ := has_ s a b0 c0 f
  have hsk := hk2
  clear HF HK4 hk1 hk2 hk3 hv hs hk ha hb0 hc0 hf hd hce hsk
  have HK4 : Hid (k ≤ 4) := by have := HKO.out; unfold Hid; have h9 := (rwo_nam (B.getD p 0).toNat).2.1; rw [← this]; exact h9
  go_wp2_with fail
  refine Calls.mono HRW.out ?_
  rintro e1 W1 ⟨rfl, u1⟩
  have g6 : W1.heap[r6]? = some (.cells (insv zi) 28 (0, 0)) := u1.heap g6
  have HU1 : Hid (Up W W1) := HU0.out.trans u1
  obtain ⟨r8, hr8⟩ : ∃ r, r = W1.heap.size := ⟨_, rfl⟩
  have H68 : Hid (r6 ≠ r8) := by
    have h9 := (Array.getElem?_eq_some_iff.1 g6).1
    unfold Hid
    omega
  obtain ⟨W2, hW2⟩ : ∃ X, W1.alloc (.cells (rwv ([], 0)) 78) = X := ⟨_, rfl⟩
  have g8 : W2.heap[r8]? = some (.cells (rwv ([], 0)) 78 (0, 0)) := by rw [← hW2, hr8]; exact heap_alloc_new _ _
  have g6b : W2.heap[r6]? = some (.cells (insv zi) 28 (0, 0)) := by rw [← hW2]; exact ((Up.refl W1).alloc _).heap g6
  obtain ⟨W3, hW3⟩ : ∃ X, W2.setRow r8 #[.string s, .int .i64 a, .int .i64 b0, .int .i64 c0, f] = X := ⟨_, rfl⟩
  have g8c : W3.heap[r8]? = some (.cells #[.string s, .int .i64 a, .int .i64 b0, .int .i64 c0, f] 78 (0, 0)) := by rw [← hW3]; exact setRow_heap _ _ _ _ _ _ g8
  have g6c : W3.heap[r6]? = some (.cells (insv zi) 28 (0, 0)) := by rw [← hW3, setRow_other _ _ _ _ H68.out]; exact g6b
  have HU3 : Hid (Up W W3) := by
    unfold Hid
    rw [← hW3]
    exact up_setRow (by rw [← hW2]; exact HU1.out.alloc _) (by rw [hr8]; exact HU1.out.size) _
  have HR8 : Hid (r8 = W1.heap.size) := hr8
  have hW2b : W1.alloc (.cells (rwv ([], 0)) 78) = W2 := hW2
  go_upto_region 4 with (first | (refine wpList_store_row rfl 78 (.tmp 8) (.tmp 24) (by first | rfl | (rw [hr8]; rfl)) r8 #[.string s, .int .i64 a, .int .i64 b0, .int .i64 c0, f] (by first | rfl | (rw [hr8]; rfl)) (by rfl) 78 (rwv ([], 0)) (by first | exact g8 | (rw [hW2b]; exact g8)) sizeRow rfl HON.out ?_; refine wpList_world (by first | exact hW3 | (rw [hW2b]; exact hW3)) ?_))
  try rw [← hr8]
  clear hr8 hW2 hW2b hW3 g8 g6 g6b u1 hzr HT HU1 HRW
  simp only [Act.put]
  go_wp2_with (first | (refine wpList_load_rowG (by rfl) 78 (.tmp 8) (by rfl) r8 (by rfl) 78 #[.string s, .int .i64 a, .int .i64 b0, .int .i64 c0, f] (0, 0) _ g8c Tryd.underlying78 (by rfl) sizeRow ?_))
  refine Calls.mono (HHS.out _) ?_
  rintro e1 W4 ⟨rfl, u4⟩
  rw [HKN.out]
  have g8 : W4.heap[r8]? = some (.cells #[.string s, .int .i64 a, .int .i64 b0, .int .i64 c0, f] 78 (0, 0)) := u4.heap g8c
  have g6 : W4.heap[r6]? = some (.cells (insv zi) 28 (0, 0)) := u4.heap g6c
  have HU4 : Hid (Up W W4) := HU3.out.trans u4
  clear g8c g6c u4 HU3 HHS
  have HZN : Hid (¬ ((p : Int) < 0 ∨ (B.length : Int) ≤ (p : Int))) := by
    unfold Hid
    rw [← HN.out]
    omega
  by_cases hk0 : k = 0
  · rw [decide_eq_true hk0]
    have HRD : Hid (rd B (p : Int) = (zi, 40)) := by
      unfold Hid rd
      rw [if_neg HZN.out, if_pos (by rw [Int.toNat_natCast, HKO.out]; exact hk0)]
    obtain ⟨W9, hW9⟩ : ∃ W9, W4.setRow r6 (insv zi) = W9 := ⟨_, rfl⟩
    have r9 : W9.heap[r6]? = some (.cells (insv zi) 28 (0, 0)) := by rw [← hW9]; exact setRow_heap _ _ _ _ _ _ g6
    go_wp2_with (first | (refine wpList_buildTo rfl 28 _ rfl (some 28) rfl (insv zi) (by kernel_rfl) ?_) | (refine wpList_store_row rfl 28 (.tmp 6) (.tmp 28) rfl r6 (insv zi) rfl rfl 28 (insv zi) g6 sizeIns rfl (insv_one _) ?_; refine wpList_world hW9 ?_))
    refine bodyPost_ret (v := .tuple #[.agg (insv zi), .int .i64 40]) (res_c1 (p := 6) (q := 7) (ty := 28) rfl _ _ r6 28 (insv zi) (0, 0) _ (.int .i64 40) rfl rfl r9 Tryd.underlying28 rfl sizeIns) rfl ?_
    rw [HPo.out]
    refine ⟨by rw [HRD.out], ?_⟩
    rw [← hW9]
    exact up_setRow HU4.out (by rw [HR6.out]; exact Nat.le_refl _) _
  rw [decide_eq_false hk0]
  have e1 : IntKind.i64.wrap ((n : Int) - (p : Int)) = (n : Int) - (p : Int) := by rw [IntKind.wrap_i64]; omega
  go_wp2_with (first | (refine wpList_load_rowG (by rfl) 78 (.tmp 8) (by rfl) r8 (by rfl) 78 #[.string s, .int .i64 a, .int .i64 b0, .int .i64 c0, f] (0, 0) _ g8 Tryd.underlying78 (by rfl) sizeRow ?_))
  refine Calls.mono (HSZ.out _) ?_
  rintro e2 W5 ⟨rfl, u5⟩
  have g8b : W5.heap[r8]? = some (.cells #[.string s, .int .i64 a, .int .i64 b0, .int .i64 c0, f] 78 (0, 0)) := u5.heap g8
  have g6b : W5.heap[r6]? = some (.cells (insv zi) 28 (0, 0)) := u5.heap g6
  have HU5 : Hid (Up W W5) := HU4.out.trans u5
  clear g8 g6 u5 HU4 HSZ
  by_cases hlen : n - p < siz k
  · have hlen2 : (n : Int) - (p : Int) < ((siz k : Nat) : Int) := by omega
    have HRD : Hid (rd B (p : Int) = (zi, 41)) := by
      unfold Hid rd
      rw [if_neg HZN.out, if_neg (by rw [Int.toNat_natCast, HKO.out]; exact hk0), if_pos (by rw [Int.toNat_natCast, HKO.out, ← HN.out]; exact hlen)]
    generalize siz k = sz at hlen hlen2
    obtain ⟨W9, hW9⟩ : ∃ W9, W5.setRow r6 (insv zi) = W9 := ⟨_, rfl⟩
    have r9 : W9.heap[r6]? = some (.cells (insv zi) 28 (0, 0)) := by rw [← hW9]; exact setRow_heap _ _ _ _ _ _ g6b
    go_wp2_with (first | (refine wpList_buildTo rfl 28 _ rfl (some 36) rfl (insv zi) (by kernel_rfl) ?_) | (refine wpList_store_row rfl 28 (.tmp 6) (.tmp 36) rfl r6 (insv zi) rfl rfl 28 (insv zi) g6b sizeIns rfl (insv_one _) ?_; refine wpList_world hW9 ?_))
    refine bodyPost_ret (v := .tuple #[.agg (insv zi), .int .i64 41]) (res_c1 (p := 6) (q := 7) (ty := 28) rfl _ _ r6 28 (insv zi) (0, 0) _ (.int .i64 41) rfl rfl r9 Tryd.underlying28 rfl sizeIns) rfl ?_
    rw [HPo.out]
    refine ⟨by rw [HRD.out], ?_⟩
    rw [← hW9]
    exact up_setRow HU5.out (by rw [HR6.out]; exact Nat.le_refl _) _
  have hlen2 : ¬ (n : Int) - (p : Int) < ((siz k : Nat) : Int) := by omega
  have HRD : Hid (rd B (p : Int) = (⟨(p : Int), (d : Int), (opn B p k).1, (opn B p k).2.1, (opn B p k).2.2⟩, 0)) := by
    unfold Hid rd
    rw [if_neg HZN.out, if_neg (by rw [Int.toNat_natCast, HKO.out]; exact hk0), if_neg (by rw [Int.toNat_natCast, HKO.out, ← HN.out]; exact hlen), Int.toNat_natCast, HKO.out, HD.out]
  obtain ⟨q, hq⟩ : ∃ q, q = p + 1 := ⟨_, rfl⟩
  have HQ : Hid (q = p + 1) := hq
  have eq : IntKind.i64.wrap ((p : Int) + 1) = (q : Int) := by rw [IntKind.wrap_i64, hq]; omega
  have hqn : q ≤ n := by omega
  have hqc : q ≤ c := by omega
  have hk4 : k = 1 ∨ k = 2 ∨ k = 3 ∨ k = 4 := by have := HK4.out; omega
  have HBA : Hid (∀ j, 0 ≤ B.getD j 0 ∧ B.getD j 0 < 256) := HB.out.at
  have hx9 := HCB.out W5 HU5.out p hpn
  rw [← HD.out] at hx9
  clear HON HKO HK4 HKN HZN HCE HB hx hq HD
  rcases hk4 with hk | hk | hk | hk
  · by_cases hcq0 : c = q
    · have hcn : n = c := by omega
      subst hk
      have hf : f = fnv 1 := HFV.out
      have hf2 : fnv 1 = .func (.func 88) #[] #[] := rfl
      rw [hf2] at hf
      subst hf
      have hsz : siz 1 = 1 := rfl
      rw [hsz] at hlen hlen2
      have HQ9 : Hid (opn B p 1 = (0, 0, 0)) := rfl
      have c8 : W5.cell? ⟨r8, 4, none⟩ = some (.func (.func 88) #[] #[]) := by simp only [World.cell?, g8b]; rfl
      have HC : Hid (∀ V, Up W5 V → Calls Tryd.prog 88 #[.slice (some ⟨b, off, none⟩) 0 0] V fun e w' => e = .returned (.agg #[.int .i64 0, .int .i64 0, .int .i64 0]) ∧ Up V w') := fun V hu => bare1_ _ V
      clear HCB
      go_upto_region 8 with fail
      refine (fun key8 : ∀ (W9 : World) (pk : Nat), Up W5 W9 → W9.heap[pk]? = some (.cells #[.int .i64 0, .int .i64 0, .int .i64 0] 95 (0, 0)) → (?G8b : World → Nat → Prop) W9 pk => ?main8b) ?kp8b
      case main8b =>
        refine wp_region_held_drew (S := fun W9 => Up W5 W9) (by kernel_rfl) (Up.drew (Up.refl _)) (fun hHeld => ?_)
        have Ua0 : Up W5 W5.drew := Up.drew (Up.refl _)
        refine wpAnyH_take (i := 0) (v := ?_) rfl (by kernel_rfl) (by kernel_rfl) (by kernel_rfl) (fun _ _ _ h => h) (Or.inl ⟨by rfl, ?_⟩) (by assumption) ?_
        rotate_left
        · intro w9 hSw
          go_simp
          try with_reducible rfl
        simp only [Act.put, List.setIfInBounds_toArray, List.set_cons_zero, List.set_cons_succ, List.getElem_toArray, List.getElem_cons_zero]
        refine wpAnyH_take (i := 1) (v := ?_) rfl (by kernel_rfl) (by kernel_rfl) (by kernel_rfl) (fun _ _ _ h => h) (Or.inl ⟨by rfl, ?_⟩) (by assumption) ?_
        rotate_left
        · intro w9 hSw
          have c2 := hSw.cell c8
          go_simp
          try with_reducible rfl
        simp only [Act.put, List.setIfInBounds_toArray, List.set_cons_zero, List.set_cons_succ, List.getElem_toArray, List.getElem_cons_zero, List.getElem_cons_succ]
        refine wpAnyH_take (i := 2) (v := ?_) rfl (by kernel_rfl) (by kernel_rfl) (by kernel_rfl) (fun _ _ _ h => h) (Or.inl ⟨by rfl, ?_⟩) (by assumption) ?_
        rotate_left
        · intro w9 hSw
          go_simp
          try with_reducible rfl
        simp only [Act.put, List.setIfInBounds_toArray, List.set_cons_zero, List.set_cons_succ, List.getElem_toArray, List.getElem_cons_zero, List.getElem_cons_succ]
        refine wpAnyH_take (i := 3) (v := ?_) rfl (by kernel_rfl) (by kernel_rfl) (by kernel_rfl) (fun _ _ _ h => h) (Or.inl ⟨by rfl, ?_⟩) (by assumption) ?_
        rotate_left
        · intro w9 hSw
          go_simp
          try with_reducible rfl
        simp only [Act.put, List.setIfInBounds_toArray, List.set_cons_zero, List.set_cons_succ, List.getElem_toArray, List.getElem_cons_zero, List.getElem_cons_succ]
        refine wpAnyH_take (i := 4) (v := ?_) rfl (by kernel_rfl) (by kernel_rfl) (by kernel_rfl) (fun _ _ _ h => h) (Or.inl ⟨by rfl, ?_⟩) (by assumption) ?_
        rotate_left
        · intro w9 hSw
          go_simp
          try with_reducible rfl
        simp only [Act.put, List.setIfInBounds_toArray, List.set_cons_zero, List.set_cons_succ, List.getElem_toArray, List.getElem_cons_zero, List.getElem_cons_succ]
        refine wpAnyH_take (i := 5) (v := ?_) rfl (by kernel_rfl) (by kernel_rfl) (by kernel_rfl) (fun _ _ _ h => h) (Or.inl ⟨by rfl, ?_⟩) (by assumption) ?_
        rotate_left
        · intro w9 hSw
          go_simp
          try with_reducible rfl
        simp only [Act.put, List.setIfInBounds_toArray, List.set_cons_zero, List.set_cons_succ, List.getElem_toArray, List.getElem_cons_zero, List.getElem_cons_succ]
        refine wpAnyH_ready (rs := [6, 7]) (by kernel_rfl) (by simp) ?_
        refine AllReadyH.cons rfl (fun K hK => ?_) (AllReadyH.cons rfl (fun K hK => ?_) AllReadyH.nil)
        · simp only [List.getElem_toArray, List.getElem_cons_zero, List.getElem_cons_succ]
          go_simp
          refine Calls.mono (HC.out _ Ua0) ?_
          rintro r9 Wa1 ⟨rfl, ua1⟩
          go_simp
          have Ua1 := Ua0.trans ua1
          refine hK.out _ _ ?_ (fun hHeld => ?_)
          · exact Ua1
          clear hK K
          try simp only [Act.put, List.setIfInBounds_toArray, List.set_cons_zero, List.set_cons_succ]
          have hSS := Ua1
          refine wpAnyH_ready (rs := [7]) (by kernel_rfl) (by simp) ?_
          refine AllReadyH.cons rfl (fun K hK => ?_) AllReadyH.nil
          simp only [List.getElem_toArray, List.getElem_cons_zero, List.getElem_cons_succ]
          go_simp
          refine hK.out _ _ ?_ (fun hHeld => ?_)
          · exact Ua1.alloc _
          clear hK K
          try simp only [Act.put, List.setIfInBounds_toArray, List.set_cons_zero, List.set_cons_succ]
          obtain ⟨pk, hpk⟩ : ∃ p, p = (Wa1).heap.size := ⟨_, rfl⟩
          obtain ⟨Wa2, hW1⟩ : ∃ W1, (Wa1).alloc (.cells #[.int .i64 0, .int .i64 0, .int .i64 0] 95) = W1 := ⟨_, rfl⟩
          refine wpAnyH_world hW1 ?_
          have h9 : Wa1.heap.size = pk := hpk.symm
          simp only [h9]
          clear h9
          have ua2 : Up (Wa1) Wa2 := by rw [← hW1]; exact (Up.refl _).alloc _
          have epk : Wa2.heap[pk]? = some (.cells #[.int .i64 0, .int .i64 0, .int .i64 0] 95 (0, 0)) := by rw [hpk, ← hW1]; exact heap_alloc_new _ _
          have lpk : W5.heap.size ≤ pk := by rw [hpk]; exact Ua1.size
          have Ua2 := Ua1.trans ua2
          clear hHeld hW1 hpk
          have hSS := Ua2
          refine wpAnyH_ready (rs := [8]) (by kernel_rfl) (by simp) ?_
          refine AllReadyH.cons rfl (fun K hK => ?_) AllReadyH.nil
          simp only [List.getElem_toArray, List.getElem_cons_zero, List.getElem_cons_succ]
          refine stepH_store (by rfl) 95 (.tmp 9) (.tmp 43) (by rfl) pk #[.int .i64 0, .int .i64 0, .int .i64 0] (by rfl) (by rfl) 95 #[.int .i64 0, .int .i64 0, .int .i64 0] epk (sizeNum) (rfl) (by simp [Value.oneCell']) ?_
          refine hK.out _ _ ?_ (fun hHeld => ?_)
          · exact up_setRow Ua2 lpk _
          clear hK K
          simp only [Act.put]
          obtain ⟨Wa3, hW1⟩ : ∃ W1, (Wa2).setRow pk #[.int .i64 0, .int .i64 0, .int .i64 0] = W1 := ⟨_, rfl⟩
          refine wpAnyH_world hW1 ?_
          have Ua3 : Up W5 Wa3 := by rw [← hW1]; exact up_setRow Ua2 lpk _
          have epk : Wa3.heap[pk]? = some (.cells #[.int .i64 0, .int .i64 0, .int .i64 0] 95 (0, 0)) := by rw [← hW1]; exact setRow_heap _ _ _ _ _ _ epk
          clear hHeld hW1
          have hSS := Ua3
          refine wpAnyH_done (by kernel_rfl) ?_ _
          exact key8 Wa3 pk Ua3 epk
        · simp only [List.getElem_toArray, List.getElem_cons_zero, List.getElem_cons_succ]
          go_simp
          refine hK.out _ _ ?_ (fun hHeld => ?_)
          · exact Ua0.alloc _
          clear hK K
          try simp only [Act.put, List.setIfInBounds_toArray, List.set_cons_zero, List.set_cons_succ]
          obtain ⟨pk, hpk⟩ : ∃ p, p = (W5.drew).heap.size := ⟨_, rfl⟩
          obtain ⟨Wa1, hW1⟩ : ∃ W1, (W5.drew).alloc (.cells #[.int .i64 0, .int .i64 0, .int .i64 0] 95) = W1 := ⟨_, rfl⟩
          refine wpAnyH_world hW1 ?_
          have h9 : W5.heap.size = pk := hpk.symm
          simp only [h9]
          clear h9
          have ua1 : Up (W5.drew) Wa1 := by rw [← hW1]; exact (Up.refl _).alloc _
          have epk : Wa1.heap[pk]? = some (.cells #[.int .i64 0, .int .i64 0, .int .i64 0] 95 (0, 0)) := by rw [hpk, ← hW1]; exact heap_alloc_new _ _
          have lpk : W5.heap.size ≤ pk := by rw [hpk]; exact Ua0.size
          have Ua1 := Ua0.trans ua1
          clear hHeld hW1 hpk
          have hSS := Ua1
          refine wpAnyH_ready (rs := [6]) (by kernel_rfl) (by simp) ?_
          refine AllReadyH.cons rfl (fun K hK => ?_) AllReadyH.nil
          simp only [List.getElem_toArray, List.getElem_cons_zero, List.getElem_cons_succ]
          go_simp
          refine Calls.mono (HC.out _ Ua1) ?_
          rintro r9 Wa2 ⟨rfl, ua2⟩
          go_simp
          have Ua2 := Ua1.trans ua2
          have epk := ua2.heap epk
          refine hK.out _ _ ?_ (fun hHeld => ?_)
          · exact Ua2
          clear hK K
          try simp only [Act.put, List.setIfInBounds_toArray, List.set_cons_zero, List.set_cons_succ]
          have hSS := Ua2
          refine wpAnyH_ready (rs := [8]) (by kernel_rfl) (by simp) ?_
          refine AllReadyH.cons rfl (fun K hK => ?_) AllReadyH.nil
          simp only [List.getElem_toArray, List.getElem_cons_zero, List.getElem_cons_succ]
          refine stepH_store (by rfl) 95 (.tmp 9) (.tmp 43) (by rfl) pk #[.int .i64 0, .int .i64 0, .int .i64 0] (by rfl) (by rfl) 95 #[.int .i64 0, .int .i64 0, .int .i64 0] epk (sizeNum) (rfl) (by simp [Value.oneCell']) ?_
          refine hK.out _ _ ?_ (fun hHeld => ?_)
          · exact up_setRow Ua2 lpk _
          clear hK K
          simp only [Act.put]
          obtain ⟨Wa3, hW1⟩ : ∃ W1, (Wa2).setRow pk #[.int .i64 0, .int .i64 0, .int .i64 0] = W1 := ⟨_, rfl⟩
          refine wpAnyH_world hW1 ?_
          have Ua3 : Up W5 Wa3 := by rw [← hW1]; exact up_setRow Ua2 lpk _
          have epk : Wa3.heap[pk]? = some (.cells #[.int .i64 0, .int .i64 0, .int .i64 0] 95 (0, 0)) := by rw [← hW1]; exact setRow_heap _ _ _ _ _ _ epk
          clear hHeld hW1
          have hSS := Ua3
          refine wpAnyH_done (by kernel_rfl) ?_ _
          exact key8 Wa3 pk Ua3 epk
      case kp8b =>
        intro W9 pk u9 e9
        have x0 : W9.cell? ⟨pk, 0, none⟩ = some (.int .i64 0) := by simp [World.cell?, e9]
        have x1 : W9.cell? ⟨pk, 1, none⟩ = some (.int .i64 0) := by simp [World.cell?, e9]
        have x2 : W9.cell? ⟨pk, 2, none⟩ = some (.int .i64 0) := by simp [World.cell?, e9]
        have x3 : W9.cell? ⟨b, off + p, none⟩ = some (.int .u8 (d : Int)) := u9.cell hx9
        have g6 : W9.heap[r6]? = some (.cells (insv zi) 28 (0, 0)) := u9.heap g6b
        have HU9 : Hid (Up W W9) := HU5.out.trans u9
        clear u9 e9 hx9 c8 HC g6b g8b
        go_upto_region 9 with fail
        refine TailR.wp_region_seq 12 (by kernel_rfl) (by kernel_rfl) ?_
        simp only [List.take_succ_cons, List.take_zero, List.drop_succ_cons, List.drop_zero]
        repeat (go_big_quiet_step (fail))
        refine wpQuiet_nil ?_
        intro _ hw'
        obtain ⟨nq, hw''⟩ := hw'
        subst hw''
        have g7 : (W9.drewN nq).heap[r6]? = some (.cells (insv zi) 28 (0, 0)) := g6
        obtain ⟨WA, hWA⟩ : ∃ X, (W9.drewN nq).setRow r6 #[.int .i64 (p : Int), .int .u8 (d : Int), .int .i64 0, .int .i64 0, .int .i64 0] = X := ⟨_, rfl⟩
        have ra : WA.heap[r6]? = some (.cells #[.int .i64 (p : Int), .int .u8 (d : Int), .int .i64 0, .int .i64 0, .int .i64 0] 28 (0, 0)) := by rw [← hWA]; exact setRow_heap _ _ _ _ _ _ g7
        go_wp2_with (first | (refine wpList_store_row rfl 28 (.tmp 6) (.tmp 55) rfl r6 #[.int .i64 (p : Int), .int .u8 (d : Int), .int .i64 0, .int .i64 0, .int .i64 0] rfl rfl 28 (insv zi) g7 sizeIns rfl (by simp [Value.oneCell']) ?_; refine wpList_world hWA ?_))
        refine bodyPost_ret (v := .tuple #[.agg #[.int .i64 (p : Int), .int .u8 (d : Int), .int .i64 0, .int .i64 0, .int .i64 0], .int .i64 0]) (res_c1 (p := 6) (q := 7) (ty := 28) rfl _ _ r6 28 #[.int .i64 (p : Int), .int .u8 (d : Int), .int .i64 0, .int .i64 0, .int .i64 0] (0, 0) _ (.int .i64 0) rfl rfl ra Tryd.underlying28 rfl sizeIns) rfl ?_
        rw [HPo.out]
        refine ⟨by rw [HRD.out, HQ9.out]; rfl, ?_⟩
        rw [← hWA]
        exact up_setRow (HU9.out.drewN nq) (by rw [HR6.out]; exact Nat.le_refl _) _
    · skip
      subst hk
      have hf : f = fnv 1 := HFV.out
      have hf2 : fnv 1 = .func (.func 88) #[] #[] := rfl
      rw [hf2] at hf
      subst hf
      have hsz : siz 1 = 1 := rfl
      rw [hsz] at hlen hlen2
      have hcq : ¬ c = q := hcq0
      have HQ9 : Hid (opn B p 1 = (0, 0, 0)) := rfl
      have c8 : W5.cell? ⟨r8, 4, none⟩ = some (.func (.func 88) #[] #[]) := by simp only [World.cell?, g8b]; rfl
      have HC : Hid (∀ V, Up W5 V → Calls Tryd.prog 88 #[.slice (some ⟨b, off + q, none⟩) (n - q) (c - q)] V fun e w' => e = .returned (.agg #[.int .i64 0, .int .i64 0, .int .i64 0]) ∧ Up V w') := fun V hu => bare1_ _ V
      clear HCB
      go_upto_region 8 with fail
      refine (fun key8 : ∀ (W9 : World) (pk : Nat), Up W5 W9 → W9.heap[pk]? = some (.cells #[.int .i64 0, .int .i64 0, .int .i64 0] 95 (0, 0)) → (?G81 : World → Nat → Prop) W9 pk => ?main81) ?kp81
      case main81 =>
        refine wp_region_held_drew (S := fun W9 => Up W5 W9) (by kernel_rfl) (Up.drew (Up.refl _)) (fun hHeld => ?_)
        have Ua0 : Up W5 W5.drew := Up.drew (Up.refl _)
        refine wpAnyH_take (i := 0) (v := ?_) rfl (by kernel_rfl) (by kernel_rfl) (by kernel_rfl) (fun _ _ _ h => h) (Or.inl ⟨by rfl, ?_⟩) (by assumption) ?_
        rotate_left
        · intro w9 hSw
          go_simp
          try with_reducible rfl
        simp only [Act.put, List.setIfInBounds_toArray, List.set_cons_zero, List.set_cons_succ, List.getElem_toArray, List.getElem_cons_zero]
        refine wpAnyH_take (i := 1) (v := ?_) rfl (by kernel_rfl) (by kernel_rfl) (by kernel_rfl) (fun _ _ _ h => h) (Or.inl ⟨by rfl, ?_⟩) (by assumption) ?_
        rotate_left
        · intro w9 hSw
          have c2 := hSw.cell c8
          go_simp
          try with_reducible rfl
        simp only [Act.put, List.setIfInBounds_toArray, List.set_cons_zero, List.set_cons_succ, List.getElem_toArray, List.getElem_cons_zero, List.getElem_cons_succ]
        refine wpAnyH_take (i := 2) (v := ?_) rfl (by kernel_rfl) (by kernel_rfl) (by kernel_rfl) (fun _ _ _ h => h) (Or.inl ⟨by rfl, ?_⟩) (by assumption) ?_
        rotate_left
        · intro w9 hSw
          go_simp
          try with_reducible rfl
        simp only [Act.put, List.setIfInBounds_toArray, List.set_cons_zero, List.set_cons_succ, List.getElem_toArray, List.getElem_cons_zero, List.getElem_cons_succ]
        refine wpAnyH_take (i := 3) (v := ?_) rfl (by kernel_rfl) (by kernel_rfl) (by kernel_rfl) (fun _ _ _ h => h) (Or.inl ⟨by rfl, ?_⟩) (by assumption) ?_
        rotate_left
        · intro w9 hSw
          go_simp
          try with_reducible rfl
        simp only [Act.put, List.setIfInBounds_toArray, List.set_cons_zero, List.set_cons_succ, List.getElem_toArray, List.getElem_cons_zero, List.getElem_cons_succ]
        refine wpAnyH_take (i := 4) (v := ?_) rfl (by kernel_rfl) (by kernel_rfl) (by kernel_rfl) (fun _ _ _ h => h) (Or.inl ⟨by rfl, ?_⟩) (by assumption) ?_
        rotate_left
        · intro w9 hSw
          go_simp
          try with_reducible rfl
        simp only [Act.put, List.setIfInBounds_toArray, List.set_cons_zero, List.set_cons_succ, List.getElem_toArray, List.getElem_cons_zero, List.getElem_cons_succ]
        refine wpAnyH_take (i := 5) (v := ?_) rfl (by kernel_rfl) (by kernel_rfl) (by kernel_rfl) (fun _ _ _ h => h) (Or.inl ⟨by rfl, ?_⟩) (by assumption) ?_
        rotate_left
        · intro w9 hSw
          go_simp
          try with_reducible rfl
        simp only [Act.put, List.setIfInBounds_toArray, List.set_cons_zero, List.set_cons_succ, List.getElem_toArray, List.getElem_cons_zero, List.getElem_cons_succ]
        refine wpAnyH_ready (rs := [6, 7]) (by kernel_rfl) (by simp) ?_
        refine AllReadyH.cons rfl (fun K hK => ?_) (AllReadyH.cons rfl (fun K hK => ?_) AllReadyH.nil)
        · simp only [List.getElem_toArray, List.getElem_cons_zero, List.getElem_cons_succ]
          go_simp
          refine Calls.mono (HC.out _ Ua0) ?_
          rintro r9 Wa1 ⟨rfl, ua1⟩
          go_simp
          have Ua1 := Ua0.trans ua1
          refine hK.out _ _ ?_ (fun hHeld => ?_)
          · exact Ua1
          clear hK K
          try simp only [Act.put, List.setIfInBounds_toArray, List.set_cons_zero, List.set_cons_succ]
          have hSS := Ua1
          refine wpAnyH_ready (rs := [7]) (by kernel_rfl) (by simp) ?_
          refine AllReadyH.cons rfl (fun K hK => ?_) AllReadyH.nil
          simp only [List.getElem_toArray, List.getElem_cons_zero, List.getElem_cons_succ]
          go_simp
          refine hK.out _ _ ?_ (fun hHeld => ?_)
          · exact Ua1.alloc _
          clear hK K
          try simp only [Act.put, List.setIfInBounds_toArray, List.set_cons_zero, List.set_cons_succ]
          obtain ⟨pk, hpk⟩ : ∃ p, p = (Wa1).heap.size := ⟨_, rfl⟩
          obtain ⟨Wa2, hW1⟩ : ∃ W1, (Wa1).alloc (.cells #[.int .i64 0, .int .i64 0, .int .i64 0] 95) = W1 := ⟨_, rfl⟩
          refine wpAnyH_world hW1 ?_
          have h9 : Wa1.heap.size = pk := hpk.symm
          simp only [h9]
          clear h9
          have ua2 : Up (Wa1) Wa2 := by rw [← hW1]; exact (Up.refl _).alloc _
          have epk : Wa2.heap[pk]? = some (.cells #[.int .i64 0, .int .i64 0, .int .i64 0] 95 (0, 0)) := by rw [hpk, ← hW1]; exact heap_alloc_new _ _
          have lpk : W5.heap.size ≤ pk := by rw [hpk]; exact Ua1.size
          have Ua2 := Ua1.trans ua2
          clear hHeld hW1 hpk
          have hSS := Ua2
          refine wpAnyH_ready (rs := [8]) (by kernel_rfl) (by simp) ?_
          refine AllReadyH.cons rfl (fun K hK => ?_) AllReadyH.nil
          simp only [List.getElem_toArray, List.getElem_cons_zero, List.getElem_cons_succ]
          refine stepH_store (by rfl) 95 (.tmp 9) (.tmp 43) (by rfl) pk #[.int .i64 0, .int .i64 0, .int .i64 0] (by rfl) (by rfl) 95 #[.int .i64 0, .int .i64 0, .int .i64 0] epk (sizeNum) (rfl) (by simp [Value.oneCell']) ?_
          refine hK.out _ _ ?_ (fun hHeld => ?_)
          · exact up_setRow Ua2 lpk _
          clear hK K
          simp only [Act.put]
          obtain ⟨Wa3, hW1⟩ : ∃ W1, (Wa2).setRow pk #[.int .i64 0, .int .i64 0, .int .i64 0] = W1 := ⟨_, rfl⟩
          refine wpAnyH_world hW1 ?_
          have Ua3 : Up W5 Wa3 := by rw [← hW1]; exact up_setRow Ua2 lpk _
          have epk : Wa3.heap[pk]? = some (.cells #[.int .i64 0, .int .i64 0, .int .i64 0] 95 (0, 0)) := by rw [← hW1]; exact setRow_heap _ _ _ _ _ _ epk
          clear hHeld hW1
          have hSS := Ua3
          refine wpAnyH_done (by kernel_rfl) ?_ _
          exact key8 Wa3 pk Ua3 epk
        · simp only [List.getElem_toArray, List.getElem_cons_zero, List.getElem_cons_succ]
          go_simp
          refine hK.out _ _ ?_ (fun hHeld => ?_)
          · exact Ua0.alloc _
          clear hK K
          try simp only [Act.put, List.setIfInBounds_toArray, List.set_cons_zero, List.set_cons_succ]
          obtain ⟨pk, hpk⟩ : ∃ p, p = (W5.drew).heap.size := ⟨_, rfl⟩
          obtain ⟨Wa1, hW1⟩ : ∃ W1, (W5.drew).alloc (.cells #[.int .i64 0, .int .i64 0, .int .i64 0] 95) = W1 := ⟨_, rfl⟩
          refine wpAnyH_world hW1 ?_
          have h9 : W5.heap.size = pk := hpk.symm
          simp only [h9]
          clear h9
          have ua1 : Up (W5.drew) Wa1 := by rw [← hW1]; exact (Up.refl _).alloc _
          have epk : Wa1.heap[pk]? = some (.cells #[.int .i64 0, .int .i64 0, .int .i64 0] 95 (0, 0)) := by rw [hpk, ← hW1]; exact heap_alloc_new _ _
          have lpk : W5.heap.size ≤ pk := by rw [hpk]; exact Ua0.size
          have Ua1 := Ua0.trans ua1
          clear hHeld hW1 hpk
          have hSS := Ua1
          refine wpAnyH_ready (rs := [6]) (by kernel_rfl) (by simp) ?_
          refine AllReadyH.cons rfl (fun K hK => ?_) AllReadyH.nil
          simp only [List.getElem_toArray, List.getElem_cons_zero, List.getElem_cons_succ]
          go_simp
          refine Calls.mono (HC.out _ Ua1) ?_
          rintro r9 Wa2 ⟨rfl, ua2⟩
          go_simp
          have Ua2 := Ua1.trans ua2
          have epk := ua2.heap epk
          refine hK.out _ _ ?_ (fun hHeld => ?_)
          · exact Ua2
          clear hK K
          try simp only [Act.put, List.setIfInBounds_toArray, List.set_cons_zero, List.set_cons_succ]
          have hSS := Ua2
          refine wpAnyH_ready (rs := [8]) (by kernel_rfl) (by simp) ?_
          refine AllReadyH.cons rfl (fun K hK => ?_) AllReadyH.nil
          simp only [List.getElem_toArray, List.getElem_cons_zero, List.getElem_cons_succ]
          refine stepH_store (by rfl) 95 (.tmp 9) (.tmp 43) (by rfl) pk #[.int .i64 0, .int .i64 0, .int .i64 0] (by rfl) (by rfl) 95 #[.int .i64 0, .int .i64 0, .int .i64 0] epk (sizeNum) (rfl) (by simp [Value.oneCell']) ?_
          refine hK.out _ _ ?_ (fun hHeld => ?_)
          · exact up_setRow Ua2 lpk _
          clear hK K
          simp only [Act.put]
          obtain ⟨Wa3, hW1⟩ : ∃ W1, (Wa2).setRow pk #[.int .i64 0, .int .i64 0, .int .i64 0] = W1 := ⟨_, rfl⟩
          refine wpAnyH_world hW1 ?_
          have Ua3 : Up W5 Wa3 := by rw [← hW1]; exact up_setRow Ua2 lpk _
          have epk : Wa3.heap[pk]? = some (.cells #[.int .i64 0, .int .i64 0, .int .i64 0] 95 (0, 0)) := by rw [← hW1]; exact setRow_heap _ _ _ _ _ _ epk
          clear hHeld hW1
          have hSS := Ua3
          refine wpAnyH_done (by kernel_rfl) ?_ _
          exact key8 Wa3 pk Ua3 epk
      case kp81 =>
        intro W9 pk u9 e9
        have x0 : W9.cell? ⟨pk, 0, none⟩ = some (.int .i64 0) := by simp [World.cell?, e9]
        have x1 : W9.cell? ⟨pk, 1, none⟩ = some (.int .i64 0) := by simp [World.cell?, e9]
        have x2 : W9.cell? ⟨pk, 2, none⟩ = some (.int .i64 0) := by simp [World.cell?, e9]
        have x3 : W9.cell? ⟨b, off + p, none⟩ = some (.int .u8 (d : Int)) := u9.cell hx9
        have g6 : W9.heap[r6]? = some (.cells (insv zi) 28 (0, 0)) := u9.heap g6b
        have HU9 : Hid (Up W W9) := HU5.out.trans u9
        clear u9 e9 hx9 c8 HC g6b g8b
        go_upto_region 9 with fail
        refine TailR.wp_region_seq 12 (by kernel_rfl) (by kernel_rfl) ?_
        simp only [List.take_succ_cons, List.take_zero, List.drop_succ_cons, List.drop_zero]
        repeat (go_big_quiet_step (fail))
        refine wpQuiet_nil ?_
        intro _ hw'
        obtain ⟨nq, hw''⟩ := hw'
        subst hw''
        have g7 : (W9.drewN nq).heap[r6]? = some (.cells (insv zi) 28 (0, 0)) := g6
        obtain ⟨WA, hWA⟩ : ∃ X, (W9.drewN nq).setRow r6 #[.int .i64 (p : Int), .int .u8 (d : Int), .int .i64 0, .int .i64 0, .int .i64 0] = X := ⟨_, rfl⟩
        have ra : WA.heap[r6]? = some (.cells #[.int .i64 (p : Int), .int .u8 (d : Int), .int .i64 0, .int .i64 0, .int .i64 0] 28 (0, 0)) := by rw [← hWA]; exact setRow_heap _ _ _ _ _ _ g7
        go_wp2_with (first | (refine wpList_store_row rfl 28 (.tmp 6) (.tmp 55) rfl r6 #[.int .i64 (p : Int), .int .u8 (d : Int), .int .i64 0, .int .i64 0, .int .i64 0] rfl rfl 28 (insv zi) g7 sizeIns rfl (by simp [Value.oneCell']) ?_; refine wpList_world hWA ?_))
        refine bodyPost_ret (v := .tuple #[.agg #[.int .i64 (p : Int), .int .u8 (d : Int), .int .i64 0, .int .i64 0, .int .i64 0], .int .i64 0]) (res_c1 (p := 6) (q := 7) (ty := 28) rfl _ _ r6 28 #[.int .i64 (p : Int), .int .u8 (d : Int), .int .i64 0, .int .i64 0, .int .i64 0] (0, 0) _ (.int .i64 0) rfl rfl ra Tryd.underlying28 rfl sizeIns) rfl ?_
        rw [HPo.out]
        refine ⟨by rw [HRD.out, HQ9.out]; rfl, ?_⟩
        rw [← hWA]
        exact up_setRow (HU9.out.drewN nq) (by rw [HR6.out]; exact Nat.le_refl _) _
  · subst hk
    have hf : f = fnv 2 := HFV.out
    have hf2 : fnv 2 = .func (.func 89) #[] #[] := rfl
    rw [hf2] at hf
    subst hf
    have hsz : siz 2 = 2 := rfl
    rw [hsz] at hlen hlen2
    have hcq : ¬ c = q := by have := HQ.out; omega
    have HQ9 : Hid (opn B p 2 = ((B.getD (p + 1) 0), 0, 0)) := rfl
    have c8 : W5.cell? ⟨r8, 4, none⟩ = some (.func (.func 89) #[] #[]) := by simp only [World.cell?, g8b]; rfl
    have HC : Hid (∀ V, Up W5 V → Calls Tryd.prog 89 #[.slice (some ⟨b, off + q, none⟩) (n - q) (c - q)] V fun e w' => e = .returned (.agg #[.int .i64 (B.getD (p + 1) 0), .int .i64 0, .int .i64 0]) ∧ Up V w') := fun V hu => single1_ b (off + q) (n - q) (c - q) _ V (by have := HQ.out; omega) (by have h9 := HCB.out V (HU5.out.trans hu) (p + 1) (by omega); rw [HQ.out]; exact h9) (HBA.out (p + 1)).1 (HBA.out (p + 1)).2
    clear HCB
    go_upto_region 8 with fail
    refine (fun key8 : ∀ (W9 : World) (pk : Nat), Up W5 W9 → W9.heap[pk]? = some (.cells #[.int .i64 (B.getD (p + 1) 0), .int .i64 0, .int .i64 0] 95 (0, 0)) → (?G82 : World → Nat → Prop) W9 pk => ?main82) ?kp82
    case main82 =>
      refine wp_region_held_drew (S := fun W9 => Up W5 W9) (by kernel_rfl) (Up.drew (Up.refl _)) (fun hHeld => ?_)
      have Ua0 : Up W5 W5.drew := Up.drew (Up.refl _)
      refine wpAnyH_take (i := 0) (v := ?_) rfl (by kernel_rfl) (by kernel_rfl) (by kernel_rfl) (fun _ _ _ h => h) (Or.inl ⟨by rfl, ?_⟩) (by assumption) ?_
      rotate_left
      · intro w9 hSw
        go_simp
        try with_reducible rfl
      simp only [Act.put, List.setIfInBounds_toArray, List.set_cons_zero, List.set_cons_succ, List.getElem_toArray, List.getElem_cons_zero]
      refine wpAnyH_take (i := 1) (v := ?_) rfl (by kernel_rfl) (by kernel_rfl) (by kernel_rfl) (fun _ _ _ h => h) (Or.inl ⟨by rfl, ?_⟩) (by assumption) ?_
      rotate_left
      · intro w9 hSw
        have c2 := hSw.cell c8
        go_simp
        try with_reducible rfl
      simp only [Act.put, List.setIfInBounds_toArray, List.set_cons_zero, List.set_cons_succ, List.getElem_toArray, List.getElem_cons_zero, List.getElem_cons_succ]
      refine wpAnyH_take (i := 2) (v := ?_) rfl (by kernel_rfl) (by kernel_rfl) (by kernel_rfl) (fun _ _ _ h => h) (Or.inl ⟨by rfl, ?_⟩) (by assumption) ?_
      rotate_left
      · intro w9 hSw
        go_simp
        try with_reducible rfl
      simp only [Act.put, List.setIfInBounds_toArray, List.set_cons_zero, List.set_cons_succ, List.getElem_toArray, List.getElem_cons_zero, List.getElem_cons_succ]
      refine wpAnyH_take (i := 3) (v := ?_) rfl (by kernel_rfl) (by kernel_rfl) (by kernel_rfl) (fun _ _ _ h => h) (Or.inl ⟨by rfl, ?_⟩) (by assumption) ?_
      rotate_left
      · intro w9 hSw
        go_simp
        try with_reducible rfl
      simp only [Act.put, List.setIfInBounds_toArray, List.set_cons_zero, List.set_cons_succ, List.getElem_toArray, List.getElem_cons_zero, List.getElem_cons_succ]
      refine wpAnyH_take (i := 4) (v := ?_) rfl (by kernel_rfl) (by kernel_rfl) (by kernel_rfl) (fun _ _ _ h => h) (Or.inl ⟨by rfl, ?_⟩) (by assumption) ?_
      rotate_left
      · intro w9 hSw
        go_simp
        try with_reducible rfl
      simp only [Act.put, List.setIfInBounds_toArray, List.set_cons_zero, List.set_cons_succ, List.getElem_toArray, List.getElem_cons_zero, List.getElem_cons_succ]
      refine wpAnyH_take (i := 5) (v := ?_) rfl (by kernel_rfl) (by kernel_rfl) (by kernel_rfl) (fun _ _ _ h => h) (Or.inl ⟨by rfl, ?_⟩) (by assumption) ?_
      rotate_left
      · intro w9 hSw
        go_simp
        try with_reducible rfl
      simp only [Act.put, List.setIfInBounds_toArray, List.set_cons_zero, List.set_cons_succ, List.getElem_toArray, List.getElem_cons_zero, List.getElem_cons_succ]
      refine wpAnyH_ready (rs := [6, 7]) (by kernel_rfl) (by simp) ?_
      refine AllReadyH.cons rfl (fun K hK => ?_) (AllReadyH.cons rfl (fun K hK => ?_) AllReadyH.nil)
      · simp only [List.getElem_toArray, List.getElem_cons_zero, List.getElem_cons_succ]
        go_simp
        refine Calls.mono (HC.out _ Ua0) ?_
        rintro r9 Wa1 ⟨rfl, ua1⟩
        go_simp
        have Ua1 := Ua0.trans ua1
        refine hK.out _ _ ?_ (fun hHeld => ?_)
        · exact Ua1
        clear hK K
        try simp only [Act.put, List.setIfInBounds_toArray, List.set_cons_zero, List.set_cons_succ]
        have hSS := Ua1
        refine wpAnyH_ready (rs := [7]) (by kernel_rfl) (by simp) ?_
        refine AllReadyH.cons rfl (fun K hK => ?_) AllReadyH.nil
        simp only [List.getElem_toArray, List.getElem_cons_zero, List.getElem_cons_succ]
        go_simp
        refine hK.out _ _ ?_ (fun hHeld => ?_)
        · exact Ua1.alloc _
        clear hK K
        try simp only [Act.put, List.setIfInBounds_toArray, List.set_cons_zero, List.set_cons_succ]
        obtain ⟨pk, hpk⟩ : ∃ p, p = (Wa1).heap.size := ⟨_, rfl⟩
        obtain ⟨Wa2, hW1⟩ : ∃ W1, (Wa1).alloc (.cells #[.int .i64 0, .int .i64 0, .int .i64 0] 95) = W1 := ⟨_, rfl⟩
        refine wpAnyH_world hW1 ?_
        have h9 : Wa1.heap.size = pk := hpk.symm
        simp only [h9]
        clear h9
        have ua2 : Up (Wa1) Wa2 := by rw [← hW1]; exact (Up.refl _).alloc _
        have epk : Wa2.heap[pk]? = some (.cells #[.int .i64 0, .int .i64 0, .int .i64 0] 95 (0, 0)) := by rw [hpk, ← hW1]; exact heap_alloc_new _ _
        have lpk : W5.heap.size ≤ pk := by rw [hpk]; exact Ua1.size
        have Ua2 := Ua1.trans ua2
        clear hHeld hW1 hpk
        have hSS := Ua2
        refine wpAnyH_ready (rs := [8]) (by kernel_rfl) (by simp) ?_
        refine AllReadyH.cons rfl (fun K hK => ?_) AllReadyH.nil
        simp only [List.getElem_toArray, List.getElem_cons_zero, List.getElem_cons_succ]
        refine stepH_store (by rfl) 95 (.tmp 9) (.tmp 43) (by rfl) pk #[.int .i64 (B.getD (p + 1) 0), .int .i64 0, .int .i64 0] (by rfl) (by rfl) 95 #[.int .i64 0, .int .i64 0, .int .i64 0] epk (sizeNum) (rfl) (by simp [Value.oneCell']) ?_
        refine hK.out _ _ ?_ (fun hHeld => ?_)
        · exact up_setRow Ua2 lpk _
        clear hK K
        simp only [Act.put]
        obtain ⟨Wa3, hW1⟩ : ∃ W1, (Wa2).setRow pk #[.int .i64 (B.getD (p + 1) 0), .int .i64 0, .int .i64 0] = W1 := ⟨_, rfl⟩
        refine wpAnyH_world hW1 ?_
        have Ua3 : Up W5 Wa3 := by rw [← hW1]; exact up_setRow Ua2 lpk _
        have epk : Wa3.heap[pk]? = some (.cells #[.int .i64 (B.getD (p + 1) 0), .int .i64 0, .int .i64 0] 95 (0, 0)) := by rw [← hW1]; exact setRow_heap _ _ _ _ _ _ epk
        clear hHeld hW1
        have hSS := Ua3
        refine wpAnyH_done (by kernel_rfl) ?_ _
        exact key8 Wa3 pk Ua3 epk
      · simp only [List.getElem_toArray, List.getElem_cons_zero, List.getElem_cons_succ]
        go_simp
        refine hK.out _ _ ?_ (fun hHeld => ?_)
        · exact Ua0.alloc _
        clear hK K
        try simp only [Act.put, List.setIfInBounds_toArray, List.set_cons_zero, List.set_cons_succ]
        obtain ⟨pk, hpk⟩ : ∃ p, p = (W5.drew).heap.size := ⟨_, rfl⟩
        obtain ⟨Wa1, hW1⟩ : ∃ W1, (W5.drew).alloc (.cells #[.int .i64 0, .int .i64 0, .int .i64 0] 95) = W1 := ⟨_, rfl⟩
        refine wpAnyH_world hW1 ?_
        have h9 : W5.heap.size = pk := hpk.symm
        simp only [h9]
        clear h9
        have ua1 : Up (W5.drew) Wa1 := by rw [← hW1]; exact (Up.refl _).alloc _
        have epk : Wa1.heap[pk]? = some (.cells #[.int .i64 0, .int .i64 0, .int .i64 0] 95 (0, 0)) := by rw [hpk, ← hW1]; exact heap_alloc_new _ _
        have lpk : W5.heap.size ≤ pk := by rw [hpk]; exact Ua0.size
        have Ua1 := Ua0.trans ua1
        clear hHeld hW1 hpk
        have hSS := Ua1
        refine wpAnyH_ready (rs := [6]) (by kernel_rfl) (by simp) ?_
        refine AllReadyH.cons rfl (fun K hK => ?_) AllReadyH.nil
        simp only [List.getElem_toArray, List.getElem_cons_zero, List.getElem_cons_succ]
        go_simp
        refine Calls.mono (HC.out _ Ua1) ?_
        rintro r9 Wa2 ⟨rfl, ua2⟩
        go_simp
        have Ua2 := Ua1.trans ua2
        have epk := ua2.heap epk
        refine hK.out _ _ ?_ (fun hHeld => ?_)
        · exact Ua2
        clear hK K
        try simp only [Act.put, List.setIfInBounds_toArray, List.set_cons_zero, List.set_cons_succ]
        have hSS := Ua2
        refine wpAnyH_ready (rs := [8]) (by kernel_rfl) (by simp) ?_
        refine AllReadyH.cons rfl (fun K hK => ?_) AllReadyH.nil
        simp only [List.getElem_toArray, List.getElem_cons_zero, List.getElem_cons_succ]
        refine stepH_store (by rfl) 95 (.tmp 9) (.tmp 43) (by rfl) pk #[.int .i64 (B.getD (p + 1) 0), .int .i64 0, .int .i64 0] (by rfl) (by rfl) 95 #[.int .i64 0, .int .i64 0, .int .i64 0] epk (sizeNum) (rfl) (by simp [Value.oneCell']) ?_
        refine hK.out _ _ ?_ (fun hHeld => ?_)
        · exact up_setRow Ua2 lpk _
        clear hK K
        simp only [Act.put]
        obtain ⟨Wa3, hW1⟩ : ∃ W1, (Wa2).setRow pk #[.int .i64 (B.getD (p + 1) 0), .int .i64 0, .int .i64 0] = W1 := ⟨_, rfl⟩
        refine wpAnyH_world hW1 ?_
        have Ua3 : Up W5 Wa3 := by rw [← hW1]; exact up_setRow Ua2 lpk _
        have epk : Wa3.heap[pk]? = some (.cells #[.int .i64 (B.getD (p + 1) 0), .int .i64 0, .int .i64 0] 95 (0, 0)) := by rw [← hW1]; exact setRow_heap _ _ _ _ _ _ epk
        clear hHeld hW1
        have hSS := Ua3
        refine wpAnyH_done (by kernel_rfl) ?_ _
        exact key8 Wa3 pk Ua3 epk
    case kp82 =>
      intro W9 pk u9 e9
      have x0 : W9.cell? ⟨pk, 0, none⟩ = some (.int .i64 (B.getD (p + 1) 0)) := by simp [World.cell?, e9]
      have x1 : W9.cell? ⟨pk, 1, none⟩ = some (.int .i64 0) := by simp [World.cell?, e9]
      have x2 : W9.cell? ⟨pk, 2, none⟩ = some (.int .i64 0) := by simp [World.cell?, e9]
      have x3 : W9.cell? ⟨b, off + p, none⟩ = some (.int .u8 (d : Int)) := u9.cell hx9
      have g6 : W9.heap[r6]? = some (.cells (insv zi) 28 (0, 0)) := u9.heap g6b
      have HU9 : Hid (Up W W9) := HU5.out.trans u9
      clear u9 e9 hx9 c8 HC g6b g8b
      go_upto_region 9 with fail
      refine TailR.wp_region_seq 12 (by kernel_rfl) (by kernel_rfl) ?_
      simp only [List.take_succ_cons, List.take_zero, List.drop_succ_cons, List.drop_zero]
      repeat (go_big_quiet_step (fail))
      refine wpQuiet_nil ?_
      intro _ hw'
      obtain ⟨nq, hw''⟩ := hw'
      subst hw''
      have g7 : (W9.drewN nq).heap[r6]? = some (.cells (insv zi) 28 (0, 0)) := g6
      obtain ⟨WA, hWA⟩ : ∃ X, (W9.drewN nq).setRow r6 #[.int .i64 (p : Int), .int .u8 (d : Int), .int .i64 (B.getD (p + 1) 0), .int .i64 0, .int .i64 0] = X := ⟨_, rfl⟩
      have ra : WA.heap[r6]? = some (.cells #[.int .i64 (p : Int), .int .u8 (d : Int), .int .i64 (B.getD (p + 1) 0), .int .i64 0, .int .i64 0] 28 (0, 0)) := by rw [← hWA]; exact setRow_heap _ _ _ _ _ _ g7
      go_wp2_with (first | (refine wpList_store_row rfl 28 (.tmp 6) (.tmp 55) rfl r6 #[.int .i64 (p : Int), .int .u8 (d : Int), .int .i64 (B.getD (p + 1) 0), .int .i64 0, .int .i64 0] rfl rfl 28 (insv zi) g7 sizeIns rfl (by simp [Value.oneCell']) ?_; refine wpList_world hWA ?_))
      refine bodyPost_ret (v := .tuple #[.agg #[.int .i64 (p : Int), .int .u8 (d : Int), .int .i64 (B.getD (p + 1) 0), .int .i64 0, .int .i64 0], .int .i64 0]) (res_c1 (p := 6) (q := 7) (ty := 28) rfl _ _ r6 28 #[.int .i64 (p : Int), .int .u8 (d : Int), .int .i64 (B.getD (p + 1) 0), .int .i64 0, .int .i64 0] (0, 0) _ (.int .i64 0) rfl rfl ra Tryd.underlying28 rfl sizeIns) rfl ?_
      rw [HPo.out]
      refine ⟨by rw [HRD.out, HQ9.out]; rfl, ?_⟩
      rw [← hWA]
      exact up_setRow (HU9.out.drewN nq) (by rw [HR6.out]; exact Nat.le_refl _) _
  · subst hk
    have hf : f = fnv 3 := HFV.out
    have hf2 : fnv 3 = .func (.func 86) #[] #[] := rfl
    rw [hf2] at hf
    subst hf
    have hsz : siz 3 = 3 := rfl
    rw [hsz] at hlen hlen2
    have hcq : ¬ c = q := by have := HQ.out; omega
    have HQ9 : Hid (opn B p 3 = (256 * (B.getD (p + 1) 0) + (B.getD (p + 2) 0), 0, 0)) := rfl
    have c8 : W5.cell? ⟨r8, 4, none⟩ = some (.func (.func 86) #[] #[]) := by simp only [World.cell?, g8b]; rfl
    have HC : Hid (∀ V, Up W5 V → Calls Tryd.prog 86 #[.slice (some ⟨b, off + q, none⟩) (n - q) (c - q)] V fun e w' => e = .returned (.agg #[.int .i64 (256 * (B.getD (p + 1) 0) + (B.getD (p + 2) 0)), .int .i64 0, .int .i64 0]) ∧ Up V w') := fun V hu => double1_ b (off + q) (n - q) (c - q) _ _ V (by have := HQ.out; omega) (by have h9 := HCB.out V (HU5.out.trans hu) (p + 1) (by omega); rw [HQ.out]; exact h9) (by have h9 := HCB.out V (HU5.out.trans hu) (p + 2) (by omega); rw [HQ.out, show off + (p + 1) + 1 = off + (p + 2) by omega]; exact h9) (HBA.out (p + 1)).1 (HBA.out (p + 1)).2 (HBA.out (p + 2)).1 (HBA.out (p + 2)).2
    clear HCB
    go_upto_region 8 with fail
    refine (fun key8 : ∀ (W9 : World) (pk : Nat), Up W5 W9 → W9.heap[pk]? = some (.cells #[.int .i64 (256 * (B.getD (p + 1) 0) + (B.getD (p + 2) 0)), .int .i64 0, .int .i64 0] 95 (0, 0)) → (?G83 : World → Nat → Prop) W9 pk => ?main83) ?kp83
    case main83 =>
      refine wp_region_held_drew (S := fun W9 => Up W5 W9) (by kernel_rfl) (Up.drew (Up.refl _)) (fun hHeld => ?_)
      have Ua0 : Up W5 W5.drew := Up.drew (Up.refl _)
      refine wpAnyH_take (i := 0) (v := ?_) rfl (by kernel_rfl) (by kernel_rfl) (by kernel_rfl) (fun _ _ _ h => h) (Or.inl ⟨by rfl, ?_⟩) (by assumption) ?_
      rotate_left
      · intro w9 hSw
        go_simp
        try with_reducible rfl
      simp only [Act.put, List.setIfInBounds_toArray, List.set_cons_zero, List.set_cons_succ, List.getElem_toArray, List.getElem_cons_zero]
      refine wpAnyH_take (i := 1) (v := ?_) rfl (by kernel_rfl) (by kernel_rfl) (by kernel_rfl) (fun _ _ _ h => h) (Or.inl ⟨by rfl, ?_⟩) (by assumption) ?_
      rotate_left
      · intro w9 hSw
        have c2 := hSw.cell c8
        go_simp
        try with_reducible rfl
      simp only [Act.put, List.setIfInBounds_toArray, List.set_cons_zero, List.set_cons_succ, List.getElem_toArray, List.getElem_cons_zero, List.getElem_cons_succ]
      refine wpAnyH_take (i := 2) (v := ?_) rfl (by kernel_rfl) (by kernel_rfl) (by kernel_rfl) (fun _ _ _ h => h) (Or.inl ⟨by rfl, ?_⟩) (by assumption) ?_
      rotate_left
      · intro w9 hSw
        go_simp
        try with_reducible rfl
      simp only [Act.put, List.setIfInBounds_toArray, List.set_cons_zero, List.set_cons_succ, List.getElem_toArray, List.getElem_cons_zero, List.getElem_cons_succ]
      refine wpAnyH_take (i := 3) (v := ?_) rfl (by kernel_rfl) (by kernel_rfl) (by kernel_rfl) (fun _ _ _ h => h) (Or.inl ⟨by rfl, ?_⟩) (by assumption) ?_
      rotate_left
      · intro w9 hSw
        go_simp
        try with_reducible rfl
      simp only [Act.put, List.setIfInBounds_toArray, List.set_cons_zero, List.set_cons_succ, List.getElem_toArray, List.getElem_cons_zero, List.getElem_cons_succ]
      refine wpAnyH_take (i := 4) (v := ?_) rfl (by kernel_rfl) (by kernel_rfl) (by kernel_rfl) (fun _ _ _ h => h) (Or.inl ⟨by rfl, ?_⟩) (by assumption) ?_
      rotate_left
      · intro w9 hSw
        go_simp
        try with_reducible rfl
      simp only [Act.put, List.setIfInBounds_toArray, List.set_cons_zero, List.set_cons_succ, List.getElem_toArray, List.getElem_cons_zero, List.getElem_cons_succ]
      refine wpAnyH_take (i := 5) (v := ?_) rfl (by kernel_rfl) (by kernel_rfl) (by kernel_rfl) (fun _ _ _ h => h) (Or.inl ⟨by rfl, ?_⟩) (by assumption) ?_
      rotate_left
      · intro w9 hSw
        go_simp
        try with_reducible rfl
      simp only [Act.put, List.setIfInBounds_toArray, List.set_cons_zero, List.set_cons_succ, List.getElem_toArray, List.getElem_cons_zero, List.getElem_cons_succ]
      refine wpAnyH_ready (rs := [6, 7]) (by kernel_rfl) (by simp) ?_
      refine AllReadyH.cons rfl (fun K hK => ?_) (AllReadyH.cons rfl (fun K hK => ?_) AllReadyH.nil)
      · simp only [List.getElem_toArray, List.getElem_cons_zero, List.getElem_cons_succ]
        go_simp
        refine Calls.mono (HC.out _ Ua0) ?_
        rintro r9 Wa1 ⟨rfl, ua1⟩
        go_simp
        have Ua1 := Ua0.trans ua1
        refine hK.out _ _ ?_ (fun hHeld => ?_)
        · exact Ua1
        clear hK K
        try simp only [Act.put, List.setIfInBounds_toArray, List.set_cons_zero, List.set_cons_succ]
        have hSS := Ua1
        refine wpAnyH_ready (rs := [7]) (by kernel_rfl) (by simp) ?_
        refine AllReadyH.cons rfl (fun K hK => ?_) AllReadyH.nil
        simp only [List.getElem_toArray, List.getElem_cons_zero, List.getElem_cons_succ]
        go_simp
        refine hK.out _ _ ?_ (fun hHeld => ?_)
        · exact Ua1.alloc _
        clear hK K
        try simp only [Act.put, List.setIfInBounds_toArray, List.set_cons_zero, List.set_cons_succ]
        obtain ⟨pk, hpk⟩ : ∃ p, p = (Wa1).heap.size := ⟨_, rfl⟩
        obtain ⟨Wa2, hW1⟩ : ∃ W1, (Wa1).alloc (.cells #[.int .i64 0, .int .i64 0, .int .i64 0] 95) = W1 := ⟨_, rfl⟩
        refine wpAnyH_world hW1 ?_
        have h9 : Wa1.heap.size = pk := hpk.symm
        simp only [h9]
        clear h9
        have ua2 : Up (Wa1) Wa2 := by rw [← hW1]; exact (Up.refl _).alloc _
        have epk : Wa2.heap[pk]? = some (.cells #[.int .i64 0, .int .i64 0, .int .i64 0] 95 (0, 0)) := by rw [hpk, ← hW1]; exact heap_alloc_new _ _
        have lpk : W5.heap.size ≤ pk := by rw [hpk]; exact Ua1.size
        have Ua2 := Ua1.trans ua2
        clear hHeld hW1 hpk
        have hSS := Ua2
        refine wpAnyH_ready (rs := [8]) (by kernel_rfl) (by simp) ?_
        refine AllReadyH.cons rfl (fun K hK => ?_) AllReadyH.nil
        simp only [List.getElem_toArray, List.getElem_cons_zero, List.getElem_cons_succ]
        refine stepH_store (by rfl) 95 (.tmp 9) (.tmp 43) (by rfl) pk #[.int .i64 (256 * (B.getD (p + 1) 0) + (B.getD (p + 2) 0)), .int .i64 0, .int .i64 0] (by rfl) (by rfl) 95 #[.int .i64 0, .int .i64 0, .int .i64 0] epk (sizeNum) (rfl) (by simp [Value.oneCell']) ?_
        refine hK.out _ _ ?_ (fun hHeld => ?_)
        · exact up_setRow Ua2 lpk _
        clear hK K
        simp only [Act.put]
        obtain ⟨Wa3, hW1⟩ : ∃ W1, (Wa2).setRow pk #[.int .i64 (256 * (B.getD (p + 1) 0) + (B.getD (p + 2) 0)), .int .i64 0, .int .i64 0] = W1 := ⟨_, rfl⟩
        refine wpAnyH_world hW1 ?_
        have Ua3 : Up W5 Wa3 := by rw [← hW1]; exact up_setRow Ua2 lpk _
        have epk : Wa3.heap[pk]? = some (.cells #[.int .i64 (256 * (B.getD (p + 1) 0) + (B.getD (p + 2) 0)), .int .i64 0, .int .i64 0] 95 (0, 0)) := by rw [← hW1]; exact setRow_heap _ _ _ _ _ _ epk
        clear hHeld hW1
        have hSS := Ua3
        refine wpAnyH_done (by kernel_rfl) ?_ _
        exact key8 Wa3 pk Ua3 epk
      · simp only [List.getElem_toArray, List.getElem_cons_zero, List.getElem_cons_succ]
        go_simp
        refine hK.out _ _ ?_ (fun hHeld => ?_)
        · exact Ua0.alloc _
        clear hK K
        try simp only [Act.put, List.setIfInBounds_toArray, List.set_cons_zero, List.set_cons_succ]
        obtain ⟨pk, hpk⟩ : ∃ p, p = (W5.drew).heap.size := ⟨_, rfl⟩
        obtain ⟨Wa1, hW1⟩ : ∃ W1, (W5.drew).alloc (.cells #[.int .i64 0, .int .i64 0, .int .i64 0] 95) = W1 := ⟨_, rfl⟩
        refine wpAnyH_world hW1 ?_
        have h9 : W5.heap.size = pk := hpk.symm
        simp only [h9]
        clear h9
        have ua1 : Up (W5.drew) Wa1 := by rw [← hW1]; exact (Up.refl _).alloc _
        have epk : Wa1.heap[pk]? = some (.cells #[.int .i64 0, .int .i64 0, .int .i64 0] 95 (0, 0)) := by rw [hpk, ← hW1]; exact heap_alloc_new _ _
        have lpk : W5.heap.size ≤ pk := by rw [hpk]; exact Ua0.size
        have Ua1 := Ua0.trans ua1
        clear hHeld hW1 hpk
        have hSS := Ua1
        refine wpAnyH_ready (rs := [6]) (by kernel_rfl) (by simp) ?_
        refine AllReadyH.cons rfl (fun K hK => ?_) AllReadyH.nil
        simp only [List.getElem_toArray, List.getElem_cons_zero, List.getElem_cons_succ]
        go_simp
        refine Calls.mono (HC.out _ Ua1) ?_
        rintro r9 Wa2 ⟨rfl, ua2⟩
        go_simp
        have Ua2 := Ua1.trans ua2
        have epk := ua2.heap epk
        refine hK.out _ _ ?_ (fun hHeld => ?_)
        · exact Ua2
        clear hK K
        try simp only [Act.put, List.setIfInBounds_toArray, List.set_cons_zero, List.set_cons_succ]
        have hSS := Ua2
        refine wpAnyH_ready (rs := [8]) (by kernel_rfl) (by simp) ?_
        refine AllReadyH.cons rfl (fun K hK => ?_) AllReadyH.nil
        simp only [List.getElem_toArray, List.getElem_cons_zero, List.getElem_cons_succ]
        refine stepH_store (by rfl) 95 (.tmp 9) (.tmp 43) (by rfl) pk #[.int .i64 (256 * (B.getD (p + 1) 0) + (B.getD (p + 2) 0)), .int .i64 0, .int .i64 0] (by rfl) (by rfl) 95 #[.int .i64 0, .int .i64 0, .int .i64 0] epk (sizeNum) (rfl) (by simp [Value.oneCell']) ?_
        refine hK.out _ _ ?_ (fun hHeld => ?_)
        · exact up_setRow Ua2 lpk _
        clear hK K
        simp only [Act.put]
        obtain ⟨Wa3, hW1⟩ : ∃ W1, (Wa2).setRow pk #[.int .i64 (256 * (B.getD (p + 1) 0) + (B.getD (p + 2) 0)), .int .i64 0, .int .i64 0] = W1 := ⟨_, rfl⟩
        refine wpAnyH_world hW1 ?_
        have Ua3 : Up W5 Wa3 := by rw [← hW1]; exact up_setRow Ua2 lpk _
        have epk : Wa3.heap[pk]? = some (.cells #[.int .i64 (256 * (B.getD (p + 1) 0) + (B.getD (p + 2) 0)), .int .i64 0, .int .i64 0] 95 (0, 0)) := by rw [← hW1]; exact setRow_heap _ _ _ _ _ _ epk
        clear hHeld hW1
        have hSS := Ua3
        refine wpAnyH_done (by kernel_rfl) ?_ _
        exact key8 Wa3 pk Ua3 epk
    case kp83 =>
      intro W9 pk u9 e9
      have x0 : W9.cell? ⟨pk, 0, none⟩ = some (.int .i64 (256 * (B.getD (p + 1) 0) + (B.getD (p + 2) 0))) := by simp [World.cell?, e9]
      have x1 : W9.cell? ⟨pk, 1, none⟩ = some (.int .i64 0) := by simp [World.cell?, e9]
      have x2 : W9.cell? ⟨pk, 2, none⟩ = some (.int .i64 0) := by simp [World.cell?, e9]
      have x3 : W9.cell? ⟨b, off + p, none⟩ = some (.int .u8 (d : Int)) := u9.cell hx9
      have g6 : W9.heap[r6]? = some (.cells (insv zi) 28 (0, 0)) := u9.heap g6b
      have HU9 : Hid (Up W W9) := HU5.out.trans u9
      clear u9 e9 hx9 c8 HC g6b g8b
      go_upto_region 9 with fail
      refine TailR.wp_region_seq 12 (by kernel_rfl) (by kernel_rfl) ?_
      simp only [List.take_succ_cons, List.take_zero, List.drop_succ_cons, List.drop_zero]
      repeat (go_big_quiet_step (fail))
      refine wpQuiet_nil ?_
      intro _ hw'
      obtain ⟨nq, hw''⟩ := hw'
      subst hw''
      have g7 : (W9.drewN nq).heap[r6]? = some (.cells (insv zi) 28 (0, 0)) := g6
      obtain ⟨WA, hWA⟩ : ∃ X, (W9.drewN nq).setRow r6 #[.int .i64 (p : Int), .int .u8 (d : Int), .int .i64 (256 * (B.getD (p + 1) 0) + (B.getD (p + 2) 0)), .int .i64 0, .int .i64 0] = X := ⟨_, rfl⟩
      have ra : WA.heap[r6]? = some (.cells #[.int .i64 (p : Int), .int .u8 (d : Int), .int .i64 (256 * (B.getD (p + 1) 0) + (B.getD (p + 2) 0)), .int .i64 0, .int .i64 0] 28 (0, 0)) := by rw [← hWA]; exact setRow_heap _ _ _ _ _ _ g7
      go_wp2_with (first | (refine wpList_store_row rfl 28 (.tmp 6) (.tmp 55) rfl r6 #[.int .i64 (p : Int), .int .u8 (d : Int), .int .i64 (256 * (B.getD (p + 1) 0) + (B.getD (p + 2) 0)), .int .i64 0, .int .i64 0] rfl rfl 28 (insv zi) g7 sizeIns rfl (by simp [Value.oneCell']) ?_; refine wpList_world hWA ?_))
      refine bodyPost_ret (v := .tuple #[.agg #[.int .i64 (p : Int), .int .u8 (d : Int), .int .i64 (256 * (B.getD (p + 1) 0) + (B.getD (p + 2) 0)), .int .i64 0, .int .i64 0], .int .i64 0]) (res_c1 (p := 6) (q := 7) (ty := 28) rfl _ _ r6 28 #[.int .i64 (p : Int), .int .u8 (d : Int), .int .i64 (256 * (B.getD (p + 1) 0) + (B.getD (p + 2) 0)), .int .i64 0, .int .i64 0] (0, 0) _ (.int .i64 0) rfl rfl ra Tryd.underlying28 rfl sizeIns) rfl ?_
      rw [HPo.out]
      refine ⟨by rw [HRD.out, HQ9.out]; rfl, ?_⟩
      rw [← hWA]
      exact up_setRow (HU9.out.drewN nq) (by rw [HR6.out]; exact Nat.le_refl _) _
  · subst hk
    have hf : f = fnv 4 := HFV.out
    have hf2 : fnv 4 = .func (.func 90) #[] #[] := rfl
    rw [hf2] at hf
    subst hf
    have hsz : siz 4 = 5 := rfl
    rw [hsz] at hlen hlen2
    have hcq : ¬ c = q := by have := HQ.out; omega
    have HQ9 : Hid (opn B p 4 = ((B.getD (p + 1) 0), (B.getD (p + 2) 0), 256 * (B.getD (p + 3) 0) + (B.getD (p + 4) 0))) := rfl
    have c8 : W5.cell? ⟨r8, 4, none⟩ = some (.func (.func 90) #[] #[]) := by simp only [World.cell?, g8b]; rfl
    have HC : Hid (∀ V, Up W5 V → Calls Tryd.prog 90 #[.slice (some ⟨b, off + q, none⟩) (n - q) (c - q)] V fun e w' => e = .returned (.agg #[.int .i64 (B.getD (p + 1) 0), .int .i64 (B.getD (p + 2) 0), .int .i64 (256 * (B.getD (p + 3) 0) + (B.getD (p + 4) 0))]) ∧ Up V w') := fun V hu => triple1_ b (off + q) (n - q) (c - q) _ _ _ _ V (by have := HQ.out; omega) (by omega) (by have h9 := HCB.out V (HU5.out.trans hu) (p + 1) (by omega); rw [HQ.out]; exact h9) (by have h9 := HCB.out V (HU5.out.trans hu) (p + 2) (by omega); rw [HQ.out, show off + (p + 1) + 1 = off + (p + 2) by omega]; exact h9) (by have h9 := HCB.out V (HU5.out.trans hu) (p + 3) (by omega); rw [HQ.out, show off + (p + 1) + 2 = off + (p + 3) by omega]; exact h9) (by have h9 := HCB.out V (HU5.out.trans hu) (p + 4) (by omega); rw [HQ.out, show off + (p + 1) + 2 + 1 = off + (p + 4) by omega]; exact h9) (HBA.out (p + 1)).1 (HBA.out (p + 1)).2 (HBA.out (p + 2)).1 (HBA.out (p + 2)).2 (HBA.out (p + 3)).1 (HBA.out (p + 3)).2 (HBA.out (p + 4)).1 (HBA.out (p + 4)).2
    clear HCB
    go_upto_region 8 with fail
    refine (fun key8 : ∀ (W9 : World) (pk : Nat), Up W5 W9 → W9.heap[pk]? = some (.cells #[.int .i64 (B.getD (p + 1) 0), .int .i64 (B.getD (p + 2) 0), .int .i64 (256 * (B.getD (p + 3) 0) + (B.getD (p + 4) 0))] 95 (0, 0)) → (?G84 : World → Nat → Prop) W9 pk => ?main84) ?kp84
    case main84 =>
      refine wp_region_held_drew (S := fun W9 => Up W5 W9) (by kernel_rfl) (Up.drew (Up.refl _)) (fun hHeld => ?_)
      have Ua0 : Up W5 W5.drew := Up.drew (Up.refl _)
      refine wpAnyH_take (i := 0) (v := ?_) rfl (by kernel_rfl) (by kernel_rfl) (by kernel_rfl) (fun _ _ _ h => h) (Or.inl ⟨by rfl, ?_⟩) (by assumption) ?_
      rotate_left
      · intro w9 hSw
        go_simp
        try with_reducible rfl
      simp only [Act.put, List.setIfInBounds_toArray, List.set_cons_zero, List.set_cons_succ, List.getElem_toArray, List.getElem_cons_zero]
      refine wpAnyH_take (i := 1) (v := ?_) rfl (by kernel_rfl) (by kernel_rfl) (by kernel_rfl) (fun _ _ _ h => h) (Or.inl ⟨by rfl, ?_⟩) (by assumption) ?_
      rotate_left
      · intro w9 hSw
        have c2 := hSw.cell c8
        go_simp
        try with_reducible rfl
      simp only [Act.put, List.setIfInBounds_toArray, List.set_cons_zero, List.set_cons_succ, List.getElem_toArray, List.getElem_cons_zero, List.getElem_cons_succ]
      refine wpAnyH_take (i := 2) (v := ?_) rfl (by kernel_rfl) (by kernel_rfl) (by kernel_rfl) (fun _ _ _ h => h) (Or.inl ⟨by rfl, ?_⟩) (by assumption) ?_
      rotate_left
      · intro w9 hSw
        go_simp
        try with_reducible rfl
      simp only [Act.put, List.setIfInBounds_toArray, List.set_cons_zero, List.set_cons_succ, List.getElem_toArray, List.getElem_cons_zero, List.getElem_cons_succ]
      refine wpAnyH_take (i := 3) (v := ?_) rfl (by kernel_rfl) (by kernel_rfl) (by kernel_rfl) (fun _ _ _ h => h) (Or.inl ⟨by rfl, ?_⟩) (by assumption) ?_
      rotate_left
      · intro w9 hSw
        go_simp
        try with_reducible rfl
      simp only [Act.put, List.setIfInBounds_toArray, List.set_cons_zero, List.set_cons_succ, List.getElem_toArray, List.getElem_cons_zero, List.getElem_cons_succ]
      refine wpAnyH_take (i := 4) (v := ?_) rfl (by kernel_rfl) (by kernel_rfl) (by kernel_rfl) (fun _ _ _ h => h) (Or.inl ⟨by rfl, ?_⟩) (by assumption) ?_
      rotate_left
      · intro w9 hSw
        go_simp
        try with_reducible rfl
      simp only [Act.put, List.setIfInBounds_toArray, List.set_cons_zero, List.set_cons_succ, List.getElem_toArray, List.getElem_cons_zero, List.getElem_cons_succ]
      refine wpAnyH_take (i := 5) (v := ?_) rfl (by kernel_rfl) (by kernel_rfl) (by kernel_rfl) (fun _ _ _ h => h) (Or.inl ⟨by rfl, ?_⟩) (by assumption) ?_
      rotate_left
      · intro w9 hSw
        go_simp
        try with_reducible rfl
      simp only [Act.put, List.setIfInBounds_toArray, List.set_cons_zero, List.set_cons_succ, List.getElem_toArray, List.getElem_cons_zero, List.getElem_cons_succ]
      refine wpAnyH_ready (rs := [6, 7]) (by kernel_rfl) (by simp) ?_
      refine AllReadyH.cons rfl (fun K hK => ?_) (AllReadyH.cons rfl (fun K hK => ?_) AllReadyH.nil)
      · simp only [List.getElem_toArray, List.getElem_cons_zero, List.getElem_cons_succ]
        go_simp
        refine Calls.mono (HC.out _ Ua0) ?_
        rintro r9 Wa1 ⟨rfl, ua1⟩
        go_simp
        have Ua1 := Ua0.trans ua1
        refine hK.out _ _ ?_ (fun hHeld => ?_)
        · exact Ua1
        clear hK K
        try simp only [Act.put, List.setIfInBounds_toArray, List.set_cons_zero, List.set_cons_succ]
        have hSS := Ua1
        refine wpAnyH_ready (rs := [7]) (by kernel_rfl) (by simp) ?_
        refine AllReadyH.cons rfl (fun K hK => ?_) AllReadyH.nil
        simp only [List.getElem_toArray, List.getElem_cons_zero, List.getElem_cons_succ]
        go_simp
        refine hK.out _ _ ?_ (fun hHeld => ?_)
        · exact Ua1.alloc _
        clear hK K
        try simp only [Act.put, List.setIfInBounds_toArray, List.set_cons_zero, List.set_cons_succ]
        obtain ⟨pk, hpk⟩ : ∃ p, p = (Wa1).heap.size := ⟨_, rfl⟩
        obtain ⟨Wa2, hW1⟩ : ∃ W1, (Wa1).alloc (.cells #[.int .i64 0, .int .i64 0, .int .i64 0] 95) = W1 := ⟨_, rfl⟩
        refine wpAnyH_world hW1 ?_
        have h9 : Wa1.heap.size = pk := hpk.symm
        simp only [h9]
        clear h9
        have ua2 : Up (Wa1) Wa2 := by rw [← hW1]; exact (Up.refl _).alloc _
        have epk : Wa2.heap[pk]? = some (.cells #[.int .i64 0, .int .i64 0, .int .i64 0] 95 (0, 0)) := by rw [hpk, ← hW1]; exact heap_alloc_new _ _
        have lpk : W5.heap.size ≤ pk := by rw [hpk]; exact Ua1.size
        have Ua2 := Ua1.trans ua2
        clear hHeld hW1 hpk
        have hSS := Ua2
        refine wpAnyH_ready (rs := [8]) (by kernel_rfl) (by simp) ?_
        refine AllReadyH.cons rfl (fun K hK => ?_) AllReadyH.nil
        simp only [List.getElem_toArray, List.getElem_cons_zero, List.getElem_cons_succ]
        refine stepH_store (by rfl) 95 (.tmp 9) (.tmp 43) (by rfl) pk #[.int .i64 (B.getD (p + 1) 0), .int .i64 (B.getD (p + 2) 0), .int .i64 (256 * (B.getD (p + 3) 0) + (B.getD (p + 4) 0))] (by rfl) (by rfl) 95 #[.int .i64 0, .int .i64 0, .int .i64 0] epk (sizeNum) (rfl) (by simp [Value.oneCell']) ?_
        refine hK.out _ _ ?_ (fun hHeld => ?_)
        · exact up_setRow Ua2 lpk _
        clear hK K
        simp only [Act.put]
        obtain ⟨Wa3, hW1⟩ : ∃ W1, (Wa2).setRow pk #[.int .i64 (B.getD (p + 1) 0), .int .i64 (B.getD (p + 2) 0), .int .i64 (256 * (B.getD (p + 3) 0) + (B.getD (p + 4) 0))] = W1 := ⟨_, rfl⟩
        refine wpAnyH_world hW1 ?_
        have Ua3 : Up W5 Wa3 := by rw [← hW1]; exact up_setRow Ua2 lpk _
        have epk : Wa3.heap[pk]? = some (.cells #[.int .i64 (B.getD (p + 1) 0), .int .i64 (B.getD (p + 2) 0), .int .i64 (256 * (B.getD (p + 3) 0) + (B.getD (p + 4) 0))] 95 (0, 0)) := by rw [← hW1]; exact setRow_heap _ _ _ _ _ _ epk
        clear hHeld hW1
        have hSS := Ua3
        refine wpAnyH_done (by kernel_rfl) ?_ _
        exact key8 Wa3 pk Ua3 epk
      · simp only [List.getElem_toArray, List.getElem_cons_zero, List.getElem_cons_succ]
        go_simp
        refine hK.out _ _ ?_ (fun hHeld => ?_)
        · exact Ua0.alloc _
        clear hK K
        try simp only [Act.put, List.setIfInBounds_toArray, List.set_cons_zero, List.set_cons_succ]
        obtain ⟨pk, hpk⟩ : ∃ p, p = (W5.drew).heap.size := ⟨_, rfl⟩
        obtain ⟨Wa1, hW1⟩ : ∃ W1, (W5.drew).alloc (.cells #[.int .i64 0, .int .i64 0, .int .i64 0] 95) = W1 := ⟨_, rfl⟩
        refine wpAnyH_world hW1 ?_
        have h9 : W5.heap.size = pk := hpk.symm
        simp only [h9]
        clear h9
        have ua1 : Up (W5.drew) Wa1 := by rw [← hW1]; exact (Up.refl _).alloc _
        have epk : Wa1.heap[pk]? = some (.cells #[.int .i64 0, .int .i64 0, .int .i64 0] 95 (0, 0)) := by rw [hpk, ← hW1]; exact heap_alloc_new _ _
        have lpk : W5.heap.size ≤ pk := by rw [hpk]; exact Ua0.size
        have Ua1 := Ua0.trans ua1
        clear hHeld hW1 hpk
        have hSS := Ua1
        refine wpAnyH_ready (rs := [6]) (by kernel_rfl) (by simp) ?_
        refine AllReadyH.cons rfl (fun K hK => ?_) AllReadyH.nil
        simp only [List.getElem_toArray, List.getElem_cons_zero, List.getElem_cons_succ]
        go_simp
        refine Calls.mono (HC.out _ Ua1) ?_
        rintro r9 Wa2 ⟨rfl, ua2⟩
        go_simp
        have Ua2 := Ua1.trans ua2
        have epk := ua2.heap epk
        refine hK.out _ _ ?_ (fun hHeld => ?_)
        · exact Ua2
        clear hK K
        try simp only [Act.put, List.setIfInBounds_toArray, List.set_cons_zero, List.set_cons_succ]
        have hSS := Ua2
        refine wpAnyH_ready (rs := [8]) (by kernel_rfl) (by simp) ?_
        refine AllReadyH.cons rfl (fun K hK => ?_) AllReadyH.nil
        simp only [List.getElem_toArray, List.getElem_cons_zero, List.getElem_cons_succ]
        refine stepH_store (by rfl) 95 (.tmp 9) (.tmp 43) (by rfl) pk #[.int .i64 (B.getD (p + 1) 0), .int .i64 (B.getD (p + 2) 0), .int .i64 (256 * (B.getD (p + 3) 0) + (B.getD (p + 4) 0))] (by rfl) (by rfl) 95 #[.int .i64 0, .int .i64 0, .int .i64 0] epk (sizeNum) (rfl) (by simp [Value.oneCell']) ?_
        refine hK.out _ _ ?_ (fun hHeld => ?_)
        · exact up_setRow Ua2 lpk _
        clear hK K
        simp only [Act.put]
        obtain ⟨Wa3, hW1⟩ : ∃ W1, (Wa2).setRow pk #[.int .i64 (B.getD (p + 1) 0), .int .i64 (B.getD (p + 2) 0), .int .i64 (256 * (B.getD (p + 3) 0) + (B.getD (p + 4) 0))] = W1 := ⟨_, rfl⟩
        refine wpAnyH_world hW1 ?_
        have Ua3 : Up W5 Wa3 := by rw [← hW1]; exact up_setRow Ua2 lpk _
        have epk : Wa3.heap[pk]? = some (.cells #[.int .i64 (B.getD (p + 1) 0), .int .i64 (B.getD (p + 2) 0), .int .i64 (256 * (B.getD (p + 3) 0) + (B.getD (p + 4) 0))] 95 (0, 0)) := by rw [← hW1]; exact setRow_heap _ _ _ _ _ _ epk
        clear hHeld hW1
        have hSS := Ua3
        refine wpAnyH_done (by kernel_rfl) ?_ _
        exact key8 Wa3 pk Ua3 epk
    case kp84 =>
      intro W9 pk u9 e9
      have x0 : W9.cell? ⟨pk, 0, none⟩ = some (.int .i64 (B.getD (p + 1) 0)) := by simp [World.cell?, e9]
      have x1 : W9.cell? ⟨pk, 1, none⟩ = some (.int .i64 (B.getD (p + 2) 0)) := by simp [World.cell?, e9]
      have x2 : W9.cell? ⟨pk, 2, none⟩ = some (.int .i64 (256 * (B.getD (p + 3) 0) + (B.getD (p + 4) 0))) := by simp [World.cell?, e9]
      have x3 : W9.cell? ⟨b, off + p, none⟩ = some (.int .u8 (d : Int)) := u9.cell hx9
      have g6 : W9.heap[r6]? = some (.cells (insv zi) 28 (0, 0)) := u9.heap g6b
      have HU9 : Hid (Up W W9) := HU5.out.trans u9
      clear u9 e9 hx9 c8 HC g6b g8b
      go_upto_region 9 with fail
      refine TailR.wp_region_seq 12 (by kernel_rfl) (by kernel_rfl) ?_
      simp only [List.take_succ_cons, List.take_zero, List.drop_succ_cons, List.drop_zero]
      repeat (go_big_quiet_step (fail))
      refine wpQuiet_nil ?_
      intro _ hw'
      obtain ⟨nq, hw''⟩ := hw'
      subst hw''
      have g7 : (W9.drewN nq).heap[r6]? = some (.cells (insv zi) 28 (0, 0)) := g6
      obtain ⟨WA, hWA⟩ : ∃ X, (W9.drewN nq).setRow r6 #[.int .i64 (p : Int), .int .u8 (d : Int), .int .i64 (B.getD (p + 1) 0), .int .i64 (B.getD (p + 2) 0), .int .i64 (256 * (B.getD (p + 3) 0) + (B.getD (p + 4) 0))] = X := ⟨_, rfl⟩
      have ra : WA.heap[r6]? = some (.cells #[.int .i64 (p : Int), .int .u8 (d : Int), .int .i64 (B.getD (p + 1) 0), .int .i64 (B.getD (p + 2) 0), .int .i64 (256 * (B.getD (p + 3) 0) + (B.getD (p + 4) 0))] 28 (0, 0)) := by rw [← hWA]; exact setRow_heap _ _ _ _ _ _ g7
      go_wp2_with (first | (refine wpList_store_row rfl 28 (.tmp 6) (.tmp 55) rfl r6 #[.int .i64 (p : Int), .int .u8 (d : Int), .int .i64 (B.getD (p + 1) 0), .int .i64 (B.getD (p + 2) 0), .int .i64 (256 * (B.getD (p + 3) 0) + (B.getD (p + 4) 0))] rfl rfl 28 (insv zi) g7 sizeIns rfl (by simp [Value.oneCell']) ?_; refine wpList_world hWA ?_))
      refine bodyPost_ret (v := .tuple #[.agg #[.int .i64 (p : Int), .int .u8 (d : Int), .int .i64 (B.getD (p + 1) 0), .int .i64 (B.getD (p + 2) 0), .int .i64 (256 * (B.getD (p + 3) 0) + (B.getD (p + 4) 0))], .int .i64 0]) (res_c1 (p := 6) (q := 7) (ty := 28) rfl _ _ r6 28 #[.int .i64 (p : Int), .int .u8 (d : Int), .int .i64 (B.getD (p + 1) 0), .int .i64 (B.getD (p + 2) 0), .int .i64 (256 * (B.getD (p + 3) 0) + (B.getD (p + 4) 0))] (0, 0) _ (.int .i64 0) rfl rfl ra Tryd.underlying28 rfl sizeIns) rfl ?_
      rw [HPo.out]
      refine ⟨by rw [HRD.out, HQ9.out]; rfl, ?_⟩
      rw [← hWA]
      exact up_setRow (HU9.out.drewN nq) (by rw [HR6.out]; exact Nat.le_refl _) _
end CD
end Go.Proofs.YtoaaehgnbapibaaDoor
