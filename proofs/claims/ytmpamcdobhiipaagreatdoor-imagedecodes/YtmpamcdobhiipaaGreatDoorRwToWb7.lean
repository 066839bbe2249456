/-
  The document's Where, given what it makes of the list of things.
-/
import Derived.Test.YtmpamcdobhiipaaGreatDoorRgToTm
import Derived.Test.YtmpamcdobhiipaaGreatDoorThQ
import Derived.Test.YtmpamcdobhiipaaGreatDoorSzToEs
import Derived.Test.YtmpamcdobhiipaaGreatDoorRsx7ToRf
import Derived.Test.YtmpamcdobhiipaaGreatDoorDd7ToCy
import Derived.Test.YtmpamcdobhiipaaGreatDoorSm7ToLs7
namespace Go.Proofs.YtmpamcdobhiipaaGreatDoor
open Go.RowKit
attribute [local go_sem ↓] Go.wp_at_zero Go.wp_at_succ

namespace ST
end ST
end Go.Proofs.YtmpamcdobhiipaaGreatDoor
/-
  The document's Check, May and Where, of whatever state that is not great.
-/
namespace Go.Proofs.YtmpamcdobhiipaaGreatDoor
open Go.RowKit

namespace ST
theorem thingsOk (s : Stt) (hsm : Small s) (hfl : (flat s).length ≤ 4294967296) : ThingsOk s := by
  intro v w hs
  cases hb : sizesB s
  · exact things_bad s hsm hb v w hs
  · exact things_good s hsm hfl hb v w hs
end ST
end Go.Proofs.YtmpamcdobhiipaaGreatDoor
/-
  The document's Decode.
-/
namespace Go.Proofs.YtmpamcdobhiipaaGreatDoor
open Go.RowKit
attribute [local go_sem ↓] Go.wp_at_zero Go.wp_at_succ

namespace IM
open Go.Proofs.YtmpamcdobhiipaaGreatDoor.ST
theorem flat_rs {s : Stt} (h : RS s) : (flat s).length ≤ 4294967296 := by
  have h1 : ∀ zs : List (List Int), (∀ z ∈ zs, z.length ≤ 65535) → zs.flatten.length ≤ 65535 * zs.length := by
    intro zs
    induction zs with
    | nil => intro _; simp
    | cons z zs ih =>
      intro hz
      have h2 := ih (fun y hy => hz y (List.mem_cons_of_mem _ hy))
      have h3 := hz z (List.mem_cons_self ..)
      simp only [List.flatten_cons, List.length_append, List.length_cons]
      omega
  have h2 := h1 s.zs (fun z hz => by have := (h.zs z hz).1; omega)
  have h3 := h.nps
  have h4 := h.nzs
  unfold flat
  omega
set_option maxRecDepth 100000 in
set_option maxHeartbeats 8000000 in
theorem rdecode_ (hst : RstOk) (vb : Value) (B : List Int) (w : World) (hB : BL w vb B) (hby : Byt B) (hlen : B.length ≤ 4611686018427387904) :
    Calls Tryz.prog 7 #[vb] w (DeP w B) := by
  obtain ⟨Post, hPost⟩ : ∃ P : Ending → World → Prop, P = DeP w B := ⟨_, rfl⟩
  rw [← hPost]
  have HPo : Hid (Post = DeP w B) := hPost
  clear hPost
  obtain ⟨ba, bn, bc, hvb⟩ : ∃ a n c, vb = Value.slice a n c := by
    obtain ⟨-, a, cap, hv, -⟩ := hB
    exact ⟨_, _, _, hv⟩
  subst hvb
  have hrb : (w.alloc (.cells zA 30)).heap.size = w.heap.size + 1 := by simp
  have HST : Hid (Calls Tryz.prog 18 #[.pointer (some ⟨w.heap.size + 1, 0, none⟩)] ((w.alloc (.cells zA 30)).alloc (.cells #[.slice ba bn bc, .int .i64 0, .bool false] 74)) (RsQ (w.alloc (.cells zA 30)) (w.heap.size + 1) (.slice ba bn bc) B ((w.alloc (.cells zA 30)).alloc (.cells #[.slice ba bn bc, .int .i64 0, .bool false] 74)))) :=
    hst _ _ _ _ _ ⟨by rw [← hrb]; exact heap_alloc_new _ _, (Up.refl _).alloc _, by rw [hrb]; exact Nat.le_refl _, hB.up ((Up.refl _).alloc _), hby, hlen, Nat.zero_le _⟩
  obtain ⟨V, hV⟩ : ∃ V, (w.alloc (.cells zA 30)).alloc (.cells #[.slice ba bn bc, .int .i64 0, .bool false] 74) = V := ⟨_, rfl⟩
  have hVs : V.heap.size = w.heap.size + 2 := by rw [← hV]; simp
  rw [hV] at HST
  have HBY : Hid (Byt B) := hby
  have HVS : Hid (V.heap.size = w.heap.size + 2) := hVs
  unfold zA at hV
  clear hB hby hlen hrb hVs hst
  go_enter Tryz.func7, Tryz.ntmps7
  go_wp2_with fail
  first | (refine calls_world hV (Calls.mono HST.out ?_)) | (refine Calls.mono HST.out ?_)
  rintro x W1 ⟨v, p, bad, s, rfl, hR, hF, hS, hK⟩
  clear HST hV
  obtain ⟨a1, k1, a2, k2, a3, k3, hv⟩ := soa_val hS
  have hpl := hR.at_le
  have g0 : W1.heap[w.heap.size]? = some (.cells zA 30 (0, 0)) := hR.up.heap (heap_alloc_new w _)
  have HU : Hid (Up w W1) := ((Up.refl w).alloc _).trans hR.up
  have HSO : Hid (SOA V.heap.size W1 (.agg #[.slice a1 s.ps.length k1, .slice a2 s.cs.length k2, .slice a3 s.zs.length k3, .int .i32 s.turn, .int .i64 s.whose, .int .i8 s.fin, .int .i64 s.winner]) s) := by rw [← hv]; exact hS
  have hrl : w.heap.size + 1 < W1.heap.size := (Array.getElem?_eq_some_iff.1 hR.hp).1
  have hrp := hR.hp
  subst hv
  clear hS hK hR
  obtain ⟨A, hA⟩ : ∃ A : Array Value, A = #[.slice a1 s.ps.length k1, .slice a2 s.cs.length k2, .slice a3 s.zs.length k3, .int .i32 s.turn, .int .i64 s.whose, .int .i8 s.fin, .int .i64 s.winner] := ⟨_, rfl⟩
  have hA1 : A.size = 7 := by rw [hA]; rfl
  have hA2 : A.all (·.oneCell') = true := by rw [hA]; simp [Value.oneCell']
  rw [← hA] at HSO
  obtain ⟨W2, hW2⟩ : ∃ W, W1.alloc (.cells A 30) = W := ⟨_, rfl⟩
  have gA : W2.heap[W1.heap.size]? = some (.cells A 30 (0, 0)) := by rw [← hW2]; exact heap_alloc_new _ _
  have u2 : Up W1 W2 := by rw [← hW2]; exact (Up.refl _).alloc _
  have g0 := u2.heap g0
  have hrp := u2.heap hrp
  have x1 : W2.cell? ⟨w.heap.size + 1, 1, none⟩ = some (.int .i64 p) := by simp only [World.cell?, hrp]; rfl
  have x2 : W2.cell? ⟨w.heap.size + 1, 2, none⟩ = some (.bool bad) := by simp only [World.cell?, hrp]; rfl
  have HU : Hid (Up w W2) := HU.out.trans u2
  have HSO : Hid (SOA V.heap.size W2 (.agg A) s) := HSO.out.up u2
  have HAA : Hid (Value.agg A = .agg #[.slice a1 s.ps.length k1, .slice a2 s.cs.length k2, .slice a3 s.zs.length k3, .int .i32 s.turn, .int .i64 s.whose, .int .i8 s.fin, .int .i64 s.winner]) := by unfold Hid; rw [hA]
  rw [hA] at hW2
  have HA : Hid (A = #[.slice a1 s.ps.length k1, .slice a2 s.cs.length k2, .slice a3 s.zs.length k3, .int .i32 s.turn, .int .i64 s.whose, .int .i8 s.fin, .int .i64 s.winner]) := hA
  clear u2 hrp hA hrl
  cases bad with
  | true =>
    have HF : Hid (deE B = 12 ∧ deA B = (p : Int) ∧ deS B = noS) := by
      unfold FxP at hF
      rw [if_pos rfl] at hF
      unfold Hid deE deA deS
      rw [hF]
      refine ⟨rfl, ?_, rfl⟩
      show ((B.length - (B.length - p) : Nat) : Int) = (p : Int)
      congr 1
      omega
    obtain ⟨y0, y1, y2, y3, y4, y5, y6⟩ := seven_cells g0
    have fz : ∀ j, W2.frozen? ⟨w.heap.size, j, none⟩ = false := fun j => seven_f g0 j
    obtain ⟨W9, hW9, h71, h73⟩ : ∃ W9, (((((((W2.setCell ⟨w.heap.size, 0, none⟩ (.slice none 0 0)).setCell ⟨w.heap.size, 1, none⟩ (.slice none 0 0)).setCell ⟨w.heap.size, 2, none⟩ (.slice none 0 0)).setCell ⟨w.heap.size, 3, none⟩ (.int .i32 0)).setCell ⟨w.heap.size, 4, none⟩ (.int .i64 0)).setCell ⟨w.heap.size, 5, none⟩ (.int .i8 0)).setCell ⟨w.heap.size, 6, none⟩ (.int .i64 0)) = W9 ∧ W9.heap[w.heap.size]? = some (.cells zA 30 (0, 0)) ∧ Up w W9 := by
      obtain ⟨q1, q2, q3⟩ := @set7 W2 w.heap.size (w.heap.size + 1) _ (.slice none 0 0) (.slice none 0 0) (.slice none 0 0) (.int .i32 0) (.int .i64 0) (.int .i8 0) (.int .i64 0) _ _ _ _ _ _ _ g0 (by omega)
      exact ⟨_, rfl, q1, q3 w HU.out (Nat.le_refl _)⟩
    have HS7 : Hid (Up w W9) := h73
    have HW9 : Hid ((((((((W2.setCell ⟨w.heap.size, 0, none⟩ (.slice none 0 0)).setCell ⟨w.heap.size, 1, none⟩ (.slice none 0 0)).setCell ⟨w.heap.size, 2, none⟩ (.slice none 0 0)).setCell ⟨w.heap.size, 3, none⟩ (.int .i32 0)).setCell ⟨w.heap.size, 4, none⟩ (.int .i64 0)).setCell ⟨w.heap.size, 5, none⟩ (.int .i8 0)).setCell ⟨w.heap.size, 6, none⟩ (.int .i64 0)) = W9) := hW9
    clear hF g0 h73 hW9 gA hpl HAA HA
    go_upto_region 3 with fail
    try rw [hW2]
    clear hW2
    go_wp2_with fail
    go_region
    rw [HW9.out]
    go_wp2_with fail
    refine bodyPost_ret (v := .tuple #[.agg zA, .int .i64 12, .int .i64 (p : Int)]) (res_c2 (p := 2) (q := 3) (r := 4) (ty := 30) rfl _ _ w.heap.size 30 zA (0, 0) _ _ _ rfl rfl rfl h71 Tryz.underlying30 rfl infoSt) rfl ?_
    rw [HPo.out]
    refine ⟨.agg zA, ?_, ?_, Up.drew HS7.out⟩
    · rw [HF.out.1, HF.out.2.1]
    · rw [HF.out.2.2]
      exact soa_no _ _
  | false =>
    unfold FxP at hF
    rw [if_neg (by decide)] at hF
    have hrs := (dec_back HBY.out hF).2
    have HF : Hid ((deE B = if ff s = none then 0 else 10) ∧ (deA B = match ff s with | none => 0 | some k => (k : Int)) ∧ (deS B = if ff s = none then s else noS)) := by unfold Hid deE deA deS; rw [hF]; exact ⟨rfl, rfl, rfl⟩
    have HCK : Hid (∀ W, Up W2 W → Calls Tryz.prog 19 #[.agg A] W fun e w' => e = .returned (ckV (ff s)) ∧ Up W w') := fun W u => rcheck_ _ s W (HSO.out.so.sl.up u) (thingsOk s (small_rs hrs) (flat_rs hrs))
    clear hF hrs
    go_upto_region 3 with fail
    try rw [hW2]
    clear hW2
    go_wp2_with (refine wpList_load_rowG (by rfl) 30 (.tmp 6) (by rfl) W1.heap.size (by rfl) 30 A (0, 0) _ gA Tryz.underlying30 (by rfl) (by rw [hA1]; exact infoSt) ?_)
    refine Calls.mono (HCK.out _ (Up.refl _)) ?_
    rintro r W3 ⟨rfl, u⟩
    have gA := u.heap gA
    have g0 := u.heap g0
    have HU : Hid (Up w W3) := HU.out.trans u
    have HSO : Hid (SOA V.heap.size W3 (.agg A) s) := HSO.out.up u
    clear u x1 x2 HCK
    unfold ckV
    cases hf : ff s with
    | none =>
      have HF : Hid (deE B = 0 ∧ deA B = 0 ∧ deS B = s) := by
        have h9 := HF.out
        rw [hf] at h9
        simpa [Hid] using h9
      clear hf hpl
      go_wp2_with (first | (refine wpList_load_rowG (by rfl) 30 (.tmp 6) (by rfl) W1.heap.size (by rfl) 30 A (0, 0) _ gA Tryz.underlying30 (by rfl) (by rw [hA1]; exact infoSt) ?_) | (refine wpList_store_row (by rfl) 30 (.tmp 2) (.tmp 33) (by rfl) w.heap.size A (by rfl) (by rfl) 30 zA g0 (by rw [hA1]; exact infoSt) (by rw [hA1]; rfl) hA2 ?_))
      refine bodyPost_ret (v := .tuple #[.agg A, .int .i64 0, .int .i64 0]) (res_c2 (p := 2) (q := 3) (r := 4) (ty := 30) rfl _ _ w.heap.size 30 A (0, 0) _ _ _ rfl rfl rfl (setRow_heap _ _ _ _ _ _ g0) Tryz.underlying30 rfl (by rw [hA1]; exact infoSt)) rfl ?_
      rw [HPo.out]
      refine ⟨.agg A, ?_, ?_, up_setRow HU.out (Nat.le_refl _) _⟩
      · rw [HF.out.1, HF.out.2.1]
      · rw [HF.out.2.2]
        exact soa_less (soa_setRow HSO.out g0) (by have := HVS.out; omega)
    | some k =>
      have HF : Hid (deE B = 10 ∧ deA B = (k : Int) ∧ deS B = noS) := by
        have h9 := HF.out
        rw [hf] at h9
        simpa [Hid] using h9
      obtain ⟨t0, t1, t2, t3, t4, t5, t6⟩ := seven_cells g0
      have fz : ∀ j, W3.frozen? ⟨w.heap.size, j, none⟩ = false := fun j => seven_f g0 j
      obtain ⟨W9, hW9, h71, h73⟩ : ∃ W9, (((((((W3.setCell ⟨w.heap.size, 0, none⟩ (.slice none 0 0)).setCell ⟨w.heap.size, 1, none⟩ (.slice none 0 0)).setCell ⟨w.heap.size, 2, none⟩ (.slice none 0 0)).setCell ⟨w.heap.size, 3, none⟩ (.int .i32 0)).setCell ⟨w.heap.size, 4, none⟩ (.int .i64 0)).setCell ⟨w.heap.size, 5, none⟩ (.int .i8 0)).setCell ⟨w.heap.size, 6, none⟩ (.int .i64 0)) = W9 ∧ W9.heap[w.heap.size]? = some (.cells zA 30 (0, 0)) ∧ Up w W9 := by
        obtain ⟨q1, q2, q3⟩ := @set7 W3 w.heap.size (w.heap.size + 1) _ (.slice none 0 0) (.slice none 0 0) (.slice none 0 0) (.int .i32 0) (.int .i64 0) (.int .i8 0) (.int .i64 0) _ _ _ _ _ _ _ g0 (by omega)
        exact ⟨_, rfl, q1, q3 w HU.out (Nat.le_refl _)⟩
      have HS7 : Hid (Up w W9) := h73
      have HW9 : Hid ((((((((W3.setCell ⟨w.heap.size, 0, none⟩ (.slice none 0 0)).setCell ⟨w.heap.size, 1, none⟩ (.slice none 0 0)).setCell ⟨w.heap.size, 2, none⟩ (.slice none 0 0)).setCell ⟨w.heap.size, 3, none⟩ (.int .i32 0)).setCell ⟨w.heap.size, 4, none⟩ (.int .i64 0)).setCell ⟨w.heap.size, 5, none⟩ (.int .i8 0)).setCell ⟨w.heap.size, 6, none⟩ (.int .i64 0)) = W9) := hW9
      clear g0 hf h73 hpl gA HW9
      go_wp2_with fail
      refine bodyPost_ret (v := .tuple #[.agg zA, .int .i64 10, .int .i64 (k : Int)]) (res_c2 (p := 2) (q := 3) (r := 4) (ty := 30) rfl _ _ w.heap.size 30 zA (0, 0) _ _ _ rfl rfl rfl h71 Tryz.underlying30 rfl infoSt) rfl ?_
      rw [HPo.out]
      refine ⟨.agg zA, ?_, ?_, HS7.out⟩
      · rw [HF.out.1, HF.out.2.1]
      · rw [HF.out.2.2]
        exact soa_no _ _
end IM
end Go.Proofs.YtmpamcdobhiipaaGreatDoor
/-
  Lists of bytes with marks behind them, and whether the marks stand.
-/
namespace Go.Proofs.YtmpamcdobhiipaaGreatDoor
namespace SM
open Go.RowKit

/- a row of bytes that the call made, written over place by place -/
def Row (w : World) (base g : Nat) (L : List Nat) : Prop := w.ownsRow base 5 1 (.slice (some ⟨g, 0, none⟩) L.length L.length) L.length (L.map bv)
theorem Row.cell {w : World} {base g : Nat} {L : List Nat} (h : Row w base g L) (k : Nat) (hk : k < L.length) : w.cell? ⟨g, k, none⟩ = some (.int .u8 (L.getD k 0 : Nat)) := by
  have h' : w.ownsRow base 5 1 (.slice (some ⟨g, 0, none⟩) L.length L.length) L.length (L.map bv) := h
  rw [h'.cellAt k (by omega)]
  simp [List.getD, List.getElem?_eq_getElem hk, bv]
theorem Row.frozen {w : World} {base g : Nat} {L : List Nat} (h : Row w base g L) (k : Nat) : w.frozen? ⟨g, k, none⟩ = false := World.ownsRow.frozenAt h k
theorem Row.base_le {w : World} {base g : Nat} {L : List Nat} (h : Row w base g L) : base ≤ g ∧ g < w.heap.size := World.ownsRow.lt h g rfl
theorem Row.set {w : World} {base g : Nat} {L : List Nat} (h : Row w base g L) (k c : Nat) : Row (w.setCell ⟨g, k, none⟩ (.int .u8 (c : Int))) base g (L.set k c) := by
  have h' : w.ownsRow base 5 1 (.slice (some ⟨g, 0, none⟩) L.length L.length) L.length (L.map bv) := h
  have := (h'.stored k (.int .u8 (c : Int))).1
  unfold Row
  rw [List.length_set, List.map_set]
  exact this
theorem Row.up {w w' : World} {base g : Nat} {L : List Nat} (h : Row w base g L) (u : Up w w') : Row w' base g L := by
  obtain ⟨h1, h2⟩ := h
  refine ⟨h1, ?_⟩
  rcases h2 with ⟨e, _⟩ | ⟨g', cap, cur, e1, e2, e3, r⟩
  · cases e
  · refine Or.inr ⟨g', cap, cur, e1, e2, ?_, r⟩
    rw [u.block g' (Array.getElem?_eq_some_iff.1 e3).1]; exact e3
theorem Row.lies {w : World} {base g cap : Nat} {L : List Nat} (h : Row w base g L) (n : Nat) (hn : n ≤ L.length) : Lies w (.slice (some ⟨g, 0, none⟩) n cap) (L.take n) := by
  have hl : (L.take n).length = n := by rw [List.length_take]; omega
  refine ⟨_, cap, by rw [hl], (fun e => by cases e), fun _ => ⟨g, 0, rfl, fun i hi => ?_⟩⟩
  rw [Nat.zero_add, h.cell i (by omega)]
  simp only [List.getD]
  rw [List.getElem?_take_of_lt (by omega)]
def mark (j : Nat) : Nat := (282 + 7 * j) % 256
def fillL (zs : List Nat) (k n : Nat) : List Nat := (List.range n).map fun j => if j < k then (if j < zs.length then zs.getD j 0 else mark j) else 0
theorem fillL_len (zs : List Nat) (k n : Nat) : (fillL zs k n).length = n := by simp [fillL]
theorem fillL_zero (zs : List Nat) (n : Nat) : (fillL zs 0 n).map bv = List.replicate n (.int .u8 0) := by
  unfold fillL
  apply List.ext_getElem
  · simp
  · intro i h1 h2; simp [bv]
theorem fillL_set (zs : List Nat) (k n c : Nat) (h : c = if k < zs.length then zs.getD k 0 else mark k) : (fillL zs k n).set k c = fillL zs (k + 1) n := by
  unfold fillL
  apply List.ext_getElem
  · simp
  · intro i h1 h2
    simp only [List.getElem_set, List.getElem_map, List.getElem_range]
    by_cases e : k = i
    · subst e; rw [if_pos rfl, if_pos (Nat.lt_succ_self k), h]
    · rw [if_neg e]
      by_cases hik : i < k
      · rw [if_pos hik, if_pos (show i < k + 1 by omega)]
      · rw [if_neg hik, if_neg (show ¬ i < k + 1 by omega)]
theorem fillL_at (zs : List Nat) (k n j : Nat) (h : j < n) : (fillL zs k n).getD j 0 = if j < k then (if j < zs.length then zs.getD j 0 else mark j) else 0 := by
  simp [fillL, List.getD, h]
theorem fillL_take (zs : List Nat) (n : Nat) (h : zs.length ≤ n) : (fillL zs n n).take zs.length = zs := by
  apply List.ext_getElem
  · simp [fillL]; omega
  · intro i h1 h2
    simp only [List.getElem_take, fillL, List.getElem_map, List.getElem_range]
    rw [if_pos (by omega), if_pos h2, List.getD, List.getElem?_eq_getElem h2]; rfl
set_option maxRecDepth 100000 in
set_option maxHeartbeats 2000000 in
theorem wideB (v : Value) (zs : List Nat) (w : World) (h : Lies w v zs) (hb : Bys zs) (hm : zs.length ≤ 2147483647) :
    Calls Tryz.prog 5 #[v] w fun e w' => ∃ g, e = .returned (.slice (some ⟨g, 0, none⟩) zs.length (zs.length + 64)) ∧ Row w' w.heap.size g (fillL zs (zs.length + 64) (zs.length + 64)) ∧ Up w w' := by
  obtain ⟨i5, hi5, z0, z1, z2⟩ := info_parts info5
  obtain ⟨a, cap, hv, hz, h'⟩ := h
  have HH : Hid (zs.length ≠ 0 → ∃ b off, a = some ⟨b, off, none⟩ ∧ ∀ i, i < zs.length → w.cell? ⟨b, off + i, none⟩ = some (.int .u8 (zs.getD i 0 : Nat))) := h'
  have HB : Hid (Bys zs) := hb
  clear h' hz hb
  subst hv
  obtain ⟨n, hn⟩ : ∃ n, zs.length = n := ⟨_, rfl⟩
  rw [hn] at hm ⊢
  have HL : Hid (zs.length = n) := hn
  clear hn
  go_enter Tryz.func5, Tryz.ntmps5
  go_wp2_with (at_make; refine wpList_make_full _ rfl _ _ 22 rfl w.heap.size 5 i5 (.int .u8 0) 1 Tryz.underlying22 hi5 z0 z1 .i64 .i64 _ _ (n + 64) rfl rfl (by omega) (by omega) (by rw [z2]; omega) (by unfold maxLen; omega) (Nat.le_refl _) ?_; intro w1 hin hg1)
  have hup : Up w w1 := Below.grown (Up.refl _) hg1 (Nat.le_refl _) (fun k hk => by cases hk)
  have hrow : Row w1 w.heap.size w.heap.size (fillL zs 0 (n + 64)) := by
    unfold Row
    rw [fillL_len, fillL_zero, ← toList_madeCells_one]
    rw [Nat.mul_one] at hin
    exact hin
  clear hin hg1
  go_loopw [4] (fun i wr => ∃ k : Nat, k ≤ n + 64 ∧ i = .int .i64 k ∧ Row wr w.heap.size w.heap.size (fillL zs k (n + 64)) ∧ Up w wr)
    (fun i _ => n + 64 - (intOf i).toNat)
  case atStart => exact ⟨0, Nat.zero_le _, rfl, hrow, hup⟩
  case round =>
    obtain ⟨k, hk, rfl, hr, hu⟩ := hrel
    clear hrow hup
    by_cases hlt : k < n + 64
    · have hki : (k : Int) < (n : Int) + 64 := by omega
      have f1 := hr.frozen k
      have c1 := hr.cell k (by rw [fillL_len]; exact hlt)
      rw [fillL_at zs k _ k hlt, if_neg (Nat.lt_irrefl k)] at c1
      by_cases hl0 : k < n
      · have hlz : k < zs.length := by rw [HL.out]; exact hl0
        obtain ⟨b, off, hx, hcell⟩ := HH.out (by omega)
        have hc := hu.cell (hcell k hlz)
        have hbw : b < w.heap.size := World.block_lt_of_cell? w ⟨b, off + k, none⟩ (hcell k hlz)
        subst hx
        clear hcell
        have hz8 := HB.out k
        have hbg : ¬ w.heap.size = b := by omega
        have hR := hr.set k (zs.getD k 0)
        rw [fillL_set zs k _ _ (by rw [if_pos hlz])] at hR
        have hU : Up w (wr.setCell ⟨w.heap.size, k, none⟩ (.int .u8 (zs.getD k 0 : Nat))) := Below.setCell hu (Nat.le_refl _) _
        generalize zs.getD k 0 = z at *
        have hli : (k : Int) < (n : Int) := by omega
        clear hr hu
        go_wp2
        go_roundw
        case rel => first | exact ⟨k + 1, by omega, by go_num, hR, hU⟩ | ((repeat apply Exists.intro); exact ⟨⟨k + 1, by omega, by go_num, hR, hU⟩, rfl⟩)
        case measure => simp [intOf]; omega
      · have hlz : ¬ k < zs.length := by rw [HL.out]; exact hl0
        have hli : ¬ (k : Int) < (n : Int) := by omega
        have hR := hr.set k (mark k)
        rw [fillL_set zs k _ _ (by rw [if_neg hlz])] at hR
        have hU : Up w (wr.setCell ⟨w.heap.size, k, none⟩ (.int .u8 (mark k : Nat))) := Below.setCell hu (Nat.le_refl _) _
        have hmk : IntKind.u8.wrap (279 + 7 * (k : Int) + 3) = (mark k : Nat) := by rw [IntKind.wrap_u8']; unfold mark; omega
        generalize mark k = z at *
        clear hr hu
        go_wp2
        go_roundw
        case rel => first | exact ⟨k + 1, by omega, by go_num, hR, hU⟩ | ((repeat apply Exists.intro); exact ⟨⟨k + 1, by omega, by go_num, hR, hU⟩, rfl⟩)
        case measure => simp [intOf]; omega
    · obtain rfl : k = n + 64 := by omega
      go_wp2
      go_ret
      exact ⟨_, rfl, hr, hu⟩
set_option maxRecDepth 100000 in
set_option maxHeartbeats 2000000 in
theorem spareB (g n : Nat) (w : World) (hm : n ≤ 2147483647) (hc : ∀ j, n ≤ j → j < n + 64 → w.cell? ⟨g, j, none⟩ = some (.int .u8 (mark j : Nat))) :
    Calls Tryz.prog 9 #[.slice (some ⟨g, 0, none⟩) n (n + 64)] w fun e w' => e = .returned (.bool true) ∧ w' = w := by
  have HC : Hid (∀ j, n ≤ j → j < n + 64 → w.cell? ⟨g, j, none⟩ = some (.int .u8 (mark j : Nat))) := hc
  clear hc
  go_enter Tryz.func9, Tryz.ntmps9
  go_wp2_with fail
  go_loop [4] (fun s4 => ∃ k : Nat, n ≤ k ∧ k ≤ n + 64 ∧ s4 = .int .i64 k) (fun i => n + 64 - (intOf i).toNat)
  case atStart => exact ⟨n, Nat.le_refl _, by omega, rfl⟩
  case round =>
    obtain ⟨k, h1, h2, rfl⟩ := hrel
    by_cases hlt : k < n + 64
    · have hki : (k : Int) < (n : Int) + 64 := by omega
      have hcell := HC.out k h1 hlt
      have hmk : IntKind.u8.wrap (279 + 7 * (k : Int) + 3) = (mark k : Nat) := by rw [IntKind.wrap_u8']; unfold mark; omega
      generalize mark k = z at *
      have hzz : ((z : Int) == (z : Int)) = true := by simp
      go_wp2
      go_round
      case rel => exact ⟨k + 1, by omega, by omega, by go_num⟩
      case measure => simp [intOf]; omega
    · obtain rfl : k = n + 64 := by omega
      go_wp2
      go_ret
      exact ⟨rfl, rfl⟩
end SM
end Go.Proofs.YtmpamcdobhiipaaGreatDoor
