/-
  Marks.
-/
import Derived.Test.YtkldllnnocdhbaaGreatDoorRy8
import Derived.Test.YtkldllnnocdhbaaGreatDoorTw8
import Derived.Test.YtkldllnnocdhbaaGreatDoorCq8
import Derived.Test.YtkldllnnocdhbaaGreatDoorTt8
import Derived.Lib.SmallJoins
import Derived.Deep.Cut
import Derived.WalkKit
import Derived.ProofKit
import Derived.OpenShut
import Derived.ChangeOld
import Derived.SizedLaws
import Derived.Deep.Slices
import Derived.Deep.Strs
import Derived.Stop.LaidErr
import Derived.Test.YtkldllnnocdhbaaGreatDoorRows
import Derived.Lib.LaidTab
namespace Go.Proofs.YtkldllnnocdhbaaGreatDoor
open Go.RowKit
attribute [local go_sem ↓] Go.wp_at_zero Go.wp_at_succ
namespace TK
theorem nums_app (a b : List Int) : strOfNums a ++ strOfNums b = strOfNums (a ++ b) := by
  apply ByteArray.ext
  show (strOfNums a ++ strOfNums b).data = _
  rw [ByteArray.data_append]
  simp [strOfNums]
theorem ext_one {l : List Int} (i : Nat) (hi : i < l.length) : (strOfNums l).extract i (i + 1) = strOfNums [l.getD i 0] := by
  apply ByteArray.ext
  rw [ByteArray.data_extract]
  apply Array.ext'
  show (((l.map fun n => UInt8.ofNat n.toNat).toArray).extract i (i + 1)).toList = [UInt8.ofNat (l.getD i 0).toNat]
  rw [List.getD_eq_getElem?_getD, List.getElem?_eq_getElem hi]
  simp [List.drop_eq_getElem_cons, hi]
def mayB (k : Int) (l : List Int) (n p : Int) : Bool := if p < 0 ∨ (k ≠ 2 ∧ n ≠ 0) then false else if k = 1 then okN l else if k = 2 then (decide (0 ≤ n) && decide (l = [])) else if k = 3 then okT l else if k = 4 then mrk l else (decide (k = 0) && decide (l = []))
theorem tex_may (k : Int) (l : List Int) (n p : Int) : tex ⟨k, l, n, p⟩ = if mayB k l n p = true then (if k = 2 then dcm n else if k = 3 then quo l else l) else [] := by
  unfold tex mayB
  by_cases hp : p < 0
  · simp [hp]
  · by_cases hk2 : k = 2
    · subst hk2
      by_cases hn : n < 0
      · simp [hp, hn, show ¬ 0 ≤ n by omega]
      · by_cases hl : l = []
        · simp [hp, hn, hl, show 0 ≤ n by omega]
        · simp [hp, hn, hl]
    · by_cases hn0 : n = 0
      · subst hn0
        by_cases hk1 : k = 1
        · subst hk1
          simp [hp]
        · by_cases hk3 : k = 3
          · subst hk3
            simp [hp]
          · by_cases hk4 : k = 4
            · subst hk4
              simp [hp]
            · by_cases hl : l = []
              · simp [hp, hk1, hk2, hk3, hk4, hl]
              · simp [hp, hk1, hk2, hk3, hk4, hl]
      · by_cases hn : n < 0
        · simp [hp, hk2, hn0, hn]
        · simp [hp, hk2, hn0, hn]
set_option maxRecDepth 100000 in
set_option maxHeartbeats 8000000 in
theorem rmay_ (k : Int) (l : List Int) (n p : Int) (w : World) (hl : Byt l) (hln : l.length ≤ 281474976710656) :
    Calls Tryz.prog 25 #[.agg #[.int .i8 k, .string (strOfNums l), .int .i64 n, .int .i64 p]] w fun e w' => e = .returned (.bool (mayB k l n p)) ∧ Up w w' := by
  obtain ⟨Post, hPost⟩ : ∃ P : Ending → World → Prop, P = fun e w' => e = .returned (.bool (mayB k l n p)) ∧ Up w w' := ⟨_, rfl⟩
  rw [← hPost]
  have HPo : Hid (Post = fun e w' => e = .returned (.bool (mayB k l n p)) ∧ Up w w') := hPost
  clear hPost
  have HIN : Hid (∀ W, Calls Tryz.prog 65 #[.string (strOfNums l)] W fun e w' => e = .returned (.bool (okN l)) ∧ Up W w') := fun W => Calls.mono (rname_ l W hl hln) (fun e w' h => by obtain ⟨h1, h2⟩ := h; subst h2; exact ⟨h1, Up.refl _⟩)
  have HIT : Hid (∀ W, Calls Tryz.prog 66 #[.string (strOfNums l)] W fun e w' => e = .returned (.bool (okT l)) ∧ Up W w') := fun W => Calls.mono (rsays_ l W hl hln) (fun e w' h => by obtain ⟨h1, h2⟩ := h; subst h2; exact ⟨h1, Up.refl _⟩)
  have HIM : Hid (∀ W, Calls Tryz.prog 67 #[.string (strOfNums l)] W fun e w' => e = .returned (.bool (mrk l)) ∧ Up W w') := fun W => rmark_ l W hl
  have hni : (strOfNums l).toList = [] ↔ l = [] := nums_nil
  obtain ⟨te, hte2⟩ : ∃ e, (strOfNums l).toList.isEmpty = e := ⟨_, rfl⟩
  have HTE : Hid (te = decide (l = [])) := by
    unfold Hid
    rw [← hte2, Bool.eq_iff_iff, List.isEmpty_iff, decide_eq_true_iff]
    exact hni
  obtain ⟨s, hs⟩ : ∃ s, strOfNums l = s := ⟨_, rfl⟩
  rw [hs] at HIN HIT HIM hte2 ⊢
  obtain ⟨W0, hW0⟩ : ∃ W0, w.alloc (.cells #[.int .i8 k, .string s, .int .i64 n, .int .i64 p] 45) = W0 := ⟨_, rfl⟩
  have gB : W0.heap[w.heap.size]? = some (.cells #[.int .i8 k, .string s, .int .i64 n, .int .i64 p] 45 (0, 0)) := by rw [← hW0]; exact heap_alloc_new _ _
  have HU : Hid (Up w W0) := by unfold Hid; rw [← hW0]; exact (Up.refl _).alloc _
  have x0 : W0.cell? ⟨w.heap.size, 0, none⟩ = some (.int .i8 k) := by simp only [World.cell?, gB]; rfl
  have x1 : W0.cell? ⟨w.heap.size, 1, none⟩ = some (.string s) := by simp only [World.cell?, gB]; rfl
  have x2 : W0.cell? ⟨w.heap.size, 2, none⟩ = some (.int .i64 n) := by simp only [World.cell?, gB]; rfl
  have x3 : W0.cell? ⟨w.heap.size, 3, none⟩ = some (.int .i64 p) := by simp only [World.cell?, gB]; rfl
  clear hl hln hni hs
  by_cases hp : p < 0
  · have HQ : Hid (mayB k l n p = false) := by unfold Hid mayB; rw [if_pos (.inl hp)]
    go_enter Tryz.func25, Tryz.ntmps25
    go_wp2_with fail
    rw [HPo.out]
    exact ⟨by rw [HQ.out] <;> rfl, HU.out⟩
  · by_cases hk2 : k = 2
    · subst hk2
      have HQ : Hid (mayB 2 l n p = (decide (0 ≤ n) && te)) := by unfold Hid mayB; rw [HTE.out, if_neg (by omega), if_neg (by decide), if_pos rfl]
      by_cases hn : 0 ≤ n
      · rw [decide_eq_true hn, Bool.true_and] at HQ
        go_enter Tryz.func25, Tryz.ntmps25
        go_wp2_with fail
        rw [HPo.out]
        exact ⟨by rw [HQ.out] <;> rfl, HU.out⟩
      · rw [decide_eq_false hn, Bool.false_and] at HQ
        go_enter Tryz.func25, Tryz.ntmps25
        go_wp2_with fail
        rw [HPo.out]
        exact ⟨by rw [HQ.out] <;> rfl, HU.out⟩
    · have t2 : (k == 2) = false := by simpa using hk2
      have t2b : (k != 2) = true := by simpa using hk2
      by_cases hn : n = 0
      · subst hn
        have HQ0 : Hid (mayB k l 0 p = if k = 1 then okN l else if k = 3 then okT l else if k = 4 then mrk l else (decide (k = 0) && te)) := by
          unfold Hid mayB
          rw [HTE.out, if_neg (by omega), if_neg hk2]
        by_cases hk1 : k = 1
        · subst hk1
          have HQ : Hid (mayB 1 l 0 p = okN l) := by unfold Hid; rw [HQ0.out, if_pos rfl]
          generalize okN l = ok at *
          go_enter Tryz.func25, Tryz.ntmps25
          go_wp2_with fail
          first | refine calls_world hW0 (Calls.mono (HIN.out _) ?_) | refine Calls.mono (HIN.out _) ?_
          rintro r W1 ⟨rfl, u⟩
          have HU : Hid (Up w W1) := HU.out.trans u
          clear u
          go_wp2_with fail
          rw [HPo.out]
          exact ⟨by rw [HQ.out] <;> rfl, HU.out⟩
        · have t1 : (k == 1) = false := by simpa using hk1
          by_cases hk3 : k = 3
          · subst hk3
            have HQ : Hid (mayB 3 l 0 p = okT l) := by unfold Hid; rw [HQ0.out, if_neg (by decide), if_pos rfl]
            generalize okT l = ok at *
            go_enter Tryz.func25, Tryz.ntmps25
            go_wp2_with fail
            first | refine calls_world hW0 (Calls.mono (HIT.out _) ?_) | refine Calls.mono (HIT.out _) ?_
            rintro r W1 ⟨rfl, u⟩
            have HU : Hid (Up w W1) := HU.out.trans u
            clear u
            go_wp2_with fail
            rw [HPo.out]
            exact ⟨by rw [HQ.out] <;> rfl, HU.out⟩
          · have t3 : (k == 3) = false := by simpa using hk3
            by_cases hk4 : k = 4
            · subst hk4
              have HQ : Hid (mayB 4 l 0 p = mrk l) := by unfold Hid; rw [HQ0.out, if_neg (by decide), if_neg (by decide), if_pos rfl]
              generalize mrk l = ok at *
              go_enter Tryz.func25, Tryz.ntmps25
              go_wp2_with fail
              first | refine calls_world hW0 (Calls.mono (HIM.out _) ?_) | refine Calls.mono (HIM.out _) ?_
              rintro r W1 ⟨rfl, u⟩
              have HU : Hid (Up w W1) := HU.out.trans u
              clear u
              go_wp2_with fail
              rw [HPo.out]
              exact ⟨by rw [HQ.out] <;> rfl, HU.out⟩
            · have t4 : (k == 4) = false := by simpa using hk4
              have HQ : Hid (mayB k l 0 p = (decide (k = 0) && te)) := by unfold Hid; rw [HQ0.out, if_neg hk1, if_neg hk3, if_neg hk4]
              by_cases hk0 : k = 0
              · subst hk0
                rw [decide_eq_true rfl, Bool.true_and] at HQ
                go_enter Tryz.func25, Tryz.ntmps25
                go_wp2_with fail
                rw [HPo.out]
                exact ⟨by rw [HQ.out] <;> rfl, HU.out⟩
              · have t0 : (k == 0) = false := by simpa using hk0
                rw [decide_eq_false hk0, Bool.false_and] at HQ
                go_enter Tryz.func25, Tryz.ntmps25
                go_wp2_with fail
                rw [HPo.out]
                exact ⟨by rw [HQ.out] <;> rfl, HU.out⟩
      · have tn : (n != 0) = true := by simpa using hn
        have HQ : Hid (mayB k l n p = false) := by unfold Hid mayB; rw [if_pos (.inr ⟨hk2, hn⟩)]
        go_enter Tryz.func25, Tryz.ntmps25
        go_wp2_with fail
        rw [HPo.out]
        exact ⟨by rw [HQ.out] <;> rfl, HU.out⟩
end TK
end Go.Proofs.YtkldllnnocdhbaaGreatDoor

namespace Go.Proofs.YtkldllnnocdhbaaGreatDoor
open Go.ChangeShapes Go.WideShapes Go.ChangeAt Go.RowKit

namespace TK
theorem flat_len {E : Type} (f : E → List Value) (s : Nat) (hf : ∀ e, (f e).length = s) (l : List E) : (l.flatMap f).length = l.length * s := by
  induction l with
  | nil => simp
  | cons x l ih => rw [List.flatMap_cons, List.length_append, ih, hf, List.length_cons, Nat.succ_mul]; omega
theorem flat_get {E : Type} (f : E → List Value) (s : Nat) (hf : ∀ e, (f e).length = s) (d : E) (l : List E) : ∀ i j, i < l.length → j < s → (l.flatMap f)[i * s + j]? = (f (l.getD i d))[j]? := by
  induction l with
  | nil => intro i j h; simp at h
  | cons x l ih =>
    intro i j hi hj
    rw [List.flatMap_cons]
    cases i with
    | zero => rw [Nat.zero_mul, Nat.zero_add, List.getElem?_append_left (by rw [hf]; exact hj)]; rfl
    | succ i =>
      rw [List.getElem?_append_right (by rw [hf, Nat.succ_mul]; omega), hf, show (i + 1) * s + j - s = i * s + j by rw [Nat.succ_mul]; omega, ih i j (by simpa using hi) hj]
      rfl
section
variable {H : Type} {enc : TypeId × Value → H} {W : World}
theorem open_flat1 {E : Type} (t e s bytes fuel : Nat) (ht : Tryz.prog.underlying t = some (.slice e)) (ce : Tryz.prog.cellsOf e = s) (hs : 0 < s) (hby : Tryz.prog.bytesOf e = bytes) (hb2 : 1 ≤ bytes) (f : E → List Value) (dx : E) (hf : ∀ x, (f x).length = s)
    (he : ∀ cs n y, DataW.trod enc Tryz.prog W 0 (fun _ => true) true n e cs = some y → ∃ x : E, cs = f x) {v : Value} {d : DataW H} {p : List MemPlace}
    (h : DataW.trod enc Tryz.prog W 0 (fun _ => true) true fuel t [v] = some (d, p)) (hz : ∀ n, n ∈ DataW.weights Tryz.prog t d → n ≤ reachBytes) :
    ∃ xs : List E, LC W v s xs.length (xs.flatMap f) ∧ xs.length ≤ 281474976710656 ∧ ∀ cap, v ≠ .slice none 0 (cap + 1) := by
  rcases Deep.open_slice ht h with ⟨hcs, _⟩ | ⟨a, len, cap, m, n, D, Pl, hcs, _, hl, hm, hmm, hx, hel⟩
  · obtain rfl : v = .slice none 0 0 := by simpa using hcs
    exact ⟨[], ⟨by simp, none, 0, rfl, Nat.le_refl _, fun h => absurd rfl h⟩, Nat.zero_le _, fun cap h => by cases h⟩
  · obtain rfl : v = .slice (some a) len cap := by simpa using hcs
    have hmm : m = cap := by simpa using hmm
    subst hmm
    have hd : d = _ := congrArg Prod.fst hx
    have hb := hz ((len + (m - len)) * bytes) (by rw [hd]; simp [DataW.weights, ht, hby])
    have hr : reachBytes ≤ 281474976710656 := by decide
    have hlen2 : len * 1 ≤ 281474976710656 := by
      have h1 : len * 1 ≤ (len + (m - len)) * bytes := Nat.mul_le_mul (by omega) hb2
      omega
    have each : ∀ i, ∃ x : E, i < len → W.cells? 0 (a.add (i * s)) s = some (f x) := by
      intro i
      by_cases hi : i < len
      · obtain ⟨cs', h1, h2⟩ := hel i (by omega)
        obtain ⟨x, hx'⟩ := he cs' n _ h2
        rw [ce] at h1
        exact ⟨x, fun _ => by rw [h1, hx']⟩
      · exact ⟨dx, fun h => absurd h hi⟩
    obtain ⟨X, hX⟩ := Classical.axiomOfChoice each
    have hlen : ((List.range len).map X).length = len := by simp
    refine ⟨(List.range len).map X, ⟨by rw [flat_len f s hf], some a, m, by rw [hlen], by rw [hlen]; exact hl, fun hn => ?_⟩, by rw [hlen]; omega, fun cap h => by cases h⟩
    rw [hlen] at hn
    have hspot : a.spot = none := by
      obtain ⟨_, hl0, hc0⟩ := World.cells?_some (hX 0 (by omega))
      have := hc0 0 (by omega)
      rw [List.getElem?_eq_getElem (by omega)] at this
      simpa [Addr.add] using World.cell?_spot this
    obtain ⟨b, off, spot⟩ := a
    simp only at hspot
    subst hspot
    refine ⟨b, off, rfl, fun j hj => ?_⟩
    rw [hlen] at hj
    have hi : j / s < len := (Nat.div_lt_iff_lt_mul hs).2 hj
    have hmod : j % s < s := Nat.mod_lt _ hs
    obtain ⟨_, hl0, hc0⟩ := World.cells?_some (hX (j / s) hi)
    have h1 := hc0 (j % s) hmod
    rw [Addr.add_mid, Addr.add_mid] at h1
    have e1 : j / s * s + j % s = j := by rw [Nat.mul_comm]; exact Nat.div_add_mod j s
    rw [Nat.add_assoc, e1] at h1
    rw [h1]
    have h2 := flat_get f s hf dx ((List.range len).map X) (j / s) (j % s) (by rw [hlen]; exact hi) hmod
    rw [e1] at h2
    rw [h2]
    simp [List.getD, hi]
def Bt : Type := { n : Int // 0 ≤ n ∧ n < 256 }
def btv (x : Bt) : List Value := [.int .u8 x.1]
theorem btv_all (xs : List Bt) : bvs (xs.map (·.1)) = xs.flatMap btv := by
  induction xs with
  | nil => rfl
  | cons x xs ih => rw [List.flatMap_cons, ← ih]; rfl
theorem cu8 : Tryz.prog.cellsOf 5 = 1 := by kernel_rfl
set_option maxRecDepth 100000 in
theorem byt_of (cs : List Value) (n : Nat) (y : DataW H × List MemPlace) (h : DataW.trod enc Tryz.prog W 0 (fun _ => true) true n 5 cs = some y) : ∃ x : Bt, cs = btv x := by
  obtain ⟨z, e, -, wf⟩ := DataW.trod_int Tryz.underlying5 h
  have := bounds_u8 wf
  exact ⟨⟨z, by omega, by omega⟩, e⟩
set_option maxRecDepth 100000 in
theorem open_bytes {base : Nat} {v : Value} {d : DataW H} {p : List MemPlace} (hv : Value.okWide Tryz.prog W .any base 26 v) (h : DataW.Trod enc Tryz.prog W 0 (fun _ => true) true 26 v d p) (hz : ∀ n, n ∈ DataW.weights Tryz.prog 26 d → n ≤ reachBytes) :
    ∃ B, BL W v B ∧ Byt B ∧ B.length ≤ 281474976710656 ∧ ∀ cap, v ≠ .slice none 0 (cap + 1) := by
  obtain ⟨a9, n9, c9, rfl⟩ := okWide_slice Tryz.underlying26 hv
  obtain ⟨fuel, hf⟩ := h
  obtain ⟨xs, h1, h2, h3⟩ := open_flat1 (E := Bt) 26 5 1 1 fuel Tryz.underlying26 (by kernel_rfl) (by decide) (by kernel_rfl) (by decide) btv ⟨0, by decide, by decide⟩ (fun _ => rfl) byt_of (v := .slice a9 n9 c9) (d := d) (p := p) hf hz
  refine ⟨xs.map (·.1), ?_, fun c hc => ?_, by simpa using h2, h3⟩
  · unfold BL
    rw [List.length_map, btv_all]
    exact h1
  · obtain ⟨x, -, rfl⟩ := List.mem_map.1 hc
    exact x.2
end
theorem starE : "*" ++ "errors.errorString" = "*errors.errorString" := by decide
end TK
end Go.Proofs.YtkldllnnocdhbaaGreatDoor
namespace Go.Proofs.YtkldllnnocdhbaaGreatDoor
open Go.ChangeShapes Go.WideShapes Go.ChangeAt Go.RowKit

namespace TK
section
variable {H : Type} {enc : TypeId × Value → H} {W : World}
theorem cTk : Tryz.prog.cellsOf 45 = 4 := by kernel_rfl
theorem cI8 : Tryz.prog.cellsOf 35 = 1 := by kernel_rfl
theorem cSt : Tryz.prog.cellsOf 9 = 1 := by kernel_rfl
theorem cI6 : Tryz.prog.cellsOf 2 = 1 := by kernel_rfl
theorem cIn : Tryz.prog.cellsOf 3 = 1 := by kernel_rfl
set_option maxRecDepth 100000 in
theorem open_tok {base : Nat} {v : Value} {d : DataW H} {p : List MemPlace} (hv : Value.okWide Tryz.prog W .any base 45 v) (h : DataW.Trod enc Tryz.prog W 0 (fun _ => true) true 45 v d p) :
    ∃ (k : Int) (s : ByteArray) (n q : Int), v = .agg #[.int .i8 k, .string s, .int .i64 n, .int .i64 q] ∧ -9223372036854775808 ≤ n ∧ n ≤ 9223372036854775807 := by
  obtain ⟨cs, rfl, hsz⟩ := okWide_struct Tryz.underlying45 hv
  obtain ⟨fuel, hf⟩ := h
  obtain ⟨xs, k, -, -, hl, hlen, hfd⟩ := DataW.trod_struct Tryz.underlying45 hf
  have hlen : xs.length = 4 := hlen
  obtain ⟨l⟩ := cs
  have hl2 : l.length = 4 := by
    rw [cTk] at hsz
    simpa using hsz
  match l, hl2 with
  | [a, b, c, e], _ =>
    have f0 : DataW.trod enc Tryz.prog W 0 (fun _ => true) true k 35 (([a, b, c, e].drop 0).take (Tryz.prog.cellsOf 35)) = xs[0]? := hfd 0 _ rfl
    rw [cI8, List.getElem?_eq_getElem (by omega)] at f0
    have f1 : DataW.trod enc Tryz.prog W 0 (fun _ => true) true k 9 (([a, b, c, e].drop 1).take (Tryz.prog.cellsOf 9)) = xs[1]? := hfd 1 _ rfl
    rw [cSt, List.getElem?_eq_getElem (by omega)] at f1
    have f2 : DataW.trod enc Tryz.prog W 0 (fun _ => true) true k 2 (([a, b, c, e].drop 2).take (Tryz.prog.cellsOf 2)) = xs[2]? := hfd 2 _ rfl
    rw [cI6, List.getElem?_eq_getElem (by omega)] at f2
    have f3 : DataW.trod enc Tryz.prog W 0 (fun _ => true) true k 3 (([a, b, c, e].drop 3).take (Tryz.prog.cellsOf 3)) = xs[3]? := hfd 3 _ rfl
    rw [cIn, List.getElem?_eq_getElem (by omega)] at f3
    obtain ⟨z0, e0, -, -⟩ := DataW.trod_int Tryz.underlying35 f0
    obtain ⟨z1, e1, -, -⟩ := DataW.trod_string Tryz.underlying9 f1
    obtain ⟨z2, e2, -, w2⟩ := DataW.trod_int Tryz.underlying2 f2
    obtain ⟨z3, e3, -, -⟩ := DataW.trod_int Tryz.underlying3 f3
    simp at e0 e1 e2 e3
    have hb := bounds_i64 w2
    exact ⟨z0, z1, z2, z3, by rw [e0, e1, e2, e3], by omega, by omega⟩
end
theorem tp_of {W : World} {r : List (String × DataW Unit)} (h : laidMet Tryz.prog (("internal/strconv.uint64pow10", Rows.laid_internal_strconv_uint64pow10) :: r) W) : TabP W := by
  unfold TabP
  exact Lib.tabIs_of_head (g := 1) (t := 214) (e := 111) (n := 20) gPow (by kernel_rfl) (by kernel_rfl) (by kernel_rfl) (by kernel_rfl) (by kernel_rfl) (rest := r) h
end TK
end Go.Proofs.YtkldllnnocdhbaaGreatDoor
namespace Go.Proofs.YtkldllnnocdhbaaGreatDoor
open Go.RowKit
attribute [local go_sem ↓] Go.wp_at_zero Go.wp_at_succ
namespace TK
theorem sub_one {B : List Int} {p : Nat} (h : p < B.length) : sub B p (p + 1) = [B.getD p 0] := by
  unfold sub
  rw [drop_at h, show p + 1 - p = 1 by omega]
  rfl
theorem sub_two {B : List Int} {p : Nat} (h : p + 1 < B.length) : sub B p (p + 2) = [B.getD p 0, B.getD (p + 1) 0] := by
  unfold sub
  rw [drop_at (show p < B.length by omega), drop_at h, show p + 2 - p = 2 by omega]
  rfl
theorem byt_one {B : List Int} (h : Byt B) (p : Nat) : Byt [B.getD p 0] := fun c hc => by
  obtain rfl : c = B.getD p 0 := by simpa using hc
  exact h.at p
theorem byt_two {B : List Int} (h : Byt B) (p q : Nat) : Byt [B.getD p 0, B.getD q 0] := fun c hc => by
  rcases (show c = B.getD p 0 ∨ c = B.getD q 0 by simpa using hc) with rfl | rfl
  · exact h.at p
  · exact h.at q
/- what is still to be tried, from the place e on down -/
def Mk (B : List Int) (p e : Nat) : Prop := (e = p + 2 ∧ p + 1 < B.length) ∨ (e = p + 1 ∧ mkk B p = if sgl (B.getD p 0) then .tok ⟨4, [B.getD p 0], 0, p⟩ (p + 1) else .bad p) ∨ (e = p ∧ mkk B p = .bad p)
theorem mk_start (B : List Int) (p : Nat) : Mk B p (if p + 2 ≤ B.length then p + 2 else p + 1) := by
  unfold Mk
  by_cases h2 : p + 2 ≤ B.length
  · rw [if_pos h2]; exact .inl ⟨rfl, h2⟩
  · rw [if_neg h2]
    refine .inr (.inl ⟨rfl, ?_⟩)
    unfold mkk
    rw [if_neg (fun h9 => h2 h9.1)]
/- what comes of a round -/
theorem mk_two {B : List Int} {p : Nat} (h : Byt B) (h2 : p + 1 < B.length) : ((mrkS (strOfNums (sub B p (p + 2))) = true → mkk B p = .tok ⟨4, sub B p (p + 2), 0, p⟩ (p + 2)) ∧ (mrkS (strOfNums (sub B p (p + 2))) = false → Mk B p (p + 1))) := by
  rw [sub_two h2, mrk_is (byt_two h p (p + 1))]
  refine ⟨fun h3 => ?_, fun h3 => .inr (.inl ⟨rfl, ?_⟩)⟩
  · unfold mkk; rw [if_pos ⟨h2, h3⟩]
  · unfold mkk; rw [if_neg (fun h4 => by rw [show two (B.getD p 0) (B.getD (p + 1) 0) = false from h3] at h4; exact absurd h4.2 (by decide))]
theorem mk_one {B : List Int} {p : Nat} (h : Byt B) (hp : p < B.length) (h2 : mkk B p = if sgl (B.getD p 0) then .tok ⟨4, [B.getD p 0], 0, p⟩ (p + 1) else .bad p) : ((mrkS (strOfNums (sub B p (p + 1))) = true → mkk B p = .tok ⟨4, sub B p (p + 1), 0, p⟩ (p + 1)) ∧ (mrkS (strOfNums (sub B p (p + 1))) = false → Mk B p p)) := by
  rw [sub_one hp, mrk_is (byt_one h p)]
  refine ⟨fun h3 => ?_, fun h3 => .inr (.inr ⟨rfl, ?_⟩)⟩
  · rw [h2, if_pos (show sgl (B.getD p 0) = true from h3)]
  · rw [h2, if_neg (by rw [show sgl (B.getD p 0) = false from h3]; decide)]
theorem mk_any {B : List Int} {p e : Nat} (h : Byt B) (hp : p < B.length) (hm : Mk B p e) (he : p < e) : (e ≤ B.length ∧ e ≤ p + 2) ∧ (mrkS (strOfNums (sub B p e)) = true → mkk B p = .tok ⟨4, sub B p e, 0, p⟩ e) ∧ (mrkS (strOfNums (sub B p e)) = false → Mk B p (e - 1)) := by
  rcases hm with ⟨rfl, h2⟩ | ⟨rfl, h2⟩ | ⟨rfl, h2⟩
  · exact ⟨⟨by omega, by omega⟩, mk_two h h2⟩
  · exact ⟨⟨by omega, by omega⟩, mk_one h hp h2⟩
  · omega
theorem mk_end {B : List Int} {p e : Nat} (hm : Mk B p e) (he : ¬ p < e) : e = p ∧ mkk B p = .bad p := by
  rcases hm with ⟨rfl, h2⟩ | ⟨rfl, h2⟩ | h2
  · omega
  · omega
  · exact h2
end TK
end Go.Proofs.YtkldllnnocdhbaaGreatDoor
