/-
  How many entries are good.
-/
import Derived.Test.YtmpamcdobhiipaaGreatDoorSlToSm
import Derived.Deep.WholeRow
namespace Go.Proofs.YtmpamcdobhiipaaGreatDoor
open Go.RowKit
attribute [local go_sem ↓] Go.wp_at_zero Go.wp_at_succ

theorem Up.set {a w : World} (h : Up a w) (p : Addr) (v : Value) (hb : a.heap.size ≤ p.block) : Up a (w.setCell p v) := Below.setCell h hb v
theorem seven_cells {W : World} {a : Nat} {x0 x1 x2 x3 x4 x5 x6 : Value} {t : TypeId} (h : W.heap[a]? = some (.cells #[x0, x1, x2, x3, x4, x5, x6] t (0, 0))) : W.cell? ⟨a, 0, none⟩ = some x0 ∧ W.cell? ⟨a, 1, none⟩ = some x1 ∧ W.cell? ⟨a, 2, none⟩ = some x2 ∧ W.cell? ⟨a, 3, none⟩ = some x3 ∧ W.cell? ⟨a, 4, none⟩ = some x4 ∧ W.cell? ⟨a, 5, none⟩ = some x5 ∧ W.cell? ⟨a, 6, none⟩ = some x6 := by
  refine ⟨by simp [World.cell?, h], by simp [World.cell?, h], by simp [World.cell?, h], by simp [World.cell?, h], by simp [World.cell?, h], by simp [World.cell?, h], by simp [World.cell?, h]⟩
namespace ST
theorem info87 : (Tryz.prog.info? 167).map (fun i => (i.zero, i.size)) = some (some (.agg (Array.replicate 256 (.bool false))), 256) := by kernel_rfl
def seenA (l : List Int) (k : Nat) : Array Value := ((List.range 256).map fun j : Nat => Value.bool (decide ((j : Int) ∈ l.take k))).toArray
theorem seen_zero (l : List Int) : Array.replicate 256 (Value.bool false) = seenA l 0 := by
  apply Array.ext
  · simp [seenA]
  · intro i h1 h2
    simp [seenA]
theorem seen_cell {W : World} {g : Nat} {l : List Int} {k : Nat} {t : TypeId} (h : W.heap[g]? = some (.cells (seenA l k) t (0, 0))) (e : Nat) (he : e < 256) : W.cell? ⟨g, e, none⟩ = some (.bool (decide ((e : Int) ∈ l.take k))) ∧ W.frozen? ⟨g, e, none⟩ = false := by
  refine ⟨?_, by simp [World.frozen?, h]⟩
  simp only [World.cell?, h]
  simp [seenA, he]
theorem seenA_set (l : List Int) (k e : Nat) (he : l[k]? = some (e : Int)) : (seenA l k).setIfInBounds e (.bool true) = seenA l (k + 1) := by
  apply Array.ext
  · simp [seenA]
  · intro i h1 h2
    simp only [seenA, List.setIfInBounds_toArray, List.getElem_toArray, List.getElem_set, List.getElem_map, List.getElem_range]
    have ht : l.take (k + 1) = l.take k ++ [(e : Int)] := by rw [List.take_add_one, he]; rfl
    rw [ht]
    by_cases c : e = i
    · subst c; simp
    · rw [if_neg c]
      have : ¬ (i : Int) = (e : Int) := by omega
      simp [this]
theorem seen_set {W : World} {g : Nat} {l : List Int} {k : Nat} {t : TypeId} (h : W.heap[g]? = some (.cells (seenA l k) t (0, 0))) (e : Nat) (he : l[k]? = some (e : Int)) : (W.setCell ⟨g, e, none⟩ (.bool true)).heap[g]? = some (.cells (seenA l (k + 1)) t (0, 0)) := by
  rw [← seenA_set l k e he]
  simp only [World.setCell, Array.getElem?_modify]
  rw [h]
  simp
theorem flat_at (zs : List (List Int)) : ∀ (z i : Nat), z < zs.length → i < (zs.getD z []).length → zs.flatten[(zs.take z).flatten.length + i]? = some ((zs.getD z []).getD i 0) := by
  induction zs with
  | nil => intro z i h; simp at h
  | cons l zs ih =>
    intro z i hz hi
    cases z with
    | zero =>
      simp at hi
      rw [List.take_zero, List.flatten_nil, List.length_nil, Nat.zero_add, List.flatten_cons, List.getElem?_append_left hi, List.getElem?_eq_getElem hi]
      simp [List.getElem?_eq_getElem hi]
    | succ z =>
      simp only [List.take_succ_cons, List.flatten_cons, List.length_append, List.getD_cons_succ] at hi ⊢
      rw [Nat.add_assoc, List.getElem?_append_right (by omega), Nat.add_sub_cancel_left]
      exact ih z i (by simpa using hz) hi
theorem flat_next (zs : List (List Int)) : ∀ (z : Nat), z < zs.length → (zs.take (z + 1)).flatten.length = (zs.take z).flatten.length + (zs.getD z []).length := by
  intro z hz
  rw [List.take_add_one, List.getElem?_eq_getElem hz, List.flatten_append, List.length_append, List.getD_eq_getElem?_getD, List.getElem?_eq_getElem hz]
  simp
def off (zs : List (List Int)) (z : Nat) : Nat := (zs.take z).flatten.length
def GI (w W : World) (g b0 : Nat) (box : Array Value) (m : Nat) (l : List Int) (k : Nat) : Prop := W.heap[b0]? = some (.cells box 30 (0, 0)) ∧ W.heap[g]? = some (.cells (seenA l k) 167 (0, 0)) ∧ Up w W ∧ ∀ j, j < k → okAt m l j = true
def GPost (w : World) (m : Nat) (l : List Int) (e : Ending) (w' : World) : Prop := e = .returned (.tuple #[.int .i64 (good m l), .bool (decide (good m l = l.length))]) ∧ Up w w'
set_option maxRecDepth 100000 in
set_option maxHeartbeats 4000000 in
theorem goodEntries_ (v : Value) (s : Stt) (w : World) (hs : StL w v s) (hm : s.cs.length ≤ 256) (hz : s.zs.length ≤ 4294967296) (hl : ∀ r, r < s.zs.length → (s.zs.getD r []).length ≤ 4294967296) :
    Calls Tryz.prog 77 #[v] w (GPost w s.cs.length (flat s)) := by
  obtain ⟨vp, vc, vz, rfl, -, h2, h3⟩ := hs
  obtain ⟨a2, k2, rfl, -, -⟩ := lc_at h2
  obtain ⟨a3, k3, rfl, -, c3⟩ := zl_at h3
  clear h2 h3
  unfold sv
  obtain ⟨hv87, hi87⟩ := zero_of_info (P := Tryz.prog) info87
  obtain ⟨m, hm0⟩ : ∃ n, n = s.cs.length := ⟨_, rfl⟩
  obtain ⟨zs, hzs⟩ : ∃ n, n = s.zs := ⟨_, rfl⟩
  obtain ⟨n, hn0⟩ : ∃ n, n = zs.length := ⟨_, rfl⟩
  rw [show flat s = zs.flatten by rw [hzs]; rfl]
  rw [← hm0] at hm ⊢
  rw [← hzs] at hz hl c3 ⊢
  rw [← hn0] at hz hl c3 ⊢
  obtain ⟨Post, hPost⟩ : ∃ P : Ending → World → Prop, P = GPost w m zs.flatten := ⟨_, rfl⟩
  rw [← hPost]
  have HP : Hid (Post = GPost w m zs.flatten) := hPost
  have HC : Hid _ := c3
  have HL : Hid _ := hl
  have HN : Hid (n = zs.length) := hn0
  obtain ⟨g, hg⟩ : ∃ g, g = w.heap.size + 1 := ⟨_, rfl⟩
  obtain ⟨b0, hb0⟩ : ∃ g, g = w.heap.size := ⟨_, rfl⟩
  have HG : Hid (g = w.heap.size + 1 ∧ b0 = w.heap.size) := ⟨hg, hb0⟩
  clear hPost c3 hl hn0 hm0 hzs
  generalize s.turn = tu
  generalize s.whose = wo
  generalize s.fin = fi
  generalize s.winner = wi
  go_enter Tryz.func77, Tryz.ntmps77
  go_wp2_with fail
  go_step3
  go_wp2_with fail
  rw [seen_zero zs.flatten]
  clear hv87 hi87
  go_step3
  go_wp2_with fail
  obtain ⟨box, hbox⟩ : ∃ b : Array Value, b = #[vp, .slice a2 m k2, .slice a3 n k3, .int .i32 tu, .int .i64 wo, .int .i8 fi, .int .i64 wi] := ⟨_, rfl⟩
  have HI : Hid (GI w ((w.alloc (.cells #[vp, .slice a2 m k2, .slice a3 n k3, .int .i32 tu, .int .i64 wo, .int .i8 fi, .int .i64 wi] 30)).alloc (.cells (seenA zs.flatten 0) 167)) g b0 box m zs.flatten 0) := by
    refine ⟨?_, ?_, ((Up.refl _).alloc _).alloc _, fun j hj => by omega⟩
    · rw [hb0, hbox, Below.heap_alloc _ _ _ (by simp)]; exact heap_alloc_new w _
    · rw [hg]
      have := heap_alloc_new (w.alloc (.cells #[vp, .slice a2 m k2, .slice a3 n k3, .int .i32 tu, .int .i64 wo, .int .i8 fi, .int .i64 wi] 30)) (.cells (seenA zs.flatten 0) 167)
      simpa using this
  have HB : Hid _ := hbox
  rw [← hg, ← hb0]
  clear hbox hg hb0
  go_loopw [2, 3, 12] (fun s2 s3 s12 W => ∃ z k : Nat, z ≤ n ∧ s12 = .int .i64 z ∧ s2 = .int .i64 k ∧ s3 = .bool true ∧ k = off zs z ∧ GI w W g b0 box m zs.flatten k) (fun _ _ s12 _ => n - (intOf s12).toNat)
  case atStart => exact ⟨0, 0, Nat.zero_le _, rfl, rfl, rfl, rfl, HI.out⟩
  case round =>
    obtain ⟨z, k, hzn, rfl, rfl, rfl, hk, hi⟩ := hrel
    clear HI
    obtain ⟨i1, i2, i3, i4⟩ := hi
    have HK : Hid (k = off zs z) := hk
    have HX : Hid (wr.heap[b0]? = some (.cells box 30 (0, 0)) ∧ wr.heap[g]? = some (.cells (seenA zs.flatten k) 167 (0, 0)) ∧ Up w wr ∧ ∀ j, j < k → okAt m zs.flatten j = true) := ⟨i1, i2, i3, i4⟩
    clear hk i1 i2 i3 i4
    by_cases hlt : z < n
    · have hlt2 : (z : Int) < (n : Int) := by omega
      obtain ⟨b3, o3, rfl, hrow⟩ := HC.out (by omega)
      obtain ⟨ra, rc, hcell, hil⟩ := hrow z hlt
      have hlen := HL.out z hlt
      obtain ⟨_, _, hra, -, hin⟩ := il_at hil
      cases hra
      have x1 := hcell wr HX.out.2.2.1
      have HRow : Hid (∀ i, i < (zs.getD z []).length → zs.flatten[k + i]? = some ((zs.getD z []).getD i 0)) := fun i hi => by rw [HK.out]; exact flat_at zs z i (by rw [← HN.out]; exact hlt) hi
      have HNx : Hid (k + (zs.getD z []).length = off zs (z + 1)) := by unfold Hid; rw [HK.out]; exact (flat_next zs z (by rw [← HN.out]; exact hlt)).symm
      clear hcell hrow hil
      obtain ⟨r, hr⟩ : ∃ r, r = zs.getD z [] := ⟨_, rfl⟩
      rw [← hr] at x1 hlen hin HRow HNx
      obtain ⟨q, hq⟩ : ∃ q, q = r.length := ⟨_, rfl⟩
      rw [← hq] at x1 hlen hin HRow HNx
      have HIn : Hid _ := hin
      clear hr hq hin
      go_wp2_with fail
      go_loopw [2, 3, 18] (fun s2 s3 s18 W => ∃ i : Nat, i ≤ q ∧ s18 = .int .i64 i ∧ s2 = .int .i64 ((k + i : Nat) : Int) ∧ s3 = .bool true ∧ GI w W g b0 box m zs.flatten (k + i)) (fun _ _ s18 _ => q - (intOf s18).toNat)
      case atStart => exact ⟨0, Nat.zero_le _, rfl, rfl, rfl, HX.out⟩
      case round =>
        obtain ⟨i, hiq, rfl, rfl, rfl, hgi⟩ := hrel
        clear HX x1
        obtain ⟨i1, i2, i3, i4⟩ := hgi
        by_cases hlt3 : i < q
        · have hlt4 : (i : Int) < (q : Int) := by omega
          obtain ⟨b4, o4, rfl, hc4⟩ := HIn.out (by omega)
          have x1 := hc4 _ i3 i hlt3
          have hent := HRow.out i hlt3
          have HE : Hid (zs.flatten[k + i]? = some (r.getD i 0)) := hent
          have hb := i1
          rw [HB.out] at hb
          obtain ⟨-, y1, -, -, -, -, -⟩ := seven_cells hb
          have HO : Hid (okAt m zs.flatten (k + i) = (numB (r.getD i 0) m && !(zs.flatten.take (k + i)).contains (r.getD i 0))) := by unfold Hid; rw [okAt, hent]
          have HI2 : Hid (wr.heap[b0]? = some (.cells box 30 (0, 0)) ∧ Up w wr ∧ ∀ j, j < k + i → okAt m zs.flatten j = true) := ⟨i1, i3, i4⟩
          have HI3 : Hid _ := i2
          clear hent hc4 hb i1 i2 i3 i4
          generalize r.getD i 0 = x at *
          cases hnb : numB x m
          · clear HI3
            have HF : Hid (good m zs.flatten = k + i ∧ k + i < zs.flatten.length) := by
              have hlt9 : k + i < zs.flatten.length := (List.getElem?_eq_some_iff.1 HE.out).1
              exact ⟨good_at m _ _ (by omega) HI2.out.2.2 (fun _ => by rw [HO.out, hnb]; rfl), hlt9⟩
            have HU : Hid (Up w wr) := HI2.out.2.1
            clear HI2 HO HE
            go_wp2_with fail
            refine Calls.mono (isNumberB _ _ false hnb _) ?_
            rintro e9 w9 ⟨rfl, rfl⟩
            go_wp2
            rw [HP.out]
            refine ⟨?_, HU.out⟩
            rw [HF.out.1, decide_eq_false (by have := HF.out.2; omega), Int.natCast_add]
            rfl
          · obtain ⟨e, rfl, hem⟩ : ∃ e : Nat, x = (e : Int) ∧ e < m := by
              simp only [numB, Bool.and_eq_true, decide_eq_true_eq] at hnb
              exact ⟨x.toNat, by omega, by omega⟩
            obtain ⟨y2, y3⟩ := seen_cell HI3.out e (by omega)
            have he256 : e < 256 := by omega
            have he256' : (e : Int) < 256 := by omega
            by_cases hin : (e : Int) ∈ zs.flatten.take (k + i)
            · have hcn : (zs.flatten.take (k + i)).contains (e : Int) = true := List.contains_iff_mem.2 hin
              rw [decide_eq_true hin] at y2
              have HF : Hid (good m zs.flatten = k + i ∧ k + i < zs.flatten.length) := by
                have hlt9 : k + i < zs.flatten.length := (List.getElem?_eq_some_iff.1 HE.out).1
                exact ⟨good_at m _ _ (by omega) HI2.out.2.2 (fun _ => by rw [HO.out, hnb, hcn]; rfl), hlt9⟩
              have HU : Hid (Up w wr) := HI2.out.2.1
              clear HI2 HO HE hin hcn
              go_wp2_with fail
              refine Calls.mono (isNumberB _ _ true hnb _) ?_
              rintro e9 w9 ⟨rfl, rfl⟩
              go_wp2
              rw [HP.out]
              refine ⟨?_, HU.out⟩
              rw [HF.out.1, decide_eq_false (by have := HF.out.2; omega), Int.natCast_add]
              rfl
            · have hcn : (zs.flatten.take (k + i)).contains (e : Int) = false := by
                rw [Bool.eq_false_iff]; intro hc; exact hin (List.contains_iff_mem.1 hc)
              rw [decide_eq_false hin] at y2
              have HR : Hid (GI w (wr.setCell ⟨g, e, none⟩ (.bool true)) g b0 box m zs.flatten (k + i + 1)) := by
                refine ⟨?_, seen_set HI3.out e HE.out, Up.set HI2.out.2.1 _ _ (by show w.heap.size ≤ g; have := HG.out.1; omega), fun j hj => ?_⟩
                · rw [Below.heap_setCell _ _ _ _ (by have h1 := HG.out.1; have h2 := HG.out.2; show b0 ≠ g; omega)]; exact HI2.out.1
                · by_cases ej : j = k + i
                  · subst ej; rw [HO.out, hnb, hcn]; rfl
                  · exact HI2.out.2.2 j (by omega)
              have hsm : k + i ≤ m := good_small m zs.flatten (k + i) (by have := (List.getElem?_eq_some_iff.1 HE.out).1; omega) HI2.out.2.2
              clear HI2 HO HE hin hcn HI3
              go_wp2_with fail
              refine Calls.mono (isNumberB _ _ true hnb _) ?_
              rintro e9 w9 ⟨rfl, rfl⟩
              go_wp2_with fail
              go_roundw
              case rel => exact ⟨i + 1, by omega, by go_num, by go_num, rfl, HR.out⟩
              case measure => simp [intOf]; omega
        · have hlt4 : ¬ (i : Int) < (q : Int) := by omega
          have hiq2 : i = q := by omega
          subst hiq2
          have HX2 : Hid (GI w wr g b0 box m zs.flatten (k + i)) := ⟨i1, i2, i3, i4⟩
          clear i1 i2 i3 i4
          go_wp2_with fail
          go_roundw
          case rel => exact ⟨z + 1, k + i, by omega, by go_num, rfl, rfl, HNx.out, HX2.out⟩
          case measure => simp [intOf]; omega
    · have hlt2 : ¬ (z : Int) < (n : Int) := by omega
      have HF : Hid (good m zs.flatten = k ∧ zs.flatten.length = k) := by
        have hzz : z = zs.length := by have := HN.out; omega
        have hkk : zs.flatten.length = k := by rw [HK.out, off, hzz, List.take_length]
        exact ⟨good_at m _ k (by omega) HX.out.2.2.2 (by omega), hkk⟩
      go_wp2
      rw [HP.out]
      refine ⟨?_, HX.out.2.2.1⟩
      rw [HF.out.1, HF.out.2]
      simp
end ST
end Go.Proofs.YtmpamcdobhiipaaGreatDoor
