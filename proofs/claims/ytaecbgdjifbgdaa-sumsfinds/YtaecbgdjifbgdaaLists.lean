/-
  Lists of bytes in memory: copies, two put one behind the other, two held against each other.
-/
import Derived.Test.YtaecbgdjifbgdaaRef
import Derived.Laws.AppendOwnNone
import Derived.OwnWalk
import Derived.Deep.QuietTactic
import Derived.BigQuiet
import Derived.WalkSmall
import Derived.Deep.MidRow
namespace Go.Proofs.Ytaecbgdjifbgdaa
open Go.RowKit

def bv (c : Nat) : Value := .int .u8 (c : Int)
def Owns (w : World) (base : Nat) (v : Value) (zs : List Nat) : Prop := w.ownsRow base 5 1 v zs.length (zs.map bv)
theorem Owns.lies {w : World} {base : Nat} {v : Value} {zs : List Nat} (h : Owns w base v zs) : Lies w v zs := by
  have hs : w.ownsRow base 5 1 v zs.length (zs.map bv) := h
  rcases hs.2 with ⟨rfl, hn⟩ | ⟨g, cap, cur, rfl, _⟩
  · exact ⟨none, 0, by rw [hn], fun _ => rfl, fun hz => absurd hn hz⟩
  · refine ⟨_, cap, rfl, (fun h => by cases h), fun _ => ⟨g, 0, rfl, fun i hi => ?_⟩⟩
    rw [Nat.zero_add, hs.cellAt i (by omega)]
    simp [List.getD, List.getElem?_eq_getElem hi, bv]
theorem bv_one (zs : List Nat) : ∀ u ∈ zs.map bv, u.oneCell' = true := by
  intro u hu
  obtain ⟨c, _, rfl⟩ := List.mem_map.1 hu
  rfl
theorem info5 : (Try.prog.info? 5).map (fun i => (i.zero, i.size, i.bytes)) = some (some (.int .u8 0), 1, 1) := by kernel_rfl
theorem lies_cells {w : World} {ad : Addr} {cap : Nat} {zs : List Nat} (h : Lies w (.slice (some ad) zs.length cap) zs) : ∀ j u, (zs.map bv)[j]? = some u → w.cell? (ad.add j) = some u := by
  intro j u hj
  have hjl : j < zs.length := by have := (List.getElem?_eq_some_iff.1 hj).1; simpa using this
  obtain ⟨a', cap', hv, _, h⟩ := h
  simp only [Value.slice.injEq] at hv
  obtain ⟨b, off, ha, hc⟩ := h (by omega)
  obtain ⟨e, _, _⟩ := hv
  rw [ha] at e
  simp only [Option.some.injEq] at e
  subst e
  rw [Addr.add_mid, hc j hjl, ← hj]
  simp [List.getD, List.getElem?_eq_getElem hjl, bv]
theorem lies_none {w : World} {len cap : Nat} {zs : List Nat} (h : Lies w (.slice none len cap) zs) : zs = [] := by
  obtain ⟨a', cap', hv, _, h⟩ := h
  simp only [Value.slice.injEq] at hv
  obtain ⟨e, _, _⟩ := hv
  apply List.eq_nil_of_length_eq_zero
  apply Classical.byContradiction
  intro hn
  obtain ⟨b, off, ha, _⟩ := h hn
  rw [← e] at ha
  cases ha
theorem lies_nocap {w : World} {len cap : Nat} {zs : List Nat} (h : Lies w (.slice none len cap) zs) : cap = 0 := by
  obtain ⟨a', cap', hv, hz, _⟩ := h
  simp only [Value.slice.injEq] at hv
  obtain ⟨e, _, e3⟩ := hv
  rw [e3]; exact hz e.symm
theorem up_grown {w W w' : World} {m base : Nat} {va : Value} {ys : List Value} (hO : W.ownsRow base 5 1 va m ys) (hU : Up w W) (hb : w.heap.size ≤ base)
    (hgrow : W.grownBy w' va.ownBlock) : Up w w' := by
  refine Below.grown hU hgrow hU.size ?_
  intro k hk
  have := hO.lt k hk
  omega
set_option maxHeartbeats 400000 in
theorem copyB (v : Value) (zs : List Nat) (w : World) (h : Lies w v zs) (hm : zs.length ≤ 4294967296) :
    Calls Try.prog 17 #[v] w fun e w' => ∃ u, e = .returned u ∧ Owns w' w.heap.size u zs ∧ Up w w' := by
  obtain ⟨i5, hi5, z0, z1, z2⟩ := info_parts info5
  obtain ⟨a, cap, hv, h'⟩ := h
  have HH : Hid (Lies w v zs) := ⟨a, cap, hv, h'⟩
  clear h'
  subst hv
  have hO : w.ownsRow w.heap.size 5 1 (.slice none 0 0) 0 [] := World.ownsRow_nil _ _ _ _
  cases a with
  | none =>
    obtain rfl := lies_none HH.out
    obtain rfl := lies_nocap HH.out
    go_enter Try.func17, Try.ntmps17
    go_wp2
    go_ret
    exact ⟨_, rfl, hO, Up.refl _⟩
  | some ad =>
    have HC : Hid (∀ j u, (zs.map bv)[j]? = some u → w.cell? (ad.add j) = some u) := lies_cells HH.out
    go_enter Try.func17, Try.ntmps17
    go_wp2_with (at_builtin; refine wpList_append_own _ rfl (.tmp 4) (.tmp 5) 22 rfl w.heap.size 5 i5 (.int .u8 0) 1 1 Try.underlying22 hi5 z0 z1 z2 rfl (by decide) _ _ _ rfl hO ad zs.length cap (zs.map bv) rfl (by simp) HC.out (bv_one zs) ?c3 ?c4 ?c5 ?_)
    case c3 => unfold maxLen; omega
    case c4 => omega
    case c5 => omega
    intro v' w' hown hgrow _
    have hown : w'.ownsRow w.heap.size 5 1 v' zs.length (zs.map bv) := by
      simpa using hown
    have hU := up_grown hO (Up.refl _) (Nat.le_refl _) hgrow
    go_wp2
    go_ret
    exact ⟨_, rfl, hown, hU⟩
theorem Owns.app {w : World} {base : Nat} {v : Value} {zs ys : List Nat} (h : w.ownsRow base 5 1 v (zs.length + ys.length) (zs.map bv ++ ys.map bv)) : Owns w base v (zs ++ ys) := by
  unfold Owns
  rw [List.length_append, List.map_append]
  exact h
set_option maxHeartbeats 400000 in
theorem joinedB (v u : Value) (zs ys : List Nat) (w : World) (hv : Lies w v zs) (hu : Lies w u ys) (hm : zs.length + ys.length ≤ 4294967296) :
    Calls Try.prog 25 #[v, u] w fun e w' => ∃ x, e = .returned x ∧ Owns w' w.heap.size x (zs ++ ys) ∧ Up w w' := by
  obtain ⟨i5, hi5, z0, z1, z2⟩ := info_parts info5
  obtain ⟨a, cap, hv', h1⟩ := hv
  have HV : Hid (Lies w v zs) := ⟨a, cap, hv', h1⟩
  obtain ⟨b, cap2, hu', h2⟩ := hu
  have HU : Hid (Lies w u ys) := ⟨b, cap2, hu', h2⟩
  clear h1 h2
  subst hv' hu'
  have hO : w.ownsRow w.heap.size 5 1 (.slice none 0 0) 0 [] := World.ownsRow_nil _ _ _ _
  cases a with
  | none =>
    obtain rfl := lies_none HV.out
    obtain rfl := lies_nocap HV.out
    cases b with
    | none =>
      obtain rfl := lies_none HU.out
      obtain rfl := lies_nocap HU.out
      go_enter Try.func25, Try.ntmps25
      go_wp2
      go_ret
      exact ⟨_, rfl, hO, Up.refl _⟩
    | some bd =>
      have HC : Hid (∀ j u, (ys.map bv)[j]? = some u → w.cell? (bd.add j) = some u) := lies_cells HU.out
      go_enter Try.func25, Try.ntmps25
      go_wp2_with (first
        | (at_builtin; refine wpList_append_own_none rfl (.tmp 6) (.tmp 7) 22 rfl w.heap.size 5 i5 1 Try.underlying22 hi5 _ _ _ rfl hO rfl ?_)
        | (at_builtin; refine wpList_append_own _ rfl (.tmp 9) (.tmp 10) 22 rfl w.heap.size 5 i5 (.int .u8 0) 1 1 Try.underlying22 hi5 z0 z1 z2 rfl (by decide) _ _ _ rfl hO bd ys.length cap2 (ys.map bv) rfl (by simp) HC.out (bv_one ys) ?c3 ?c4 ?c5 ?_))
      case c3 => unfold maxLen; simp at hm; omega
      case c4 => simp at hm; omega
      case c5 => omega
      intro v' w' hown hgrow _
      have hown : w'.ownsRow w.heap.size 5 1 v' ys.length (ys.map bv) := by simpa using hown
      have hU := up_grown hO (Up.refl _) (Nat.le_refl _) hgrow
      go_wp2
      go_ret
      exact ⟨_, rfl, hown, hU⟩
  | some ad =>
    have HC : Hid (∀ j u, (zs.map bv)[j]? = some u → w.cell? (ad.add j) = some u) := lies_cells HV.out
    go_enter Try.func25, Try.ntmps25
    go_wp2_with (at_builtin; refine wpList_append_own _ rfl (.tmp 6) (.tmp 7) 22 rfl w.heap.size 5 i5 (.int .u8 0) 1 1 Try.underlying22 hi5 z0 z1 z2 rfl (by decide) _ _ _ rfl hO ad zs.length cap (zs.map bv) rfl (by simp) HC.out (bv_one zs) ?c3 ?c4 ?c5 ?_)
    case c3 => unfold maxLen; omega
    case c4 => omega
    case c5 => omega
    intro v' w' hown hgrow _
    have hown : w'.ownsRow w.heap.size 5 1 v' zs.length (zs.map bv) := by simpa using hown
    have hU := up_grown hO (Up.refl _) (Nat.le_refl _) hgrow
    have HU' := HU.out.up hU
    have hsz := hU.size
    clear hgrow HC HV HU hO
    cases b with
    | none =>
      obtain rfl := lies_nocap HU'
      obtain rfl := lies_none HU'
      go_wp2_with (at_builtin; refine wpList_append_own_none rfl (.tmp 9) (.tmp 10) 22 rfl w.heap.size 5 i5 1 Try.underlying22 hi5 _ _ _ rfl hown rfl ?_)
      go_ret
      exact ⟨_, rfl, by rw [List.append_nil]; exact hown, hU⟩
    | some bd =>
      have HC : Hid (∀ j u, (ys.map bv)[j]? = some u → w'.cell? (bd.add j) = some u) := lies_cells HU'
      clear HU'
      go_wp2_with (at_builtin; refine wpList_append_own _ rfl (.tmp 9) (.tmp 10) 22 rfl w.heap.size 5 i5 (.int .u8 0) 1 1 Try.underlying22 hi5 z0 z1 z2 rfl (by decide) _ _ _ rfl hown bd ys.length cap2 (ys.map bv) rfl (by simp) HC.out (bv_one ys) ?c3 ?c4 ?c5 ?_)
      case c3 => unfold maxLen; omega
      case c4 => omega
      case c5 => exact hsz
      intro v2 w2 hown2 hgrow2 _
      have hU2 := up_grown hown hU (Nat.le_refl _) hgrow2
      have hR := Owns.app hown2
      go_wp2
      go_ret
      exact ⟨_, rfl, hR, hU2⟩
/- a text with its sum behind it -/
def four (s : Nat) : List Nat := [s % 256, s / 256 % 256, s / 65536 % 256, s / 16777216 % 256]
theorem four_bys (s : Nat) : Bys (four s) := Bys.of (by intro c hc; simp [four] at hc; omega)
set_option maxHeartbeats 1000000 in
theorem laidB (v : Value) (zs : List Nat) (w : World) (hv : Lies w v zs) (hb : Bys zs) (hm : zs.length ≤ 4294967290) :
    Calls Try.prog 26 #[v] w fun e w' => ∃ x, e = .returned x ∧ Owns w' w.heap.size x (zs ++ four (crc 0 zs)) ∧ Up w w' := by
  obtain ⟨i5, hi5, z0, z1, z2⟩ := info_parts info5
  obtain ⟨a, cap, hv', h1⟩ := hv
  have HV : Hid (Lies w v zs) := ⟨a, cap, hv', h1⟩
  clear h1
  subst hv'
  have HB : Hid (Bys zs) := hb
  have hs := crc_lt (s := 0) (by decide) hb
  obtain ⟨s, hse⟩ : ∃ s, s = crc 0 zs := ⟨_, rfl⟩
  rw [← hse] at hs ⊢
  have HSE : Hid (s = crc 0 zs) := hse
  clear hse
  have HF : Hid (∀ s, four s = [s % 256, s / 256 % 256, s / 65536 % 256, s / 16777216 % 256]) := fun _ => rfl
  clear hb
  go_enter Try.func26, Try.ntmps26
  go_wp2_with fail
  refine (copyB _ zs _ HV.out (by omega)).mono ?_
  rintro e w1 ⟨u1, rfl, ho1, y1⟩
  go_wp2_with fail
  refine (crcs u1 zs _ ho1.lies (by omega) HB.out).mono ?_
  rintro e w2 ⟨rfl, y2⟩
  rw [← HSE.out]
  have y12 := y1.trans y2
  clear ho1
  obtain ⟨c0, k0⟩ : ∃ c, c = s % 256 := ⟨_, rfl⟩
  obtain ⟨c1, k1⟩ : ∃ c, c = s / 256 % 256 := ⟨_, rfl⟩
  obtain ⟨c2, k2⟩ : ∃ c, c = s / 65536 % 256 := ⟨_, rfl⟩
  obtain ⟨c3, k3⟩ : ∃ c, c = s / 16777216 % 256 := ⟨_, rfl⟩
  have w0 : IntKind.u8.wrap (s : Int) = (c0 : Int) := by rw [IntKind.wrap_u8']; omega
  have w1' : IntKind.u8.wrap ((s : Int) / 256) = (c1 : Int) := by rw [IntKind.wrap_u8']; omega
  have w2' : IntKind.u8.wrap ((s : Int) / 65536) = (c2 : Int) := by rw [IntKind.wrap_u8']; omega
  have w3' : IntKind.u8.wrap ((s : Int) / 16777216) = (c3 : Int) := by rw [IntKind.wrap_u8']; omega
  have HF4 : Hid (four s = [c0, c1, c2, c3]) := by unfold Hid; rw [HF.out, k0, k1, k2, k3]
  clear k0 k1 k2 k3 HF
  go_wp2_with fail
  refine (copyB _ zs _ (HV.out.up y12) (by omega)).mono ?_
  rintro e w3 ⟨u3, rfl, ho3, y3⟩
  have hown : w3.ownsRow w2.heap.size 5 1 u3 zs.length (zs.map bv) := ho3
  have hsz := y3.size
  have hO2 : (w3.alloc (.cells #[.int .u8 (c0 : Int), .int .u8 (c1 : Int), .int .u8 (c2 : Int), .int .u8 (c3 : Int)] 5)).ownsRow w2.heap.size 5 1 u3 zs.length (zs.map bv) := hown.alloc _
  go_wp2_with (at_builtin; refine wpList_append_own _ rfl (.tmp 8) (.tmp 20) 22 rfl w2.heap.size 5 i5 (.int .u8 0) 1 1 Try.underlying22 hi5 z0 z1 z2 rfl (by decide) _ _ _ rfl hO2 ⟨w3.heap.size, 0, none⟩ 4 4 ([c0, c1, c2, c3].map bv) rfl rfl ?c1 (bv_one _) ?c3 ?c4 ?c5 ?_)
  case c1 =>
    intro j u hj
    rw [Addr.add_mid, Nat.zero_add, World.cell?_alloc_new, ← hj]
    rcases (by omega : j = 0 ∨ j = 1 ∨ j = 2 ∨ j = 3 ∨ 4 ≤ j) with rfl | rfl | rfl | rfl | h4
    · rfl
    · rfl
    · rfl
    · rfl
    · rw [Array.getElem?_eq_none (by simpa using h4), List.getElem?_eq_none (by simpa using h4)]
  case c3 => unfold maxLen; omega
  case c4 => omega
  case c5 => simp; omega
  intro v2 w4 hown2 hgrow2 _
  have hU2 := up_grown hO2 ((y12.trans y3).alloc _) y12.size hgrow2
  have hR : Owns w4 w2.heap.size v2 (zs ++ [c0, c1, c2, c3]) := Owns.app (ys := [c0, c1, c2, c3]) hown2
  rw [← HF4.out] at hR
  have hR2 : Owns w4 w.heap.size v2 (zs ++ four s) := by
    obtain ⟨q1, q2⟩ := hR
    refine ⟨q1, q2.imp id ?_⟩
    rintro ⟨g, cap, cur, e1, e2, r⟩
    exact ⟨g, cap, cur, e1, Nat.le_trans y12.size e2, r⟩
  go_wp2
  go_ret
  exact ⟨_, rfl, hR2, hU2⟩
end Go.Proofs.Ytaecbgdjifbgdaa
