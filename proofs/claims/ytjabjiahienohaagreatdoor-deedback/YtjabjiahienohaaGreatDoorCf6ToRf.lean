/-
  CopyEvents.
-/
import Derived.Test.YtjabjiahienohaaGreatDoorSzToCe6
import Derived.Test.YtjabjiahienohaaGreatDoorEl6ToKp6
import Derived.Test.YtjabjiahienohaaGreatDoorWhToCt
namespace Go.Proofs.YtjabjiahienohaaGreatDoor
open Go.RowKit
attribute [local go_sem ↓] Go.wp_at_zero Go.wp_at_succ

namespace DE
open Go.Proofs.YtjabjiahienohaaGreatDoor.ST
theorem infoEvB : (Tryz.prog.info? 30).map (fun i => (i.zero, i.size, i.bytes)) = some (some (.agg #[.int .i8 0, .int .i8 0, .int .i64 0, .int .i64 0, .int .i64 0, .int .i64 0, .int .i64 0, .int .i64 0, .int .i64 0, .int .i32 0, .int .i32 0, .slice none 0 0]), 12, 96) := by kernel_rfl
set_option maxRecDepth 100000 in
set_option maxHeartbeats 4000000 in
theorem copyEvents_ (v : Value) (l : List Ev) (w : World) (hv : EVS w v l) (hn : l.length ≤ 4294967296) (hl : ∀ r, r < l.length → (l.getD r dE).ord.length ≤ 4294967296) :
    Calls Tryz.prog 44 #[v] w (CpPost w fun W v' => EVO w.heap.size W v' l) := by
  obtain ⟨iT, hiT, z0, z1, z2⟩ := info_parts infoEvB
  obtain ⟨Post, hPost⟩ : ∃ P : Ending → World → Prop, P = CpPost w fun W v' => EVO w.heap.size W v' l := ⟨_, rfl⟩
  rw [← hPost]
  have HP : Hid (Post = CpPost w fun W v' => EVO w.heap.size W v' l) := hPost
  obtain ⟨a, c, rfl, -, hc⟩ := evs_at hv
  have HC : Hid _ := hc
  have HL : Hid _ := hl
  obtain ⟨n, hn0⟩ : ∃ n, n = l.length := ⟨_, rfl⟩
  have HN : Hid (n = l.length) := hn0
  rw [← hn0] at hn HC HL ⊢
  obtain ⟨B, hB⟩ : ∃ B, B = w.heap.size := ⟨_, rfl⟩
  have HB : Hid (B = w.heap.size) := hB
  clear hPost hv hc hl hn0 hB
  go_enter Tryz.func44, Tryz.ntmps44
  go_wp2_with fail
  go_loopw [3, 4] (fun s3 s4 W => ∃ (i : Nat) (va : Option Addr) (vc : Nat), i ≤ n ∧ s4 = .int .i64 i ∧ s3 = .slice va i vc ∧ EVO B W (.slice va i vc) (l.take i) ∧ Up w W) (fun _ s4 _ => n - (intOf s4).toNat)
  case atStart => exact ⟨0, none, 0, Nat.zero_le _, rfl, rfl, EVO.nil _ _, Up.refl _⟩
  case round =>
    obtain ⟨i, va, vc, hi, rfl, rfl, hz, hu⟩ := hrel
    have HZ : Hid (EVO B wr (.slice va i vc) (l.take i)) := hz
    have HU : Hid (Up w wr) := hu
    clear hz hu
    by_cases hlt : i < n
    · have hlt2 : (i : Int) < (n : Int) := by omega
      have HT : Hid (l.take (i + 1) = l.take i ++ [l.getD i dE] ∧ (l.take i).length = i) := ⟨take_more l i (by rw [← HN.out]; exact hlt), by rw [List.length_take, ← HN.out]; omega⟩
      obtain ⟨b3, o3, rfl, hb3, hrow⟩ := HC.out (by omega)
      obtain ⟨ra, rc, hcell, hil⟩ := hrow i hlt
      have hl1 := HL.out i hlt
      clear hrow
      generalize l.getD i dE = e at *
      obtain ⟨x0, x1, x2, x3, x4, x5, x6, x7, x8, x9, x10, x11⟩ := hcell wr HU.out
      have HK : Hid _ := copyEvent_ e _ wr (hil.up HU.out) hl1
      clear hcell hil
      unfold evv evc at HK
      go_wp2_with fail
      refine Calls.mono HK.out ?_
      rintro x w1 ⟨vn, rfl, hx, u1⟩
      clear HK x0 x1 x2 x3 x4 x5 x6 x7 x8 x9 x10 x11
      obtain ⟨xa, xc, hxa⟩ := row_val hx
      have HX : Hid (IRow B w1 vn e.ord) := own_less hx (by have := HU.out.size; have := HB.out; omega)
      have HU1 : Hid (Up wr w1) := u1
      clear hx u1
      subst hxa
      obtain ⟨vs, hv0, hz1, -⟩ := id HZ.out
      rw [HT.out.2] at hz1
      obtain ⟨x, hxd⟩ : ∃ x : Value, x = .slice xa e.ord.length xc := ⟨_, rfl⟩
      rw [← hxd] at HX
      obtain ⟨W2, hW2⟩ : ∃ W2, W2 = w1.alloc (.cells (evc e x) 30) := ⟨_, rfl⟩
      have hu2 : Up w1 W2 := by rw [hW2]; exact (Up.refl _).alloc _
      have hg2 : W2.heap[w1.heap.size]? = some (.cells (evc e x) 30 (0, 0)) := by rw [hW2]; exact heap_alloc_new _ _
      have HV : Hid (W2.ownsRow B 30 12 (.slice va i vc) i (evsC (l.take i) vs)) := row_up hz1 (HU1.out.trans hu2)
      have HM : Hid (∀ j u, (evc e x).toList[j]? = some u → W2.cell? ((⟨w1.heap.size, 0, none⟩ : Addr).add j) = some u) := by
        intro j u hj
        rw [Addr.add_mid, Nat.zero_add, evc_cells hg2 j, ← hj, Array.getElem?_toList]
      have HO : Hid (∀ u ∈ (evc e x).toList, u.oneCell' = true) := by
        have h9 := evc_one e xa e.ord.length xc
        rw [← hxd, Array.all_eq_true'] at h9
        intro u hu
        exact h9 u (by simpa using hu)
      have HS : Hid (B ≤ W2.heap.size) := by have h1 := HU.out.size; have h2 := HU1.out.size; have h3 := HB.out; have h4 := hu2.size; unfold Hid; omega
      have HZ2 : Hid (∀ v' w2, w2.ownsRow B 30 12 v' (i + 1) (evsC (l.take i) vs ++ (evc e x).toList) → W2.grownBy w2 (Value.slice va i vc).ownBlock → EVO B w2 v' (l.take (i + 1)) ∧ Up w w2) := by
        intro v' w2 h1 h2
        have hvs : ∀ vs', wr.ownsRow B 30 12 (.slice va i vc) i vs' → vs' = evsC (l.take i) vs := fun vs' h => row_same h hz1
        rw [HT.out.1]
        refine ⟨evo_more HZ.out (HU1.out.trans hu2) (row_up HX.out hu2) (fun xs h => by rw [HT.out.2] at h ⊢; rw [hvs xs h]; exact h1) h2, ?_⟩
        refine Below.grown (HU.out.trans (HU1.out.trans hu2)) h2 ?_ ?_
        · have := HS.out; have h3 := HB.out; omega
        · intro k hk
          have := hz1.lt k hk
          have h3 := HB.out; omega
      clear hz1 hu2 hg2
      unfold evc at hW2 HM HO HZ2
      subst hW2
      subst hxd
      go_wp2_with (at_builtin; go_loud (refine wpList_append_own _ (by rfl) (.tmp 11) (.tmp 17) 32 (by rfl) B 30 iT _ 12 96 Tryz.underlying32 hiT z0 z1 z2 (by rfl) (by decide) (.slice va i vc) i (evsC (l.take i) vs) (by rfl) HV.out ⟨w1.heap.size, 0, none⟩ 1 1 _ (by rfl) (by rfl) HM.out HO.out (by unfold maxLen; omega) (by omega) HS.out ?_); intro v' w2 hin hg1 _)
      obtain ⟨va', vc', hva⟩ := row_val hin
      have HF : Hid (EVO B w2 v' (l.take (i + 1)) ∧ Up w w2) := HZ2.out v' w2 hin hg1
      clear hin hg1 HZ2 HV HM HO HS HX HU1
      subst hva
      go_wp2
      go_roundw
      case rel => exact ⟨i + 1, va', vc', by omega, by go_num, rfl, HF.out.1, HF.out.2⟩
      case measure => simp [intOf]; omega
    · have hlt2 : ¬ (i : Int) < (n : Int) := by omega
      have hin : i = n := by omega
      subst hin
      go_wp2
      rw [HP.out]
      have h9 := HZ.out
      rw [HN.out, List.take_length, ← HN.out, HB.out] at h9
      exact ⟨_, rfl, h9, HU.out⟩
end DE
end Go.Proofs.YtjabjiahienohaaGreatDoor
/-
  A trace: the events that lead from one state to another, forward and back; no program.
-/
namespace Go.Proofs.YtjabjiahienohaaGreatDoor
open Go.RowKit

namespace DE
open Go.Proofs.YtjabjiahienohaaGreatDoor.ST
theorem repl_snoc : ∀ (l : List Ev) (s t : Stt) (i : Nat) (e : Ev), repl s l i = .inr t → (okB e && fitB t e) = true → repl s (l ++ [e]) i = .inr (behindS t e)
  | [], s, t, i, e, h, hf => by
    simp only [repl, Sum.inr.injEq] at h
    subst h
    show (if okB e && fitB s e then repl (behindS s e) [] (i + 1) else .inl i) = _
    rw [if_pos hf]
    rfl
  | x :: l, s, t, i, e, h, hf => by
    unfold repl at h
    split at h
    · rename_i hx
      show (if okB x && fitB s x then repl (behindS s x) (l ++ [e]) (i + 1) else .inl i) = _
      rw [if_pos hx]
      exact repl_snoc l _ t _ e h hf
    · cases h
theorem bck_snoc (l : List Ev) (e : Ev) : ∀ (n : Nat) (s : Stt), n ≤ l.length → bck (l ++ [e]) n s = bck l n s
  | 0, s, h => rfl
  | n + 1, s, h => by
    have e1 : (l ++ [e]).getD n dE = l.getD n dE := by rw [List.getD_eq_getElem?_getD, List.getElem?_append_left (by omega), ← List.getD_eq_getElem?_getD]
    unfold bck
    rw [e1, bck_snoc l e n _ (by omega)]
structure Tr (s : Stt) (l : List Ev) (t : Stt) : Prop where
  here : ff s = none
  there : ff t = none
  on : repl s l 0 = .inr t
  back : bck l l.length t = .inr s
  keeps : Keeps s t
  short : ∀ i, i < l.length → (l.getD i dE).ord.length ≤ 4294967296
theorem Tr.nil {s : Stt} (h : ff s = none) : Tr s [] s := ⟨h, h, rfl, rfl, Keeps.refl s, fun i hi => absurd hi (Nat.not_lt_zero i)⟩
theorem Tr.more {s t : Stt} {l : List Ev} {e : Ev} (h : Tr s l t) (hf : (okB e && fitB t e) = true) (hn : e.ord.length ≤ 4294967296) : Tr s (l ++ [e]) (behindS t e) := by
  have hk := hf
  unfold okB at hk
  simp only [Bool.and_eq_true] at hk
  obtain ⟨b1, b2⟩ := there_back h.there hk.1.1 hk.2
  refine ⟨h.here, ok_behind h.there hf, repl_snoc l s t 0 e h.on hf, ?_, h.keeps.trans (keeps_behind t e), fun i hi => ?_⟩
  · have e1 : (l ++ [e]).getD l.length dE = e := by rw [List.getD_eq_getElem?_getD, List.getElem?_append_right (by omega)]; simp
    have hok : okB e = true := by rw [Bool.and_eq_true] at hf; exact hf.1
    rw [List.length_append, List.length_singleton]
    show (if okB ((l ++ [e]).getD l.length dE) && leadB (behindS t e) ((l ++ [e]).getD l.length dE) then bck (l ++ [e]) l.length (aheadS (behindS t e) ((l ++ [e]).getD l.length dE)) else .inl l.length) = _
    rw [e1, hok, b1, b2, bck_snoc l e _ _ (Nat.le_refl _)]
    exact h.back
  · rw [List.length_append, List.length_singleton] at hi
    by_cases hj : i < l.length
    · rw [List.getD_eq_getElem?_getD, List.getElem?_append_left hj, ← List.getD_eq_getElem?_getD]
      exact h.short i hj
    · obtain rfl : i = l.length := by omega
      rw [List.getD_eq_getElem?_getD, List.getElem?_append_right (by omega)]
      simpa using hn
theorem Tr.rep {s t : Stt} {l : List Ev} (h : Tr s l t) : repO s l = some (.inr t) := by unfold repO; rw [if_pos h.here, h.on]
theorem Tr.bac {s t : Stt} {l : List Ev} (h : Tr s l t) : bckO t l = some (.inr s) := by unfold bckO; rw [if_pos h.there, h.back]
end DE
end Go.Proofs.YtjabjiahienohaaGreatDoor
/-
  The document's small questions, and its entries.
-/
namespace Go.Proofs.YtjabjiahienohaaGreatDoor
open Go.RowKit
attribute [local go_sem ↓] Go.wp_at_zero Go.wp_at_succ

namespace ST
def fromB (x lo hi : Int) : Bool := decide (lo ≤ x) && decide (x ≤ hi)
theorem from_num (x : Int) (n : Nat) : fromB x 0 ((n : Int) - 1) = numB x n := by
  simp only [fromB, numB]
  congr 1
  apply decide_eq_decide.2
  omega
set_option maxHeartbeats 1000000 in
theorem rfrom_ (x lo hi : Int) (w : World) : Calls Tryz.prog 209 #[.int .i64 x, .int .i64 lo, .int .i64 hi] w fun e w' => e = .returned (.bool (fromB x lo hi)) ∧ w' = w := by
  by_cases h1 : lo ≤ x
  · by_cases h2 : x ≤ hi
    · go_enter Tryz.func209, Tryz.ntmps209
      go_wp2
      go_ret
      exact ⟨by simp [fromB, h1, h2], rfl⟩
    · go_enter Tryz.func209, Tryz.ntmps209
      go_wp2
      go_ret
      exact ⟨by simp [fromB]; omega, rfl⟩
  · go_enter Tryz.func209, Tryz.ntmps209
    go_wp2
    go_ret
    exact ⟨by simp [fromB]; omega, rfl⟩
theorem rfromB (x lo hi : Int) (b : Bool) (h : fromB x lo hi = b) (w : World) : Calls Tryz.prog 209 #[.int .i64 x, .int .i64 lo, .int .i64 hi] w fun e w' => e = .returned (.bool b) ∧ w' = w := by subst h; exact rfrom_ x lo hi w
set_option maxHeartbeats 1000000 in
theorem rStat_ (n : Int) (w : World) : Calls Tryz.prog 210 #[.int .i32 n] w fun e w' => e = .returned (.bool (statB n)) ∧ w' = w := by
  by_cases h1 : -1000000000 ≤ n
  · by_cases h2 : n ≤ 1000000000
    · go_enter Tryz.func210, Tryz.ntmps210
      go_wp2
      go_ret
      exact ⟨by simp [statB, h1, h2], rfl⟩
    · go_enter Tryz.func210, Tryz.ntmps210
      go_wp2
      go_ret
      exact ⟨by simp [statB]; omega, rfl⟩
  · go_enter Tryz.func210, Tryz.ntmps210
    go_wp2
    go_ret
    exact ⟨by simp [statB]; omega, rfl⟩
theorem rStatB (n : Int) (b : Bool) (h : statB n = b) (w : World) : Calls Tryz.prog 210 #[.int .i32 n] w fun e w' => e = .returned (.bool b) ∧ w' = w := by subst h; exact rStat_ n w
theorem crd_ref (c : Crd) (n : Nat) : crdB n c = (fromB c.kind 0 255 && fromB c.owner 0 ((n : Int) - 1) && statB c.power && statB c.health && statB c.damage && statB c.marks) := by
  rw [from_num]
  have e : fromB c.kind 0 255 = numB c.kind 256 := from_num c.kind 256
  rw [e, crdB, crd0B]
  cases numB c.kind 256 <;> cases numB c.owner n <;> cases statB c.power <;> cases statB c.health <;> cases statB c.damage <;> cases statB c.marks <;> rfl
set_option maxHeartbeats 4000000 in
theorem rcard_ (c : Crd) (n : Nat) (hn : n ≤ 4294967296) (w : World) : Calls Tryz.prog 211 #[cag c, .int .i64 n] w fun e w' => e = .returned (.bool (crdB n c)) ∧ Up w w' := by
  obtain ⟨R, hR⟩ : ∃ R, R = crdB n c := ⟨_, rfl⟩
  rw [← hR]
  have HR : Hid (R = (fromB c.kind 0 255 && fromB c.owner 0 ((n : Int) - 1) && statB c.power && statB c.health && statB c.damage && statB c.marks)) := by unfold Hid; rw [hR, crd_ref]
  clear hR
  unfold cag
  cases h0 : fromB c.kind 0 255
  · go_enter Tryz.func211, Tryz.ntmps211
    go_wp2_with fail
    refine Calls.mono (rfromB _ 0 255 false h0 _) ?_
    rintro e w1 ⟨rfl, rfl⟩
    go_wp2
    go_ret
    exact ⟨by rw [HR.out]; simp [h0], (Up.refl _).alloc _⟩
  · cases h1 : fromB c.owner 0 ((n : Int) - 1)
    · go_enter Tryz.func211, Tryz.ntmps211
      go_wp2_with fail
      refine Calls.mono (rfromB _ 0 255 true h0 _) ?_
      rintro e w1 ⟨rfl, rfl⟩
      go_wp2_with fail
      refine Calls.mono (rfromB _ 0 _ false h1 _) ?_
      rintro e w2 ⟨rfl, rfl⟩
      go_wp2
      go_ret
      exact ⟨by rw [HR.out]; simp [h1], (Up.refl _).alloc _⟩
    · cases h2 : statB c.power
      · go_enter Tryz.func211, Tryz.ntmps211
        go_wp2_with fail
        refine Calls.mono (rfromB _ 0 255 true h0 _) ?_
        rintro e w1 ⟨rfl, rfl⟩
        go_wp2_with fail
        refine Calls.mono (rfromB _ 0 _ true h1 _) ?_
        rintro e w2 ⟨rfl, rfl⟩
        go_wp2_with fail
        refine Calls.mono (rStatB _ false h2 _) ?_
        rintro e w3 ⟨rfl, rfl⟩
        go_wp2
        go_ret
        exact ⟨by rw [HR.out]; simp [h2], (Up.refl _).alloc _⟩
      · cases h3 : statB c.health
        · go_enter Tryz.func211, Tryz.ntmps211
          go_wp2_with fail
          refine Calls.mono (rfromB _ 0 255 true h0 _) ?_
          rintro e w1 ⟨rfl, rfl⟩
          go_wp2_with fail
          refine Calls.mono (rfromB _ 0 _ true h1 _) ?_
          rintro e w2 ⟨rfl, rfl⟩
          go_wp2_with fail
          refine Calls.mono (rStatB _ true h2 _) ?_
          rintro e w3 ⟨rfl, rfl⟩
          go_wp2_with fail
          refine Calls.mono (rStatB _ false h3 _) ?_
          rintro e w4 ⟨rfl, rfl⟩
          go_wp2
          go_ret
          exact ⟨by rw [HR.out]; simp [h3], (Up.refl _).alloc _⟩
        · cases h4 : statB c.damage
          · go_enter Tryz.func211, Tryz.ntmps211
            go_wp2_with fail
            refine Calls.mono (rfromB _ 0 255 true h0 _) ?_
            rintro e w1 ⟨rfl, rfl⟩
            go_wp2_with fail
            refine Calls.mono (rfromB _ 0 _ true h1 _) ?_
            rintro e w2 ⟨rfl, rfl⟩
            go_wp2_with fail
            refine Calls.mono (rStatB _ true h2 _) ?_
            rintro e w3 ⟨rfl, rfl⟩
            go_wp2_with fail
            refine Calls.mono (rStatB _ true h3 _) ?_
            rintro e w4 ⟨rfl, rfl⟩
            go_wp2_with fail
            refine Calls.mono (rStatB _ false h4 _) ?_
            rintro e w5 ⟨rfl, rfl⟩
            go_wp2
            go_ret
            exact ⟨by rw [HR.out]; simp [h4], (Up.refl _).alloc _⟩
          · cases h5 : statB c.marks
            · go_enter Tryz.func211, Tryz.ntmps211
              go_wp2_with fail
              refine Calls.mono (rfromB _ 0 255 true h0 _) ?_
              rintro e w1 ⟨rfl, rfl⟩
              go_wp2_with fail
              refine Calls.mono (rfromB _ 0 _ true h1 _) ?_
              rintro e w2 ⟨rfl, rfl⟩
              go_wp2_with fail
              refine Calls.mono (rStatB _ true h2 _) ?_
              rintro e w3 ⟨rfl, rfl⟩
              go_wp2_with fail
              refine Calls.mono (rStatB _ true h3 _) ?_
              rintro e w4 ⟨rfl, rfl⟩
              go_wp2_with fail
              refine Calls.mono (rStatB _ true h4 _) ?_
              rintro e w5 ⟨rfl, rfl⟩
              go_wp2_with fail
              refine Calls.mono (rStatB _ false h5 _) ?_
              rintro e w6 ⟨rfl, rfl⟩
              go_wp2
              go_ret
              exact ⟨by rw [HR.out]; simp [h5], (Up.refl _).alloc _⟩
            · go_enter Tryz.func211, Tryz.ntmps211
              go_wp2_with fail
              refine Calls.mono (rfromB _ 0 255 true h0 _) ?_
              rintro e w1 ⟨rfl, rfl⟩
              go_wp2_with fail
              refine Calls.mono (rfromB _ 0 _ true h1 _) ?_
              rintro e w2 ⟨rfl, rfl⟩
              go_wp2_with fail
              refine Calls.mono (rStatB _ true h2 _) ?_
              rintro e w3 ⟨rfl, rfl⟩
              go_wp2_with fail
              refine Calls.mono (rStatB _ true h3 _) ?_
              rintro e w4 ⟨rfl, rfl⟩
              go_wp2_with fail
              refine Calls.mono (rStatB _ true h4 _) ?_
              rintro e w5 ⟨rfl, rfl⟩
              go_wp2_with fail
              refine Calls.mono (rStatB _ true h5 _) ?_
              rintro e w6 ⟨rfl, rfl⟩
              go_wp2
              go_ret
              exact ⟨by rw [HR.out]; simp [h0, h1, h2, h3, h4, h5], (Up.refl _).alloc _⟩
/- the entries -/
theorem off_le9 (zs : List (List Int)) (z : Nat) : (zs.take z).flatten.length ≤ zs.flatten.length := by
  have : zs.flatten = (zs.take z).flatten ++ (zs.drop z).flatten := by rw [← List.flatten_append, List.take_append_drop]
  rw [this, List.length_append]
  omega
theorem ivs_app9 (a b : List Int) : ivs (a ++ b) = ivs a ++ ivs b := by simp [ivs]
theorem off_flat (zs : List (List Int)) (i : Nat) (hi : i < zs.length) : (zs.take (i + 1)).flatten = (zs.take i).flatten ++ zs.getD i [] := by
  rw [List.take_add_one, List.getElem?_eq_getElem hi, List.flatten_append, List.getD_eq_getElem?_getD, List.getElem?_eq_getElem hi]
  simp
set_option maxRecDepth 100000 in
set_option maxHeartbeats 4000000 in
theorem entries_ (v : Value) (s : Stt) (w : World) (hs : StL w v s) (hz : s.zs.length ≤ 4294967296) (hfl : (flat s).length ≤ 4294967296) (hl : ∀ r, r < s.zs.length → (s.zs.getD r []).length ≤ 4294967296) :
    Calls Tryz.prog 212 #[v] w (CpPost w fun W v' => IRow w.heap.size W v' (flat s)) := by
  obtain ⟨iT, hiT, i0, i1, i2⟩ := info_parts infoI
  obtain ⟨Post, hPost⟩ : ∃ P : Ending → World → Prop, P = CpPost w fun W v' => IRow w.heap.size W v' (flat s) := ⟨_, rfl⟩
  rw [← hPost]
  have HP : Hid (Post = CpPost w fun W v' => IRow w.heap.size W v' (flat s)) := hPost
  obtain ⟨vp, vc, vz, rfl, -, -, h3⟩ := hs
  obtain ⟨a3, k3, rfl, -, c3⟩ := zl_at h3
  have HC : Hid _ := c3
  have HL : Hid _ := hl
  have HFl : Hid (∀ i, i < s.zs.length → (s.zs.take i).flatten.length + (s.zs.getD i []).length ≤ 4294967296) := fun i hi => by
    have h1 := flat_next s.zs i hi
    have h2 := off_le9 s.zs (i + 1)
    unfold flat at hfl
    omega
  obtain ⟨n, hn0⟩ : ∃ n, n = s.zs.length := ⟨_, rfl⟩
  have HN : Hid (n = s.zs.length) := hn0
  rw [← hn0] at hz HC HL HFl ⊢
  clear hPost h3 c3 hl hfl hn0
  unfold sv
  obtain ⟨W0, hW0⟩ : ∃ W, W = w.alloc (.cells #[vp, vc, .slice a3 n k3, .int .i32 s.turn, .int .i64 s.whose, .int .i8 s.fin, .int .i64 s.winner] 27) := ⟨_, rfl⟩
  have HW0 : Hid (Up w W0 ∧ W0.heap[w.heap.size]? = some (.cells #[vp, vc, .slice a3 n k3, .int .i32 s.turn, .int .i64 s.whose, .int .i8 s.fin, .int .i64 s.winner] 27 (0, 0)) ∧ W0.heap.size = w.heap.size + 1) := ⟨by rw [hW0]; exact (Up.refl _).alloc _, by rw [hW0]; exact heap_alloc_new w _, by rw [hW0]; simp⟩
  go_enter Tryz.func212, Tryz.ntmps212
  go_wp2_with fail
  rw [← hW0]
  clear hW0
  go_loopw [3, 4] (fun s3 s4 W => ∃ (i : Nat) (va : Option Addr) (vk : Nat), i ≤ n ∧ s4 = .int .i64 i ∧ s3 = .slice va (s.zs.take i).flatten.length vk ∧ W.ownsRow W0.heap.size 3 1 (.slice va (s.zs.take i).flatten.length vk) (s.zs.take i).flatten.length (ivs (s.zs.take i).flatten) ∧ Up W0 W) (fun _ s4 _ => n - (intOf s4).toNat)
  case atStart => exact ⟨0, none, 0, Nat.zero_le _, rfl, rfl, World.ownsRow_nil _ _ _ _, Up.refl _⟩
  case round =>
    obtain ⟨i, va, vk, hi, rfl, rfl, hz9, hu⟩ := hrel
    have HZ : Hid _ := hz9
    have HU : Hid (Up W0 wr) := hu
    clear hz9 hu
    have y2 : wr.cell? ⟨w.heap.size, 2, none⟩ = some (.slice a3 n k3) := HU.out.cell (seven_cells HW0.out.2.1).2.2.1
    by_cases hlt : i < n
    · have hlt2 : (i : Int) < (n : Int) := by omega
      obtain ⟨b3, o3, rfl, hrow⟩ := HC.out (by omega)
      obtain ⟨ra, rc, hcell, hil⟩ := hrow i hlt
      have x1 := hcell wr (HW0.out.1.trans HU.out)
      have hb := HFl.out i hlt
      have HIL : Hid (LC wr (.slice ra (s.zs.getD i []).length rc) 1 (s.zs.getD i []).length (ivs (s.zs.getD i []))) := hil.up (HW0.out.1.trans HU.out)
      have HOf : Hid ((s.zs.take (i + 1)).flatten = (s.zs.take i).flatten ++ s.zs.getD i []) := off_flat s.zs i (by rw [← HN.out]; exact hlt)
      clear hcell hrow hil
      generalize s.zs.getD i [] = r at x1 hb HIL HOf
      generalize (s.zs.take i).flatten = p at hb HOf HZ ⊢
      have HSz : Hid (W0.heap.size ≤ wr.heap.size) := HU.out.size
      go_wp2_with (at_builtin; (refine wpList_append_lc (by rfl) (.tmp 12) (.tmp 17) 28 (by rfl) W0.heap.size 3 iT (.int .i64 0) 1 8 Tryz.underlying28 hiT i0 i1 i2 (by rfl) (by decide) (.slice va p.length vk) p.length (ivs p) (by rfl) HZ.out (.slice ra r.length rc) r.length (ivs r) (by rfl) HIL.out (ivs_one _) (by unfold maxLen; omega) (by omega) HSz.out ?_; intro v5 w5 hin hg1; have u5 : Up W0 w5 := (by refine Below.grown HU.out hg1 HSz.out ?_; intro k hk; exact (World.ownsRow.lt HZ.out k hk).1); obtain ⟨xa5, xk5, hx5⟩ := row_val hin; have HI5 : Hid (w5.ownsRow W0.heap.size 3 1 v5 (p.length + r.length) (ivs (p ++ r)) ∧ Up W0 w5) := (by refine ⟨?_, u5⟩; rw [ivs_app9]; exact hin); subst hx5; clear hin hg1 u5))
      go_roundw
      case rel =>
        refine ⟨i + 1, xa5, xk5, by omega, by go_num, ?_, ?_, HI5.out.2⟩
        · rw [HOf.out, List.length_append]
        · rw [HOf.out, List.length_append]; exact HI5.out.1
      case measure => simp [intOf]; omega
    · have hlt2 : ¬ (i : Int) < (n : Int) := by omega
      have hfl : (s.zs.take i).flatten = flat s := by rw [List.take_of_length_le (by rw [← HN.out]; omega)]; rfl
      rw [hfl] at HZ ⊢
      clear hfl
      go_wp2
      rw [HP.out]
      exact ⟨_, rfl, own_less HZ.out (by rw [HW0.out.2.2]; omega), HW0.out.1.trans HU.out⟩
end ST
end Go.Proofs.YtjabjiahienohaaGreatDoor
