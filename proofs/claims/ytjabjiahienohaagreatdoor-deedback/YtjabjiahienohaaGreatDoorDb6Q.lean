/-
  DeedBack: a trace of deeds is replayed and taken back.
-/
import Derived.Test.YtjabjiahienohaaGreatDoorSzToCe6
import Derived.Test.YtjabjiahienohaaGreatDoorCf6ToRf
import Derived.Test.YtjabjiahienohaaGreatDoorSk6Q
import Derived.Test.YtjabjiahienohaaGreatDoorOpl6ToEg
namespace Go.Proofs.YtjabjiahienohaaGreatDoor
open Go.RowKit
attribute [local go_sem ↓] Go.wp_at_zero Go.wp_at_succ

namespace DE
open Go.Proofs.YtjabjiahienohaaGreatDoor.ST
theorem SO.row {base : Nat} {W : World} {v : Value} {s : Stt} (h : SO base W v s) : ∃ C : Array Value, v = .agg C ∧ C.size = 7 ∧ C.all (·.oneCell') = true := by
  obtain ⟨vp, vc, vz, hv, h1, h2, vs, h3, -⟩ := h
  obtain ⟨a1, k1, rfl⟩ := row_val h1
  obtain ⟨a2, k2, rfl⟩ := row_val h2
  obtain ⟨a3, k3, rfl⟩ := row_val h3
  unfold sv at hv
  exact ⟨_, hv, rfl, by simp [Value.oneCell']⟩
theorem SO.setRow {w : World} {base g : Nat} {v : Value} {s : Stt} {old C : Array Value} {fr : Nat × Nat} (h : SO base w v s) (hg : w.heap[g]? = some (.cells old 27 fr)) : SO base (w.setRow g C) v s := by
  obtain ⟨vp, vc, vz, hv, h1, h2, vs, h3, h4⟩ := h
  exact ⟨vp, vc, vz, hv, row_setRow h1 hg (by decide), row_setRow h2 hg (by decide), vs, row_setRow h3 hg (by decide), fun i hi => row_setRow (h4 i hi) hg (by decide)⟩
theorem EVO.setRow {w : World} {base g : Nat} {v : Value} {l : List Ev} {old C : Array Value} {fr : Nat × Nat} (h : EVO base w v l) (hg : w.heap[g]? = some (.cells old 27 fr)) : EVO base (w.setRow g C) v l := by
  obtain ⟨vs, h0, h1, h2⟩ := h
  exact ⟨vs, h0, row_setRow h1 hg (by decide), fun i hi => row_setRow (h2 i hi) hg (by decide)⟩
theorem evs_nil0 (W : World) : EVS W (.slice none 0 0) [] := ⟨[], ⟨rfl, none, 0, rfl, Nat.le_refl _, fun h => absurd rfl h⟩, fun i hi => absurd hi (Nat.not_lt_zero i)⟩
theorem eqS_self0 (s : Stt) : eqS s s = true := by simp [eqS]
def Do7 (W : World) (b o : Nat) (d : DoT) (vo : Value) : Prop :=
  W.cell? ⟨b, o, none⟩ = some (.int .i64 d.kind) ∧ W.cell? ⟨b, o + 1, none⟩ = some (.int .i64 d.number) ∧ W.cell? ⟨b, o + 2, none⟩ = some (.int .i64 d.zone) ∧ W.cell? ⟨b, o + 3, none⟩ = some (.bool d.first) ∧
  W.cell? ⟨b, o + 4, none⟩ = some (.int .i8 d.field) ∧ W.cell? ⟨b, o + 5, none⟩ = some (.int .i64 d.by_) ∧ W.cell? ⟨b, o + 6, none⟩ = some vo
def dD : DoT × Value := (⟨0, 0, 0, false, 0, 0, []⟩, nl)
theorem dos_at {w : World} {v : Value} {xs : List (DoT × Value)} (h : DOS w v xs) : ∃ a cap, v = .slice a xs.length cap ∧ (xs.length ≠ 0 → ∃ b off, a = some ⟨b, off, none⟩ ∧ ∀ i, i < xs.length → ∃ d oa oc, (∀ W, Up w W → Do7 W b (off + i * 7) d (.slice oa d.ord.length oc)) ∧ IL w (.slice oa d.ord.length oc) d.ord ∧ d.ord.length ≤ 140737488355328 ∧ -9223372036854775808 ≤ d.by_ ∧ d.by_ ≤ 9223372036854775807) := by
  obtain ⟨h1, h2⟩ := h
  obtain ⟨a, cap, hv, -, h⟩ := lc_at h1
  refine ⟨a, cap, hv, fun hn => ?_⟩
  obtain ⟨b, off, ha, hb, hcell⟩ := h hn
  refine ⟨b, off, ha, fun i hi => ?_⟩
  have hm : xs.getD i dD ∈ xs := by rw [List.getD_eq_getElem?_getD, List.getElem?_eq_getElem hi]; exact List.getElem_mem hi
  obtain ⟨hI, hN, hB⟩ := h2 _ hm
  obtain ⟨oa, oc, hvo, -, -⟩ := il_at hI
  refine ⟨(xs.getD i dD).1, oa, oc, fun W hu => ?_, by rw [hvo] at hI; exact hI, hN, bounds_i64 hB⟩
  have k : ∀ j, j < 7 → W.cell? ⟨b, off + (i * 7 + j), none⟩ = (doc (xs.getD i dD).1 (xs.getD i dD).2)[j]? := fun j hj => by
    rw [hcell W hu (i * 7 + j) (by omega), flat_get doF 7 (fun _ => rfl) dD xs i j hi hj]
    unfold doF
    rw [Array.getElem?_toList]
  rw [hvo] at k
  exact ⟨k 0 (by decide), k 1 (by decide), k 2 (by decide), k 3 (by decide), k 4 (by decide), k 5 (by decide), k 6 (by decide)⟩
def RpT (t : Stt) (w : World) (x : Ending) (w' : World) : Prop := ∃ C : Array Value, x = .returned (.tuple #[.agg C, .int .i64 0, .int .i64 0]) ∧ C.size = 7 ∧ C.all (·.oneCell') = true ∧ SOA w.heap.size w' (.agg C) t ∧ Up w w'
theorem rpt_of {w : World} {t : Stt} {x : Ending} {w' : World} (h : RepV w (some (.inr t)) x w') : RpT t w x w' := by
  obtain ⟨v', h1, h2, h3⟩ := h
  obtain ⟨C, rfl, hC1, hC2⟩ := SOA.row h2
  exact ⟨C, h1, hC1, hC2, h2, h3⟩
theorem keep_grown {W w2 : World} {row : Option Nat} (hg : W.grownBy w2 row) {k : Nat} {o : Obj} (h : W.heap[k]? = some o) (hne : some k ≠ row) : w2.heap[k]? = some o := by
  rw [hg.block k (Array.getElem?_eq_some_iff.1 h).1 hne]
  exact h
theorem own_ne {W : World} {base e s n k : Nat} {v : Value} {xs : List Value} {cur : Array Value} {t : TypeId} (h : W.ownsRow base e s v n xs) (hk : W.heap[k]? = some (.cells cur t (0, 0))) (ht : t ≠ e) : some k ≠ v.ownBlock := by
  rcases h.2 with ⟨rfl, -⟩ | ⟨g, cap, c, rfl, -, hg, -⟩
  · simp [Value.ownBlock]
  · simp only [Value.ownBlock, ne_eq, Option.some.injEq]
    rintro rfl
    rw [hg] at hk
    simp only [Option.some.injEq, Obj.cells.injEq] at hk
    exact ht hk.2.1.symm
theorem so_grown {W w2 : World} {base b n : Nat} {v x : Value} {s : Stt} {xs : List Value} (h : SO base W v s) (hg : W.grownBy w2 x.ownBlock) (hx : W.ownsRow b 30 12 x n xs) : SO base w2 v s := by
  obtain ⟨vp, vc, vz, hv, h1, h2, vs, h3, h4⟩ := h
  exact ⟨vp, vc, vz, hv, World.ownsRow.kept h1 hg (row_apart h1 hx (by decide)), World.ownsRow.kept h2 hg (row_apart h2 hx (by decide)), vs, World.ownsRow.kept h3 hg (row_apart h3 hx (by decide)), fun i hi => World.ownsRow.kept (h4 i hi) hg (row_apart (h4 i hi) hx (by decide))⟩
/- what stands in memory between the deeds -/
def BkI (w W : World) (p : Nat) (A : Array Value) (s : Stt) (i : Nat) (s6 : Value) : Prop := ∃ (L : List Ev) (t : Stt) (C : Array Value) (ta : Option Addr) (tc : Nat), s6 = .slice ta L.length tc ∧ L.length ≤ i ∧ EVO w.heap.size W (.slice ta L.length tc) L ∧ Tr s L t ∧ W.heap[p]? = some (.cells C 27 (0, 0)) ∧ C.size = 7 ∧ C.all (·.oneCell') = true ∧ SO w.heap.size W (.agg C) t ∧ W.heap[w.heap.size]? = some (.cells A 27 (0, 0)) ∧ Up w W
set_option maxRecDepth 100000 in
set_option maxHeartbeats 8000000 in
theorem backW (v vs : Value) (s : Stt) (xs : List (DoT × Value)) (w : World) (hv : StL w v s) (hf : Far s) (hd : DOS w vs xs) :
    Calls Tryz.prog 8 #[v, vs] w fun x w' => x = .returned (.bool true) ∧ Up w w' := by
  have HLV : Hid (∀ W, Calls Tryz.prog 21 #[] W fun x w' => x = .returned (.bool true) ∧ Up W w') := lives_
  have HST : Hid (StL w v s) := hv
  have HBY : Hid (∀ W, Up w W → Calls Tryz.prog 9 #[v, .slice none 0 0] W fun x w' => x = .returned (.bool (decide (2147483647 < lenS s))) ∧ Up W w') := fun W u => by
    have h9 := beyond_ v _ s [] W (hv.up u) hf (evs_nil0 W) ⟨by simp, fun r hr => absurd hr (Nat.not_lt_zero r)⟩
    exact h9
  obtain ⟨da, dk, rfl, hdc⟩ := dos_at hd
  have HDC : Hid _ := hdc
  obtain ⟨n, hn⟩ : ∃ n, n = xs.length := ⟨_, rfl⟩
  rw [← hn] at HDC ⊢
  obtain ⟨vp, vc, vz, hvv, h1, h2, h3⟩ := hv
  obtain ⟨a1, k1, rfl, -, -⟩ := lc_at h1
  obtain ⟨a2, k2, rfl, -, -⟩ := lc_at h2
  obtain ⟨a3, k3, rfl, -, -⟩ := zl_at h3
  unfold sv at hvv
  clear h1 h2 h3 hd hdc hn
  obtain ⟨A, hA0⟩ : ∃ A : Array Value, A = #[.slice a1 s.ps.length k1, .slice a2 s.cs.length k2, .slice a3 s.zs.length k3, .int .i32 s.turn, .int .i64 s.whose, .int .i8 s.fin, .int .i64 s.winner] := ⟨_, rfl⟩
  have hA1 : A.size = 7 := by rw [hA0]; rfl
  rw [← hA0] at hvv
  have HAV : Hid (Value.agg A = v) := hvv.symm
  have hA : (w.alloc (.cells A 27)).heap[w.heap.size]? = some (.cells A 27 (0, 0)) := heap_alloc_new _ _
  have HU : Up w (w.alloc (.cells A 27)) := (Up.refl _).alloc _
  rw [hvv] at HBY ⊢
  clear hvv hA0
  by_cases hlong : 2147483647 < lenS s
  · rw [decide_eq_true hlong] at HBY
    clear hlong
    go_enter Tryz.func8, Tryz.ntmps8
    go_wp2_with ((refine wpList_load_row (by rfl) 27 (.tmp 2) (by rfl) w.heap.size (by rfl) 27 A (0, 0) _ hA Tryz.underlying27 (by rfl) (by rw [hA1]; exact infoSt) ?_))
    refine Calls.mono (HBY.out _ HU) ?_
    rintro r W2 ⟨rfl, u2⟩
    have HZ : Hid (Up w W2) := HU.trans u2
    clear u2 HU hA
    go_wp2
    go_ret
    exact ⟨rfl, HZ.out⟩
  · rw [decide_eq_false hlong] at HBY
    have HSM : Hid (Small s) := small_of (by omega)
    have HMA : Hid (∀ W, Up w W → Calls Tryz.prog 40 #[.agg A] W fun r w' => r = .returned (.bool (decide (ff s = none))) ∧ Up W w') := fun W u => may_ (.agg A) s W (by rw [HAV.out]; exact HST.out.up u) HSM.out
    clear hlong
    by_cases hlen : 4096 < n
    · have hlen2 : (4096 : Int) < (n : Int) := by omega
      have hlen3 : decide ((4096 : Int) < (n : Int)) = true := decide_eq_true hlen2
      go_enter Tryz.func8, Tryz.ntmps8
      go_wp2_with ((refine wpList_load_row (by rfl) 27 (.tmp 2) (by rfl) w.heap.size (by rfl) 27 A (0, 0) _ hA Tryz.underlying27 (by rfl) (by rw [hA1]; exact infoSt) ?_))
      refine Calls.mono (HBY.out _ HU) ?_
      rintro r W2 ⟨rfl, u2⟩
      have HZ : Hid (Up w W2) := HU.trans u2
      clear u2 HU hA
      go_wp2
      go_ret
      exact ⟨rfl, HZ.out⟩
    · have hlen2 : ¬ (4096 : Int) < (n : Int) := by omega
      have hlen3 : decide ((4096 : Int) < (n : Int)) = false := decide_eq_false hlen2
      by_cases hok : ff s = none
      · simp only [hok, decide_true] at HMA
        have HOK : Hid (ff s = none) := hok
        have HCS : Hid (∀ W, Up w W → Calls Tryz.prog 41 #[.agg A] W (CpPost W fun W' v => SO W.heap.size W' v s)) := fun W u => copyState_ (.agg A) s W (by rw [HAV.out]; exact HST.out.up u) HSM.out
        clear hok
        go_enter Tryz.func8, Tryz.ntmps8
        go_wp2_with ((refine wpList_load_row (by rfl) 27 (.tmp 2) (by rfl) w.heap.size (by rfl) 27 A (0, 0) _ hA Tryz.underlying27 (by rfl) (by rw [hA1]; exact infoSt) ?_))
        refine Calls.mono (HBY.out _ HU) ?_
        rintro r W2 ⟨rfl, u2⟩
        have hA := u2.heap hA
        have HU := HU.trans u2
        clear u2
        go_wp2_with ((refine wpList_load_rowG (by rfl) 27 (.tmp 2) (by rfl) w.heap.size (by rfl) 27 A (0, 0) _ hA Tryz.underlying27 (by rfl) (by rw [hA1]; exact infoSt) ?_))
        refine Calls.mono (HMA.out _ HU) ?_
        rintro r W3 ⟨rfl, u3⟩
        have hA := u3.heap hA
        have HU := HU.trans u3
        clear u3 HBY HMA
        go_wp2_with ((refine wpList_load_row (by rfl) 27 (.tmp 2) (by rfl) w.heap.size (by rfl) 27 A (0, 0) _ hA Tryz.underlying27 (by rfl) (by rw [hA1]; exact infoSt) ?_))
        refine Calls.mono (HCS.out _ HU) ?_
        rintro r W4 ⟨v1, rfl, f1, u4⟩
        have hA := u4.heap hA
        have f1 := f1.less HU.size
        have HU := HU.trans u4
        clear u4
        obtain ⟨C, rfl, h1C, h2C⟩ := SO.row f1
        obtain ⟨W5, hwC⟩ : ∃ Wd, (W4.alloc (.cells zS 27)).setRow W4.heap.size C = Wd := ⟨_, rfl⟩
        obtain ⟨rC, uu, -⟩ := filled W4 zS C 27
        rw [hwC] at rC uu
        obtain ⟨p, hp⟩ : ∃ p, p = W4.heap.size := ⟨_, rfl⟩
        have HI : Hid (BkI w W5 p A s 0 (.slice none 0 0)) := ⟨[], s, C, none, 0, rfl, Nat.le_refl _, EVO.nil _ _, Tr.nil HOK.out, by rw [hp]; exact rC, h1C, h2C, f1.up uu, uu.heap hA, HU.trans uu⟩
        have HPB : Hid (w.heap.size < p) := by
          have := (Array.getElem?_eq_some_iff.1 hA).1
          unfold Hid
          omega
        go_wp2_with (first | (refine wpList_store_row rfl 27 (.tmp 5) (.tmp 33) rfl W4.heap.size C rfl rfl 27 zS (heap_alloc_new W4 _) (by rw [h1C]; exact infoSt) (by rw [h1C]; rfl) h2C ?_; refine wpList_world hwC ?_))
        rw [← hp]
        clear hp rC uu hwC h1C h2C f1 hA HU
        go_loopw [6, 7] (fun s6 s7 W => ∃ i : Nat, i ≤ n ∧ s7 = .int .i64 i ∧ BkI w W p A s i s6) (fun _ s7 _ => n - (intOf s7).toNat)
        case atStart => exact ⟨0, Nat.zero_le _, rfl, HI.out⟩
        case round =>
          clear HI
          obtain ⟨i, hi, rfl, L, t, C, ta, tc, rfl, hL, hevo, htr, hC, h1C, h2C, fC, hA, HU⟩ := hrel
          have HE : Hid (EVO w.heap.size wr (.slice ta L.length tc) L) := hevo
          have HT : Hid (Tr s L t) := htr
          clear hevo htr
          have HMT : Hid (Small t) := small_ok HT.out.there
          by_cases hlt : i < n
          · have hlt2 : (i : Int) < (n : Int) := by omega
            obtain ⟨db, dof, rfl, hdd⟩ := HDC.out (by omega)
            obtain ⟨d, oa, oc, hcell, hil, hn0, hb1, hb2⟩ := hdd i hlt
            obtain ⟨x0, x1, x2, x3, x4, x5, x6⟩ := hcell wr HU
            have HIL : Hid _ := hil
            clear hdd hcell hil
            obtain ⟨W6, hW6⟩ : ∃ W6, wr.alloc (.cells (doc d (.slice oa d.ord.length oc)) 73) = W6 := ⟨_, rfl⟩
            have hD : W6.heap[wr.heap.size]? = some (.cells (doc d (.slice oa d.ord.length oc)) 73 (0, 0)) := by rw [← hW6]; exact heap_alloc_new _ _
            have u6 : Up wr W6 := by rw [← hW6]; exact (Up.refl _).alloc _
            have c6 : W6.cell? ⟨wr.heap.size, 6, none⟩ = some (.slice oa d.ord.length oc) := doc_cells hD 6
            have HLG : Hid (∀ W, Calls Tryz.prog 37 #[.int .i64 (d.ord.length : Nat)] W fun e w' => e = .returned (.bool (decide (2147483647 < (d.ord.length : Int)))) ∧ w' = W) := fun W => long1_ _ W
            unfold doc at hW6
            by_cases hlg : 2147483647 < d.ord.length
            · have hlg2 : 2147483647 < (d.ord.length : Int) := by omega
              rw [decide_eq_true hlg2] at HLG
              have HZ : Hid (Up w W6) := HU.trans u6
              clear hlg2 hlg HIL hD u6 hC fC hA HU
              go_wp2_with fail
              first | (refine Calls.mono (HLG.out _) ?_) | (refine calls_world hW6 (Calls.mono (HLG.out _) ?_))
              rintro r W7 ⟨rfl, rfl⟩
              first | (go_wp2; go_ret; exact ⟨rfl, by rw [hW6]; exact HZ.out⟩) | (go_wp2; go_ret; exact ⟨rfl, HZ.out⟩)
            · have hlg2 : ¬ 2147483647 < (d.ord.length : Int) := by omega
              rw [decide_eq_false hlg2] at HLG
              have hno : d.ord.length ≤ 4294967296 := by omega
              clear hlg2 hlg hn0
              have HCI : Hid (∀ W, Up w W → Calls Tryz.prog 42 #[.slice oa d.ord.length oc] W (CpPost W fun W' v => IRow W.heap.size W' v d.ord)) := fun W u => copyInts_ _ d.ord W (HIL.out.up u) hno
              go_wp2_with fail
              first | (refine Calls.mono (HLG.out _) ?_) | (refine calls_world hW6 (Calls.mono (HLG.out _) ?_))
              rintro r W7 ⟨rfl, hW7⟩
              have hW7' : W7 = W6 := by first | exact hW7 | (rw [hW7, hW6])
              clear hW7 HLG
              subst hW7'
              clear hW6 x0 x1 x2 x3 x4 x5 x6
              go_wp2_with fail
              refine Calls.mono (HCI.out _ (HU.trans u6)) ?_
              rintro r W8 ⟨vn, rfl, hvn, u8⟩
              obtain ⟨na, nk, rfl⟩ := row_val hvn
              have hD := u8.heap hD
              have hb3 : wr.heap.size < W7.heap.size := World.block_lt_of_cell? W7 _ c6
              have c6 : W8.cell? ⟨wr.heap.size, 6, none⟩ = some (.slice oa d.ord.length oc) := doc_cells hD 6
              have cf := seven_f hD 6
              obtain ⟨Wd, hWd⟩ : ∃ Wd, W8.setCell ⟨wr.heap.size, 6, none⟩ (.slice na d.ord.length nk) = Wd := ⟨_, rfl⟩
              have hD : Wd.heap[wr.heap.size]? = some (.cells (doc d (.slice na d.ord.length nk)) 73 (0, 0)) := by rw [← hWd]; exact doc_set hD
              have U9 : Up wr Wd := by rw [← hWd]; exact Up.set (u6.trans u8) _ _ (Nat.le_refl _)
              have hvn : IRow W7.heap.size Wd (.slice na d.ord.length nk) d.ord := by rw [← hWd]; exact row_set hvn hb3
              have HAK : Hid (∀ (W : World) (v : Value), Up Wd W → StL W v t → Calls Tryz.prog 32 #[.agg (doc d (.slice na d.ord.length nk)), v] W (DeV W (askO t d))) := fun W v u h => asked_ v _ t d W h HMT.out ((IRow.il hvn).up u) hno hb1 hb2
              obtain ⟨vn, hvn2⟩ : ∃ vn : Value, vn = .slice na d.ord.length nk := ⟨_, rfl⟩
              rw [← hvn2] at hD HAK
              have HV2 : Hid _ := hvn2
              have hC9 := U9.heap hC
              have HCN : Hid (∀ W, Up Wd W → Calls Tryz.prog 41 #[.agg C] W (CpPost W fun W' v => SO W.heap.size W' v t)) := fun W u => copyState_ (.agg C) t W (SO.sl (fC.up (U9.trans u))) HMT.out
              have HU9 : Up w Wd := HU.trans U9
              clear HCI u8 hvn hvn2 hb3 u6 hb1 hb2 HIL
              rcases (ask_good t d).2 HT.out.there with hr | hr | ⟨e, hr, hfit, heo⟩
              · have HAS : Hid (∀ (W : World) (v : Value), Up Wd W → StL W v t → Calls Tryz.prog 32 #[.agg (doc d vn), v] W fun x w' => ∃ v', x = .returned (.tuple #[v', .int .i64 1]) ∧ DL W.heap.size w' v' none ∧ Up W w') := fun W v u h => by
                  have h9 := HAK.out W v u h
                  rw [hr] at h9
                  exact h9
                clear hr HAK
                go_wp2_with fail
                refine (fun key12 : ∀ (W : World) (v1 vl : Value), Up Wd W → DL w.heap.size W vl none → (?GA : World → Value → Value → Prop) W v1 vl => ?mainA) ?kpA
                case mainA =>
                  refine wp_region_held_drew (S := fun W9 => Up Wd W9) (by kernel_rfl) (Up.drew (Up.refl _)) (fun hHeld => ?_)
                  have Ua0 : Up Wd Wd.drew := Up.drew (Up.refl _)
                  refine wpAnyH_take (i := 0) (v := ?_) rfl (by kernel_rfl) (by kernel_rfl) (by kernel_rfl) (fun _ _ _ h => h) (Or.inl ⟨by rfl, ?_⟩) (by assumption) ?_
                  rotate_left
                  · intro w9 hSw
                    refine (exec_load_row 73 (.tmp 8) (by rfl) wr.heap.size (by rfl) 73 (doc d vn) (0, 0) _ Tryz.underlying73 (by rfl) (infoDo) w9 (hSw.heap hD)).trans ?_
                    with_reducible rfl
                  simp only [Act.put, List.setIfInBounds_toArray, List.set_cons_zero, List.set_cons_succ, List.getElem_toArray, List.getElem_cons_zero]
                  refine wpAnyH_take (i := 1) (v := ?_) rfl (by kernel_rfl) (by kernel_rfl) (by kernel_rfl) (fun _ _ _ h => h) (Or.inl ⟨by rfl, ?_⟩) (by assumption) ?_
                  rotate_left
                  · intro w9 hSw
                    refine (exec_load_row 27 (.tmp 5) (by rfl) p (by rfl) 27 C (0, 0) _ Tryz.underlying27 (by rfl) (by rw [h1C]; exact infoSt) w9 (hSw.heap hC9)).trans ?_
                    with_reducible rfl
                  simp only [Act.put, List.setIfInBounds_toArray, List.set_cons_zero, List.set_cons_succ, List.getElem_toArray, List.getElem_cons_zero, List.getElem_cons_succ]
                  refine wpAnyH_ready (rs := [2]) (by kernel_rfl) (by simp) ?_
                  refine AllReadyH.cons rfl (fun K hK => ?_) AllReadyH.nil
                  simp only [List.getElem_toArray, List.getElem_cons_zero, List.getElem_cons_succ]
                  go_simp
                  refine Calls.mono (HCN.out _ Ua0) ?_
                  rintro r9 Wa1 ⟨v1, rfl, f1, ua1⟩
                  go_simp
                  have Ua1 := Ua0.trans ua1
                  refine hK.out _ _ ?_ (fun hHeld => ?_)
                  · exact Ua1
                  clear hK K
                  try simp only [Act.put, List.setIfInBounds_toArray, List.set_cons_zero, List.set_cons_succ]
                  have hSS := Ua1
                  refine wpAnyH_ready (rs := [3]) (by kernel_rfl) (by simp) ?_
                  refine AllReadyH.cons rfl (fun K hK => ?_) AllReadyH.nil
                  simp only [List.getElem_toArray, List.getElem_cons_zero, List.getElem_cons_succ]
                  go_simp
                  refine Calls.mono (HAS.out _ _ Ua1 (SO.sl f1)) ?_
                  rintro r9 Wa2 ⟨vl, rfl, f2, ua2⟩
                  have f2 := dl_less f2 (HU9.trans Ua1).size
                  go_simp
                  have Ua2 := Ua1.trans ua2
                  have f1 := f1.up ua2
                  refine hK.out _ _ ?_ (fun hHeld => ?_)
                  · exact Ua2
                  clear hK K
                  try simp only [Act.put, List.setIfInBounds_toArray, List.set_cons_zero, List.set_cons_succ]
                  have hSS := Ua2
                  refine wpAnyH_take (i := 4) (v := ?_) rfl (by kernel_rfl) (by kernel_rfl) (by kernel_rfl) (fun _ _ _ h => h) (Or.inl ⟨by rfl, ?_⟩) (by assumption) ?_
                  rotate_left
                  · intro w9 hSw
                    go_simp
                    try with_reducible rfl
                  simp only [Act.put, List.setIfInBounds_toArray, List.set_cons_zero, List.set_cons_succ, List.getElem_toArray, List.getElem_cons_zero, List.getElem_cons_succ]
                  refine wpAnyH_take (i := 5) (v := ?_) rfl (by kernel_rfl) (by kernel_rfl) (by kernel_rfl) (fun _ _ _ h => h) (Or.inl ⟨by rfl, ?_⟩) (by assumption) ?_
                  rotate_left
                  · intro w9 hSw
                    go_simp
                    try with_reducible rfl
                  simp only [Act.put, List.setIfInBounds_toArray, List.set_cons_zero, List.set_cons_succ, List.getElem_toArray, List.getElem_cons_zero, List.getElem_cons_succ]
                  refine wpAnyH_take (i := 6) (v := ?_) rfl (by kernel_rfl) (by kernel_rfl) (by kernel_rfl) (fun _ _ _ h => h) (Or.inl ⟨by rfl, ?_⟩) (by assumption) ?_
                  rotate_left
                  · intro w9 hSw
                    go_simp
                    try with_reducible rfl
                  simp only [Act.put, List.setIfInBounds_toArray, List.set_cons_zero, List.set_cons_succ, List.getElem_toArray, List.getElem_cons_zero, List.getElem_cons_succ]
                  refine wpAnyH_take (i := 7) (v := ?_) rfl (by kernel_rfl) (by kernel_rfl) (by kernel_rfl) (fun _ _ _ h => h) (Or.inl ⟨by rfl, ?_⟩) (by assumption) ?_
                  rotate_left
                  · intro w9 hSw
                    go_simp
                    try with_reducible rfl
                  simp only [Act.put, List.setIfInBounds_toArray, List.set_cons_zero, List.set_cons_succ, List.getElem_toArray, List.getElem_cons_zero, List.getElem_cons_succ]
                  refine wpAnyH_take (i := 8) (v := ?_) rfl (by kernel_rfl) (by kernel_rfl) (by kernel_rfl) (fun _ _ _ h => h) (Or.inl ⟨by rfl, ?_⟩) (by assumption) ?_
                  rotate_left
                  · intro w9 hSw
                    go_simp
                    try with_reducible rfl
                  simp only [Act.put, List.setIfInBounds_toArray, List.set_cons_zero, List.set_cons_succ, List.getElem_toArray, List.getElem_cons_zero, List.getElem_cons_succ]
                  refine wpAnyH_done (by kernel_rfl) ?_ _
                  exact key12 Wa2 v1 vl Ua2 f2
                case kpA =>
                  intro W10 v1 vl U10 hdl
                  have U10 := U9.trans U10
                  clear HAS HCN U9 hD hC9 cf c6
                  have hdl : vl = .slice none 0 0 := hdl
                  subst hdl
                  have HN : Hid (BkI w W10 p A s (i + 1) (.slice ta L.length tc)) := ⟨L, t, C, ta, tc, rfl, by omega, HE.out.up U10, HT.out, U10.heap hC, h1C, h2C, fC.up U10, U10.heap hA, HU.trans U10⟩
                  clear hC fC hA HU U10 HU9
                  go_wp2_with fail
                  go_loopw [6, 11] (fun s6 s11 W => s6 = .slice ta L.length tc ∧ s11 = .int .i64 0 ∧ W = W10) (fun _ _ _ => 0)
                  case atStart => exact ⟨rfl, rfl, rfl⟩
                  case round =>
                    obtain ⟨rfl, rfl, rfl⟩ := hrel
                    go_wp2_with fail
                    go_roundw
                    case rel => exact ⟨i + 1, by omega, by go_num, HN.out⟩
                    case measure => simp [intOf] <;> omega
              · have HAS : Hid (∀ (W : World) (v : Value), Up Wd W → StL W v t → Calls Tryz.prog 32 #[.agg (doc d vn), v] W fun x w' => ∃ v', x = .returned (.tuple #[v', .int .i64 0]) ∧ DL W.heap.size w' v' none ∧ Up W w') := fun W v u h => by
                  have h9 := HAK.out W v u h
                  rw [hr] at h9
                  exact h9
                clear hr HAK
                go_wp2_with fail
                refine (fun key12 : ∀ (W : World) (v1 vl : Value), Up Wd W → DL w.heap.size W vl none → (?GB : World → Value → Value → Prop) W v1 vl => ?mainB) ?kpB
                case mainB =>
                  refine wp_region_held_drew (S := fun W9 => Up Wd W9) (by kernel_rfl) (Up.drew (Up.refl _)) (fun hHeld => ?_)
                  have Ua0 : Up Wd Wd.drew := Up.drew (Up.refl _)
                  refine wpAnyH_take (i := 0) (v := ?_) rfl (by kernel_rfl) (by kernel_rfl) (by kernel_rfl) (fun _ _ _ h => h) (Or.inl ⟨by rfl, ?_⟩) (by assumption) ?_
                  rotate_left
                  · intro w9 hSw
                    refine (exec_load_row 73 (.tmp 8) (by rfl) wr.heap.size (by rfl) 73 (doc d vn) (0, 0) _ Tryz.underlying73 (by rfl) (infoDo) w9 (hSw.heap hD)).trans ?_
                    with_reducible rfl
                  simp only [Act.put, List.setIfInBounds_toArray, List.set_cons_zero, List.set_cons_succ, List.getElem_toArray, List.getElem_cons_zero]
                  refine wpAnyH_take (i := 1) (v := ?_) rfl (by kernel_rfl) (by kernel_rfl) (by kernel_rfl) (fun _ _ _ h => h) (Or.inl ⟨by rfl, ?_⟩) (by assumption) ?_
                  rotate_left
                  · intro w9 hSw
                    refine (exec_load_row 27 (.tmp 5) (by rfl) p (by rfl) 27 C (0, 0) _ Tryz.underlying27 (by rfl) (by rw [h1C]; exact infoSt) w9 (hSw.heap hC9)).trans ?_
                    with_reducible rfl
                  simp only [Act.put, List.setIfInBounds_toArray, List.set_cons_zero, List.set_cons_succ, List.getElem_toArray, List.getElem_cons_zero, List.getElem_cons_succ]
                  refine wpAnyH_ready (rs := [2]) (by kernel_rfl) (by simp) ?_
                  refine AllReadyH.cons rfl (fun K hK => ?_) AllReadyH.nil
                  simp only [List.getElem_toArray, List.getElem_cons_zero, List.getElem_cons_succ]
                  go_simp
                  refine Calls.mono (HCN.out _ Ua0) ?_
                  rintro r9 Wa1 ⟨v1, rfl, f1, ua1⟩
                  go_simp
                  have Ua1 := Ua0.trans ua1
                  refine hK.out _ _ ?_ (fun hHeld => ?_)
                  · exact Ua1
                  clear hK K
                  try simp only [Act.put, List.setIfInBounds_toArray, List.set_cons_zero, List.set_cons_succ]
                  have hSS := Ua1
                  refine wpAnyH_ready (rs := [3]) (by kernel_rfl) (by simp) ?_
                  refine AllReadyH.cons rfl (fun K hK => ?_) AllReadyH.nil
                  simp only [List.getElem_toArray, List.getElem_cons_zero, List.getElem_cons_succ]
                  go_simp
                  refine Calls.mono (HAS.out _ _ Ua1 (SO.sl f1)) ?_
                  rintro r9 Wa2 ⟨vl, rfl, f2, ua2⟩
                  have f2 := dl_less f2 (HU9.trans Ua1).size
                  go_simp
                  have Ua2 := Ua1.trans ua2
                  have f1 := f1.up ua2
                  refine hK.out _ _ ?_ (fun hHeld => ?_)
                  · exact Ua2
                  clear hK K
                  try simp only [Act.put, List.setIfInBounds_toArray, List.set_cons_zero, List.set_cons_succ]
                  have hSS := Ua2
                  refine wpAnyH_take (i := 4) (v := ?_) rfl (by kernel_rfl) (by kernel_rfl) (by kernel_rfl) (fun _ _ _ h => h) (Or.inl ⟨by rfl, ?_⟩) (by assumption) ?_
                  rotate_left
                  · intro w9 hSw
                    go_simp
                    try with_reducible rfl
                  simp only [Act.put, List.setIfInBounds_toArray, List.set_cons_zero, List.set_cons_succ, List.getElem_toArray, List.getElem_cons_zero, List.getElem_cons_succ]
                  refine wpAnyH_take (i := 5) (v := ?_) rfl (by kernel_rfl) (by kernel_rfl) (by kernel_rfl) (fun _ _ _ h => h) (Or.inl ⟨by rfl, ?_⟩) (by assumption) ?_
                  rotate_left
                  · intro w9 hSw
                    go_simp
                    try with_reducible rfl
                  simp only [Act.put, List.setIfInBounds_toArray, List.set_cons_zero, List.set_cons_succ, List.getElem_toArray, List.getElem_cons_zero, List.getElem_cons_succ]
                  refine wpAnyH_take (i := 6) (v := ?_) rfl (by kernel_rfl) (by kernel_rfl) (by kernel_rfl) (fun _ _ _ h => h) (Or.inl ⟨by rfl, ?_⟩) (by assumption) ?_
                  rotate_left
                  · intro w9 hSw
                    go_simp
                    try with_reducible rfl
                  simp only [Act.put, List.setIfInBounds_toArray, List.set_cons_zero, List.set_cons_succ, List.getElem_toArray, List.getElem_cons_zero, List.getElem_cons_succ]
                  refine wpAnyH_take (i := 7) (v := ?_) rfl (by kernel_rfl) (by kernel_rfl) (by kernel_rfl) (fun _ _ _ h => h) (Or.inl ⟨by rfl, ?_⟩) (by assumption) ?_
                  rotate_left
                  · intro w9 hSw
                    go_simp
                    try with_reducible rfl
                  simp only [Act.put, List.setIfInBounds_toArray, List.set_cons_zero, List.set_cons_succ, List.getElem_toArray, List.getElem_cons_zero, List.getElem_cons_succ]
                  refine wpAnyH_take (i := 8) (v := ?_) rfl (by kernel_rfl) (by kernel_rfl) (by kernel_rfl) (fun _ _ _ h => h) (Or.inl ⟨by rfl, ?_⟩) (by assumption) ?_
                  rotate_left
                  · intro w9 hSw
                    go_simp
                    try with_reducible rfl
                  simp only [Act.put, List.setIfInBounds_toArray, List.set_cons_zero, List.set_cons_succ, List.getElem_toArray, List.getElem_cons_zero, List.getElem_cons_succ]
                  refine wpAnyH_done (by kernel_rfl) ?_ _
                  exact key12 Wa2 v1 vl Ua2 f2
                case kpB =>
                  intro W10 v1 vl U10 hdl
                  have U10 := U9.trans U10
                  clear HAS HCN U9 hD hC9 cf c6
                  have hdl : vl = .slice none 0 0 := hdl
                  subst hdl
                  have HN : Hid (BkI w W10 p A s (i + 1) (.slice ta L.length tc)) := ⟨L, t, C, ta, tc, rfl, by omega, HE.out.up U10, HT.out, U10.heap hC, h1C, h2C, fC.up U10, U10.heap hA, HU.trans U10⟩
                  clear hC fC hA HU U10 HU9
                  go_wp2_with fail
                  go_loopw [6, 11] (fun s6 s11 W => s6 = .slice ta L.length tc ∧ s11 = .int .i64 0 ∧ W = W10) (fun _ _ _ => 0)
                  case atStart => exact ⟨rfl, rfl, rfl⟩
                  case round =>
                    obtain ⟨rfl, rfl, rfl⟩ := hrel
                    go_wp2_with fail
                    go_roundw
                    case rel => exact ⟨i + 1, by omega, by go_num, HN.out⟩
                    case measure => simp [intOf] <;> omega
              · have HAS : Hid (∀ (W : World) (v : Value), Up Wd W → StL W v t → Calls Tryz.prog 32 #[.agg (doc d vn), v] W fun x w' => ∃ v', x = .returned (.tuple #[v', .int .i64 0]) ∧ DL W.heap.size w' v' (some e) ∧ Up W w') := fun W v u h => by
                  have h9 := HAK.out W v u h
                  rw [hr] at h9
                  exact h9
                clear hr HAK
                go_wp2_with fail
                refine (fun key12 : ∀ (W : World) (v1 vl : Value), Up Wd W → DL w.heap.size W vl (some e) → (?GC : World → Value → Value → Prop) W v1 vl => ?mainC) ?kpC
                case mainC =>
                  refine wp_region_held_drew (S := fun W9 => Up Wd W9) (by kernel_rfl) (Up.drew (Up.refl _)) (fun hHeld => ?_)
                  have Ua0 : Up Wd Wd.drew := Up.drew (Up.refl _)
                  refine wpAnyH_take (i := 0) (v := ?_) rfl (by kernel_rfl) (by kernel_rfl) (by kernel_rfl) (fun _ _ _ h => h) (Or.inl ⟨by rfl, ?_⟩) (by assumption) ?_
                  rotate_left
                  · intro w9 hSw
                    refine (exec_load_row 73 (.tmp 8) (by rfl) wr.heap.size (by rfl) 73 (doc d vn) (0, 0) _ Tryz.underlying73 (by rfl) (infoDo) w9 (hSw.heap hD)).trans ?_
                    with_reducible rfl
                  simp only [Act.put, List.setIfInBounds_toArray, List.set_cons_zero, List.set_cons_succ, List.getElem_toArray, List.getElem_cons_zero]
                  refine wpAnyH_take (i := 1) (v := ?_) rfl (by kernel_rfl) (by kernel_rfl) (by kernel_rfl) (fun _ _ _ h => h) (Or.inl ⟨by rfl, ?_⟩) (by assumption) ?_
                  rotate_left
                  · intro w9 hSw
                    refine (exec_load_row 27 (.tmp 5) (by rfl) p (by rfl) 27 C (0, 0) _ Tryz.underlying27 (by rfl) (by rw [h1C]; exact infoSt) w9 (hSw.heap hC9)).trans ?_
                    with_reducible rfl
                  simp only [Act.put, List.setIfInBounds_toArray, List.set_cons_zero, List.set_cons_succ, List.getElem_toArray, List.getElem_cons_zero, List.getElem_cons_succ]
                  refine wpAnyH_ready (rs := [2]) (by kernel_rfl) (by simp) ?_
                  refine AllReadyH.cons rfl (fun K hK => ?_) AllReadyH.nil
                  simp only [List.getElem_toArray, List.getElem_cons_zero, List.getElem_cons_succ]
                  go_simp
                  refine Calls.mono (HCN.out _ Ua0) ?_
                  rintro r9 Wa1 ⟨v1, rfl, f1, ua1⟩
                  go_simp
                  have Ua1 := Ua0.trans ua1
                  refine hK.out _ _ ?_ (fun hHeld => ?_)
                  · exact Ua1
                  clear hK K
                  try simp only [Act.put, List.setIfInBounds_toArray, List.set_cons_zero, List.set_cons_succ]
                  have hSS := Ua1
                  refine wpAnyH_ready (rs := [3]) (by kernel_rfl) (by simp) ?_
                  refine AllReadyH.cons rfl (fun K hK => ?_) AllReadyH.nil
                  simp only [List.getElem_toArray, List.getElem_cons_zero, List.getElem_cons_succ]
                  go_simp
                  refine Calls.mono (HAS.out _ _ Ua1 (SO.sl f1)) ?_
                  rintro r9 Wa2 ⟨vl, rfl, f2, ua2⟩
                  have f2 := dl_less f2 (HU9.trans Ua1).size
                  go_simp
                  have Ua2 := Ua1.trans ua2
                  have f1 := f1.up ua2
                  refine hK.out _ _ ?_ (fun hHeld => ?_)
                  · exact Ua2
                  clear hK K
                  try simp only [Act.put, List.setIfInBounds_toArray, List.set_cons_zero, List.set_cons_succ]
                  have hSS := Ua2
                  refine wpAnyH_take (i := 4) (v := ?_) rfl (by kernel_rfl) (by kernel_rfl) (by kernel_rfl) (fun _ _ _ h => h) (Or.inl ⟨by rfl, ?_⟩) (by assumption) ?_
                  rotate_left
                  · intro w9 hSw
                    go_simp
                    try with_reducible rfl
                  simp only [Act.put, List.setIfInBounds_toArray, List.set_cons_zero, List.set_cons_succ, List.getElem_toArray, List.getElem_cons_zero, List.getElem_cons_succ]
                  refine wpAnyH_take (i := 5) (v := ?_) rfl (by kernel_rfl) (by kernel_rfl) (by kernel_rfl) (fun _ _ _ h => h) (Or.inl ⟨by rfl, ?_⟩) (by assumption) ?_
                  rotate_left
                  · intro w9 hSw
                    go_simp
                    try with_reducible rfl
                  simp only [Act.put, List.setIfInBounds_toArray, List.set_cons_zero, List.set_cons_succ, List.getElem_toArray, List.getElem_cons_zero, List.getElem_cons_succ]
                  refine wpAnyH_take (i := 6) (v := ?_) rfl (by kernel_rfl) (by kernel_rfl) (by kernel_rfl) (fun _ _ _ h => h) (Or.inl ⟨by rfl, ?_⟩) (by assumption) ?_
                  rotate_left
                  · intro w9 hSw
                    go_simp
                    try with_reducible rfl
                  simp only [Act.put, List.setIfInBounds_toArray, List.set_cons_zero, List.set_cons_succ, List.getElem_toArray, List.getElem_cons_zero, List.getElem_cons_succ]
                  refine wpAnyH_take (i := 7) (v := ?_) rfl (by kernel_rfl) (by kernel_rfl) (by kernel_rfl) (fun _ _ _ h => h) (Or.inl ⟨by rfl, ?_⟩) (by assumption) ?_
                  rotate_left
                  · intro w9 hSw
                    go_simp
                    try with_reducible rfl
                  simp only [Act.put, List.setIfInBounds_toArray, List.set_cons_zero, List.set_cons_succ, List.getElem_toArray, List.getElem_cons_zero, List.getElem_cons_succ]
                  refine wpAnyH_take (i := 8) (v := ?_) rfl (by kernel_rfl) (by kernel_rfl) (by kernel_rfl) (fun _ _ _ h => h) (Or.inl ⟨by rfl, ?_⟩) (by assumption) ?_
                  rotate_left
                  · intro w9 hSw
                    go_simp
                    try with_reducible rfl
                  simp only [Act.put, List.setIfInBounds_toArray, List.set_cons_zero, List.set_cons_succ, List.getElem_toArray, List.getElem_cons_zero, List.getElem_cons_succ]
                  refine wpAnyH_done (by kernel_rfl) ?_ _
                  exact key12 Wa2 v1 vl Ua2 f2
                case kpC =>
                  intro W10 v1 vl U10 hdl
                  have U10 := U9.trans U10
                  clear HAS HCN U9 hD hC9 cf c6
                  obtain ⟨g, vo2, rfl, hgB, hg, hio⟩ := hdl
                  have hre : repO t [e] = some (.inr (behindS t e)) := by
                    unfold repO
                    rw [if_pos HT.out.there]
                    show some (if okB e && fitB t e then repl (behindS t e) [] 1 else Sum.inl 0) = _
                    rw [if_pos hfit]
                    rfl
                  have hen : e.ord.length ≤ 4294967296 := by
                    rcases heo with h9 | h9
                    · rw [h9]; simp
                    · rw [h9]; exact hno
                  have HM2 : Hid (Tr s (L ++ [e]) (behindS t e)) := HT.out.more hfit hen
                  have HCE : Hid (∀ W, Up W10 W → Calls Tryz.prog 43 #[.agg (evc e vo2)] W fun x w' => ∃ vn, x = .returned (evv e vn) ∧ IRow W.heap.size w' vn e.ord ∧ Up W w') := fun W u => copyEvent_ e vo2 W ((IRow.il hio).up u) hen
                  have HAP : Hid (∀ (W : World) (vn : Value), Up W10 W → IL W vn e.ord → Calls Tryz.prog 12 #[.agg C, evv e vn] W (ApS (behindS t e) W)) := fun W vn u h2 => by
                    have h9 := apply_ (.agg C) vn t e W (SO.sl (fC.up (U10.trans u))) HMT.out h2 hen
                    rw [hre] at h9
                    exact h9.mono fun e w' h => aps_of h
                  generalize behindS t e = t2 at *
                  have hA := U10.heap hA
                  have hC := U10.heap hC
                  have HE : Hid (EVO w.heap.size W10 (.slice ta L.length tc) L) := HE.out.up U10
                  have HU := HU.trans U10
                  have hLn : L.length ≤ 4096 := by omega
                  clear hre hen heo hfit U10 HU9 fC hno
                  go_wp2_with fail
                  go_loopw [6, 11] (fun s6 s11 W => (s6 = .slice ta L.length tc ∧ s11 = .int .i64 0 ∧ W = W10) ∨ (s11 = .int .i64 1 ∧ BkI w W p A s (i + 1) s6)) (fun _ s11 _ => 1 - (intOf s11).toNat)
                  case atStart => exact .inl ⟨rfl, rfl, rfl⟩
                  case round =>
                    rcases hrel with ⟨rfl, rfl, rfl⟩ | ⟨rfl, hbk⟩
                    · go_wp2_with fail
                      refine (fun key16 : ∀ (W : World) (p12 : Nat) (X : Array Value) (vn3 : Value), Up wr W → W.heap[p12]? = some (.cells X 27 (0, 0)) → SOA w.heap.size W (.agg X) t2 → X.size = 7 → X.all (·.oneCell') = true → (?GX : World → Nat → Array Value → Value → Prop) W p12 X vn3 => ?mainX) ?kpX
                      case mainX =>
                        refine wp_region_held_drew (S := fun W9 => Up wr W9) (by kernel_rfl) (Up.drew (Up.refl _)) (fun hHeld => ?_)
                        have Ub0 : Up wr wr.drew := Up.drew (Up.refl _)
                        refine wpAnyH_take (i := 0) (v := ?_) rfl (by kernel_rfl) (by kernel_rfl) (by kernel_rfl) (fun _ _ _ h => h) (Or.inl ⟨by rfl, ?_⟩) (by assumption) ?_
                        rotate_left
                        · intro w9 hSw
                          refine (exec_load_row 27 (.tmp 5) (by rfl) p (by rfl) 27 C (0, 0) _ Tryz.underlying27 (by rfl) (by rw [h1C]; exact infoSt) w9 (hSw.heap hC)).trans ?_
                          with_reducible rfl
                        simp only [Act.put, List.setIfInBounds_toArray, List.set_cons_zero, List.set_cons_succ, List.getElem_toArray, List.getElem_cons_zero]
                        refine wpAnyH_take (i := 1) (v := ?_) rfl (by kernel_rfl) (by kernel_rfl) (by kernel_rfl) (fun _ _ _ h => h) (Or.inl ⟨by rfl, ?_⟩) (by assumption) ?_
                        rotate_left
                        · intro w9 hSw
                          go_simp
                          try with_reducible rfl
                        simp only [Act.put, List.setIfInBounds_toArray, List.set_cons_zero, List.set_cons_succ, List.getElem_toArray, List.getElem_cons_zero, List.getElem_cons_succ]
                        refine wpAnyH_take (i := 2) (v := ?_) rfl (by kernel_rfl) (by kernel_rfl) (by kernel_rfl) (fun _ _ _ h => h) (Or.inl ⟨by rfl, ?_⟩) (by assumption) ?_
                        rotate_left
                        · intro w9 hSw
                          go_simp
                          try with_reducible rfl
                        simp only [Act.put, List.setIfInBounds_toArray, List.set_cons_zero, List.set_cons_succ, List.getElem_toArray, List.getElem_cons_zero, List.getElem_cons_succ]
                        refine wpAnyH_take (i := 3) (v := ?_) rfl (by kernel_rfl) (by kernel_rfl) (by kernel_rfl) (fun _ _ _ h => h) (Or.inl ⟨by rfl, ?_⟩) (by assumption) ?_
                        rotate_left
                        · intro w9 hSw
                          go_simp
                          try with_reducible rfl
                        simp only [Act.put, List.setIfInBounds_toArray, List.set_cons_zero, List.set_cons_succ, List.getElem_toArray, List.getElem_cons_zero, List.getElem_cons_succ]
                        refine wpAnyH_take (i := 4) (v := ?_) rfl (by kernel_rfl) (by kernel_rfl) (by kernel_rfl) (fun _ _ _ h => h) (Or.inl ⟨by rfl, ?_⟩) (by assumption) ?_
                        rotate_left
                        · intro w9 hSw
                          refine (exec_load_row 30 (.tmp 73) (by rfl) g (by rfl) 30 (evc e vo2) (0, 0) _ Tryz.underlying30 (by rfl) (infoEv) w9 (hSw.heap hg)).trans ?_
                          with_reducible rfl
                        simp only [Act.put, List.setIfInBounds_toArray, List.set_cons_zero, List.set_cons_succ, List.getElem_toArray, List.getElem_cons_zero, List.getElem_cons_succ]
                        refine wpAnyH_ready (rs := [5, 10]) (by kernel_rfl) (by simp) ?_
                        refine AllReadyH.cons rfl (fun K hK => ?_) (AllReadyH.cons rfl (fun K hK => ?_) AllReadyH.nil)
                        · simp only [List.getElem_toArray, List.getElem_cons_zero, List.getElem_cons_succ]
                          go_simp
                          refine Calls.mono (HCE.out _ Ub0) ?_
                          rintro r9 Wb1 ⟨vn3, rfl, f4, ub1⟩
                          go_simp
                          have Ub1 := Ub0.trans ub1
                          refine hK.out _ _ ?_ (fun hHeld => ?_)
                          · exact Ub1
                          clear hK K
                          try simp only [Act.put, List.setIfInBounds_toArray, List.set_cons_zero, List.set_cons_succ]
                          have hSS := Ub1
                          refine wpAnyH_ready (rs := [6, 10]) (by kernel_rfl) (by simp) ?_
                          refine AllReadyH.cons rfl (fun K hK => ?_) (AllReadyH.cons rfl (fun K hK => ?_) AllReadyH.nil)
                          · simp only [List.getElem_toArray, List.getElem_cons_zero, List.getElem_cons_succ]
                            go_simp
                            refine Calls.mono (HAP.out _ _ Ub1 (IRow.il f4)) ?_
                            rintro r9 Wb2 ⟨X, rfl, h1X, h2X, f5, ub2⟩
                            have f5 := f5.less (HU.trans Ub1).size
                            go_simp
                            have Ub2 := Ub1.trans ub2
                            have f4 := row_up f4 ub2
                            refine hK.out _ _ ?_ (fun hHeld => ?_)
                            · exact Ub2
                            clear hK K
                            try simp only [Act.put, List.setIfInBounds_toArray, List.set_cons_zero, List.set_cons_succ]
                            have hSS := Ub2
                            refine wpAnyH_take (i := 7) (v := ?_) rfl (by kernel_rfl) (by kernel_rfl) (by kernel_rfl) (fun _ _ _ h => h) (Or.inl ⟨by rfl, ?_⟩) (by assumption) ?_
                            rotate_left
                            · intro w9 hSw
                              go_simp
                              try with_reducible rfl
                            simp only [Act.put, List.setIfInBounds_toArray, List.set_cons_zero, List.set_cons_succ, List.getElem_toArray, List.getElem_cons_zero, List.getElem_cons_succ]
                            refine wpAnyH_take (i := 8) (v := ?_) rfl (by kernel_rfl) (by kernel_rfl) (by kernel_rfl) (fun _ _ _ h => h) (Or.inl ⟨by rfl, ?_⟩) (by assumption) ?_
                            rotate_left
                            · intro w9 hSw
                              go_simp
                              try with_reducible rfl
                            simp only [Act.put, List.setIfInBounds_toArray, List.set_cons_zero, List.set_cons_succ, List.getElem_toArray, List.getElem_cons_zero, List.getElem_cons_succ]
                            refine wpAnyH_take (i := 9) (v := ?_) rfl (by kernel_rfl) (by kernel_rfl) (by kernel_rfl) (fun _ _ _ h => h) (Or.inl ⟨by rfl, ?_⟩) (by assumption) ?_
                            rotate_left
                            · intro w9 hSw
                              go_simp
                              try with_reducible rfl
                            simp only [Act.put, List.setIfInBounds_toArray, List.set_cons_zero, List.set_cons_succ, List.getElem_toArray, List.getElem_cons_zero, List.getElem_cons_succ]
                            refine wpAnyH_ready (rs := [10]) (by kernel_rfl) (by simp) ?_
                            refine AllReadyH.cons rfl (fun K hK => ?_) AllReadyH.nil
                            simp only [List.getElem_toArray, List.getElem_cons_zero, List.getElem_cons_succ]
                            go_simp
                            refine hK.out _ _ ?_ (fun hHeld => ?_)
                            · exact Ub2.alloc _
                            clear hK K
                            try simp only [Act.put, List.setIfInBounds_toArray, List.set_cons_zero, List.set_cons_succ]
                            obtain ⟨p12, hp12⟩ : ∃ p, p = (Wb2).heap.size := ⟨_, rfl⟩
                            obtain ⟨Wb3, hW1⟩ : ∃ W1, (Wb2).alloc (.cells zS 27) = W1 := ⟨_, rfl⟩
                            refine wpAnyH_world hW1 ?_
                            have h9 : Wb2.heap.size = p12 := hp12.symm
                            simp only [h9]
                            clear h9
                            have ub3 : Up (Wb2) Wb3 := by rw [← hW1]; exact (Up.refl _).alloc _
                            have ep12 : Wb3.heap[p12]? = some (.cells zS 27 (0, 0)) := by rw [hp12, ← hW1]; exact heap_alloc_new _ _
                            have lp12 : wr.heap.size ≤ p12 := by rw [hp12]; exact Ub2.size
                            have Ub3 := Ub2.trans ub3
                            have f4 := row_up f4 ub3
                            have f5 := f5.up ub3
                            clear hHeld hW1 hp12
                            have hSS := Ub3
                            refine wpAnyH_ready (rs := [11]) (by kernel_rfl) (by simp) ?_
                            refine AllReadyH.cons rfl (fun K hK => ?_) AllReadyH.nil
                            simp only [List.getElem_toArray, List.getElem_cons_zero, List.getElem_cons_succ]
                            refine stepH_store (by rfl) 27 (.tmp 12) (.tmp 77) (by rfl) p12 X (by rfl) (by rfl) 27 zS ep12 (by rw [h1X]; exact infoSt) (by rw [h1X]; rfl) (h2X) ?_
                            refine hK.out _ _ ?_ (fun hHeld => ?_)
                            · exact up_setRow Ub3 lp12 _
                            clear hK K
                            simp only [Act.put]
                            obtain ⟨Wb4, hW1⟩ : ∃ W1, (Wb3).setRow p12 X = W1 := ⟨_, rfl⟩
                            refine wpAnyH_world hW1 ?_
                            have Ub4 : Up wr Wb4 := by rw [← hW1]; exact up_setRow Ub3 lp12 _
                            have f5 := SOA.setRow (C := X) f5 ep12
                            rw [hW1] at f5
                            have ep12 : Wb4.heap[p12]? = some (.cells X 27 (0, 0)) := by rw [← hW1]; exact setRow_heap _ _ _ _ _ _ ep12
                            clear hHeld hW1
                            have hSS := Ub4
                            refine wpAnyH_take (i := 12) (v := ?_) rfl (by kernel_rfl) (by kernel_rfl) (by kernel_rfl) (fun _ _ _ h => h) (Or.inl ⟨by rfl, ?_⟩) (by assumption) ?_
                            rotate_left
                            · intro w9 hSw
                              go_simp
                              try with_reducible rfl
                            simp only [Act.put, List.setIfInBounds_toArray, List.set_cons_zero, List.set_cons_succ, List.getElem_toArray, List.getElem_cons_zero, List.getElem_cons_succ]
                            refine wpAnyH_done (by kernel_rfl) ?_ _
                            exact key16 Wb4 p12 X vn3 Ub4 ep12 f5 h1X h2X
                          · simp only [List.getElem_toArray, List.getElem_cons_zero, List.getElem_cons_succ]
                            go_simp
                            refine hK.out _ _ ?_ (fun hHeld => ?_)
                            · exact Ub1.alloc _
                            clear hK K
                            try simp only [Act.put, List.setIfInBounds_toArray, List.set_cons_zero, List.set_cons_succ]
                            obtain ⟨p12, hp12⟩ : ∃ p, p = (Wb1).heap.size := ⟨_, rfl⟩
                            obtain ⟨Wb2, hW1⟩ : ∃ W1, (Wb1).alloc (.cells zS 27) = W1 := ⟨_, rfl⟩
                            refine wpAnyH_world hW1 ?_
                            have h9 : Wb1.heap.size = p12 := hp12.symm
                            simp only [h9]
                            clear h9
                            have ub2 : Up (Wb1) Wb2 := by rw [← hW1]; exact (Up.refl _).alloc _
                            have ep12 : Wb2.heap[p12]? = some (.cells zS 27 (0, 0)) := by rw [hp12, ← hW1]; exact heap_alloc_new _ _
                            have lp12 : wr.heap.size ≤ p12 := by rw [hp12]; exact Ub1.size
                            have Ub2 := Ub1.trans ub2
                            have f4 := row_up f4 ub2
                            clear hHeld hW1 hp12
                            have hSS := Ub2
                            refine wpAnyH_ready (rs := [6]) (by kernel_rfl) (by simp) ?_
                            refine AllReadyH.cons rfl (fun K hK => ?_) AllReadyH.nil
                            simp only [List.getElem_toArray, List.getElem_cons_zero, List.getElem_cons_succ]
                            go_simp
                            refine Calls.mono (HAP.out _ _ Ub2 (IRow.il f4)) ?_
                            rintro r9 Wb3 ⟨X, rfl, h1X, h2X, f5, ub3⟩
                            have f5 := f5.less (HU.trans Ub2).size
                            go_simp
                            have Ub3 := Ub2.trans ub3
                            have f4 := row_up f4 ub3
                            have ep12 := ub3.heap ep12
                            refine hK.out _ _ ?_ (fun hHeld => ?_)
                            · exact Ub3
                            clear hK K
                            try simp only [Act.put, List.setIfInBounds_toArray, List.set_cons_zero, List.set_cons_succ]
                            have hSS := Ub3
                            refine wpAnyH_take (i := 7) (v := ?_) rfl (by kernel_rfl) (by kernel_rfl) (by kernel_rfl) (fun _ _ _ h => h) (Or.inl ⟨by rfl, ?_⟩) (by assumption) ?_
                            rotate_left
                            · intro w9 hSw
                              go_simp
                              try with_reducible rfl
                            simp only [Act.put, List.setIfInBounds_toArray, List.set_cons_zero, List.set_cons_succ, List.getElem_toArray, List.getElem_cons_zero, List.getElem_cons_succ]
                            refine wpAnyH_take (i := 8) (v := ?_) rfl (by kernel_rfl) (by kernel_rfl) (by kernel_rfl) (fun _ _ _ h => h) (Or.inl ⟨by rfl, ?_⟩) (by assumption) ?_
                            rotate_left
                            · intro w9 hSw
                              go_simp
                              try with_reducible rfl
                            simp only [Act.put, List.setIfInBounds_toArray, List.set_cons_zero, List.set_cons_succ, List.getElem_toArray, List.getElem_cons_zero, List.getElem_cons_succ]
                            refine wpAnyH_take (i := 9) (v := ?_) rfl (by kernel_rfl) (by kernel_rfl) (by kernel_rfl) (fun _ _ _ h => h) (Or.inl ⟨by rfl, ?_⟩) (by assumption) ?_
                            rotate_left
                            · intro w9 hSw
                              go_simp
                              try with_reducible rfl
                            simp only [Act.put, List.setIfInBounds_toArray, List.set_cons_zero, List.set_cons_succ, List.getElem_toArray, List.getElem_cons_zero, List.getElem_cons_succ]
                            refine wpAnyH_ready (rs := [11]) (by kernel_rfl) (by simp) ?_
                            refine AllReadyH.cons rfl (fun K hK => ?_) AllReadyH.nil
                            simp only [List.getElem_toArray, List.getElem_cons_zero, List.getElem_cons_succ]
                            refine stepH_store (by rfl) 27 (.tmp 12) (.tmp 77) (by rfl) p12 X (by rfl) (by rfl) 27 zS ep12 (by rw [h1X]; exact infoSt) (by rw [h1X]; rfl) (h2X) ?_
                            refine hK.out _ _ ?_ (fun hHeld => ?_)
                            · exact up_setRow Ub3 lp12 _
                            clear hK K
                            simp only [Act.put]
                            obtain ⟨Wb4, hW1⟩ : ∃ W1, (Wb3).setRow p12 X = W1 := ⟨_, rfl⟩
                            refine wpAnyH_world hW1 ?_
                            have Ub4 : Up wr Wb4 := by rw [← hW1]; exact up_setRow Ub3 lp12 _
                            have f5 := SOA.setRow (C := X) f5 ep12
                            rw [hW1] at f5
                            have ep12 : Wb4.heap[p12]? = some (.cells X 27 (0, 0)) := by rw [← hW1]; exact setRow_heap _ _ _ _ _ _ ep12
                            clear hHeld hW1
                            have hSS := Ub4
                            refine wpAnyH_take (i := 12) (v := ?_) rfl (by kernel_rfl) (by kernel_rfl) (by kernel_rfl) (fun _ _ _ h => h) (Or.inl ⟨by rfl, ?_⟩) (by assumption) ?_
                            rotate_left
                            · intro w9 hSw
                              go_simp
                              try with_reducible rfl
                            simp only [Act.put, List.setIfInBounds_toArray, List.set_cons_zero, List.set_cons_succ, List.getElem_toArray, List.getElem_cons_zero, List.getElem_cons_succ]
                            refine wpAnyH_done (by kernel_rfl) ?_ _
                            exact key16 Wb4 p12 X vn3 Ub4 ep12 f5 h1X h2X
                        · simp only [List.getElem_toArray, List.getElem_cons_zero, List.getElem_cons_succ]
                          go_simp
                          refine hK.out _ _ ?_ (fun hHeld => ?_)
                          · exact Ub0.alloc _
                          clear hK K
                          try simp only [Act.put, List.setIfInBounds_toArray, List.set_cons_zero, List.set_cons_succ]
                          obtain ⟨p12, hp12⟩ : ∃ p, p = (wr.drew).heap.size := ⟨_, rfl⟩
                          obtain ⟨Wb1, hW1⟩ : ∃ W1, (wr.drew).alloc (.cells zS 27) = W1 := ⟨_, rfl⟩
                          refine wpAnyH_world hW1 ?_
                          have h9 : wr.heap.size = p12 := hp12.symm
                          simp only [h9]
                          clear h9
                          have ub1 : Up (wr.drew) Wb1 := by rw [← hW1]; exact (Up.refl _).alloc _
                          have ep12 : Wb1.heap[p12]? = some (.cells zS 27 (0, 0)) := by rw [hp12, ← hW1]; exact heap_alloc_new _ _
                          have lp12 : wr.heap.size ≤ p12 := by rw [hp12]; exact Ub0.size
                          have Ub1 := Ub0.trans ub1
                          clear hHeld hW1 hp12
                          have hSS := Ub1
                          refine wpAnyH_ready (rs := [5]) (by kernel_rfl) (by simp) ?_
                          refine AllReadyH.cons rfl (fun K hK => ?_) AllReadyH.nil
                          simp only [List.getElem_toArray, List.getElem_cons_zero, List.getElem_cons_succ]
                          go_simp
                          refine Calls.mono (HCE.out _ Ub1) ?_
                          rintro r9 Wb2 ⟨vn3, rfl, f4, ub2⟩
                          go_simp
                          have Ub2 := Ub1.trans ub2
                          have ep12 := ub2.heap ep12
                          refine hK.out _ _ ?_ (fun hHeld => ?_)
                          · exact Ub2
                          clear hK K
                          try simp only [Act.put, List.setIfInBounds_toArray, List.set_cons_zero, List.set_cons_succ]
                          have hSS := Ub2
                          refine wpAnyH_ready (rs := [6]) (by kernel_rfl) (by simp) ?_
                          refine AllReadyH.cons rfl (fun K hK => ?_) AllReadyH.nil
                          simp only [List.getElem_toArray, List.getElem_cons_zero, List.getElem_cons_succ]
                          go_simp
                          refine Calls.mono (HAP.out _ _ Ub2 (IRow.il f4)) ?_
                          rintro r9 Wb3 ⟨X, rfl, h1X, h2X, f5, ub3⟩
                          have f5 := f5.less (HU.trans Ub2).size
                          go_simp
                          have Ub3 := Ub2.trans ub3
                          have ep12 := ub3.heap ep12
                          have f4 := row_up f4 ub3
                          refine hK.out _ _ ?_ (fun hHeld => ?_)
                          · exact Ub3
                          clear hK K
                          try simp only [Act.put, List.setIfInBounds_toArray, List.set_cons_zero, List.set_cons_succ]
                          have hSS := Ub3
                          refine wpAnyH_take (i := 7) (v := ?_) rfl (by kernel_rfl) (by kernel_rfl) (by kernel_rfl) (fun _ _ _ h => h) (Or.inl ⟨by rfl, ?_⟩) (by assumption) ?_
                          rotate_left
                          · intro w9 hSw
                            go_simp
                            try with_reducible rfl
                          simp only [Act.put, List.setIfInBounds_toArray, List.set_cons_zero, List.set_cons_succ, List.getElem_toArray, List.getElem_cons_zero, List.getElem_cons_succ]
                          refine wpAnyH_take (i := 8) (v := ?_) rfl (by kernel_rfl) (by kernel_rfl) (by kernel_rfl) (fun _ _ _ h => h) (Or.inl ⟨by rfl, ?_⟩) (by assumption) ?_
                          rotate_left
                          · intro w9 hSw
                            go_simp
                            try with_reducible rfl
                          simp only [Act.put, List.setIfInBounds_toArray, List.set_cons_zero, List.set_cons_succ, List.getElem_toArray, List.getElem_cons_zero, List.getElem_cons_succ]
                          refine wpAnyH_take (i := 9) (v := ?_) rfl (by kernel_rfl) (by kernel_rfl) (by kernel_rfl) (fun _ _ _ h => h) (Or.inl ⟨by rfl, ?_⟩) (by assumption) ?_
                          rotate_left
                          · intro w9 hSw
                            go_simp
                            try with_reducible rfl
                          simp only [Act.put, List.setIfInBounds_toArray, List.set_cons_zero, List.set_cons_succ, List.getElem_toArray, List.getElem_cons_zero, List.getElem_cons_succ]
                          refine wpAnyH_ready (rs := [11]) (by kernel_rfl) (by simp) ?_
                          refine AllReadyH.cons rfl (fun K hK => ?_) AllReadyH.nil
                          simp only [List.getElem_toArray, List.getElem_cons_zero, List.getElem_cons_succ]
                          refine stepH_store (by rfl) 27 (.tmp 12) (.tmp 77) (by rfl) p12 X (by rfl) (by rfl) 27 zS ep12 (by rw [h1X]; exact infoSt) (by rw [h1X]; rfl) (h2X) ?_
                          refine hK.out _ _ ?_ (fun hHeld => ?_)
                          · exact up_setRow Ub3 lp12 _
                          clear hK K
                          simp only [Act.put]
                          obtain ⟨Wb4, hW1⟩ : ∃ W1, (Wb3).setRow p12 X = W1 := ⟨_, rfl⟩
                          refine wpAnyH_world hW1 ?_
                          have Ub4 : Up wr Wb4 := by rw [← hW1]; exact up_setRow Ub3 lp12 _
                          have f5 := SOA.setRow (C := X) f5 ep12
                          rw [hW1] at f5
                          have ep12 : Wb4.heap[p12]? = some (.cells X 27 (0, 0)) := by rw [← hW1]; exact setRow_heap _ _ _ _ _ _ ep12
                          clear hHeld hW1
                          have hSS := Ub4
                          refine wpAnyH_take (i := 12) (v := ?_) rfl (by kernel_rfl) (by kernel_rfl) (by kernel_rfl) (fun _ _ _ h => h) (Or.inl ⟨by rfl, ?_⟩) (by assumption) ?_
                          rotate_left
                          · intro w9 hSw
                            go_simp
                            try with_reducible rfl
                          simp only [Act.put, List.setIfInBounds_toArray, List.set_cons_zero, List.set_cons_succ, List.getElem_toArray, List.getElem_cons_zero, List.getElem_cons_succ]
                          refine wpAnyH_done (by kernel_rfl) ?_ _
                          exact key16 Wb4 p12 X vn3 Ub4 ep12 f5 h1X h2X
                      case kpX =>
                        intro W11 p12 X vn3 U11 hX fX h1X h2X
                        have hA := U11.heap hA
                        have hC := U11.heap hC
                        have hg := U11.heap hg
                        have hio := row_up hio U11
                        have HE : Hid (EVO w.heap.size W11 (.slice ta L.length tc) L) := HE.out.up U11
                        have HU := HU.trans U11
                        clear U11 HCE HAP
                        have hpg : g ≠ p := by
                          rintro rfl
                          rw [hC] at hg
                          simp at hg
                        have hpA : w.heap.size ≠ p := by have := HPB.out; omega
                        obtain ⟨W12, hW12⟩ : ∃ W12, W11.setRow p X = W12 := ⟨_, rfl⟩
                        have hX2 : W12.heap[p]? = some (.cells X 27 (0, 0)) := by rw [← hW12]; exact setRow_heap _ _ _ _ _ _ hC
                        have hg2 : W12.heap[g]? = some (.cells (evc e vo2) 30 (0, 0)) := by rw [← hW12, setRow_other _ _ _ _ hpg]; exact hg
                        have hA2 : W12.heap[w.heap.size]? = some (.cells A 27 (0, 0)) := by rw [← hW12, setRow_other _ _ _ _ hpA]; exact hA
                        have hio2 : IRow w.heap.size W12 vo2 e.ord := by rw [← hW12]; exact row_setRow hio hC (by decide)
                        have HE2 : EVO w.heap.size W12 (.slice ta L.length tc) L := by rw [← hW12]; exact EVO.setRow HE.out hC
                        have fX2 : SO w.heap.size W12 (.agg X) t2 := by rw [← hW12]; exact SO.setRow (SOA.so fX) hC
                        have HU2 : Up w W12 := by rw [← hW12]; exact up_setRow HU (by have := HPB.out; omega) _
                        obtain ⟨W13, hW13⟩ : ∃ W13, W13 = W12.alloc (.cells (evc e vo2) 30) := ⟨_, rfl⟩
                        have u13 : Up W12 W13 := by rw [hW13]; exact (Up.refl _).alloc _
                        have hg13 : W13.heap[W12.heap.size]? = some (.cells (evc e vo2) 30 (0, 0)) := by rw [hW13]; exact heap_alloc_new _ _
                        obtain ⟨iT, hiT, z0, z1, z2⟩ := info_parts infoEvB
                        obtain ⟨vs, hv0, hz1, hz2⟩ := id HE2
                        have HV : Hid (W13.ownsRow w.heap.size 30 12 (.slice ta L.length tc) L.length (evsC L vs)) := row_up hz1 u13
                        have HMm : Hid (∀ j u, (evc e vo2).toList[j]? = some u → W13.cell? ((⟨W12.heap.size, 0, none⟩ : Addr).add j) = some u) := by
                          intro j u hj
                          rw [Addr.add_mid, Nat.zero_add, evc_cells hg13 j, ← hj, Array.getElem?_toList]
                        obtain ⟨oa2, oc2, hvo2⟩ := row_val hio2
                        have HO : Hid (∀ u ∈ (evc e vo2).toList, u.oneCell' = true) := by
                          have h9 := evc_one e oa2 e.ord.length oc2
                          rw [← hvo2, Array.all_eq_true'] at h9
                          intro u hu
                          exact h9 u (by simpa using hu)
                        have HS : Hid (w.heap.size ≤ W13.heap.size) := (HU2.trans u13).size
                        have HZ2 : Hid (∀ v' w2, w2.ownsRow w.heap.size 30 12 v' (L.length + 1) (evsC L vs ++ (evc e vo2).toList) → W13.grownBy w2 (Value.slice ta L.length tc).ownBlock → BkI w w2 p A s (i + 1) v') := by
                          intro v' w2 h1 h2
                          have hvs : ∀ vs', W12.ownsRow w.heap.size 30 12 (.slice ta L.length tc) L.length vs' → vs' = evsC L vs := fun vs' h => row_same h hz1
                          have hE3 := evo_more HE2 u13 (row_up hio2 u13) (fun xs h => by rw [hvs xs h]; exact h1) h2
                          obtain ⟨va', vc', hva⟩ := row_val h1
                          have hlen9 : (L ++ [e]).length = L.length + 1 := by simp
                          have k1 := row_up hz1 u13
                          refine ⟨L ++ [e], t2, X, va', vc', by rw [hlen9]; exact hva, by rw [hlen9]; omega, by rw [hlen9, ← hva]; exact hE3, HM2.out, ?_, h1X, h2X, ?_, ?_, ?_⟩
                          · exact keep_grown h2 (u13.heap hX2) (own_ne k1 (u13.heap hX2) (by decide))
                          · exact so_grown (fX2.up u13) h2 k1
                          · exact keep_grown h2 (u13.heap hA2) (own_ne k1 (u13.heap hA2) (by decide))
                          · refine Below.grown (HU2.trans u13) h2 HS.out ?_
                            intro k hk
                            exact (k1.lt k hk).1
                        clear hz1 hz2 hv0 HE2 hX2 hA2 hio2 fX2 HU2 u13 hg13 hA hio HE HU fX HM2
                        subst hvo2
                        unfold evc at hW13 HMm HO HZ2 hg2
                        subst hW13
                        go_wp2_with (first | (refine wpList_load_row (by rfl) 27 (.tmp 12) (by rfl) p12 (by rfl) 27 X (0, 0) _ hX Tryz.underlying27 (by rfl) (by rw [h1X]; exact infoSt) ?_) | (refine wpList_store_row rfl 27 (.tmp 5) (.tmp 81) rfl p X rfl rfl 27 C hC (by rw [h1X]; exact infoSt) (by rw [h1X, h1C]) h2X ?_; refine wpList_world hW12 ?_) | (refine wpList_load_row (by rfl) 30 (.tmp 85) (by rfl) g (by rfl) 30 _ (0, 0) _ hg2 Tryz.underlying30 (by rfl) infoEv ?_) | (at_builtin; go_loud (refine wpList_append_own _ (by rfl) (.tmp 82) (.tmp 87) 32 (by rfl) w.heap.size 30 iT _ 12 96 Tryz.underlying32 hiT z0 z1 z2 (by rfl) (by decide) (.slice ta L.length tc) L.length (evsC L vs) (by rfl) HV.out ⟨W12.heap.size, 0, none⟩ 1 1 _ (by rfl) (by rfl) HMm.out HO.out (by unfold maxLen; omega) (by omega) HS.out ?_); intro v' w2 hin hg1 _))
                        obtain ⟨va', vc', hva⟩ := row_val hin
                        have HF : Hid (BkI w w2 p A s (i + 1) v') := HZ2.out v' w2 hin hg1
                        clear hin hg1 HZ2 HV HMm HO HS
                        subst hva
                        go_wp2
                        go_roundw
                        case rel => exact .inr ⟨by go_num, HF.out⟩
                        case measure => simp [intOf]
                    · have HN : Hid (BkI w wr p A s (i + 1) _) := hbk
                      obtain ⟨L9, _, _, ta9, tc9, rfl, -⟩ := hbk
                      clear hA hC hg hio HCE HAP HE HU
                      go_wp2_with fail
                      go_roundw
                      case rel => exact ⟨i + 1, by omega, by go_num, HN.out⟩
                      case measure => simp [intOf] <;> omega
          · have hlt2 : ¬ (i : Int) < (n : Int) := by omega
            have hLn : L.length ≤ 4096 := by omega
            have HRP : Hid (∀ W v vl, StL W v s → EVS W vl L → Calls Tryz.prog 25 #[v, vl] W (RpT t W)) := fun W v vl h1 h2 => by
              have h9 := replay_ v vl s L W h1 HSM.out h2 (by omega) (fun i hi => Nat.le_trans (HT.out.short i hi) (by omega))
              rw [HT.out.rep] at h9
              exact h9.mono fun e w' h => rpt_of h
            have HBK : Hid (∀ W v vl, StL W v t → EVS W vl L → Calls Tryz.prog 27 #[v, vl] W (RpT s W)) := fun W v vl h1 h2 => by
              have h9 := back_ v vl t L W h1 HMT.out h2 (by omega) (fun i hi => Nat.le_trans (HT.out.short i hi) (by omega))
              rw [HT.out.bac] at h9
              exact h9.mono fun e w' h => rpt_of h
            have HCN : Hid (∀ W, Up wr W → Calls Tryz.prog 41 #[.agg C] W (CpPost W fun W' v => SO W.heap.size W' v t)) := fun W u => copyState_ (.agg C) t W (SO.sl (fC.up u)) HMT.out
            have HCV : Hid (∀ W, Up wr W → Calls Tryz.prog 44 #[.slice ta L.length tc] W (CpPost W fun W' v => EVO W.heap.size W' v L)) := fun W u => copyEvents_ _ L W (EVO.evs (HE.out.up u)) (by omega) HT.out.short
            have UZ : Up wr wr := Up.refl _
            go_wp2_with (first | (refine wpList_load_row (by rfl) 27 (.tmp 2) (by rfl) w.heap.size (by rfl) 27 A (0, 0) _ hA Tryz.underlying27 (by rfl) (by rw [hA1]; exact infoSt) ?_))
            refine Calls.mono (HCS.out _ HU) ?_
            rintro r W21 ⟨v1, rfl, f1, u21⟩
            have hA := u21.heap hA
            have hC := u21.heap hC
            have fC := fC.up u21
            have HU := HU.trans u21
            have UZ := UZ.trans u21
            clear u21
            go_wp2_with (fail)
            refine Calls.mono (HCV.out _ UZ) ?_
            rintro r W22 ⟨v2, rfl, e2, u22⟩
            have hA := u22.heap hA
            have hC := u22.heap hC
            have fC := fC.up u22
            have HU := HU.trans u22
            have UZ := UZ.trans u22
            have f1 := f1.up u22
            clear u22
            go_wp2_with (fail)
            refine Calls.mono (HRP.out _ _ _ (SO.sl f1) (EVO.evs e2)) ?_
            rintro r W23 ⟨X, rfl, h1X, h2X, fX, u23⟩
            have hA := u23.heap hA
            have hC := u23.heap hC
            have fC := fC.up u23
            have HU := HU.trans u23
            have UZ := UZ.trans u23
            have f1 := f1.up u23
            have e2 := e2.up u23
            clear u23
            obtain ⟨W23s, hwX⟩ : ∃ W9, (W23.alloc (.cells zS 27)).setRow W23.heap.size X = W9 := ⟨_, rfl⟩
            obtain ⟨rX, uu, -⟩ := filled W23 zS X 27
            rw [hwX] at rX uu
            have hA := uu.heap hA
            have hC := uu.heap hC
            have fC := fC.up uu
            have HU := HU.trans uu
            have UZ := UZ.trans uu
            have f1 := f1.up uu
            have e2 := e2.up uu
            have fX := fX.up uu
            clear uu
            go_wp2_with (first | (refine wpList_store_row rfl 27 (.tmp 14) (.tmp 95) rfl W23.heap.size X rfl rfl 27 zS (heap_alloc_new W23 _) (by rw [h1X]; exact infoSt) (by rw [h1X]; rfl) h2X ?_; refine wpList_world hwX ?_) | (refine wpList_load_row (by rfl) 27 (.tmp 5) (by rfl) p (by rfl) 27 C (0, 0) _ hC Tryz.underlying27 (by rfl) (by rw [h1C]; exact infoSt) ?_))
            refine Calls.mono (HCN.out _ UZ) ?_
            rintro r W24 ⟨v3, rfl, f3, u24⟩
            have hA := u24.heap hA
            have hC := u24.heap hC
            have fC := fC.up u24
            have HU := HU.trans u24
            have UZ := UZ.trans u24
            have f1 := f1.up u24
            have e2 := e2.up u24
            have fX := fX.up u24
            have rX := u24.heap rX
            clear u24
            go_wp2_with (fail)
            refine Calls.mono (HCV.out _ UZ) ?_
            rintro r W25 ⟨v4, rfl, e4, u25⟩
            have hA := u25.heap hA
            have hC := u25.heap hC
            have fC := fC.up u25
            have HU := HU.trans u25
            have UZ := UZ.trans u25
            have f1 := f1.up u25
            have e2 := e2.up u25
            have fX := fX.up u25
            have rX := u25.heap rX
            have f3 := f3.up u25
            clear u25
            go_wp2_with (fail)
            refine Calls.mono (HBK.out _ _ _ (SO.sl f3) (EVO.evs e4)) ?_
            rintro r W26 ⟨Y, rfl, h1Y, h2Y, fY, u26⟩
            have hA := u26.heap hA
            have hC := u26.heap hC
            have fC := fC.up u26
            have HU := HU.trans u26
            have UZ := UZ.trans u26
            have f1 := f1.up u26
            have e2 := e2.up u26
            have fX := fX.up u26
            have rX := u26.heap rX
            have f3 := f3.up u26
            have e4 := e4.up u26
            clear u26
            obtain ⟨W26s, hwY⟩ : ∃ W9, (W26.alloc (.cells zS 27)).setRow W26.heap.size Y = W9 := ⟨_, rfl⟩
            obtain ⟨rY, uu, -⟩ := filled W26 zS Y 27
            rw [hwY] at rY uu
            have hA := uu.heap hA
            have hC := uu.heap hC
            have fC := fC.up uu
            have HU := HU.trans uu
            have UZ := UZ.trans uu
            have f1 := f1.up uu
            have e2 := e2.up uu
            have fX := fX.up uu
            have rX := uu.heap rX
            have f3 := f3.up uu
            have e4 := e4.up uu
            have fY := fY.up uu
            clear uu
            go_wp2_with (first | (refine wpList_store_row rfl 27 (.tmp 17) (.tmp 104) rfl W26.heap.size Y rfl rfl 27 zS (heap_alloc_new W26 _) (by rw [h1Y]; exact infoSt) (by rw [h1Y]; rfl) h2Y ?_; refine wpList_world hwY ?_) | (refine wpList_load_rowG (by rfl) 27 (.tmp 14) (by rfl) W23.heap.size (by rfl) 27 X (0, 0) _ rX Tryz.underlying27 (by rfl) (by rw [h1X]; exact infoSt) ?_) | (refine wpList_load_rowG (by rfl) 27 (.tmp 5) (by rfl) p (by rfl) 27 C (0, 0) _ hC Tryz.underlying27 (by rfl) (by rw [h1C]; exact infoSt) ?_))
            refine Calls.mono (eqState_ (.agg X) (.agg C) t t _ (SO.sl (SOA.so fX)) (SO.sl fC) HMT.out (eqS_self0 t)) ?_
            rintro r W27 ⟨rfl, u27⟩
            have hA := u27.heap hA
            have hC := u27.heap hC
            have fC := fC.up u27
            have HU := HU.trans u27
            have UZ := UZ.trans u27
            have f1 := f1.up u27
            have e2 := e2.up u27
            have fX := fX.up u27
            have rX := u27.heap rX
            have f3 := f3.up u27
            have e4 := e4.up u27
            have fY := fY.up u27
            have rY := u27.heap rY
            clear u27
            go_wp2_with (first | (refine wpList_load_rowG (by rfl) 27 (.tmp 17) (by rfl) W26.heap.size (by rfl) 27 Y (0, 0) _ rY Tryz.underlying27 (by rfl) (by rw [h1Y]; exact infoSt) ?_) | (refine wpList_load_rowG (by rfl) 27 (.tmp 2) (by rfl) w.heap.size (by rfl) 27 A (0, 0) _ hA Tryz.underlying27 (by rfl) (by rw [hA1]; exact infoSt) ?_))
            refine Calls.mono (eqState_ (.agg Y) (.agg A) s s _ (SO.sl (SOA.so fY)) (by rw [HAV.out]; exact HST.out.up HU) HSM.out (eqS_self0 s)) ?_
            rintro r W28 ⟨rfl, u28⟩
            have hA := u28.heap hA
            have hC := u28.heap hC
            have fC := fC.up u28
            have HU := HU.trans u28
            have UZ := UZ.trans u28
            have f1 := f1.up u28
            have e2 := e2.up u28
            have fX := fX.up u28
            have rX := u28.heap rX
            have f3 := f3.up u28
            have e4 := e4.up u28
            have fY := fY.up u28
            have rY := u28.heap rY
            clear u28
            go_wp2_with (first | (refine wpList_load_rowG (by rfl) 27 (.tmp 2) (by rfl) w.heap.size (by rfl) 27 A (0, 0) _ hA Tryz.underlying27 (by rfl) (by rw [hA1]; exact infoSt) ?_) | (refine wpList_load_rowG (by rfl) 27 (.tmp 14) (by rfl) W23.heap.size (by rfl) 27 X (0, 0) _ rX Tryz.underlying27 (by rfl) (by rw [h1X]; exact infoSt) ?_))
            refine Calls.mono (sameCards_ (.agg A) (.agg X) s t _ (by rw [HAV.out]; exact HST.out.up HU) (SO.sl (SOA.so fX)) HT.out.there HT.out.keeps) ?_
            rintro r W29 ⟨rfl, u29⟩
            have hA := u29.heap hA
            have hC := u29.heap hC
            have fC := fC.up u29
            have HU := HU.trans u29
            have UZ := UZ.trans u29
            have f1 := f1.up u29
            have e2 := e2.up u29
            have fX := fX.up u29
            have rX := u29.heap rX
            have f3 := f3.up u29
            have e4 := e4.up u29
            have fY := fY.up u29
            have rY := u29.heap rY
            clear u29
            clear hA hC fC UZ rX rY fX fY f1 e2 f3 e4
            go_wp2_with fail
            refine Calls.mono (HLV.out _) ?_
            rintro r WZ ⟨rfl, uZ⟩
            have HZ : Hid (Up w WZ) := HU.trans uZ
            clear uZ HU
            go_wp2
            go_ret
            exact ⟨rfl, HZ.out⟩
      · simp only [hok, decide_false] at HMA
        clear hok
        go_enter Tryz.func8, Tryz.ntmps8
        go_wp2_with ((refine wpList_load_row (by rfl) 27 (.tmp 2) (by rfl) w.heap.size (by rfl) 27 A (0, 0) _ hA Tryz.underlying27 (by rfl) (by rw [hA1]; exact infoSt) ?_))
        refine Calls.mono (HBY.out _ HU) ?_
        rintro r W2 ⟨rfl, u2⟩
        have hA := u2.heap hA
        have HU := HU.trans u2
        clear u2
        go_wp2_with ((refine wpList_load_rowG (by rfl) 27 (.tmp 2) (by rfl) w.heap.size (by rfl) 27 A (0, 0) _ hA Tryz.underlying27 (by rfl) (by rw [hA1]; exact infoSt) ?_))
        refine Calls.mono (HMA.out _ HU) ?_
        rintro r W3 ⟨rfl, u3⟩
        have HZ : Hid (Up w W3) := HU.trans u3
        clear u3 HU hA
        go_wp2
        go_ret
        exact ⟨rfl, HZ.out⟩
end DE
end Go.Proofs.YtjabjiahienohaaGreatDoor
