
/-
  Done at both stacks in memory: what it answers is laid behind what is held.
-/
import Derived.Test.YtgonflnmkfgfhaaDod
namespace Go.Proofs.Ytgonflnmkfgfhaa
open Go.RowKit
attribute [local go_sem ↓] Go.wp_at_zero Go.wp_at_succ

namespace DS
open IN
theorem blk_two {w W : World} {hb base m g : Nat} {x v : Value} {xs : List Value} {cur : Array Value} (h : w.heap[g]? = some (.cells cur 3 (0, 0))) (hc : w.heap[hb]? = some (.cells #[x] 30 (0, 0))) (hrow : w.ownsRow base 37 1 v m xs) (t : LIS.Two hb v w W) : W.heap[g]? = some (.cells cur 3 (0, 0)) := by
  rw [t.2.2 g (Array.getElem?_eq_some_iff.1 h).1 ?_ ?_]
  · exact h
  · intro e
    subst e
    rw [hc] at h
    cases h
  · intro e
    rcases hrow.2 with ⟨rfl, _⟩ | ⟨g', cap, cur', rfl, _, hh, _⟩
    · cases e
    · have e' : g' = g := by simpa [Value.ownBlock] using e
      subst e'
      rw [hh] at h
      cases h
theorem row_two {w W : World} {hb base m b n : Nat} {x v vd : Value} {xs ys : List Value} (h : w.ownsRow b 3 1 vd n ys) (hc : w.heap[hb]? = some (.cells #[x] 30 (0, 0))) (hrow : w.ownsRow base 37 1 v m xs) (t : LIS.Two hb v w W) : W.ownsRow b 3 1 vd n ys := by
  refine ⟨h.1, ?_⟩
  rcases h.2 with h0 | ⟨g, cap, cur, e1, e2, e3, e4⟩
  · exact .inl h0
  · exact .inr ⟨g, cap, cur, e1, e2, blk_two e3 hc hrow t, e4⟩
theorem full_row {W : World} {g d : Nat} {zs : List Int} (h : W.heap[g]? = some (.cells (iv zs).toArray 3 (0, 0))) (hz : zs.length = d) (hd : d ≤ 100000) : W.ownsRow 0 3 1 (.slice (some ⟨g, 0, none⟩) d d) d (iv zs) := by
  have hl : (iv zs).length = d := by rw [iv_len]; exact hz
  exact ⟨by rw [hl, Nat.mul_one], .inr ⟨g, d, (iv zs).toArray, rfl, Nat.zero_le _, h, Nat.le_refl _, by unfold maxLen; omega, by simp [hl], by simp; exact List.take_of_length_le (by omega)⟩⟩
set_option maxRecDepth 100000 in
set_option maxHeartbeats 2000000 in
theorem does_done (sb b1 rb b2 : Nat) (v vd vu : Value) (all : List Int) (d : Nat) (most : Int) (un : List Int) (hb base m hcap : Nat) (ha : Option Addr) (xs : List Value) (on n : Int) (w : World)
    (hs : LIS.StackAt w sb b1 v all d most) (hr : RS.RSt w rb b2 vd vu most (all.take d) un) (hal : all.length ≤ 100000)
    (hc : w.heap[hb]? = some (.cells #[.slice ha m hcap] 30 (0, 0))) (hrow : w.ownsRow base 37 1 (.slice ha m hcap) m xs) (hbb : hb < base) (hbs : base ≤ w.heap.size) (hm : m ≤ 100000) :
    Calls Try.prog 8 #[.pointer (some ⟨sb, 0, none⟩), .pointer (some ⟨rb, 0, none⟩), op 3 on n, .pointer (some ⟨hb, 0, none⟩)] w fun e w' => e = .returned (.bool true) ∧ ∃ g ha' hcap', w.heap.size ≤ g ∧ w'.heap[g]? = some (.cells (iv (all.take d)).toArray 3 (0, 0)) ∧ w'.heap[hb]? = some (.cells #[.slice ha' (m + 1) hcap'] 30 (0, 0)) ∧ w'.ownsRow base 37 1 (.slice ha' (m + 1) hcap') (m + 1) (xs ++ [.slice (some ⟨g, 0, none⟩) d d]) ∧ LIS.Two hb (.slice ha m hcap) w w' := by
  obtain ⟨iS, hiS, y0, y1, y2⟩ := info_parts AE.infoS
  have hda := hs.2.2.2
  have hlen : (all.take d).length = d := by rw [List.length_take]; omega
  have HL : Hid (∀ W, Up w W → _) := fun W u => LIS.done_ sb b1 v all d most W (hs.up u) hal
  have hrc := hr.1
  obtain ⟨va, vc, hvd⟩ := row_val hr.2.1
  have hrd := hr.2.1
  rw [hlen] at hvd hrd
  subst hvd
  have HF : Hid (∀ (g : Nat) w1 W4 v4, Up w w1 → w1.heap[g]? = some (.cells (iv (all.take d)).toArray 3 (0, 0)) → (w1.alloc (.cells #[.slice (some ⟨g, 0, none⟩) d d] 37)).grownBy W4 (Value.slice ha m hcap).ownBlock → W4.ownsRow base 37 1 v4 (m + 1) (xs ++ [.slice (some ⟨g, 0, none⟩) d d]) → (W4.cell? ⟨hb, 0, none⟩ = some (.slice ha m hcap) ∧ W4.frozen? ⟨hb, 0, none⟩ = false) ∧ ((W4.setCell ⟨hb, 0, none⟩ v4).heap[g]? = some (.cells (iv (all.take d)).toArray 3 (0, 0)) ∧ (W4.setCell ⟨hb, 0, none⟩ v4).heap[hb]? = some (.cells #[v4] 30 (0, 0)) ∧ (W4.setCell ⟨hb, 0, none⟩ v4).ownsRow base 37 1 v4 (m + 1) (xs ++ [.slice (some ⟨g, 0, none⟩) d d]) ∧ LIS.Two hb (.slice ha m hcap) w (W4.setCell ⟨hb, 0, none⟩ v4)) ∧ (W4.setCell ⟨hb, 0, none⟩ v4).cell? ⟨rb, 1, none⟩ = some (.slice va d vc) ∧ Calls Try.prog 10 #[.slice (some ⟨g, 0, none⟩) d d, .slice va d vc] (W4.setCell ⟨hb, 0, none⟩ v4) fun e w' => e = .returned (.bool true) ∧ ∃ m, w' = (W4.setCell ⟨hb, 0, none⟩ v4).drewN m) := fun g w1 W4 v4 a1 a0 a2 a3 => by
    obtain ⟨p1, p2, p3, p4⟩ := heldFacts a1 hc hrow hbb a2 a3
    obtain ⟨-, -, -, q4⟩ := heldFacts (Up.refl w1) (a1.heap hc) (row_up hrow a1) hbb a2 a3
    have g1 := blk_two a0 (a1.heap hc) (row_up hrow a1) q4
    refine ⟨p1, ⟨g1, p2, p3, p4⟩, ?_, ?_⟩
    · refine LIS.two_cell p4 (RS.three3 hrc).2.1 (fun e => ?_) (fun e => ?_)
      · subst e
        rw [hc] at hrc
        cases hrc
      · rcases hrow.2 with ⟨e0, _⟩ | ⟨g', cap, cur', e0, _, hh, _⟩
        · rw [e0] at e; cases e
        · rw [e0] at e
          have e' : g' = rb := by simpa [Value.ownBlock] using e
          subst e'
          rw [hh] at hrc
          cases hrc
    · refine same_ _ _ (all.take d) _ (own_lies (base := 0) ?_) (own_lies (base := b2) ?_) (by omega)
      · rw [hlen]; exact full_row g1 hlen (by omega)
      · rw [hlen]; exact row_two hrd hc hrow p4
  have HC : Hid (∀ W, Up w W → _) := fun W u => And.intro (row_up hrow u) (u.heap hc)
  clear hs hr hrc hrd hc hrow
  unfold op
  go_enter Try.func8, Try.ntmps8
  go_wp2_with fail
  refine Calls.mono (HL.out _ ((Up.refl _).alloc _)) ?_
  rintro e w1 ⟨rfl, hg1, u⟩
  obtain ⟨g, hg⟩ : ∃ g, g = (w.alloc (.cells #[.int .i64 3, .int .i64 on, .int .i64 n] 32)).heap.size := ⟨_, rfl⟩
  rw [← hg] at hg1 ⊢
  have hgs : w.heap.size ≤ g := by rw [hg]; simp
  have u1 : Up w w1 := Up.trans ((Up.refl _).alloc _) u
  have HU : Hid (Up w w1) := u1
  have HG1 : Hid _ := hg1
  obtain ⟨r1, r2⟩ := HC.out w1 u1
  have d0 : w1.cell? ⟨hb, 0, none⟩ = some (.slice ha m hcap) := by simp [World.cell?, r2]
  have d1 : w1.frozen? ⟨hb, 0, none⟩ = false := by simp [World.frozen?, r2]
  have HR : Hid (w1.ownsRow base 37 1 (.slice ha m hcap) m xs) := r1
  have hz1 : base ≤ w1.heap.size := Nat.le_trans hbs u1.size
  clear u u1 hg1 hg r1 r2 HC HL
  go_wp2_with (at_builtin; refine wpList_append_own _ rfl (.tmp 82) (.tmp 84) 30 rfl base 37 iS (.slice none 0 0) 1 24 Try.underlying30 hiS y0 y1 y2 rfl (by decide) _ _ _ rfl (HR.out.alloc _) ⟨w1.heap.size, 0, none⟩ 1 1 [.slice (some ⟨g, 0, none⟩) d d] rfl rfl (World.news_of_block (cs := #[.slice (some ⟨g, 0, none⟩) d d]) (heap_alloc_new w1 _)) (by simp [Value.oneCell']) (by unfold maxLen; omega) (by omega) (by simp; omega) ?_; intro v4 W4 hown4 hgrow4 hkeep4; obtain ⟨a4, c4, hv4⟩ := row_val hown4; obtain ⟨⟨k0, kf⟩, kk, kr, ks⟩ := HF.out _ _ _ _ HU.out HG1.out hgrow4 hown4; subst hv4; have HK : Hid _ := kk; have HS : Hid _ := ks; clear hown4 hgrow4 hkeep4 kk ks)
  refine Calls.mono HS.out ?_
  rintro e w5 ⟨rfl, q, rfl⟩
  have uq : Up (W4.setCell ⟨hb, 0, none⟩ (.slice a4 (m + 1) c4)) ((W4.setCell ⟨hb, 0, none⟩ (.slice a4 (m + 1) c4)).drewN q) := (Up.refl _).drewN q
  have HZ : Hid _ := And.intro (uq.heap HK.out.1) (And.intro (uq.heap HK.out.2.1) (And.intro (row_up HK.out.2.2.1 uq) (LIS.two_trans' HK.out.2.2.2 uq)))
  clear uq
  go_wp2
  go_ret
  exact ⟨rfl, g, _, _, hgs, HZ.out⟩
end DS
end Go.Proofs.Ytgonflnmkfgfhaa
