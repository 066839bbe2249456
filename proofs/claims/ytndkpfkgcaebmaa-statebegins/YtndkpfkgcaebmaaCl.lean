/-
  The program's copyList: a list of its own.
-/
import Derived.Test.YtndkpfkgcaebmaaCt
namespace Go.Proofs.Ytndkpfkgcaebmaa
open Go.RowKit
attribute [local go_sem ↓] Go.wp_at_zero Go.wp_at_succ

theorem own_made {W : World} {base g e s n : Nat} {xs : List Value} (h : W.heap[g]? = some (.cells xs.toArray e (0, 0))) (hl : xs.length = n * s) (hb : base ≤ g) (hn : n ≤ maxLen) : W.ownsRow base e s (.slice (some ⟨g, 0, none⟩) n n) n xs :=
  ⟨hl, .inr ⟨g, n, xs.toArray, rfl, hb, h, Nat.le_refl _, hn, by simpa using hl, by simp; exact List.take_of_length_le (by omega)⟩⟩
theorem splice_all (z cs : List Value) (h : z.length = cs.length) : splice z 0 cs = cs := by
  unfold splice
  simp [h]
namespace ST
theorem sizeP : (Try.prog.info? 70).map (·.size) = some 3 := by kernel_rfl
set_option maxRecDepth 100000 in
set_option maxHeartbeats 2000000 in
theorem copyLP_ (v : Value) (l : List Ply) (w : World) (hv : PLs w v l) (hn : l.length ≤ 4294967296) :
    Calls Try.prog 42 #[v] w (CpPost w fun W v' => PO w.heap.size W v' l) := by
  obtain ⟨iT, hiT, i0, i1, i2⟩ := info_parts infoP
  obtain ⟨Post, hPost⟩ : ∃ P : Ending → World → Prop, P = CpPost w fun W v' => PO w.heap.size W v' l := ⟨_, rfl⟩
  rw [← hPost]
  have HP : Hid (Post = CpPost w fun W v' => PO w.heap.size W v' l) := hPost
  have HV : Hid (LC w v 3 l.length (pvs l)) := hv
  have HO : Hid (∀ (a : Option Addr) (k : Nat) (w1 : World) (cur : List Value), v = .slice a l.length k → w1.heap[w.heap.size]? = some (.cells cur.toArray 70 (0, 0)) → cur.length = l.length * 3 → Up w w1 → ∃ w2, (Builtin.copy_ #[22, 22] 3 #[.slice (some ⟨w.heap.size, 0, none⟩) l.length l.length, .slice a l.length k]).run Try.prog w1 = .ok (goInt (Nat.min l.length l.length : Nat)) w2 ∧ PO w.heap.size w2 (.slice (some ⟨w.heap.size, 0, none⟩) l.length l.length) l ∧ Up w w2) := fun a k w1 cur hav hg hcl u => by
    have h := HV.out.up u
    have hlen := h.1
    obtain ⟨w2, hr, h2, h3⟩ := run_copyS (P := Try.prog) w1 22 22 3 70 3 (by decide) (some ⟨w.heap.size, 0, none⟩) a l.length l.length l.length k w.heap.size 0 cur 70 Try.underlying22 sizeP hg (pvs l) (by rw [hlen]; simp) (fun hp => by
      refine ⟨rfl, ?_⟩
      obtain ⟨-, a', k', e, -, hc⟩ := h
      rw [hav] at e
      cases e
      obtain ⟨b, off, rfl, hcell⟩ := hc (by intro h0; rw [hlen, h0] at hp; simp at hp)
      refine ⟨_, rfl, fun j x hj => ?_⟩
      rw [Addr.add_mid]
      have : j < (pvs l).length := (List.getElem?_eq_some_iff.1 hj).1
      rw [hcell j (by omega)]; exact hj) (by rw [hlen, hcl]; omega) (pvs_one l)
    rw [splice_all cur (pvs l) (by rw [hcl, hlen])] at h2
    exact ⟨w2, hr, own_made h2 hlen (Nat.le_refl _) (by unfold maxLen; omega), Up.trans' u h3 (Nat.le_refl _)⟩
  obtain ⟨a, k, rfl, -, -⟩ := lc_at hv
  obtain ⟨n, hn0⟩ : ∃ n, n = l.length := ⟨_, rfl⟩
  rw [← hn0] at hn HO ⊢
  have HN : Hid (n = l.length) := hn0
  clear hPost hv hn0 HV
  go_enter Try.func42, Try.ntmps42
  go_wp2_with (at_make; (refine wpList_make_full _ rfl _ _ 22 rfl w.heap.size 70 iT _ 3 Try.underlying22 hiT i0 i1 .i64 .i64 _ _ n rfl rfl rfl rfl (by rw [i2]; omega) (by unfold maxLen; omega) (Nat.le_refl _) ?_; intro w1 hin hg1; obtain ⟨w2, hr, ho, hu⟩ := HO.out _ _ w1 _ rfl (row_made hin) hin.1 (made_up hg1); have HF : Hid (PO w.heap.size w2 (.slice (some ⟨w.heap.size, 0, none⟩) n n) l ∧ Up w w2) := (by exact ⟨ho, hu⟩); clear hin hg1 ho hu HO))
  rw [HP.out]
  exact ⟨_, rfl, HF.out.1, HF.out.2⟩
theorem sizeC : (Try.prog.info? 35).map (·.size) = some 6 := by kernel_rfl
set_option maxRecDepth 100000 in
set_option maxHeartbeats 2000000 in
theorem copyLC_ (v : Value) (l : List Crd) (w : World) (hv : CLs w v l) (hn : l.length ≤ 4294967296) :
    Calls Try.prog 43 #[v] w (CpPost w fun W v' => CO w.heap.size W v' l) := by
  obtain ⟨iT, hiT, i0, i1, i2⟩ := info_parts infoC
  obtain ⟨Post, hPost⟩ : ∃ P : Ending → World → Prop, P = CpPost w fun W v' => CO w.heap.size W v' l := ⟨_, rfl⟩
  rw [← hPost]
  have HP : Hid (Post = CpPost w fun W v' => CO w.heap.size W v' l) := hPost
  have HV : Hid (LC w v 6 l.length (cvs l)) := hv
  have HO : Hid (∀ (a : Option Addr) (k : Nat) (w1 : World) (cur : List Value), v = .slice a l.length k → w1.heap[w.heap.size]? = some (.cells cur.toArray 35 (0, 0)) → cur.length = l.length * 6 → Up w w1 → ∃ w2, (Builtin.copy_ #[23, 23] 3 #[.slice (some ⟨w.heap.size, 0, none⟩) l.length l.length, .slice a l.length k]).run Try.prog w1 = .ok (goInt (Nat.min l.length l.length : Nat)) w2 ∧ CO w.heap.size w2 (.slice (some ⟨w.heap.size, 0, none⟩) l.length l.length) l ∧ Up w w2) := fun a k w1 cur hav hg hcl u => by
    have h := HV.out.up u
    have hlen := h.1
    obtain ⟨w2, hr, h2, h3⟩ := run_copyS (P := Try.prog) w1 23 23 3 35 6 (by decide) (some ⟨w.heap.size, 0, none⟩) a l.length l.length l.length k w.heap.size 0 cur 35 Try.underlying23 sizeC hg (cvs l) (by rw [hlen]; simp) (fun hp => by
      refine ⟨rfl, ?_⟩
      obtain ⟨-, a', k', e, -, hc⟩ := h
      rw [hav] at e
      cases e
      obtain ⟨b, off, rfl, hcell⟩ := hc (by intro h0; rw [hlen, h0] at hp; simp at hp)
      refine ⟨_, rfl, fun j x hj => ?_⟩
      rw [Addr.add_mid]
      have : j < (cvs l).length := (List.getElem?_eq_some_iff.1 hj).1
      rw [hcell j (by omega)]; exact hj) (by rw [hlen, hcl]; omega) (cvs_one l)
    rw [splice_all cur (cvs l) (by rw [hcl, hlen])] at h2
    exact ⟨w2, hr, own_made h2 hlen (Nat.le_refl _) (by unfold maxLen; omega), Up.trans' u h3 (Nat.le_refl _)⟩
  obtain ⟨a, k, rfl, -, -⟩ := lc_at hv
  obtain ⟨n, hn0⟩ : ∃ n, n = l.length := ⟨_, rfl⟩
  rw [← hn0] at hn HO ⊢
  have HN : Hid (n = l.length) := hn0
  clear hPost hv hn0 HV
  go_enter Try.func43, Try.ntmps43
  go_wp2_with (at_make; (refine wpList_make_full _ rfl _ _ 23 rfl w.heap.size 35 iT _ 6 Try.underlying23 hiT i0 i1 .i64 .i64 _ _ n rfl rfl rfl rfl (by rw [i2]; omega) (by unfold maxLen; omega) (Nat.le_refl _) ?_; intro w1 hin hg1; obtain ⟨w2, hr, ho, hu⟩ := HO.out _ _ w1 _ rfl (row_made hin) hin.1 (made_up hg1); have HF : Hid (CO w.heap.size w2 (.slice (some ⟨w.heap.size, 0, none⟩) n n) l ∧ Up w w2) := (by exact ⟨ho, hu⟩); clear hin hg1 ho hu HO))
  rw [HP.out]
  exact ⟨_, rfl, HF.out.1, HF.out.2⟩
theorem sizeI : (Try.prog.info? 3).map (·.size) = some 1 := by kernel_rfl
set_option maxRecDepth 100000 in
set_option maxHeartbeats 2000000 in
theorem copyLI_ (v : Value) (l : List Int) (w : World) (hv : IL w v l) (hn : l.length ≤ 4294967296) :
    Calls Try.prog 44 #[v] w (CpPost w fun W v' => IRow w.heap.size W v' l) := by
  obtain ⟨iT, hiT, i0, i1, i2⟩ := info_parts infoI
  obtain ⟨Post, hPost⟩ : ∃ P : Ending → World → Prop, P = CpPost w fun W v' => IRow w.heap.size W v' l := ⟨_, rfl⟩
  rw [← hPost]
  have HP : Hid (Post = CpPost w fun W v' => IRow w.heap.size W v' l) := hPost
  have HV : Hid (LC w v 1 l.length (ivs l)) := hv
  have HO : Hid (∀ (a : Option Addr) (k : Nat) (w1 : World) (cur : List Value), v = .slice a l.length k → w1.heap[w.heap.size]? = some (.cells cur.toArray 3 (0, 0)) → cur.length = l.length * 1 → Up w w1 → ∃ w2, (Builtin.copy_ #[36, 36] 3 #[.slice (some ⟨w.heap.size, 0, none⟩) l.length l.length, .slice a l.length k]).run Try.prog w1 = .ok (goInt (Nat.min l.length l.length : Nat)) w2 ∧ IRow w.heap.size w2 (.slice (some ⟨w.heap.size, 0, none⟩) l.length l.length) l ∧ Up w w2) := fun a k w1 cur hav hg hcl u => by
    have h := HV.out.up u
    have hlen := h.1
    obtain ⟨w2, hr, h2, h3⟩ := run_copyS (P := Try.prog) w1 36 36 3 3 1 (by decide) (some ⟨w.heap.size, 0, none⟩) a l.length l.length l.length k w.heap.size 0 cur 3 Try.underlying36 sizeI hg (ivs l) (by rw [hlen]; simp) (fun hp => by
      refine ⟨rfl, ?_⟩
      obtain ⟨-, a', k', e, -, hc⟩ := h
      rw [hav] at e
      cases e
      obtain ⟨b, off, rfl, hcell⟩ := hc (by intro h0; rw [hlen, h0] at hp; simp at hp)
      refine ⟨_, rfl, fun j x hj => ?_⟩
      rw [Addr.add_mid]
      have : j < (ivs l).length := (List.getElem?_eq_some_iff.1 hj).1
      rw [hcell j (by omega)]; exact hj) (by rw [hlen, hcl]; omega) (ivs_one l)
    rw [splice_all cur (ivs l) (by rw [hcl, hlen])] at h2
    exact ⟨w2, hr, own_made h2 hlen (Nat.le_refl _) (by unfold maxLen; omega), Up.trans' u h3 (Nat.le_refl _)⟩
  obtain ⟨a, k, rfl, -, -⟩ := lc_at hv
  obtain ⟨n, hn0⟩ : ∃ n, n = l.length := ⟨_, rfl⟩
  rw [← hn0] at hn HO ⊢
  have HN : Hid (n = l.length) := hn0
  clear hPost hv hn0 HV
  go_enter Try.func44, Try.ntmps44
  go_wp2_with (at_make; (refine wpList_make_full _ rfl _ _ 36 rfl w.heap.size 3 iT _ 1 Try.underlying36 hiT i0 i1 .i64 .i64 _ _ n rfl rfl rfl rfl (by rw [i2]; omega) (by unfold maxLen; omega) (Nat.le_refl _) ?_; intro w1 hin hg1; obtain ⟨w2, hr, ho, hu⟩ := HO.out _ _ w1 _ rfl (row_made hin) hin.1 (made_up hg1); have HF : Hid (IRow w.heap.size w2 (.slice (some ⟨w.heap.size, 0, none⟩) n n) l ∧ Up w w2) := (by exact ⟨ho, hu⟩); clear hin hg1 ho hu HO))
  rw [HP.out]
  exact ⟨_, rfl, HF.out.1, HF.out.2⟩
end ST
end Go.Proofs.Ytndkpfkgcaebmaa
