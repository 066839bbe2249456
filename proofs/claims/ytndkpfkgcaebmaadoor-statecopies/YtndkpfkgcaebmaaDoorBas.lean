/-
  A state's lists into the bag.
-/
import Derived.Test.YtndkpfkgcaebmaaDoorBad
namespace Go.Proofs.YtndkpfkgcaebmaaDoor.BG
open Go.RowKit
attribute [local go_sem ↓] Go.wp_at_zero Go.wp_at_succ

/- a state whose lists lie within lo and hi, each in a block of its own -/
def StIn (W : World) (lo hi : Nat) (v : Value) : Prop := ∃ (vp vc vz t0 t1 t2 t3 : Value) (np nc nz : Nat) (vs : List Value) (ns : Nat → Nat), v = .agg #[vp, vc, vz, t0, t1, t2, t3] ∧ RowIn W lo hi 71 3 vp np ∧ RowIn W lo hi 73 6 vc nc ∧
  (W.ownsRow lo 74 1 vz nz vs ∧ nz ≤ 4294967296 ∧ ∀ g, vz.ownBlock = some g → g < hi) ∧ (∀ i, i < nz → RowIn W lo hi 3 1 (vs.getD i (.slice none 0 0)) (ns i)) ∧ RA nz vs
theorem StIn.below {W W' : World} {lo hi gb : Nat} {v : Value} (h : StIn W lo hi v) (b : Below gb W W') (hh : hi ≤ gb) : StIn W' lo hi v := by
  obtain ⟨vp, vc, vz, t0, t1, t2, t3, np, nc, nz, vs, ns, hv, h1, h2, ⟨h3, h4, h5⟩, h6, h7⟩ := h
  exact ⟨vp, vc, vz, t0, t1, t2, t3, np, nc, nz, vs, ns, hv, h1.below b hh, h2.below b hh, ⟨own_block h3 fun g hg => b.block g (by have := h5 g hg; omega), h4, h5⟩, fun i hi => (h6 i hi).below b hh, h7⟩
theorem RowIn.ge {W : World} {lo hi e s : Nat} {v : Value} {n : Nat} (h : RowIn W lo hi e s v n) {g : Nat} (hg : v.ownBlock = some g) : lo ≤ g := h.1.elim fun _ hx => row_ge hx hg
theorem GPost.mono {gb lo B : Nat} {f : Nat → Value} {L : Nat → VL} {S S' : Nat → Nat → Prop} {ks : List Nat} {W W' : World} {e : Ending} (h : GPost gb lo B f L S ks W e W') (k : ∀ j g, S j g → S' j g) : GPost gb lo B f L S' ks W e W' := by
  obtain ⟨he, f', L', h1, h2, h3, h4⟩ := h
  exact ⟨he, f', L', h1, h2, fun j g hg => (h3 j g hg).imp id (k j g), h4⟩
set_option maxRecDepth 100000 in
set_option maxHeartbeats 2000000 in
theorem addState_ (gb B lo0 lo hi : Nat) (f : Nat → Value) (L : Nat → VL) (v : Value) (w : World) (h : BagG w lo0 gb B f L) (hv : StIn w lo hi v) (hlo : lo0 ≤ lo) (hhi : hi ≤ gb) (hout : ∀ j g, Blks (L j) g → g < lo ∨ hi ≤ g) :
    Calls Tryd.prog 12 #[.pointer (some ⟨gb, 0, none⟩), v] w (GPost gb lo0 B f L (fun _ g => lo ≤ g ∧ g < hi) [7, 8, 12, 1] w) := by
  obtain ⟨vp, vc, vz, t0, t1, t2, t3, np, nc, nz, vs, ns, rfl, h1, h2, ⟨h3, h4, h5⟩, h6, h7⟩ := hv
  obtain ⟨Post, hPost⟩ : ∃ P : Ending → World → Prop, P = GPost gb lo0 B f L (fun _ g => lo ≤ g ∧ g < hi) [7, 8, 12, 1] w := ⟨_, rfl⟩
  rw [← hPost]
  have HPost : Hid (Post = GPost gb lo0 B f L (fun _ g => lo ≤ g ∧ g < hi) [7, 8, 12, 1] w) := hPost
  clear hPost
  have hlt := h.lt
  obtain ⟨⟨xs1, k1⟩, k2, k3⟩ := id h1
  obtain ⟨⟨xs2, k4⟩, k5, k6⟩ := id h2
  obtain ⟨a1, c1, e1⟩ := row_val k1
  obtain ⟨a2, c2, e2⟩ := row_val k4
  obtain ⟨a3, c3, e3⟩ := row_val h3
  have HA : Hid (∀ W, Up w W → Calls Tryd.prog 40 #[.pointer (some ⟨gb, 0, none⟩), vp] W (GPost gb lo0 B f L (fun j g => j = 7 ∧ vp.ownBlock = some g) [7] W)) := fun W u =>
    addPlayers_ gb B lo0 f L vp np W (h.up u) ⟨⟨xs1, own_low (row_up k1 u) hlo⟩, k2, fun g hg => ⟨by have := k3 g hg; omega, fun hb => by have := hout 7 g hb; have := h1.ge hg; have := k3 g hg; omega⟩⟩
  have HC : Hid (∀ W f1 (L1 : Nat → VL), Below gb w W → BagG W lo0 gb B f1 L1 → (∀ j g, Blks (L1 j) g → Blks (L j) g ∨ (j = 7 ∧ vp.ownBlock = some g)) → Calls Tryd.prog 21 #[.pointer (some ⟨gb, 0, none⟩), vc] W (GPost gb lo0 B f1 L1 (fun j g => j = 8 ∧ vc.ownBlock = some g) [8] W)) := fun W f1 L1 b hB hL =>
    addCards_ gb B lo0 f1 L1 vc nc W hB ⟨⟨xs2, own_low (own_block k4 fun g hg => b.block g (by have := k6 g hg; omega)) hlo⟩, k5, fun g hg => ⟨by have := k6 g hg; omega, fun hb => by
      rcases hL 8 g hb with hb | hb
      · have := hout 8 g hb; have := h2.ge hg; have := k6 g hg; omega
      · omega⟩⟩
  have HZ : Hid (∀ W f1 (L1 : Nat → VL), Below gb w W → BagG W lo0 gb B f1 L1 → (∀ j g, Blks (L1 j) g → Blks (L j) g ∨ (j = 7 ∧ vp.ownBlock = some g) ∨ (j = 8 ∧ vc.ownBlock = some g)) → Calls Tryd.prog 41 #[.pointer (some ⟨gb, 0, none⟩), vz] W (GPost gb lo0 B f1 L1 (fun j g => (j = 12 ∧ vz.ownBlock = some g) ∨ (j = 1 ∧ ∃ i, i < nz ∧ (vs.getD i (.slice none 0 0)).ownBlock = some g)) [12, 1] W)) := fun W f1 L1 b hB hL =>
    addRows_ gb B lo0 f1 L1 vz nz vs ns W hB (own_low (own_block h3 fun g hg => b.block g (by have := h5 g hg; omega)) hlo) h4 (fun g hg => ⟨by have := h5 g hg; omega, fun hb => by
      rcases hL 12 g hb with hb | hb | hb
      · have := hout 12 g hb; have := row_ge h3 hg; have := h5 g hg; omega
      · omega
      · omega⟩) (fun i hi => by
      obtain ⟨⟨xs, m1⟩, m2, m3⟩ := id (h6 i hi)
      refine ⟨⟨xs, own_low (own_block m1 fun g hg => b.block g (by have := m3 g hg; omega)) hlo⟩, m2, fun g hg => ⟨by have := m3 g hg; omega, fun hb => ?_⟩⟩
      rcases hL 1 g hb with hb | hb | hb
      · have := hout 1 g hb; have := (h6 i hi).ge hg; have := m3 g hg; omega
      · omega
      · omega) h7
  have HE : Hid (∀ W f1 (L1 : Nat → VL), Below gb w W → BagG W lo0 gb B f1 L1 → (∀ j g, Blks (L1 j) g → Blks (L j) g ∨ (j = 7 ∧ vp.ownBlock = some g) ∨ (j = 8 ∧ vc.ownBlock = some g) ∨ (j = 12 ∧ vz.ownBlock = some g) ∨ (j = 1 ∧ ∃ i, i < nz ∧ (vs.getD i (.slice none 0 0)).ownBlock = some g)) → (Oth gb f f1 w W ∧ ∀ j, j ∉ [7, 8, 12, 1] → L1 j = L j) → Post (.returned (.tuple #[])) W) := fun W f1 L1 b hB hL hO => by
    rw [HPost.out]
    refine ⟨rfl, f1, L1, hB, b, fun j g hg => ?_, hO⟩
    rcases hL j g hg with hb | ⟨-, hb⟩ | ⟨-, hb⟩ | ⟨-, hb⟩ | ⟨-, i, hi, hb⟩
    · exact .inl hb
    · exact .inr ⟨h1.ge hb, k3 g hb⟩
    · exact .inr ⟨h2.ge hb, k6 g hb⟩
    · exact .inr ⟨row_ge h3 hb, h5 g hb⟩
    · exact .inr ⟨(h6 i hi).ge hb, (h6 i hi).2.2 g hb⟩
  have hgw : gb ≤ w.heap.size := by omega
  have HX : Hid (∀ (X : Array Value) (T : Nat) (f1 : Nat → Value) (W : World), Oth gb f f1 (w.alloc (.cells X T)) W → W.heap[w.heap.size]? = some (.cells X T (0, 0)) ∧ ∀ k, k < 21 → (f1 k).ownBlock ≠ some w.heap.size) := fun X T f1 W o => by
    obtain ⟨o1, o2⟩ := o w.heap.size (by simp) (by omega) (fun k hk hg => by have := row_lt (h.kinds k hk).row hg; omega)
    exact ⟨o1.trans Array.getElem?_push_size, o2⟩
  have HO : Hid (∀ (X : Array Value) (T : Nat), Oth gb f f w (w.alloc (.cells X T))) := fun X T g g1 _ g3 => ⟨Below.heap_alloc _ _ _ g1, g3⟩
  rw [e1] at HA HC HZ HE ⊢
  rw [e2] at HC HZ HE ⊢
  rw [e3] at HZ HE ⊢
  clear h h1 h2 h3 h4 h5 h6 h7 k1 k2 k3 k4 k5 k6 e1 e2 e3 hout
  go_enter Tryd.func12, Tryd.ntmps12
  go_wp2_with fail
  refine Calls.mono (HA.out _ ((Up.refl _).alloc _)) ?_
  rintro e w1 ⟨rfl, f1, L1, d1, d2, d3, d4⟩
  have HD1 : Hid (BagG w1 lo0 gb B f1 L1) := d1
  have HD2 : Hid (Below gb w w1) := Below.trans ((Below.refl _ _).alloc hgw _) d2
  have HD3 : Hid _ := d3
  have HD4 : Hid (Oth gb f f1 w w1) := (HO.out _ _).trans d4.1 (by simp)
  have HE4 : Hid _ := d4.2
  obtain ⟨x1, x2⟩ := HX.out _ _ _ _ d4.1
  have HX1 : Hid _ := x1
  have HX2 : Hid _ := x2
  have y1 : w1.cell? ⟨w.heap.size, 1, none⟩ = some (.slice a2 nc c2) := by simp [World.cell?, x1]
  have HW1 : Hid (w.heap.size < w1.heap.size) := (Array.getElem?_eq_some_iff.1 x1).1
  clear d1 d2 d3 d4 x1 x2 HA HX HO
  go_wp2_with fail
  refine Calls.mono (HC.out _ f1 L1 HD2.out HD1.out HD3.out) ?_
  rintro e w2 ⟨rfl, f2, L2, d1, d2, d3, d4⟩
  have HB1 : Hid (BagG w2 lo0 gb B f2 L2) := d1
  have HB2 : Hid (Below gb w w2) := Below.trans HD2.out d2
  have HB3 : Hid (∀ j g, Blks (L2 j) g → Blks (L j) g ∨ (j = 7 ∧ (Value.slice a1 np c1).ownBlock = some g) ∨ (j = 8 ∧ (Value.slice a2 nc c2).ownBlock = some g)) := fun j g hg => by
    rcases d3 j g hg with h | h
    · exact (HD3.out j g h).imp id .inl
    · exact .inr (.inr h)
  have HB4 : Hid (Oth gb f f2 w w2 ∧ ∀ j, j ∉ [7, 8] → L2 j = L j) := ⟨HD4.out.trans d4.1 HD2.out.size, fun j hj => (d4.2 j (by simp at hj ⊢; omega)).trans (HE4.out j (by simp at hj ⊢; omega))⟩
  have x1 : w2.heap[w.heap.size]? = _ := (d4.1 w.heap.size HW1.out (by omega) HX2.out).1.trans HX1.out
  have y1 : w2.cell? ⟨w.heap.size, 2, none⟩ = some (.slice a3 nz c3) := by simp [World.cell?, x1]
  clear d1 d2 d3 d4 x1 HC HD1 HD2 HD3 HD4 HE4 HX1 HX2 HW1
  go_wp2_with fail
  refine Calls.mono (HZ.out _ f2 L2 HB2.out HB1.out HB3.out) ?_
  rintro e w3 ⟨rfl, f3, L3, d1, d2, d3, d4⟩
  have HF : Hid (Post (.returned (.tuple #[])) w3) := HE.out w3 f3 L3 (Below.trans HB2.out d2) d1 (fun j g hg => by
    rcases d3 j g hg with h | h
    · rcases HB3.out j g h with h | h | h
      · exact .inl h
      · exact .inr (.inl h)
      · exact .inr (.inr (.inl h))
    · exact .inr (.inr (.inr h))) ⟨HB4.out.1.trans d4.1 HB2.out.size, fun j hj => (d4.2 j (by simp at hj ⊢; omega)).trans (HB4.out.2 j (by simp at hj ⊢; omega))⟩
  clear d1 d2 d3 d4 HZ HE HB1 HB2 HB3 HB4
  go_wp2
  first | exact HF.out | (go_end0; exact HF.out)
end Go.Proofs.YtndkpfkgcaebmaaDoor.BG
