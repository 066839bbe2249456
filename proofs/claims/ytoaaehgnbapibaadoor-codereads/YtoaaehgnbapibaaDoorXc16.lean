
/-
  Bytes that came in: wide, copied, equal, written over.
-/
import Derived.Test.YtoaaehgnbapibaaDoorXa16
import Derived.Test.YtoaaehgnbapibaaDoorSm8
namespace Go.Proofs.YtoaaehgnbapibaaDoor
open Go.RowKit
namespace CD
def BA (W : World) (b o : Nat) (B : List Int) : Prop := ∀ W', Up W W' → ∀ j, j < B.length → W'.cell? ⟨b, o + j, none⟩ = some (.int .u8 (B.getD j 0))
theorem BA.up {W W' : World} {b o : Nat} {B : List Int} (h : BA W b o B) (u : Up W W') : BA W' b o B := fun V x => h V (u.trans x)
theorem ba_bl {W : World} {b o c : Nat} {B : List Int} (h : BA W b o B) (hc : B.length ≤ c) : BL W (.slice (some ⟨b, o, none⟩) B.length c) B := by
  refine ⟨by simp [bvs], some ⟨b, o, none⟩, c, rfl, hc, fun _ => ⟨b, o, rfl, fun j hj => ?_⟩⟩
  rw [bvs_at (by omega)]
  exact h W (Up.refl _) j (by omega)
def LV (w : World) (v : Value) (B : List Int) : Prop := (v = .slice none 0 0 ∧ B = []) ∨ ∃ b o c, v = .slice (some ⟨b, o, none⟩) B.length c ∧ B.length ≤ c ∧ BA w b o B
theorem LV.up {w W : World} {v : Value} {B : List Int} (h : LV w v B) (u : Up w W) : LV W v B := by
  rcases h with h | ⟨b, o, c, h1, h2, h3⟩
  · exact .inl h
  · exact .inr ⟨b, o, c, h1, h2, h3.up u⟩
theorem own_lv {W : World} {base : Nat} {v : Value} {l : List Int} (h : W.ownsRow base 5 1 v l.length (bvs l)) : LV W v l := by
  have h0 := h
  rcases h.2 with ⟨rfl, h1⟩ | ⟨g, cap, cur, rfl, h1, h2, h3, h4⟩
  · exact .inl ⟨rfl, List.eq_nil_of_length_eq_zero h1⟩
  · refine .inr ⟨g, 0, cap, rfl, h3, fun W' u j hj => ?_⟩
    have h9 := h0.cellAt j (by omega)
    rw [bvs_at hj] at h9
    rw [Nat.zero_add]
    exact u.cell h9
def bts (l : List Int) : List Nat := l.map Int.toNat
theorem bts_len (l : List Int) : (bts l).length = l.length := by simp [bts]
theorem bts_getD {l : List Int} (hl : Byt l) (i : Nat) (h : i < l.length) : ((bts l).getD i 0 : Int) = l.getD i 0 := by
  have h1 := hl l[i] (List.getElem_mem h)
  simp [bts, List.getD, h]
  omega
theorem bts_bys {l : List Int} (hl : Byt l) : SM.Bys (bts l) := SM.Bys.of fun c hc => by
  obtain ⟨z, hz, rfl⟩ := List.mem_map.1 hc
  have := hl z hz
  omega
theorem bts_bv {l : List Int} (hl : Byt l) : (bts l).map SM.bv = bvs l := by
  unfold bts bvs
  rw [List.map_map]
  refine List.map_congr_left fun z hz => ?_
  have := hl z hz
  show Value.int .u8 ((z.toNat : Nat) : Int) = _
  congr 1
  omega
theorem BL.lies {W : World} {v : Value} {l : List Int} (h : BL W v l) (hl : Byt l) (hz : ∀ cap, v ≠ .slice none 0 (cap + 1)) : SM.Lies W v (bts l) := by
  obtain ⟨-, a, cap, rfl, hcap, hc⟩ := h
  have hbl : (bts l).length = l.length := bts_len l
  refine ⟨a, cap, by rw [hbl], fun ha => ?_, fun hn => ?_⟩
  · subst ha
    by_cases h0 : l.length = 0
    · cases cap with
      | zero => rfl
      | succ c => exact absurd (by rw [h0]) (hz c)
    · obtain ⟨b, off, hb, -⟩ := hc h0
      cases hb
  · rw [hbl] at hn
    obtain ⟨b, off, rfl, hcell⟩ := hc hn
    refine ⟨b, off, rfl, fun i hi => ?_⟩
    rw [hbl] at hi
    rw [hcell i (by omega), bvs_at hi, bts_getD hl i hi]
theorem copyT_ (v : Value) (B : List Int) (w : World) (h : BL w v B) (hl : Byt B) (hz : ∀ cap, v ≠ .slice none 0 (cap + 1)) (hn : B.length ≤ 4294967296) : Calls Tryd.prog 21 #[v] w fun e w' => ∃ u, e = .returned u ∧ w'.ownsRow w.heap.size 5 1 u B.length (bvs B) ∧ Up w w' := by
  refine Calls.mono (SM.copyB v (bts B) w (h.lies hl hz) (by rw [bts_len]; exact hn)) ?_
  rintro e w' ⟨u, h1, h2, h3⟩
  refine ⟨u, h1, ?_, h3⟩
  unfold SM.Owns at h2
  rw [bts_len, bts_bv hl] at h2
  exact h2
def WB (w W : World) (g : Nat) (B : List Int) : Prop := SM.Row W w.heap.size g (SM.fillL (bts B) (B.length + 64) (B.length + 64))
theorem wideT_ (v : Value) (B : List Int) (w : World) (h : BL w v B) (hl : Byt B) (hz : ∀ cap, v ≠ .slice none 0 (cap + 1)) (hn : B.length ≤ 2147483647) : Calls Tryd.prog 13 #[v] w fun e w' => ∃ g, e = .returned (.slice (some ⟨g, 0, none⟩) B.length (B.length + 64)) ∧ WB w w' g B ∧ Up w w' := by
  have h9 := SM.wideB v (bts B) w (h.lies hl hz) (bts_bys hl) (by rw [bts_len]; exact hn)
  rw [bts_len] at h9
  exact h9
theorem WB.up {w W W' : World} {g : Nat} {B : List Int} (h : WB w W g B) (u : Up W W') : WB w W' g B := SM.Row.up h u
theorem WB.ba {w W : World} {g : Nat} {B : List Int} (h : WB w W g B) (hl : Byt B) : BA W g 0 B := fun W' u j hj => by
  have h1 := SM.Row.cell (WB.up h u) j (by rw [SM.fillL_len]; omega)
  rw [SM.fillL_at _ _ _ _ (by omega), if_pos (by omega), if_pos (by rw [bts_len]; omega), bts_getD hl j hj] at h1
  rw [Nat.zero_add]
  exact h1
theorem WB.lv {w W : World} {g : Nat} {B : List Int} (h : WB w W g B) (hl : Byt B) : LV W (.slice (some ⟨g, 0, none⟩) B.length (B.length + 64)) B := .inr ⟨g, 0, _, rfl, by omega, h.ba hl⟩
theorem WB.bl {w W : World} {g : Nat} {B : List Int} (h : WB w W g B) (hl : Byt B) : BL W (.slice (some ⟨g, 0, none⟩) B.length (B.length + 64)) B := ba_bl (h.ba hl) (by omega)
theorem WB.spare {w W : World} {g : Nat} {B : List Int} (h : WB w W g B) : ∀ j, B.length ≤ j → j < B.length + 64 → W.cell? ⟨g, j, none⟩ = some (.int .u8 (SM.mark j : Nat)) := fun j h1 h2 => by
  rw [SM.Row.cell h j (by rw [SM.fillL_len]; omega), SM.fillL_at _ _ _ _ h2, if_pos h2, if_neg (by rw [bts_len]; omega)]
theorem eqT_ (v u : Value) (B : List Int) (w : World) (hv : BL w v B) (hu : BL w u B) (hl : Byt B) (hz : ∀ cap, v ≠ .slice none 0 (cap + 1)) (hz2 : ∀ cap, u ≠ .slice none 0 (cap + 1)) (hn : B.length ≤ 9223372036854775807) : Calls Tryd.prog 18 #[v, u] w fun e w' => e = .returned (.bool true) ∧ Up w w' := by
  have h8 := SM.eqB v u (bts B) (bts B) w (hv.lies hl hz) (hu.lies hl hz2) (by rw [bts_len]; exact hn)
  rw [decide_eq_true rfl] at h8
  exact h8
def Kg (g : Nat) (w w' : World) : Prop := w.heap.size ≤ w'.heap.size ∧ ∀ k, k < w.heap.size → k ≠ g → w'.heap[k]? = w.heap[k]?
theorem Kg.refl (g : Nat) (w : World) : Kg g w w := ⟨Nat.le_refl _, fun _ _ _ => rfl⟩
theorem Kg.trans {g : Nat} {a b c : World} (h : Kg g a b) (k : Kg g b c) : Kg g a c := ⟨Nat.le_trans h.1 k.1, fun j hj hg => (k.2 j (by have := h.1; omega) hg).trans (h.2 j hj hg)⟩
theorem Kg.up {g : Nat} {a b c : World} (h : Kg g a b) (u : Up b c) : Kg g a c := h.trans ⟨u.size, fun j hj _ => u.block j hj⟩
theorem Kg.set {g : Nat} {a b : World} (h : Kg g a b) (j : Nat) (v : Value) : Kg g a (b.setCell ⟨g, j, none⟩ v) := by
  refine h.trans ⟨by simp [World.setCell], fun k hk hg => ?_⟩
  simp only [World.setCell, Array.getElem?_modify]
  rw [if_neg (fun e => hg e.symm)]
theorem kg_at {g : Nat} {w W : World} {m : Nat} {o : Obj} (h : Kg g w W) (hm : w.heap[m]? = some o) (hg : m ≠ g) : W.heap[m]? = some o := by
  rw [h.2 m (Array.getElem?_eq_some_iff.1 hm).1 hg]
  exact hm
theorem row_kg {w w' : World} {g b e s n : Nat} {v : Value} {xs : List Value} (h : w.ownsRow b e s v n xs) (k : Kg g w w') (hg : g < b) : w'.ownsRow b e s v n xs := by
  refine ⟨h.1, ?_⟩
  rcases h.2 with h | ⟨g', cap, cur, e1, e2, e3, e4⟩
  · exact .inl h
  · exact .inr ⟨g', cap, cur, e1, e2, kg_at k e3 (by omega), e4⟩
structure OC (w : World) (g n : Nat) (C : List Int) (W : World) : Prop where
  ex : ∃ cur : Array Value, W.heap[g]? = some (.cells cur 5 (0, 0)) ∧ ∀ j, j < n → cur[j]? = some (.int .u8 (C.getD j 0))
  le : w.heap.size ≤ g
  len : C.length = n
  byt : Byt C
theorem OC.lt {w W : World} {g n : Nat} {C : List Int} (h : OC w g n C W) : g < W.heap.size := by
  obtain ⟨cur, h1, -⟩ := h.ex
  exact (Array.getElem?_eq_some_iff.1 h1).1
theorem OC.cell {w W : World} {g n : Nat} {C : List Int} (h : OC w g n C W) {j : Nat} (hj : j < n) : W.cell? ⟨g, j, none⟩ = some (.int .u8 (C.getD j 0)) := by
  obtain ⟨cur, h1, h2⟩ := h.ex
  simp only [World.cell?, h1, h2 j hj]
  rfl
theorem OC.frozen {w W : World} {g n : Nat} {C : List Int} (h : OC w g n C W) (j : Nat) : W.frozen? ⟨g, j, none⟩ = false := by
  obtain ⟨cur, h1, -⟩ := h.ex
  simp [World.frozen?, h1]
theorem OC.up {w W W' : World} {g n : Nat} {C : List Int} (h : OC w g n C W) (u : Up W W') : OC w g n C W' := by
  obtain ⟨cur, h1, h2⟩ := h.ex
  exact ⟨⟨cur, u.heap h1, h2⟩, h.le, h.len, h.byt⟩
theorem OC.set {w W : World} {g n : Nat} {C : List Int} (h : OC w g n C W) {i : Nat} (hi : i < n) {d : Int} (hd : 0 ≤ d ∧ d < 256) : OC w g n (C.set i d) (W.setCell ⟨g, i, none⟩ (.int .u8 d)) := by
  obtain ⟨cur, h1, h2⟩ := h.ex
  refine ⟨⟨cur.setIfInBounds i (.int .u8 d), set_cells h1, fun j hj => ?_⟩, h.le, by simp [h.len], fun c hc => ?_⟩
  · have hs : i < cur.size := by
      have := h2 i hi
      exact (Array.getElem?_eq_some_iff.1 this).1
    rw [Array.getElem?_setIfInBounds]
    by_cases e : i = j
    · subst e
      rw [if_pos rfl, if_pos hs]
      simp [List.getD, h.len, hi]
    · rw [if_neg e, h2 j hj]
      simp [List.getD, e]
  · rcases List.mem_or_eq_of_mem_set hc with h9 | h9
    · exact h.byt c h9
    · subst h9; exact hd
theorem OC.bl {w W : World} {g n c : Nat} {C : List Int} (h : OC w g n C W) (hc : n ≤ c) : BL W (.slice (some ⟨g, 0, none⟩) n c) C := by
  have h1 : BA W g 0 C := fun W' u j hj => by
    rw [Nat.zero_add]
    exact (h.up u).cell (by rw [← h.len]; exact hj)
  have h2 := ba_bl (c := c) h1 (by rw [h.len]; exact hc)
  rw [h.len] at h2
  exact h2
theorem oc_start {w W : World} {g : Nat} {B : List Int} (h : WB w W g B) (hl : Byt B) : OC w g B.length B W := by
  have hba := h.ba hl
  have h' : W.ownsRow w.heap.size 5 1 (.slice (some ⟨g, 0, none⟩) (SM.fillL (bts B) (B.length + 64) (B.length + 64)).length (SM.fillL (bts B) (B.length + 64) (B.length + 64)).length) (SM.fillL (bts B) (B.length + 64) (B.length + 64)).length _ := h
  rcases h'.2 with ⟨h9, -⟩ | ⟨g', cap, cur, e1, e2, e3, -⟩
  · cases h9
  · have e4 : g' = g := by
      simp only [Value.slice.injEq, Option.some.injEq, Addr.mk.injEq] at e1
      exact e1.1.1.symm
    subst e4
    refine ⟨⟨cur, e3, fun j hj => ?_⟩, e2, rfl, hl⟩
    have h8 := hba W (Up.refl _) j hj
    rw [Nat.zero_add] at h8
    simpa [World.cell?, e3] using h8
theorem own_lc8 {W : World} {base e s n : Nat} {v : Value} {xs : List Value} (h : W.ownsRow base e s v n xs) : LC W v s n xs := by
  refine ⟨h.1, ?_⟩
  rcases h.2 with ⟨rfl, rfl⟩ | ⟨g, cap, cur, rfl, _, _, hnc, _⟩
  · exact ⟨none, 0, rfl, Nat.le_refl _, fun h => absurd rfl h⟩
  · exact ⟨some ⟨g, 0, none⟩, cap, rfl, hnc, fun _ => ⟨g, 0, rfl, fun j hj => by rw [Nat.zero_add]; exact h.cellAt j hj⟩⟩
theorem own_bl8 {W : World} {base : Nat} {v : Value} {l : List Int} (h : W.ownsRow base 5 1 v l.length (bvs l)) : BL W v l := by
  rcases own_lv h with ⟨rfl, rfl⟩ | ⟨b, o, c, rfl, hc, hb⟩
  · exact ⟨rfl, none, 0, rfl, by simp, fun h9 => absurd rfl h9⟩
  · exact ba_bl hb hc
theorem up_kg {g : Nat} {a b : World} (u : Up a b) : Kg g a b := (Kg.refl g a).up u
end CD
end Go.Proofs.YtoaaehgnbapibaaDoor
