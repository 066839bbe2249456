/-
  Is a list an order: what the law's own look does.
-/
import Derived.Test.YtilmkijbohjinaaPerm
namespace Go.Proofs.Ytilmkijbohjinaa
open Go.RowKit

set_option maxHeartbeats 400000 in
theorem equalI (v u : Value) (zs ys : List Int) (w : World) (hv : LiesI w v zs) (hu : LiesI w u ys) (hm : zs.length ≤ 4611686018427387904) :
    Calls Try.prog 14 #[v, u] w fun e w' => e = .returned (.bool (decide (zs = ys))) ∧ Up w w' := by
  obtain ⟨a, cap, rfl, h1⟩ := hv
  obtain ⟨a2, cap2, rfl, h2⟩ := hu
  by_cases hl : zs.length = ys.length
  · have H1 : Hid (zs.length ≠ 0 → ∃ b off, a = some ⟨b, off, none⟩ ∧ ∀ i, i < zs.length → w.cell? ⟨b, off + i, none⟩ = some (.int .i64 (zs.getD i 0))) := h1
    have H2 : Hid (ys.length ≠ 0 → ∃ b off, a2 = some ⟨b, off, none⟩ ∧ ∀ i, i < ys.length → w.cell? ⟨b, off + i, none⟩ = some (.int .i64 (ys.getD i 0))) := h2
    clear h1 h2
    obtain ⟨n, hn⟩ : ∃ n, n = zs.length := ⟨_, rfl⟩
    obtain ⟨r, hr⟩ : ∃ r, r = decide (zs = ys) := ⟨_, rfl⟩
    rw [← hr, ← hl, ← hn]
    have HN : Hid (n = zs.length) := hn
    have HL : Hid (zs.length = ys.length) := hl
    have HR : Hid (r = decide (zs = ys)) := hr
    rw [← hn] at hm
    clear hn hl hr
    have e0 : ((n : Int) == (n : Int)) = true := by simp
    go_enter Try.func14, Try.ntmps14
    go_wp2_with fail
    go_loopw [5] (fun i wr => ∃ k : Nat, k ≤ n ∧ i = .int .i64 k ∧ (∀ j, j < k → zs.getD j 0 = ys.getD j 0) ∧ Up w wr) (fun i _ => n - (intOf i).toNat)
    case atStart => exact ⟨0, Nat.zero_le _, rfl, fun j hj => absurd hj (Nat.not_lt_zero _), Up.refl _⟩
    case round =>
      obtain ⟨k, hk, rfl, hall, hup⟩ := hrel
      have HALL : Hid (∀ j, j < k → zs.getD j 0 = ys.getD j 0) := hall
      clear hall
      by_cases hlt : k < n
      · have hki : (k : Int) < (n : Int) := by omega
        obtain ⟨b, off, rfl, hc⟩ := H1.out (by have := HN.out; omega)
        obtain ⟨b2, off2, rfl, hc2⟩ := H2.out (by have := HN.out; have := HL.out; omega)
        have c1 := hup.cell (hc k (by have := HN.out; omega))
        have c2 := hup.cell (hc2 k (by have := HN.out; have := HL.out; omega))
        clear hc hc2
        obtain ⟨x, hx⟩ : ∃ x, x = zs.getD k 0 := ⟨_, rfl⟩
        obtain ⟨y, hy⟩ : ∃ y, y = ys.getD k 0 := ⟨_, rfl⟩
        rw [← hx] at c1
        rw [← hy] at c2
        have HX : Hid (x = zs.getD k 0) := hx
        have HY : Hid (y = ys.getD k 0) := hy
        clear hx hy
        by_cases hxy : x = y
        · subst hxy
          have e1 : (x == x) = true := by simp
          go_wp2_with fail
          go_quiet (fail)
          go_wp2
          go_roundw
          case rel =>
            have hq : ∀ j, j < k + 1 → zs.getD j 0 = ys.getD j 0 := by
              intro j hj
              by_cases e : j = k
              · subst e; rw [← HX.out, ← HY.out]
              · exact HALL.out j (by omega)
            first | exact ⟨k + 1, by omega, by go_num, hq, Up.drewN hup _⟩ | ((repeat apply Exists.intro); exact ⟨⟨k + 1, by omega, by go_num, hq, Up.drewN hup _⟩, rfl⟩)
          case measure => simp [intOf]; omega
        · have e1 : (x == y) = false := by simpa using hxy
          have hne : r = false := by
            rw [HR.out]
            apply decide_eq_false
            intro e
            exact hxy (by rw [HX.out, HY.out, e])
          have HE : Hid (r = false) := hne
          clear hne
          go_wp2_with fail
          go_quiet (fail)
          go_wp2
          go_ret
          exact ⟨by rw [HE.out]; rfl, Up.drewN hup _⟩
      · obtain rfl : k = n := by omega
        have hne : r = true := by
          rw [HR.out]
          apply decide_eq_true
          exact getD_ext HL.out (fun j hj => HALL.out j (by have := HN.out; omega))
        have HE : Hid (r = true) := hne
        clear hne
        go_wp2
        go_ret
        exact ⟨by rw [HE.out]; rfl, hup⟩
  · have hf : decide (zs = ys) = false := decide_eq_false (fun e => hl (by rw [e]))
    rw [hf]
    have e0 : ((zs.length : Int) == (ys.length : Int)) = false := by
      simp; omega
    generalize zs.length = n1 at *
    generalize ys.length = n2 at *
    clear h1 h2
    go_enter Try.func14, Try.ntmps14
    go_wp2
    go_ret
    exact ⟨rfl, Up.refl _⟩

def RowB (W : World) (g : Nat) (l : List Bool) : Prop := W.heap[g]? = some (.cells (l.map Value.bool).toArray 4 (0, 0))
theorem RowB.cell {W : World} {g : Nat} {l : List Bool} (h : RowB W g l) (j : Nat) (hj : j < l.length) : W.cell? ⟨g, j, none⟩ = some (.bool (l.getD j false)) := by
  simp [World.cell?, show W.heap[g]? = _ from h, hj]
theorem RowB.frozen {W : World} {g : Nat} {l : List Bool} (h : RowB W g l) (j : Nat) : W.frozen? ⟨g, j, none⟩ = false := by
  simp [World.frozen?, show W.heap[g]? = _ from h]
theorem RowB.set {W : World} {g : Nat} {l : List Bool} (h : RowB W g l) (j : Nat) (x : Bool) : RowB (W.setCell ⟨g, j, none⟩ (.bool x)) g (l.set j x) := by
  unfold RowB
  simp only [World.setCell, Array.getElem?_modify]
  rw [show W.heap[g]? = _ from h]
  simp [List.map_set]
theorem info4 : (Try.prog.info? 4).map (fun i => (i.zero, i.size, i.bytes)) = some (some (.bool false), 1, 1) := by kernel_rfl
theorem toList_madeB (n : Nat) : (madeCells (Value.bool false).cells (n * 1)).toList = (List.replicate n false).map Value.bool := by
  rw [Nat.mul_one]
  unfold madeCells
  apply List.ext_getElem
  · simp
  · intro i h1 h2; simp [Value.cells, Nat.mod_one]
theorem rowB_made {w : World} {base g n : Nat} (h : w.ownsRow base 4 1 (.slice (some ⟨g, 0, none⟩) n n) n (madeCells (Value.bool false).cells (n * 1)).toList) : RowB w g (List.replicate n false) := by
  rw [toList_madeB] at h
  rcases h.2 with ⟨e, _⟩ | ⟨g', cap, cur, e, _, hh, _, _, hs, ht⟩
  · cases e
  · cases e
    unfold RowB
    rw [hh, ← ht, Nat.mul_one, List.take_of_length_le (by simp; omega)]
def OrdZ (zs : List Int) : Prop := (∀ a, a < zs.length → 0 ≤ zs.getD a 0 ∧ zs.getD a 0 < (zs.length : Int)) ∧ ∀ a b, a < zs.length → b < zs.length → zs.getD a 0 = zs.getD b 0 → a = b
/- the first k are all right, and seen -/
def Seen (zs : List Int) (k : Nat) (bs : List Bool) : Prop := bs.length = zs.length ∧ (∀ a, a < k → 0 ≤ zs.getD a 0 ∧ zs.getD a 0 < (zs.length : Int)) ∧ (∀ a b, a < k → b < k → zs.getD a 0 = zs.getD b 0 → a = b) ∧ ∀ v, v < zs.length → (bs.getD v false = true ↔ ∃ a, a < k ∧ zs.getD a 0 = (v : Int))
theorem Seen.next {zs : List Int} {k v : Nat} {bs : List Bool} (h : Seen zs k bs) (hk : k < zs.length) (hv : zs.getD k 0 = (v : Int)) (hvl : v < zs.length) (hb : bs.getD v false = false) : Seen zs (k + 1) (bs.set v true) := by
  obtain ⟨h1, h2, h3, h4⟩ := h
  refine ⟨by simpa using h1, ?_, ?_, ?_⟩
  · intro a ha
    by_cases e : a = k
    · subst e; rw [hv]; omega
    · exact h2 a (by omega)
  · have hno : ∀ a, a < k → zs.getD a 0 ≠ zs.getD k 0 := by
      intro a ha e
      have := (h4 v hvl).2 ⟨a, ha, by rw [e]; exact hv⟩
      rw [hb] at this; cases this
    intro a b ha hb' e
    by_cases ea : a = k <;> by_cases eb : b = k
    · omega
    · subst ea; exact absurd e.symm (hno b (by omega))
    · subst eb; exact absurd e (hno a (by omega))
    · exact h3 a b (by omega) (by omega) e
  · intro u hu
    by_cases e : u = v
    · subst e
      have : (bs.set u true).getD u false = true := by simp [List.getD, h1, hvl]
      rw [this]
      exact ⟨fun _ => ⟨k, by omega, hv⟩, fun _ => rfl⟩
    · have : (bs.set v true).getD u false = bs.getD u false := by simp [List.getD, Ne.symm e]
      rw [this, h4 u hu]
      constructor
      · rintro ⟨a, ha, e2⟩; exact ⟨a, by omega, e2⟩
      · rintro ⟨a, ha, e2⟩
        by_cases ea : a = k
        · subst ea; rw [hv] at e2; omega
        · exact ⟨a, by omega, e2⟩
theorem Seen.start (zs : List Int) : Seen zs 0 (List.replicate zs.length false) := by
  refine ⟨by simp, fun a ha => by omega, fun a b ha => by omega, fun v hv => ?_⟩
  constructor
  · intro h
    simp [List.getD, hv] at h
  · rintro ⟨a, ha, _⟩; omega
def IsOPost (w : World) (zs : List Int) (e : Ending) (w' : World) : Prop := ∃ r : Bool, e = .returned (.bool r) ∧ (r = true ↔ OrdZ zs) ∧ Up w w'
set_option maxHeartbeats 1000000 in
theorem isOrder (v : Value) (zs : List Int) (w : World) (hv : LiesI w v zs) (hm : zs.length ≤ 65536) :
    Calls Try.prog 10 #[v] w (IsOPost w zs) := by
  obtain ⟨i4, hi4, z0, z1, z2⟩ := info_parts info4
  obtain ⟨a, cap, rfl, h1⟩ := hv
  have H1 : Hid (zs.length ≠ 0 → ∃ b off, a = some ⟨b, off, none⟩ ∧ ∀ i, i < zs.length → w.cell? ⟨b, off + i, none⟩ = some (.int .i64 (zs.getD i 0))) := h1
  clear h1
  obtain ⟨n, hn⟩ : ∃ n, n = zs.length := ⟨_, rfl⟩
  obtain ⟨Post, hPost⟩ : ∃ P : Ending → World → Prop, P = IsOPost w zs := ⟨_, rfl⟩
  rw [← hPost, ← hn]
  rw [← hn] at hm
  have HN : Hid (n = zs.length) := hn
  have HPost : Hid (Post = IsOPost w zs) := hPost
  clear hn hPost
  go_enter Try.func10, Try.ntmps10
  go_wp2_with (at_make; refine wpList_make_full _ rfl _ _ 52 rfl w.heap.size 4 i4 (.bool false) 1 Try.underlying52 hi4 z0 z1 .i64 .i64 _ _ n rfl rfl rfl rfl (by rw [z2]; omega) (by unfold maxLen; omega) (Nat.le_refl _) ?_; intro w1 hin hg1)
  have hup : Up w w1 := Below.grown (Up.refl _) hg1 (Nat.le_refl _) (fun k hk => by cases hk)
  have hrow := rowB_made hin
  have HROW : Hid (RowB w1 w.heap.size (List.replicate n false) ∧ Up w w1) := ⟨hrow, hup⟩
  clear hin hg1 hrow hup
  go_loopw [4] (fun i wr => ∃ (k : Nat) (bs : List Bool), k ≤ n ∧ i = .int .i64 k ∧ Seen zs k bs ∧ RowB wr w.heap.size bs ∧ Up w wr) (fun i _ => n - (intOf i).toNat)
  case atStart => exact ⟨0, List.replicate n false, Nat.zero_le _, rfl, by rw [HN.out]; exact Seen.start zs, HROW.out⟩
  case round =>
    obtain ⟨k, bs, hk, rfl, hseen, hr, hup⟩ := hrel
    clear HROW
    have HS : Hid (Seen zs k bs) := hseen
    have hbl : bs.length = n := by rw [HN.out]; exact hseen.1
    clear hseen
    by_cases hlt : k < n
    · have hki : (k : Int) < (n : Int) := by omega
      have hkz : k < zs.length := by have := HN.out; omega
      obtain ⟨b, off, rfl, hc⟩ := H1.out (by omega)
      have c1 := hup.cell (hc k hkz)
      have HK : Hid (k < zs.length) := hkz
      clear hc hkz
      obtain ⟨x, hx⟩ : ∃ x, x = zs.getD k 0 := ⟨_, rfl⟩
      rw [← hx] at c1
      have HX : Hid (zs.getD k 0 = x) := hx.symm
      clear hx
      by_cases hx0 : x < 0
      · have HF : Hid (Post (.returned (.bool false)) wr) := by
          unfold Hid; rw [HPost.out]
          refine ⟨false, rfl, ⟨fun h => (by cases h), fun h => ?_⟩, hup⟩
          have := (h.1 k HK.out).1; rw [HX.out] at this; omega
        clear hr
        go_wp2
        exact HF.out
      · by_cases hx1 : x < (n : Int)
        · obtain ⟨u, rfl⟩ := Int.eq_ofNat_of_zero_le (Int.not_lt.1 hx0)
          have hun : u < n := by omega
          have hx1' : ¬ (n : Int) ≤ (u : Int) := by omega
          have c2 := hr.cell u (by omega)
          have f2 := hr.frozen u
          by_cases hb : bs.getD u false = true
          · rw [hb] at c2
            have HF : Hid (Post (.returned (.bool false)) wr) := by
              unfold Hid; rw [HPost.out]
              refine ⟨false, rfl, ⟨fun h => (by cases h), fun h => ?_⟩, hup⟩
              obtain ⟨a, ha, e⟩ := (HS.out.2.2.2 u (by have := HN.out; omega)).1 hb
              have h9 := HK.out
              have := h.2 a k (by omega) h9 (by rw [e, HX.out])
              omega
            clear hr
            go_wp2
            exact HF.out
          · have hb' : bs.getD u false = false := by simpa using hb
            rw [hb'] at c2
            have HN2 : Hid (Seen zs (k + 1) (bs.set u true) ∧ RowB (wr.setCell ⟨w.heap.size, u, none⟩ (.bool true)) w.heap.size (bs.set u true) ∧ Up w (wr.setCell ⟨w.heap.size, u, none⟩ (.bool true))) :=
              ⟨HS.out.next HK.out HX.out (by have := HN.out; omega) hb', hr.set u true, Below.setCell hup (Nat.le_refl _) _⟩
            clear hr hb hb' HS
            go_wp2
            go_roundw
            case rel => first | exact ⟨k + 1, bs.set u true, by omega, by go_num, HN2.out⟩ | ((repeat apply Exists.intro); exact ⟨⟨k + 1, bs.set u true, by omega, by go_num, HN2.out⟩, rfl⟩)
            case measure => simp [intOf]; omega
        · have HF : Hid (Post (.returned (.bool false)) wr) := by
            unfold Hid; rw [HPost.out]
            refine ⟨false, rfl, ⟨fun h => (by cases h), fun h => ?_⟩, hup⟩
            have := (h.1 k HK.out).2; rw [HX.out, ← HN.out] at this; omega
          have hx1' : (n : Int) ≤ x := by omega
          clear hr
          go_wp2
          exact HF.out
    · obtain rfl : k = n := by omega
      have HF : Hid (Post (.returned (.bool true)) wr) := by
        unfold Hid; rw [HPost.out]
        refine ⟨true, rfl, ⟨fun _ => ?_, fun _ => rfl⟩, hup⟩
        have := HS.out
        rw [HN.out] at this
        exact ⟨this.2.1, this.2.2.1⟩
      clear hr
      go_wp2
      exact HF.out
theorem OrdZ.nat {zs : List Int} (h : OrdZ zs) : ∃ t : List Nat, zs = intsOf t ∧ Inj t ∧ ∀ a, a < t.length → t.getD a 0 < t.length := by
  have e : zs = intsOf (zs.map Int.toNat) := by
    apply List.ext_getElem
    · simp [intsOf]
    · intro i h1 h2
      have := (h.1 i h1).1
      simp only [List.getD, List.getElem?_eq_getElem h1, Option.getD_some] at this
      simp [intsOf]
      omega
  refine ⟨_, e, ?_, ?_⟩
  · intro a b ha hb hab
    have hl : (zs.map Int.toNat).length = zs.length := by simp
    refine h.2 a b (by omega) (by omega) ?_
    rw [e, intsOf_getD, intsOf_getD, hab]
  · intro a ha
    have hl : (zs.map Int.toNat).length = zs.length := by simp
    have := (h.1 a (by omega)).2
    rw [e, intsOf_getD, intsOf_len] at this
    omega
theorem OrdZ.of {t : List Nat} (h1 : Inj t) (h2 : ∀ a, a < t.length → t.getD a 0 < t.length) : OrdZ (intsOf t) := by
  refine ⟨fun a ha => ?_, fun a b ha hb e => ?_⟩
  · rw [intsOf_len] at ha ⊢
    rw [intsOf_getD]
    have := h2 a ha
    omega
  · rw [intsOf_len] at ha hb
    rw [intsOf_getD, intsOf_getD] at e
    exact h1 a b ha hb (by omega)
end Go.Proofs.Ytilmkijbohjinaa
