/-
  What New makes may be, and where its cards stand; no program.
-/
import Derived.Test.YtndkpfkgcaebmaaSt
namespace Go.Proofs.Ytndkpfkgcaebmaa
namespace ST
theorem numsF_split (a k l : Nat) : numsF a (k + l) = numsF a k ++ numsF (a + k) l := by
  unfold numsF
  rw [List.range_add, List.map_append, List.map_map]
  congr 1
  apply List.map_congr_left
  intro i _
  simp only [Function.comp_def]
  rw [Nat.add_assoc]
theorem zonesF_flat : ∀ (ds : List (List Crd)) (a : Nat), (zonesF a ds).flatten = numsF a (total ds) := by
  intro ds
  induction ds with
  | nil => intro a; rfl
  | cons d ds ih =>
    intro a
    have : total (d :: ds) = d.length + total ds := by simp [total]
    rw [this, numsF_split, ← ih (a + d.length)]
    simp [zonesF]
theorem zonesF_length : ∀ (ds : List (List Crd)) (a : Nat), (zonesF a ds).length = 4 * ds.length := by
  intro ds
  induction ds with
  | nil => intro a; rfl
  | cons d ds ih => intro a; simp only [zonesF, List.length_cons, ih]; omega
theorem cardsF_ok (n : Nat) : ∀ (ds : List (List Crd)) (p : Nat), p + ds.length ≤ n → (ds.all (fun d => d.all crd0B)) = true → ∀ c ∈ cardsF p ds, crdB n c = true := by
  intro ds
  induction ds with
  | nil => intro p _ _ c hc; cases hc
  | cons d ds ih =>
    intro p hp hall c hc
    simp only [List.all_cons, Bool.and_eq_true] at hall
    simp only [List.length_cons] at hp
    rcases List.mem_append.1 hc with hc | hc
    · simp only [owned, List.mem_map] at hc
      obtain ⟨c0, h0, rfl⟩ := hc
      have h1 := List.all_eq_true.1 hall.1 c0 h0
      simp only [crdB, Bool.and_eq_true]
      exact ⟨h1, by simp [numB]; omega⟩
    · exact ih (p + 1) (by omega) hall.2 c hc
theorem zones_at : ∀ (ds : List (List Crd)) (a p i : Nat), i < total ds → ∃ z j, z < ds.length ∧ j < ((zonesF a ds).getD (4 * z) []).length ∧ ((zonesF a ds).getD (4 * z) []).getD j 0 = ((a + i : Nat) : Int) ∧ ((cardsF p ds).getD i dc).owner = ((p + z : Nat) : Int) := by
  intro ds
  induction ds with
  | nil => intro a p i h; simp [total] at h
  | cons d ds ih =>
    intro a p i h
    have ht : total (d :: ds) = d.length + total ds := by simp [total]
    by_cases hi : i < d.length
    · refine ⟨0, i, by simp, ?_, ?_, ?_⟩
      · simp [zonesF, numsF, hi]
      · simp [zonesF, numsF, hi]
      · rw [cardsF, List.getD_eq_getElem?_getD, List.getElem?_append_left (by simpa [owned] using hi)]
        simp [owned, hi]
    · obtain ⟨z, j, h1, h2, h3, h4⟩ := ih (a + d.length) (p + 1) (i - d.length) (by omega)
      refine ⟨z + 1, j, by simpa using h1, ?_, ?_, ?_⟩
      · rw [show 4 * (z + 1) = 4 * z + 1 + 1 + 1 + 1 by omega]
        simpa only [zonesF, List.getD_cons_succ] using h2
      · rw [show 4 * (z + 1) = 4 * z + 1 + 1 + 1 + 1 by omega]
        simp only [zonesF, List.getD_cons_succ]
        rw [h3]
        congr 1
        omega
      · rw [cardsF, List.getD_eq_getElem?_getD, List.getElem?_append_right (by simpa [owned] using (by omega : d.length ≤ i))]
        rw [show i - (owned p d).length = i - d.length by simp [owned], ← List.getD_eq_getElem?_getD, h4]
        congr 1
        omega
theorem new_may (ds : List (List Crd)) (li en : Int) (h : newB ds li en = true) : ff (newS ds li en) = none := by
  simp only [newB, decksB, Bool.and_eq_true] at h
  obtain ⟨⟨⟨⟨hn, hc⟩, hall⟩, hli⟩, hen⟩ := h
  have hn2 := hn
  simp only [npB, Bool.and_eq_true, decide_eq_true_eq] at hn2
  have hcl : (cardsF 0 ds).length = total ds := cardsF_len ds 0
  refine (ff_none _).2 ⟨⟨?_, ?_, ?_, ?_, ?_, ?_, ?_⟩, ?_, ?_⟩
  · simp only [sizesB, newS, List.length_replicate, Bool.and_eq_true, decide_eq_true_eq]
    exact ⟨⟨hn, by rw [hcl]; exact hc⟩, zonesF_length ds 0⟩
  · intro p hp
    simp only [newS] at hp
    rw [List.eq_of_mem_replicate hp]
    simp [plyB, hli, hen]
  · intro c hc
    simp only [newS, List.length_replicate] at hc ⊢
    exact cardsF_ok ds.length ds 0 (by omega) hall c hc
  · simp [newS]
  · simp [newS, numB]; omega
  · simp [newS, finB]
  · simp [newS, winB]
  · show Ent (cardsF 0 ds).length (zonesF 0 ds).flatten
    rw [zonesF_flat, hcl]
    refine ⟨?_, fun x hx => ?_⟩
    · unfold numsF List.Nodup
      rw [List.pairwise_map]
      exact List.Pairwise.imp (fun {a b} (h : a ≠ b) => by omega) (List.nodup_range (n := total ds))
    · simp only [numsF, List.mem_map, List.mem_range] at hx
      obtain ⟨i, hi, rfl⟩ := hx
      simp [numB]; omega
  · show (zonesF 0 ds).flatten.length = (cardsF 0 ds).length
    rw [zonesF_flat, hcl]
    simp [numsF]
theorem new_where (ds : List (List Crd)) (li en : Int) (h : newB ds li en = true) (i : Nat) (hi : i < total ds) : ∃ z j, whereOf (newS ds li en) (i : Int) = some (4 * z, j) ∧ z < ds.length ∧ ((newS ds li en).cs.getD i dc).owner = (z : Int) := by
  have hm := new_may ds li en h
  obtain ⟨z, j, h1, h2, h3, h4⟩ := zones_at ds 0 0 i hi
  have hent := (ff_none _).1 hm
  refine ⟨z, j, ?_, h1, by simpa [newS] using h4⟩
  rw [whereOf, if_pos hm]
  have := flat_one (newS ds li en).zs hent.2.1.1 (i : Int) (4 * z) j 0 (by show 4 * z < (zonesF 0 ds).length; rw [zonesF_length]; omega) h2 (by simpa [newS] using h3)
  rw [this, Nat.zero_add]
end ST
end Go.Proofs.Ytndkpfkgcaebmaa
