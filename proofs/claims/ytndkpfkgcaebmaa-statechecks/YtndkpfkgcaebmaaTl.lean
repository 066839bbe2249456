/-
  The list of things that are looked at, no program: the first that is not so is ff s.
-/
import Derived.Test.YtndkpfkgcaebmaaSt
namespace Go.Proofs.Ytndkpfkgcaebmaa
namespace ST
def thA (s : Stt) : List Bool := true :: (s.ps.map plyB ++ s.cs.map (crdB s.ps.length))
def thT (s : Stt) (k : Nat) : List Bool := if k < (flat s).length then [false] else [decide (s.cs.length ≤ k), decide (1 ≤ s.turn), numB s.whose s.ps.length, finB s, winB s]
def thL (s : Stt) : List Bool := if sizesB s = false then [false] else thA s ++ (List.replicate (good s.cs.length (flat s)) true ++ thT s (good s.cs.length (flat s)))
theorem rep_none (k : Nat) : (List.replicate k true).findIdx? (fun b => !b) = none := by
  rw [List.findIdx?_eq_none_iff]
  intro x hx
  rw [List.eq_of_mem_replicate hx]; rfl
theorem thL_ff (s : Stt) : (thL s).findIdx? (fun b => !b) = ff s := by
  have hgl := good_le s.cs.length (flat s)
  have hgs := good_small s.cs.length (flat s) (good s.cs.length (flat s)) hgl (fun i hi => good_ok _ _ i hi)
  unfold thL ff
  cases hs : sizesB s
  · simp
  · rw [if_neg (by simp), if_neg (by simp)]
    generalize good s.cs.length (flat s) = k at *
    unfold thA
    rw [List.findIdx?_append, List.findIdx?_cons, List.findIdx?_append, List.findIdx?_map, List.findIdx?_map, List.findIdx?_append, rep_none]
    simp only [Function.comp_def]
    cases h1 : s.ps.findIdx? (fun p => !plyB p) with
    | some i => simp; omega
    | none =>
      cases h2 : s.cs.findIdx? (fun c => !crdB s.ps.length c) with
      | some i => simp; omega
      | none =>
        unfold thT
        by_cases h3 : k < (flat s).length
        · simp [h3]; omega
        · by_cases h4 : k < s.cs.length
          · have : ¬ s.cs.length ≤ k := by omega
            simp [h3, h4, this, List.findIdx?_cons]; omega
          · have e4 : s.cs.length ≤ k := by omega
            have hk : k = s.cs.length := by omega
            by_cases h5 : 1 ≤ s.turn
            · cases h6 : numB s.whose s.ps.length
              · simp [h3, h4, e4, h5, List.findIdx?_cons]; omega
              · cases h7 : finB s
                · simp [h3, h4, e4, h5, List.findIdx?_cons]; omega
                · cases h8 : winB s
                  · simp [h3, h4, e4, h5, List.findIdx?_cons]; omega
                  · simp [h3, h4, e4, h5, List.findIdx?_cons]
            · simp [h3, h4, e4, h5, List.findIdx?_cons]; omega
theorem thL_len (s : Stt) : (thL s).length ≤ 1 + 4 + 256 + 256 + 5 := by
  have hgl := good_le s.cs.length (flat s)
  have hgs := good_small s.cs.length (flat s) (good s.cs.length (flat s)) hgl (fun i hi => good_ok _ _ i hi)
  unfold thL
  cases hs : sizesB s
  · simp
  · rw [if_neg (by simp)]
    simp only [sizesB, npB, ncB, Bool.and_eq_true, decide_eq_true_eq] at hs
    have : (thT s (good s.cs.length (flat s))).length ≤ 5 := by unfold thT; split <;> simp
    simp only [thA, List.length_append, List.length_cons, List.length_map, List.length_replicate]
    omega
end ST
end Go.Proofs.Ytndkpfkgcaebmaa
