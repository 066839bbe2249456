/-
  What the Order of dice does.
-/
import Derived.Test.YthnpdlbcdaodkaaDoorOrd
namespace Go.Proofs.YthnpdlbcdaodkaaDoor
open Go.RowKit
set_option maxHeartbeats 400000 in
theorem order (b n z : Nat) (w : World) (h : Die w b z) (hn : n ≤ 65536) :
    Calls Tryd.prog 19 #[dieA b, .int .i64 n] w (OrdPost b n z w) := by
  have hlt : b < w.heap.size := (Array.getElem?_eq_some_iff.1 h).1
  have hd1 := h.up ((Up.refl w).alloc (.cells #[dieA b] 24))
  have hbx := heap_alloc_last w (.cells #[dieA b] 24)
  have c0 : (w.alloc (.cells #[dieA b] 24)).cell? ⟨w.heap.size, 0, none⟩ = some (dieA b) := by simp
  have HD : Hid (Die (w.alloc (.cells #[dieA b] 24)) b z) := hd1
  have HI : Hid (InvD b w.heap.size w z (w.alloc (.cells #[dieA b] 24))) := ⟨hd1, hbx, Only.up ((Up.refl w).alloc _)⟩
  obtain ⟨Post, hPost⟩ : ∃ P : Ending → World → Prop, P = OrdPost b n z w := ⟨_, rfl⟩
  rw [← hPost]
  have HPost : Hid (Post = OrdPost b n z w) := hPost
  clear hPost hd1 hbx h
  unfold dieA at HD HI c0 ⊢
  have hmf : ∀ (fn : Fn) (first cap : Array Value) (w : World), (Instr.makeFunc fn first cap).run Tryd.prog w = .ok (.func fn first cap) w := fun _ _ _ _ => rfl
  go_enter Tryd.func19, Tryd.ntmps19
  go_wp2_with fail
  refine (noneD b z _ HD.out).mono ?_
  rintro e w1 ⟨rfl, rfl⟩
  go_wp2_with fail
  refine (shuffle 53 #[] #[.pointer (some ⟨w.heap.size, 0, none⟩)] 0 n (InvD b w.heap.size w) askD nxtD (fun _ _ => True) _ (asksD b w.heap.size n w hn (by omega) _ (by simp)) z HI.out (fun _ => trivial) hn (Nat.zero_le _)).mono ?_
  intro e w2 hp
  have hp' : ShufPost (w.alloc (.cells #[.pointer (some ⟨b, 0, none⟩)] 24)) 0 (InvD b w.heap.size w) (ordR n z) e w2 := hp
  clear hp
  rw [ordR_eq] at hp'
  have hp2 := hp'.some
  clear hp'
  generalize hL : ordL n z = L at hp2
  generalize hZ : ordZ n z = Z at hp2
  obtain ⟨h1, h4, h5, g, hg, rfl, hr⟩ := hp2
  have hlen : L.length = n := by rw [← hL]; exact ordL_len n z
  rw [hlen]
  have HF : Hid (OrdPost b n z w (.returned (.slice (some ⟨g, 0, none⟩) n n)) w2) := by
    refine ⟨g, Nat.le_trans (by simp) hg, rfl, ?_, ?_, h1.2.2⟩
    · rw [hL]; exact hr
    · rw [hZ]; exact h1.1
  clear h1 h4 h5 hr hg HI HD c0 hL hZ hlen
  go_wp2
  first | rw [HPost.out] | (go_ret; rw [HPost.out])
  exact HF.out
end Go.Proofs.YthnpdlbcdaodkaaDoor
