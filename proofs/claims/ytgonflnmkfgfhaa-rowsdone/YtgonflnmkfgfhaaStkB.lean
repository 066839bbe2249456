
/-
  What the calls at a stack of small ints do.
-/
import Derived.Test.YtgonflnmkfgfhaaSl
namespace Go.Proofs.Ytgonflnmkfgfhaa
open Go.RowKit
attribute [local go_sem ↓] Go.wp_at_zero Go.wp_at_succ

namespace LBS
abbrev X := Int
def dx : X := 0
def fl (x : X) : List Value := [.int .i8 x]
def flX (xs : List X) : List Value := xs.flatMap fl
theorem fl_len (x : X) : (fl x).length = 1 := rfl
theorem flX_len (xs : List X) : (flX xs).length = xs.length * 1 := flat_len fl 1 fl_len xs
theorem infoT : (Try.prog.info? 51).map (fun i => (i.zero, i.size, i.bytes)) = some (some (.int .i8 0), 1, 1) := by kernel_rfl
theorem sizeT : (Try.prog.info? 51).map (·.size) = some 1 := by kernel_rfl
theorem zeroT : ∀ w, (zeroValue 51).run Try.prog w = .ok (.int .i8 0) w := fun w => by
  obtain ⟨i, hi, h0, -, -⟩ := info_parts infoT
  simp [zeroValue, typeInfo, hi, h0]
theorem three_cells {W : World} {a : Nat} {x y z : Value} {t : TypeId} (h : W.heap[a]? = some (.cells #[x, y, z] t (0, 0))) : W.cell? ⟨a, 0, none⟩ = some x ∧ W.cell? ⟨a, 1, none⟩ = some y ∧ W.cell? ⟨a, 2, none⟩ = some z ∧ (∀ j, W.frozen? ⟨a, j, none⟩ = false) := by
  refine ⟨by simp [World.cell?, h], by simp [World.cell?, h], by simp [World.cell?, h], fun j => by simp [World.frozen?, h]⟩
theorem put0 {W : World} {a : Nat} {x y z : Value} {t : TypeId} (h : W.heap[a]? = some (.cells #[x, y, z] t (0, 0))) (x' : Value) : (W.setCell ⟨a, 0, none⟩ x').heap[a]? = some (.cells #[x', y, z] t (0, 0)) := by
  simp only [World.setCell, Array.getElem?_modify]; rw [h]; simp
theorem put1 {W : World} {a : Nat} {x y z : Value} {t : TypeId} (h : W.heap[a]? = some (.cells #[x, y, z] t (0, 0))) (y' : Value) : (W.setCell ⟨a, 1, none⟩ y').heap[a]? = some (.cells #[x, y', z] t (0, 0)) := by
  simp only [World.setCell, Array.getElem?_modify]; rw [h]; simp
/- a stack in memory: all its things, how many of them are done, how many it takes -/
def Hd (W : World) (sb : Nat) (v : Value) (d : Nat) (most : Int) : Prop := W.heap[sb]? = some (.cells #[v, .int .i64 d, .int .i64 most] 77 (0, 0))
def StackAt (W : World) (sb base : Nat) (v : Value) (all : List X) (d : Nat) (most : Int) : Prop :=
  Hd W sb v d most ∧ W.ownsRow base 51 1 v all.length (flX all) ∧ sb < base ∧ d ≤ all.length
/- what changes: the stack's own block, its row, new blocks -/
def Two (b : Nat) (v : Value) (w w' : World) : Prop := (w'.os = w.os ∧ w'.tape = w.tape ∧ w'.output = w.output) ∧ w.heap.size ≤ w'.heap.size ∧ ∀ g, g < w.heap.size → g ≠ b → v.ownBlock ≠ some g → w'.heap[g]? = w.heap[g]?
theorem StackAt.up {W W' : World} {sb base : Nat} {v : Value} {all : List X} {d : Nat} {most : Int} (h : StackAt W sb base v all d most) (u : Up W W') : StackAt W' sb base v all d most := ⟨u.heap h.1, row_up h.2.1 u, h.2.2⟩
theorem StackAt.cells {W : World} {sb base g cap : Nat} {all : List X} {d : Nat} {most : Int} (h : StackAt W sb base (.slice (some ⟨g, 0, none⟩) all.length cap) all d most) (i : Nat) (hi : i < all.length) (x : X) (hx : x = all.getD i dx) : W.cell? ⟨g, i, none⟩ = some (.int .i8 x) := by
  subst hx
  have hg : ∀ j, j < 1 → W.cell? ⟨g, i * 1 + j, none⟩ = (fl (all.getD i dx))[j]? := fun j hj => by
    rw [h.2.1.cellAt _ (by omega)]; exact flat_get fl 1 fl_len dx all i j hi hj
  have := hg 0 (by decide)
  rw [Nat.mul_one] at this
  exact this
set_option maxHeartbeats 1000000 in
theorem newStack (most : Int) (w : World) (h : 0 ≤ most) :
    Calls Try.prog 24 #[.int .i64 most] w fun e w' => e = .returned (.pointer (some ⟨w.heap.size, 0, none⟩)) ∧ StackAt w' w.heap.size (w.heap.size + 1) (.slice none 0 0) [] 0 most ∧ Up w w' ∧ w'.heap.size = w.heap.size + 1 := by
  go_enter Try.func24, Try.ntmps24
  go_wp2
  go_ret
  exact ⟨rfl, ⟨heap_alloc_new w _, World.ownsRow_nil _ _ _ _, Nat.lt_succ_self _, Nat.zero_le _⟩, (Up.refl _).alloc _, by simp⟩
set_option maxHeartbeats 1000000 in
theorem newStackNil (most : Int) (w : World) (h : most < 0) :
    Calls Try.prog 24 #[.int .i64 most] w fun e w' => e = .returned (.pointer none) ∧ w' = w := by
  go_enter Try.func24, Try.ntmps24
  go_wp2
  go_ret
  exact ⟨rfl, rfl⟩
set_option maxHeartbeats 1000000 in
theorem do_full (sb base : Nat) (v : Value) (all : List X) (d : Nat) (most : Int) (x : X) (w : World) (h : StackAt w sb base v all d most) (hm : most ≤ d) :
    Calls Try.prog 25 #[.pointer (some ⟨sb, 0, none⟩), .int .i8 x] w fun e w' => e = .returned (.bool false) ∧ Up w w' := by
  obtain ⟨c0, c1, c2, ff⟩ := three_cells h.1
  clear h
  go_enter Try.func25, Try.ntmps25
  go_wp2_with fail
  go_quiet (fail)
  go_wp2
  go_ret
  exact ⟨rfl, (Up.refl _).drewN _⟩
/- between clear and append -/
def Mid (w W1 : World) (sb base : Nat) (va : Option Addr) (vcap n d : Nat) (most : Int) (all : List X) : Prop :=
  Hd W1 sb (.slice va n vcap) d most ∧ W1.ownsRow base 51 1 (.slice va d vcap) d (flX (all.take d)) ∧ Two sb (.slice va n vcap) w W1
def DoPost (w : World) (sb base : Nat) (v : Value) (all : List X) (d : Nat) (most : Int) (x : X) (e : Ending) (w' : World) : Prop :=
  e = .returned (.bool true) ∧ ∃ v', StackAt w' sb base v' (all.take d ++ [x]) (d + 1) most ∧ Two sb v w w' ∧ (v'.ownBlock = v.ownBlock ∨ ∃ g, v'.ownBlock = some g ∧ w.heap.size ≤ g)
theorem two_up {b : Nat} {v : Value} {w w' : World} (h : Up w w') : Two b v w w' := ⟨⟨h.os, h.tape, h.output⟩, h.size, fun g hg _ _ => h.block g hg⟩
theorem two_trans {b g : Nat} {v : Value} {w w1 w2 : World} (h : Two b v w w1) (k : Only g w1 w2) (hv : v.ownBlock = some g) : Two b v w w2 :=
  ⟨⟨k.1.1.trans h.1.1, k.1.2.1.trans h.1.2.1, k.1.2.2.trans h.1.2.2⟩, Nat.le_trans h.2.1 k.2.1, fun q hq h1 h2 => by
    rw [k.2.2 q (Nat.lt_of_lt_of_le hq h.2.1) (fun e => h2 (by rw [hv, e])), h.2.2 q hq h1 h2]⟩
theorem two_trans' {b : Nat} {v : Value} {w w1 w2 : World} (h : Two b v w w1) (k : Up w1 w2) : Two b v w w2 :=
  ⟨⟨k.os.trans h.1.1, k.tape.trans h.1.2.1, k.output.trans h.1.2.2⟩, Nat.le_trans h.2.1 k.size, fun q hq h1 h2 => by rw [k.block q (Nat.lt_of_lt_of_le hq h.2.1), h.2.2 q hq h1 h2]⟩
theorem two_set {b : Nat} {v : Value} {w w1 : World} (h : Two b v w w1) (j : Nat) (u : Value) : Two b v w (w1.setCell ⟨b, j, none⟩ u) :=
  ⟨h.1, by have := h.2.1; simpa using this, fun q hq h1 h2 => by rw [Below.heap_setCell _ _ _ _ h1]; exact h.2.2 q hq h1 h2⟩
theorem two_grown {b : Nat} {v u : Value} {w w1 w2 : World} (h : Two b v w w1) (k : w1.grownBy w2 u.ownBlock) (hu : u.ownBlock = v.ownBlock) : Two b v w w2 :=
  ⟨⟨k.os.trans h.1.1, k.tape.trans h.1.2.1, k.output.trans h.1.2.2⟩, Nat.le_trans h.2.1 k.size, fun q hq h1 h2 => by
    rw [k.block q (Nat.lt_of_lt_of_le hq h.2.1) (fun e => h2 (by rw [← hu, ← e])), h.2.2 q hq h1 h2]⟩
def DoFacts (w W2 : World) (sb base : Nat) (va : Option Addr) (n vcap d : Nat) (most : Int) (all : List X) (x : X) (g cap : Nat) : Prop :=
  Hd W2 sb (.slice va n vcap) d most ∧ Hd (W2.setCell ⟨sb, 0, none⟩ (.slice (some ⟨g, 0, none⟩) (d + 1) cap)) sb (.slice (some ⟨g, 0, none⟩) (d + 1) cap) d most ∧
  DoPost w sb base (.slice va n vcap) all d most x (.returned (.bool true)) ((W2.setCell ⟨sb, 0, none⟩ (.slice (some ⟨g, 0, none⟩) (d + 1) cap)).setCell ⟨sb, 1, none⟩ (.int .i64 ((d : Int) + 1)))
theorem mid_app {w W1 W2 : World} {sb base : Nat} {va : Option Addr} {vcap n d : Nat} {most : Int} {all : List X} {x : X} {g cap : Nat} (h : Mid w W1 sb base va vcap n d most all ) (hsb : sb < base) (hb1 : base ≤ W1.heap.size) (hda : d ≤ all.length)
    (hown : W2.ownsRow base 51 1 (.slice (some ⟨g, 0, none⟩) (d + 1) cap) (d + 1) (flX (all.take d) ++ [.int .i8 x])) (hgrow : ((W1.alloc (.cells #[.int .i8 x] 51)).drew).grownBy W2 (Value.slice va d vcap).ownBlock) (hat : (Value.slice va d vcap).ownBlock = some g ∨ g = W1.heap.size + 1) : DoFacts w W2 sb base va n vcap d most all x g cap := by
  have hob : (Value.slice va d vcap).ownBlock = (Value.slice va n vcap).ownBlock := by cases va <;> rfl
  have hne : ∀ k, (Value.slice va d vcap).ownBlock = some k → base ≤ k := fun k hk => (h.2.1.lt k hk).1
  have u : Up W1 (W1.alloc (.cells #[.int .i8 x] 51)).drew := ((Up.refl _).alloc _).drew
  have hB : Below base W1 W2 := Below.grown (Below.mono u hb1) hgrow (Nat.le_trans hb1 u.size) hne
  have h2 : Hd W2 sb (.slice va n vcap) d most := by unfold Hd; rw [hB.block sb hsb]; exact h.1
  have h3 : Hd (W2.setCell ⟨sb, 0, none⟩ (.slice (some ⟨g, 0, none⟩) (d + 1) cap)) sb (.slice (some ⟨g, 0, none⟩) (d + 1) cap) d most := put0 h2 _
  have h4 : Hd ((W2.setCell ⟨sb, 0, none⟩ (.slice (some ⟨g, 0, none⟩) (d + 1) cap)).setCell ⟨sb, 1, none⟩ (.int .i64 ((d : Int) + 1))) sb (.slice (some ⟨g, 0, none⟩) (d + 1) cap) (d + 1) most := put1 h3 _
  refine ⟨h2, h3, rfl, .slice (some ⟨g, 0, none⟩) (d + 1) cap, ⟨h4, ?_, hsb, by simp; omega⟩, two_set (two_set (two_grown (two_trans' h.2.2 u) hgrow hob) 0 _) 1 _, ?_⟩
  · have h5 := ownsRow_setCell_below (ownsRow_setCell_below hown (a := ⟨sb, 0, none⟩) hsb (.slice (some ⟨g, 0, none⟩) (d + 1) cap)) (a := ⟨sb, 1, none⟩) hsb (.int .i64 ((d : Int) + 1))
    have e1 : (all.take d ++ [x]).length = d + 1 := by simp; omega
    have e2 : flX (all.take d ++ [x]) = flX (all.take d) ++ [.int .i8 x] := by simp [flX, fl]
    rw [e1, e2]
    exact h5
  · rcases hat with h6 | h6
    · left; rw [← hob, h6]; rfl
    · right; exact ⟨g, rfl, by have := h.2.2.2.1; omega⟩
set_option maxRecDepth 100000 in
set_option maxHeartbeats 4000000 in
theorem do_ (sb base : Nat) (v : Value) (all : List X) (d : Nat) (most : Int) (x : X) (w : World) (h : StackAt w sb base v all d most) (hm : (d : Int) < most) (hd : d ≤ 100000) (hal : all.length ≤ 100000) (hbs : base ≤ w.heap.size) :
    Calls Try.prog 25 #[.pointer (some ⟨sb, 0, none⟩), .int .i8 x] w (DoPost w sb base v all d most x) := by
  obtain ⟨iT, hiT, z0, z1, z2⟩ := info_parts infoT
  obtain ⟨Post, hPost⟩ : ∃ P : Ending → World → Prop, P = DoPost w sb base v all d most x := ⟨_, rfl⟩
  rw [← hPost]
  have HPost : Hid (Post = DoPost w sb base v all d most x) := hPost
  have HS : Hid (StackAt w sb base v all d most) := h
  obtain ⟨va, vcap, hv⟩ := row_val h.2.1
  subst hv
  obtain ⟨c0, c1, c2, ff⟩ := three_cells h.1
  have hdl : d ≤ all.length := h.2.2.2
  have hlh : sb < w.heap.size := (Array.getElem?_eq_some_iff.1 h.1).1
  have hnm : ¬ most ≤ (d : Int) := by omega
  clear hPost h
  generalize hn : all.length = n at *
  have HN : Hid (all.length = n) := hn
  clear hn
  have hdi : (d : Int) ≤ (n : Int) := by omega
  go_enter Try.func25, Try.ntmps25
  go_wp2_with fail
  go_quiet (fail)
  go_wp2_with fail
  obtain ⟨W0, hW0⟩ : ∃ W, W = (w).drewN nq := ⟨_, rfl⟩
  have u0 : Up w W0 := by rw [hW0]; exact (Up.refl _).drewN _
  have HS0 : Hid (StackAt W0 sb base (.slice va n vcap) all d most) := HS.out.up u0
  have HU0 : Hid (Up w W0) := u0
  
  rw [← hW0]
  clear hW0 u0 c0 c1 c2 ff HS
  obtain ⟨c0, c1, c2, ff⟩ := three_cells HS0.out.1
  have hclr0 : ∀ W sp c, (Builtin.clear_ #[75] 0 #[.slice sp 0 c]).run Try.prog W = .ok (.tuple #[]) W := fun W sp c => run_clear0 W 75 0 51 Try.underlying75 sp 0 c (.inr rfl)
  rcases id HS0.out.2.1.2 with ⟨hv', hn0⟩ | ⟨g, cap', cur, hv', hgb, hhp, hnc, hcm, hcs, htk⟩
  · have hn0 : n = 0 := by rw [← HN.out]; exact hn0
    subst hn0
    obtain rfl : d = 0 := by omega
    simp only [Value.slice.injEq, true_and] at hv'
    obtain ⟨rfl, rfl⟩ := hv'
    obtain ⟨W1, hW1⟩ : ∃ W, W = W0.drew := ⟨_, rfl⟩
    have HMID : Hid (Mid w W1 sb base none 0 0 0 most all ) := by
      unfold Hid
      rw [hW1]
      have := HS0.out.up (Up.refl _).drew
      exact ⟨this.1, World.ownsRow_nil _ _ _ _, two_up (HU0.out.drew)⟩
    go_region
    rw [← hW1]
    clear hW1 c0 c1 c2 ff
    go_wp2_with fail
    obtain ⟨c0, c1, c2, ff⟩ := three_cells HMID.out.1
    have hl1 : sb < W1.heap.size := (Array.getElem?_eq_some_iff.1 HMID.out.1).1
    have hb1 : base ≤ W1.heap.size := Nat.le_trans hbs HMID.out.2.2.2.1
    
    have HOWN : Hid (((W1.alloc (.cells #[.int .i8 x] 51)).drew).ownsRow base 51 1 (.slice none 0 0) 0 (flX (all.take 0))) := (HMID.out.2.1.alloc _).drew
    have HGO : Hid (∀ gq cap W2, W2.ownsRow base 51 1 (.slice (some ⟨gq, 0, none⟩) (0 + 1) cap) (0 + 1) (flX (all.take 0) ++ [.int .i8 x]) → ((W1.alloc (.cells #[.int .i8 x] 51)).drew).grownBy W2 (Value.slice none 0 0).ownBlock → ((Value.slice none 0 0).ownBlock = some gq ∨ gq = W1.heap.size + 1) → DoFacts w W2 sb base none 0 0 0 most all x gq cap) := fun gq cap W2 h1 h2 h3 => mid_app HMID.out HS0.out.2.2.1 hb1 (by have := HN.out; omega) h1 h2 h3
    refine (fun key : ∀ gq cap W2, DoFacts w W2 sb base none 0 0 0 most all x gq cap → (?G1 : Nat → Nat → World → Prop) gq cap W2 => ?main1) ?kp1
    case main1 =>
      go_region_law ((refine step_append_lies _ (by rfl) _ _ _ (by rfl) base 51 iT _ 1 1 Try.underlying75 hiT z0 z1 z2 rfl (by omega) (.slice none 0 0) 0 (flX (all.take 0)) (by rfl) HOWN.out ⟨W1.heap.size, 0, none⟩ 1 1 [.int .i8 x] (by rfl) (by rfl) (World.news_of_block (cs := #[.int .i8 x]) (t := 51) (fr := (0, 0)) (show ((W1.alloc (.cells #[.int .i8 x] 51)).drew).heap[W1.heap.size]? = some (.cells #[.int .i8 x] 51 (0, 0)) from heap_alloc_new W1 _)) (by simp [Value.oneCell']) (by omega) (by unfold maxLen; omega) (by omega) (by simp; omega) (W1.heap.size + 1) (by simp) ?_; intro gg gcap W2 hown1 hgrow hat hlt; obtain ⟨q0, _, _, qf⟩ := three_cells (HGO.out gg gcap W2 hown1 hgrow hat).1))
      all_goals exact key _ _ _ (HGO.out gg gcap W2 hown1 hgrow hat)
    case kp1 =>
      intro g2 cap2 W2 hf
      have HF : Hid _ := hf
      obtain ⟨-, c1', -, ff'⟩ := three_cells hf.2.1
      have HF3 : Hid (DoPost w sb base (.slice none 0 0) all 0 most x (.returned (.bool true)) ((W2.setCell ⟨sb, 0, none⟩ (.slice (some ⟨g2, 0, none⟩) (0 + 1) cap2)).setCell ⟨sb, 1, none⟩ (.int .i64 ((0 : Int) + 1)))) := hf.2.2
      clear hf HF HGO HOWN c0 c1 c2 ff HMID 
      generalize W2.setCell ⟨sb, 0, none⟩ (.slice (some ⟨g2, 0, none⟩) (0 + 1) cap2) = W3 at *
      go_wp2
      rw [HPost.out]
      exact HF3.out
  · simp only [Value.slice.injEq] at hv'
    obtain ⟨rfl, hnn, rfl⟩ := hv'
    rw [← hnn] at hnc htk
    clear hnn
    have hne : sb ≠ g := by have := HS0.out.2.2.1; omega
    have hhp' : W0.drew.heap[g]? = some (.cells cur.toList.toArray 51 (0, 0)) := hhp
    by_cases hcd : vcap = d
    · obtain rfl : n = d := by omega
      obtain rfl : vcap = n := by omega
      obtain ⟨W1, hW1⟩ : ∃ W, W = W0.drew := ⟨_, rfl⟩
      have HMID : Hid (Mid w W1 sb base (some ⟨g, 0, none⟩) vcap vcap vcap most all ) := by
        unfold Hid
        rw [hW1]
        have h9 := HS0.out.up (Up.refl _).drew
        refine ⟨h9.1, ?_, two_up (HU0.out.drew)⟩
        rw [show all.take vcap = all from List.take_of_length_le (by have := HN.out; omega)]
        have := h9.2.1
        rw [HN.out] at this
        exact this
      go_region
      rw [← hW1]
      clear hW1 c0 c1 c2 ff
      go_wp2_with fail
      obtain ⟨c0, c1, c2, ff⟩ := three_cells HMID.out.1
      have hl1 : sb < W1.heap.size := (Array.getElem?_eq_some_iff.1 HMID.out.1).1
      have hb1 : base ≤ W1.heap.size := Nat.le_trans hbs HMID.out.2.2.2.1
      
      have HOWN : Hid (((W1.alloc (.cells #[.int .i8 x] 51)).drew).ownsRow base 51 1 (.slice (some ⟨g, 0, none⟩) vcap vcap) vcap (flX (all.take vcap))) := (HMID.out.2.1.alloc _).drew
      have HGO : Hid (∀ gq cap W2, W2.ownsRow base 51 1 (.slice (some ⟨gq, 0, none⟩) (vcap + 1) cap) (vcap + 1) (flX (all.take vcap) ++ [.int .i8 x]) → ((W1.alloc (.cells #[.int .i8 x] 51)).drew).grownBy W2 (Value.slice (some ⟨g, 0, none⟩) vcap vcap).ownBlock → ((Value.slice (some ⟨g, 0, none⟩) vcap vcap).ownBlock = some gq ∨ gq = W1.heap.size + 1) → DoFacts w W2 sb base (some ⟨g, 0, none⟩) vcap vcap vcap most all x gq cap) := fun gq cap W2 h1 h2 h3 => mid_app HMID.out HS0.out.2.2.1 hb1 (by have := HN.out; omega) h1 h2 h3
      refine (fun key : ∀ gq cap W2, DoFacts w W2 sb base (some ⟨g, 0, none⟩) vcap vcap vcap most all x gq cap → (?G2 : Nat → Nat → World → Prop) gq cap W2 => ?main2) ?kp2
      case main2 =>
        go_region_law ((refine step_append_lies _ (by rfl) _ _ _ (by rfl) base 51 iT _ 1 1 Try.underlying75 hiT z0 z1 z2 rfl (by omega) (.slice (some ⟨g, 0, none⟩) vcap vcap) vcap (flX (all.take vcap)) (by rfl) HOWN.out ⟨W1.heap.size, 0, none⟩ 1 1 [.int .i8 x] (by rfl) (by rfl) (World.news_of_block (cs := #[.int .i8 x]) (t := 51) (fr := (0, 0)) (show ((W1.alloc (.cells #[.int .i8 x] 51)).drew).heap[W1.heap.size]? = some (.cells #[.int .i8 x] 51 (0, 0)) from heap_alloc_new W1 _)) (by simp [Value.oneCell']) (by omega) (by unfold maxLen; omega) (by omega) (by simp; omega) (W1.heap.size + 1) (by simp) ?_; intro gg gcap W2 hown1 hgrow hat hlt; obtain ⟨q0, _, _, qf⟩ := three_cells (HGO.out gg gcap W2 hown1 hgrow hat).1))
        all_goals exact key _ _ _ (HGO.out gg gcap W2 hown1 hgrow hat)
      case kp2 =>
        intro g2 cap2 W2 hf
        have HF : Hid _ := hf
        obtain ⟨-, c1', -, ff'⟩ := three_cells hf.2.1
        have HF3 : Hid (DoPost w sb base (.slice (some ⟨g, 0, none⟩) vcap vcap) all vcap most x (.returned (.bool true)) ((W2.setCell ⟨sb, 0, none⟩ (.slice (some ⟨g2, 0, none⟩) (vcap + 1) cap2)).setCell ⟨sb, 1, none⟩ (.int .i64 ((vcap : Int) + 1)))) := hf.2.2
        clear hf HF HGO HOWN c0 c1 c2 ff HMID 
        generalize W2.setCell ⟨sb, 0, none⟩ (.slice (some ⟨g2, 0, none⟩) (vcap + 1) cap2) = W3 at *
        go_wp2
        rw [HPost.out]
        exact HF3.out
    · obtain ⟨zs, W1, hzl, hclr, hrow1, ho1⟩ := run_clearS (P := Try.prog) W0.drew 75 0 51 (.int .i8 0) Try.underlying75 zeroT 1 rfl (by decide) (by decide) g d (n - d) (vcap - d) cur.toList 51 hhp' (by simp; omega)
      have HMID : Hid (Mid w W1 sb base (some ⟨g, 0, none⟩) vcap n d most all ) := by
        refine ⟨?_, ?_, ?_⟩
        · exact ho1.heap HS0.out.1 hne
        · refine ⟨by rw [flX_len, List.length_take, HN.out]; congr 1; omega, .inr ⟨g, vcap, (splice cur.toList d zs).toArray, rfl, hgb, hrow1, by omega, hcm, ?_, ?_⟩⟩
          · rw [List.size_toArray, length_splice _ _ _ (by rw [hzl, Array.length_toList, hcs]; omega), Array.length_toList, hcs]
          · rw [show flX (all.take d) = (flX all).take (d * 1) from (flat_take fl 1 fl_len all d).symm, ← htk, List.take_take]
            have e : min (d * 1) (n * 1) = d * 1 := by omega
            rw [e]
            unfold splice
            rw [List.take_append_of_le_length (by rw [List.length_take, Array.length_toList, hcs]; omega), List.take_take]
            congr 1
            omega
        · exact two_trans (two_up (HU0.out.drew)) ho1 rfl
      have hcd' : ¬ (vcap : Int) = (d : Int) := by omega
      have hdc : (d : Int) ≤ (vcap : Int) := by omega
      have hdc2 : d ≤ vcap := by omega
      clear hrow1 ho1
      go_region
      clear c0 c1 c2 ff hclr
      go_wp2_with fail
      obtain ⟨c0, c1, c2, ff⟩ := three_cells HMID.out.1
      have hl1 : sb < W1.heap.size := (Array.getElem?_eq_some_iff.1 HMID.out.1).1
      have hb1 : base ≤ W1.heap.size := Nat.le_trans hbs HMID.out.2.2.2.1
      
      have HOWN : Hid (((W1.alloc (.cells #[.int .i8 x] 51)).drew).ownsRow base 51 1 (.slice (some ⟨g, 0, none⟩) d vcap) d (flX (all.take d))) := (HMID.out.2.1.alloc _).drew
      have HGO : Hid (∀ gq cap W2, W2.ownsRow base 51 1 (.slice (some ⟨gq, 0, none⟩) (d + 1) cap) (d + 1) (flX (all.take d) ++ [.int .i8 x]) → ((W1.alloc (.cells #[.int .i8 x] 51)).drew).grownBy W2 (Value.slice (some ⟨g, 0, none⟩) d vcap).ownBlock → ((Value.slice (some ⟨g, 0, none⟩) d vcap).ownBlock = some gq ∨ gq = W1.heap.size + 1) → DoFacts w W2 sb base (some ⟨g, 0, none⟩) n vcap d most all x gq cap) := fun gq cap W2 h1 h2 h3 => mid_app HMID.out HS0.out.2.2.1 hb1 (by have := HN.out; omega) h1 h2 h3
      refine (fun key : ∀ gq cap W2, DoFacts w W2 sb base (some ⟨g, 0, none⟩) n vcap d most all x gq cap → (?G3 : Nat → Nat → World → Prop) gq cap W2 => ?main3) ?kp3
      case main3 =>
        go_region_law ((refine step_append_lies _ (by rfl) _ _ _ (by rfl) base 51 iT _ 1 1 Try.underlying75 hiT z0 z1 z2 rfl (by omega) (.slice (some ⟨g, 0, none⟩) d vcap) d (flX (all.take d)) (by rfl) HOWN.out ⟨W1.heap.size, 0, none⟩ 1 1 [.int .i8 x] (by rfl) (by rfl) (World.news_of_block (cs := #[.int .i8 x]) (t := 51) (fr := (0, 0)) (show ((W1.alloc (.cells #[.int .i8 x] 51)).drew).heap[W1.heap.size]? = some (.cells #[.int .i8 x] 51 (0, 0)) from heap_alloc_new W1 _)) (by simp [Value.oneCell']) (by omega) (by unfold maxLen; omega) (by omega) (by simp; omega) (W1.heap.size + 1) (by simp) ?_; intro gg gcap W2 hown1 hgrow hat hlt; obtain ⟨q0, _, _, qf⟩ := three_cells (HGO.out gg gcap W2 hown1 hgrow hat).1))
        all_goals exact key _ _ _ (HGO.out gg gcap W2 hown1 hgrow hat)
      case kp3 =>
        intro g2 cap2 W2 hf
        have HF : Hid _ := hf
        obtain ⟨-, c1', -, ff'⟩ := three_cells hf.2.1
        have HF3 : Hid (DoPost w sb base (.slice (some ⟨g, 0, none⟩) n vcap) all d most x (.returned (.bool true)) ((W2.setCell ⟨sb, 0, none⟩ (.slice (some ⟨g2, 0, none⟩) (d + 1) cap2)).setCell ⟨sb, 1, none⟩ (.int .i64 ((d : Int) + 1)))) := hf.2.2
        clear hf HF HGO HOWN c0 c1 c2 ff HMID 
        generalize W2.setCell ⟨sb, 0, none⟩ (.slice (some ⟨g2, 0, none⟩) (d + 1) cap2) = W3 at *
        go_wp2
        rw [HPost.out]
        exact HF3.out
end LBS
end Go.Proofs.Ytgonflnmkfgfhaa
