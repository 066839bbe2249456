/-
  The kinds' parts as they are made.
-/
import Derived.Test.YtgahdppcdeefaaaKp9
import Derived.Laws.EntriesVeiled
namespace Go.Proofs.Ytgahdppcdeefaaa
open Go.RowKit
attribute [local go_sem ↓] Go.wp_at_zero Go.wp_at_succ
namespace TR
theorem ps_one {W : World} {g : Nat} {t : TypeId} (a b : Nat) (h : W.heap[g]? = some (.cells #[.int .i64 (a : Int), .int .i64 (b : Int)] t (0, 0))) : PS W (.slice (some ⟨g, 0, none⟩) 1 1) [⟨a, b⟩] :=
  ⟨_, 1, rfl, Nat.le_refl _, fun _ => ⟨g, rfl, fun i hi => by
    obtain rfl : i = 0 := by simpa using hi
    constructor <;> (simp only [World.cell?, h]; rfl)⟩⟩
theorem ps_two {W : World} {g : Nat} {t : TypeId} (a b c d : Nat) (h : W.heap[g]? = some (.cells #[.int .i64 (a : Int), .int .i64 (b : Int), .int .i64 (c : Int), .int .i64 (d : Int)] t (0, 0))) : PS W (.slice (some ⟨g, 0, none⟩) 2 2) [⟨a, b⟩, ⟨c, d⟩] :=
  ⟨_, 2, rfl, Nat.le_refl _, fun _ => ⟨g, rfl, fun i hi => by
    have hi : i < 2 := hi
    obtain rfl | rfl : i = 0 ∨ i = 1 := by omega
    all_goals constructor <;> (simp only [World.cell?, h]; rfl)⟩⟩
theorem ps_three {W : World} {g : Nat} {t : TypeId} (a b c d e f : Nat) (h : W.heap[g]? = some (.cells #[.int .i64 (a : Int), .int .i64 (b : Int), .int .i64 (c : Int), .int .i64 (d : Int), .int .i64 (e : Int), .int .i64 (f : Int)] t (0, 0))) : PS W (.slice (some ⟨g, 0, none⟩) 3 3) [⟨a, b⟩, ⟨c, d⟩, ⟨e, f⟩] :=
  ⟨_, 3, rfl, Nat.le_refl _, fun _ => ⟨g, rfl, fun i hi => by
    have hi : i < 3 := hi
    obtain rfl | rfl | rfl : i = 0 ∨ i = 1 ∨ i = 2 := by omega
    all_goals constructor <;> (simp only [World.cell?, h]; rfl)⟩⟩
theorem wy_nil (W : World) : WY W (.slice none 0 0) [] := ⟨none, rfl, fun _ => rfl, fun h => absurd rfl h⟩
theorem wy_one {W : World} {g : Nat} {t : TypeId} {u : Value} {l : List Plc} (h : W.heap[g]? = some (.cells #[u] t (0, 0))) (hp : PS W u l) : WY W (.slice (some ⟨g, 0, none⟩) 1 1) [l] :=
  ⟨_, rfl, fun h => by simp at h, fun _ => ⟨g, rfl, fun i hi => by
    obtain rfl : i = 0 := by simpa using hi
    exact ⟨u, by simp only [World.cell?, h]; rfl, hp⟩⟩⟩
theorem wy_two {W : World} {g : Nat} {t : TypeId} {u v : Value} {l k : List Plc} (h : W.heap[g]? = some (.cells #[u, v] t (0, 0))) (hp : PS W u l) (hq : PS W v k) : WY W (.slice (some ⟨g, 0, none⟩) 2 2) [l, k] :=
  ⟨_, rfl, fun h => by simp at h, fun _ => ⟨g, rfl, fun i hi => by
    have hi : i < 2 := hi
    obtain rfl | rfl : i = 0 ∨ i = 1 := by omega
    · exact ⟨u, by simp only [World.cell?, h]; rfl, hp⟩
    · exact ⟨v, by simp only [World.cell?, h]; rfl, hq⟩⟩⟩
theorem ss_nil (W : World) : SS W (.slice none 0 0) [] := ⟨none, 0, rfl, Nat.le_refl _, fun h => absurd rfl h⟩
theorem ss_two {W : World} {g : Nat} {t : TypeId} {a b : List Int} (h : W.heap[g]? = some (.cells #[.string (strOfNums a), .string (strOfNums b)] t (0, 0))) : SS W (.slice (some ⟨g, 0, none⟩) 2 2) [a, b] :=
  ⟨_, 2, rfl, Nat.le_refl _, fun _ => ⟨g, rfl, fun i hi => by
    have hi : i < 2 := hi
    obtain rfl | rfl : i = 0 ∨ i = 1 := by omega
    all_goals (simp only [World.cell?, h]; rfl)⟩⟩
theorem freeOr_ (a : Option Addr) (n c : Nat) (w : World) : Calls Try.prog 59 #[.slice a n c] w fun e w' => ∃ gf, e = .returned (.func (.func 65) #[] #[.pointer (some ⟨gf, 0, none⟩)]) ∧ (∀ also, SS w (.slice a n c) also → TxR w' (.free also) (.func (.func 65) #[] #[.pointer (some ⟨gf, 0, none⟩)])) ∧ Up w w' := by
  obtain ⟨Post, hPost⟩ : ∃ P : Ending → World → Prop, P = fun e w' => ∃ gf, e = .returned (.func (.func 65) #[] #[.pointer (some ⟨gf, 0, none⟩)]) ∧ (∀ also, SS w (.slice a n c) also → TxR w' (.free also) (.func (.func 65) #[] #[.pointer (some ⟨gf, 0, none⟩)])) ∧ Up w w' := ⟨_, rfl⟩
  rw [← hPost]
  have HPo : Hid (Post = fun e w' => ∃ gf, e = .returned (.func (.func 65) #[] #[.pointer (some ⟨gf, 0, none⟩)]) ∧ (∀ also, SS w (.slice a n c) also → TxR w' (.free also) (.func (.func 65) #[] #[.pointer (some ⟨gf, 0, none⟩)])) ∧ Up w w') := hPost
  clear hPost
  go_enter Try.func59, Try.ntmps59
  go_wp2_with fail
  rw [HPo.out]
  refine ⟨_, rfl, fun also h => ?_, (Up.refl _).alloc _⟩
  exact ⟨w.heap.size, .slice a n c, rfl, by simp only [World.cell?, heap_alloc_new]; rfl, h.cp (up_cp ((Up.refl _).alloc _))⟩
theorem three_ (c : Nat) (w : World) : Calls Try.prog 58 #[.int .i64 (c : Int)] w fun e w' => ∃ gv, e = .returned (.slice (some ⟨gv, 0, none⟩) 3 3) ∧ PS w' (.slice (some ⟨gv, 0, none⟩) 3 3) [⟨64, 0⟩, ⟨8, 0⟩, ⟨c, 0⟩] ∧ Up w w' := by
  obtain ⟨Post, hPost⟩ : ∃ P : Ending → World → Prop, P = fun e w' => ∃ gv, e = .returned (.slice (some ⟨gv, 0, none⟩) 3 3) ∧ PS w' (.slice (some ⟨gv, 0, none⟩) 3 3) [⟨64, 0⟩, ⟨8, 0⟩, ⟨c, 0⟩] ∧ Up w w' := ⟨_, rfl⟩
  rw [← hPost]
  have HPo : Hid (Post = fun e w' => ∃ gv, e = .returned (.slice (some ⟨gv, 0, none⟩) 3 3) ∧ PS w' (.slice (some ⟨gv, 0, none⟩) 3 3) [⟨64, 0⟩, ⟨8, 0⟩, ⟨c, 0⟩] ∧ Up w w') := hPost
  clear hPost
  go_enter Try.func58, Try.ntmps58
  go_wp2_with fail
  rw [HPo.out]
  exact ⟨_, rfl, ps_three 64 0 8 0 c 0 (heap_alloc_new w _), (Up.refl _).alloc _⟩
end TR
end Go.Proofs.Ytgahdppcdeefaaa
