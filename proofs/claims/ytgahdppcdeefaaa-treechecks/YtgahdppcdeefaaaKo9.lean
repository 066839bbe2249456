/-
  The walker's stack; push.
-/
import Derived.Test.YtgahdppcdeefaaaKn9
import Derived.Deep.AppendLies
import Derived.Deep.RegionLaw
import Derived.Deep.DrawnRows
namespace Go.Proofs.Ytgahdppcdeefaaa
open Go.RowKit
attribute [local go_sem ↓] Go.wp_at_zero Go.wp_at_succ
namespace TR
def wts (l : List Wt) : List Value := l.flatMap fun x => (wtc x).toList
theorem wts_app (a b : List Wt) : wts (a ++ b) = wts a ++ wts b := List.flatMap_append
/- the walker at block g: the list, the place, what is wanted, the depth -/
def WS (w0 W : World) (g m : Nat) (v : Value) (p : Nat) (S : List Wt) (d : Nat) : Prop := ∃ wv, WK W g m v p wv d ∧ W.ownsRow w0.heap.size 56 5 wv S.length (wts S.reverse) ∧ Up w0 W ∧ w0.heap.size ≤ g
theorem WK.lt {W : World} {g m p d : Nat} {v wv : Value} (h : WK W g m v p wv d) : g < W.heap.size := (Array.getElem?_eq_some_iff.1 h).1
theorem WS.up {w0 W W' : World} {g m p d : Nat} {v : Value} {S : List Wt} (h : WS w0 W g m v p S d) (u : Up W W') : WS w0 W' g m v p S d := by
  obtain ⟨wv, h1, h2, h3, h4⟩ := h
  exact ⟨wv, h1.up u, row_up h2 u, h3.trans u, h4⟩
theorem infoWt : (Try.prog.info? 56).map (fun i => (i.zero, i.size, i.bytes)) = some (some (.agg #[.int .i64 0, .int .i64 0, .int .i64 0, .int .i64 0, .bool false]), 5, 40) := by kernel_rfl
theorem row_ne_g {W : World} {base g n : Nat} {v : Value} {xs : List Value} {cs : Array Value} (h : W.ownsRow base 56 5 v n xs) (hg : W.heap[g]? = some (.cells cs 50 (0, 0))) : v.ownBlock ≠ some g := fun e => by
  rcases h.2 with ⟨rfl, -⟩ | ⟨g1, c1, cur, rfl, -, h3, -⟩
  · simp [Value.ownBlock] at e
  · have e : g1 = g := by simpa [Value.ownBlock] using e
    subst e
    rw [hg] at h3
    injection h3 with h5
    injection h5 with _ h6
    exact absurd h6 (by decide)
theorem own_keep {W : World} {base e s n g j : Nat} {v u : Value} {xs : List Value} (h : W.ownsRow base e s v n xs) (hne : v.ownBlock ≠ some g) : (W.setCell ⟨g, j, none⟩ u).ownsRow base e s v n xs := by
  refine ⟨h.1, ?_⟩
  rcases h.2 with h0 | ⟨g', cap, cur, e1, e2, e3, e4⟩
  · exact .inl h0
  · refine .inr ⟨g', cap, cur, e1, e2, ?_, e4⟩
    rw [Below.heap_setCell _ _ _ _ (fun e9 => hne (by rw [e1, e9]; rfl))]
    exact e3
theorem wk_set3 {W : World} {g m p d : Nat} {v wv : Value} (h : WK W g m v p wv d) (wv' : Value) : WK (W.setCell ⟨g, 3, none⟩ wv') g m v p wv' d := by
  unfold WK at h ⊢
  simp [World.setCell, Array.getElem?_modify, h, wkc]
set_option maxRecDepth 100000 in
set_option maxHeartbeats 8000000 in
theorem push_ (x : Wt) (w0 : World) (g m : Nat) (v : Value) (p : Nat) (S : List Wt) (d : Nat) (w : World) (hs : WS w0 w g m v p S d) (hn : S.length ≤ 1099511627776) : Calls Try.prog 33 #[.pointer (some ⟨g, 0, none⟩), .agg (wtc x)] w fun e w' => e = .returned (.tuple #[]) ∧ WS w0 w' g m v p (x :: S) d := by
  obtain ⟨Post, hPost⟩ : ∃ P : Ending → World → Prop, P = fun e w' => e = .returned (.tuple #[]) ∧ WS w0 w' g m v p (x :: S) d := ⟨_, rfl⟩
  rw [← hPost]
  have HPo : Hid (Post = fun e w' => e = .returned (.tuple #[]) ∧ WS w0 w' g m v p (x :: S) d) := hPost
  clear hPost
  obtain ⟨iE, hiE, z0, z1, z2⟩ := info_parts infoWt
  obtain ⟨wv, hk, hr, hu, hg⟩ := hs
  obtain ⟨Wx, hWx⟩ : ∃ Wx, w.alloc (.cells (wtc x) 56) = Wx := ⟨_, rfl⟩
  have gx : Wx.heap[w.heap.size]? = some (.cells (wtc x) 56 (0, 0)) := by rw [← hWx]; exact heap_alloc_new _ _
  have ux : Up w Wx := by rw [← hWx]; exact (Up.refl _).alloc _
  obtain ⟨va, vc, rfl⟩ := row_val hr
  have HK : Hid (WK Wx g m v p (.slice va S.length vc) d) := hk.up ux
  have HR : Hid (Wx.ownsRow w0.heap.size 56 5 (.slice va S.length vc) S.length (wts S.reverse)) := row_up hr ux
  have HU : Hid (Up w0 Wx) := hu.trans ux
  obtain ⟨⟨tk, rk⟩, mn, op, rs⟩ := x
  unfold wtc at gx hWx ⊢
  simp only at gx hWx ⊢
  have e0 : Wx.cell? ⟨w.heap.size, 0, none⟩ = some (.int .i64 (tk : Int)) := by simp only [World.cell?, gx]; rfl
  have e1 : Wx.cell? ⟨w.heap.size, 1, none⟩ = some (.int .i64 (rk : Int)) := by simp only [World.cell?, gx]; rfl
  have e2 : Wx.cell? ⟨w.heap.size, 2, none⟩ = some (.int .i64 (mn : Int)) := by simp only [World.cell?, gx]; rfl
  have e3 : Wx.cell? ⟨w.heap.size, 3, none⟩ = some (.int .i64 (op : Int)) := by simp only [World.cell?, gx]; rfl
  have e4 : Wx.cell? ⟨w.heap.size, 4, none⟩ = some (.bool rs) := by simp only [World.cell?, gx]; rfl
  have c3 := HK.out.cells.2.2.2.1
  have fx : ∀ j, Wx.frozen? ⟨g, j, none⟩ = false := fun j => by have h9 := HK.out; unfold WK at h9; simp [World.frozen?, h9]
  obtain ⟨n, hN⟩ : ∃ n, n = S.length := ⟨_, rfl⟩
  have HN : Hid (n = S.length) := hN
  rw [← hN] at c3 HK HR hn
  have HOWN : Hid (((Wx.alloc (.cells #[.int .i64 (tk : Int), .int .i64 (rk : Int), .int .i64 (mn : Int), .int .i64 (op : Int), .bool rs] 56)).drew).ownsRow w0.heap.size 56 5 (.slice va n vc) n (wts S.reverse)) := (HR.out.alloc _).drew
  have HGO : Hid (∀ v' W1, W1.ownsRow w0.heap.size 56 5 v' (n + 1) (wts S.reverse ++ [.int .i64 (tk : Int), .int .i64 (rk : Int), .int .i64 (mn : Int), .int .i64 (op : Int), .bool rs]) → ((Wx.alloc (.cells #[.int .i64 (tk : Int), .int .i64 (rk : Int), .int .i64 (mn : Int), .int .i64 (op : Int), .bool rs] 56)).drew).grownBy W1 (Value.slice va n vc).ownBlock → WK W1 g m v p (.slice va n vc) d ∧ Up w0 W1) := fun v' W1 h1 h2 => by
    have hgl := HK.out.lt
    refine ⟨?_, Below.grown (HU.out.alloc _).drew h2 (by have := HU.out.size; simp; omega) (fun k9 hk9 => (World.ownsRow.lt HOWN.out k9 hk9).1)⟩
    unfold WK
    rw [h2.block g (by simp; omega) (fun e9 => row_ne_g HR.out HK.out e9.symm)]
    show (Wx.alloc _).heap[g]? = _
    rw [Below.heap_alloc _ _ _ hgl]
    exact HK.out
  have hbs : w0.heap.size ≤ Wx.heap.size := HU.out.size
  have hgl : g < Wx.heap.size := HK.out.lt
  clear gx ux hk hr hu hN
  go_enter Try.func33, Try.ntmps33
  go_upto_region 1 with fail
  try rw [hWx]
  clear hWx
  generalize w.heap.size = bx at *
  refine (fun key : ∀ g9 cap W1, W1.ownsRow w0.heap.size 56 5 (.slice (some ⟨g9, 0, none⟩) (n + 1) cap) (n + 1) (wts S.reverse ++ [.int .i64 (tk : Int), .int .i64 (rk : Int), .int .i64 (mn : Int), .int .i64 (op : Int), .bool rs]) → ((Wx.alloc (.cells #[.int .i64 (tk : Int), .int .i64 (rk : Int), .int .i64 (mn : Int), .int .i64 (op : Int), .bool rs] 56)).drew).grownBy W1 (Value.slice va n vc).ownBlock → (?G : Nat → Nat → World → Prop) g9 cap W1 => ?main) ?kp
  case main =>
    go_region_law ((refine step_append_lies _ (by rfl) _ _ _ (by rfl) w0.heap.size 56 iE _ 5 40 Try.underlying48 hiE z0 z1 z2 rfl (by omega) (.slice va n vc) n (wts S.reverse) (by rfl) HOWN.out ⟨Wx.heap.size, 0, none⟩ 1 1 [.int .i64 (tk : Int), .int .i64 (rk : Int), .int .i64 (mn : Int), .int .i64 (op : Int), .bool rs] (by rfl) (by rfl) (World.news_of_block (cs := #[.int .i64 (tk : Int), .int .i64 (rk : Int), .int .i64 (mn : Int), .int .i64 (op : Int), .bool rs]) (t := 56) (fr := (0, 0)) (show ((Wx.alloc (.cells #[.int .i64 (tk : Int), .int .i64 (rk : Int), .int .i64 (mn : Int), .int .i64 (op : Int), .bool rs] 56)).drew).heap[Wx.heap.size]? = some (.cells #[.int .i64 (tk : Int), .int .i64 (rk : Int), .int .i64 (mn : Int), .int .i64 (op : Int), .bool rs] 56 (0, 0)) from heap_alloc_new Wx _)) (by simp [Value.oneCell']) (by omega) (by unfold maxLen; omega) (by omega) (by simp; omega) (Wx.heap.size + 1) (by simp) ?_; intro gg gcap W1 hown1 hgrow hat hlt; have q3 := (HGO.out _ W1 hown1 hgrow).1.cells.2.2.2.1; have qf : ∀ j, W1.frozen? ⟨g, j, none⟩ = false := fun j => (by have h9 := (HGO.out _ W1 hown1 hgrow).1; unfold WK at h9; simp [World.frozen?, h9])))
    all_goals exact key _ _ _ hown1 hgrow
  case kp =>
    intro g9 cap W1 hown hgrow
    obtain ⟨hk1, hu1⟩ := HGO.out _ W1 hown hgrow
    go_wp2_with fail
    refine bodyPost_end (results_none rfl _ _ _) rfl ?_
    rw [HPo.out]
    refine ⟨rfl, .slice (some ⟨g9, 0, none⟩) (n + 1) cap, wk_set3 hk1 _, ?_, ?_, hg⟩
    · rw [List.reverse_cons, wts_app, List.length_cons, ← HN.out]
      exact own_keep hown (row_ne_g hown hk1)
    · exact (Only.up hu1).set 3 _ |>.below hg (Nat.le_refl _)
end TR
end Go.Proofs.Ytgahdppcdeefaaa
