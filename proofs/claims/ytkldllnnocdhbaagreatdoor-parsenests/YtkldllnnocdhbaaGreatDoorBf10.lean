/-
  The program makes plants.
-/
import Derived.Test.YtkldllnnocdhbaaGreatDoorAf10
namespace Go.Proofs.YtkldllnnocdhbaaGreatDoor
open Go.RowKit
attribute [local go_sem ↓] Go.wp_at_zero Go.wp_at_succ
namespace TP
open TR (Nd Byt nums_inj)
open TK (Tok)
open TR (nums_list nums_nil)
theorem infoPe : (Tryz.prog.info? 91).map (fun i => (i.zero, i.size, i.bytes)) = some (some (.pointer none), 1, 8) := by kernel_rfl
/- a plant's cells -/
def pcell (a : Nd) (sv : Value) : Array Value := #[.int .i8 a.op, .int .i8 a.kind, .int .i64 a.n, .int .i64 a.m, .string (strOfNums a.text), .int .i64 a.pos, .int .i64 0, sv]
abbrev ptr (g : Nat) : Value := .pointer (some ⟨g, 0, none⟩)
/- a list of plants: the trees that they are, in the blocks of S -/
def PF (W : World) (S : Nat → Prop) : Fo → List Value → Prop
  | .nil, vs => vs = []
  | .cons a k r, vs => ∃ g sv kv ws, vs = ptr g :: ws ∧ S g ∧ W.heap[g]? = some (.cells (pcell a sv) 170 (0, 0)) ∧ W.ownsRow 0 91 1 sv kv.length kv ∧ (∀ k1, sv.ownBlock = some k1 → S k1) ∧ PF W S k kv ∧ PF W S r ws
theorem ows_at {W W' : World} {base e s n : Nat} {v : Value} {xs : List Value} (h : W.ownsRow base e s v n xs) (hk : ∀ g o, v.ownBlock = some g → W.heap[g]? = some o → W'.heap[g]? = some o) : W'.ownsRow base e s v n xs := by
  refine ⟨h.1, ?_⟩
  rcases h.2 with h0 | ⟨g, cap, cur, rfl, e2, e3, e4⟩
  · exact .inl h0
  · exact .inr ⟨g, cap, cur, rfl, e2, hk g _ rfl e3, e4⟩
theorem PF.keep {W W' : World} {S : Nat → Prop} (hk : ∀ g o, S g → W.heap[g]? = some o → W'.heap[g]? = some o) : ∀ (f : Fo) (vs : List Value), PF W S f vs → PF W' S f vs
  | .nil, _, h => h
  | .cons _ k r, _, ⟨g, sv, kv, ws, h1, h2, h3, h4, h5, h6, h7⟩ => ⟨g, sv, kv, ws, h1, h2, hk g _ h2 h3, ows_at h4 (fun k1 o e1 e2 => hk k1 o (h5 k1 e1) e2), h5, PF.keep hk k kv h6, PF.keep hk r ws h7⟩
theorem PF.mono {W : World} {S T : Nat → Prop} (hk : ∀ g, S g → T g) : ∀ (f : Fo) (vs : List Value), PF W S f vs → PF W T f vs
  | .nil, _, h => h
  | .cons _ k r, _, ⟨g, sv, kv, ws, h1, h2, h3, h4, h5, h6, h7⟩ => ⟨g, sv, kv, ws, h1, hk g h2, h3, h4, fun k1 e1 => hk k1 (h5 k1 e1), PF.mono hk k kv h6, PF.mono hk r ws h7⟩
theorem PF.len {W : World} {S : Nat → Prop} : ∀ (f : Fo) (vs : List Value), PF W S f vs → vs.length = cntF f
  | .nil, vs, h => by
    have h : vs = [] := h
    rw [h]
    rfl
  | .cons a k r, vs, ⟨g, sv, kv, ws, h1, _, _, _, _, _, h7⟩ => by
    rw [h1, List.length_cons, PF.len r ws h7]
    rfl
theorem PF.app {W : World} {S : Nat → Prop} : ∀ (f g : Fo) (vs ws : List Value), PF W S f vs → PF W S g ws → PF W S (f.app g) (vs ++ ws)
  | .nil, g, vs, ws, h, h' => by
    have h : vs = [] := h
    rw [h]
    exact h'
  | .cons a k r, g, vs, ws, ⟨b, sv, kv, us, h1, h2, h3, h4, h5, h6, h7⟩, h' => ⟨b, sv, kv, us ++ ws, by rw [h1]; rfl, h2, h3, h4, h5, h6, PF.app r g us ws h7 h'⟩
/- blocks made since -/
def Sn (lo : Nat) (W : World) : Nat → Prop := fun x => lo ≤ x ∧ x < W.heap.size
/- a plant that is being made, at g: its kids so far -/
structure NB (W : World) (lo g : Nat) (a : Nd) (sv : Value) (kv : List Value) (k : Fo) : Prop where
  cell : W.heap[g]? = some (.cells (pcell a sv) 170 (0, 0))
  glo : lo ≤ g
  row : W.ownsRow lo 91 1 sv kv.length kv
  pf : ∃ S, PF W S k kv ∧ ¬ S g ∧ (∀ k1, sv.ownBlock = some k1 → ¬ S k1) ∧ ∀ x, S x → Sn lo W x
theorem NB.lt {W : World} {lo g : Nat} {a : Nd} {sv : Value} {kv : List Value} {k : Fo} (h : NB W lo g a sv kv k) : g < W.heap.size := (Array.getElem?_eq_some_iff.1 h.cell).1
/- it stays where nothing from lo on is turned -/
theorem NB.keep {W W' : World} {lo g : Nat} {a : Nd} {sv : Value} {kv : List Value} {k : Fo} (h : NB W lo g a sv kv k) (hs : W.heap.size ≤ W'.heap.size) (hk : ∀ x o, lo ≤ x → W.heap[x]? = some o → W'.heap[x]? = some o) : NB W' lo g a sv kv k := by
  obtain ⟨S, h1, h2, h3, h4⟩ := h.pf
  exact ⟨hk g _ h.glo h.cell, h.glo, ows_heap h.row hk, S, PF.keep (fun x o hx e => hk x o (h4 x hx).1 e) k kv h1, h2, h3, fun x hx => ⟨(h4 x hx).1, Nat.lt_of_lt_of_le (h4 x hx).2 hs⟩⟩
theorem NB.only {b : Nat} {W W' : World} {lo g : Nat} {a : Nd} {sv : Value} {kv : List Value} {k : Fo} (h : NB W lo g a sv kv k) (ho : Only b W W') (hb : b < lo) : NB W' lo g a sv kv k :=
  h.keep ho.2.1 fun x o hx e => ho.heap e (by omega)
theorem NB.up {W W' : World} {lo g : Nat} {a : Nd} {sv : Value} {kv : List Value} {k : Fo} (h : NB W lo g a sv kv k) (u : Up W W') : NB W' lo g a sv kv k :=
  h.keep u.size fun _ _ _ e => u.heap e
theorem NB.made {W : World} {lo g : Nat} {a : Nd} (hc : W.heap[g]? = some (.cells (pcell a (.slice none 0 0)) 170 (0, 0))) (hg : lo ≤ g) : NB W lo g a (.slice none 0 0) [] .nil :=
  ⟨hc, hg, World.ownsRow_nil _ _ _ _, fun _ => False, rfl, fun h => h, fun _ _ h => h, fun _ h => h.elim⟩
theorem row_low {W : World} {b1 b2 e s n : Nat} {v : Value} {xs : List Value} (h : W.ownsRow b1 e s v n xs) (hb : ∀ k, v.ownBlock = some k → b2 ≤ k) : W.ownsRow b2 e s v n xs := by
  refine ⟨h.1, ?_⟩
  rcases h.2 with h0 | ⟨g, cap, cur, rfl, e2, e3, e4⟩
  · exact .inl h0
  · exact .inr ⟨g, cap, cur, rfl, hb g rfl, e3, e4⟩
/- it is done -/
theorem NB.done {W : World} {lo g : Nat} {a : Nd} {sv : Value} {kv : List Value} {k : Fo} (h : NB W lo g a sv kv k) : PF W (Sn lo W) (.cons a k .nil) [ptr g] := by
  obtain ⟨S, h1, h2, h3, h4⟩ := h.pf
  exact ⟨g, sv, kv, [], rfl, ⟨h.glo, h.lt⟩, h.cell, ows_base h.row (Nat.zero_le _), fun k1 e1 => World.ownsRow.lt h.row k1 e1, PF.mono h4 k kv h1, rfl⟩
/- its own fields turned -/
theorem NB.put {W : World} {lo g : Nat} {a a' : Nd} {sv : Value} {kv : List Value} {k : Fo} (h : NB W lo g a sv kv k) (j : Nat) (x : Value) (hc : (pcell a sv).setIfInBounds j x = pcell a' sv) : NB (W.setCell ⟨g, j, none⟩ x) lo g a' sv kv k := by
  obtain ⟨S, h1, h2, h3, h4⟩ := h.pf
  have hs : (W.setCell ⟨g, j, none⟩ x).heap.size = W.heap.size := by simp [World.setCell]
  have hn : ∀ y o, y ≠ g → W.heap[y]? = some o → (W.setCell ⟨g, j, none⟩ x).heap[y]? = some o := fun y o hy e => by rw [Below.heap_setCell _ _ _ _ hy]; exact e
  refine ⟨by have h9 := set_cells (j := j) (x := x) h.cell; rw [hc] at h9; exact h9, h.glo, ows_at h.row (fun k1 o e1 e2 => hn k1 o ?_ e2), S, PF.keep (fun y o hy e => hn y o (fun e9 => h2 (e9 ▸ hy)) e) k kv h1, h2, h3, fun y hy => ⟨(h4 y hy).1, by rw [hs]; exact (h4 y hy).2⟩⟩
  rintro rfl
  rcases h.row.2 with ⟨h0, -⟩ | ⟨g9, cap, cur, rfl, -, e3, -⟩
  · rw [h0] at e1
    cases e1
  · have e9 : g9 = k1 := by simpa [Value.ownBlock] using e1
    subst e9
    rw [h.cell] at e3
    simp only [Option.some.injEq, Obj.cells.injEq] at e3
    exact absurd e3.2.1 (by decide)
/- kids more -/
theorem NB.more {W V : World} {lo g : Nat} {a : Nd} {sv v' : Value} {kv vs : List Value} {k k2 : Fo} {S2 : Nat → Prop} (h : NB W lo g a sv kv k) (p2 : PF W S2 k2 vs) (hg2 : ¬ S2 g) (ho2 : ∀ k1, sv.ownBlock = some k1 → ¬ S2 k1) (hb2 : ∀ x, S2 x → Sn lo W x)
    (hr : V.ownsRow lo 91 1 v' (kv.length + vs.length) (kv ++ vs)) (hg : W.grownBy V sv.ownBlock) (hl : LiesN sv v' W) : NB (V.setCell ⟨g, 7, none⟩ v') lo g a v' (kv ++ vs) (k.app k2) := by
  obtain ⟨S, h1, h2, h3, h4⟩ := h.pf
  have hgl := h.lt
  have hgs : sv.ownBlock ≠ some g := fun e => by
    rcases h.row.2 with ⟨h0, -⟩ | ⟨g9, cap, cur, rfl, -, e3, -⟩
    · rw [h0] at e
      cases e
    · have e9 : g9 = g := by simpa [Value.ownBlock] using e
      subst e9
      rw [h.cell] at e3
      simp only [Option.some.injEq, Obj.cells.injEq] at e3
      exact absurd e3.2.1 (by decide)
  have hold : ∀ x o, x ≠ g → sv.ownBlock ≠ some x → W.heap[x]? = some o → (V.setCell ⟨g, 7, none⟩ v').heap[x]? = some o := fun x o hx hs e => by
    rw [Below.heap_setCell _ _ _ _ hx]
    have hlt := (Array.getElem?_eq_some_iff.1 e).1
    rw [hg.block x hlt (Ne.symm hs)]
    exact e
  have hcell : V.heap[g]? = some (.cells (pcell a sv) 170 (0, 0)) := by rw [hg.block g hgl (Ne.symm hgs)]; exact h.cell
  have hv' : ∀ k1, v'.ownBlock = some k1 → k1 ≠ g ∧ ¬ S k1 ∧ ¬ S2 k1 := fun k1 e => by
    rcases hl with e1 | ⟨g1, e1, e2⟩
    · rw [e1] at e
      exact ⟨fun e9 => hgs (by rw [← e9]; exact e), h3 k1 e, ho2 k1 e⟩
    · rw [e1] at e
      have e9 : g1 = k1 := by simpa using e
      subst e9
      exact ⟨by omega, fun hS => by have := (h4 _ hS).2; omega, fun hS => by have := (hb2 _ hS).2; omega⟩
  have hsz : (V.setCell ⟨g, 7, none⟩ v').heap.size = V.heap.size := by simp [World.setCell]
  refine ⟨?_, h.glo, ?_, fun x => S x ∨ S2 x, ?_, fun hS => hS.elim h2 hg2, fun k1 e hS => hS.elim (hv' k1 e).2.1 (hv' k1 e).2.2, fun x hS => ?_⟩
  · have h9 := set_cells (j := 7) (x := v') hcell
    exact h9
  · rw [List.length_append]
    exact ows_at hr (fun k1 o e1 e2 => by rw [Below.heap_setCell _ _ _ _ (hv' k1 e1).1]; exact e2)
  · have q1 : PF (V.setCell ⟨g, 7, none⟩ v') (fun x => S x ∨ S2 x) k kv := PF.mono (fun x hx => .inl hx) k kv (PF.keep (fun x o hx e => hold x o (fun e9 => h2 (e9 ▸ hx)) (fun e9 => h3 x e9 hx) e) k kv h1)
    have q2 : PF (V.setCell ⟨g, 7, none⟩ v') (fun x => S x ∨ S2 x) k2 vs := PF.mono (fun x hx => .inr hx) k2 vs (PF.keep (fun x o hx e => hold x o (fun e9 => hg2 (e9 ▸ hx)) (fun e9 => ho2 x e9 hx) e) k2 vs p2)
    exact PF.app k k2 kv vs q1 q2
  · have hs := hg.size
    rcases hS with hS | hS
    · exact ⟨(h4 x hS).1, by rw [hsz]; have := (h4 x hS).2; omega⟩
    · exact ⟨(hb2 x hS).1, by rw [hsz]; have := (hb2 x hS).2; omega⟩
end TP
end Go.Proofs.YtkldllnnocdhbaaGreatDoor
namespace Go.Proofs.YtkldllnnocdhbaaGreatDoor
open Go.RowKit
attribute [local go_sem ↓] Go.wp_at_zero Go.wp_at_succ
namespace TP
open TR (Nd Byt nums_inj)
open TK (Tok)
open TR (nums_list nums_nil)
/- all is as it was but for T -/
def Exc (T : Nat → Prop) (W W' : World) : Prop := (W'.os = W.os ∧ W'.tape = W.tape ∧ W'.output = W.output) ∧ W.heap.size ≤ W'.heap.size ∧ ∀ k, k < W.heap.size → ¬ T k → W'.heap[k]? = W.heap[k]?
theorem only_exc {b : Nat} {T : Nat → Prop} {W0 W W' : World} (h : Only b W0 W) (ha : Exc T W W') (hl : ∀ k, T k → W0.heap.size ≤ k) : Only b W0 W' :=
  ⟨⟨ha.1.1.trans h.1.1, ha.1.2.1.trans h.1.2.1, ha.1.2.2.trans h.1.2.2⟩, Nat.le_trans h.2.1 ha.2.1, fun k hk hb => by rw [ha.2.2 k (Nat.lt_of_lt_of_le hk h.2.1) (fun ht => by have := hl k ht; omega)]; exact h.2.2 k hk hb⟩
theorem QS.exc {W W' : World} {b bt off n c ml ms i d : Nat} {T : Nat → Prop} (h : QS W b bt off n c ml ms i d) (ha : Exc T W W') (hb : ¬ T b) : QS W' b bt off n c ml ms i d := by
  have hlt := h.cells.2.2.2.2.2.2
  unfold QS at h ⊢
  rw [ha.2.2 b hlt hb]
  exact h
/- what an add may turn -/
def Tg (g : Nat) (sv : Value) : Nat → Prop := fun k => k = g ∨ sv.ownBlock = some k
theorem NB.tg {W : World} {lo g : Nat} {a : Nd} {sv : Value} {kv : List Value} {k : Fo} (h : NB W lo g a sv kv k) : ∀ x, Tg g sv x → lo ≤ x := fun x hx => by
  rcases hx with rfl | hx
  · exact h.glo
  · exact (World.ownsRow.lt h.row x hx).1
theorem NB.kids {W : World} {lo g : Nat} {a : Nd} {sv : Value} {kv : List Value} {k : Fo} (h : NB W lo g a sv kv k) (x : Int) : NB W lo g { a with kids := x } sv kv k := ⟨h.cell, h.glo, h.row, h.pf⟩
set_option maxRecDepth 100000 in
set_option maxHeartbeats 16000000 in
theorem here_ (w0 W : World) (b bt off n c ml ms i d : Nat) (l : List Tok) (hE : Ev w0 b bt off n c l) (ho : Only b w0 W) (hi : i < n) (hP : QS W b bt off n c ml ms i d) (op : Int) : Calls Tryz.prog 75 #[.pointer (some ⟨b, 0, none⟩), .int .i8 op] W (fun r w' => Up W w' ∧ ∃ g, r = .returned (ptr g) ∧ W.heap.size ≤ g ∧ w'.heap[g]? = some (.cells (pcell ⟨op, 0, 0, 0, [], (tk l i).pos, 0⟩ (.slice none 0 0)) 170 (0, 0))) := by
  obtain ⟨Post, hPost⟩ : ∃ P : Ending → World → Prop, P = fun r w' => Up W w' ∧ ∃ g, r = .returned (ptr g) ∧ W.heap.size ≤ g ∧ w'.heap[g]? = some (.cells (pcell ⟨op, 0, 0, 0, [], (tk l i).pos, 0⟩ (.slice none 0 0)) 170 (0, 0)) := ⟨_, rfl⟩
  rw [← hPost]
  have HPo : Hid (Post = fun r w' => Up W w' ∧ ∃ g, r = .returned (ptr g) ∧ W.heap.size ≤ g ∧ w'.heap[g]? = some (.cells (pcell ⟨op, 0, 0, 0, [], (tk l i).pos, 0⟩ (.slice none 0 0)) 170 (0, 0))) := hPost
  clear hPost
  have HNW : Hid (∀ W2, Up W W2 → Calls Tryz.prog 114 #[.pointer (some ⟨b, 0, none⟩)] W2 fun r w' => r = .returned (.agg #[.int .i8 (tk l i).kind, .string (strOfNums (tk l i).text), .int .i64 (tk l i).num, .int .i64 (tk l i).pos]) ∧ Up W2 w') := fun W2 hu => next_ w0 W2 b bt off n c ml ms i d l hE (ho.trans (Only.up hu)) hi (hP.up hu)
  have f3 := fld3
  clear hE ho hP
  generalize tk l i = t at *
  obtain ⟨kd, tx, tn, tp⟩ := t
  simp only at HNW HPo
  generalize strOfNums tx = st at *
  go_enter Tryz.func75, Tryz.ntmps75
  go_wp2_with fail
  refine Calls.mono (HNW.out W (Up.refl _)) ?_
  rintro r w1 ⟨rfl, u1⟩
  have HU1 : Hid (Up W w1) := u1
  clear u1 HNW
  go_wp2_with fail
  rw [HPo.out]
  exact ⟨HU1.out.trans ((Up.refl _).alloc _), w1.heap.size, rfl, HU1.out.size, heap_alloc_new w1 _⟩
set_option maxRecDepth 100000 in
set_option maxHeartbeats 16000000 in
theorem begin_ (w0 W : World) (b bt off n c ml ms i d : Nat) (l : List Tok) (hE : Ev w0 b bt off n c l) (ho : Only b w0 W) (hi : i < n) (hP : QS W b bt off n c ml ms i d) (op : Int) : Calls Tryz.prog 135 #[.pointer (some ⟨b, 0, none⟩), .int .i8 op] W (fun r w' => Only b W w' ∧ QS w' b bt off n c ml ms (i + 1) d ∧ ∃ g, r = .returned (ptr g) ∧ W.heap.size ≤ g ∧ w'.heap[g]? = some (.cells (pcell ⟨op, 0, 0, 0, [], (tk l i).pos, 0⟩ (.slice none 0 0)) 170 (0, 0))) := by
  obtain ⟨Post, hPost⟩ : ∃ P : Ending → World → Prop, P = fun r w' => Only b W w' ∧ QS w' b bt off n c ml ms (i + 1) d ∧ ∃ g, r = .returned (ptr g) ∧ W.heap.size ≤ g ∧ w'.heap[g]? = some (.cells (pcell ⟨op, 0, 0, 0, [], (tk l i).pos, 0⟩ (.slice none 0 0)) 170 (0, 0)) := ⟨_, rfl⟩
  rw [← hPost]
  have HPo : Hid (Post = fun r w' => Only b W w' ∧ QS w' b bt off n c ml ms (i + 1) d ∧ ∃ g, r = .returned (ptr g) ∧ W.heap.size ≤ g ∧ w'.heap[g]? = some (.cells (pcell ⟨op, 0, 0, 0, [], (tk l i).pos, 0⟩ (.slice none 0 0)) 170 (0, 0))) := hPost
  clear hPost
  have HHR : Hid (Calls Tryz.prog 75 #[.pointer (some ⟨b, 0, none⟩), .int .i8 op] W (fun r w' => Up W w' ∧ ∃ g, r = .returned (ptr g) ∧ W.heap.size ≤ g ∧ w'.heap[g]? = some (.cells (pcell ⟨op, 0, 0, 0, [], (tk l i).pos, 0⟩ (.slice none 0 0)) 170 (0, 0)))) := here_ w0 W b bt off n c ml ms i d l hE ho hi hP op
  have HPS : Hid (∀ W2, Up W W2 → Calls Tryz.prog 139 #[.pointer (some ⟨b, 0, none⟩)] W2 fun r w' => r = .returned (.agg #[.int .i8 (tk l i).kind, .string (strOfNums (tk l i).text), .int .i64 (tk l i).num, .int .i64 (tk l i).pos]) ∧ Only b W2 w' ∧ QS w' b bt off n c ml ms (i + 1) d) := fun W2 hu => pass_ w0 W2 b bt off n c ml ms i d l hE (ho.trans (Only.up hu)) hi (hP.up hu)
  have hbl := hP.cells.2.2.2.2.2.2
  clear hE ho hP
  generalize tk l i = t at *
  go_enter Tryz.func135, Tryz.ntmps135
  go_wp2_with fail
  refine Calls.mono HHR.out ?_
  rintro r w1 ⟨u1, g, rfl, hg, hc⟩
  have HC := HPS.out w1 u1
  have HU1 : Hid (Up W w1) := u1
  have HC1 : Hid _ := hc
  clear u1 HHR HPS hc
  unfold ptr at *
  go_wp2_with fail
  refine Calls.mono HC ?_
  rintro r w2 ⟨rfl, o2, p2⟩
  have HO2 : Hid (Only b W w2) := (Only.up HU1.out).trans o2
  have HP2 : Hid (QS w2 b bt off n c ml ms (i + 1) d) := p2
  have HC2 : Hid (w2.heap[g]? = some (.cells (pcell ⟨op, 0, 0, 0, [], t.pos, 0⟩ (.slice none 0 0)) 170 (0, 0))) := o2.heap HC1.out (by omega)
  clear o2 p2 HC HC1
  go_wp2_with fail
  rw [HPo.out]
  exact ⟨HO2.out, HP2.out, g, rfl, hg, HC2.out⟩
set_option maxRecDepth 100000 in
set_option maxHeartbeats 16000000 in
theorem add_ (W : World) (lo g : Nat) (a : Nd) (sv : Value) (kv : List Value) (k : Fo) (hN : NB W lo g a sv kv k) (hlo : lo ≤ W.heap.size) (vs : List Value) (k2 : Fo) (S2 : Nat → Prop) (hp : PF W S2 k2 vs) (hg2 : ¬ S2 g) (ho2 : ∀ k1, sv.ownBlock = some k1 → ¬ S2 k1) (hb2 : ∀ x, S2 x → Sn lo W x) (ad : Addr) (c : Nat) (hm : 0 < vs.length) (hv : ∀ j u, vs[j]? = some u → W.cell? (ad.add j) = some u) (hone : ∀ u ∈ vs, u.oneCell' = true) (hn : kv.length + vs.length ≤ 100000000) : Calls Tryz.prog 77 #[ptr g, .slice (some ad) vs.length c] W (fun r w' => r = .returned (.tuple #[]) ∧ Exc (Tg g sv) W w' ∧ ∃ sv', NB w' lo g a sv' (kv ++ vs) (k.app k2)) := by
  obtain ⟨Post, hPost⟩ : ∃ P : Ending → World → Prop, P = fun r w' => r = .returned (.tuple #[]) ∧ Exc (Tg g sv) W w' ∧ ∃ sv', NB w' lo g a sv' (kv ++ vs) (k.app k2) := ⟨_, rfl⟩
  rw [← hPost]
  have HPo : Hid (Post = fun r w' => r = .returned (.tuple #[]) ∧ Exc (Tg g sv) W w' ∧ ∃ sv', NB w' lo g a sv' (kv ++ vs) (k.app k2)) := hPost
  clear hPost
  obtain ⟨iT, hiT, z0, z1, z2⟩ := info_parts infoPe
  obtain ⟨m, hM⟩ : ∃ m, m = vs.length := ⟨_, rfl⟩
  have HM : Hid (m = vs.length) := hM
  have HR : Hid (W.ownsRow lo 91 1 sv kv.length kv) := hN.row
  have HN : Hid (NB W lo g a sv kv k) := hN
  have c7 : W.cell? ⟨g, 7, none⟩ = some sv := by simp [World.cell?, hN.cell, pcell]
  have HVC : Hid (∀ j u, vs[j]? = some u → W.cell? (ad.add j) = some u) := hv
  have HON : Hid (∀ u ∈ vs, u.oneCell' = true) := hone
  obtain ⟨q, hQ⟩ : ∃ q, q = kv.length := ⟨_, rfl⟩
  have HQ : Hid (q = kv.length) := hQ
  rw [← hQ] at HR hn
  rw [← hM] at hm hn ⊢
  have HFIN : Hid (∀ v' V, V.ownsRow lo 91 1 v' (q + m) (kv ++ vs) → W.grownBy V sv.ownBlock → LiesN sv v' W → V.cell? ⟨g, 7, none⟩ = some sv ∧ V.frozen? ⟨g, 7, none⟩ = false ∧ Exc (Tg g sv) W (V.setCell ⟨g, 7, none⟩ v') ∧ NB (V.setCell ⟨g, 7, none⟩ v') lo g a v' (kv ++ vs) (k.app k2)) := fun v' V h1 h2 h3 => by
    rw [HQ.out, HM.out] at h1
    have hN := HN.out
    have hgl := hN.lt
    have hgs : sv.ownBlock ≠ some g := fun e => by
      rcases hN.row.2 with ⟨h0, -⟩ | ⟨g9, cap, cur, rfl, -, e3, -⟩
      · rw [h0] at e
        cases e
      · have e9 : g9 = g := by simpa [Value.ownBlock] using e
        subst e9
        rw [hN.cell] at e3
        simp only [Option.some.injEq, Obj.cells.injEq] at e3
        exact absurd e3.2.1 (by decide)
    have hcell : V.heap[g]? = some (.cells (pcell a sv) 170 (0, 0)) := by rw [h2.block g hgl (Ne.symm hgs)]; exact hN.cell
    refine ⟨by simp [World.cell?, hcell, pcell], by simp [World.frozen?, hcell], ⟨⟨h2.os, h2.tape, h2.output⟩, by simpa [World.setCell] using h2.size, fun x hx hx2 => ?_⟩, NB.more hN hp hg2 ho2 hb2 h1 h2 h3⟩
    rw [Below.heap_setCell _ _ _ _ (show x ≠ g from fun e => hx2 (.inl e))]
    exact h2.block x hx (fun e => hx2 (.inr e.symm))
  clear hN hp hg2 ho2 hb2 hv hone hM hQ
  unfold ptr
  go_enter Tryz.func77, Tryz.ntmps77
  go_wp2_with (first | (at_builtin; go_loud (refine wpList_append_far _ (by rfl) (.tmp 8) (.tmp 9) 168 (by rfl) lo 91 iT _ 1 8 Tryz.underlying168 hiT z0 z1 z2 (by rfl) (by decide) sv q kv (by rfl) HR.out ad m c vs (by rfl) hm (by have := HM.out; omega) HVC.out HON.out (by unfold maxLen; omega) (by omega) hlo ?_; intro v' V9 h1 h2 h3; obtain ⟨fa, fc, hva⟩ : ∃ a c, v' = Value.slice a (q + m) c := row_val h1; subst hva; obtain ⟨d7, f7, hab, hnb⟩ := HFIN.out _ V9 h1 h2 h3; have HAB : Hid _ := hab; have HNB : Hid _ := hnb; clear h1 h2 h3 hab hnb)))
  refine bodyPost_end (v := .tuple #[]) (by simp [results, Tryz.results77, go_sem]) rfl ?_
  rw [HPo.out]
  exact ⟨rfl, HAB.out, _, HNB.out⟩
set_option maxRecDepth 100000 in
set_option maxHeartbeats 16000000 in
theorem add0_ (W : World) (lo g : Nat) (a : Nd) (sv : Value) (kv : List Value) (k : Fo) (hN : NB W lo g a sv kv k) : Calls Tryz.prog 77 #[ptr g, .slice none 0 0] W (fun r w' => r = .returned (.tuple #[]) ∧ Exc (Tg g sv) W w' ∧ NB w' lo g a sv kv k) := by
  obtain ⟨Post, hPost⟩ : ∃ P : Ending → World → Prop, P = fun r w' => r = .returned (.tuple #[]) ∧ Exc (Tg g sv) W w' ∧ NB w' lo g a sv kv k := ⟨_, rfl⟩
  rw [← hPost]
  have HPo : Hid (Post = fun r w' => r = .returned (.tuple #[]) ∧ Exc (Tg g sv) W w' ∧ NB w' lo g a sv kv k) := hPost
  clear hPost
  have hcell := hN.cell
  have c7 : W.cell? ⟨g, 7, none⟩ = some sv := by simp [World.cell?, hcell, pcell]
  have f7 : W.frozen? ⟨g, 7, none⟩ = false := by simp [World.frozen?, hcell]
  have HR : Hid (W.ownsRow lo 91 1 sv kv.length kv) := hN.row
  have HFIN : Hid (Exc (Tg g sv) W (W.setCell ⟨g, 7, none⟩ sv) ∧ NB (W.setCell ⟨g, 7, none⟩ sv) lo g a sv kv k) := by
    refine ⟨⟨⟨rfl, rfl, rfl⟩, by simp [World.setCell], fun x hx hx2 => ?_⟩, NB.put hN 7 sv (by simp [pcell])⟩
    rw [Below.heap_setCell _ _ _ _ (show x ≠ g from fun e => hx2 (.inl e))]
  clear hN hcell
  unfold ptr
  rcases HR.out.2 with ⟨rfl, -⟩ | ⟨g9, cap, cur, rfl, -, -, hnc, -⟩
  · clear HR
    go_enter Tryz.func77, Tryz.ntmps77
    go_wp2_with fail
    refine bodyPost_end (v := .tuple #[]) (by simp [results, Tryz.results77, go_sem]) rfl ?_
    rw [HPo.out]
    exact ⟨rfl, HFIN.out.1, HFIN.out.2⟩
  · clear HR
    go_enter Tryz.func77, Tryz.ntmps77
    go_wp2_with fail
    refine bodyPost_end (v := .tuple #[]) (by simp [results, Tryz.results77, go_sem]) rfl ?_
    rw [HPo.out]
    exact ⟨rfl, HFIN.out.1, HFIN.out.2⟩
end TP
end Go.Proofs.YtkldllnnocdhbaaGreatDoor
