/- Dr6, Ap6 -/
import Derived.Test.YtodhjjeagmjhdaaGreatDoorEl6TvKp6U
import Derived.Deep.RegionHeld
import Derived.Test.YtodhjjeagmjhdaaGreatDoorRp6VU
namespace Go.Proofs.YtodhjjeagmjhdaaGreatDoor
open Go.RowKit
namespace DE
open Go.Proofs.YtodhjjeagmjhdaaGreatDoor.ST
theorem exec_load_row {P : Program} {o : Oper} {a : Act} (ty : TypeId) (x : Operand) (ho : o.op = .load ty x) (g : Nat) (hx : a.eval x = .pointer (some ⟨g, 0, none⟩)) (t : TypeId) (cs : Array Value) (fr : Nat × Nat) (d : TypeDesc)
  (hu : P.underlying ty = some d) (hd : (match d with | .struct _ | .array _ _ => true | _ => false) = true) (hi : (P.info? ty).map (·.size) = some cs.size) (w : World) (hg : w.heap[g]? = some (.cells cs t fr)) : (execOp a.eval o).run P w = .ok (.value (.agg cs)) w := by
 unfold execOp
 simp only [ho, hx, Instr.loadAt, Instr.sureAddr, Sem.run_bind, Sem.run_pure, Result.andThen_ok, run_loadVar_row w g t ty cs fr d hg hu hd hi]
theorem wpAnyH_world {P : Program} {md : Region.Mode} {ops : Array Oper} {Q : Exit -> Act -> World -> Prop} {S : World -> Prop} {fuel : Nat} {listed : Array Bool} {a : Act} {w W : World} (h : w = W) (k : wpAnyH P md ops Q S fuel listed a W) : wpAnyH P md ops Q S fuel listed a w := by subst h; exact k
theorem stepH_store {P : Program} {o : Oper} {a : Act} {w : World} {K : Act -> World -> Prop} {Q : Exit -> Act -> World -> Prop} {c X : Prop} [Decidable c] (hw : c) (ty : TypeId) (x y : Operand) (ho : o.op = .store ty x y)
  (g : Nat) (cells : Array Value) (hx : a.eval x = .pointer (some ⟨g, 0, none⟩)) (hy : a.eval y = .agg cells)
  (t : TypeId) (old : Array Value) (hg : w.heap[g]? = some (.cells old t (0, 0))) (hi : (P.info? ty).map (·.size) = some cells.size)
  (hold : old.size = cells.size) (h1 : cells.all (·.oneCell') = true) (h : K (a.put o.dst undef) (w.setRow g cells)) :
  if c then Oper.wp P o a w K Q else X := by
 rw [if_pos hw]
 exact wp_store_row ty x y ho g cells hx hy t old hg hi hold h1 h
theorem row_setRow {w : World} {base e s n g : Nat} {v : Value} {xs : List Value} {old C : Array Value} {t : TypeId} {fr : Nat × Nat} (h : w.ownsRow base e s v n xs) (hg : w.heap[g]? = some (.cells old t fr)) (ht : e ≠ t) : (w.setRow g C).ownsRow base e s v n xs := by
 refine ⟨h.1, ?_⟩
 rcases h.2 with h0 | ⟨g', cap, cur, e1, e2, e3, e4⟩
 ·exact .inl h0
 ·refine .inr ⟨g', cap, cur, e1, e2, ?_, e4⟩
  rw [setRow_other]
  ·exact e3
  ·rintro rfl
   rw [e3] at hg
   simp only [Option.some.injEq, Obj.cells.injEq] at hg
   exact ht hg.2.1
theorem SOA.setRow {w : World} {base g : Nat} {v : Value} {s : Stt} {old C : Array Value} {fr : Nat × Nat} (h : SOA base w v s) (hg : w.heap[g]? = some (.cells old 27 fr)) : SOA base (w.setRow g C) v s := by
 obtain ⟨vp, vc, vz, hv, h1, h2, vs, h3, h4, h5⟩ := h
 exact ⟨vp, vc, vz, hv, row_setRow h1 hg (by decide), row_setRow h2 hg (by decide), vs, row_setRow h3 hg (by decide), fun i hi => row_setRow (h4 i hi) hg (by decide), h5⟩
theorem results_c1 {P : Program} {fn : Func} {p q : Tmp} {ty : TypeId} (h : fn.results = #[.cell p ty, .tmp q]) (tmps : Array Value) (w : World) (g : Nat) (t : TypeId) (cs : Array Value) (fr : Nat × Nat) (d : TypeDesc) (x : Value)
  (hp : tmps.getD p undef = .pointer (some ⟨g, 0, none⟩)) (hq : tmps.getD q undef = x) (hg : w.heap[g]? = some (.cells cs t fr))
  (hu : P.underlying ty = some d) (hd : (match d with | .struct _ | .array _ _ => true | _ => false) = true) (hi : (P.info? ty).map (·.size) = some cs.size) :
  (results fn tmps).run P w = .ok (.tuple #[.agg cs, x]) w := by
 have hp' : tmps[p]?.getD undef = .pointer (some ⟨g, 0, none⟩) := by simpa using hp
 have hq' : tmps[q]?.getD undef = x := by simpa using hq
 simp [results, h, hp', hq', asAddr, run_loadVar_row w g t ty cs fr d hg hu hd hi]
theorem calls_world {P : Program} {f : FuncId} {args : Array Value} {w W : World} {Q : Ending -> World -> Prop} (h : w = W) (k : Calls P f args W Q) : Calls P f args w Q := by subst h; exact k
theorem SOA.row {base : Nat} {W : World} {v : Value} {s : Stt} (h : SOA base W v s) : ∃ C : Array Value, v = .agg C /\ C.size = 7 /\ C.all (·.oneCell') = true := by
 obtain ⟨vp, vc, vz, hv, h1, h2, vs, h3, -, -⟩ := h
 obtain ⟨a1, k1, rfl⟩ := row_val h1
 obtain ⟨a2, k2, rfl⟩ := row_val h2
 obtain ⟨a3, k3, rfl⟩ := row_val h3
 unfold sv at hv
 exact ⟨_, hv, rfl, by simp [Value.oneCell']⟩
end DE
end Go.Proofs.YtodhjjeagmjhdaaGreatDoor
namespace Go.Proofs.YtodhjjeagmjhdaaGreatDoor
open Go.RowKit
attribute [local go_sem ↓] Go.wp_at_zero Go.wp_at_succ
namespace DE
open Go.Proofs.YtodhjjeagmjhdaaGreatDoor.ST
set_option maxRecDepth 100000 in
set_option maxHeartbeats 4000000 in
theorem apply_ (v vo : Value) (s : Stt) (e : Ev) (w : World) (hs : StL w v s) (hsm : Small s) (ho : IL w vo e.ord) (hn : e.ord.length <= 4294967296) :
  Calls Tryz.prog 11 #[v, evv e vo] w (AppV w (repO s [e])) := by
 obtain ⟨Post, hPost⟩ : ∃ P : Ending -> World -> Prop, P = AppV w (repO s [e]) := ⟨_, rfl⟩
 rw [<- hPost]
 have HP : Hid (Post = AppV w (repO s [e])) := hPost
 obtain ⟨oa, oc, rfl, -, -⟩ := il_at ho
 have HR : Hid (∀ W g, Up w W -> W.heap[g]? = some (.cells (evc e (.slice oa e.ord.length oc)) 30 (0, 0)) -> Calls Tryz.prog 24 #[v, .slice (some ⟨g, 0, none⟩) 1 1] W (RepV W (repO s [e]))) := fun W g u hg =>
  replay_ v _ s [e] W (hs.up u) hsm (evs_one hg (IL.up ho u)) (by simp) (fun i hi => by
   simp only [List.length_singleton] at hi
   obtain rfl : i = 0 := by omega
   show e.ord.length <= _
   omega)
 obtain ⟨vp, vc, vz, hv, h1, h2, h3⟩ := hs
 obtain ⟨a1, k1, rfl, -, -⟩ := lc_at h1
 obtain ⟨a2, k2, rfl, -, -⟩ := lc_at h2
 obtain ⟨a3, k3, rfl, -, -⟩ := zl_at h3
 unfold sv at hv
 clear h1 h2 h3 hsm hPost ho hn
 subst hv
 generalize repO s [e] = o at *
 obtain ⟨W0, hW0⟩ : ∃ W0, (((w.alloc (.cells #[.slice a1 s.ps.length k1, .slice a2 s.cs.length k2, .slice a3 s.zs.length k3, .int .i32 s.turn, .int .i64 s.whose, .int .i8 s.fin, .int .i64 s.winner] 27)).alloc (.cells (evc e (.slice oa e.ord.length oc)) 30)).alloc (.cells zS 27)).alloc (.cells (evc e (.slice oa e.ord.length oc)) 30) = W0 := ⟨_, rfl⟩
 have h2 : W0.heap[w.heap.size + 2]? = some (.cells zS 27 (0, 0)) := by
  rw [<- hW0, Below.heap_alloc _ _ _ (by simp)]
  have := heap_alloc_new ((w.alloc (.cells #[.slice a1 s.ps.length k1, .slice a2 s.cs.length k2, .slice a3 s.zs.length k3, .int .i32 s.turn, .int .i64 s.whose, .int .i8 s.fin, .int .i64 s.winner] 27)).alloc (.cells (evc e (.slice oa e.ord.length oc)) 30)) (.cells zS 27)
  simpa using this
 have h3 : W0.heap[w.heap.size + 3]? = some (.cells (evc e (.slice oa e.ord.length oc)) 30 (0, 0)) := by
  rw [<- hW0]
  have := heap_alloc_new (((w.alloc (.cells #[.slice a1 s.ps.length k1, .slice a2 s.cs.length k2, .slice a3 s.zs.length k3, .int .i32 s.turn, .int .i64 s.whose, .int .i8 s.fin, .int .i64 s.winner] 27)).alloc (.cells (evc e (.slice oa e.ord.length oc)) 30)).alloc (.cells zS 27)) (.cells (evc e (.slice oa e.ord.length oc)) 30)
  simpa using this
 have hu : Up w W0 := by rw [<- hW0]; exact ((((Up.refl _).alloc _).alloc _).alloc _).alloc _
 have hsz : w.heap.size <= W0.heap.size := hu.size
 unfold evv evc
 go_enter Tryz.func11, Tryz.ntmps11
 go_wp2_with fail
 refine calls_world hW0 (Calls.mono (HR.out W0 (w.heap.size + 3) hu h3) ?_)
 rintro r W1 ⟨v', rfl, so, u1⟩
 obtain ⟨C, rfl, hC1, hC2⟩ := SOA.row so
 obtain ⟨W2, hW2⟩ : ∃ W2, (W1.alloc (.cells zS 27)).setRow W1.heap.size C = W2 := ⟨_, rfl⟩
 obtain ⟨f1, f2, -⟩ := filled W1 zS C 27
 rw [hW2] at f1 f2
 have g2 : W2.heap[w.heap.size + 2]? = some (.cells zS 27 (0, 0)) := (u1.trans f2).heap h2
 have HE : Hid (AppV w o (.returned (.tuple #[.agg C, .int .i64 (errOf o)])) (W2.setRow (w.heap.size + 2) C)) :=
  ⟨_, rfl, SOA.setRow ((so.less hsz).up f2) g2, up_setRow (hu.trans (u1.trans f2)) (by omega) _⟩
 clear hW0 h2 h3 hu u1 f2 HR so
 go_wp2_with (first | (refine wpList_store_row rfl 27 (.tmp 6) (.tmp 14) rfl W1.heap.size C rfl rfl 27 zS (heap_alloc_new W1 _) (by rw [hC1]; exact infoSt) (by rw [hC1]; rfl) hC2 ?_; refine wpList_world hW2 ?_) | (refine wpList_load_row rfl 27 (.tmp 6) rfl W1.heap.size rfl 27 C (0, 0) _ f1 Tryz.underlying27 rfl (by rw [hC1]; exact infoSt) ?_) | (refine wpList_store_row rfl 27 (.tmp 4) (.tmp 17) rfl (w.heap.size + 2) C rfl rfl 27 zS g2 (by rw [hC1]; exact infoSt) (by rw [hC1]; rfl) hC2 ?_))
 refine bodyPost_ret (v := .tuple #[.agg C, .int .i64 (errOf o)]) (results_c1 (p := 4) (q := 5) (ty := 27) rfl _ _ (w.heap.size + 2) 27 C (0, 0) _ _ rfl rfl (setRow_heap _ _ _ _ _ _ g2) Tryz.underlying27 rfl (by rw [hC1]; exact infoSt)) rfl ?_
 rw [HP.out]
 exact HE.out
end DE
end Go.Proofs.YtodhjjeagmjhdaaGreatDoor
