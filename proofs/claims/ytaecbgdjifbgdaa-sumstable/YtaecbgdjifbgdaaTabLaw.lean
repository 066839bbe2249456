/-
  The law on the table, walked over a table that is any row of 256 cells with the facts that the walk asks of it.
-/
import Derived.Test.YtaecbgdjifbgdaaTabEq
import Derived.Deep.MidRow
namespace Go.Proofs.Ytaecbgdjifbgdaa
open Go.RowKit
theorem wpList_load_rowG {P : Program} {ops : Array Oper} {rest : List Oper} {o : Oper} {a : Act} {w : World} {Q : Exit → Act → World → Prop} (hw : Region.wanted o (yielded ops a.tmps) = true) (ty : TypeId) (x : Operand) (ho : o.op = .load ty x)
    (g : Nat) (hx : a.eval x = .pointer (some ⟨g, 0, none⟩)) (t : TypeId) (cs : Array Value) (fr : Nat × Nat) (d : TypeDesc) (hg : w.heap[g]? = some (.cells cs t fr))
    (hu : P.underlying ty = some d) (hd : (match d with | .struct _ | .array _ _ => true | _ => false) = true) (hi : (P.info? ty).map (·.size) = some cs.size)
    (h : wpList P ops Q rest (a.put o.dst (.agg cs)) w) : wpList P ops Q (o :: rest) a w := by
  unfold wpList
  rw [if_pos hw]
  exact Or.inl (wp_load_row ty x ho g hx t cs fr d hg hu hd hi h)
theorem keepF {w v v' : World} {L : List Value} {b1 b2 b3 j : Nat} {x y : Value} (u : Up v v') (h : v.rangeAt b2 0 L ∧ v.rangeAt b3 0 L ∧ v.cell? ⟨b1, j, none⟩ = some x ∧ v.cell? ⟨b2, j, none⟩ = some y ∧ Up w v) :
    v'.rangeAt b2 0 L ∧ v'.rangeAt b3 0 L ∧ v'.cell? ⟨b1, j, none⟩ = some x ∧ v'.cell? ⟨b2, j, none⟩ = some y ∧ Up w v' :=
  ⟨u.range h.1, u.range h.2.1, u.cell h.2.2.1, u.cell h.2.2.2.1, h.2.2.2.2.trans u⟩
def TabFacts (T : Array Value) (L : List Value) : Prop :=
  (∀ w, Calls Try.prog 21 #[] w fun e w' => e = .returned (.agg T) ∧ Up w w') ∧
  (∀ w, Calls Try.prog 22 #[] w fun e w' => e = .returned (.agg T) ∧ Up w w') ∧
  T.size = 256 ∧
  (Try.prog.info? 34).map (·.size) = some T.size ∧
  (Try.prog.info? 34).map (·.size) = some L.length ∧
  (Array.replicate 256 (Value.int .u32 0)).size = T.size ∧
  T.all (·.oneCell') = true ∧
  (∀ w, (binOp .neq 34 (.agg T) (.agg T)).run Try.prog w = .ok (.bool false) w) ∧
  (∀ w, (binOp .eql 34 (.agg L.toArray) (.agg L.toArray)).run Try.prog w = .ok (.bool true) w) ∧
  (∀ w, (binOp .eql 34 (.agg T) (.agg L.toArray)).run Try.prog w = .ok (.bool true) w) ∧
  (∀ (w : World) (g : Nat), w.heap[g]? = some (.cells T 34 (0, 0)) → w.rangeAt g 0 L) ∧
  (∀ (w : World) (g i : Nat), w.heap[g]? = some (.cells T 34 (0, 0)) → i < 256 → w.cell? ⟨g, i, none⟩ = some (.int .u32 (Sn 8 i : Nat)))
theorem TabFacts.tab {T : Array Value} {L : List Value} (F : TabFacts T L) : ∀ w, Calls Try.prog 21 #[] w fun e w' => e = .returned (.agg T) ∧ Up w w' := F.1
theorem TabFacts.ref {T : Array Value} {L : List Value} (F : TabFacts T L) : ∀ w, Calls Try.prog 22 #[] w fun e w' => e = .returned (.agg T) ∧ Up w w' := F.2.1
theorem TabFacts.size {T : Array Value} {L : List Value} (F : TabFacts T L) : T.size = 256 := F.2.2.1
theorem TabFacts.info {T : Array Value} {L : List Value} (F : TabFacts T L) : (Try.prog.info? 34).map (·.size) = some T.size := F.2.2.2.1
theorem TabFacts.infoL {T : Array Value} {L : List Value} (F : TabFacts T L) : (Try.prog.info? 34).map (·.size) = some L.length := F.2.2.2.2.1
theorem TabFacts.zero {T : Array Value} {L : List Value} (F : TabFacts T L) : (Array.replicate 256 (Value.int .u32 0)).size = T.size := F.2.2.2.2.2.1
theorem TabFacts.one {T : Array Value} {L : List Value} (F : TabFacts T L) : T.all (·.oneCell') = true := F.2.2.2.2.2.2.1
theorem TabFacts.neq {T : Array Value} {L : List Value} (F : TabFacts T L) : ∀ w, (binOp .neq 34 (.agg T) (.agg T)).run Try.prog w = .ok (.bool false) w := F.2.2.2.2.2.2.2.1
theorem TabFacts.eqL {T : Array Value} {L : List Value} (F : TabFacts T L) : ∀ w, (binOp .eql 34 (.agg L.toArray) (.agg L.toArray)).run Try.prog w = .ok (.bool true) w := F.2.2.2.2.2.2.2.2.1
theorem TabFacts.eqM {T : Array Value} {L : List Value} (F : TabFacts T L) : ∀ w, (binOp .eql 34 (.agg T) (.agg L.toArray)).run Try.prog w = .ok (.bool true) w := F.2.2.2.2.2.2.2.2.2.1
theorem TabFacts.range {T : Array Value} {L : List Value} (F : TabFacts T L) {w : World} {g : Nat} (h : w.heap[g]? = some (.cells T 34 (0, 0))) : w.rangeAt g 0 L := F.2.2.2.2.2.2.2.2.2.2.1 w g h
theorem TabFacts.cell {T : Array Value} {L : List Value} (F : TabFacts T L) {w : World} {g i : Nat} (h : w.heap[g]? = some (.cells T 34 (0, 0))) (hi : i < 256) : w.cell? ⟨g, i, none⟩ = some (.int .u32 (Sn 8 i : Nat)) := F.2.2.2.2.2.2.2.2.2.2.2 w g i h hi
theorem tabFacts : TabFacts (tabC 256) tabL := by
  obtain ⟨hv34, hi34⟩ := zero_of_info (P := Try.prog) info34
  exact ⟨table, refTable, tabC_size _, by rw [tabC_size]; exact hi34, by rw [tabL_len]; exact hi34, by rw [tabC_size]; simp, tabC_one _, tab_neq, tab_eqL, tab_eqM, fun _ _ h => range_tab h, fun _ _ _ h hi => cell_tab h hi⟩
set_option maxHeartbeats 1000000 in
set_option maxRecDepth 100000 in
theorem walkT (T : Array Value) (L : List Value) (F : TabFacts T L) (i j : Nat) (w : World) (hi8 : i < 256) (hj8 : j < 256) :
    Calls Try.prog 5 #[.int .u8 i, .int .u8 j] w fun e w' => e = .returned (.bool true) ∧ Up w w' := by
  obtain ⟨hv34, hi34⟩ := zero_of_info (P := Try.prog) info34
  have hsc := fun (v : World) => run_storeCells_new (P := Try.prog) v 34 (Array.replicate 256 (.int .u32 0)) T F.info F.zero F.one
  have HSC : Hid (∀ (v : World), Sem.run Try.prog (storeCells { block := v.heap.size, off := 0 } T.toList) (v.alloc (.cells (Array.replicate 256 (.int .u32 0)) 34)) = .ok () (v.alloc (.cells T 34))) := hsc
  clear hsc hi34
  generalize Array.replicate 256 (Value.int .u32 0) = Z at *
  go_enter Try.func5, Try.ntmps5
  go_wp2_with fail
  refine (F.tab _).mono ?_
  rintro e w1 ⟨rfl, u1⟩
  have hTs := F.size
  have hsc := HSC.out w1
  go_wp2_with fail
  have g1 : (w1.alloc (.cells T 34)).heap[w1.heap.size]? = some (.cells T 34 (0, 0)) := heap_alloc_last _ _
  have v1 : Up w (w1.alloc (.cells T 34)) := u1.alloc _
  have s1 : w1.heap.size < (w1.alloc (.cells T 34)).heap.size := by simp
  generalize w1.alloc (.cells T 34) = x1 at *
  have u1s := u1.size
  clear hsc u1
  refine (F.tab _).mono ?_
  rintro e w2 ⟨rfl, u2⟩
  have hsc := HSC.out w2
  go_wp2_with fail
  have g1 := (u2.alloc (.cells T 34)).heap g1
  have g2 : (w2.alloc (.cells T 34)).heap[w2.heap.size]? = some (.cells T 34 (0, 0)) := heap_alloc_last _ _
  have v2 : Up w (w2.alloc (.cells T 34)) := (v1.trans u2).alloc _
  have s2 : w1.heap.size < w2.heap.size := Nat.lt_of_lt_of_le s1 u2.size
  have sw1 : w.heap.size ≤ w1.heap.size := u1s
  generalize w1.heap.size = b1 at *
  generalize w2.alloc (.cells T 34) = x2 at *
  clear hsc v1 u2 s1
  refine (F.ref _).mono ?_
  rintro e w3 ⟨rfl, u3⟩
  have hsc := HSC.out w3
  have s4 : b1 ≠ w3.heap.size := by have := (Array.getElem?_eq_some_iff.1 g1).1; have := u3.size; omega
  have g1 := (u3.alloc (.cells T 34)).heap g1
  have g2 := (u3.alloc (.cells T 34)).heap g2
  have g3 : (w3.alloc (.cells T 34)).heap[w3.heap.size]? = some (.cells T 34 (0, 0)) := heap_alloc_last _ _
  have v3 : Up w (w3.alloc (.cells T 34)) := (v2.trans u3).alloc _
  have s3 : b1 ≠ w2.heap.size := by omega
  have cn := F.neq
  have hti : Sn 8 i < 4294967296 := Sn_lt (by omega)
  have c1 := F.cell g1 hi8
  have f1 : (w3.alloc (.cells T 34)).frozen? ⟨b1, i, none⟩ = false := by simp only [World.frozen?, g1]; rfl
  have hii : (i : Int) < 256 := by omega
  have hji : (j : Int) < 256 := by omega
  obtain ⟨p, hp⟩ : ∃ p, IntKind.u32.wrap (((Sn 8 i : Nat) : Int) + 1) = p := ⟨_, rfl⟩
  have hpne : p ≠ ((Sn 8 i : Nat) : Int) := by rw [← hp, IntKind.wrap_u32']; omega
  generalize w2.heap.size = b2 at *
  clear v2 u3 s2
  have HG1 : Hid ((w3.alloc (.cells T 34)).heap[b1]? = some (.cells T 34 (0, 0))) := g1
  have HG2 : Hid ((w3.alloc (.cells T 34)).heap[b2]? = some (.cells T 34 (0, 0))) := g2
  have HG3 : Hid ((w3.alloc (.cells T 34)).heap[w3.heap.size]? = some (.cells T 34 (0, 0))) := g3
  clear g1 g2 g3
  go_wp2_with (first
    | (refine wpList_load_rowG (by rfl) 34 (.tmp 5) rfl b1 rfl 34 T (0, 0) _ HG1.out Try.underlying34 rfl F.info ?_)
    | (refine wpList_load_rowG (by rfl) 34 (.tmp 6) rfl b2 rfl 34 T (0, 0) _ HG2.out Try.underlying34 rfl F.info ?_)
    | (refine wpList_load_rowG (by rfl) 34 (.tmp 7) rfl w3.heap.size rfl 34 T (0, 0) _ HG3.out Try.underlying34 rfl F.info ?_))
  have hy : Up w ((w3.alloc (.cells T 34)).setCell ⟨b1, i, none⟩ (.int .u32 p)) := Below.setCell v3 sw1 _
  have r2 : ((w3.alloc (.cells T 34)).setCell ⟨b1, i, none⟩ (.int .u32 p)).heap[b2]? = some (.cells T 34 (0, 0)) := by
    rw [Below.heap_setCell _ _ _ _ (fun e => s3 e.symm)]; exact HG2.out
  have r3 : ((w3.alloc (.cells T 34)).setCell ⟨b1, i, none⟩ (.int .u32 p)).heap[w3.heap.size]? = some (.cells T 34 (0, 0)) := by
    rw [Below.heap_setCell _ _ _ _ (fun e => s4 e.symm)]; exact HG3.out
  have k1 : ((w3.alloc (.cells T 34)).setCell ⟨b1, i, none⟩ (.int .u32 p)).cell? ⟨b1, j, none⟩ = some (.int .u32 (if i = j then p else ((Sn 8 j : Nat) : Int))) := by
    by_cases e : i = j
    · subst e; rw [if_pos rfl]; exact World.cell?_setCell_same _ _ _ c1
    · rw [if_neg e, World.cell?_setCell_other _ _ _ _ (by intro h; injection h with _ h2; exact e h2)]; exact F.cell HG1.out hj8
  have q2 := F.range r2
  have q3 := F.range r3
  have k2 := F.cell r2 hj8
  have hS : ((w3.alloc (.cells T 34)).setCell ⟨b1, i, none⟩ (.int .u32 p)).rangeAt b2 0 L ∧ ((w3.alloc (.cells T 34)).setCell ⟨b1, i, none⟩ (.int .u32 p)).rangeAt w3.heap.size 0 L ∧ ((w3.alloc (.cells T 34)).setCell ⟨b1, i, none⟩ (.int .u32 p)).cell? ⟨b1, j, none⟩ = some (.int .u32 (if i = j then p else ((Sn 8 j : Nat) : Int))) ∧ ((w3.alloc (.cells T 34)).setCell ⟨b1, i, none⟩ (.int .u32 p)).cell? ⟨b2, j, none⟩ = some (.int .u32 ((Sn 8 j : Nat) : Int)) ∧ Up w ((w3.alloc (.cells T 34)).setCell ⟨b1, i, none⟩ (.int .u32 p)) := ⟨q2, q3, k1, k2, hy⟩
  obtain ⟨B, hB⟩ : ∃ B, B = decide (i = j) := ⟨_, rfl⟩
  have e40 : ((if i = j then p else ((Sn 8 j : Nat) : Int)) != ((Sn 8 j : Nat) : Int)) = B := by
    rw [hB]
    by_cases e : i = j
    · subst e; simp [hpne]
    · simp [e]
  have e43 : ((i : Int) == (j : Int)) = B := by
    rw [hB]
    by_cases e : i = j
    · subst e; simp
    · have : ¬ (i : Int) = (j : Int) := by omega
      simp [e, this]
  clear hB hpne hp c1 f1 HG1 HG2 HG3 r2 r3 q2 q3 k1 k2 hy v3 hsc HSC cn s3 s4 g1 g2 hti hv34
  generalize (if i = j then p else ((Sn 8 j : Nat) : Int)) = x at *
  generalize Sn 8 j = y at *
  generalize (w3.alloc (.cells T 34)).setCell ⟨b1, i, none⟩ (.int .u32 p) = V at *
  have cL := F.eqL
  have cM := F.eqM
  have hu34 := Try.underlying34
  have hiL := F.infoL
  generalize Sn 8 i = q at *
  refine wp_region_held_drew (S := fun v => v.rangeAt b2 0 L ∧ v.rangeAt w3.heap.size 0 L ∧ v.cell? ⟨b1, j, none⟩ = some (.int .u32 x) ∧ v.cell? ⟨b2, j, none⟩ = some (.int .u32 (y : Int)) ∧ Up w v) (by kernel_rfl) (keepF (Up.toDrew _) hS) (fun hHeld => ?_)
  clear hS
  refine wpAnyH_take (i := 0) (v := .agg L.toArray) rfl (by kernel_rfl) (by kernel_rfl) (by kernel_rfl) (fun _ _ _ h => h) (yieldsIf_load_mid (by rfl) 34 (.tmp 6) rfl b2 0 rfl L (.array 256 23) (fun v hv => hv.1) Try.underlying34 rfl hiL) (by assumption) ?_
  change wpAnyH _ _ _ _ _ _ _ { tmps := #[.int .u8 i, .int .u8 j, undef, undef, .bool false, .pointer (some ⟨b1, 0, none⟩), .pointer (some ⟨b2, 0, none⟩), .pointer (some ⟨w3.heap.size, 0, none⟩), .agg T, .agg T, .agg T, .agg T, .agg T, .bool false, .bool false, .agg T, .agg T, .bool false, .bool false, .int .u8 i, .int .u8 i, .pointer (some ⟨b1, i, none⟩), .int .u32 q, .int .u32 p, .pointer (some ⟨b1, i, none⟩), .agg L.toArray, undef, undef, undef, undef, undef, undef, undef, undef, undef, undef, undef, undef, undef, undef, undef, undef, undef, undef, undef, undef, undef, undef, undef], defers := [] } _
  refine wpAnyH_take (i := 1) (v := .agg L.toArray) rfl (by kernel_rfl) (by kernel_rfl) (by kernel_rfl) (fun _ _ _ h => h) (yieldsIf_load_mid (by rfl) 34 (.tmp 7) rfl w3.heap.size 0 rfl L (.array 256 23) (fun v hv => hv.2.1) Try.underlying34 rfl hiL) (by assumption) ?_
  change wpAnyH _ _ _ _ _ _ _ { tmps := #[.int .u8 i, .int .u8 j, undef, undef, .bool false, .pointer (some ⟨b1, 0, none⟩), .pointer (some ⟨b2, 0, none⟩), .pointer (some ⟨w3.heap.size, 0, none⟩), .agg T, .agg T, .agg T, .agg T, .agg T, .bool false, .bool false, .agg T, .agg T, .bool false, .bool false, .int .u8 i, .int .u8 i, .pointer (some ⟨b1, i, none⟩), .int .u32 q, .int .u32 p, .pointer (some ⟨b1, i, none⟩), .agg L.toArray, .agg L.toArray, undef, undef, undef, undef, undef, undef, undef, undef, undef, undef, undef, undef, undef, undef, undef, undef, undef, undef, undef, undef, undef, undef], defers := [] } _
  refine wpAnyH_take (i := 2) (v := .bool true) rfl (by kernel_rfl) (by kernel_rfl) (by kernel_rfl) (fun _ _ _ h => h) (Or.inl ⟨by rfl, ?h2⟩) (by assumption) ?_
  case h2 =>
    intro v hv
    rcases hv with ⟨z1, z2, z3, z4, z5⟩
    go_simp
  change wpAnyH _ _ _ _ _ _ _ { tmps := #[.int .u8 i, .int .u8 j, undef, undef, .bool false, .pointer (some ⟨b1, 0, none⟩), .pointer (some ⟨b2, 0, none⟩), .pointer (some ⟨w3.heap.size, 0, none⟩), .agg T, .agg T, .agg T, .agg T, .agg T, .bool false, .bool false, .agg T, .agg T, .bool false, .bool false, .int .u8 i, .int .u8 i, .pointer (some ⟨b1, i, none⟩), .int .u32 q, .int .u32 p, .pointer (some ⟨b1, i, none⟩), .agg L.toArray, .agg L.toArray, .bool true, undef, undef, undef, undef, undef, undef, undef, undef, undef, undef, undef, undef, undef, undef, undef, undef, undef, undef, undef, undef, undef], defers := [] } _
  refine wpAnyH_take (i := 3) (v := .bool true) rfl (by kernel_rfl) (by kernel_rfl) (by kernel_rfl) (fun _ _ _ h => h) (Or.inl ⟨by rfl, ?h3⟩) (by assumption) ?_
  case h3 =>
    intro v hv
    rcases hv with ⟨z1, z2, z3, z4, z5⟩
    go_simp
  change wpAnyH _ _ _ _ _ _ _ { tmps := #[.int .u8 i, .int .u8 j, undef, undef, .bool false, .pointer (some ⟨b1, 0, none⟩), .pointer (some ⟨b2, 0, none⟩), .pointer (some ⟨w3.heap.size, 0, none⟩), .agg T, .agg T, .agg T, .agg T, .agg T, .bool false, .bool false, .agg T, .agg T, .bool false, .bool false, .int .u8 i, .int .u8 i, .pointer (some ⟨b1, i, none⟩), .int .u32 q, .int .u32 p, .pointer (some ⟨b1, i, none⟩), .agg L.toArray, .agg L.toArray, .bool true, .bool true, undef, undef, undef, undef, undef, undef, undef, undef, undef, undef, undef, undef, undef, undef, undef, undef, undef, undef, undef, undef], defers := [] } _
  refine wpAnyH_take (i := 5) (v := .agg L.toArray) rfl (by kernel_rfl) (by kernel_rfl) (by kernel_rfl) (fun _ _ _ h => h) (yieldsIf_load_mid (by rfl) 34 (.tmp 7) rfl w3.heap.size 0 rfl L (.array 256 23) (fun v hv => hv.2.1) Try.underlying34 rfl hiL) (by assumption) ?_
  change wpAnyH _ _ _ _ _ _ _ { tmps := #[.int .u8 i, .int .u8 j, undef, undef, .bool false, .pointer (some ⟨b1, 0, none⟩), .pointer (some ⟨b2, 0, none⟩), .pointer (some ⟨w3.heap.size, 0, none⟩), .agg T, .agg T, .agg T, .agg T, .agg T, .bool false, .bool false, .agg T, .agg T, .bool false, .bool false, .int .u8 i, .int .u8 i, .pointer (some ⟨b1, i, none⟩), .int .u32 q, .int .u32 p, .pointer (some ⟨b1, i, none⟩), .agg L.toArray, .agg L.toArray, .bool true, .bool true, undef, .agg L.toArray, undef, undef, undef, undef, undef, undef, undef, undef, undef, undef, undef, undef, undef, undef, undef, undef, undef, undef], defers := [] } _
  refine wpAnyH_ready (rs := [4]) (by kernel_rfl) (by simp) ?_
  refine AllReadyH.cons rfl (fun K hK => ?_) AllReadyH.nil
  rw [if_pos (by rfl)]
  go_simp
  refine (F.tab _).mono ?_
  rintro e v4 ⟨rfl, up4⟩
  have hHeld4 := keepF up4 (by assumption)
  refine hK.out _ _ hHeld4 (fun _ => ?_)
  clear hK K
  change wpAnyH _ _ _ _ _ _ _ { tmps := #[.int .u8 i, .int .u8 j, undef, undef, .bool false, .pointer (some ⟨b1, 0, none⟩), .pointer (some ⟨b2, 0, none⟩), .pointer (some ⟨w3.heap.size, 0, none⟩), .agg T, .agg T, .agg T, .agg T, .agg T, .bool false, .bool false, .agg T, .agg T, .bool false, .bool false, .int .u8 i, .int .u8 i, .pointer (some ⟨b1, i, none⟩), .int .u32 q, .int .u32 p, .pointer (some ⟨b1, i, none⟩), .agg L.toArray, .agg L.toArray, .bool true, .bool true, .agg T, .agg L.toArray, undef, undef, undef, undef, undef, undef, undef, undef, undef, undef, undef, undef, undef, undef, undef, undef, undef, undef], defers := [] } _
  refine wpAnyH_take (i := 6) (v := .bool true) rfl (by kernel_rfl) (by kernel_rfl) (by kernel_rfl) (fun _ _ _ h => h) (Or.inl ⟨by rfl, ?h6⟩) (by assumption) ?_
  case h6 =>
    intro v hv
    rcases hv with ⟨z1, z2, z3, z4, z5⟩
    go_simp
  change wpAnyH _ _ _ _ _ _ _ { tmps := #[.int .u8 i, .int .u8 j, undef, undef, .bool false, .pointer (some ⟨b1, 0, none⟩), .pointer (some ⟨b2, 0, none⟩), .pointer (some ⟨w3.heap.size, 0, none⟩), .agg T, .agg T, .agg T, .agg T, .agg T, .bool false, .bool false, .agg T, .agg T, .bool false, .bool false, .int .u8 i, .int .u8 i, .pointer (some ⟨b1, i, none⟩), .int .u32 q, .int .u32 p, .pointer (some ⟨b1, i, none⟩), .agg L.toArray, .agg L.toArray, .bool true, .bool true, .agg T, .agg L.toArray, .bool true, undef, undef, undef, undef, undef, undef, undef, undef, undef, undef, undef, undef, undef, undef, undef, undef, undef], defers := [] } _
  refine wpAnyH_take (i := 7) (v := .bool true) rfl (by kernel_rfl) (by kernel_rfl) (by kernel_rfl) (fun _ _ _ h => h) (Or.inl ⟨by rfl, ?h7⟩) (by assumption) ?_
  case h7 =>
    intro v hv
    rcases hv with ⟨z1, z2, z3, z4, z5⟩
    go_simp
  change wpAnyH _ _ _ _ _ _ _ { tmps := #[.int .u8 i, .int .u8 j, undef, undef, .bool false, .pointer (some ⟨b1, 0, none⟩), .pointer (some ⟨b2, 0, none⟩), .pointer (some ⟨w3.heap.size, 0, none⟩), .agg T, .agg T, .agg T, .agg T, .agg T, .bool false, .bool false, .agg T, .agg T, .bool false, .bool false, .int .u8 i, .int .u8 i, .pointer (some ⟨b1, i, none⟩), .int .u32 q, .int .u32 p, .pointer (some ⟨b1, i, none⟩), .agg L.toArray, .agg L.toArray, .bool true, .bool true, .agg T, .agg L.toArray, .bool true, .bool true, undef, undef, undef, undef, undef, undef, undef, undef, undef, undef, undef, undef, undef, undef, undef, undef], defers := [] } _
  refine wpAnyH_take (i := 8) (v := .bool true) rfl (by kernel_rfl) (by kernel_rfl) (by kernel_rfl) (fun _ _ _ h => h) (Or.inl ⟨by rfl, ?h8⟩) (by assumption) ?_
  case h8 =>
    intro v hv
    rcases hv with ⟨z1, z2, z3, z4, z5⟩
    go_simp
  change wpAnyH _ _ _ _ _ _ _ { tmps := #[.int .u8 i, .int .u8 j, undef, undef, .bool false, .pointer (some ⟨b1, 0, none⟩), .pointer (some ⟨b2, 0, none⟩), .pointer (some ⟨w3.heap.size, 0, none⟩), .agg T, .agg T, .agg T, .agg T, .agg T, .bool false, .bool false, .agg T, .agg T, .bool false, .bool false, .int .u8 i, .int .u8 i, .pointer (some ⟨b1, i, none⟩), .int .u32 q, .int .u32 p, .pointer (some ⟨b1, i, none⟩), .agg L.toArray, .agg L.toArray, .bool true, .bool true, .agg T, .agg L.toArray, .bool true, .bool true, .bool true, undef, undef, undef, undef, undef, undef, undef, undef, undef, undef, undef, undef, undef, undef, undef], defers := [] } _
  refine wpAnyH_take (i := 9) (v := .int .u8 j) rfl (by kernel_rfl) (by kernel_rfl) (by kernel_rfl) (fun _ _ _ h => h) (Or.inl ⟨by rfl, ?h9⟩) (by assumption) ?_
  case h9 =>
    intro v hv
    rcases hv with ⟨z1, z2, z3, z4, z5⟩
    go_simp
  change wpAnyH _ _ _ _ _ _ _ { tmps := #[.int .u8 i, .int .u8 j, undef, undef, .bool false, .pointer (some ⟨b1, 0, none⟩), .pointer (some ⟨b2, 0, none⟩), .pointer (some ⟨w3.heap.size, 0, none⟩), .agg T, .agg T, .agg T, .agg T, .agg T, .bool false, .bool false, .agg T, .agg T, .bool false, .bool false, .int .u8 i, .int .u8 i, .pointer (some ⟨b1, i, none⟩), .int .u32 q, .int .u32 p, .pointer (some ⟨b1, i, none⟩), .agg L.toArray, .agg L.toArray, .bool true, .bool true, .agg T, .agg L.toArray, .bool true, .bool true, .bool true, .int .u8 j, undef, undef, undef, undef, undef, undef, undef, undef, undef, undef, undef, undef, undef, undef], defers := [] } _
  refine wpAnyH_take (i := 10) (v := .pointer (some ⟨b1, j, none⟩)) rfl (by kernel_rfl) (by kernel_rfl) (by kernel_rfl) (fun _ _ _ h => h) (Or.inl ⟨by rfl, ?h10⟩) (by assumption) ?_
  case h10 =>
    intro v hv
    rcases hv with ⟨z1, z2, z3, z4, z5⟩
    go_simp
  change wpAnyH _ _ _ _ _ _ _ { tmps := #[.int .u8 i, .int .u8 j, undef, undef, .bool false, .pointer (some ⟨b1, 0, none⟩), .pointer (some ⟨b2, 0, none⟩), .pointer (some ⟨w3.heap.size, 0, none⟩), .agg T, .agg T, .agg T, .agg T, .agg T, .bool false, .bool false, .agg T, .agg T, .bool false, .bool false, .int .u8 i, .int .u8 i, .pointer (some ⟨b1, i, none⟩), .int .u32 q, .int .u32 p, .pointer (some ⟨b1, i, none⟩), .agg L.toArray, .agg L.toArray, .bool true, .bool true, .agg T, .agg L.toArray, .bool true, .bool true, .bool true, .int .u8 j, .pointer (some ⟨b1, j, none⟩), undef, undef, undef, undef, undef, undef, undef, undef, undef, undef, undef, undef, undef], defers := [] } _
  refine wpAnyH_take (i := 11) (v := .int .u32 x) rfl (by kernel_rfl) (by kernel_rfl) (by kernel_rfl) (fun _ _ _ h => h) (Or.inl ⟨by rfl, ?h11⟩) (by assumption) ?_
  case h11 =>
    intro v hv
    rcases hv with ⟨z1, z2, z3, z4, z5⟩
    go_simp
  change wpAnyH _ _ _ _ _ _ _ { tmps := #[.int .u8 i, .int .u8 j, undef, undef, .bool false, .pointer (some ⟨b1, 0, none⟩), .pointer (some ⟨b2, 0, none⟩), .pointer (some ⟨w3.heap.size, 0, none⟩), .agg T, .agg T, .agg T, .agg T, .agg T, .bool false, .bool false, .agg T, .agg T, .bool false, .bool false, .int .u8 i, .int .u8 i, .pointer (some ⟨b1, i, none⟩), .int .u32 q, .int .u32 p, .pointer (some ⟨b1, i, none⟩), .agg L.toArray, .agg L.toArray, .bool true, .bool true, .agg T, .agg L.toArray, .bool true, .bool true, .bool true, .int .u8 j, .pointer (some ⟨b1, j, none⟩), .int .u32 x, undef, undef, undef, undef, undef, undef, undef, undef, undef, undef, undef, undef], defers := [] } _
  refine wpAnyH_take (i := 12) (v := .int .u8 j) rfl (by kernel_rfl) (by kernel_rfl) (by kernel_rfl) (fun _ _ _ h => h) (Or.inl ⟨by rfl, ?h12⟩) (by assumption) ?_
  case h12 =>
    intro v hv
    rcases hv with ⟨z1, z2, z3, z4, z5⟩
    go_simp
  change wpAnyH _ _ _ _ _ _ _ { tmps := #[.int .u8 i, .int .u8 j, undef, undef, .bool false, .pointer (some ⟨b1, 0, none⟩), .pointer (some ⟨b2, 0, none⟩), .pointer (some ⟨w3.heap.size, 0, none⟩), .agg T, .agg T, .agg T, .agg T, .agg T, .bool false, .bool false, .agg T, .agg T, .bool false, .bool false, .int .u8 i, .int .u8 i, .pointer (some ⟨b1, i, none⟩), .int .u32 q, .int .u32 p, .pointer (some ⟨b1, i, none⟩), .agg L.toArray, .agg L.toArray, .bool true, .bool true, .agg T, .agg L.toArray, .bool true, .bool true, .bool true, .int .u8 j, .pointer (some ⟨b1, j, none⟩), .int .u32 x, .int .u8 j, undef, undef, undef, undef, undef, undef, undef, undef, undef, undef, undef], defers := [] } _
  refine wpAnyH_take (i := 13) (v := .pointer (some ⟨b2, j, none⟩)) rfl (by kernel_rfl) (by kernel_rfl) (by kernel_rfl) (fun _ _ _ h => h) (Or.inl ⟨by rfl, ?h13⟩) (by assumption) ?_
  case h13 =>
    intro v hv
    rcases hv with ⟨z1, z2, z3, z4, z5⟩
    go_simp
  change wpAnyH _ _ _ _ _ _ _ { tmps := #[.int .u8 i, .int .u8 j, undef, undef, .bool false, .pointer (some ⟨b1, 0, none⟩), .pointer (some ⟨b2, 0, none⟩), .pointer (some ⟨w3.heap.size, 0, none⟩), .agg T, .agg T, .agg T, .agg T, .agg T, .bool false, .bool false, .agg T, .agg T, .bool false, .bool false, .int .u8 i, .int .u8 i, .pointer (some ⟨b1, i, none⟩), .int .u32 q, .int .u32 p, .pointer (some ⟨b1, i, none⟩), .agg L.toArray, .agg L.toArray, .bool true, .bool true, .agg T, .agg L.toArray, .bool true, .bool true, .bool true, .int .u8 j, .pointer (some ⟨b1, j, none⟩), .int .u32 x, .int .u8 j, .pointer (some ⟨b2, j, none⟩), undef, undef, undef, undef, undef, undef, undef, undef, undef, undef], defers := [] } _
  refine wpAnyH_take (i := 14) (v := .int .u32 y) rfl (by kernel_rfl) (by kernel_rfl) (by kernel_rfl) (fun _ _ _ h => h) (Or.inl ⟨by rfl, ?h14⟩) (by assumption) ?_
  case h14 =>
    intro v hv
    rcases hv with ⟨z1, z2, z3, z4, z5⟩
    go_simp
  change wpAnyH _ _ _ _ _ _ _ { tmps := #[.int .u8 i, .int .u8 j, undef, undef, .bool false, .pointer (some ⟨b1, 0, none⟩), .pointer (some ⟨b2, 0, none⟩), .pointer (some ⟨w3.heap.size, 0, none⟩), .agg T, .agg T, .agg T, .agg T, .agg T, .bool false, .bool false, .agg T, .agg T, .bool false, .bool false, .int .u8 i, .int .u8 i, .pointer (some ⟨b1, i, none⟩), .int .u32 q, .int .u32 p, .pointer (some ⟨b1, i, none⟩), .agg L.toArray, .agg L.toArray, .bool true, .bool true, .agg T, .agg L.toArray, .bool true, .bool true, .bool true, .int .u8 j, .pointer (some ⟨b1, j, none⟩), .int .u32 x, .int .u8 j, .pointer (some ⟨b2, j, none⟩), .int .u32 y, undef, undef, undef, undef, undef, undef, undef, undef, undef], defers := [] } _
  refine wpAnyH_take (i := 15) (v := .bool B) rfl (by kernel_rfl) (by kernel_rfl) (by kernel_rfl) (fun _ _ _ h => h) (Or.inl ⟨by rfl, ?h15⟩) (by assumption) ?_
  case h15 =>
    intro v hv
    rcases hv with ⟨z1, z2, z3, z4, z5⟩
    go_simp
  change wpAnyH _ _ _ _ _ _ _ { tmps := #[.int .u8 i, .int .u8 j, undef, undef, .bool false, .pointer (some ⟨b1, 0, none⟩), .pointer (some ⟨b2, 0, none⟩), .pointer (some ⟨w3.heap.size, 0, none⟩), .agg T, .agg T, .agg T, .agg T, .agg T, .bool false, .bool false, .agg T, .agg T, .bool false, .bool false, .int .u8 i, .int .u8 i, .pointer (some ⟨b1, i, none⟩), .int .u32 q, .int .u32 p, .pointer (some ⟨b1, i, none⟩), .agg L.toArray, .agg L.toArray, .bool true, .bool true, .agg T, .agg L.toArray, .bool true, .bool true, .bool true, .int .u8 j, .pointer (some ⟨b1, j, none⟩), .int .u32 x, .int .u8 j, .pointer (some ⟨b2, j, none⟩), .int .u32 y, .bool B, undef, undef, undef, undef, undef, undef, undef, undef], defers := [] } _
  refine wpAnyH_take (i := 16) (v := .int .u8 i) rfl (by kernel_rfl) (by kernel_rfl) (by kernel_rfl) (fun _ _ _ h => h) (Or.inl ⟨by rfl, ?h16⟩) (by assumption) ?_
  case h16 =>
    intro v hv
    rcases hv with ⟨z1, z2, z3, z4, z5⟩
    go_simp
  change wpAnyH _ _ _ _ _ _ _ { tmps := #[.int .u8 i, .int .u8 j, undef, undef, .bool false, .pointer (some ⟨b1, 0, none⟩), .pointer (some ⟨b2, 0, none⟩), .pointer (some ⟨w3.heap.size, 0, none⟩), .agg T, .agg T, .agg T, .agg T, .agg T, .bool false, .bool false, .agg T, .agg T, .bool false, .bool false, .int .u8 i, .int .u8 i, .pointer (some ⟨b1, i, none⟩), .int .u32 q, .int .u32 p, .pointer (some ⟨b1, i, none⟩), .agg L.toArray, .agg L.toArray, .bool true, .bool true, .agg T, .agg L.toArray, .bool true, .bool true, .bool true, .int .u8 j, .pointer (some ⟨b1, j, none⟩), .int .u32 x, .int .u8 j, .pointer (some ⟨b2, j, none⟩), .int .u32 y, .bool B, .int .u8 i, undef, undef, undef, undef, undef, undef, undef], defers := [] } _
  refine wpAnyH_take (i := 17) (v := .int .u8 j) rfl (by kernel_rfl) (by kernel_rfl) (by kernel_rfl) (fun _ _ _ h => h) (Or.inl ⟨by rfl, ?h17⟩) (by assumption) ?_
  case h17 =>
    intro v hv
    rcases hv with ⟨z1, z2, z3, z4, z5⟩
    go_simp
  change wpAnyH _ _ _ _ _ _ _ { tmps := #[.int .u8 i, .int .u8 j, undef, undef, .bool false, .pointer (some ⟨b1, 0, none⟩), .pointer (some ⟨b2, 0, none⟩), .pointer (some ⟨w3.heap.size, 0, none⟩), .agg T, .agg T, .agg T, .agg T, .agg T, .bool false, .bool false, .agg T, .agg T, .bool false, .bool false, .int .u8 i, .int .u8 i, .pointer (some ⟨b1, i, none⟩), .int .u32 q, .int .u32 p, .pointer (some ⟨b1, i, none⟩), .agg L.toArray, .agg L.toArray, .bool true, .bool true, .agg T, .agg L.toArray, .bool true, .bool true, .bool true, .int .u8 j, .pointer (some ⟨b1, j, none⟩), .int .u32 x, .int .u8 j, .pointer (some ⟨b2, j, none⟩), .int .u32 y, .bool B, .int .u8 i, .int .u8 j, undef, undef, undef, undef, undef, undef], defers := [] } _
  refine wpAnyH_take (i := 18) (v := .bool B) rfl (by kernel_rfl) (by kernel_rfl) (by kernel_rfl) (fun _ _ _ h => h) (Or.inl ⟨by rfl, ?h18⟩) (by assumption) ?_
  case h18 =>
    intro v hv
    rcases hv with ⟨z1, z2, z3, z4, z5⟩
    go_simp
  change wpAnyH _ _ _ _ _ _ _ { tmps := #[.int .u8 i, .int .u8 j, undef, undef, .bool false, .pointer (some ⟨b1, 0, none⟩), .pointer (some ⟨b2, 0, none⟩), .pointer (some ⟨w3.heap.size, 0, none⟩), .agg T, .agg T, .agg T, .agg T, .agg T, .bool false, .bool false, .agg T, .agg T, .bool false, .bool false, .int .u8 i, .int .u8 i, .pointer (some ⟨b1, i, none⟩), .int .u32 q, .int .u32 p, .pointer (some ⟨b1, i, none⟩), .agg L.toArray, .agg L.toArray, .bool true, .bool true, .agg T, .agg L.toArray, .bool true, .bool true, .bool true, .int .u8 j, .pointer (some ⟨b1, j, none⟩), .int .u32 x, .int .u8 j, .pointer (some ⟨b2, j, none⟩), .int .u32 y, .bool B, .int .u8 i, .int .u8 j, .bool B, undef, undef, undef, undef, undef], defers := [] } _
  refine wpAnyH_take (i := 19) (v := .bool true) rfl (by kernel_rfl) (by kernel_rfl) (by kernel_rfl) (fun _ _ _ h => h) (Or.inl ⟨by rfl, ?h19⟩) (by assumption) ?_
  case h19 =>
    intro v hv
    rcases hv with ⟨z1, z2, z3, z4, z5⟩
    go_simp
  change wpAnyH _ _ _ _ _ _ _ { tmps := #[.int .u8 i, .int .u8 j, undef, undef, .bool false, .pointer (some ⟨b1, 0, none⟩), .pointer (some ⟨b2, 0, none⟩), .pointer (some ⟨w3.heap.size, 0, none⟩), .agg T, .agg T, .agg T, .agg T, .agg T, .bool false, .bool false, .agg T, .agg T, .bool false, .bool false, .int .u8 i, .int .u8 i, .pointer (some ⟨b1, i, none⟩), .int .u32 q, .int .u32 p, .pointer (some ⟨b1, i, none⟩), .agg L.toArray, .agg L.toArray, .bool true, .bool true, .agg T, .agg L.toArray, .bool true, .bool true, .bool true, .int .u8 j, .pointer (some ⟨b1, j, none⟩), .int .u32 x, .int .u8 j, .pointer (some ⟨b2, j, none⟩), .int .u32 y, .bool B, .int .u8 i, .int .u8 j, .bool B, .bool true, undef, undef, undef, undef], defers := [] } _
  refine wpAnyH_take (i := 20) (v := .bool true) rfl (by kernel_rfl) (by kernel_rfl) (by kernel_rfl) (fun _ _ _ h => h) (Or.inl ⟨by rfl, ?h20⟩) (by assumption) ?_
  case h20 =>
    intro v hv
    rcases hv with ⟨z1, z2, z3, z4, z5⟩
    go_simp
  change wpAnyH _ _ _ _ _ _ _ { tmps := #[.int .u8 i, .int .u8 j, undef, undef, .bool false, .pointer (some ⟨b1, 0, none⟩), .pointer (some ⟨b2, 0, none⟩), .pointer (some ⟨w3.heap.size, 0, none⟩), .agg T, .agg T, .agg T, .agg T, .agg T, .bool false, .bool false, .agg T, .agg T, .bool false, .bool false, .int .u8 i, .int .u8 i, .pointer (some ⟨b1, i, none⟩), .int .u32 q, .int .u32 p, .pointer (some ⟨b1, i, none⟩), .agg L.toArray, .agg L.toArray, .bool true, .bool true, .agg T, .agg L.toArray, .bool true, .bool true, .bool true, .int .u8 j, .pointer (some ⟨b1, j, none⟩), .int .u32 x, .int .u8 j, .pointer (some ⟨b2, j, none⟩), .int .u32 y, .bool B, .int .u8 i, .int .u8 j, .bool B, .bool true, .bool true, undef, undef, undef], defers := [] } _
  refine wpAnyH_take (i := 21) (v := .bool true) rfl (by kernel_rfl) (by kernel_rfl) (by kernel_rfl) (fun _ _ _ h => h) (Or.inl ⟨by rfl, ?h21⟩) (by assumption) ?_
  case h21 =>
    intro v hv
    rcases hv with ⟨z1, z2, z3, z4, z5⟩
    go_simp
  change wpAnyH _ _ _ _ _ _ _ { tmps := #[.int .u8 i, .int .u8 j, undef, undef, .bool false, .pointer (some ⟨b1, 0, none⟩), .pointer (some ⟨b2, 0, none⟩), .pointer (some ⟨w3.heap.size, 0, none⟩), .agg T, .agg T, .agg T, .agg T, .agg T, .bool false, .bool false, .agg T, .agg T, .bool false, .bool false, .int .u8 i, .int .u8 i, .pointer (some ⟨b1, i, none⟩), .int .u32 q, .int .u32 p, .pointer (some ⟨b1, i, none⟩), .agg L.toArray, .agg L.toArray, .bool true, .bool true, .agg T, .agg L.toArray, .bool true, .bool true, .bool true, .int .u8 j, .pointer (some ⟨b1, j, none⟩), .int .u32 x, .int .u8 j, .pointer (some ⟨b2, j, none⟩), .int .u32 y, .bool B, .int .u8 i, .int .u8 j, .bool B, .bool true, .bool true, .bool true, undef, undef], defers := [] } _
  refine wpAnyH_ready (rs := [22]) (by kernel_rfl) (by simp) ?_
  refine AllReadyH.cons rfl (fun K hK => ?_) AllReadyH.nil
  rw [if_pos (by rfl)]
  go_simp
  refine (works _).mono ?_
  rintro e v22 ⟨rfl, up22⟩
  have hHeld22 := keepF up22 (by assumption)
  refine hK.out _ _ hHeld22 (fun _ => ?_)
  clear hK K
  change wpAnyH _ _ _ _ _ _ _ { tmps := #[.int .u8 i, .int .u8 j, undef, undef, .bool false, .pointer (some ⟨b1, 0, none⟩), .pointer (some ⟨b2, 0, none⟩), .pointer (some ⟨w3.heap.size, 0, none⟩), .agg T, .agg T, .agg T, .agg T, .agg T, .bool false, .bool false, .agg T, .agg T, .bool false, .bool false, .int .u8 i, .int .u8 i, .pointer (some ⟨b1, i, none⟩), .int .u32 q, .int .u32 p, .pointer (some ⟨b1, i, none⟩), .agg L.toArray, .agg L.toArray, .bool true, .bool true, .agg T, .agg L.toArray, .bool true, .bool true, .bool true, .int .u8 j, .pointer (some ⟨b1, j, none⟩), .int .u32 x, .int .u8 j, .pointer (some ⟨b2, j, none⟩), .int .u32 y, .bool B, .int .u8 i, .int .u8 j, .bool B, .bool true, .bool true, .bool true, .bool true, undef], defers := [] } _
  refine wpAnyH_take (i := 23) (v := .bool true) rfl (by kernel_rfl) (by kernel_rfl) (by kernel_rfl) (fun _ _ _ h => h) (Or.inl ⟨by rfl, ?h23⟩) (by assumption) ?_
  case h23 =>
    intro v hv
    rcases hv with ⟨z1, z2, z3, z4, z5⟩
    go_simp
  change wpAnyH _ _ _ _ _ _ _ { tmps := #[.int .u8 i, .int .u8 j, undef, undef, .bool false, .pointer (some ⟨b1, 0, none⟩), .pointer (some ⟨b2, 0, none⟩), .pointer (some ⟨w3.heap.size, 0, none⟩), .agg T, .agg T, .agg T, .agg T, .agg T, .bool false, .bool false, .agg T, .agg T, .bool false, .bool false, .int .u8 i, .int .u8 i, .pointer (some ⟨b1, i, none⟩), .int .u32 q, .int .u32 p, .pointer (some ⟨b1, i, none⟩), .agg L.toArray, .agg L.toArray, .bool true, .bool true, .agg T, .agg L.toArray, .bool true, .bool true, .bool true, .int .u8 j, .pointer (some ⟨b1, j, none⟩), .int .u32 x, .int .u8 j, .pointer (some ⟨b2, j, none⟩), .int .u32 y, .bool B, .int .u8 i, .int .u8 j, .bool B, .bool true, .bool true, .bool true, .bool true, .bool true], defers := [] } _
  refine wpAnyH_take (i := 24) (v := .bool true) rfl (by kernel_rfl) (by kernel_rfl) (by kernel_rfl) (fun _ _ _ h => h) (Or.inl ⟨by rfl, ?h24⟩) (by assumption) ?_
  case h24 =>
    intro v hv
    rcases hv with ⟨z1, z2, z3, z4, z5⟩
    go_simp
  change wpAnyH _ _ _ _ _ _ _ { tmps := #[.int .u8 i, .int .u8 j, undef, undef, .bool true, .pointer (some ⟨b1, 0, none⟩), .pointer (some ⟨b2, 0, none⟩), .pointer (some ⟨w3.heap.size, 0, none⟩), .agg T, .agg T, .agg T, .agg T, .agg T, .bool false, .bool false, .agg T, .agg T, .bool false, .bool false, .int .u8 i, .int .u8 i, .pointer (some ⟨b1, i, none⟩), .int .u32 q, .int .u32 p, .pointer (some ⟨b1, i, none⟩), .agg L.toArray, .agg L.toArray, .bool true, .bool true, .agg T, .agg L.toArray, .bool true, .bool true, .bool true, .int .u8 j, .pointer (some ⟨b1, j, none⟩), .int .u32 x, .int .u8 j, .pointer (some ⟨b2, j, none⟩), .int .u32 y, .bool B, .int .u8 i, .int .u8 j, .bool B, .bool true, .bool true, .bool true, .bool true, .bool true], defers := [] } _
  refine wpAnyH_done (by kernel_rfl) ?_ _
  go_wp2
  go_ret
  exact ⟨rfl, hHeld22.2.2.2.2⟩
end Go.Proofs.Ytaecbgdjifbgdaa
