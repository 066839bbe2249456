/-
  Encode: a number written behind what was written.
-/
import Derived.Test.YtmpamcdobhiipaaGreatDoorEqQ
import Derived.Test.YtmpamcdobhiipaaGreatDoorIm7ToTc
import Derived.Deep.WholeRow
import Derived.Laws.ResultCell
namespace Go.Proofs.YtmpamcdobhiipaaGreatDoor
open Go.RowKit
attribute [local go_sem ↓] Go.wp_at_zero Go.wp_at_succ

namespace IM
open Go.Proofs.YtmpamcdobhiipaaGreatDoor.ST
def bvs (l : List Int) : List Value := l.map fun z => .int .u8 z
theorem bvs_len (l : List Int) : (bvs l).length = l.length := by simp [bvs]
theorem bvs_app (l m : List Int) : bvs (l ++ m) = bvs l ++ bvs m := by simp [bvs]
theorem row_keep {W W' : World} {base e s n : Nat} {v : Value} {xs : List Value} (h : W.ownsRow base e s v n xs) (k : ∀ g o, v.ownBlock = some g → W.heap[g]? = some o → W'.heap[g]? = some o) : W'.ownsRow base e s v n xs := by
  refine ⟨h.1, ?_⟩
  rcases h.2 with h0 | ⟨g, cap, cur, e1, e2, e3, e4⟩
  · exact .inl h0
  · exact .inr ⟨g, cap, cur, e1, e2, k _ _ (by rw [e1]; rfl) e3, e4⟩
/- the cell p holds a list of bytes that nobody else has -/
def IsW (base p : Nat) (B : List Int) (W : World) : Prop := base ≤ p ∧ ∃ v, W.heap[p]? = some (.cells #[v] 22 (0, 0)) ∧ W.ownsRow base 5 1 v B.length (bvs B) ∧ v.ownBlock ≠ some p
/- what is no list of bytes, and not the cell p, stays -/
def TK (p : Nat) (w w' : World) : Prop := ∀ g cs t f, w.heap[g]? = some (.cells cs t f) → g ≠ p → t ≠ 5 → w'.heap[g]? = some (.cells cs t f)
theorem TK.refl (p : Nat) (w : World) : TK p w w := fun _ _ _ _ h _ _ => h
theorem TK.trans {p : Nat} {a b c : World} (h : TK p a b) (k : TK p b c) : TK p a c := fun g cs t f hg hp ht => k g cs t f (h g cs t f hg hp ht) hp ht
theorem TK.of_up {p : Nat} {a b : World} (h : Up a b) : TK p a b := fun _ _ _ _ hg _ _ => h.heap hg
theorem infoByte : (Tryz.prog.info? 5).map (fun i => (i.zero, i.size, i.bytes)) = some (some (.int .u8 0), 1, 1) := by kernel_rfl
theorem info4 : (Tryz.prog.info? 138).map (·.size) = some 4 := by kernel_rfl
theorem w24 (n : Int) : IntKind.u8.wrap (n / 16777216) = n / 16777216 % 256 := by rw [IntKind.wrap_u8']
theorem w16 (n : Int) : IntKind.u8.wrap (n / 65536) = n / 65536 % 256 := by rw [IntKind.wrap_u8']
theorem w8 (n : Int) : IntKind.u8.wrap (n / 256) = n / 256 % 256 := by rw [IntKind.wrap_u8']
theorem w0 (n : Int) : IntKind.u8.wrap n = n % 256 := by rw [IntKind.wrap_u8']
/- an append to a row that is full: a new row -/
theorem wpList_append_full {P : Program} {w : World} {ops : Array Oper} {rest : List Oper} {o : Oper} {a : Act} {Q : Exit → Act → World → Prop} (hgd : o.guard = none) (s x : Operand) (t : TypeId)
    (ho : o.op = .call { callee := .builtin .append, args := #[s, x], argTypes := #[t, t] })
    (base : Nat) (e : TypeId) (i : TypeInfo) (z : Value) (size bytes : Nat) (ht : P.underlying t = some (.slice e)) (hi : P.info? e = some i) (hz : i.zero = some z)
    (hsize : i.size = size) (hby : i.bytes = bytes) (hzs : z.cells.size = size) (g n : Nat) (xs : List Value) (hs : a.eval s = .slice (some ⟨g, 0, none⟩) n n) (hxl : xs.length = n * size)
    (hold : ∀ j u, xs[j]? = some u → w.cell? ((⟨g, 0, none⟩ : Addr).add j) = some u) (ad : Addr) (m c : Nat) (news : List Value) (hx : a.eval x = .slice (some ad) m c) (hl : news.length = m * size)
    (hnews : ∀ j u, news[j]? = some u → w.cell? (ad.add j) = some u) (hm : 0 < m) (h63 : n + m ≤ maxLen) (hbytes : (n + m) * bytes ≤ 140737488355328) (hbase : base ≤ w.heap.size)
    (h : ∀ v' w', w'.ownsRow base e size v' (n + m) (xs ++ news) → w.grownBy w' none → wpList P ops Q rest (a.put o.dst v') w') : wpList P ops Q (o :: rest) a w := by
  refine wpList_plain hgd fun K hK => ?_
  subst hsize
  subst hby
  have hlen : (xs ++ news).length = (n + m) * i.size := by rw [List.length_append, hxl, hl, Nat.add_mul]
  have hsmall : n + m ≤ 9223372036854775807 := by simp only [maxLen] at h63; omega
  have hr := run_append_grow (P := P) w t o.type e i z ht hi hz ⟨g, 0, none⟩ n n xs hxl hold ad m c news hl hnews (by omega) (by omega) (growslice_fits (by omega) hbytes)
  have hge := grownCap_ge w (n + m) n e
  have hcm : grownCap w (n + m) n e ≤ maxLen := grownCap_le_maxLen w (n + m) n e h63
  unfold Oper.wp execOp
  simp only [ho, resolve, invoke, builtin, Sem.run_bind, Sem.run_pure, Result.andThen_ok, List.map_toArray, List.map_cons, List.map_nil, hs, hx, hr]
  refine hK _ _ (h _ _ ⟨hlen, .inr ⟨w.heap.size, _, _, rfl, hbase, heap_alloc_new w.drew _, hge, hcm, ?_, ?_⟩⟩ ⟨rfl, rfl, rfl, by simp, fun k hk _ => Go.heap_alloc_old w.drew _ hk⟩)
  · simp only [Array.size_append, List.size_toArray, size_zeroCells, hzs, hxl, hl, ← Nat.add_mul]
    congr 1
    omega
  · simp only [Array.toList_append, List.append_assoc]
    rw [← List.append_assoc, ← hlen]
    exact List.take_left
/- the cell p holds the list that a constant text became -/
def IsM (base p : Nat) (W : World) : Prop := base ≤ p ∧ ∃ g, W.heap[p]? = some (.cells #[.slice (some ⟨g, 0, none⟩) 5 5] 22 (0, 0)) ∧ W.heap[g]? = some (.cells (bvs mk).toArray 5 (5, 6)) ∧ base ≤ g
set_option maxRecDepth 100000 in
set_option maxHeartbeats 2000000 in
theorem write0_ (base p : Nat) (n : Int) (w : World) (h : IsM base p w) (hb : base ≤ w.heap.size) :
    Calls Tryz.prog 59 #[.int .i64 1, .int .i64 n, .pointer (some ⟨p, 0, none⟩)] w fun x w' => x = .returned (.tuple #[]) ∧ IsW base p (mk ++ by1 n) w' ∧ Below base w w' ∧ TK p w w' := by
  obtain ⟨i0, hi, hz0, hz1, hz2⟩ := info_parts infoByte
  obtain ⟨hp, g0, hbk, hg0, hgb⟩ := h
  have hne : g0 ≠ p := fun e => by rw [e, hbk] at hg0; simp at hg0
  obtain ⟨F, hF⟩ : ∃ F : Array Value, F = #[.int .u8 (n / 16777216 % 256), .int .u8 (n / 65536 % 256), .int .u8 (n / 256 % 256), .int .u8 (n % 256)] := ⟨_, rfl⟩
  obtain ⟨W1, hW1⟩ : ∃ W1, w.alloc (.cells F 138) = W1 := ⟨_, rfl⟩
  have hu1 : Up w W1 := by rw [← hW1]; exact (Up.refl _).alloc _
  have hs1 : W1.heap.size = w.heap.size + 1 := by rw [← hW1]; simp
  have hF1 : W1.heap[w.heap.size]? = some (.cells F 138 (0, 0)) := by rw [← hW1]; exact heap_alloc_new _ _
  have hbk1 := hu1.heap hbk
  have hplt : p < w.heap.size := (Array.getElem?_eq_some_iff.1 hbk).1
  have HO : Hid (∀ nq j u, (bvs mk)[j]? = some u → (W1.drewN nq).cell? ((⟨g0, 0, none⟩ : Addr).add j) = some u) := fun nq j u hj => by
    have hh : (W1.drewN nq).heap[g0]? = some (.cells (bvs mk).toArray 5 (5, 6)) := hu1.heap hg0
    rw [Addr.add_mid, Nat.zero_add]
    simp only [World.cell?, hh]
    simpa using hj
  have HFC : Hid (∀ nq j u, (bvs (by1 n))[j]? = some u → (W1.drewN nq).cell? ((⟨w.heap.size, 3, none⟩ : Addr).add j) = some u) := fun nq j u hj => by
    have hh : (W1.drewN nq).heap[w.heap.size]? = some (.cells F 138 (0, 0)) := hF1
    rw [Addr.add_mid]
    simp only [World.cell?, hh]
    have hjl : j < 1 := by
      have := (List.getElem?_eq_some_iff.1 hj).1
      simpa [bvs, by1] using this
    subst hF
    match j, hjl with
    | 0, _ => simpa [bvs, by1] using hj
  have HS : Hid (∀ nq, base ≤ (W1.drewN nq).heap.size) := fun nq => by show base ≤ W1.heap.size; omega
  have HF : Hid (∀ nq v' w2, w2.ownsRow base 5 1 v' (5 + 1) (bvs mk ++ bvs (by1 n)) → (W1.drewN nq).grownBy w2 none → w2.cell? ⟨p, 0, none⟩ = some (.slice (some ⟨g0, 0, none⟩) 5 5) ∧ w2.frozen? ⟨p, 0, none⟩ = false ∧ IsW base p (mk ++ by1 n) (w2.setCell ⟨p, 0, none⟩ v') ∧ Below base w (w2.setCell ⟨p, 0, none⟩ v') ∧ TK p w (w2.setCell ⟨p, 0, none⟩ v')) := fun nq v' w2 h1 hg => by
    have hp2 : w2.heap[p]? = some (.cells #[.slice (some ⟨g0, 0, none⟩) 5 5] 22 (0, 0)) := by
      rw [hg.block p (by show p < W1.heap.size; omega) (fun e => by cases e)]
      exact hbk1
    have hne2 : v'.ownBlock ≠ some p := fun e => by
      rcases h1.2 with ⟨h0, -⟩ | ⟨g, cap, cur, e1, -, e3, -⟩
      · rw [h0] at e; cases e
      · rw [e1] at e
        obtain rfl : g = p := by simpa [Value.ownBlock] using e
        rw [hp2] at e3
        simp at e3
    have hB : Below base w w2 := Below.grown (Below.mono (hu1.drewN nq) hb) hg (by show base ≤ W1.heap.size; omega) (fun k hk => by cases hk)
    refine ⟨by simp [World.cell?, hp2], seven_f hp2 0, ⟨hp, v', ?_, ?_, hne2⟩, hB.setCell (p := ⟨p, 0, none⟩) hp _, fun g cs t f hg9 hgp htu => ?_⟩
    · have := set_cells (W := w2) (j := 0) (x := v') (show w2.heap[p]? = some (.cells [.slice (some ⟨g0, 0, none⟩) 5 5].toArray 22 (0, 0)) from hp2)
      simpa using this
    · rw [bvs_app, List.length_append]
      exact row_keep h1 (fun g o hg ho => by
        have hgp : g ≠ p := fun e => hne2 (by rw [hg, e])
        exact set_other ho hgp)
    · have hg1 := hu1.heap hg9
      have hgl : g < W1.heap.size := (Array.getElem?_eq_some_iff.1 hg1).1
      refine set_other ?_ hgp
      rw [hg.block g hgl (fun e => by cases e)]
      exact hg1
  have c0 : W1.cell? ⟨p, 0, none⟩ = some (.slice (some ⟨g0, 0, none⟩) 5 5) := by simp [World.cell?, hbk1]
  clear hbk hbk1 hg0 hgb hne hF1 hu1 hplt hp
  rw [hF] at hW1
  go_enter Tryz.func59, Tryz.ntmps59
  go_wp2_with fail
  try rw [hW1]
  refine TailR.wp_region_seq 4 (by kernel_rfl) (by kernel_rfl) ?_
  simp only [List.take_succ_cons, List.take_zero, List.drop_succ_cons, List.drop_zero]
  repeat (go_big_quiet_step (fail))
  refine wpQuiet_nil ?_
  intro _ hw'
  obtain ⟨nq, hw''⟩ := hw'
  subst hw''
  go_wp2_with (at_builtin; go_loud (refine wpList_append_full (by rfl) (.tmp 18) (.tmp 21) 22 (by rfl) base 5 i0 _ 1 1 Tryz.underlying22 hi hz0 hz1 hz2 (by rfl) g0 5 (bvs mk) (by rfl) (by rfl) (HO.out nq) ⟨w.heap.size, 3, none⟩ 1 1 (bvs (by1 n)) (by rfl) (by rfl) (HFC.out nq) (by decide) (by unfold maxLen; omega) (by omega) (HS.out nq) ?_; intro v' w2 hin hg1; obtain ⟨d1, d2, d3⟩ := HF.out nq v' w2 hin hg1; have HZ : Hid _ := d3; obtain ⟨va', n', vc', hva⟩ : ∃ a n c, v' = Value.slice a n c := (by rcases hin.2 with ⟨hv, _⟩ | ⟨g, cap, cur, hv, _⟩ <;> exact ⟨_, _, _, hv⟩); subst hva; clear hin hg1 d3))
  go_wp2
  first | exact ⟨rfl, HZ.out⟩ | (go_end0; exact ⟨rfl, HZ.out⟩)
set_option maxRecDepth 100000 in
set_option maxHeartbeats 2000000 in
theorem write1_ (base p : Nat) (B : List Int) (n : Int) (w : World) (h : IsW base p B w) (hlen : B.length ≤ 140000000000000) (hb : base ≤ w.heap.size) :
    Calls Tryz.prog 59 #[.int .i64 1, .int .i64 n, .pointer (some ⟨p, 0, none⟩)] w fun x w' => x = .returned (.tuple #[]) ∧ IsW base p (B ++ by1 n) w' ∧ Below base w w' ∧ TK p w w' := by
  obtain ⟨i0, hi, hz0, hz1, hz2⟩ := info_parts infoByte
  obtain ⟨hp, v, hbk, hown, hne⟩ := h
  obtain ⟨F, hF⟩ : ∃ F : Array Value, F = #[.int .u8 (n / 16777216 % 256), .int .u8 (n / 65536 % 256), .int .u8 (n / 256 % 256), .int .u8 (n % 256)] := ⟨_, rfl⟩
  obtain ⟨W1, hW1⟩ : ∃ W1, w.alloc (.cells F 138) = W1 := ⟨_, rfl⟩
  have hu1 : Up w W1 := by rw [← hW1]; exact (Up.refl _).alloc _
  have hs1 : W1.heap.size = w.heap.size + 1 := by rw [← hW1]; simp
  have hF1 : W1.heap[w.heap.size]? = some (.cells F 138 (0, 0)) := by rw [← hW1]; exact heap_alloc_new _ _
  have hbk1 := hu1.heap hbk
  have hplt : p < w.heap.size := (Array.getElem?_eq_some_iff.1 hbk).1
  have HO : Hid (∀ nq, (W1.drewN nq).ownsRow base 5 1 v B.length (bvs B)) := fun nq => row_up hown (hu1.drewN nq)
  have HFC : Hid (∀ nq j u, (bvs (by1 n))[j]? = some u → (W1.drewN nq).cell? ((⟨w.heap.size, 3, none⟩ : Addr).add j) = some u) := fun nq j u hj => by
    have hh : (W1.drewN nq).heap[w.heap.size]? = some (.cells F 138 (0, 0)) := hF1
    rw [Addr.add_mid]
    simp only [World.cell?, hh]
    have hjl : j < 1 := by
      have := (List.getElem?_eq_some_iff.1 hj).1
      simpa [bvs, by1] using this
    subst hF
    match j, hjl with
    | 0, _ => simpa [bvs, by1] using hj
  have HON : Hid (∀ u ∈ bvs (by1 n), u.oneCell' = true) := fun u hu => by
    simp only [bvs, List.mem_map] at hu
    obtain ⟨z, -, rfl⟩ := hu
    rfl
  have HS : Hid (∀ nq, base ≤ (W1.drewN nq).heap.size) := fun nq => by show base ≤ W1.heap.size; omega
  have HF : Hid (∀ nq v' w2, w2.ownsRow base 5 1 v' (B.length + 1) (bvs B ++ bvs (by1 n)) → (W1.drewN nq).grownBy w2 v.ownBlock → w2.cell? ⟨p, 0, none⟩ = some v ∧ w2.frozen? ⟨p, 0, none⟩ = false ∧ IsW base p (B ++ by1 n) (w2.setCell ⟨p, 0, none⟩ v') ∧ Below base w (w2.setCell ⟨p, 0, none⟩ v') ∧ TK p w (w2.setCell ⟨p, 0, none⟩ v')) := fun nq v' w2 h1 hg => by
    have hp2 : w2.heap[p]? = some (.cells #[v] 22 (0, 0)) := by
      rw [hg.block p (by show p < W1.heap.size; omega) (fun e => hne e.symm)]
      exact hbk1
    have hne2 : v'.ownBlock ≠ some p := fun e => by
      rcases h1.2 with ⟨h0, -⟩ | ⟨g, cap, cur, e1, -, e3, -⟩
      · rw [h0] at e; cases e
      · rw [e1] at e
        obtain rfl : g = p := by simpa [Value.ownBlock] using e
        rw [hp2] at e3
        simp at e3
    have hB : Below base w w2 := Below.grown (Below.mono (hu1.drewN nq) hb) hg (by show base ≤ W1.heap.size; omega) (fun k hk => (hown.lt k hk).1)
    refine ⟨by simp [World.cell?, hp2], seven_f hp2 0, ⟨hp, v', ?_, ?_, hne2⟩, hB.setCell (p := ⟨p, 0, none⟩) hp _, fun g cs t f hg9 hgp htu => ?_⟩
    · have := set_cells (W := w2) (j := 0) (x := v') (show w2.heap[p]? = some (.cells [v].toArray 22 (0, 0)) from hp2)
      simpa using this
    · rw [bvs_app, List.length_append]
      exact row_keep h1 (fun g o hg ho => by
        have hgp : g ≠ p := fun e => hne2 (by rw [hg, e])
        exact set_other ho hgp)
    · have hg1 := hu1.heap hg9
      have hgl : g < W1.heap.size := (Array.getElem?_eq_some_iff.1 hg1).1
      refine set_other ?_ hgp
      rw [hg.block g hgl (fun e => by
        rcases hown.2 with ⟨h0, -⟩ | ⟨g', cap, cur, e1, -, e3, -⟩
        · rw [h0] at e; cases e
        · rw [e1] at e
          obtain rfl : g' = g := by simpa [Value.ownBlock] using e.symm
          rw [hg9] at e3
          simp at e3
          exact htu e3.2.1)]
      exact hg1
  obtain ⟨va, vn, vc, hv⟩ : ∃ a n c, v = .slice a n c := by
    rcases hown.2 with ⟨hv, _⟩ | ⟨g, cap, cur, hv, _⟩
    · exact ⟨_, _, _, hv⟩
    · exact ⟨_, _, _, hv⟩
  have c0 : W1.cell? ⟨p, 0, none⟩ = some v := by simp [World.cell?, hbk1]
  clear hbk hbk1 hown hne hF1 hu1 hplt hp
  subst hv
  rw [hF] at hW1
  go_enter Tryz.func59, Tryz.ntmps59
  go_wp2_with fail
  try rw [hW1]
  refine TailR.wp_region_seq 4 (by kernel_rfl) (by kernel_rfl) ?_
  simp only [List.take_succ_cons, List.take_zero, List.drop_succ_cons, List.drop_zero]
  repeat (go_big_quiet_step (fail))
  refine wpQuiet_nil ?_
  intro _ hw'
  obtain ⟨nq, hw''⟩ := hw'
  subst hw''
  go_wp2_with (at_builtin; go_loud (refine wpList_append_own _ (by rfl) (.tmp 18) (.tmp 21) 22 (by rfl) base 5 i0 _ 1 1 Tryz.underlying22 hi hz0 hz1 hz2 (by rfl) (by decide) (.slice va vn vc) B.length (bvs B) (by rfl) (HO.out nq) ⟨w.heap.size, 3, none⟩ 1 1 (bvs (by1 n)) (by rfl) (by rfl) (HFC.out nq) HON.out (by unfold maxLen; omega) (by omega) (HS.out nq) ?_; intro v' w2 hin hg1 _; obtain ⟨d1, d2, d3⟩ := HF.out nq v' w2 hin hg1; have HZ : Hid _ := d3; obtain ⟨va', n', vc', hva⟩ : ∃ a n c, v' = Value.slice a n c := (by rcases hin.2 with ⟨hv, _⟩ | ⟨g, cap, cur, hv, _⟩ <;> exact ⟨_, _, _, hv⟩); subst hva; clear hin hg1 d3))
  go_wp2
  first | exact ⟨rfl, HZ.out⟩ | (go_end0; exact ⟨rfl, HZ.out⟩)
set_option maxRecDepth 100000 in
set_option maxHeartbeats 2000000 in
theorem write2_ (base p : Nat) (B : List Int) (n : Int) (w : World) (h : IsW base p B w) (hlen : B.length ≤ 140000000000000) (hb : base ≤ w.heap.size) :
    Calls Tryz.prog 59 #[.int .i64 2, .int .i64 n, .pointer (some ⟨p, 0, none⟩)] w fun x w' => x = .returned (.tuple #[]) ∧ IsW base p (B ++ by2 n) w' ∧ Below base w w' ∧ TK p w w' := by
  obtain ⟨i0, hi, hz0, hz1, hz2⟩ := info_parts infoByte
  obtain ⟨hp, v, hbk, hown, hne⟩ := h
  obtain ⟨F, hF⟩ : ∃ F : Array Value, F = #[.int .u8 (n / 16777216 % 256), .int .u8 (n / 65536 % 256), .int .u8 (n / 256 % 256), .int .u8 (n % 256)] := ⟨_, rfl⟩
  obtain ⟨W1, hW1⟩ : ∃ W1, w.alloc (.cells F 138) = W1 := ⟨_, rfl⟩
  have hu1 : Up w W1 := by rw [← hW1]; exact (Up.refl _).alloc _
  have hs1 : W1.heap.size = w.heap.size + 1 := by rw [← hW1]; simp
  have hF1 : W1.heap[w.heap.size]? = some (.cells F 138 (0, 0)) := by rw [← hW1]; exact heap_alloc_new _ _
  have hbk1 := hu1.heap hbk
  have hplt : p < w.heap.size := (Array.getElem?_eq_some_iff.1 hbk).1
  have HO : Hid (∀ nq, (W1.drewN nq).ownsRow base 5 1 v B.length (bvs B)) := fun nq => row_up hown (hu1.drewN nq)
  have HFC : Hid (∀ nq j u, (bvs (by2 n))[j]? = some u → (W1.drewN nq).cell? ((⟨w.heap.size, 2, none⟩ : Addr).add j) = some u) := fun nq j u hj => by
    have hh : (W1.drewN nq).heap[w.heap.size]? = some (.cells F 138 (0, 0)) := hF1
    rw [Addr.add_mid]
    simp only [World.cell?, hh]
    have hjl : j < 2 := by
      have := (List.getElem?_eq_some_iff.1 hj).1
      simpa [bvs, by2] using this
    subst hF
    match j, hjl with
    | 0, _ => simpa [bvs, by2] using hj
    | 1, _ => simpa [bvs, by2] using hj
  have HON : Hid (∀ u ∈ bvs (by2 n), u.oneCell' = true) := fun u hu => by
    simp only [bvs, List.mem_map] at hu
    obtain ⟨z, -, rfl⟩ := hu
    rfl
  have HS : Hid (∀ nq, base ≤ (W1.drewN nq).heap.size) := fun nq => by show base ≤ W1.heap.size; omega
  have HF : Hid (∀ nq v' w2, w2.ownsRow base 5 1 v' (B.length + 2) (bvs B ++ bvs (by2 n)) → (W1.drewN nq).grownBy w2 v.ownBlock → w2.cell? ⟨p, 0, none⟩ = some v ∧ w2.frozen? ⟨p, 0, none⟩ = false ∧ IsW base p (B ++ by2 n) (w2.setCell ⟨p, 0, none⟩ v') ∧ Below base w (w2.setCell ⟨p, 0, none⟩ v') ∧ TK p w (w2.setCell ⟨p, 0, none⟩ v')) := fun nq v' w2 h1 hg => by
    have hp2 : w2.heap[p]? = some (.cells #[v] 22 (0, 0)) := by
      rw [hg.block p (by show p < W1.heap.size; omega) (fun e => hne e.symm)]
      exact hbk1
    have hne2 : v'.ownBlock ≠ some p := fun e => by
      rcases h1.2 with ⟨h0, -⟩ | ⟨g, cap, cur, e1, -, e3, -⟩
      · rw [h0] at e; cases e
      · rw [e1] at e
        obtain rfl : g = p := by simpa [Value.ownBlock] using e
        rw [hp2] at e3
        simp at e3
    have hB : Below base w w2 := Below.grown (Below.mono (hu1.drewN nq) hb) hg (by show base ≤ W1.heap.size; omega) (fun k hk => (hown.lt k hk).1)
    refine ⟨by simp [World.cell?, hp2], seven_f hp2 0, ⟨hp, v', ?_, ?_, hne2⟩, hB.setCell (p := ⟨p, 0, none⟩) hp _, fun g cs t f hg9 hgp htu => ?_⟩
    · have := set_cells (W := w2) (j := 0) (x := v') (show w2.heap[p]? = some (.cells [v].toArray 22 (0, 0)) from hp2)
      simpa using this
    · rw [bvs_app, List.length_append]
      exact row_keep h1 (fun g o hg ho => by
        have hgp : g ≠ p := fun e => hne2 (by rw [hg, e])
        exact set_other ho hgp)
    · have hg1 := hu1.heap hg9
      have hgl : g < W1.heap.size := (Array.getElem?_eq_some_iff.1 hg1).1
      refine set_other ?_ hgp
      rw [hg.block g hgl (fun e => by
        rcases hown.2 with ⟨h0, -⟩ | ⟨g', cap, cur, e1, -, e3, -⟩
        · rw [h0] at e; cases e
        · rw [e1] at e
          obtain rfl : g' = g := by simpa [Value.ownBlock] using e.symm
          rw [hg9] at e3
          simp at e3
          exact htu e3.2.1)]
      exact hg1
  obtain ⟨va, vn, vc, hv⟩ : ∃ a n c, v = .slice a n c := by
    rcases hown.2 with ⟨hv, _⟩ | ⟨g, cap, cur, hv, _⟩
    · exact ⟨_, _, _, hv⟩
    · exact ⟨_, _, _, hv⟩
  have c0 : W1.cell? ⟨p, 0, none⟩ = some v := by simp [World.cell?, hbk1]
  clear hbk hbk1 hown hne hF1 hu1 hplt hp
  subst hv
  rw [hF] at hW1
  go_enter Tryz.func59, Tryz.ntmps59
  go_wp2_with fail
  try rw [hW1]
  refine TailR.wp_region_seq 4 (by kernel_rfl) (by kernel_rfl) ?_
  simp only [List.take_succ_cons, List.take_zero, List.drop_succ_cons, List.drop_zero]
  repeat (go_big_quiet_step (fail))
  refine wpQuiet_nil ?_
  intro _ hw'
  obtain ⟨nq, hw''⟩ := hw'
  subst hw''
  go_wp2_with (at_builtin; go_loud (refine wpList_append_own _ (by rfl) (.tmp 18) (.tmp 21) 22 (by rfl) base 5 i0 _ 1 1 Tryz.underlying22 hi hz0 hz1 hz2 (by rfl) (by decide) (.slice va vn vc) B.length (bvs B) (by rfl) (HO.out nq) ⟨w.heap.size, 2, none⟩ 2 2 (bvs (by2 n)) (by rfl) (by rfl) (HFC.out nq) HON.out (by unfold maxLen; omega) (by omega) (HS.out nq) ?_; intro v' w2 hin hg1 _; obtain ⟨d1, d2, d3⟩ := HF.out nq v' w2 hin hg1; have HZ : Hid _ := d3; obtain ⟨va', n', vc', hva⟩ : ∃ a n c, v' = Value.slice a n c := (by rcases hin.2 with ⟨hv, _⟩ | ⟨g, cap, cur, hv, _⟩ <;> exact ⟨_, _, _, hv⟩); subst hva; clear hin hg1 d3))
  go_wp2
  first | exact ⟨rfl, HZ.out⟩ | (go_end0; exact ⟨rfl, HZ.out⟩)
set_option maxRecDepth 100000 in
set_option maxHeartbeats 2000000 in
theorem write4_ (base p : Nat) (B : List Int) (n : Int) (w : World) (h : IsW base p B w) (hlen : B.length ≤ 140000000000000) (hb : base ≤ w.heap.size) :
    Calls Tryz.prog 59 #[.int .i64 4, .int .i64 n, .pointer (some ⟨p, 0, none⟩)] w fun x w' => x = .returned (.tuple #[]) ∧ IsW base p (B ++ by4 n) w' ∧ Below base w w' ∧ TK p w w' := by
  obtain ⟨i0, hi, hz0, hz1, hz2⟩ := info_parts infoByte
  obtain ⟨hp, v, hbk, hown, hne⟩ := h
  obtain ⟨F, hF⟩ : ∃ F : Array Value, F = #[.int .u8 (n / 16777216 % 256), .int .u8 (n / 65536 % 256), .int .u8 (n / 256 % 256), .int .u8 (n % 256)] := ⟨_, rfl⟩
  obtain ⟨W1, hW1⟩ : ∃ W1, w.alloc (.cells F 138) = W1 := ⟨_, rfl⟩
  have hu1 : Up w W1 := by rw [← hW1]; exact (Up.refl _).alloc _
  have hs1 : W1.heap.size = w.heap.size + 1 := by rw [← hW1]; simp
  have hF1 : W1.heap[w.heap.size]? = some (.cells F 138 (0, 0)) := by rw [← hW1]; exact heap_alloc_new _ _
  have hbk1 := hu1.heap hbk
  have hplt : p < w.heap.size := (Array.getElem?_eq_some_iff.1 hbk).1
  have HO : Hid (∀ nq, (W1.drewN nq).ownsRow base 5 1 v B.length (bvs B)) := fun nq => row_up hown (hu1.drewN nq)
  have HFC : Hid (∀ nq j u, (bvs (by4 n))[j]? = some u → (W1.drewN nq).cell? ((⟨w.heap.size, 0, none⟩ : Addr).add j) = some u) := fun nq j u hj => by
    have hh : (W1.drewN nq).heap[w.heap.size]? = some (.cells F 138 (0, 0)) := hF1
    rw [Addr.add_mid]
    simp only [World.cell?, hh]
    have hjl : j < 4 := by
      have := (List.getElem?_eq_some_iff.1 hj).1
      simpa [bvs, by4] using this
    subst hF
    match j, hjl with
    | 0, _ => simpa [bvs, by4] using hj
    | 1, _ => simpa [bvs, by4] using hj
    | 2, _ => simpa [bvs, by4] using hj
    | 3, _ => simpa [bvs, by4] using hj
  have HON : Hid (∀ u ∈ bvs (by4 n), u.oneCell' = true) := fun u hu => by
    simp only [bvs, List.mem_map] at hu
    obtain ⟨z, -, rfl⟩ := hu
    rfl
  have HS : Hid (∀ nq, base ≤ (W1.drewN nq).heap.size) := fun nq => by show base ≤ W1.heap.size; omega
  have HF : Hid (∀ nq v' w2, w2.ownsRow base 5 1 v' (B.length + 4) (bvs B ++ bvs (by4 n)) → (W1.drewN nq).grownBy w2 v.ownBlock → w2.cell? ⟨p, 0, none⟩ = some v ∧ w2.frozen? ⟨p, 0, none⟩ = false ∧ IsW base p (B ++ by4 n) (w2.setCell ⟨p, 0, none⟩ v') ∧ Below base w (w2.setCell ⟨p, 0, none⟩ v') ∧ TK p w (w2.setCell ⟨p, 0, none⟩ v')) := fun nq v' w2 h1 hg => by
    have hp2 : w2.heap[p]? = some (.cells #[v] 22 (0, 0)) := by
      rw [hg.block p (by show p < W1.heap.size; omega) (fun e => hne e.symm)]
      exact hbk1
    have hne2 : v'.ownBlock ≠ some p := fun e => by
      rcases h1.2 with ⟨h0, -⟩ | ⟨g, cap, cur, e1, -, e3, -⟩
      · rw [h0] at e; cases e
      · rw [e1] at e
        obtain rfl : g = p := by simpa [Value.ownBlock] using e
        rw [hp2] at e3
        simp at e3
    have hB : Below base w w2 := Below.grown (Below.mono (hu1.drewN nq) hb) hg (by show base ≤ W1.heap.size; omega) (fun k hk => (hown.lt k hk).1)
    refine ⟨by simp [World.cell?, hp2], seven_f hp2 0, ⟨hp, v', ?_, ?_, hne2⟩, hB.setCell (p := ⟨p, 0, none⟩) hp _, fun g cs t f hg9 hgp htu => ?_⟩
    · have := set_cells (W := w2) (j := 0) (x := v') (show w2.heap[p]? = some (.cells [v].toArray 22 (0, 0)) from hp2)
      simpa using this
    · rw [bvs_app, List.length_append]
      exact row_keep h1 (fun g o hg ho => by
        have hgp : g ≠ p := fun e => hne2 (by rw [hg, e])
        exact set_other ho hgp)
    · have hg1 := hu1.heap hg9
      have hgl : g < W1.heap.size := (Array.getElem?_eq_some_iff.1 hg1).1
      refine set_other ?_ hgp
      rw [hg.block g hgl (fun e => by
        rcases hown.2 with ⟨h0, -⟩ | ⟨g', cap, cur, e1, -, e3, -⟩
        · rw [h0] at e; cases e
        · rw [e1] at e
          obtain rfl : g' = g := by simpa [Value.ownBlock] using e.symm
          rw [hg9] at e3
          simp at e3
          exact htu e3.2.1)]
      exact hg1
  obtain ⟨va, vn, vc, hv⟩ : ∃ a n c, v = .slice a n c := by
    rcases hown.2 with ⟨hv, _⟩ | ⟨g, cap, cur, hv, _⟩
    · exact ⟨_, _, _, hv⟩
    · exact ⟨_, _, _, hv⟩
  have c0 : W1.cell? ⟨p, 0, none⟩ = some v := by simp [World.cell?, hbk1]
  clear hbk hbk1 hown hne hF1 hu1 hplt hp
  subst hv
  rw [hF] at hW1
  go_enter Tryz.func59, Tryz.ntmps59
  go_wp2_with fail
  try rw [hW1]
  refine TailR.wp_region_seq 4 (by kernel_rfl) (by kernel_rfl) ?_
  simp only [List.take_succ_cons, List.take_zero, List.drop_succ_cons, List.drop_zero]
  repeat (go_big_quiet_step (fail))
  refine wpQuiet_nil ?_
  intro _ hw'
  obtain ⟨nq, hw''⟩ := hw'
  subst hw''
  go_wp2_with (at_builtin; go_loud (refine wpList_append_own _ (by rfl) (.tmp 18) (.tmp 21) 22 (by rfl) base 5 i0 _ 1 1 Tryz.underlying22 hi hz0 hz1 hz2 (by rfl) (by decide) (.slice va vn vc) B.length (bvs B) (by rfl) (HO.out nq) ⟨w.heap.size, 0, none⟩ 4 4 (bvs (by4 n)) (by rfl) (by rfl) (HFC.out nq) HON.out (by unfold maxLen; omega) (by omega) (HS.out nq) ?_; intro v' w2 hin hg1 _; obtain ⟨d1, d2, d3⟩ := HF.out nq v' w2 hin hg1; have HZ : Hid _ := d3; obtain ⟨va', n', vc', hva⟩ : ∃ a n c, v' = Value.slice a n c := (by rcases hin.2 with ⟨hv, _⟩ | ⟨g, cap, cur, hv, _⟩ <;> exact ⟨_, _, _, hv⟩); subst hva; clear hin hg1 d3))
  go_wp2
  first | exact ⟨rfl, HZ.out⟩ | (go_end0; exact ⟨rfl, HZ.out⟩)
end IM
end Go.Proofs.YtmpamcdobhiipaaGreatDoor
