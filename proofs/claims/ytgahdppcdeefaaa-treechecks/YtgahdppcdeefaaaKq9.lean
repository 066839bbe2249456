/-
  The walker goes into a node.
-/
import Derived.Test.YtgahdppcdeefaaaKo9
import Derived.Deep.QuietTactic
import Derived.BigQuiet
namespace Go.Proofs.Ytgahdppcdeefaaa
open Go.RowKit
attribute [local go_sem ↓] Go.wp_at_zero Go.wp_at_succ
namespace TR
def okK (k : Kd) : Bool := decide (k.is < 256) && (decide (k.ways.length ≤ 2) && (decide (k.opens ≤ 1) && ((match k.text with | .free also => also.all (fun y => y.all fun c => decide (0 ≤ c) && decide (c < 256)) && decide (also.length ≤ 1000) | _ => true) && (k.ways.all (fun w => decide (w.length ≤ 3) && w.all fun q => decide (q.takes < 256)) && (decide (k.each < 256) && (!k.row || (decide (k.each = 0) && (decide (k.ways ≠ []) && k.ways.all fun w => decide (w ≠ [])))))))))
theorem tab_ok : tab.all (fun p => okK p.2) = true := by decide
theorem lookup_mem {op : Int} {k : Kd} : ∀ {T : List (Int × Kd)}, T.lookup op = some k → ∃ p ∈ T, p.2 = k
  | [], h => by cases h
  | (a, b) :: T, h => by
    rw [List.lookup_cons] at h
    split at h
    · exact ⟨(a, b), by simp, by simpa using h⟩
    · obtain ⟨q, h1, h2⟩ := lookup_mem h
      exact ⟨q, by simp [h1], h2⟩
theorem kd_ok (op : Int) : okK (kd op) = true := by
  unfold kd
  cases h : tab.lookup op with
  | none => rfl
  | some k =>
    obtain ⟨q, h1, rfl⟩ := lookup_mem h
    exact List.all_eq_true.1 tab_ok q h1
theorem okK_is {k : Kd} (h : okK k = true) : k.is < 256 ∧ k.ways.length ≤ 2 ∧ k.opens ≤ 1 ∧ TxOk k.text ∧ k.each < 256 := by
  unfold okK at h
  simp only [Bool.and_eq_true, decide_eq_true_eq] at h
  refine ⟨h.1, h.2.1, h.2.2.1, ?_, h.2.2.2.2.2.1⟩
  have h4 := h.2.2.2.1
  cases ht : k.text with
  | none => trivial
  | txt => trivial
  | nam => trivial
  | free also =>
    rw [ht] at h4
    simp only [Bool.and_eq_true, decide_eq_true_eq, List.all_eq_true] at h4
    exact ⟨fun y hy c hc => h4.1 y hy c hc, h4.2⟩
theorem plcs_len {k : Kd} (h : okK k = true) {kids : Int} {ps : List Plc} {many : Nat} (hp : plcs k kids = some (ps, many)) : ps.length ≤ 3 := by
  unfold okK at h
  simp only [Bool.and_eq_true, decide_eq_true_eq] at h
  have h5 := h.2.2.2.2.1
  unfold plcs at hp
  split at hp
  · split at hp
    · simp only [Option.some.injEq, Prod.mk.injEq] at hp
      rw [← hp.1]
      simp
    · cases hp
  · split at hp
    · rename_i w hf
      simp only [Option.some.injEq, Prod.mk.injEq] at hp
      rw [← hp.1]
      have := List.all_eq_true.1 h5 w (List.mem_of_find?_eq_some hf)
      simp only [Bool.and_eq_true, decide_eq_true_eq] at this
      exact this.1
    · split at hp
      · simp only [Option.some.injEq, Prod.mk.injEq] at hp
        rw [← hp.1]
        simp
      · cases hp
theorem ps_at {W : World} {a : Option Addr} {n c : Nat} {l : List Plc} (h : PS W (.slice a n c) l) (h0 : l.length ≠ 0) : ∃ gp, a = some ⟨gp, 0, none⟩ ∧ ∀ i, i < l.length → W.cell? ⟨gp, i * 2, none⟩ = some (.int .i64 ((l.getD i dp).takes : Int)) ∧ W.cell? ⟨gp, i * 2 + 1, none⟩ = some (.int .i64 ((l.getD i dp).rank : Int)) := by
  obtain ⟨a', c', he, -, h1⟩ := h
  simp only [Value.slice.injEq] at he
  obtain ⟨rfl, -, -⟩ := he
  exact h1 h0
theorem ps_set4 {W : World} {g m p d n c : Nat} {a : Option Addr} {v wv u : Value} {l : List Plc} (h : PS W (.slice a n c) l) (hk : WK W g m v p wv d) : PS (W.setCell ⟨g, 4, none⟩ u) (.slice a n c) l := by
  obtain ⟨a', c', he, hc, h1⟩ := h
  refine ⟨a', c', he, hc, fun h0 => ?_⟩
  obtain ⟨gp, h2, h3⟩ := h1 h0
  have hne : gp ≠ g := fun e9 => by
    have h4 := (h3 0 (by omega)).1
    have h5 := hk.cells.1
    rw [e9] at h4
    rw [show (0 : Nat) * 2 = 0 from rfl, h5] at h4
    cases h4
  refine ⟨gp, h2, fun i hi => ?_⟩
  have k : ∀ j, (W.setCell ⟨g, 4, none⟩ u).cell? ⟨gp, j, none⟩ = W.cell? ⟨gp, j, none⟩ := fun j => by
    unfold World.cell?
    rw [Below.heap_setCell _ _ _ _ hne]
  rw [k, k]
  exact h3 i hi
theorem gos_row {a : Nd} {r : List Nd} (h : gos (a :: r) = true) : (kd a.op).row = true := by
  match r, h with
  | b :: r, h =>
    have h : goes a b = true := h
    unfold goes at h
    exact (Bool.and_eq_true_iff.1 h).1
theorem set_last (A : List Value) (a b c d e d' e' : Value) : ((A ++ [a, b, c, d, e]).set (A.length + 3) d').set (A.length + 4) e' = A ++ [a, b, c, d', e'] := by
  rw [List.set_append_right _ _ (by omega), List.set_append_right _ _ (by omega)]
  simp
theorem wts_len (l : List Wt) : (wts l).length = l.length * 5 := by
  unfold wts
  rw [flat_len (fun x => (wtc x).toList) 5 (fun _ => rfl)]
theorem plcs_row {k : Kd} (h : okK k = true) (hr : k.row = true) {kids : Int} {ps : List Plc} {many : Nat} (hp : plcs k kids = some (ps, many)) : ps ≠ [] := by
  unfold okK at h
  simp only [Bool.and_eq_true, decide_eq_true_eq, hr, Bool.not_true, Bool.false_or] at h
  obtain ⟨h1, h2, h3⟩ := h.2.2.2.2.2.2
  unfold plcs at hp
  rw [if_neg (by simp [h1])] at hp
  cases hf : k.ways.find? fun w => (w.length : Int) == kids with
  | none =>
    rw [hf] at hp
    simp only at hp
    rw [if_neg (fun h9 => h2 h9.2)] at hp
    cases hp
  | some w =>
    rw [hf] at hp
    simp only [Option.some.injEq, Prod.mk.injEq] at hp
    rw [← hp.1]
    have := List.all_eq_true.1 h3 w (List.mem_of_find?_eq_some hf)
    simpa using this
theorem wants_no (ps : List Plc) (many o : Nat) : wants ps many o false = ps.map fun q => ⟨q, many, o, false⟩ := by
  cases ps <;> rfl
theorem more_le (k : Kd) (x : Wt) (n : Nat) : more k x n ≤ n + 2 := by
  unfold more
  split <;> split <;> split <;> omega
theorem wk_set4 {W : World} {g m p d : Nat} {v wv : Value} (h : WK W g m v p wv d) (d' : Nat) : WK (W.setCell ⟨g, 4, none⟩ (.int .i64 (d' : Int))) g m v p wv d' := by
  unfold WK at h ⊢
  simp [World.setCell, Array.getElem?_modify, h, wkc]
theorem WS.deep {w0 W : World} {g m p d : Nat} {v : Value} {S : List Wt} (h : WS w0 W g m v p S d) (d' : Nat) : WS w0 (W.setCell ⟨g, 4, none⟩ (.int .i64 (d' : Int))) g m v p S d' := by
  obtain ⟨wv, h1, h2, h3, h4⟩ := h
  exact ⟨wv, wk_set4 h1 d', own_keep h2 (row_ne_g h2 h1), (Only.up h3).set 4 _ |>.below h4 (Nat.le_refl _), h4⟩
def ndA (x : Nd) : Array Value := #[.int .i8 x.op, .int .i8 x.kind, .int .i64 x.n, .int .i64 x.m, .string (strOfNums x.text), .int .i64 x.pos, .int .i64 x.kids]
theorem ndA_one (x : Nd) : (ndA x).all (·.oneCell') = true := by simp [ndA, Value.oneCell']
def zN : Array Value := #[.int .i8 0, .int .i8 0, .int .i64 0, .int .i64 0, .string ⟨#[]⟩, .int .i64 0, .int .i64 0]
theorem infoNd : (Try.prog.info? 33).map (·.size) = some 7 := by kernel_rfl
/- what enter answers -/
def EnR (w0 : World) (g m : Nat) (v : Value) (p : Nat) (S : List Wt) (d : Nat) (l : List Nd) (x : Wt) (e : Ending) (w' : World) : Prop := match l.drop p with
  | [] => e = .returned (.bool false) ∧ WS w0 w' g m v p S d
  | a :: r => match ent a r x with
    | none => e = .returned (.bool false) ∧ WS w0 w' g m v p S d
    | some (o, ws) => e = .returned (.bool true) ∧ WS w0 w' g m v p (ws ++ S) (max d o)
set_option maxRecDepth 100000 in
set_option maxHeartbeats 16000000 in
theorem enter_ (x : Wt) (w0 : World) (g m : Nat) (v : Value) (p : Nat) (S : List Wt) (d : Nat) (l : List Nd) (w : World) (hs : WS w0 w g m v p S d) (ht : TP w0 m tab) (hl : NLs w0 v l) (hb : ∀ a ∈ l, Byt a.text) (hn : l.length ≤ 1099511627776) (hS : S.length ≤ 1000000000000) (hp : p ≤ l.length) (hx : x.plc.takes < 4294967296) (ho : x.opn ≤ 1099511627776000) (hrt : x.rest = true → mks (l.drop p) ≤ x.opn) : Calls Try.prog 34 #[.pointer (some ⟨g, 0, none⟩), .agg (wtc x)] w (EnR w0 g m v p S d l x) := by
  obtain ⟨Post, hPost⟩ : ∃ P : Ending → World → Prop, P = EnR w0 g m v p S d l x := ⟨_, rfl⟩
  rw [← hPost]
  have HPo : Hid (Post = EnR w0 g m v p S d l x) := hPost
  clear hPost
  obtain ⟨W1, hW1⟩ : ∃ W1, w.alloc (.cells (wtc x) 56) = W1 := ⟨_, rfl⟩
  have hbx : W1.heap[w.heap.size]? = some (.cells (wtc x) 56 (0, 0)) := by rw [← hW1]; exact heap_alloc_new _ _
  have HWS : Hid (WS w0 W1 g m v p S d) := by unfold Hid; rw [← hW1]; exact hs.up ((Up.refl _).alloc _)
  have HTP : Hid (∀ W, Up w0 W → TP W m tab) := fun W u => ht.up u
  obtain ⟨a, c, rfl, hc, hcell⟩ := nl_at hl
  have HNL : Hid (∀ W, Up w0 W → NLs W (.slice a l.length c) l) := fun W u => hl.up u
  obtain ⟨n, hN⟩ : ∃ n, n = l.length := ⟨_, rfl⟩
  have HN : Hid (n = l.length) := hN
  rw [← hN] at hc hn hp HWS HNL HPo
  unfold wtc at hW1 ⊢
  by_cases hpn : p = n
  · have HE : Hid (Post = fun e w' => e = .returned (.bool false) ∧ WS w0 w' g m (.slice a n c) p S d) := by
      unfold Hid
      rw [HPo.out]
      funext e w'
      unfold EnR
      rw [List.drop_eq_nil_of_le (by omega)]
    obtain ⟨wv, hk, -⟩ := HWS.out
    have c1 := hk.cells.2.1
    have c2 := hk.cells.2.2.1
    have q1 : ((p : Int) == (n : Int)) = true := by simp; omega
    clear hbx hk hcell hl hb ht hs hN
    subst hpn
    go_enter Try.func34, Try.ntmps34
    go_upto_region 1 with fail
    try rw [hW1]
    clear hW1
    go_quiet (fail)
    go_wp2_with fail
    rw [HE.out]
    exact ⟨rfl, HWS.out.up ((Up.refl _).drewN _)⟩
  · have q1 : ((p : Int) == (n : Int)) = false := by simp; omega
    have hlt : p < n := by omega
    obtain ⟨nd, hnd⟩ : ∃ nd, nd = l.getD p dn := ⟨_, rfl⟩
    have HD : Hid (l.drop p = nd :: l.drop (p + 1)) := by
      unfold Hid
      rw [List.drop_eq_getElem_cons (by omega), hnd, List.getD_eq_getElem?_getD, List.getElem?_eq_getElem (by omega)]
      rfl
    have hbn : Byt nd.text := hb nd (by rw [hnd, List.getD_eq_getElem?_getD, List.getElem?_eq_getElem (by omega)]; exact List.getElem_mem _)
    obtain ⟨b, off, rfl, hce⟩ := hcell (by omega)
    have HCE : Hid (∀ W, Up w0 W → ∀ j y, (ndc nd)[j]? = some y → W.cell? ⟨b, off + p * 7 + j, none⟩ = some y) := fun W u j y h => hce W u p (by omega) j y (by rw [← hnd]; exact h)
    obtain ⟨wv, hk, -⟩ := HWS.out
    have c1 := hk.cells.2.1
    have c2 := hk.cells.2.2.1
    clear hk hcell hce hl hb ht hs hN hnd
    go_enter Try.func34, Try.ntmps34
    go_upto_region 1 with fail
    try rw [hW1]
    generalize w.heap.size = bx at *
    clear hW1
    go_quiet (fail)
    go_upto_region 3 with fail
    obtain ⟨W2, hW2⟩ : ∃ W2, W2 = W1.drewN nq := ⟨_, rfl⟩
    have u2 : Up W1 W2 := by rw [hW2]; exact (Up.refl _).drewN _
    rw [← hW2]
    clear hW2
    have HWS : Hid (WS w0 W2 g m (.slice (some ⟨b, off, none⟩) n c) p S d) := HWS.out.up u2
    have hbx := u2.heap hbx
    obtain ⟨wv2, hk2, -, hu2, -⟩ := HWS.out
    have c1 := hk2.cells.2.1
    have c2 := hk2.cells.2.2.1
    have x0 : W2.cell? ⟨b, off + p * 7, none⟩ = some (.int .i8 nd.op) := HCE.out W2 hu2 0 _ rfl
    have x1 : W2.cell? ⟨b, off + p * 7 + 1, none⟩ = some (.int .i8 nd.kind) := HCE.out W2 hu2 1 _ rfl
    have x2 : W2.cell? ⟨b, off + p * 7 + 2, none⟩ = some (.int .i64 nd.n) := HCE.out W2 hu2 2 _ rfl
    have x3 : W2.cell? ⟨b, off + p * 7 + 3, none⟩ = some (.int .i64 nd.m) := HCE.out W2 hu2 3 _ rfl
    have x4 : W2.cell? ⟨b, off + p * 7 + 4, none⟩ = some (.string (strOfNums nd.text)) := HCE.out W2 hu2 4 _ rfl
    have x5 : W2.cell? ⟨b, off + p * 7 + 5, none⟩ = some (.int .i64 nd.pos) := HCE.out W2 hu2 5 _ rfl
    have x6 : W2.cell? ⟨b, off + p * 7 + 6, none⟩ = some (.int .i64 nd.kids) := HCE.out W2 hu2 6 _ rfl
    clear u2 hu2 hk2
    refine (fun key3 : ∀ (W9 : World) (pn : Nat), Up W2 W9 → W9.heap[pn]? = some (.cells (ndA nd) 33 (0, 0)) → (?G3 : World → Nat → Prop) W9 pn => ?main3) ?kp3
    case main3 =>
      refine wp_region_held_drew (S := fun W9 => Up W2 W9) (by kernel_rfl) (Up.drew (Up.refl _)) (fun hHeld => ?_)
      have Ua0 : Up W2 W2.drew := Up.drew (Up.refl _)
      refine wpAnyH_take (i := 0) (v := ?_) rfl (by kernel_rfl) (by kernel_rfl) (by kernel_rfl) (fun _ _ _ h => h) (Or.inl ⟨by rfl, ?_⟩) (by assumption) ?_
      rotate_left
      · intro w9 hSw
        go_simp
        try with_reducible rfl
      simp only [Act.put, List.setIfInBounds_toArray, List.set_cons_zero, List.set_cons_succ, List.getElem_toArray, List.getElem_cons_zero]
      refine wpAnyH_take (i := 1) (v := ?_) rfl (by kernel_rfl) (by kernel_rfl) (by kernel_rfl) (fun _ _ _ h => h) (Or.inl ⟨by rfl, ?_⟩) (by assumption) ?_
      rotate_left
      · intro w9 hSw
        go_simp
        try with_reducible rfl
      simp only [Act.put, List.setIfInBounds_toArray, List.set_cons_zero, List.set_cons_succ, List.getElem_toArray, List.getElem_cons_zero, List.getElem_cons_succ]
      refine wpAnyH_take (i := 2) (v := ?_) rfl (by kernel_rfl) (by kernel_rfl) (by kernel_rfl) (fun _ _ _ h => h) (Or.inl ⟨by rfl, ?_⟩) (by assumption) ?_
      rotate_left
      · intro w9 hSw
        go_simp
        try with_reducible rfl
      simp only [Act.put, List.setIfInBounds_toArray, List.set_cons_zero, List.set_cons_succ, List.getElem_toArray, List.getElem_cons_zero, List.getElem_cons_succ]
      refine wpAnyH_take (i := 3) (v := ?_) rfl (by kernel_rfl) (by kernel_rfl) (by kernel_rfl) (fun _ _ _ h => h) (Or.inl ⟨by rfl, ?_⟩) (by assumption) ?_
      rotate_left
      · intro w9 hSw
        have c99 := hSw.cell c1
        go_simp
        try with_reducible rfl
      simp only [Act.put, List.setIfInBounds_toArray, List.set_cons_zero, List.set_cons_succ, List.getElem_toArray, List.getElem_cons_zero, List.getElem_cons_succ]
      refine wpAnyH_take (i := 4) (v := ?_) rfl (by kernel_rfl) (by kernel_rfl) (by kernel_rfl) (fun _ _ _ h => h) (Or.inl ⟨by rfl, ?_⟩) (by assumption) ?_
      rotate_left
      · intro w9 hSw
        go_simp
        try with_reducible rfl
      simp only [Act.put, List.setIfInBounds_toArray, List.set_cons_zero, List.set_cons_succ, List.getElem_toArray, List.getElem_cons_zero, List.getElem_cons_succ]
      refine wpAnyH_take (i := 5) (v := ?_) rfl (by kernel_rfl) (by kernel_rfl) (by kernel_rfl) (fun _ _ _ h => h) (Or.inl ⟨by rfl, ?_⟩) (by assumption) ?_
      rotate_left
      · intro w9 hSw
        go_simp
        try with_reducible rfl
      simp only [Act.put, List.setIfInBounds_toArray, List.set_cons_zero, List.set_cons_succ, List.getElem_toArray, List.getElem_cons_zero, List.getElem_cons_succ]
      refine wpAnyH_take (i := 6) (v := ?_) rfl (by kernel_rfl) (by kernel_rfl) (by kernel_rfl) (fun _ _ _ h => h) (Or.inl ⟨by rfl, ?_⟩) (by assumption) ?_
      rotate_left
      · intro w9 hSw
        go_simp
        try with_reducible rfl
      simp only [Act.put, List.setIfInBounds_toArray, List.set_cons_zero, List.set_cons_succ, List.getElem_toArray, List.getElem_cons_zero, List.getElem_cons_succ]
      refine wpAnyH_take (i := 7) (v := ?_) rfl (by kernel_rfl) (by kernel_rfl) (by kernel_rfl) (fun _ _ _ h => h) (Or.inl ⟨by rfl, ?_⟩) (by assumption) ?_
      rotate_left
      · intro w9 hSw
        have c99 := hSw.cell c2
        go_simp
        try with_reducible rfl
      simp only [Act.put, List.setIfInBounds_toArray, List.set_cons_zero, List.set_cons_succ, List.getElem_toArray, List.getElem_cons_zero, List.getElem_cons_succ]
      refine wpAnyH_take (i := 8) (v := ?_) rfl (by kernel_rfl) (by kernel_rfl) (by kernel_rfl) (fun _ _ _ h => h) (Or.inl ⟨by rfl, ?_⟩) (by assumption) ?_
      rotate_left
      · intro w9 hSw
        go_simp
        try with_reducible rfl
      simp only [Act.put, List.setIfInBounds_toArray, List.set_cons_zero, List.set_cons_succ, List.getElem_toArray, List.getElem_cons_zero, List.getElem_cons_succ]
      refine wpAnyH_take (i := 9) (v := ?_) rfl (by kernel_rfl) (by kernel_rfl) (by kernel_rfl) (fun _ _ _ h => h) (Or.inl ⟨by rfl, ?_⟩) (by assumption) ?_
      rotate_left
      · intro w9 hSw
        have c99 := hSw.cell x0
        have c109 := hSw.cell x1
        have c119 := hSw.cell x2
        have c129 := hSw.cell x3
        have c139 := hSw.cell x4
        have c149 := hSw.cell x5
        have c159 := hSw.cell x6
        go_simp
        try with_reducible rfl
      simp only [Act.put, List.setIfInBounds_toArray, List.set_cons_zero, List.set_cons_succ, List.getElem_toArray, List.getElem_cons_zero, List.getElem_cons_succ]
      refine wpAnyH_ready (rs := [10]) (by kernel_rfl) (by simp) ?_
      refine AllReadyH.cons rfl (fun K hK => ?_) AllReadyH.nil
      simp only [List.getElem_toArray, List.getElem_cons_zero, List.getElem_cons_succ]
      go_simp
      refine hK.out _ _ ?_ (fun hHeld => ?_)
      · exact Ua0.alloc _
      clear hK K
      try simp only [Act.put, List.setIfInBounds_toArray, List.set_cons_zero, List.set_cons_succ]
      obtain ⟨pn, hpn⟩ : ∃ p, p = (W2.drew).heap.size := ⟨_, rfl⟩
      obtain ⟨Wa1, hW1⟩ : ∃ W1, (W2.drew).alloc (.cells zN 33) = W1 := ⟨_, rfl⟩
      refine wpAnyH_world hW1 ?_
      have h9 : W2.heap.size = pn := hpn.symm
      simp only [h9]
      clear h9
      have ua1 : Up (W2.drew) Wa1 := by rw [← hW1]; exact (Up.refl _).alloc _
      have epn : Wa1.heap[pn]? = some (.cells zN 33 (0, 0)) := by rw [hpn, ← hW1]; exact heap_alloc_new _ _
      have lpn : W2.heap.size ≤ pn := by rw [hpn]; exact Ua0.size
      have Ua1 := Ua0.trans ua1
      clear hHeld hW1 hpn
      have hSS := Ua1
      refine wpAnyH_ready (rs := [11]) (by kernel_rfl) (by simp) ?_
      refine AllReadyH.cons rfl (fun K hK => ?_) AllReadyH.nil
      simp only [List.getElem_toArray, List.getElem_cons_zero, List.getElem_cons_succ]
      refine stepH_store (by rfl) 33 (.tmp 5) (.tmp 32) (by rfl) pn (ndA nd) (by rfl) (by rfl) 33 zN epn (infoNd) (rfl) (ndA_one _) ?_
      refine hK.out _ _ ?_ (fun hHeld => ?_)
      · exact up_setRow Ua1 lpn _
      clear hK K
      simp only [Act.put]
      obtain ⟨Wa2, hW1⟩ : ∃ W1, (Wa1).setRow pn (ndA nd) = W1 := ⟨_, rfl⟩
      refine wpAnyH_world hW1 ?_
      have Ua2 : Up W2 Wa2 := by rw [← hW1]; exact up_setRow Ua1 lpn _
      have epn : Wa2.heap[pn]? = some (.cells (ndA nd) 33 (0, 0)) := by rw [← hW1]; exact setRow_heap _ _ _ _ _ _ epn
      clear hHeld hW1
      have hSS := Ua2
      refine wpAnyH_done (by kernel_rfl) ?_ _
      exact key3 Wa2 pn Ua2 epn
    case kp3 =>
      intro W3 pn U3 hnn
      have HWS : Hid (WS w0 W3 g m (.slice (some ⟨b, off, none⟩) n c) p S d) := HWS.out.up U3
      have hbx := U3.heap hbx
      clear x0 x1 x2 x3 x4 x5 x6 c1 c2 U3 HCE
      obtain ⟨wv3, hk3, -, hu3, -⟩ := HWS.out
      have c0 := hk3.cells.1
      have y0 : W3.cell? ⟨pn, 0, none⟩ = some (.int .i8 nd.op) := by simp only [World.cell?, hnn]; rfl
      obtain ⟨f, y, tx0, wy0, hlk⟩ := run_kdU (HTP.out w0 (Up.refl _)) nd.op
      obtain ⟨k, hkd⟩ : ∃ k, k = kd nd.op := ⟨_, rfl⟩
      have HKD : Hid (k = kd nd.op) := hkd
      have hkok : okK k = true := by rw [hkd]; exact kd_ok _
      rw [← hkd] at tx0 wy0 hlk
      have hf1 := tx_one tx0
      have hy1 := wy_val wy0
      have HTX : Hid (TxR w0 k.text f) := tx0
      have HWY : Hid (WY w0 y k.ways) := wy0
      have HLK : Hid (∀ W', Up W3 W' → (Instr.lookup 46 (.map (some m)) (.int .i8 nd.op) false).run Try.prog W' = .ok (.agg (kvc k f y)) W') := fun W' u => hlk W' (hu3.trans u)
      clear tx0 wy0 hlk hkd hk3 hu3
      go_upto_region 4 with fail
      refine (fun key4 : ∀ (W9 : World) (pk : Nat), Up W3 W9 → W9.heap[pk]? = some (.cells (kvc k f y) 76 (0, 0)) → (?G4 : World → Nat → Prop) W9 pk => ?main4) ?kp4
      case main4 =>
        refine wp_region_held_drew (S := fun W9 => Up W3 W9) (by kernel_rfl) (Up.drew (Up.refl _)) (fun hHeld => ?_)
        have Ub0 : Up W3 W3.drew := Up.drew (Up.refl _)
        refine wpAnyH_take (i := 0) (v := ?_) rfl (by kernel_rfl) (by kernel_rfl) (by kernel_rfl) (fun _ _ _ h => h) (Or.inl ⟨by rfl, ?_⟩) (by assumption) ?_
        rotate_left
        · intro w9 hSw
          go_simp
          try with_reducible rfl
        simp only [Act.put, List.setIfInBounds_toArray, List.set_cons_zero, List.set_cons_succ, List.getElem_toArray, List.getElem_cons_zero]
        refine wpAnyH_take (i := 1) (v := ?_) rfl (by kernel_rfl) (by kernel_rfl) (by kernel_rfl) (fun _ _ _ h => h) (Or.inl ⟨by rfl, ?_⟩) (by assumption) ?_
        rotate_left
        · intro w9 hSw
          go_simp
          try with_reducible rfl
        simp only [Act.put, List.setIfInBounds_toArray, List.set_cons_zero, List.set_cons_succ, List.getElem_toArray, List.getElem_cons_zero, List.getElem_cons_succ]
        refine wpAnyH_take (i := 2) (v := ?_) rfl (by kernel_rfl) (by kernel_rfl) (by kernel_rfl) (fun _ _ _ h => h) (Or.inl ⟨by rfl, ?_⟩) (by assumption) ?_
        rotate_left
        · intro w9 hSw
          go_simp
          try with_reducible rfl
        simp only [Act.put, List.setIfInBounds_toArray, List.set_cons_zero, List.set_cons_succ, List.getElem_toArray, List.getElem_cons_zero, List.getElem_cons_succ]
        refine wpAnyH_take (i := 3) (v := ?_) rfl (by kernel_rfl) (by kernel_rfl) (by kernel_rfl) (fun _ _ _ h => h) (Or.inl ⟨by rfl, ?_⟩) (by assumption) ?_
        rotate_left
        · intro w9 hSw
          have c99 := hSw.cell c0
          go_simp
          try with_reducible rfl
        simp only [Act.put, List.setIfInBounds_toArray, List.set_cons_zero, List.set_cons_succ, List.getElem_toArray, List.getElem_cons_zero, List.getElem_cons_succ]
        refine wpAnyH_take (i := 4) (v := ?_) rfl (by kernel_rfl) (by kernel_rfl) (by kernel_rfl) (fun _ _ _ h => h) (Or.inl ⟨by rfl, ?_⟩) (by assumption) ?_
        rotate_left
        · intro w9 hSw
          go_simp
          try with_reducible rfl
        simp only [Act.put, List.setIfInBounds_toArray, List.set_cons_zero, List.set_cons_succ, List.getElem_toArray, List.getElem_cons_zero, List.getElem_cons_succ]
        refine wpAnyH_take (i := 5) (v := ?_) rfl (by kernel_rfl) (by kernel_rfl) (by kernel_rfl) (fun _ _ _ h => h) (Or.inl ⟨by rfl, ?_⟩) (by assumption) ?_
        rotate_left
        · intro w9 hSw
          have c99 := hSw.cell y0
          go_simp
          try with_reducible rfl
        simp only [Act.put, List.setIfInBounds_toArray, List.set_cons_zero, List.set_cons_succ, List.getElem_toArray, List.getElem_cons_zero, List.getElem_cons_succ]
        refine wpAnyH_take (i := 6) (v := ?_) rfl (by kernel_rfl) (by kernel_rfl) (by kernel_rfl) (fun _ _ _ h => h) (Or.inl ⟨by rfl, ?_⟩) (by assumption) ?_
        rotate_left
        · intro w9 hSw
          have c29 := HLK.out w9 hSw
          go_simp
          try with_reducible rfl
        simp only [Act.put, List.setIfInBounds_toArray, List.set_cons_zero, List.set_cons_succ, List.getElem_toArray, List.getElem_cons_zero, List.getElem_cons_succ]
        refine wpAnyH_ready (rs := [7]) (by kernel_rfl) (by simp) ?_
        refine AllReadyH.cons rfl (fun K hK => ?_) AllReadyH.nil
        simp only [List.getElem_toArray, List.getElem_cons_zero, List.getElem_cons_succ]
        go_simp
        refine hK.out _ _ ?_ (fun hHeld => ?_)
        · exact Ub0.alloc _
        clear hK K
        try simp only [Act.put, List.setIfInBounds_toArray, List.set_cons_zero, List.set_cons_succ]
        obtain ⟨pk, hpk⟩ : ∃ p, p = (W3.drew).heap.size := ⟨_, rfl⟩
        obtain ⟨Wb1, hW1⟩ : ∃ W1, (W3.drew).alloc (.cells zK 76) = W1 := ⟨_, rfl⟩
        refine wpAnyH_world hW1 ?_
        have h9 : W3.heap.size = pk := hpk.symm
        simp only [h9]
        clear h9
        have ub1 : Up (W3.drew) Wb1 := by rw [← hW1]; exact (Up.refl _).alloc _
        have epk : Wb1.heap[pk]? = some (.cells zK 76 (0, 0)) := by rw [hpk, ← hW1]; exact heap_alloc_new _ _
        have lpk : W3.heap.size ≤ pk := by rw [hpk]; exact Ub0.size
        have Ub1 := Ub0.trans ub1
        clear hHeld hW1 hpk
        have hSS := Ub1
        refine wpAnyH_ready (rs := [8]) (by kernel_rfl) (by simp) ?_
        refine AllReadyH.cons rfl (fun K hK => ?_) AllReadyH.nil
        simp only [List.getElem_toArray, List.getElem_cons_zero, List.getElem_cons_succ]
        refine stepH_store (by rfl) 76 (.tmp 6) (.tmp 39) (by rfl) pk (kvc k f y) (by rfl) (by rfl) 76 zK epk (infoKd) (rfl) (kvc_one _ _ _ hf1 hy1) ?_
        refine hK.out _ _ ?_ (fun hHeld => ?_)
        · exact up_setRow Ub1 lpk _
        clear hK K
        simp only [Act.put]
        obtain ⟨Wb2, hW1⟩ : ∃ W1, (Wb1).setRow pk (kvc k f y) = W1 := ⟨_, rfl⟩
        refine wpAnyH_world hW1 ?_
        have Ub2 : Up W3 Wb2 := by rw [← hW1]; exact up_setRow Ub1 lpk _
        have epk : Wb2.heap[pk]? = some (.cells (kvc k f y) 76 (0, 0)) := by rw [← hW1]; exact setRow_heap _ _ _ _ _ _ epk
        clear hHeld hW1
        have hSS := Ub2
        refine wpAnyH_done (by kernel_rfl) ?_ _
        exact key4 Wb2 pk Ub2 epk
      case kp4 =>
        intro W4 pk U4 hpk
        have HWS : Hid (WS w0 W4 g m (.slice (some ⟨b, off, none⟩) n c) p S d) := HWS.out.up U4
        have hbx := U4.heap hbx
        have hnn := U4.heap hnn
        clear c0 y0 U4 HLK
        obtain ⟨oki, okw, oko, okt, oke⟩ := okK_is hkok
        have k0 : W4.cell? ⟨pk, 0, none⟩ = some (.int .i64 (k.is : Int)) := by simp only [World.cell?, hpk]; rfl
        have k1 : W4.cell? ⟨pk, 1, none⟩ = some (.int .i64 (k.rank : Int)) := by simp only [World.cell?, hpk]; rfl
        have k2 : W4.cell? ⟨pk, 2, none⟩ = some (.bool k.row) := by simp only [World.cell?, hpk]; rfl
        have k3 : W4.cell? ⟨pk, 3, none⟩ = some (.int .i64 (k.opens : Int)) := by simp only [World.cell?, hpk]; rfl
        have k4 : W4.cell? ⟨pk, 4, none⟩ = some (.int .i64 k.most) := by simp only [World.cell?, hpk]; rfl
        have k5 : W4.cell? ⟨pk, 5, none⟩ = some f := by simp only [World.cell?, hpk]; rfl
        have k6 : W4.cell? ⟨pk, 6, none⟩ = some (.int .i64 (k.each : Int)) := by simp only [World.cell?, hpk]; rfl
        have k7 : W4.cell? ⟨pk, 7, none⟩ = some y := by simp only [World.cell?, hpk]; rfl
        have n0 : W4.cell? ⟨pn, 0, none⟩ = some (.int .i8 nd.op) := by simp only [World.cell?, hnn]; rfl
        have n1 : W4.cell? ⟨pn, 1, none⟩ = some (.int .i8 nd.kind) := by simp only [World.cell?, hnn]; rfl
        have n2 : W4.cell? ⟨pn, 2, none⟩ = some (.int .i64 nd.n) := by simp only [World.cell?, hnn]; rfl
        have n3 : W4.cell? ⟨pn, 3, none⟩ = some (.int .i64 nd.m) := by simp only [World.cell?, hnn]; rfl
        have n4 : W4.cell? ⟨pn, 4, none⟩ = some (.string (strOfNums nd.text)) := by simp only [World.cell?, hnn]; rfl
        have n5 : W4.cell? ⟨pn, 5, none⟩ = some (.int .i64 nd.pos) := by simp only [World.cell?, hnn]; rfl
        have n6 : W4.cell? ⟨pn, 6, none⟩ = some (.int .i64 nd.kids) := by simp only [World.cell?, hnn]; rfl
        have b0 : W4.cell? ⟨bx, 0, none⟩ = some (.int .i64 (x.plc.takes : Int)) := by simp only [World.cell?, hbx]; rfl
        have b1 : W4.cell? ⟨bx, 1, none⟩ = some (.int .i64 (x.plc.rank : Int)) := by simp only [World.cell?, hbx]; rfl
        have b2 : W4.cell? ⟨bx, 2, none⟩ = some (.int .i64 (x.many : Int)) := by simp only [World.cell?, hbx]; rfl
        have b3 : W4.cell? ⟨bx, 3, none⟩ = some (.int .i64 (x.opn : Int)) := by simp only [World.cell?, hbx]; rfl
        have b4 : W4.cell? ⟨bx, 4, none⟩ = some (.bool x.rest) := by simp only [World.cell?, hbx]; rfl
        have hu4 : Up w0 W4 := by obtain ⟨wv4, hk4, -, h9, -⟩ := HWS.out; exact h9
        have ha1 : bits .and .i64 (k.is : Int) (x.plc.takes : Int) = ((k.is &&& x.plc.takes : Nat) : Int) := and_i64 _ _ (by omega) hx
        have HFI : Hid (Calls Try.prog 51 #[.agg #[.int .i64 (k.is : Int), .int .i64 (k.rank : Int), .bool k.row, .int .i64 (k.opens : Int), .int .i64 k.most, f, .int .i64 (k.each : Int), y], .agg #[.int .i8 nd.op, .int .i8 nd.kind, .int .i64 nd.n, .int .i64 nd.m, .string (strOfNums nd.text), .int .i64 nd.pos, .int .i64 nd.kids]] W4 fun e w' => e = .returned (.bool (fits k nd)) ∧ Up W4 w') := fits_ k f y nd W4 hbn (HTX.out.cp (up_cp hu4)) okt
        have HEN : Hid (Post = fun e w' => match ent nd (l.drop (p + 1)) x with | none => e = .returned (.bool false) ∧ WS w0 w' g m (.slice (some ⟨b, off, none⟩) n c) p S d | some (o, ws) => e = .returned (.bool true) ∧ WS w0 w' g m (.slice (some ⟨b, off, none⟩) n c) p (ws ++ S) (max d o)) := by
          unfold Hid
          rw [HPo.out]
          funext e w'
          unfold EnR
          rw [HD.out]
        have HNO : Hid (ent nd (l.drop (p + 1)) x = none → ∀ W, WS w0 W g m (.slice (some ⟨b, off, none⟩) n c) p S d → Post (.returned (.bool false)) W) := fun h9 W h8 => by
          rw [HEN.out, h9]
          exact ⟨rfl, h8⟩
        by_cases hz : k.is &&& x.plc.takes = 0
        · have z1 : (((k.is &&& x.plc.takes : Nat) : Int) == 0) = true := by simp; omega
          have HN1 : Hid (ent nd (l.drop (p + 1)) x = none) := by unfold Hid ent; rw [← HKD.out, if_pos (.inl hz)]
          rw [hz] at ha1
          clear hz z1
          go_wp2_with fail
          exact HNO.out HN1.out W4 HWS.out
        · have z1 : (((k.is &&& x.plc.takes : Nat) : Int) == 0) = false := by simp; omega
          have z2 : ¬ ((k.is &&& x.plc.takes : Nat) : Int) = 0 := by omega
          go_wp2_with fail
          refine Calls.mono HFI.out ?_
          rintro r W5 ⟨rfl, u5⟩
          have HWS : Hid (WS w0 W5 g m (.slice (some ⟨b, off, none⟩) n c) p S d) := HWS.out.up u5
          have hbx := u5.heap hbx
          have hnn := u5.heap hnn
          have hpk := u5.heap hpk
          have hu5 := hu4.trans u5
          clear k0 k1 k2 k3 k4 k5 k6 k7 n0 n1 n2 n3 n4 n5 n6 b0 b1 b2 b3 b4 u5 HFI hu4
          cases hfit : fits k nd with
          | false =>
            have HN1 : Hid (ent nd (l.drop (p + 1)) x = none) := by unfold Hid ent; rw [← HKD.out, if_pos (.inr hfit)]
            clear hfit
            go_wp2_with fail
            exact HNO.out HN1.out W5 HWS.out
          | true =>
            have HE2 : Hid (ent nd (l.drop (p + 1)) x = match plcs k nd.kids with | none => none | some (ps, many) => some (x.opn + more k x (mks (nd :: l.drop (p + 1))) + k.opens, wants ps many (x.opn + more k x (mks (nd :: l.drop (p + 1))) + k.opens) (gos (nd :: l.drop (p + 1))))) := by
              unfold Hid ent
              rw [← HKD.out, if_neg (by rw [hfit]; simp [hz])]
              rfl
            have k0 : W5.cell? ⟨pk, 0, none⟩ = some (.int .i64 (k.is : Int)) := by simp only [World.cell?, hpk]; rfl
            have k1 : W5.cell? ⟨pk, 1, none⟩ = some (.int .i64 (k.rank : Int)) := by simp only [World.cell?, hpk]; rfl
            have k2 : W5.cell? ⟨pk, 2, none⟩ = some (.bool k.row) := by simp only [World.cell?, hpk]; rfl
            have k3 : W5.cell? ⟨pk, 3, none⟩ = some (.int .i64 (k.opens : Int)) := by simp only [World.cell?, hpk]; rfl
            have k4 : W5.cell? ⟨pk, 4, none⟩ = some (.int .i64 k.most) := by simp only [World.cell?, hpk]; rfl
            have k5 : W5.cell? ⟨pk, 5, none⟩ = some f := by simp only [World.cell?, hpk]; rfl
            have k6 : W5.cell? ⟨pk, 6, none⟩ = some (.int .i64 (k.each : Int)) := by simp only [World.cell?, hpk]; rfl
            have k7 : W5.cell? ⟨pk, 7, none⟩ = some y := by simp only [World.cell?, hpk]; rfl
            have n6 : W5.cell? ⟨pn, 6, none⟩ = some (.int .i64 nd.kids) := by simp only [World.cell?, hnn]; rfl
            have HPL : Hid (Calls Try.prog 52 #[.agg #[.int .i64 (k.is : Int), .int .i64 (k.rank : Int), .bool k.row, .int .i64 (k.opens : Int), .int .i64 k.most, f, .int .i64 (k.each : Int), y], .int .i64 nd.kids] W5 (PlR w0 W5 k nd.kids)) := places_ k f y nd.kids w0 W5 HWY.out hu5 (by omega)
            clear hfit z1 z2 hz ha1
            go_wp2_with fail
            refine Calls.mono HPL.out ?_
            intro r W6 hr
            unfold PlR at hr
            obtain ⟨hr, u6⟩ := hr
            have HWS : Hid (WS w0 W6 g m (.slice (some ⟨b, off, none⟩) n c) p S d) := HWS.out.up u6
            have hbx := u6.heap hbx
            have hpk := u6.heap hpk
            have hu6 := hu5.trans u6
            clear k0 k1 k2 k3 k4 k5 k6 k7 n6 u6 HPL hnn hu5
            cases hpl : plcs k nd.kids with
            | none =>
              rw [hpl] at hr HE2
              obtain ⟨a9, n9, c9, m9, rfl⟩ := hr
              have HE2 : Hid (ent nd (l.drop (p + 1)) x = none) := HE2
              clear hpl
              go_wp2_with fail
              exact HNO.out HE2.out W6 HWS.out
            | some pm =>
              obtain ⟨ps, many⟩ := pm
              rw [hpl] at hr HE2
              obtain ⟨a9, c9, rfl, hps, hlong⟩ := hr
              have HE2 : Hid (ent nd (l.drop (p + 1)) x = some (x.opn + more k x (mks (nd :: l.drop (p + 1))) + k.opens, wants ps many (x.opn + more k x (mks (nd :: l.drop (p + 1))) + k.opens) (gos (nd :: l.drop (p + 1))))) := HE2
              rw [← HD.out] at HE2
              have HPS : Hid (PS W6 (.slice a9 ps.length c9) ps) := hps
              have HLG : Hid (ps.length ≤ 1 ∨ ∀ W, Up w0 W → PS W (.slice a9 ps.length c9) ps) := hlong
              have hps3 : ps.length ≤ 3 := plcs_len hkok hpl
              have HPR : Hid (k.row = true → ps ≠ []) := fun h9 => plcs_row hkok h9 hpl
              clear hps hlong hpl HNO
              obtain ⟨wv6, hk6, -, -, -⟩ := HWS.out
              have k0 : W6.cell? ⟨pk, 0, none⟩ = some (.int .i64 (k.is : Int)) := by simp only [World.cell?, hpk]; rfl
              have k1 : W6.cell? ⟨pk, 1, none⟩ = some (.int .i64 (k.rank : Int)) := by simp only [World.cell?, hpk]; rfl
              have k2 : W6.cell? ⟨pk, 2, none⟩ = some (.bool k.row) := by simp only [World.cell?, hpk]; rfl
              have k3 : W6.cell? ⟨pk, 3, none⟩ = some (.int .i64 (k.opens : Int)) := by simp only [World.cell?, hpk]; rfl
              have k4 : W6.cell? ⟨pk, 4, none⟩ = some (.int .i64 k.most) := by simp only [World.cell?, hpk]; rfl
              have k5 : W6.cell? ⟨pk, 5, none⟩ = some f := by simp only [World.cell?, hpk]; rfl
              have k6 : W6.cell? ⟨pk, 6, none⟩ = some (.int .i64 (k.each : Int)) := by simp only [World.cell?, hpk]; rfl
              have k7 : W6.cell? ⟨pk, 7, none⟩ = some y := by simp only [World.cell?, hpk]; rfl
              have b0 : W6.cell? ⟨bx, 0, none⟩ = some (.int .i64 (x.plc.takes : Int)) := by simp only [World.cell?, hbx]; rfl
              have b1 : W6.cell? ⟨bx, 1, none⟩ = some (.int .i64 (x.plc.rank : Int)) := by simp only [World.cell?, hbx]; rfl
              have b2 : W6.cell? ⟨bx, 2, none⟩ = some (.int .i64 (x.many : Int)) := by simp only [World.cell?, hbx]; rfl
              have b3 : W6.cell? ⟨bx, 3, none⟩ = some (.int .i64 (x.opn : Int)) := by simp only [World.cell?, hbx]; rfl
              have b4 : W6.cell? ⟨bx, 4, none⟩ = some (.bool x.rest) := by simp only [World.cell?, hbx]; rfl
              obtain ⟨mo, hmo⟩ : ∃ mo, mo = more k x (mks (l.drop p)) := ⟨_, rfl⟩
              rw [← hmo] at HE2
              have hmo2 : mo ≤ n + 2 := by
                rw [hmo]
                have h8 := more_le k x (mks (l.drop p))
                have h9 := mks_le (l.drop p)
                have h7 := HN.out
                rw [List.length_drop] at h9
                omega
              have HMO : Hid (∀ W, Up W6 W → Calls Try.prog 53 #[.pointer (some ⟨g, 0, none⟩), .agg #[.int .i64 (k.is : Int), .int .i64 (k.rank : Int), .bool k.row, .int .i64 (k.opens : Int), .int .i64 k.most, f, .int .i64 (k.each : Int), y], .agg #[.int .i64 (x.plc.takes : Int), .int .i64 (x.plc.rank : Int), .int .i64 (x.many : Int), .int .i64 (x.opn : Int), .bool x.rest]] W fun e w' => e = .returned (.int .i64 (mo : Int)) ∧ Up W w') := fun W u => by
                rw [hmo]
                exact more_ k f y x g m _ wv6 p d l W (hk6.up u) (HTP.out W (hu6.trans u)) (HNL.out W (hu6.trans u)) (by have := HN.out; omega) (by have := HN.out; omega) (by omega) hx
              have HMQ : Hid (mo = more k x (mks (l.drop p))) := hmo
              obtain ⟨o, hoo⟩ : ∃ o, o = x.opn + mo + k.opens := ⟨_, rfl⟩
              rw [← hoo] at HE2
              have ho2 : o ≤ 1099511627776000 + 1099511627776 + 10 := by omega
              have ew1 : IntKind.i64.wrap ((x.opn : Int) + (mo : Int)) = (x.opn : Int) + (mo : Int) := by rw [IntKind.wrap_i64]; omega
              have ew2 : IntKind.i64.wrap ((x.opn : Int) + (mo : Int) + (k.opens : Int)) = (o : Int) := by rw [IntKind.wrap_i64]; omega
              have HOO : Hid (o = x.opn + mo + k.opens) := hoo
              clear hmo hoo hk6
              go_upto_region 10 with fail
              refine (fun key10 : ∀ (W9 : World), Up W6 W9 → (?G10 : World → Prop) W9 => ?main10) ?kp10
              case main10 =>
                refine wp_region_held_drew (S := fun W9 => Up W6 W9) (by kernel_rfl) (Up.drew (Up.refl _)) (fun hHeld => ?_)
                have Uc0 : Up W6 W6.drew := Up.drew (Up.refl _)
                refine wpAnyH_take (i := 0) (v := ?_) rfl (by kernel_rfl) (by kernel_rfl) (by kernel_rfl) (fun _ _ _ h => h) (Or.inl ⟨by rfl, ?_⟩) (by assumption) ?_
                rotate_left
                · intro w9 hSw
                  go_simp
                  try with_reducible rfl
                simp only [Act.put, List.setIfInBounds_toArray, List.set_cons_zero, List.set_cons_succ, List.getElem_toArray, List.getElem_cons_zero]
                refine wpAnyH_take (i := 1) (v := ?_) rfl (by kernel_rfl) (by kernel_rfl) (by kernel_rfl) (fun _ _ _ h => h) (Or.inl ⟨by rfl, ?_⟩) (by assumption) ?_
                rotate_left
                · intro w9 hSw
                  have c99 := hSw.cell b3
                  go_simp
                  try with_reducible rfl
                simp only [Act.put, List.setIfInBounds_toArray, List.set_cons_zero, List.set_cons_succ, List.getElem_toArray, List.getElem_cons_zero, List.getElem_cons_succ]
                refine wpAnyH_take (i := 2) (v := ?_) rfl (by kernel_rfl) (by kernel_rfl) (by kernel_rfl) (fun _ _ _ h => h) (Or.inl ⟨by rfl, ?_⟩) (by assumption) ?_
                rotate_left
                · intro w9 hSw
                  go_simp
                  try with_reducible rfl
                simp only [Act.put, List.setIfInBounds_toArray, List.set_cons_zero, List.set_cons_succ, List.getElem_toArray, List.getElem_cons_zero, List.getElem_cons_succ]
                refine wpAnyH_take (i := 3) (v := ?_) rfl (by kernel_rfl) (by kernel_rfl) (by kernel_rfl) (fun _ _ _ h => h) (Or.inl ⟨by rfl, ?_⟩) (by assumption) ?_
                rotate_left
                · intro w9 hSw
                  have c99 := hSw.cell k0
                  have c109 := hSw.cell k1
                  have c119 := hSw.cell k2
                  have c129 := hSw.cell k3
                  have c139 := hSw.cell k4
                  have c149 := hSw.cell k5
                  have c159 := hSw.cell k6
                  have c169 := hSw.cell k7
                  go_simp
                  try with_reducible rfl
                simp only [Act.put, List.setIfInBounds_toArray, List.set_cons_zero, List.set_cons_succ, List.getElem_toArray, List.getElem_cons_zero, List.getElem_cons_succ]
                refine wpAnyH_take (i := 4) (v := ?_) rfl (by kernel_rfl) (by kernel_rfl) (by kernel_rfl) (fun _ _ _ h => h) (Or.inl ⟨by rfl, ?_⟩) (by assumption) ?_
                rotate_left
                · intro w9 hSw
                  have c99 := hSw.cell b0
                  have c109 := hSw.cell b1
                  have c119 := hSw.cell b2
                  have c129 := hSw.cell b3
                  have c139 := hSw.cell b4
                  go_simp
                  try with_reducible rfl
                simp only [Act.put, List.setIfInBounds_toArray, List.set_cons_zero, List.set_cons_succ, List.getElem_toArray, List.getElem_cons_zero, List.getElem_cons_succ]
                refine wpAnyH_take (i := 7) (v := ?_) rfl (by kernel_rfl) (by kernel_rfl) (by kernel_rfl) (fun _ _ _ h => h) (Or.inl ⟨by rfl, ?_⟩) (by assumption) ?_
                rotate_left
                · intro w9 hSw
                  go_simp
                  try with_reducible rfl
                simp only [Act.put, List.setIfInBounds_toArray, List.set_cons_zero, List.set_cons_succ, List.getElem_toArray, List.getElem_cons_zero, List.getElem_cons_succ]
                refine wpAnyH_take (i := 8) (v := ?_) rfl (by kernel_rfl) (by kernel_rfl) (by kernel_rfl) (fun _ _ _ h => h) (Or.inl ⟨by rfl, ?_⟩) (by assumption) ?_
                rotate_left
                · intro w9 hSw
                  have c99 := hSw.cell k3
                  go_simp
                  try with_reducible rfl
                simp only [Act.put, List.setIfInBounds_toArray, List.set_cons_zero, List.set_cons_succ, List.getElem_toArray, List.getElem_cons_zero, List.getElem_cons_succ]
                refine wpAnyH_ready (rs := [5]) (by kernel_rfl) (by simp) ?_
                refine AllReadyH.cons rfl (fun K hK => ?_) AllReadyH.nil
                simp only [List.getElem_toArray, List.getElem_cons_zero, List.getElem_cons_succ]
                go_simp
                refine Calls.mono (HMO.out _ Uc0) ?_
                rintro r9 Wc1 ⟨rfl, uc1⟩
                go_simp
                have Uc1 := Uc0.trans uc1
                refine hK.out _ _ ?_ (fun hHeld => ?_)
                · exact Uc1
                clear hK K
                try simp only [Act.put, List.setIfInBounds_toArray, List.set_cons_zero, List.set_cons_succ]
                have hSS := Uc1
                refine wpAnyH_take (i := 6) (v := ?_) rfl (by kernel_rfl) (by kernel_rfl) (by kernel_rfl) (fun _ _ _ h => h) (Or.inl ⟨by rfl, ?_⟩) (by assumption) ?_
                rotate_left
                · intro w9 hSw
                  go_simp
                  try with_reducible rfl
                simp only [Act.put, List.setIfInBounds_toArray, List.set_cons_zero, List.set_cons_succ, List.getElem_toArray, List.getElem_cons_zero, List.getElem_cons_succ]
                refine wpAnyH_take (i := 9) (v := ?_) rfl (by kernel_rfl) (by kernel_rfl) (by kernel_rfl) (fun _ _ _ h => h) (Or.inl ⟨by rfl, ?_⟩) (by assumption) ?_
                rotate_left
                · intro w9 hSw
                  go_simp
                  try with_reducible rfl
                simp only [Act.put, List.setIfInBounds_toArray, List.set_cons_zero, List.set_cons_succ, List.getElem_toArray, List.getElem_cons_zero, List.getElem_cons_succ]
                refine wpAnyH_take (i := 10) (v := ?_) rfl (by kernel_rfl) (by kernel_rfl) (by kernel_rfl) (fun _ _ _ h => h) (Or.inl ⟨by rfl, ?_⟩) (by assumption) ?_
                rotate_left
                · intro w9 hSw
                  go_simp
                  try with_reducible rfl
                simp only [Act.put, List.setIfInBounds_toArray, List.set_cons_zero, List.set_cons_succ, List.getElem_toArray, List.getElem_cons_zero, List.getElem_cons_succ]
                refine wpAnyH_done (by kernel_rfl) ?_ _
                exact key10 Wc1 Uc1
              case kp10 =>
                intro W7 U7
                have HWS : Hid (WS w0 W7 g m (.slice (some ⟨b, off, none⟩) n c) p S d) := HWS.out.up U7
                have HPS : Hid (PS W7 (.slice a9 ps.length c9) ps) := HPS.out.cp (up_cp U7)
                clear k0 k1 k2 k3 k4 k5 k6 k7 b0 b1 b2 b3 b4 U7 HMO hu6 hbx hpk ew1 ew2
                obtain ⟨wv7, hk7, -, -, -⟩ := HWS.out
                have c4 := hk7.cells.2.2.2.2
                have f4 : W7.frozen? ⟨g, 4, none⟩ = false := by unfold WK at hk7; simp [World.frozen?, hk7]
                obtain ⟨D, hD⟩ : ∃ D, D = max d o := ⟨_, rfl⟩
                have HDD : Hid (D = max d o) := hD
                have m1 : (if d < o then (o : Int) else (d : Int)) = (D : Int) := by split <;> omega
                have m2 : (if (d : Int) < (o : Int) then (o : Int) else (d : Int)) = (D : Int) := by split <;> omega
                have m3 : (if o < d then (d : Int) else (o : Int)) = (D : Int) := by split <;> omega
                have m4 : (if (o : Int) < (d : Int) then (d : Int) else (o : Int)) = (D : Int) := by split <;> omega
                have m5 : max (d : Int) (o : Int) = (D : Int) := by omega
                have hw8 := HWS.out.deep D
                have hp8 := ps_set4 (u := .int .i64 (D : Int)) HPS.out hk7
                have hD2 := hD
                clear hD
                obtain ⟨W8, hW8⟩ : ∃ W8, W7.setCell ⟨g, 4, none⟩ (.int .i64 (D : Int)) = W8 := ⟨_, rfl⟩
                rw [hW8] at hw8 hp8
                have HW8 : Hid (WS w0 W8 g m (.slice (some ⟨b, off, none⟩) n c) p S D) := hw8
                have HP8 : Hid (PS W8 (.slice a9 ps.length c9) ps) := hp8
                clear hw8 hp8 hk7 hD2
                go_upto_region 12 with fail
                try rw [hW8]
                clear hW8 c4 f4 HPS HWS m1 m2 m3 m4 m5
                obtain ⟨np, hnp⟩ : ∃ np, np = ps.length := ⟨_, rfl⟩
                have HNP : Hid (np = ps.length) := hnp
                rw [← hnp] at HP8 hps3 HLG ⊢
                have ew : IntKind.i64.wrap ((np : Int) - 1) = (np : Int) - 1 := by rw [IntKind.wrap_i64]; omega
                clear hnp
                go_wp2_with fail
                go_loopw [11] (fun s11 W => ∃ j : Nat, j ≤ np ∧ s11 = .int .i64 ((j : Int) - 1) ∧ WS w0 W g m (.slice (some ⟨b, off, none⟩) n c) p (((ps.drop j).map fun q => ⟨q, many, o, false⟩) ++ S) D ∧ (j = 0 ∨ PS W (.slice a9 np c9) ps)) (fun s11 _ => (intOf s11 + 1).toNat)
                case atStart => exact ⟨np, Nat.le_refl _, rfl, by rw [List.drop_eq_nil_of_le (by have := HNP.out; omega)]; exact HW8.out, .inr HP8.out⟩
                case round =>
                  obtain ⟨j, hj, rfl, hws, hps⟩ := hrel
                  have HWS : Hid (WS w0 wr g m (.slice (some ⟨b, off, none⟩) n c) p (((ps.drop j).map fun q => ⟨q, many, o, false⟩) ++ S) D) := hws
                  clear HW8 HP8 hws
                  by_cases hj0 : j = 0
                  · subst hj0
                    have HWS : Hid (WS w0 wr g m (.slice (some ⟨b, off, none⟩) n c) p ((ps.map fun q => ⟨q, many, o, false⟩) ++ S) D) := HWS.out
                    obtain ⟨wvr, hkr, -, hur, -⟩ := HWS.out
                    have c2 := hkr.cells.2.2.1
                    have HGO : Hid (Calls Try.prog 54 #[.pointer (some ⟨g, 0, none⟩), .int .i64 (p : Int)] wr fun e w' => e = .returned (.bool (gos (l.drop p))) ∧ Up wr w') := goesOn_ g m _ wvr p D p l wr hkr (HTP.out wr hur) (HNL.out wr hur) (by omega)
                    clear hkr hur hps
                    go_wp2_with fail
                    refine Calls.mono HGO.out ?_
                    rintro r W9 ⟨rfl, u9⟩
                    have HWS : Hid (WS w0 W9 g m (.slice (some ⟨b, off, none⟩) n c) p ((ps.map fun q => ⟨q, many, o, false⟩) ++ S) D) := HWS.out.up u9
                    clear u9 HGO c2
                    cases hgo : gos (l.drop p) with
                    | false =>
                      rw [hgo, wants_no] at HE2
                      have HE3 : Hid (Post = fun e w' => e = .returned (.bool true) ∧ WS w0 w' g m (.slice (some ⟨b, off, none⟩) n c) p ((ps.map fun q => ⟨q, many, o, false⟩) ++ S) (max d o)) := by
                        unfold Hid
                        rw [HEN.out, HE2.out]
                      clear hgo
                      go_wp2_with fail
                      rw [HE3.out, ← HDD.out]
                      exact ⟨rfl, HWS.out⟩
                    | true =>
                      have hrow : k.row = true := by
                        rw [HD.out] at hgo
                        rw [HKD.out]
                        exact gos_row hgo
                      have hmk1 : 1 ≤ mks (l.drop p) := by
                        rw [mks_step, if_pos hgo]
                        omega
                      have ho1 : 1 ≤ o := by
                        have h9 := HOO.out
                        have h8 := HMQ.out
                        cases hr9 : x.rest with
                        | true => have := hrt hr9; omega
                        | false =>
                          have h7 : mks (l.drop p) ≤ mo := by
                            rw [h8]
                            unfold more
                            rw [hr9]
                            simp
                          omega
                      rw [hgo] at HE2
                      have hpne := HPR.out hrow
                      obtain ⟨p0, pr, hpp⟩ := List.exists_cons_of_ne_nil hpne
                      subst hpp
                      obtain ⟨S2, hS2⟩ : ∃ S2, S2 = (pr.map fun q => (⟨q, many, o, false⟩ : Wt)) ++ S := ⟨_, rfl⟩
                      have HE3 : Hid (Post = fun e w' => e = .returned (.bool true) ∧ WS w0 w' g m (.slice (some ⟨b, off, none⟩) n c) p (⟨p0, many, o - 1, true⟩ :: S2) D) := by
                        unfold Hid
                        rw [HEN.out, HE2.out, hS2, HDD.out]
                        rfl
                      obtain ⟨wv9, hk9, hr9, hu9, hg9⟩ := HWS.out
                      have hr9 : W9.ownsRow w0.heap.size 56 5 wv9 (S2.length + 1) (wts S2.reverse ++ (wtc ⟨p0, many, o, false⟩).toList) := by
                        rw [hS2]
                        have h8 := hr9
                        rw [List.map_cons, List.cons_append, List.reverse_cons, wts_app, List.length_cons] at h8
                        exact h8
                      obtain ⟨M, hM⟩ : ∃ M, M = S2.length := ⟨_, rfl⟩
                      rw [← hM] at hr9
                      obtain ⟨gr, cr, hgr, hcr, rfl⟩ := row_some hr9 (by omega)
                      have hlw : (wts S2.reverse).length = M * 5 := by rw [wts_len, List.length_reverse, hM]
                      have hM2 : M ≤ 1000000000003 := by
                        rw [hM, hS2]
                        have h9 := HNP.out
                        simp at h9 ⊢
                        omega
                      obtain ⟨xs, hxs⟩ : ∃ xs, xs = wts S2.reverse := ⟨_, rfl⟩
                      rw [← hxs] at hr9 hlw
                      have hgg : gr ≠ g := fun e9 => row_ne_g hr9 hk9 (by rw [e9]; rfl)
                      have HR9 : Hid (W9.ownsRow w0.heap.size 56 5 (.slice (some ⟨gr, 0, none⟩) (M + 1) cr) (M + 1) (xs ++ [.int .i64 (p0.takes : Int), .int .i64 (p0.rank : Int), .int .i64 (many : Int), .int .i64 (o : Int), .bool false])) := hr9
                      have c3 := hk9.cells.2.2.2.1
                      have HK9 : Hid (WK W9 g m (.slice (some ⟨b, off, none⟩) n c) p (.slice (some ⟨gr, 0, none⟩) (M + 1) cr) D ∧ Up w0 W9 ∧ w0.heap.size ≤ g) := ⟨hk9, hu9, hg9⟩
                      have HXS : Hid (xs = wts S2.reverse ∧ M = S2.length ∧ xs.length = M * 5) := ⟨hxs, hM, hlw⟩
                      have ewM : IntKind.i64.wrap (((M + 1 : Nat) : Int) - 1) = (M : Int) := by rw [IntKind.wrap_i64]; omega
                      have ewM2 : IntKind.i64.wrap ((M : Int) + 1 - 1) = (M : Int) := by rw [IntKind.wrap_i64]; omega
                      have ewo : IntKind.i64.wrap ((o : Int) - 1) = (o : Int) - 1 := by rw [IntKind.wrap_i64]; omega
                      have HRS : Hid (∀ W, Up W9 W → W.ownsRow w0.heap.size 56 5 (.slice (some ⟨gr, 0, none⟩) (M + 1) cr) (M + 1) (xs ++ [.int .i64 (p0.takes : Int), .int .i64 (p0.rank : Int), .int .i64 (many : Int), .int .i64 (o : Int), .bool false])) := fun W u => row_up HR9.out u
                      clear hr9 hk9 hu9 hg9 hS2 hxs hM hlw hgo hrow hmk1 hpne HE2 HPR HWS hgr hcr
                      go_upto_region 17 with fail
                      go_quiet (fail)
                      obtain ⟨W10, hW10⟩ : ∃ W10, W10 = W9.drewN nq := ⟨_, rfl⟩
                      have u10 : Up W9 W10 := by rw [hW10]; exact (Up.refl _).drewN _
                      rw [← hW10]
                      clear hW10
                      have hr10 := HRS.out W10 u10
                      have hxl : xs.length = M * 5 := HXS.out.2.2
                      have y3 : W10.cell? ⟨gr, M * 5 + 3, none⟩ = some (.int .i64 (o : Int)) := by
                        rw [hr10.cellAt (M * 5 + 3) (by omega), List.getElem?_append_right (by omega), hxl, Nat.add_sub_cancel_left]
                        rfl
                      have f3 := hr10.frozenAt (M * 5 + 3)
                      have hs1 := (hr10.stored (M * 5 + 3) (.int .i64 ((o : Int) - 1))).1
                      have y4 : (W10.setCell ⟨gr, M * 5 + 3, none⟩ (.int .i64 ((o : Int) - 1))).cell? ⟨gr, M * 5 + 4, none⟩ = some (.bool false) := by
                        rw [hs1.cellAt (M * 5 + 4) (by omega), List.getElem?_set_ne (by omega), List.getElem?_append_right (by omega), hxl, Nat.add_sub_cancel_left]
                        rfl
                      have f4 := hs1.frozenAt (M * 5 + 4)
                      have hs2 := (hs1.stored (M * 5 + 4) (.bool true)).1
                      rw [show M * 5 + 3 = xs.length + 3 by omega, show M * 5 + 4 = xs.length + 4 by omega, set_last] at hs2
                      have hk10 := HK9.out.1.up u10
                      have hkb : ∀ j u (W : World), WK W g m (.slice (some ⟨b, off, none⟩) n c) p (.slice (some ⟨gr, 0, none⟩) (M + 1) cr) D → WK (W.setCell ⟨gr, j, none⟩ u) g m (.slice (some ⟨b, off, none⟩) n c) p (.slice (some ⟨gr, 0, none⟩) (M + 1) cr) D := fun j u W h9 => by
                        unfold WK at h9 ⊢
                        rw [Below.heap_setCell _ _ _ _ (Ne.symm hgg)]
                        exact h9
                      have hgw : w0.heap.size ≤ gr := (hr10.lt gr rfl).1
                      have HZ : Hid (WS w0 ((W10.setCell ⟨gr, M * 5 + 3, none⟩ (.int .i64 ((o : Int) - 1))).setCell ⟨gr, M * 5 + 4, none⟩ (.bool true)) g m (.slice (some ⟨b, off, none⟩) n c) p (⟨p0, many, o - 1, true⟩ :: S2) D) := by
                        refine ⟨.slice (some ⟨gr, 0, none⟩) (M + 1) cr, hkb _ _ _ (hkb _ _ _ hk10), ?_, ?_, HK9.out.2.2⟩
                        · rw [show M * 5 + 3 = xs.length + 3 by omega, show M * 5 + 4 = xs.length + 4 by omega, List.reverse_cons, wts_app, List.length_cons, ← HXS.out.2.1, ← HXS.out.1]
                          have h8 : wts [(⟨p0, many, o - 1, true⟩ : Wt)] = [.int .i64 (p0.takes : Int), .int .i64 (p0.rank : Int), .int .i64 (many : Int), .int .i64 ((o : Int) - 1), .bool true] := by
                            rw [show ((o : Int) - 1) = ((o - 1 : Nat) : Int) by omega]
                            rfl
                          rw [h8]
                          exact hs2
                        · exact (((Only.up (HK9.out.2.1.trans u10)).set _ _).set _ _).below hgw (Nat.le_refl _)
                      clear hs1 hs2 hr10 hk10 hkb u10 hgw hxl
                      go_wp2_with fail
                      rw [HE3.out]
                      exact ⟨rfl, HZ.out⟩
                  · obtain ⟨j', rfl⟩ : ∃ j', j = j' + 1 := ⟨j - 1, by omega⟩
                    have hjl : j' < ps.length := by have := HNP.out; omega
                    rw [show ((j' + 1 : Nat) : Int) - 1 = (j' : Int) by omega]
                    have hps1 : PS wr (.slice a9 np c9) ps := hps.resolve_left hj0
                    obtain ⟨gp, rfl, hce⟩ := ps_at hps1 (by omega)
                    obtain ⟨x0, x1⟩ := hce j' hjl
                    have HPU : Hid (Calls Try.prog 33 #[.pointer (some ⟨g, 0, none⟩), .agg #[.int .i64 ((ps.getD j' dp).takes : Int), .int .i64 ((ps.getD j' dp).rank : Int), .int .i64 (many : Int), .int .i64 (o : Int), .bool false]] wr fun e w' => e = .returned (.tuple #[]) ∧ WS w0 w' g m (.slice (some ⟨b, off, none⟩) n c) p (⟨ps.getD j' dp, many, o, false⟩ :: (((ps.drop (j' + 1)).map fun q => ⟨q, many, o, false⟩) ++ S)) D) := push_ ⟨ps.getD j' dp, many, o, false⟩ w0 g m _ p _ D wr HWS.out (by have h9 := HNP.out; simp; omega)
                    have HDR : Hid ((⟨ps.getD j' dp, many, o, false⟩ : Wt) :: (((ps.drop (j' + 1)).map fun q => ⟨q, many, o, false⟩) ++ S) = ((ps.drop j').map fun q => ⟨q, many, o, false⟩) ++ S) := by
                      unfold Hid
                      rw [List.drop_eq_getElem_cons hjl, List.getD_eq_getElem?_getD, List.getElem?_eq_getElem hjl]
                      rfl
                    have hjn : j' < np := by omega
                    have ei : IntKind.i64.wrap ((j' : Int) - 1) = (j' : Int) - 1 := by rw [IntKind.wrap_i64]; omega
                    clear hce hps hps1 hjl
                    generalize ps.getD j' dp = pl at *
                    go_wp2_with fail
                    refine Calls.mono HPU.out ?_
                    rintro r W9 ⟨rfl, hws9⟩
                    have HW9 : Hid (WS w0 W9 g m (.slice (some ⟨b, off, none⟩) n c) p (((ps.drop j').map fun q => ⟨q, many, o, false⟩) ++ S) D) := by
                      rw [HDR.out] at hws9
                      exact hws9
                    have HP9 : Hid (j' = 0 ∨ PS W9 (.slice (some ⟨gp, 0, none⟩) np c9) ps) := by
                      rcases HLG.out with h9 | h9
                      · exact .inl (by omega)
                      · obtain ⟨_, _, _, h8, _⟩ := HW9.out
                        exact .inr (h9 W9 h8)
                    clear hws9
                    go_wp2_with fail
                    go_roundw
                    case rel => exact ⟨j', by omega, by go_num, HW9.out, HP9.out⟩
                    case measure => simp [intOf]
end TR
end Go.Proofs.Ytgahdppcdeefaaa
