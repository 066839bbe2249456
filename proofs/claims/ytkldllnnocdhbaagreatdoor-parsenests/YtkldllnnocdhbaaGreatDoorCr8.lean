/-
  Numbers (at the seat of stage 10: nothing of them).
-/
import Derived.Test.YtkldllnnocdhbaaGreatDoorRt8
import Derived.Test.YtkldllnnocdhbaaGreatDoorRm8
import Derived.Test.YtkldllnnocdhbaaGreatDoorLast
import Derived.Test.YtkldllnnocdhbaaGreatDoorRs8
import Derived.Deep.Cut
import Derived.Test.YtkldllnnocdhbaaGreatDoorTu8
import Derived.Test.YtkldllnnocdhbaaGreatDoorKt8
import Derived.Lib.SmallJoins
namespace Go.Proofs.YtkldllnnocdhbaaGreatDoor
open Go.RowKit
attribute [local go_sem ↓] Go.wp_at_zero Go.wp_at_succ
namespace TK
theorem res_c0 {P : Program} {fn : Func} {p : Tmp} {ty : TypeId} (h : fn.results = #[.cell p ty]) (tmps : Array Value) (w : World) (g : Nat) (t : TypeId) (cs : Array Value) (fr : Nat × Nat) (d : TypeDesc)
    (hp : tmps.getD p undef = .pointer (some ⟨g, 0, none⟩)) (hg : w.heap[g]? = some (.cells cs t fr))
    (hu : P.underlying ty = some d) (hd : (match d with | .struct _ | .array _ _ => true | _ => false) = true) (hi : (P.info? ty).map (·.size) = some cs.size) :
    (results fn tmps).run P w = .ok (.agg cs) w := by
  have hp' : tmps[p]?.getD undef = .pointer (some ⟨g, 0, none⟩) := by simpa using hp
  simp [results, h, hp', asAddr, run_loadVar_row w g t ty cs fr d hg hu hd hi]
/- what one answers -/
def OnP (w0 : World) (g : Nat) (vb : Value) (B : List Int) (p : Nat) (bad : Int) (w : World) (s : Stp) (e : Ending) (w' : World) : Prop := match s with
  | .bad q => ∃ kd t nm i, e = .returned (.agg #[.int .i8 kd, .string t, .int .i64 nm, .int .i64 (p : Int)]) ∧ RC w0 g vb B i (q : Int) w' ∧ Kg g w w'
  | .tok t q => e = .returned (.agg #[.int .i8 t.kind, .string (strOfNums t.text), .int .i64 t.num, .int .i64 (p : Int)]) ∧ RC w0 g vb B q bad w' ∧ Kg g w w'
  | .skip _ => False
theorem stp_one {B : List Int} {p : Nat} (hb : blk (B.getD p 0) = false) (hr : rmk B p = false) : stp B p = if sml (B.getD p 0) then nme B p else if dig (B.getD p 0) then nmb B p else if B.getD p 0 == 34 then tx B p else mkk B p := by
  unfold stp
  rw [hb, hr]
  rfl
section
variable {w0 w W : World} {g : Nat} {vb : Value} {B : List Int} {p : Nat} {bad : Int}
theorem on_name (h : RC w0 g vb B (spn prt B p) (if 32 < spn prt B p - p then (p : Int) else bad) W) (k : Kg g w W) : OnP w0 g vb B p bad w (nme B p) (.returned (.agg #[.int .i8 1, .string (strOfNums (sub B p (spn prt B p))), .int .i64 0, .int .i64 (p : Int)])) W := by
  unfold nme
  by_cases hb : 32 < spn prt B p - p
  · rw [if_pos hb] at h ⊢
    exact ⟨_, _, _, _, rfl, h, k⟩
  · rw [if_neg hb] at h ⊢
    exact ⟨rfl, h, k⟩
theorem on_num (h : RC w0 g vb B (nue B p) (nbad B p bad) W) (k : Kg g w W) : OnP w0 g vb B p bad w (nmb B p) (.returned (.agg #[.int .i8 2, .string ⟨#[]⟩, .int .i64 (if 9223372036854775807 < val (sub B p (nue B p)) then 0 else val (sub B p (nue B p))), .int .i64 (p : Int)])) W := by
  unfold nmb
  unfold nbad at h
  by_cases hb : 9223372036854775807 < val (sub B p (nue B p))
  · rw [if_pos hb] at h ⊢
    exact ⟨_, _, _, _, rfl, h, k⟩
  · rw [if_neg hb] at h ⊢
    by_cases hc : nue B p < spn prt B (nue B p)
    · rw [if_pos hc] at h ⊢
      exact ⟨_, _, _, _, rfl, h, k⟩
    · rw [if_neg hc] at h ⊢
      refine ⟨?_, h, k⟩
      rw [if_neg hb]
      rfl
end
theorem rc_set {w0 : World} {g : Nat} {vb : Value} {B : List Int} {p : Nat} {bad : Int} {W : World} {m : Nat} (h : RC w0 g vb B p bad W) (hg : w0.heap.size ≤ g ∧ g < m) (j : Nat) (v : Value) : RC w0 g vb B p bad (W.setCell ⟨m, j, none⟩ v) :=
  ⟨by rw [Below.heap_setCell _ _ _ _ (by show g ≠ m; omega)]; exact h.hp, Below.setCell h.up (by show w0.heap.size ≤ m; omega) _, h.le, h.bl, h.byt, h.len, h.at_le⟩
theorem kg_set {g : Nat} {w W : World} {m : Nat} (h : Kg g w W) (hm : w.heap.size ≤ m) (j : Nat) (v : Value) : Kg g w (W.setCell ⟨m, j, none⟩ v) := by
  refine ⟨by have := h.1; simpa [World.setCell] using this, fun k hk hg => ?_⟩
  rw [Below.heap_setCell _ _ _ _ (by show k ≠ m; omega)]
  exact h.2 k hk hg
theorem rc_row {w0 : World} {g : Nat} {vb : Value} {B : List Int} {p : Nat} {bad : Int} {W : World} {m : Nat} (h : RC w0 g vb B p bad W) (hg : w0.heap.size ≤ g ∧ g < m) (A : Array Value) : RC w0 g vb B p bad (W.setRow m A) :=
  ⟨by rw [setRow_other _ _ _ _ (by omega)]; exact h.hp, up_setRow h.up (by omega) _, h.le, h.bl, h.byt, h.len, h.at_le⟩
theorem kg_row {g : Nat} {w W : World} {m : Nat} (h : Kg g w W) (hm : w.heap.size ≤ m) (A : Array Value) : Kg g w (W.setRow m A) :=
  ⟨by have := h.1; simpa [World.setRow] using this, fun k hk hg => by rw [setRow_other _ _ _ _ (by omega)]; exact h.2 k hk hg⟩
theorem kg_at {g : Nat} {w W : World} {m : Nat} {o : Obj} (h : Kg g w W) (hm : w.heap[m]? = some o) (hg : m ≠ g) : W.heap[m]? = some o := by
  rw [h.2 m (Array.getElem?_eq_some_iff.1 hm).1 hg]
  exact hm
set_option maxRecDepth 100000 in
set_option maxHeartbeats 8000000 in
theorem cone_end (w0 : World) (g : Nat) (vb : Value) (B : List Int) (p : Nat) (bad : Int) (w : World) (h : RC w0 g vb B p bad w) (hp : p = B.length) :
    Calls Tryz.prog 24 #[.pointer (some ⟨g, 0, none⟩)] w fun e w' => e = .returned (.agg #[.int .i8 0, .string ⟨#[]⟩, .int .i64 0, .int .i64 (p : Int)]) ∧ RC w0 g vb B p bad w' ∧ Kg g w w' := by
  obtain ⟨Post, hPost⟩ : ∃ P : Ending → World → Prop, P = fun e w' => e = .returned (.agg #[.int .i8 0, .string ⟨#[]⟩, .int .i64 0, .int .i64 (p : Int)]) ∧ RC w0 g vb B p bad w' ∧ Kg g w w' := ⟨_, rfl⟩
  rw [← hPost]
  obtain ⟨a, c, hvb, -, -⟩ := bl_cells h.bl
  rw [← hp] at hvb
  subst hvb
  obtain ⟨W0, hW0⟩ : ∃ W0, w.alloc (.cells #[.int .i8 0, .string ⟨#[]⟩, .int .i64 0, .int .i64 0] 45) = W0 := ⟨_, rfl⟩
  obtain ⟨W1, hW1⟩ : ∃ W1, W0.alloc (.cells #[.int .i8 0, .string ⟨#[]⟩, .int .i64 0, .int .i64 (p : Int)] 45) = W1 := ⟨_, rfl⟩
  have u0 : Up w W0 := by rw [← hW0]; exact (Up.refl _).alloc _
  have u1 : Up W0 W1 := by rw [← hW1]; exact (Up.refl _).alloc _
  have gA : W1.heap[w.heap.size]? = some (.cells tz 45 (0, 0)) := u1.heap (by rw [← hW0]; exact heap_alloc_new _ _)
  have gB : W1.heap[W0.heap.size]? = some (.cells #[.int .i8 0, .string ⟨#[]⟩, .int .i64 0, .int .i64 (p : Int)] 45 (0, 0)) := by rw [← hW1]; exact heap_alloc_new _ _
  have HA0 : Hid (W0.heap.size = w.heap.size + 1) := by unfold Hid; rw [← hW0]; simp
  have HG0 : Hid (w0.heap.size ≤ g ∧ g < w.heap.size) := ⟨h.le, (Array.getElem?_eq_some_iff.1 h.hp).1⟩
  obtain ⟨x0, x1, x2⟩ := (h.kb u0).cells
  obtain ⟨x3, x4, x5⟩ := ((h.kb u0).kb u1).cells
  have HFB : Hid (∀ k, Post (.returned (.agg #[.int .i8 0, .string ⟨#[]⟩, .int .i64 0, .int .i64 (p : Int)])) ((W1.drewN k).setRow w.heap.size #[.int .i8 0, .string ⟨#[]⟩, .int .i64 0, .int .i64 (p : Int)])) := fun k => by
    rw [hPost]
    exact ⟨rfl, rc_row (((h.kb u0).kb u1).kb ((Up.refl _).drewN k)) HG0.out _, kg_row ((((Kg.refl g w).up u0).up u1).up ((Up.refl _).drewN k)) (Nat.le_refl _) _⟩
  have hgl : g < w.heap.size := HG0.out.2
  clear h hp u0 u1 hPost
  go_enter Tryz.func24, Tryz.ntmps24
  go_wp2_with fail
  try rw [hW1]
  go_quiet (fail)
  clear hW0 hW1
  replace gA := ((Up.refl W1).drewN nq).heap gA
  replace gB := ((Up.refl W1).drewN nq).heap gB
  obtain ⟨X, hX⟩ : ∃ X9, W1.drewN nq = X9 := ⟨_, rfl⟩
  have HFB := HFB.out nq
  rw [hX] at gA gB HFB ⊢
  clear hX x3 x4 x5
  have HFB : Hid (Post (.returned (.agg #[.int .i8 0, .string ⟨#[]⟩, .int .i64 0, .int .i64 (p : Int)])) (X.setRow w.heap.size #[.int .i8 0, .string ⟨#[]⟩, .int .i64 0, .int .i64 (p : Int)])) := HFB
  go_wp2_with (first | (refine wpList_load_rowG (by rfl) 45 (.tmp 3) (by rfl) W0.heap.size (by rfl) 45 #[.int .i8 0, .string ⟨#[]⟩, .int .i64 0, .int .i64 (p : Int)] (0, 0) _ gB Tryz.underlying45 (by rfl) infoTs ?_) | (refine wpList_store_row (by rfl) 45 (.tmp 2) (.tmp 20) (by rfl) w.heap.size #[.int .i8 0, .string ⟨#[]⟩, .int .i64 0, .int .i64 (p : Int)] (by rfl) (by rfl) 45 tz gA infoTs rfl (by simp [Value.oneCell']) ?_))
  refine bodyPost_ret (v := .agg #[.int .i8 0, .string ⟨#[]⟩, .int .i64 0, .int .i64 (p : Int)]) (res_c0 (p := 2) (ty := 45) rfl _ _ w.heap.size 45 #[.int .i8 0, .string ⟨#[]⟩, .int .i64 0, .int .i64 (p : Int)] (0, 0) _ rfl (setRow_heap _ _ _ _ _ _ gA) Tryz.underlying45 rfl infoTs) rfl ?_
  exact HFB.out
theorem txt_kind {B : List Int} {p : Nat} : ∀ (n i : Nat) (acc : List Int) (t : Tok) (q : Nat), txt B p n i acc = .tok t q → t.kind = 3 ∧ t.num = 0
  | 0, i, acc, t, q, h => by cases h
  | n + 1, i, acc, t, q, h => by
    unfold txt at h
    repeat' split at h
    all_goals first | (cases h; exact ⟨rfl, rfl⟩) | exact txt_kind n _ _ _ _ h | cases h
theorem tx_kind {B : List Int} {p q : Nat} {t : Tok} (h : tx B p = .tok t q) : t.kind = 3 ∧ t.num = 0 := txt_kind _ _ _ _ _ h
set_option maxRecDepth 100000 in
set_option maxHeartbeats 16000000 in
theorem cone_ (w0 : World) (g : Nat) (vb : Value) (B : List Int) (p : Nat) (bad : Int) (w : World) (h : RC w0 g vb B p bad w) (hp0 : p < B.length) (hb : blk (B.getD p 0) = false) (hrm : rmk B p = false) :
    Calls Tryz.prog 24 #[.pointer (some ⟨g, 0, none⟩)] w (OnP w0 g vb B p bad w (stp B p)) := by
  obtain ⟨Post, hPost⟩ : ∃ P : Ending → World → Prop, P = OnP w0 g vb B p bad w (stp B p) := ⟨_, rfl⟩
  rw [← hPost]
  have HIL : Hid (p < B.length) := hp0
  have HSO := stp_one hb hrm
  obtain ⟨a, c, hvb, hc, hce⟩ := bl_cells h.bl
  obtain ⟨b, off, rfl, hba⟩ := hce (by omega)
  have HBA : Hid (BA w0 b off B) := hba
  obtain ⟨n, hN⟩ : ∃ n, n = B.length := ⟨_, rfl⟩
  rw [← hN] at hvb hc hp0
  subst hvb
  have HPo : Hid (Post = OnP w0 g (.slice (some ⟨b, off, none⟩) n c) B p bad w (stp B p)) := hPost
  obtain ⟨W0, hW0⟩ : ∃ W0, w.alloc (.cells #[.int .i8 0, .string ⟨#[]⟩, .int .i64 0, .int .i64 0] 45) = W0 := ⟨_, rfl⟩
  obtain ⟨W1, hW1⟩ : ∃ W1, W0.alloc (.cells #[.int .i8 0, .string ⟨#[]⟩, .int .i64 0, .int .i64 (p : Int)] 45) = W1 := ⟨_, rfl⟩
  have u0 : Up w W0 := by rw [← hW0]; exact (Up.refl _).alloc _
  have u1 : Up W0 W1 := by rw [← hW1]; exact (Up.refl _).alloc _
  have gA : W1.heap[w.heap.size]? = some (.cells tz 45 (0, 0)) := u1.heap (by rw [← hW0]; exact heap_alloc_new _ _)
  have gB : W1.heap[W0.heap.size]? = some (.cells #[.int .i8 0, .string ⟨#[]⟩, .int .i64 0, .int .i64 (p : Int)] 45 (0, 0)) := by rw [← hW1]; exact heap_alloc_new _ _
  have HA0 : Hid (W0.heap.size = w.heap.size + 1) := by unfold Hid; rw [← hW0]; simp
  have HG0 : Hid (w0.heap.size ≤ g ∧ g < w.heap.size) := ⟨h.le, (Array.getElem?_eq_some_iff.1 h.hp).1⟩
  obtain ⟨x0, x1, x2⟩ := (h.kb u0).cells
  obtain ⟨x3, x4, x5⟩ := ((h.kb u0).kb u1).cells
  have HR : Hid (RC w0 g (.slice (some ⟨b, off, none⟩) n c) B p bad W1) := (h.kb u0).kb u1
  have HK : Hid (Kg g w W1) := ((Kg.refl g w).up u0).up u1
  have hgl : g < w.heap.size := HG0.out.2
  have q1 : ((p : Int) == (n : Int)) = false := by simp; omega
  have q2 : ¬ p = n := by omega
  have xd := HBA.out W1 HR.out.up p HIL.out
  obtain ⟨d, hd⟩ : ∃ d, d = B.getD p 0 := ⟨_, rfl⟩
  have HD : Hid (d = B.getD p 0) := hd
  rw [← hd] at xd
  clear hd
  clear h hba hce hN hPost u0 u1 hb hrm
  go_enter Tryz.func24, Tryz.ntmps24
  go_wp2_with fail
  try rw [hW1]
  go_quiet (fail)
  clear hW0 hW1 x0 x1 x2
  replace gA := ((Up.refl W1).drewN nq).heap gA
  replace gB := ((Up.refl W1).drewN nq).heap gB
  have HR2 : Hid (RC w0 g (.slice (some ⟨b, off, none⟩) n c) B p bad (W1.drewN nq)) := HR.out.kb ((Up.refl _).drewN nq)
  have HK2 : Hid (Kg g w (W1.drewN nq)) := HK.out.up ((Up.refl _).drewN nq)
  obtain ⟨X, hX⟩ : ∃ X9, W1.drewN nq = X9 := ⟨_, rfl⟩
  rw [hX] at gA gB HR2 HK2 ⊢
  clear hX HR HK x3 x4 x5 xd
  have HR := HR2
  have HK := HK2
  clear HR2 HK2
  obtain ⟨x3, x4, x5⟩ := HR.out.cells
  have xd := HBA.out X HR.out.up p HIL.out
  rw [← HD.out] at xd
  go_wp2_with fail
  go_quiet (fail)
  replace gA := ((Up.refl X).drewN nq).heap gA
  replace gB := ((Up.refl X).drewN nq).heap gB
  have HR2 : Hid (RC w0 g (.slice (some ⟨b, off, none⟩) n c) B p bad (X.drewN nq)) := HR.out.kb ((Up.refl _).drewN nq)
  have HK2 : Hid (Kg g w (X.drewN nq)) := HK.out.up ((Up.refl _).drewN nq)
  obtain ⟨Y, hY⟩ : ∃ X9, X.drewN nq = X9 := ⟨_, rfl⟩
  rw [hY] at gA gB HR2 HK2 ⊢
  clear hY HR HK x3 x4 x5 xd
  have HR := HR2
  have HK := HK2
  clear HR2 HK2
  obtain ⟨x3, x4, x5⟩ := HR.out.cells
  have xd := HBA.out Y HR.out.up p HIL.out
  rw [← HD.out] at xd
  have HSM : Hid (∀ W, Calls Tryz.prog 59 #[.int .u8 (B.getD p 0)] W fun e w' => e = .returned (.bool (sml (B.getD p 0))) ∧ w' = W) := fun W => small_ _ W
  have HDI : Hid (∀ W, Calls Tryz.prog 61 #[.int .u8 (B.getD p 0)] W fun e w' => e = .returned (.bool (dig (B.getD p 0))) ∧ w' = W) := fun W => digit_ _ W
  have HSO : Hid (stp B p = if sml (B.getD p 0) then nme B p else if dig (B.getD p 0) then nmb B p else if B.getD p 0 == 34 then tx B p else mkk B p) := HSO
  clear x3 x4 x5 xd
  rw [← HD.out] at HSM HDI HSO
  go_wp2_with fail
  refine Calls.mono (HSM.out _) ?_
  rintro r W2 ⟨rfl, hw2⟩
  obtain rfl := hw2.symm
  cases h1 : sml d with
  | true =>
    have HST : Hid (stp B p = nme B p) := by unfold Hid; rw [HSO.out, h1]; rfl
    clear h1 HSO HSM HDI hw2
    obtain ⟨Z, hZ⟩ : ∃ Z, Y.setCell ⟨W0.heap.size, 0, none⟩ (.int .i8 1) = Z := ⟨_, rfl⟩
    have fz : Y.frozen? ⟨W0.heap.size, 0, none⟩ = false := by simp [World.frozen?, gB]
    have cz : Y.cell? ⟨W0.heap.size, 0, none⟩ = some (.int .i8 0) := by simp only [World.cell?, gB]; rfl
    have HRZ : Hid (RC w0 g (.slice (some ⟨b, off, none⟩) n c) B p bad Z) := by unfold Hid; rw [← hZ]; exact rc_set HR.out ⟨HG0.out.1, by have := HA0.out; have := HG0.out.2; omega⟩ _ _
    have HKZ : Hid (Kg g w Z) := by unfold Hid; rw [← hZ]; exact kg_set HK.out (by have := HA0.out; omega) _ _
    have gAZ : Z.heap[w.heap.size]? = some (.cells tz 45 (0, 0)) := by rw [← hZ, Below.heap_setCell _ _ _ _ (by show w.heap.size ≠ W0.heap.size; have := HA0.out; omega)]; exact gA
    have gBZ : Z.heap[W0.heap.size]? = some (.cells #[.int .i8 1, .string ⟨#[]⟩, .int .i64 0, .int .i64 (p : Int)] 45 (0, 0)) := by rw [← hZ, set_cells gB]; rfl
    have HC : Hid (Calls Tryz.prog 60 #[.pointer (some ⟨g, 0, none⟩)] Z fun e w' => ∃ s q bd, e = .returned (.string s) ∧ RC w0 g (.slice (some ⟨b, off, none⟩) n c) B q bd w' ∧ Kg g Z w' ∧ (∀ W', RC w0 g (.slice (some ⟨b, off, none⟩) n c) B q bd W' → Kg g w W' → Post (.returned (.agg #[.int .i8 1, .string s, .int .i64 0, .int .i64 (p : Int)])) W')) := by
      refine Calls.mono (cname_ w0 g _ B p bad Z HRZ.out HIL.out) ?_
      rintro e w' ⟨rfl, h1, h2⟩
      exact ⟨_, _, _, rfl, h1, h2, fun W' h3 h4 => by rw [HPo.out, HST.out]; exact on_name h3 h4⟩
    clear HR HK gA gB
    go_wp2_with fail
    try rw [hZ]
    refine Calls.mono HC.out ?_
    rintro r V ⟨s, q, bd, rfl, hr, hk, hf⟩
    replace gAZ := kg_at hk gAZ (by have := HG0.out; omega)
    replace gBZ := kg_at hk gBZ (by have := HG0.out; have := HA0.out; omega)
    have HKV := HKZ.out.trans hk
    clear hk hZ HRZ HKZ HC
    obtain ⟨V2, hV2⟩ : ∃ V2, V.setCell ⟨W0.heap.size, 1, none⟩ (.string s) = V2 := ⟨_, rfl⟩
    have fv : V.frozen? ⟨W0.heap.size, 1, none⟩ = false := by simp [World.frozen?, gBZ]
    have cv : V.cell? ⟨W0.heap.size, 1, none⟩ = some (.string ⟨#[]⟩) := by simp only [World.cell?, gBZ]; rfl
    have gA : V2.heap[w.heap.size]? = some (.cells tz 45 (0, 0)) := by rw [← hV2, Below.heap_setCell _ _ _ _ (by show w.heap.size ≠ W0.heap.size; have := HA0.out; omega)]; exact gAZ
    have gB : V2.heap[W0.heap.size]? = some (.cells #[.int .i8 1, .string s, .int .i64 0, .int .i64 (p : Int)] 45 (0, 0)) := by rw [← hV2, set_cells gBZ]; rfl
    have HFB : Hid (Post (.returned (.agg #[.int .i8 1, .string s, .int .i64 0, .int .i64 (p : Int)])) (V2.setRow w.heap.size #[.int .i8 1, .string s, .int .i64 0, .int .i64 (p : Int)])) := by
      unfold Hid
      rw [← hV2]
      exact hf _ (rc_row (rc_set hr ⟨HG0.out.1, by have := HA0.out; have := HG0.out.2; omega⟩ _ _) HG0.out _) (kg_row (kg_set HKV (by have := HA0.out; omega) _ _) (Nat.le_refl _) _)
    have gBV : Hid (V.heap[W0.heap.size]? = some (.cells #[.int .i8 1, .string ⟨#[]⟩, .int .i64 0, .int .i64 (p : Int)] 45 (0, 0))) := gBZ
    clear hf hr HKV gAZ
    clear gBZ
    go_wp2_with (first | (refine wpList_world hV2 ?_; refine wpList_load_rowG (by rfl) 45 (.tmp 3) (by rfl) W0.heap.size (by rfl) 45 #[.int .i8 1, .string s, .int .i64 0, .int .i64 (p : Int)] (0, 0) _ gB Tryz.underlying45 (by rfl) infoTs ?_) | (refine wpList_load_rowG (by rfl) 45 (.tmp 3) (by rfl) W0.heap.size (by rfl) 45 #[.int .i8 1, .string s, .int .i64 0, .int .i64 (p : Int)] (0, 0) _ gB Tryz.underlying45 (by rfl) infoTs ?_) | (refine wpList_store_row (by rfl) 45 (.tmp 2) (.tmp 56) (by rfl) w.heap.size #[.int .i8 1, .string s, .int .i64 0, .int .i64 (p : Int)] (by rfl) (by rfl) 45 tz gA infoTs rfl (by simp [Value.oneCell']) ?_))
    refine bodyPost_ret (v := .agg #[.int .i8 1, .string s, .int .i64 0, .int .i64 (p : Int)]) (res_c0 (p := 2) (ty := 45) rfl _ _ w.heap.size 45 #[.int .i8 1, .string s, .int .i64 0, .int .i64 (p : Int)] (0, 0) _ rfl (setRow_heap _ _ _ _ _ _ gA) Tryz.underlying45 rfl infoTs) rfl ?_
    exact HFB.out
  | false =>
    go_wp2_with fail
    refine Calls.mono (HDI.out _) ?_
    rintro r W3 ⟨rfl, hw3⟩
    obtain rfl := hw3.symm
    cases h2 : dig d with
    | true =>
      have HST : Hid (stp B p = nmb B p) := by unfold Hid; rw [HSO.out, h1, h2]; rfl
      have HDG : Hid (dig (B.getD p 0) = true) := by unfold Hid; rw [← HD.out]; exact h2
      clear h1 h2 HSO HSM HDI hw2 hw3
      obtain ⟨Z, hZ⟩ : ∃ Z, Y.setCell ⟨W0.heap.size, 0, none⟩ (.int .i8 2) = Z := ⟨_, rfl⟩
      have fz : Y.frozen? ⟨W0.heap.size, 0, none⟩ = false := by simp [World.frozen?, gB]
      have cz : Y.cell? ⟨W0.heap.size, 0, none⟩ = some (.int .i8 0) := by simp only [World.cell?, gB]; rfl
      have HRZ : Hid (RC w0 g (.slice (some ⟨b, off, none⟩) n c) B p bad Z) := by unfold Hid; rw [← hZ]; exact rc_set HR.out ⟨HG0.out.1, by have := HA0.out; have := HG0.out.2; omega⟩ _ _
      have HKZ : Hid (Kg g w Z) := by unfold Hid; rw [← hZ]; exact kg_set HK.out (by have := HA0.out; omega) _ _
      have gAZ : Z.heap[w.heap.size]? = some (.cells tz 45 (0, 0)) := by rw [← hZ, Below.heap_setCell _ _ _ _ (by show w.heap.size ≠ W0.heap.size; have := HA0.out; omega)]; exact gA
      have gBZ : Z.heap[W0.heap.size]? = some (.cells #[.int .i8 2, .string ⟨#[]⟩, .int .i64 0, .int .i64 (p : Int)] 45 (0, 0)) := by rw [← hZ, set_cells gB]; rfl
      have HC : Hid (Calls Tryz.prog 62 #[.pointer (some ⟨g, 0, none⟩)] Z fun e w' => ∃ s q bd, e = .returned (.int .i64 s) ∧ RC w0 g (.slice (some ⟨b, off, none⟩) n c) B q bd w' ∧ Kg g Z w' ∧ (∀ W', RC w0 g (.slice (some ⟨b, off, none⟩) n c) B q bd W' → Kg g w W' → Post (.returned (.agg #[.int .i8 2, .string ⟨#[]⟩, .int .i64 s, .int .i64 (p : Int)])) W')) := by
        refine Calls.mono (cnum_ w0 g _ B p bad Z HRZ.out HIL.out HDG.out) ?_
        rintro e w' ⟨rfl, h1, h2⟩
        exact ⟨_, _, _, rfl, h1, h2, fun W' h3 h4 => by rw [HPo.out, HST.out]; exact on_num h3 h4⟩
      clear HR HK gA gB
      go_wp2_with fail
      try rw [hZ]
      refine Calls.mono HC.out ?_
      rintro r V ⟨s, q, bd, rfl, hr, hk, hf⟩
      replace gAZ := kg_at hk gAZ (by have := HG0.out; omega)
      replace gBZ := kg_at hk gBZ (by have := HG0.out; have := HA0.out; omega)
      have HKV := HKZ.out.trans hk
      clear hk hZ HRZ HKZ HC
      obtain ⟨V2, hV2⟩ : ∃ V2, V.setCell ⟨W0.heap.size, 2, none⟩ (.int .i64 s) = V2 := ⟨_, rfl⟩
      have fv : V.frozen? ⟨W0.heap.size, 2, none⟩ = false := by simp [World.frozen?, gBZ]
      have cv : V.cell? ⟨W0.heap.size, 2, none⟩ = some (.int .i64 0) := by simp only [World.cell?, gBZ]; rfl
      have gA : V2.heap[w.heap.size]? = some (.cells tz 45 (0, 0)) := by rw [← hV2, Below.heap_setCell _ _ _ _ (by show w.heap.size ≠ W0.heap.size; have := HA0.out; omega)]; exact gAZ
      have gB : V2.heap[W0.heap.size]? = some (.cells #[.int .i8 2, .string ⟨#[]⟩, .int .i64 s, .int .i64 (p : Int)] 45 (0, 0)) := by rw [← hV2, set_cells gBZ]; rfl
      have HFB : Hid (Post (.returned (.agg #[.int .i8 2, .string ⟨#[]⟩, .int .i64 s, .int .i64 (p : Int)])) (V2.setRow w.heap.size #[.int .i8 2, .string ⟨#[]⟩, .int .i64 s, .int .i64 (p : Int)])) := by
        unfold Hid
        rw [← hV2]
        exact hf _ (rc_row (rc_set hr ⟨HG0.out.1, by have := HA0.out; have := HG0.out.2; omega⟩ _ _) HG0.out _) (kg_row (kg_set HKV (by have := HA0.out; omega) _ _) (Nat.le_refl _) _)
      have gBV : Hid (V.heap[W0.heap.size]? = some (.cells #[.int .i8 2, .string ⟨#[]⟩, .int .i64 0, .int .i64 (p : Int)] 45 (0, 0))) := gBZ
      clear hf hr HKV gAZ
      clear gBZ
      go_wp2_with (first | (refine wpList_world hV2 ?_; refine wpList_load_rowG (by rfl) 45 (.tmp 3) (by rfl) W0.heap.size (by rfl) 45 #[.int .i8 2, .string ⟨#[]⟩, .int .i64 s, .int .i64 (p : Int)] (0, 0) _ gB Tryz.underlying45 (by rfl) infoTs ?_) | (refine wpList_load_rowG (by rfl) 45 (.tmp 3) (by rfl) W0.heap.size (by rfl) 45 #[.int .i8 2, .string ⟨#[]⟩, .int .i64 s, .int .i64 (p : Int)] (0, 0) _ gB Tryz.underlying45 (by rfl) infoTs ?_) | (refine wpList_store_row (by rfl) 45 (.tmp 2) (.tmp 56) (by rfl) w.heap.size #[.int .i8 2, .string ⟨#[]⟩, .int .i64 s, .int .i64 (p : Int)] (by rfl) (by rfl) 45 tz gA infoTs rfl (by simp [Value.oneCell']) ?_))
      refine bodyPost_ret (v := .agg #[.int .i8 2, .string ⟨#[]⟩, .int .i64 s, .int .i64 (p : Int)]) (res_c0 (p := 2) (ty := 45) rfl _ _ w.heap.size 45 #[.int .i8 2, .string ⟨#[]⟩, .int .i64 s, .int .i64 (p : Int)] (0, 0) _ rfl (setRow_heap _ _ _ _ _ _ gA) Tryz.underlying45 rfl infoTs) rfl ?_
      exact HFB.out
    | false =>
      by_cases h3 : d = 34
      · have h34 : (d == 34) = true := by simpa using h3
        have HST : Hid (stp B p = tx B p) := by unfold Hid; rw [HSO.out, h1, h2, h34]; rfl
        clear h1 h2 h3 HSO HSM HDI hw2 hw3
        obtain ⟨Z, hZ⟩ : ∃ Z, Y.setCell ⟨W0.heap.size, 0, none⟩ (.int .i8 3) = Z := ⟨_, rfl⟩
        have fz : Y.frozen? ⟨W0.heap.size, 0, none⟩ = false := by simp [World.frozen?, gB]
        have cz : Y.cell? ⟨W0.heap.size, 0, none⟩ = some (.int .i8 0) := by simp only [World.cell?, gB]; rfl
        have HRZ : Hid (RC w0 g (.slice (some ⟨b, off, none⟩) n c) B p bad Z) := by unfold Hid; rw [← hZ]; exact rc_set HR.out ⟨HG0.out.1, by have := HA0.out; have := HG0.out.2; omega⟩ _ _
        have HKZ : Hid (Kg g w Z) := by unfold Hid; rw [← hZ]; exact kg_set HK.out (by have := HA0.out; omega) _ _
        have gAZ : Z.heap[w.heap.size]? = some (.cells tz 45 (0, 0)) := by rw [← hZ, Below.heap_setCell _ _ _ _ (by show w.heap.size ≠ W0.heap.size; have := HA0.out; omega)]; exact gA
        have gBZ : Z.heap[W0.heap.size]? = some (.cells #[.int .i8 3, .string ⟨#[]⟩, .int .i64 0, .int .i64 (p : Int)] 45 (0, 0)) := by rw [← hZ, set_cells gB]; rfl
        have HC : Hid (Calls Tryz.prog 63 #[.pointer (some ⟨g, 0, none⟩)] Z fun e w' => ∃ s q bd, e = .returned (.string s) ∧ RC w0 g (.slice (some ⟨b, off, none⟩) n c) B q bd w' ∧ Kg g Z w' ∧ (∀ W', RC w0 g (.slice (some ⟨b, off, none⟩) n c) B q bd W' → Kg g w W' → Post (.returned (.agg #[.int .i8 3, .string s, .int .i64 0, .int .i64 (p : Int)])) W')) := by
          refine Calls.mono (ctext_ w0 g _ B p bad Z HRZ.out HIL.out) ?_
          intro e w' h9
          unfold TxP at h9
          cases hX : tx B p with
          | skip q => rw [hX] at h9; exact h9.elim
          | bad q =>
            rw [hX] at h9
            obtain ⟨s, i, rfl, h1, h2⟩ := h9
            exact ⟨_, _, _, rfl, h1, h2, fun W' h3 h4 => by rw [HPo.out, HST.out, hX]; exact ⟨_, _, _, _, rfl, h3, h4⟩⟩
          | tok t q =>
            rw [hX] at h9
            obtain ⟨rfl, h1, h2⟩ := h9
            refine ⟨_, _, _, rfl, h1, h2, fun W' h3 h4 => ?_⟩
            rw [HPo.out, HST.out, hX]
            obtain ⟨k1, k2⟩ := tx_kind hX
            refine ⟨?_, h3, h4⟩
            rw [k1, k2]
        clear HR HK gA gB
        go_wp2_with fail
        try rw [hZ]
        refine Calls.mono HC.out ?_
        rintro r V ⟨s, q, bd, rfl, hr, hk, hf⟩
        replace gAZ := kg_at hk gAZ (by have := HG0.out; omega)
        replace gBZ := kg_at hk gBZ (by have := HG0.out; have := HA0.out; omega)
        have HKV := HKZ.out.trans hk
        clear hk hZ HRZ HKZ HC
        obtain ⟨V2, hV2⟩ : ∃ V2, V.setCell ⟨W0.heap.size, 1, none⟩ (.string s) = V2 := ⟨_, rfl⟩
        have fv : V.frozen? ⟨W0.heap.size, 1, none⟩ = false := by simp [World.frozen?, gBZ]
        have cv : V.cell? ⟨W0.heap.size, 1, none⟩ = some (.string ⟨#[]⟩) := by simp only [World.cell?, gBZ]; rfl
        have gA : V2.heap[w.heap.size]? = some (.cells tz 45 (0, 0)) := by rw [← hV2, Below.heap_setCell _ _ _ _ (by show w.heap.size ≠ W0.heap.size; have := HA0.out; omega)]; exact gAZ
        have gB : V2.heap[W0.heap.size]? = some (.cells #[.int .i8 3, .string s, .int .i64 0, .int .i64 (p : Int)] 45 (0, 0)) := by rw [← hV2, set_cells gBZ]; rfl
        have HFB : Hid (Post (.returned (.agg #[.int .i8 3, .string s, .int .i64 0, .int .i64 (p : Int)])) (V2.setRow w.heap.size #[.int .i8 3, .string s, .int .i64 0, .int .i64 (p : Int)])) := by
          unfold Hid
          rw [← hV2]
          exact hf _ (rc_row (rc_set hr ⟨HG0.out.1, by have := HA0.out; have := HG0.out.2; omega⟩ _ _) HG0.out _) (kg_row (kg_set HKV (by have := HA0.out; omega) _ _) (Nat.le_refl _) _)
        have gBV : Hid (V.heap[W0.heap.size]? = some (.cells #[.int .i8 3, .string ⟨#[]⟩, .int .i64 0, .int .i64 (p : Int)] 45 (0, 0))) := gBZ
        clear hf hr HKV gAZ
        clear gBZ
        go_wp2_with (first | (refine wpList_world hV2 ?_; refine wpList_load_rowG (by rfl) 45 (.tmp 3) (by rfl) W0.heap.size (by rfl) 45 #[.int .i8 3, .string s, .int .i64 0, .int .i64 (p : Int)] (0, 0) _ gB Tryz.underlying45 (by rfl) infoTs ?_) | (refine wpList_load_rowG (by rfl) 45 (.tmp 3) (by rfl) W0.heap.size (by rfl) 45 #[.int .i8 3, .string s, .int .i64 0, .int .i64 (p : Int)] (0, 0) _ gB Tryz.underlying45 (by rfl) infoTs ?_) | (refine wpList_store_row (by rfl) 45 (.tmp 2) (.tmp 56) (by rfl) w.heap.size #[.int .i8 3, .string s, .int .i64 0, .int .i64 (p : Int)] (by rfl) (by rfl) 45 tz gA infoTs rfl (by simp [Value.oneCell']) ?_))
        refine bodyPost_ret (v := .agg #[.int .i8 3, .string s, .int .i64 0, .int .i64 (p : Int)]) (res_c0 (p := 2) (ty := 45) rfl _ _ w.heap.size 45 #[.int .i8 3, .string s, .int .i64 0, .int .i64 (p : Int)] (0, 0) _ rfl (setRow_heap _ _ _ _ _ _ gA) Tryz.underlying45 rfl infoTs) rfl ?_
        exact HFB.out
      · have h34 : (d == 34) = false := by simpa using h3
        have HST : Hid (stp B p = mkk B p) := by unfold Hid; rw [HSO.out, h1, h2, h34]; rfl
        clear h1 h2 h3 HSO HSM HDI hw2 hw3
        obtain ⟨Z, hZ⟩ : ∃ Z, Y.setCell ⟨W0.heap.size, 0, none⟩ (.int .i8 4) = Z := ⟨_, rfl⟩
        have fz : Y.frozen? ⟨W0.heap.size, 0, none⟩ = false := by simp [World.frozen?, gB]
        have cz : Y.cell? ⟨W0.heap.size, 0, none⟩ = some (.int .i8 0) := by simp only [World.cell?, gB]; rfl
        have HRZ : Hid (RC w0 g (.slice (some ⟨b, off, none⟩) n c) B p bad Z) := by unfold Hid; rw [← hZ]; exact rc_set HR.out ⟨HG0.out.1, by have := HA0.out; have := HG0.out.2; omega⟩ _ _
        have HKZ : Hid (Kg g w Z) := by unfold Hid; rw [← hZ]; exact kg_set HK.out (by have := HA0.out; omega) _ _
        have gAZ : Z.heap[w.heap.size]? = some (.cells tz 45 (0, 0)) := by rw [← hZ, Below.heap_setCell _ _ _ _ (by show w.heap.size ≠ W0.heap.size; have := HA0.out; omega)]; exact gA
        have gBZ : Z.heap[W0.heap.size]? = some (.cells #[.int .i8 4, .string ⟨#[]⟩, .int .i64 0, .int .i64 (p : Int)] 45 (0, 0)) := by rw [← hZ, set_cells gB]; rfl
        have HC : Hid (Calls Tryz.prog 64 #[.pointer (some ⟨g, 0, none⟩)] Z fun e w' => ∃ s q bd, e = .returned (.string s) ∧ RC w0 g (.slice (some ⟨b, off, none⟩) n c) B q bd w' ∧ Kg g Z w' ∧ (∀ W', RC w0 g (.slice (some ⟨b, off, none⟩) n c) B q bd W' → Kg g w W' → Post (.returned (.agg #[.int .i8 4, .string s, .int .i64 0, .int .i64 (p : Int)])) W')) := by
          refine Calls.mono (cmark_ w0 g _ B p bad Z HRZ.out) ?_
          rintro e w' (⟨i, h1, h2, h3, rfl, h4, h5⟩ | ⟨h1, rfl, h4, h5⟩)
          · exact ⟨_, _, _, rfl, h4, h5, fun W' h6 h7 => by rw [HPo.out, HST.out, mk_yes HIL.out h1 h2 h3]; exact ⟨rfl, h6, h7⟩⟩
          · exact ⟨_, _, _, rfl, h4, h5, fun W' h6 h7 => by rw [HPo.out, HST.out, mk_no HIL.out h1]; exact ⟨_, _, _, _, rfl, h6, h7⟩⟩
        clear HR HK gA gB
        go_wp2_with fail
        try rw [hZ]
        refine Calls.mono HC.out ?_
        rintro r V ⟨s, q, bd, rfl, hr, hk, hf⟩
        replace gAZ := kg_at hk gAZ (by have := HG0.out; omega)
        replace gBZ := kg_at hk gBZ (by have := HG0.out; have := HA0.out; omega)
        have HKV := HKZ.out.trans hk
        clear hk hZ HRZ HKZ HC
        obtain ⟨V2, hV2⟩ : ∃ V2, V.setCell ⟨W0.heap.size, 1, none⟩ (.string s) = V2 := ⟨_, rfl⟩
        have fv : V.frozen? ⟨W0.heap.size, 1, none⟩ = false := by simp [World.frozen?, gBZ]
        have cv : V.cell? ⟨W0.heap.size, 1, none⟩ = some (.string ⟨#[]⟩) := by simp only [World.cell?, gBZ]; rfl
        have gA : V2.heap[w.heap.size]? = some (.cells tz 45 (0, 0)) := by rw [← hV2, Below.heap_setCell _ _ _ _ (by show w.heap.size ≠ W0.heap.size; have := HA0.out; omega)]; exact gAZ
        have gB : V2.heap[W0.heap.size]? = some (.cells #[.int .i8 4, .string s, .int .i64 0, .int .i64 (p : Int)] 45 (0, 0)) := by rw [← hV2, set_cells gBZ]; rfl
        have HFB : Hid (Post (.returned (.agg #[.int .i8 4, .string s, .int .i64 0, .int .i64 (p : Int)])) (V2.setRow w.heap.size #[.int .i8 4, .string s, .int .i64 0, .int .i64 (p : Int)])) := by
          unfold Hid
          rw [← hV2]
          exact hf _ (rc_row (rc_set hr ⟨HG0.out.1, by have := HA0.out; have := HG0.out.2; omega⟩ _ _) HG0.out _) (kg_row (kg_set HKV (by have := HA0.out; omega) _ _) (Nat.le_refl _) _)
        have gBV : Hid (V.heap[W0.heap.size]? = some (.cells #[.int .i8 4, .string ⟨#[]⟩, .int .i64 0, .int .i64 (p : Int)] 45 (0, 0))) := gBZ
        clear hf hr HKV gAZ
        clear gBZ
        go_wp2_with (first | (refine wpList_world hV2 ?_; refine wpList_load_rowG (by rfl) 45 (.tmp 3) (by rfl) W0.heap.size (by rfl) 45 #[.int .i8 4, .string s, .int .i64 0, .int .i64 (p : Int)] (0, 0) _ gB Tryz.underlying45 (by rfl) infoTs ?_) | (refine wpList_load_rowG (by rfl) 45 (.tmp 3) (by rfl) W0.heap.size (by rfl) 45 #[.int .i8 4, .string s, .int .i64 0, .int .i64 (p : Int)] (0, 0) _ gB Tryz.underlying45 (by rfl) infoTs ?_) | (refine wpList_store_row (by rfl) 45 (.tmp 2) (.tmp 56) (by rfl) w.heap.size #[.int .i8 4, .string s, .int .i64 0, .int .i64 (p : Int)] (by rfl) (by rfl) 45 tz gA infoTs rfl (by simp [Value.oneCell']) ?_))
        refine bodyPost_ret (v := .agg #[.int .i8 4, .string s, .int .i64 0, .int .i64 (p : Int)]) (res_c0 (p := 2) (ty := 45) rfl _ _ w.heap.size 45 #[.int .i8 4, .string s, .int .i64 0, .int .i64 (p : Int)] (0, 0) _ rfl (setRow_heap _ _ _ _ _ _ gA) Tryz.underlying45 rfl infoTs) rfl ?_
        exact HFB.out
end TK
end Go.Proofs.YtkldllnnocdhbaaGreatDoor
namespace Go.Proofs.YtkldllnnocdhbaaGreatDoor
open Go.RowKit
attribute [local go_sem ↓] Go.wp_at_zero Go.wp_at_succ
namespace TK
theorem sub_one {B : List Int} {p : Nat} (h : p < B.length) : sub B p (p + 1) = [B.getD p 0] := by
  unfold sub
  rw [drop_at h, show p + 1 - p = 1 by omega]
  rfl
theorem sub_two {B : List Int} {p : Nat} (h : p + 1 < B.length) : sub B p (p + 2) = [B.getD p 0, B.getD (p + 1) 0] := by
  unfold sub
  rw [drop_at (show p < B.length by omega), drop_at h, show p + 2 - p = 2 by omega]
  rfl
theorem byt_one {B : List Int} (h : Byt B) (p : Nat) : Byt [B.getD p 0] := fun c hc => by
  obtain rfl : c = B.getD p 0 := by simpa using hc
  exact h.at p
theorem byt_two {B : List Int} (h : Byt B) (p q : Nat) : Byt [B.getD p 0, B.getD q 0] := fun c hc => by
  rcases (show c = B.getD p 0 ∨ c = B.getD q 0 by simpa using hc) with rfl | rfl
  · exact h.at p
  · exact h.at q
/- what is still to be tried, from the place e on down -/
def Mk (B : List Int) (p e : Nat) : Prop := (e = p + 2 ∧ p + 1 < B.length) ∨ (e = p + 1 ∧ mkk B p = if sgl (B.getD p 0) then .tok ⟨4, [B.getD p 0], 0, p⟩ (p + 1) else .bad p) ∨ (e = p ∧ mkk B p = .bad p)
theorem mk_start (B : List Int) (p : Nat) : Mk B p (if p + 2 ≤ B.length then p + 2 else p + 1) := by
  unfold Mk
  by_cases h2 : p + 2 ≤ B.length
  · rw [if_pos h2]; exact .inl ⟨rfl, h2⟩
  · rw [if_neg h2]
    refine .inr (.inl ⟨rfl, ?_⟩)
    unfold mkk
    rw [if_neg (fun h9 => h2 h9.1)]
/- what comes of a round -/
theorem mk_two {B : List Int} {p : Nat} (h : Byt B) (h2 : p + 1 < B.length) : ((mrkS (strOfNums (sub B p (p + 2))) = true → mkk B p = .tok ⟨4, sub B p (p + 2), 0, p⟩ (p + 2)) ∧ (mrkS (strOfNums (sub B p (p + 2))) = false → Mk B p (p + 1))) := by
  rw [sub_two h2, mrk_is (byt_two h p (p + 1))]
  refine ⟨fun h3 => ?_, fun h3 => .inr (.inl ⟨rfl, ?_⟩)⟩
  · unfold mkk; rw [if_pos ⟨h2, h3⟩]
  · unfold mkk; rw [if_neg (fun h4 => by rw [show two (B.getD p 0) (B.getD (p + 1) 0) = false from h3] at h4; exact absurd h4.2 (by decide))]
theorem mk_one {B : List Int} {p : Nat} (h : Byt B) (hp : p < B.length) (h2 : mkk B p = if sgl (B.getD p 0) then .tok ⟨4, [B.getD p 0], 0, p⟩ (p + 1) else .bad p) : ((mrkS (strOfNums (sub B p (p + 1))) = true → mkk B p = .tok ⟨4, sub B p (p + 1), 0, p⟩ (p + 1)) ∧ (mrkS (strOfNums (sub B p (p + 1))) = false → Mk B p p)) := by
  rw [sub_one hp, mrk_is (byt_one h p)]
  refine ⟨fun h3 => ?_, fun h3 => .inr (.inr ⟨rfl, ?_⟩)⟩
  · rw [h2, if_pos (show sgl (B.getD p 0) = true from h3)]
  · rw [h2, if_neg (by rw [show sgl (B.getD p 0) = false from h3]; decide)]
theorem mk_any {B : List Int} {p e : Nat} (h : Byt B) (hp : p < B.length) (hm : Mk B p e) (he : p < e) : (e ≤ B.length ∧ e ≤ p + 2) ∧ (mrkS (strOfNums (sub B p e)) = true → mkk B p = .tok ⟨4, sub B p e, 0, p⟩ e) ∧ (mrkS (strOfNums (sub B p e)) = false → Mk B p (e - 1)) := by
  rcases hm with ⟨rfl, h2⟩ | ⟨rfl, h2⟩ | ⟨rfl, h2⟩
  · exact ⟨⟨by omega, by omega⟩, mk_two h h2⟩
  · exact ⟨⟨by omega, by omega⟩, mk_one h hp h2⟩
  · omega
theorem mk_end {B : List Int} {p e : Nat} (hm : Mk B p e) (he : ¬ p < e) : e = p ∧ mkk B p = .bad p := by
  rcases hm with ⟨rfl, h2⟩ | ⟨rfl, h2⟩ | h2
  · omega
  · omega
  · exact h2
end TK
end Go.Proofs.YtkldllnnocdhbaaGreatDoor

