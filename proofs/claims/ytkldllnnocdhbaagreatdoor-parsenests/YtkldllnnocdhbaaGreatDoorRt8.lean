/-
  The document's text.
-/
import Derived.Test.YtkldllnnocdhbaaGreatDoorRn8
import Derived.Test.YtkldllnnocdhbaaGreatDoorTv8
import Derived.Deep.Cut
namespace Go.Proofs.YtkldllnnocdhbaaGreatDoor
open Go.RowKit
attribute [local go_sem ↓] Go.wp_at_zero Go.wp_at_succ
namespace TK
/- what text answers -/
def TxP (w0 : World) (g : Nat) (vb : Value) (B : List Int) (p : Nat) (bad : Int) (w : World) (e : Ending) (w' : World) : Prop := match tx B p with
  | .bad q => ∃ s i, e = .returned (.string s) ∧ RC w0 g vb B i (q : Int) w' ∧ Kg g w w'
  | .tok t q => e = .returned (.string (strOfNums t.text)) ∧ RC w0 g vb B q bad w' ∧ Kg g w w'
  | .skip _ => False
theorem rowst {w : World} {base e s n b j : Nat} {v u : Value} {xs : List Value} (h : w.ownsRow base e s v n xs) (hb : b < base) : (w.setCell ⟨b, j, none⟩ u).ownsRow base e s v n xs := by
  refine ⟨h.1, ?_⟩
  rcases h.2 with h | ⟨g, cap, cur, e1, e2, e3, e4⟩
  · exact .inl h
  · exact .inr ⟨g, cap, cur, e1, e2, by rw [Below.heap_setCell _ _ _ _ (by show g ≠ b; omega)]; exact e3, e4⟩
theorem rc_grown {w0 : World} {g : Nat} {vb : Value} {B : List Int} {p : Nat} {bad : Int} {W V : World} {o : Option Nat} {m : Nat} (h : RC w0 g vb B p bad W) (hg : w0.heap.size ≤ g ∧ g < m) (n : W.grownBy V o) (ho : ∀ k, o = some k → m ≤ k) : RC w0 g vb B p bad V := by
  refine ⟨?_, Below.grown h.up n h.up.size (fun k hk => by have := ho k hk; omega), h.le, h.bl, h.byt, h.len, h.at_le⟩
  rw [n.block g (Array.getElem?_eq_some_iff.1 h.hp).1 (fun e => by have := ho g e.symm; omega)]
  exact h.hp
theorem kg_grown {g : Nat} {w W V : World} {o : Option Nat} (h : Kg g w W) (n : W.grownBy V o) (ho : ∀ k, o = some k → w.heap.size ≤ k) : Kg g w V := by
  refine ⟨Nat.le_trans h.1 n.size, fun k hk hg => ?_⟩
  rw [n.block k (by have := h.1; omega) (fun e => by have := ho k e.symm; omega)]
  exact h.2 k hk hg
set_option maxRecDepth 100000 in
set_option maxHeartbeats 16000000 in
theorem ctext_ (w0 : World) (g : Nat) (vb : Value) (B : List Int) (p : Nat) (bad : Int) (w : World) (h : RC w0 g vb B p bad w) (hp0 : p < B.length) :
    Calls Tryz.prog 63 #[.pointer (some ⟨g, 0, none⟩)] w (TxP w0 g vb B p bad w) := by
  obtain ⟨Post, hPost⟩ : ∃ P : Ending → World → Prop, P = TxP w0 g vb B p bad w := ⟨_, rfl⟩
  rw [← hPost]
  obtain ⟨i5, hi5, z0, z1, z2⟩ := info_parts SM.info5
  have HGW : Hid (w0.heap.size ≤ g ∧ g < w.heap.size) := ⟨h.le, (Array.getElem?_eq_some_iff.1 h.hp).1⟩
  have HRW : Hid (RC w0 g vb B p bad w) := h
  have HT0 : Hid (Tx B p (p + 1) []) := tx_start hp0
  have hlen := h.len
  obtain ⟨a, c, hvb, hc, hce⟩ := bl_cells h.bl
  obtain ⟨b, off, rfl, hba⟩ := hce (by omega)
  have HBA : Hid (BA w0 b off B) := hba
  obtain ⟨n, hN⟩ : ∃ n, n = B.length := ⟨_, rfl⟩
  have HN : Hid (n = B.length) := hN
  rw [← hN] at hvb hc hlen hp0
  subst hvb
  have HBD : Hid (∀ W' s (q i : Nat), tx B p = .bad q → RC w0 g (.slice (some ⟨b, off, none⟩) n c) B i (q : Int) W' → Kg g w W' → Post (.returned (.string s)) W') := fun W' s q i h1 h2 h3 => by
    rw [hPost]
    unfold TxP
    rw [h1]
    exact ⟨s, i, rfl, h2, h3⟩
  have HTK : Hid (∀ W' t (q : Nat), tx B p = .tok t q → RC w0 g (.slice (some ⟨b, off, none⟩) n c) B q bad W' → Kg g w W' → Post (.returned (.string (strOfNums t.text))) W') := fun W' t q h1 h2 h3 => by
    rw [hPost]
    unfold TxP
    rw [h1]
    exact ⟨rfl, h2, h3⟩
  obtain ⟨x0, x1, x2⟩ := h.cells
  have hfr : w.frozen? ⟨g, 1, none⟩ = false := by simp [World.frozen?, h.hp]
  have ep : IntKind.i64.wrap ((p : Int) + 1) = ((p + 1 : Nat) : Int) := by rw [IntKind.wrap_i64]; omega
  have HR1 : Hid (RC w0 g (.slice (some ⟨b, off, none⟩) n c) B (p + 1) bad (w.setCell ⟨g, 1, none⟩ (.int .i64 ((p + 1 : Nat) : Int)))) := HRW.out.go (p + 1) (by omega)
  have HK1 : Hid (Kg g w (w.setCell ⟨g, 1, none⟩ (.int .i64 ((p + 1 : Nat) : Int)))) := (Kg.refl g w).set _ _
  clear h hba hce hN hPost HRW
  go_enter Tryz.func63, Tryz.ntmps63
  go_wp2_with fail
  go_loopw [4] (fun s4 W => ∃ (i k : Nat) (acc : List Int) (sa : Option Addr) (sc : Nat), i ≤ n ∧ s4 = .slice sa k sc ∧ acc.length = k ∧ k ≤ i ∧ W.ownsRow w.heap.size 5 1 (.slice sa k sc) k (bvs acc) ∧ RC w0 g (.slice (some ⟨b, off, none⟩) n c) B i bad W ∧ Kg g w W ∧ Tx B p i acc) (fun _ W => n - ptAt W g)
  case atStart => exact ⟨p + 1, 0, [], none, 0, by omega, rfl, rfl, by omega, World.ownsRow_nil _ _ _ _, HR1.out, HK1.out, HT0.out⟩
  case round =>
    clear HR1 HK1 HT0 x0 x1 x2 hfr ep
    obtain ⟨i, k, acc, sa, sc, hi, rfl, hk, hki, hrow, hrc, hkg, htx⟩ := hrel
    have HS : Hid (wr.ownsRow w.heap.size 5 1 (.slice sa k sc) k (bvs acc)) := hrow
    have HR : Hid (RC w0 g (.slice (some ⟨b, off, none⟩) n c) B i bad wr) := hrc
    have HK : Hid (Kg g w wr) := hkg
    have HT : Hid (Tx B p i acc) := htx
    have HM0 : Hid (ptAt wr g = i) := hrc.ptAt
    clear hrow hrc hkg htx
    obtain ⟨y0, y1, y2⟩ := HR.out.cells
    have f1 : wr.frozen? ⟨g, 1, none⟩ = false := by simp [World.frozen?, HR.out.hp]
    have f2 : wr.frozen? ⟨g, 2, none⟩ = false := by simp [World.frozen?, HR.out.hp]
    by_cases hlt : i < n
    · have HIL : Hid (i < B.length) := by have := HN.out; unfold Hid; omega
      have q1 : (((i : Nat) : Int) == (n : Int)) = false := by simp; omega
      have q2 : ¬ i = n := by omega
      have x1 := HBA.out wr HR.out.up i HIL.out
      have ei : IntKind.i64.wrap ((i : Int) + 1) = ((i + 1 : Nat) : Int) := by rw [IntKind.wrap_i64]; omega
      obtain ⟨d, hd⟩ : ∃ d, d = B.getD i 0 := ⟨_, rfl⟩
      have HD : Hid (d = B.getD i 0) := hd
      rw [← hd] at x1
      clear hd
      by_cases h10 : d = 10
      · have HE : Hid (tx B p = .bad p) := tx_nl HT.out HIL.out (by rw [← HD.out]; exact h10)
        have t10 : (d == 10) = true := by simpa using h10
        clear h10
        go_wp2_with fail
        go_quiet (fail)
        have HR2 : Hid (RC w0 g (.slice (some ⟨b, off, none⟩) n c) B i bad (wr.drewN nq)) := HR.out.kb ((Up.refl _).drewN nq)
        have HK2 : Hid (Kg g w (wr.drewN nq)) := HK.out.up ((Up.refl _).drewN nq)
        have HS2 : Hid ((wr.drewN nq).ownsRow w.heap.size 5 1 (.slice sa k sc) k (bvs acc)) := row_up HS.out ((Up.refl _).drewN nq)
        clear HR HK HS y0 y1 y2 f1 f2
        obtain ⟨X, hX⟩ : ∃ X9, wr.drewN nq = X9 := ⟨_, rfl⟩
        rw [hX] at HR2 HK2 HS2 ⊢
        clear hX
        have HR := HR2
        have HK := HK2
        have HS := HS2
        clear HR2 HK2 HS2
        obtain ⟨y0, y1, y2⟩ := HR.out.cells
        have f1 : X.frozen? ⟨g, 1, none⟩ = false := by simp [World.frozen?, HR.out.hp]
        have f2 : X.frozen? ⟨g, 2, none⟩ = false := by simp [World.frozen?, HR.out.hp]
        have HFB : Hid (Post (.returned (.string ⟨#[]⟩)) (X.setCell ⟨g, 2, none⟩ (.int .i64 (p : Int)))) := HBD.out _ _ p i HE.out (HR.out.fault _) (HK.out.set _ _)
        go_wp2_with fail
        exact HFB.out
      · have t10 : (d == 10) = false := by simpa using h10
        have t10b : (d != 10) = true := by simpa using h10
        go_wp2_with fail
        go_quiet (fail)
        clear x1
        have HR2 : Hid (RC w0 g (.slice (some ⟨b, off, none⟩) n c) B i bad (wr.drewN nq)) := HR.out.kb ((Up.refl _).drewN nq)
        have HK2 : Hid (Kg g w (wr.drewN nq)) := HK.out.up ((Up.refl _).drewN nq)
        have HS2 : Hid ((wr.drewN nq).ownsRow w.heap.size 5 1 (.slice sa k sc) k (bvs acc)) := row_up HS.out ((Up.refl _).drewN nq)
        clear HR HK HS y0 y1 y2 f1 f2
        obtain ⟨X, hX⟩ : ∃ X9, wr.drewN nq = X9 := ⟨_, rfl⟩
        rw [hX] at HR2 HK2 HS2 ⊢
        clear hX
        have HR := HR2
        have HK := HK2
        have HS := HS2
        clear HR2 HK2 HS2
        obtain ⟨y0, y1, y2⟩ := HR.out.cells
        have f1 : X.frozen? ⟨g, 1, none⟩ = false := by simp [World.frozen?, HR.out.hp]
        have f2 : X.frozen? ⟨g, 2, none⟩ = false := by simp [World.frozen?, HR.out.hp]
        have x1 := HBA.out X HR.out.up i HIL.out
        rw [← HD.out] at x1
        go_wp2_with fail
        go_quiet (fail)
        clear x1
        have HR2 : Hid (RC w0 g (.slice (some ⟨b, off, none⟩) n c) B i bad (X.drewN nq)) := HR.out.kb ((Up.refl _).drewN nq)
        have HK2 : Hid (Kg g w (X.drewN nq)) := HK.out.up ((Up.refl _).drewN nq)
        have HS2 : Hid ((X.drewN nq).ownsRow w.heap.size 5 1 (.slice sa k sc) k (bvs acc)) := row_up HS.out ((Up.refl _).drewN nq)
        clear HR HK HS y0 y1 y2 f1 f2
        obtain ⟨Y, hY⟩ : ∃ X9, X.drewN nq = X9 := ⟨_, rfl⟩
        rw [hY] at HR2 HK2 HS2 ⊢
        clear hY
        have HR := HR2
        have HK := HK2
        have HS := HS2
        clear HR2 HK2 HS2
        obtain ⟨y0, y1, y2⟩ := HR.out.cells
        have f1 : Y.frozen? ⟨g, 1, none⟩ = false := by simp [World.frozen?, HR.out.hp]
        have f2 : Y.frozen? ⟨g, 2, none⟩ = false := by simp [World.frozen?, HR.out.hp]
        by_cases h34 : d = 34
        · have HE : Hid (tx B p = if 64 < k then .bad p else .tok ⟨3, acc, 0, p⟩ (i + 1)) := by unfold Hid; rw [← hk]; exact tx_quote HT.out HIL.out (by rw [← HD.out]; exact h34)
          have t34 : (d == 34) = true := by simpa using h34
          obtain ⟨Z, hZ⟩ : ∃ Z, Y.setCell ⟨g, 1, none⟩ (.int .i64 ((i + 1 : Nat) : Int)) = Z := ⟨_, rfl⟩
          have hZ2 : Y.setCell ⟨g, 1, none⟩ (.int .i64 ((i : Int) + 1)) = Z := hZ
          have HR2 : Hid (RC w0 g (.slice (some ⟨b, off, none⟩) n c) B (i + 1) bad Z) := by unfold Hid; rw [← hZ]; exact HR.out.go (i + 1) (by have := HN.out; omega)
          have HK2 : Hid (Kg g w Z) := by unfold Hid; rw [← hZ]; exact HK.out.set _ _
          have HS2 : Hid (Z.ownsRow w.heap.size 5 1 (.slice sa k sc) k (bvs acc)) := by unfold Hid; rw [← hZ]; exact rowst HS.out HGW.out.2
          obtain ⟨v0, v1, v2⟩ := HR2.out.cells
          have f3 : Z.frozen? ⟨g, 2, none⟩ = false := by simp [World.frozen?, HR2.out.hp]
          clear h34 h10 t10 t10b
          by_cases hbig : 64 < k
          · have e2 : (64 : Int) < (k : Int) := by omega
            rw [if_pos hbig] at HE
            obtain ⟨Z3, hZ3⟩ : ∃ Z3, Z.setCell ⟨g, 2, none⟩ (.int .i64 (p : Int)) = Z3 := ⟨_, rfl⟩
            have hcv : (convert 26 9 (.slice sa k sc)).run Tryz.prog Z3 = .ok (.string (strOfNums acc)) Z3 := by rw [← hZ3]; exact conv_own (l := acc) (by rw [hk]; exact rowst HS2.out HGW.out.2)
            have HFB : Hid (Post (.returned (.string (strOfNums acc))) Z3) := by unfold Hid; rw [← hZ3]; exact HBD.out _ _ p (i + 1) HE.out (HR2.out.fault _) (HK2.out.set _ _)
            go_wp2_with fail
            exact HFB.out
          · have e2 : ¬ (64 : Int) < (k : Int) := by omega
            rw [if_neg hbig] at HE
            have hcv : (convert 26 9 (.slice sa k sc)).run Tryz.prog Z = .ok (.string (strOfNums acc)) Z := conv_own (l := acc) (by rw [hk]; exact HS2.out)
            have HFB : Hid (Post (.returned (.string (strOfNums acc))) Z) := HTK.out _ _ (i + 1) HE.out HR2.out HK2.out
            go_wp2_with fail
            exact HFB.out
        · have t34 : (d == 34) = false := by simpa using h34
          by_cases h92 : d = 92
          · have HQ : Hid ((¬ i + 1 < B.length → tx B p = .bad i) ∧ (i + 1 < B.length → (esc (B.getD (i + 1) 0) = false → tx B p = .bad i) ∧ (esc (B.getD (i + 1) 0) = true → Tx B p (i + 2) (acc ++ [B.getD (i + 1) 0])))) := tx_slash HT.out HIL.out (by rw [← HD.out]; exact h92)
            have t92 : (d == 92) = true := by simpa using h92
            clear h92 h34 h10 t10 t10b
            by_cases hl1 : i + 1 < n
            · have e2 : (((i : Int) + 1) == (n : Int)) = false := by simp; omega
              have e3 : (((i + 1 : Nat) : Int) == (n : Int)) = false := by simp; omega
              have e4 : ¬ i + 1 = n := by omega
              have HNX : Hid ((esc (B.getD (i + 1) 0) = false → tx B p = .bad i) ∧ (esc (B.getD (i + 1) 0) = true → Tx B p (i + 2) (acc ++ [B.getD (i + 1) 0]))) := HQ.out.2 (by have := HN.out; omega)
              have HX2 : Hid (∀ W, Up w0 W → W.cell? ⟨b, off + (i + 1), none⟩ = some (.int .u8 (B.getD (i + 1) 0))) := fun W u => HBA.out W u (i + 1) (by have := HN.out; omega)
              have x2 := HX2.out Y HR.out.up
              clear HQ
              generalize B.getD (i + 1) 0 = x at *
              have u1 : (i : Int) + 1 < (n : Int) := by omega
              have u2 : ((i : Int) + 1).toNat = i + 1 := by omega
              by_cases hx34 : x = 34
              · have w1 : (x != 34) = false := by simpa using hx34
                have HNX : Hid (Tx B p (i + 2) (acc ++ [x])) := HNX.out.2 (by rw [hx34]; decide)
                have r1 : ¬ x < 32 := by omega
                have r2 : ¬ (126 : Int) < x := by omega
                clear hx34
                go_wp2_with fail
                go_quiet (fail)
                clear x2
                have HR2 : Hid (RC w0 g (.slice (some ⟨b, off, none⟩) n c) B i bad (Y.drewN nq)) := HR.out.kb ((Up.refl _).drewN nq)
                have HK2 : Hid (Kg g w (Y.drewN nq)) := HK.out.up ((Up.refl _).drewN nq)
                have HS2 : Hid ((Y.drewN nq).ownsRow w.heap.size 5 1 (.slice sa k sc) k (bvs acc)) := row_up HS.out ((Up.refl _).drewN nq)
                clear HR HK HS y0 y1 y2 f1 f2
                obtain ⟨Q, hQ⟩ : ∃ X9, Y.drewN nq = X9 := ⟨_, rfl⟩
                rw [hQ] at HR2 HK2 HS2 ⊢
                clear hQ
                have HR := HR2
                have HK := HK2
                have HS := HS2
                clear HR2 HK2 HS2
                obtain ⟨y0, y1, y2⟩ := HR.out.cells
                have f1 : Q.frozen? ⟨g, 1, none⟩ = false := by simp [World.frozen?, HR.out.hp]
                have f2 : Q.frozen? ⟨g, 2, none⟩ = false := by simp [World.frozen?, HR.out.hp]
                obtain ⟨Z, hZ⟩ : ∃ Z, Q.setCell ⟨g, 1, none⟩ (.int .i64 ((i + 1 : Nat) : Int)) = Z := ⟨_, rfl⟩
                have hZ2 : Q.setCell ⟨g, 1, none⟩ (.int .i64 ((i : Int) + 1)) = Z := hZ
                have HR2 : Hid (RC w0 g (.slice (some ⟨b, off, none⟩) n c) B (i + 1) bad Z) := by unfold Hid; rw [← hZ]; exact HR.out.go (i + 1) (by have := HN.out; omega)
                have HK2 : Hid (Kg g w Z) := by unfold Hid; rw [← hZ]; exact HK.out.set _ _
                have HS2 : Hid (Z.ownsRow w.heap.size 5 1 (.slice sa k sc) k (bvs acc)) := by unfold Hid; rw [← hZ]; exact rowst HS.out HGW.out.2
                go_upto_region 18 with fail
                try rw [hZ2]
                try rw [hZ]
                clear hZ hZ2 HR HK HS y0 y1 y2 f1 f2
                have HR := HR2
                have HK := HK2
                have HS := HS2
                clear HR2 HK2 HS2
                obtain ⟨y0, y1, y2⟩ := HR.out.cells
                have f1 : Z.frozen? ⟨g, 1, none⟩ = false := by simp [World.frozen?, HR.out.hp]
                have f2 : Z.frozen? ⟨g, 2, none⟩ = false := by simp [World.frozen?, HR.out.hp]
                have x2 := HX2.out Z HR.out.up
                go_quiet (fail)
                clear x2
                have HR2 : Hid (RC w0 g (.slice (some ⟨b, off, none⟩) n c) B (i + 1) bad (Z.drewN nq)) := HR.out.kb ((Up.refl _).drewN nq)
                have HK2 : Hid (Kg g w (Z.drewN nq)) := HK.out.up ((Up.refl _).drewN nq)
                have HS2 : Hid ((Z.drewN nq).ownsRow w.heap.size 5 1 (.slice sa k sc) k (bvs acc)) := row_up HS.out ((Up.refl _).drewN nq)
                clear HR HK HS y0 y1 y2 f1 f2
                obtain ⟨Z5, hZ5⟩ : ∃ X9, Z.drewN nq = X9 := ⟨_, rfl⟩
                rw [hZ5] at HR2 HK2 HS2 ⊢
                clear hZ5
                have HR := HR2
                have HK := HK2
                have HS := HS2
                clear HR2 HK2 HS2
                obtain ⟨y0, y1, y2⟩ := HR.out.cells
                have f1 : Z5.frozen? ⟨g, 1, none⟩ = false := by simp [World.frozen?, HR.out.hp]
                have f2 : Z5.frozen? ⟨g, 2, none⟩ = false := by simp [World.frozen?, HR.out.hp]
                have HV : Hid ((Z5.alloc (.cells #[.int .u8 x] 5)).ownsRow w.heap.size 5 1 (.slice sa k sc) k (bvs acc)) := World.ownsRow.alloc HS.out _
                have HMW : Hid (∀ q u, [Value.int .u8 x][q]? = some u → (Z5.alloc (.cells #[.int .u8 x] 5)).cell? ((⟨Z5.heap.size, 0, none⟩ : Addr).add q) = some u) := World.news_of_block (cs := #[.int .u8 x]) (t := 5) (fr := (0, 0)) (heap_alloc_new Z5 _)
                have HSZ : Hid (w.heap.size ≤ (Z5.alloc (.cells #[.int .u8 x] 5)).heap.size) := by
                  have h9 := HK.out.1
                  unfold Hid
                  simp
                  omega
                have HF : Hid (∀ v' V, V.ownsRow w.heap.size 5 1 v' (k + 1) (bvs acc ++ [.int .u8 x]) → (Z5.alloc (.cells #[.int .u8 x] 5)).grownBy V (Value.slice sa k sc).ownBlock → V.ownsRow w.heap.size 5 1 v' (k + 1) (bvs (acc ++ [x])) ∧ RC w0 g (.slice (some ⟨b, off, none⟩) n c) B (i + 1) bad V ∧ Kg g w V) := fun v' V n1 n2 => by
                  have hR9 := HR.out.kb ((Up.refl Z5).alloc (.cells #[.int .u8 x] 5))
                  have hK9 := HK.out.up ((Up.refl Z5).alloc (.cells #[.int .u8 x] 5))
                  exact ⟨by rw [show bvs (acc ++ [x]) = bvs acc ++ [.int .u8 x] by simp [bvs]]; exact n1, rc_grown hR9 HGW.out n2 (fun k9 hk => (World.ownsRow.lt HV.out k9 hk).1), kg_grown hK9 n2 (fun k9 hk => (World.ownsRow.lt HV.out k9 hk).1)⟩
                have e8 : IntKind.i64.wrap ((i + 1 : Nat) + 1 : Int) = ((i + 2 : Nat) : Int) := by rw [IntKind.wrap_i64]; omega
                clear HS
                go_wp2_with (at_builtin; go_loud (refine wpList_append_own _ (by rfl) (.tmp 150) (.tmp 152) 26 (by rfl) w.heap.size 5 i5 _ 1 1 Tryz.underlying26 hi5 z0 z1 z2 (by rfl) (by decide) (.slice sa k sc) k (bvs acc) (by rfl) HV.out ⟨Z5.heap.size, 0, none⟩ 1 1 [Value.int .u8 x] (by rfl) (by rfl) HMW.out (by simp [Value.oneCell']) (by unfold maxLen; omega) (by omega) HSZ.out ?_; intro v' V hin hg1 _; have HG : Hid (V.ownsRow w.heap.size 5 1 v' (k + 1) (bvs (acc ++ [x])) ∧ RC w0 g (.slice (some ⟨b, off, none⟩) n c) B (i + 1) bad V ∧ Kg g w V) := HF.out v' V hin hg1; obtain ⟨fa, fc, hva⟩ : ∃ a c, v' = Value.slice a (k + 1) c := row_val hin; subst hva; clear hin hg1 y0 y1 y2 f1 f2; obtain ⟨y0, y1, y2⟩ := HG.out.2.1.cells; have f1 : V.frozen? ⟨g, 1, none⟩ = false := (by simp [World.frozen?, HG.out.2.1.hp])))
                go_roundw
                case rel => exact ⟨i + 2, k + 1, acc ++ [x], fa, fc, by omega, rfl, by rw [List.length_append, hk]; rfl, by omega, rowst HG.out.1 HGW.out.2, HG.out.2.1.go (i + 2) (by have := HN.out; omega), HG.out.2.2.set _ _, HNX.out⟩
                case measure =>
                  have hcst : ((i + 1 : Nat) : Int) + 1 = ((i + 2 : Nat) : Int) := by omega
                  first | rw [hcst] | rw [show ((i : Nat) : Int) + 1 + 1 = ((i + 2 : Nat) : Int) by omega]
                  rw [(HG.out.2.1.go (i + 2) (by have := HN.out; omega)).ptAt, HM0.out]
                  omega
              · by_cases hx92 : x = 92
                · have w1 : (x != 34) = true := by simpa using hx34
                  have w2 : (x != 92) = false := by simpa using hx92
                  have HNX : Hid (Tx B p (i + 2) (acc ++ [x])) := HNX.out.2 (by rw [hx92]; decide)
                  have r1 : ¬ x < 32 := by omega
                  have r2 : ¬ (126 : Int) < x := by omega
                  clear hx34 hx92
                  go_wp2_with fail
                  go_quiet (fail)
                  clear x2
                  have HR2 : Hid (RC w0 g (.slice (some ⟨b, off, none⟩) n c) B i bad (Y.drewN nq)) := HR.out.kb ((Up.refl _).drewN nq)
                  have HK2 : Hid (Kg g w (Y.drewN nq)) := HK.out.up ((Up.refl _).drewN nq)
                  have HS2 : Hid ((Y.drewN nq).ownsRow w.heap.size 5 1 (.slice sa k sc) k (bvs acc)) := row_up HS.out ((Up.refl _).drewN nq)
                  clear HR HK HS y0 y1 y2 f1 f2
                  obtain ⟨Q, hQ⟩ : ∃ X9, Y.drewN nq = X9 := ⟨_, rfl⟩
                  rw [hQ] at HR2 HK2 HS2 ⊢
                  clear hQ
                  have HR := HR2
                  have HK := HK2
                  have HS := HS2
                  clear HR2 HK2 HS2
                  obtain ⟨y0, y1, y2⟩ := HR.out.cells
                  have f1 : Q.frozen? ⟨g, 1, none⟩ = false := by simp [World.frozen?, HR.out.hp]
                  have f2 : Q.frozen? ⟨g, 2, none⟩ = false := by simp [World.frozen?, HR.out.hp]
                  obtain ⟨Z, hZ⟩ : ∃ Z, Q.setCell ⟨g, 1, none⟩ (.int .i64 ((i + 1 : Nat) : Int)) = Z := ⟨_, rfl⟩
                  have hZ2 : Q.setCell ⟨g, 1, none⟩ (.int .i64 ((i : Int) + 1)) = Z := hZ
                  have HR2 : Hid (RC w0 g (.slice (some ⟨b, off, none⟩) n c) B (i + 1) bad Z) := by unfold Hid; rw [← hZ]; exact HR.out.go (i + 1) (by have := HN.out; omega)
                  have HK2 : Hid (Kg g w Z) := by unfold Hid; rw [← hZ]; exact HK.out.set _ _
                  have HS2 : Hid (Z.ownsRow w.heap.size 5 1 (.slice sa k sc) k (bvs acc)) := by unfold Hid; rw [← hZ]; exact rowst HS.out HGW.out.2
                  go_upto_region 18 with fail
                  try rw [hZ2]
                  try rw [hZ]
                  clear hZ hZ2 HR HK HS y0 y1 y2 f1 f2
                  have HR := HR2
                  have HK := HK2
                  have HS := HS2
                  clear HR2 HK2 HS2
                  obtain ⟨y0, y1, y2⟩ := HR.out.cells
                  have f1 : Z.frozen? ⟨g, 1, none⟩ = false := by simp [World.frozen?, HR.out.hp]
                  have f2 : Z.frozen? ⟨g, 2, none⟩ = false := by simp [World.frozen?, HR.out.hp]
                  have x2 := HX2.out Z HR.out.up
                  go_quiet (fail)
                  clear x2
                  have HR2 : Hid (RC w0 g (.slice (some ⟨b, off, none⟩) n c) B (i + 1) bad (Z.drewN nq)) := HR.out.kb ((Up.refl _).drewN nq)
                  have HK2 : Hid (Kg g w (Z.drewN nq)) := HK.out.up ((Up.refl _).drewN nq)
                  have HS2 : Hid ((Z.drewN nq).ownsRow w.heap.size 5 1 (.slice sa k sc) k (bvs acc)) := row_up HS.out ((Up.refl _).drewN nq)
                  clear HR HK HS y0 y1 y2 f1 f2
                  obtain ⟨Z5, hZ5⟩ : ∃ X9, Z.drewN nq = X9 := ⟨_, rfl⟩
                  rw [hZ5] at HR2 HK2 HS2 ⊢
                  clear hZ5
                  have HR := HR2
                  have HK := HK2
                  have HS := HS2
                  clear HR2 HK2 HS2
                  obtain ⟨y0, y1, y2⟩ := HR.out.cells
                  have f1 : Z5.frozen? ⟨g, 1, none⟩ = false := by simp [World.frozen?, HR.out.hp]
                  have f2 : Z5.frozen? ⟨g, 2, none⟩ = false := by simp [World.frozen?, HR.out.hp]
                  have HV : Hid ((Z5.alloc (.cells #[.int .u8 x] 5)).ownsRow w.heap.size 5 1 (.slice sa k sc) k (bvs acc)) := World.ownsRow.alloc HS.out _
                  have HMW : Hid (∀ q u, [Value.int .u8 x][q]? = some u → (Z5.alloc (.cells #[.int .u8 x] 5)).cell? ((⟨Z5.heap.size, 0, none⟩ : Addr).add q) = some u) := World.news_of_block (cs := #[.int .u8 x]) (t := 5) (fr := (0, 0)) (heap_alloc_new Z5 _)
                  have HSZ : Hid (w.heap.size ≤ (Z5.alloc (.cells #[.int .u8 x] 5)).heap.size) := by
                    have h9 := HK.out.1
                    unfold Hid
                    simp
                    omega
                  have HF : Hid (∀ v' V, V.ownsRow w.heap.size 5 1 v' (k + 1) (bvs acc ++ [.int .u8 x]) → (Z5.alloc (.cells #[.int .u8 x] 5)).grownBy V (Value.slice sa k sc).ownBlock → V.ownsRow w.heap.size 5 1 v' (k + 1) (bvs (acc ++ [x])) ∧ RC w0 g (.slice (some ⟨b, off, none⟩) n c) B (i + 1) bad V ∧ Kg g w V) := fun v' V n1 n2 => by
                    have hR9 := HR.out.kb ((Up.refl Z5).alloc (.cells #[.int .u8 x] 5))
                    have hK9 := HK.out.up ((Up.refl Z5).alloc (.cells #[.int .u8 x] 5))
                    exact ⟨by rw [show bvs (acc ++ [x]) = bvs acc ++ [.int .u8 x] by simp [bvs]]; exact n1, rc_grown hR9 HGW.out n2 (fun k9 hk => (World.ownsRow.lt HV.out k9 hk).1), kg_grown hK9 n2 (fun k9 hk => (World.ownsRow.lt HV.out k9 hk).1)⟩
                  have e8 : IntKind.i64.wrap ((i + 1 : Nat) + 1 : Int) = ((i + 2 : Nat) : Int) := by rw [IntKind.wrap_i64]; omega
                  clear HS
                  go_wp2_with (at_builtin; go_loud (refine wpList_append_own _ (by rfl) (.tmp 150) (.tmp 152) 26 (by rfl) w.heap.size 5 i5 _ 1 1 Tryz.underlying26 hi5 z0 z1 z2 (by rfl) (by decide) (.slice sa k sc) k (bvs acc) (by rfl) HV.out ⟨Z5.heap.size, 0, none⟩ 1 1 [Value.int .u8 x] (by rfl) (by rfl) HMW.out (by simp [Value.oneCell']) (by unfold maxLen; omega) (by omega) HSZ.out ?_; intro v' V hin hg1 _; have HG : Hid (V.ownsRow w.heap.size 5 1 v' (k + 1) (bvs (acc ++ [x])) ∧ RC w0 g (.slice (some ⟨b, off, none⟩) n c) B (i + 1) bad V ∧ Kg g w V) := HF.out v' V hin hg1; obtain ⟨fa, fc, hva⟩ : ∃ a c, v' = Value.slice a (k + 1) c := row_val hin; subst hva; clear hin hg1 y0 y1 y2 f1 f2; obtain ⟨y0, y1, y2⟩ := HG.out.2.1.cells; have f1 : V.frozen? ⟨g, 1, none⟩ = false := (by simp [World.frozen?, HG.out.2.1.hp])))
                  go_roundw
                  case rel => exact ⟨i + 2, k + 1, acc ++ [x], fa, fc, by omega, rfl, by rw [List.length_append, hk]; rfl, by omega, rowst HG.out.1 HGW.out.2, HG.out.2.1.go (i + 2) (by have := HN.out; omega), HG.out.2.2.set _ _, HNX.out⟩
                  case measure =>
                    have hcst : ((i + 1 : Nat) : Int) + 1 = ((i + 2 : Nat) : Int) := by omega
                    first | rw [hcst] | rw [show ((i : Nat) : Int) + 1 + 1 = ((i + 2 : Nat) : Int) by omega]
                    rw [(HG.out.2.1.go (i + 2) (by have := HN.out; omega)).ptAt, HM0.out]
                    omega
                · have w1 : (x != 34) = true := by simpa using hx34
                  have w2 : (x != 92) = true := by simpa using hx92
                  have HE : Hid (tx B p = .bad i) := HNX.out.1 (by unfold esc; simp [hx34, hx92])
                  clear hx34 hx92 HNX
                  go_wp2_with fail
                  go_quiet (fail)
                  clear x2
                  have HR2 : Hid (RC w0 g (.slice (some ⟨b, off, none⟩) n c) B i bad (Y.drewN nq)) := HR.out.kb ((Up.refl _).drewN nq)
                  have HK2 : Hid (Kg g w (Y.drewN nq)) := HK.out.up ((Up.refl _).drewN nq)
                  have HS2 : Hid ((Y.drewN nq).ownsRow w.heap.size 5 1 (.slice sa k sc) k (bvs acc)) := row_up HS.out ((Up.refl _).drewN nq)
                  clear HR HK HS y0 y1 y2 f1 f2
                  obtain ⟨Q, hQ⟩ : ∃ X9, Y.drewN nq = X9 := ⟨_, rfl⟩
                  rw [hQ] at HR2 HK2 HS2 ⊢
                  clear hQ
                  have HR := HR2
                  have HK := HK2
                  have HS := HS2
                  clear HR2 HK2 HS2
                  obtain ⟨y0, y1, y2⟩ := HR.out.cells
                  have f1 : Q.frozen? ⟨g, 1, none⟩ = false := by simp [World.frozen?, HR.out.hp]
                  have f2 : Q.frozen? ⟨g, 2, none⟩ = false := by simp [World.frozen?, HR.out.hp]
                  have HFB : Hid (Post (.returned (.string ⟨#[]⟩)) (Q.setCell ⟨g, 2, none⟩ (.int .i64 (i : Int)))) := HBD.out _ _ i i HE.out (HR.out.fault _) (HK.out.set _ _)
                  go_wp2_with fail
                  exact HFB.out
            · have e2 : (((i : Int) + 1) == (n : Int)) = true := by simp; omega
              have e3 : (((i + 1 : Nat) : Int) == (n : Int)) = true := by simp; omega
              have HE : Hid (tx B p = .bad i) := HQ.out.1 (by have := HN.out; omega)
              clear HQ
              go_wp2_with fail
              go_quiet (fail)
              have HR2 : Hid (RC w0 g (.slice (some ⟨b, off, none⟩) n c) B i bad (Y.drewN nq)) := HR.out.kb ((Up.refl _).drewN nq)
              have HK2 : Hid (Kg g w (Y.drewN nq)) := HK.out.up ((Up.refl _).drewN nq)
              have HS2 : Hid ((Y.drewN nq).ownsRow w.heap.size 5 1 (.slice sa k sc) k (bvs acc)) := row_up HS.out ((Up.refl _).drewN nq)
              clear HR HK HS y0 y1 y2 f1 f2
              obtain ⟨Q, hQ⟩ : ∃ X9, Y.drewN nq = X9 := ⟨_, rfl⟩
              rw [hQ] at HR2 HK2 HS2 ⊢
              clear hQ
              have HR := HR2
              have HK := HK2
              have HS := HS2
              clear HR2 HK2 HS2
              obtain ⟨y0, y1, y2⟩ := HR.out.cells
              have f1 : Q.frozen? ⟨g, 1, none⟩ = false := by simp [World.frozen?, HR.out.hp]
              have f2 : Q.frozen? ⟨g, 2, none⟩ = false := by simp [World.frozen?, HR.out.hp]
              have HFB : Hid (Post (.returned (.string ⟨#[]⟩)) (Q.setCell ⟨g, 2, none⟩ (.int .i64 (i : Int)))) := HBD.out _ _ i i HE.out (HR.out.fault _) (HK.out.set _ _)
              go_wp2_with fail
              exact HFB.out
          · have t92 : (d == 92) = false := by simpa using h92
            obtain ⟨q3, q4⟩ := tx_other HT.out HIL.out (by rw [← HD.out]; exact h10) (by rw [← HD.out]; exact h34) (by rw [← HD.out]; exact h92)
            rw [← HD.out] at q3 q4
            have HNX : Hid ((pln d = false → tx B p = .bad i) ∧ (pln d = true → Tx B p (i + 1) (acc ++ [d]))) := ⟨q3, q4⟩
            clear q3 q4 h10 h34 h92 t10 t10b
            by_cases r1 : d < 32
            · have HE : Hid (tx B p = .bad i) := HNX.out.1 (by unfold pln; simp; omega)
              have HFB : Hid (Post (.returned (.string ⟨#[]⟩)) (Y.setCell ⟨g, 2, none⟩ (.int .i64 (i : Int)))) := HBD.out _ _ i i HE.out (HR.out.fault _) (HK.out.set _ _)
              go_wp2_with fail
              exact HFB.out
            · by_cases r2 : (126 : Int) < d
              · have HE : Hid (tx B p = .bad i) := HNX.out.1 (by unfold pln; simp; omega)
                have HFB : Hid (Post (.returned (.string ⟨#[]⟩)) (Y.setCell ⟨g, 2, none⟩ (.int .i64 (i : Int)))) := HBD.out _ _ i i HE.out (HR.out.fault _) (HK.out.set _ _)
                go_wp2_with fail
                exact HFB.out
              · have HNX : Hid (Tx B p (i + 1) (acc ++ [d])) := HNX.out.2 (by unfold pln; simp; omega)
                have HV : Hid ((Y.alloc (.cells #[.int .u8 d] 5)).ownsRow w.heap.size 5 1 (.slice sa k sc) k (bvs acc)) := World.ownsRow.alloc HS.out _
                have HMW : Hid (∀ q u, [Value.int .u8 d][q]? = some u → (Y.alloc (.cells #[.int .u8 d] 5)).cell? ((⟨Y.heap.size, 0, none⟩ : Addr).add q) = some u) := World.news_of_block (cs := #[.int .u8 d]) (t := 5) (fr := (0, 0)) (heap_alloc_new Y _)
                have HSZ : Hid (w.heap.size ≤ (Y.alloc (.cells #[.int .u8 d] 5)).heap.size) := by
                  have h9 := HK.out.1
                  unfold Hid
                  simp
                  omega
                have HF : Hid (∀ v' V, V.ownsRow w.heap.size 5 1 v' (k + 1) (bvs acc ++ [.int .u8 d]) → (Y.alloc (.cells #[.int .u8 d] 5)).grownBy V (Value.slice sa k sc).ownBlock → V.ownsRow w.heap.size 5 1 v' (k + 1) (bvs (acc ++ [d])) ∧ RC w0 g (.slice (some ⟨b, off, none⟩) n c) B (i) bad V ∧ Kg g w V) := fun v' V n1 n2 => by
                  have hR9 := HR.out.kb ((Up.refl Y).alloc (.cells #[.int .u8 d] 5))
                  have hK9 := HK.out.up ((Up.refl Y).alloc (.cells #[.int .u8 d] 5))
                  exact ⟨by rw [show bvs (acc ++ [d]) = bvs acc ++ [.int .u8 d] by simp [bvs]]; exact n1, rc_grown hR9 HGW.out n2 (fun k9 hk => (World.ownsRow.lt HV.out k9 hk).1), kg_grown hK9 n2 (fun k9 hk => (World.ownsRow.lt HV.out k9 hk).1)⟩
                have e8 : IntKind.i64.wrap ((i : Nat) + 1 : Int) = ((i + 1 : Nat) : Int) := by rw [IntKind.wrap_i64]; omega
                clear HS
                go_wp2_with (at_builtin; go_loud (refine wpList_append_own _ (by rfl) (.tmp 150) (.tmp 152) 26 (by rfl) w.heap.size 5 i5 _ 1 1 Tryz.underlying26 hi5 z0 z1 z2 (by rfl) (by decide) (.slice sa k sc) k (bvs acc) (by rfl) HV.out ⟨Y.heap.size, 0, none⟩ 1 1 [Value.int .u8 d] (by rfl) (by rfl) HMW.out (by simp [Value.oneCell']) (by unfold maxLen; omega) (by omega) HSZ.out ?_; intro v' V hin hg1 _; have HG : Hid (V.ownsRow w.heap.size 5 1 v' (k + 1) (bvs (acc ++ [d])) ∧ RC w0 g (.slice (some ⟨b, off, none⟩) n c) B (i) bad V ∧ Kg g w V) := HF.out v' V hin hg1; obtain ⟨fa, fc, hva⟩ : ∃ a c, v' = Value.slice a (k + 1) c := row_val hin; subst hva; clear hin hg1 y0 y1 y2 f1 f2; obtain ⟨y0, y1, y2⟩ := HG.out.2.1.cells; have f1 : V.frozen? ⟨g, 1, none⟩ = false := (by simp [World.frozen?, HG.out.2.1.hp])))
                go_roundw
                case rel => exact ⟨i + 1, k + 1, acc ++ [d], fa, fc, by omega, rfl, by rw [List.length_append, hk]; rfl, by omega, rowst HG.out.1 HGW.out.2, HG.out.2.1.go (i + 1) (by have := HN.out; omega), HG.out.2.2.set _ _, HNX.out⟩
                case measure =>
                  have hcst : ((i : Nat) : Int) + 1 = ((i + 1 : Nat) : Int) := by omega
                  first | rw [hcst] | rw [show ((i : Nat) : Int) + 1 + 1 = ((i + 1 : Nat) : Int) by omega]
                  rw [(HG.out.2.1.go (i + 1) (by have := HN.out; omega)).ptAt, HM0.out]
                  omega
    · obtain rfl : n = i := by omega
      have HE : Hid (tx B p = .bad p) := tx_end HT.out (by have := HN.out; omega)
      go_wp2_with fail
      go_quiet (fail)
      have HR2 : Hid (RC w0 g (.slice (some ⟨b, off, none⟩) n c) B n bad (wr.drewN nq)) := HR.out.kb ((Up.refl _).drewN nq)
      have HK2 : Hid (Kg g w (wr.drewN nq)) := HK.out.up ((Up.refl _).drewN nq)
      have HS2 : Hid ((wr.drewN nq).ownsRow w.heap.size 5 1 (.slice sa k sc) k (bvs acc)) := row_up HS.out ((Up.refl _).drewN nq)
      clear HR HK HS y0 y1 y2 f1 f2
      obtain ⟨X, hX⟩ : ∃ X9, wr.drewN nq = X9 := ⟨_, rfl⟩
      rw [hX] at HR2 HK2 HS2 ⊢
      clear hX
      have HR := HR2
      have HK := HK2
      have HS := HS2
      clear HR2 HK2 HS2
      obtain ⟨y0, y1, y2⟩ := HR.out.cells
      have f1 : X.frozen? ⟨g, 1, none⟩ = false := by simp [World.frozen?, HR.out.hp]
      have f2 : X.frozen? ⟨g, 2, none⟩ = false := by simp [World.frozen?, HR.out.hp]
      have HFB : Hid (Post (.returned (.string ⟨#[]⟩)) (X.setCell ⟨g, 2, none⟩ (.int .i64 (p : Int)))) := HBD.out _ _ p n HE.out (HR.out.fault _) (HK.out.set _ _)
      go_wp2_with fail
      exact HFB.out
end TK
end Go.Proofs.YtkldllnnocdhbaaGreatDoor
