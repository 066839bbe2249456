/-
  The walk over a list.
-/
import Derived.Test.YtgahdppcdeefaaaKw9
namespace Go.Proofs.Ytgahdppcdeefaaa
open Go.RowKit
attribute [local go_sem ↓] Go.wp_at_zero Go.wp_at_succ
namespace TR
theorem walk_en {w0 W : World} {g m p d : Nat} {v : Value} {x : Wt} {S : List Wt} {l : List Nd} (hrs : RS l p (x :: S)) (hm : x.many ≠ 0) (hws : WS w0 W g m v p ({ x with many := x.many - 1 } :: S) d) (ht : TP w0 m tab) (hl : NLs w0 v l) (hb : ∀ a ∈ l, Byt a.text) {n : Nat} (hN : n = l.length) (hn : n ≤ 1000000) (hS : S.length ≤ 3 * p) (hp : p ≤ n) : Calls Try.prog 34 #[.pointer (some ⟨g, 0, none⟩), .agg #[.int .i64 (x.plc.takes : Int), .int .i64 (x.plc.rank : Int), .int .i64 ((x.many : Int) - 1), .int .i64 (x.opn : Int), .bool x.rest]] W (EnR w0 g m v p ({ x with many := x.many - 1 } :: S) d l { x with many := x.many - 1 }) := by
  subst hN
  obtain ⟨hx1, hx2, -, -⟩ := hrs.1 x (by simp)
  have q1 : l.length ≤ 1099511627776 := Nat.le_trans hn (by decide)
  have q2 : ({ x with many := x.many - 1 } :: S : List Wt).length ≤ 1000000000000 := by
    rw [List.length_cons]
    omega
  have q3 : x.plc.takes < 4294967296 := Nat.lt_of_lt_of_le hx1 (by decide)
  have q4 : x.opn ≤ 1099511627776000 := by
    have h1 : p * (l.length + 3) ≤ 1000000 * (l.length + 3) := Nat.mul_le_mul_right _ (by omega)
    omega
  have h9 := enter_ { x with many := x.many - 1 } w0 g m v p ({ x with many := x.many - 1 } :: S) d l W hws ht hl hb q1 q2 hp q3 q4 (fun h8 => (hrs.2 x S rfl).1 h8 hm)
  rw [show ((x.many : Int) - 1) = ((x.many - 1 : Nat) : Int) by omega]
  exact h9
theorem EnR.cases {w0 w' : World} {g m p d : Nat} {v : Value} {S : List Wt} {l : List Nd} {x : Wt} {e : Ending} (h : EnR w0 g m v p S d l x e w') : (e = .returned (.bool false) ∧ WS w0 w' g m v p S d ∧ (l.drop p = [] ∨ ∃ a, l.drop p = a :: l.drop (p + 1) ∧ ent a (l.drop (p + 1)) x = none)) ∨ ∃ a o ws, l.drop p = a :: l.drop (p + 1) ∧ ent a (l.drop (p + 1)) x = some (o, ws) ∧ e = .returned (.bool true) ∧ WS w0 w' g m v p (ws ++ S) (max d o) := by
  unfold EnR at h
  have e1 : l.drop (p + 1) = (l.drop p).drop 1 := by rw [List.drop_drop]
  cases hd : l.drop p with
  | nil => rw [hd] at h; exact .inl ⟨h.1, h.2, .inl rfl⟩
  | cons a r =>
    have e2 : l.drop (p + 1) = r := by rw [e1, hd]; rfl
    rw [hd] at h
    simp only at h
    rw [e2]
    cases he : ent a r x with
    | none => rw [he] at h; exact .inl ⟨h.1, h.2, .inr ⟨a, rfl, he⟩⟩
    | some q =>
      obtain ⟨o, ws⟩ := q
      rw [he] at h
      exact .inr ⟨a, o, ws, rfl, he, h.1, h.2⟩
theorem walk_no {l : List Nd} {p d : Nat} {x : Wt} {S : List Wt} (hm : x.many ≠ 0) (h : wlk l = go (l.drop p) (x :: S) d p) (h2 : l.drop p = [] ∨ ∃ a, l.drop p = a :: l.drop (p + 1) ∧ ent a (l.drop (p + 1)) { x with many := x.many - 1 } = none) : wlk l = (0, p, false) := by
  rcases h2 with h2 | ⟨a, h2, h3⟩
  · rw [h, h2, go_nil hm]
  · have h3 : ent a (l.drop (p + 1)) x = none := h3
    rw [h, h2, go_on hm, h3]
theorem walk_on {l : List Nd} {p d o : Nat} {a : Nd} {x : Wt} {S ws : List Wt} (hm : x.many ≠ 0) (h : wlk l = go (l.drop p) (x :: S) d p) (h2 : l.drop p = a :: l.drop (p + 1)) (h3 : ent a (l.drop (p + 1)) { x with many := x.many - 1 } = some (o, ws)) : wlk l = go (l.drop (p + 1)) (ws ++ { x with many := x.many - 1 } :: S) (max d o) (p + 1) := by
  have h3 : ent a (l.drop (p + 1)) x = some (o, ws) := h3
  rw [h, h2, go_on hm, h3]
theorem walk_rel {l : List Nd} {p n o : Nat} {a : Nd} {x : Wt} {S ws : List Wt} (hN : n = l.length) (hks : ∀ a ∈ l, a.kids ≤ 9223372036854775807) (hm : x.many ≠ 0) (hrs : RS l p (x :: S)) (hS : S.length ≤ 3 * p) (h2 : l.drop p = a :: l.drop (p + 1)) (h3 : ent a (l.drop (p + 1)) { x with many := x.many - 1 } = some (o, ws)) : RS l (p + 1) (ws ++ { x with many := x.many - 1 } :: S) ∧ (ws ++ { x with many := x.many - 1 } :: S).length ≤ 3 * (p + 1) + 1 ∧ p + 1 ≤ n ∧ (ws ++ { x with many := x.many - 1 } :: S).length ≤ S.length + 4 := by
  have h3 : ent a (l.drop (p + 1)) x = some (o, ws) := h3
  have hmem : a ∈ l := List.mem_of_mem_drop (i := p) (by rw [h2]; simp)
  obtain ⟨k1, k2⟩ := hrs.ent hm h2 (hks a hmem) h3
  have hlt : p < l.length := by
    rcases Nat.lt_or_ge p l.length with h9 | h9
    · exact h9
    · rw [List.drop_eq_nil_of_le h9] at h2
      cases h2
  refine ⟨k1, ?_, by omega, ?_⟩
  · rw [List.length_append, List.length_cons]
    omega
  · rw [List.length_append, List.length_cons]
    omega
theorem walk_mz {w0 W W2 : World} {g m p d2 n : Nat} {v : Value} {S T : List Wt} (h1 : mz g n W = 4 * (n - p) + (S.length + 1)) (h2 : WS w0 W2 g m v (p + 1) T d2) (h3 : p + 1 ≤ n) (h4 : T.length ≤ S.length + 4) : mz g n W2 < mz g n W := by
  have h5 := mz_is (n := n) h2
  omega
set_option maxRecDepth 100000 in
set_option maxHeartbeats 16000000 in
theorem walk_ (v : Value) (l : List Nd) (w : World) (hv : NLs w v l) (hb : ∀ a ∈ l, Byt a.text) (hks : ∀ a ∈ l, a.kids ≤ 9223372036854775807) (hn : l.length ≤ 1000000) : Calls Try.prog 28 #[v] w fun e w' => e = .returned (.tuple #[.int .i64 ((wlk l).1 : Int), .int .i64 ((wlk l).2.1 : Int), .bool (wlk l).2.2]) ∧ Up w w' := by
  obtain ⟨Post, hPost⟩ : ∃ P : Ending → World → Prop, P = fun e w' => e = .returned (.tuple #[.int .i64 ((wlk l).1 : Int), .int .i64 ((wlk l).2.1 : Int), .bool (wlk l).2.2]) ∧ Up w w' := ⟨_, rfl⟩
  rw [← hPost]
  have HPo : Hid (Post = fun e w' => e = .returned (.tuple #[.int .i64 ((wlk l).1 : Int), .int .i64 ((wlk l).2.1 : Int), .bool (wlk l).2.2]) ∧ Up w w') := hPost
  clear hPost
  obtain ⟨va, vc, hvv, -, -⟩ := nl_at hv
  obtain ⟨n, hN⟩ : ∃ n, n = l.length := ⟨_, rfl⟩
  have HN : Hid (n = l.length) := hN
  rw [← hN] at hvv
  subst hvv
  have HB : Hid (∀ a ∈ l, Byt a.text) := hb
  have HNW : Hid (NLs w (.slice va n vc) l) := hv
  have HKS : Hid (∀ a ∈ l, a.kids ≤ 9223372036854775807) := hks
  clear hb hv hN hks
  go_enter Try.func28, Try.ntmps28
  go_wp2_with fail
  go_step3
  go_wp2_with fail
  refine Calls.mono (kinds_ w) ?_
  rintro r w0 ⟨m, rfl, htp, u0⟩
  have HTP : Hid (TP w0 m tab) := htp
  have HU0 : Hid (Up w w0) := u0
  have HNL : Hid (NLs w0 (.slice va n vc) l) := HNW.out.up u0
  obtain ⟨g, hg⟩ : ∃ g, g = w0.heap.size := ⟨_, rfl⟩
  obtain ⟨W1, hW1⟩ : ∃ W1, w0.alloc (.cells #[.map (some m), .slice va n vc, .int .i64 0, .slice none 0 0, .int .i64 0] 50) = W1 := ⟨_, rfl⟩
  have HW1 : Hid (WS w0 W1 g m (.slice va n vc) 0 [] 0) := by
    refine ⟨.slice none 0 0, ?_, World.ownsRow_nil _ _ _ _, ?_, by rw [hg]; exact Nat.le_refl _⟩
    · unfold WK
      rw [← hW1, hg]
      exact heap_alloc_new _ _
    · rw [← hW1]
      exact (Up.refl _).alloc _
  have HPU : Hid (Calls Try.prog 33 #[.pointer (some ⟨g, 0, none⟩), .agg #[.int .i64 1, .int .i64 0, .int .i64 1, .int .i64 0, .bool false]] W1 fun e w' => e = .returned (.tuple #[]) ∧ WS w0 w' g m (.slice va n vc) 0 [wroot] 0) := push_ wroot w0 g m _ 0 [] 0 W1 HW1.out (by simp)
  rw [hg] at HPU
  have HG : Hid (g = w0.heap.size) := hg
  have HX1 : Hid (w0.alloc (.cells #[.map (some m), .slice va n vc, .int .i64 0, .slice none 0 0, .int .i64 0] 50) = W1) := hW1
  clear htp u0 HNW HW1 hg hW1
  go_wp2_with fail
  refine calls_w HX1.out (Calls.mono HPU.out ?_)
  rintro r W2 ⟨rfl, hws2⟩
  rw [← HG.out] at hws2 ⊢
  have HW2 : Hid (WS w0 W2 g m (.slice va n vc) 0 [wroot] 0) := hws2
  clear hws2 HPU HX1
  go_wp2_with fail
  try go_step3
  try go_wp2_with fail
  try go_step3
  try go_wp2_with fail
  go_loopw [6] (fun s6 W => ∃ (p : Nat) (S : List Wt) (d : Nat), s6 = s6 ∧ WS w0 W g m (.slice va n vc) p S d ∧ p ≤ n ∧ S.length ≤ 3 * p + 1 ∧ RS l p S ∧ wlk l = go (l.drop p) S d p) (fun _ W => mz g n W)
  case atStart => exact ⟨0, [wroot], 0, rfl, HW2.out, Nat.zero_le _, by simp, rs_root l, rfl⟩
  case round =>
    obtain ⟨p, S, d, -, hws, hp, hSl, hrs, hgo⟩ := hrel
    have HRS : Hid (RS l p S) := hrs
    have HGO : Hid (wlk l = go (l.drop p) S d p) := hgo
    have HUW : Hid (Up w wr) := by obtain ⟨_, _, _, h9, _⟩ := hws; exact HU0.out.trans h9
    have hn9 : n ≤ 1000000 := by have := HN.out; omega
    clear hrs hgo HW2
    cases S with
    | nil =>
      obtain ⟨wv, hk, hr, -, -⟩ := hws
      obtain ⟨ra, rc, rfl⟩ := row_val hr
      obtain ⟨-, -, c2, c3, c4⟩ := hk.cells
      have c3 : wr.cell? ⟨g, 3, none⟩ = some (.slice ra 0 rc) := c3
      clear hk hr
      by_cases hpn : p < n
      · have hpn2 : (p : Int) < (n : Int) := by omega
        have HE : Hid (wlk l = (0, p, false)) := by
          unfold Hid
          rw [HGO.out, List.drop_eq_getElem_cons (by have := HN.out; omega)]
          rfl
        go_wp2_with fail
        go_quiet (fail)
        go_wp2_with fail
        rw [HPo.out, HE.out]
        exact ⟨rfl, HUW.out.drewN _⟩
      · have hpn2 : ¬ (p : Int) < (n : Int) := by omega
        have HE : Hid (wlk l = (d, 0, true)) := by
          unfold Hid
          rw [HGO.out, List.drop_eq_nil_of_le (by have := HN.out; omega)]
          rfl
        go_wp2_with fail
        rw [HPo.out, HE.out]
        exact ⟨rfl, HUW.out⟩
    | cons x S =>
      obtain ⟨gr, cr, hne, hgr, hg, hu, hcr, hk, hrw⟩ := ws_at hws
      obtain ⟨y0, y1, y2, y3, y4, fz⟩ := wtc_cells hrw
      have c3 := hk.cells.2.2.2.1
      have c2 := hk.cells.2.2.1
      have fg : ∀ j, wr.frozen? ⟨g, j, none⟩ = false := fun j => by have h9 := hk; unfold WK at h9; simp [World.frozen?, h9]
      have HMZ : Hid (mz g n wr = 4 * (n - p) + (S.length + 1)) := by
        unfold Hid
        rw [mz_is hws]
        rfl
      have hSl : S.length ≤ 3 * p := by simpa using hSl
      obtain ⟨M, hM⟩ : ∃ M, M = S.length := ⟨_, rfl⟩
      have ewM : IntKind.i64.wrap (((M + 1 : Nat) : Int) - 1) = (M : Int) := by rw [IntKind.wrap_i64]; omega
      have ewM2 : IntKind.i64.wrap ((M : Int) + 1 - 1) = (M : Int) := by rw [IntKind.wrap_i64]; omega
      have ewM3 : wrap64 (M : Int) = (M : Int) := by first | (unfold wrap64; omega) | (show IntKind.i64.wrap (M : Int) = _; rw [IntKind.wrap_i64]; omega)
      by_cases hm : x.many = 0
      · have HWP : Hid (WS w0 (wr.setCell ⟨g, 3, none⟩ (.slice (some ⟨gr, 0, none⟩) S.length cr)) g m (.slice va n vc) p S d) := WS.popped hk hrw hu hg
        have HGO : Hid (wlk l = go (l.drop p) S d p) := by unfold Hid; rw [HGO.out, go_pop hm]
        have HRS : Hid (RS l p S) := HRS.out.tail
        rw [hm] at y2
        rw [← hM] at c3 y0 y1 y2 y3 y4 hcr HMZ HWP
        have HML : Hid (M = S.length) := hM
        have HSL : Hid (S.length ≤ 3 * p) := hSl
        clear hk hrw hm hws hM hu hSl hgr hg hn9
        go_wp2_with fail
        go_roundw
        case rel => exact ⟨p, S, d, trivial, HWP.out, hp, Nat.le_succ_of_le HSL.out, HRS.out, HGO.out⟩
        case measure =>
          have h9 := mz_is (n := n) HWP.out
          have h8 := HMZ.out
          have h7 := HML.out
          omega
      · have hm2 : ((x.many : Int) == 0) = false := by simp; omega
        have hm3 : ¬ (x.many : Int) = 0 := by omega
        obtain ⟨W5, hW5⟩ : ∃ W5, wr.setCell ⟨gr, S.length * 5 + 2, none⟩ (.int .i64 ((x.many : Int) - 1)) = W5 := ⟨_, rfl⟩
        have HW5 : Hid (WS w0 W5 g m (.slice va n vc) p ({ x with many := x.many - 1 } :: S) d) := by unfold Hid; rw [← hW5]; exact WS.less hne hgr hm hk hrw hu hg
        have ewx : IntKind.i64.wrap ((x.many : Int) - 1) = (x.many : Int) - 1 := by have h9 := (HRS.out.1 x (by simp)).2.2.2; rw [IntKind.wrap_i64]; omega
        have HEN : Hid (Calls Try.prog 34 #[.pointer (some ⟨g, 0, none⟩), .agg #[.int .i64 (x.plc.takes : Int), .int .i64 (x.plc.rank : Int), .int .i64 ((x.many : Int) - 1), .int .i64 (x.opn : Int), .bool x.rest]] W5 (EnR w0 g m (.slice va n vc) p ({ x with many := x.many - 1 } :: S) d l { x with many := x.many - 1 })) := by unfold Hid; exact walk_en HRS.out hm HW5.out HTP.out HNL.out HB.out HN.out hn9 hSl hp
        have HMZ : Hid (mz g n wr = 4 * (n - p) + (S.length + 1)) := HMZ.out
        have z0 : W5.cell? ⟨gr, S.length * 5, none⟩ = some (.int .i64 (x.plc.takes : Int)) := by rw [← hW5]; rw [cell_off (by omega)]; exact y0
        have z1 : W5.cell? ⟨gr, S.length * 5 + 1, none⟩ = some (.int .i64 (x.plc.rank : Int)) := by rw [← hW5]; rw [cell_off (by omega)]; exact y1
        have z2 : W5.cell? ⟨gr, S.length * 5 + 2, none⟩ = some (.int .i64 ((x.many : Int) - 1)) := by
          obtain ⟨gr2, cr2, _, _, _, _, _, hk2, hrw2⟩ := ws_at HW5.out
          have hk5 : WK W5 g m (.slice va n vc) p (.slice (some ⟨gr, 0, none⟩) (S.length + 1) cr) d := by
            unfold WK at hk ⊢
            rw [← hW5, Below.heap_setCell _ _ _ _ (Ne.symm hne)]
            exact hk
          have e9 := hk5.cells.2.2.2.1
          rw [hk2.cells.2.2.2.1] at e9
          simp only [Option.some.injEq, Value.slice.injEq, Addr.mk.injEq, and_true, true_and] at e9
          have h9 := (wtc_cells hrw2).2.2.1
          rw [e9.1] at h9
          rw [h9, show ((x.many : Int) - 1) = ((x.many - 1 : Nat) : Int) by omega]
        have z3 : W5.cell? ⟨gr, S.length * 5 + 3, none⟩ = some (.int .i64 (x.opn : Int)) := by rw [← hW5]; rw [cell_off (by omega)]; exact y3
        have z4 : W5.cell? ⟨gr, S.length * 5 + 4, none⟩ = some (.bool x.rest) := by rw [← hW5]; rw [cell_off (by omega)]; exact y4
        rw [← hM] at c3 y0 y1 y2 y3 y4 hcr hW5 z0 z1 z2 z3 z4
        have HML : Hid (M = S.length) := hM
        have HSL : Hid (S.length ≤ 3 * p) := hSl
        have HN9 : Hid (n ≤ 1000000) := hn9
        have HXM : Hid (x.many ≠ 0) := hm
        clear hk hrw hws hM hu hSl hgr hg hn9 hm
        go_wp2_with fail
        first | refine calls_w hW5 (Calls.mono HEN.out ?_) | refine Calls.mono HEN.out ?_
        intro r W6 hr
        have HX : Hid (x.many ≠ 0) := HXM.out
        clear z0 z1 z2 z3 z4 y0 y1 y2 y3 y4 c2 c3 fg fz HEN hW5 HW5 hm2 hm3 ewx ewM ewM2 ewM3
        rcases EnR.cases hr with ⟨rfl, hws6, h6⟩ | ⟨a, o, ws, h6, h7, rfl, hws6⟩
        · have HE : Hid (wlk l = (0, p, false)) := walk_no HX.out HGO.out h6
          have HU6 : Hid (Up w W6) := by obtain ⟨_, _, _, h9, _⟩ := hws6; exact HU0.out.trans h9
          have c2 : W6.cell? ⟨g, 2, none⟩ = some (.int .i64 (p : Int)) := by obtain ⟨_, h9, _⟩ := hws6; exact h9.cells.2.2.1
          clear hr hws6 h6
          go_wp2_with fail
          go_quiet (fail)
          go_wp2_with fail
          rw [HPo.out, HE.out]
          exact ⟨rfl, HU6.out.drewN _⟩
        · obtain ⟨k1, k2, k3, k4⟩ := walk_rel HN.out HKS.out HX.out HRS.out HSL.out h6 h7
          have HK1 : Hid (RS l (p + 1) (ws ++ { x with many := x.many - 1 } :: S)) := k1
          have HK2 : Hid ((ws ++ { x with many := x.many - 1 } :: S).length ≤ 3 * (p + 1) + 1) := k2
          have HK3 : Hid (p + 1 ≤ n) := k3
          have HK4 : Hid ((ws ++ { x with many := x.many - 1 } :: S).length ≤ S.length + 4) := k4
          have HG2 : Hid (wlk l = go (l.drop (p + 1)) (ws ++ { x with many := x.many - 1 } :: S) (max d o) (p + 1)) := walk_on HX.out HGO.out h6 h7
          have c2 : W6.cell? ⟨g, 2, none⟩ = some (.int .i64 (p : Int)) := by obtain ⟨_, h9, _⟩ := hws6; exact h9.cells.2.2.1
          have fg6 : ∀ j, W6.frozen? ⟨g, j, none⟩ = false := fun j => by obtain ⟨_, h9, _⟩ := hws6; unfold WK at h9; simp [World.frozen?, h9]
          have HW7 : Hid (WS w0 (W6.setCell ⟨g, 2, none⟩ (.int .i64 ((p : Int) + 1))) g m (.slice va n vc) (p + 1) (ws ++ { x with many := x.many - 1 } :: S) (max d o)) := hws6.on (p + 1)
          have hpi : IntKind.i64.wrap ((p : Int) + 1) = (p : Int) + 1 := by have := HN9.out; rw [IntKind.wrap_i64]; omega
          clear hr hws6 h6 h7 k1 k2 k3 k4 HGO HRS
          go_wp2_with fail
          go_roundw
          case rel => exact ⟨p + 1, _, _, trivial, HW7.out, HK3.out, HK2.out, HK1.out, HG2.out⟩
          case measure => exact walk_mz HMZ.out HW7.out HK3.out HK4.out
end TR
end Go.Proofs.Ytgahdppcdeefaaa
