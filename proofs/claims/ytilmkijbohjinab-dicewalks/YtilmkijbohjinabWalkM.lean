/-
  All gone through, left early, one within another: the law walked.
-/
import Derived.Test.YtilmkijbohjinabWalkS
namespace Go.Proofs.Ytilmkijbohjinab
open Go.RowKit
attribute [local go_sem] Oper.semAt_some

set_option maxHeartbeats 1000000 in
theorem walksLow (sd : Nat) (x y : Int) (w : World) (h : x < 0 ∨ (0 ≤ x ∧ 200 < x) ∨ (0 ≤ x ∧ x ≤ 200 ∧ y < 0) ∨ (0 ≤ x ∧ x ≤ 200 ∧ 0 ≤ y ∧ 200 < y)) :
    Calls Try.prog 3 #[.int .u64 sd, .int .i64 x, .int .i64 y] w fun e w' => e = .returned (.bool true) ∧ Up w w' := by
  obtain ⟨W1, hW1⟩ : ∃ W, W = ((w.alloc (.cells #[.int .i64 x] 3)).alloc (.cells #[.int .i64 y] 3)).alloc (.cells #[.bool false] 4) := ⟨_, rfl⟩
  have u1 : Up w W1 := by rw [hW1]; exact (((Up.refl w).alloc _).alloc _).alloc _
  have hb : Box W1 (w.heap.size + 2) (.bool false) 4 := by
    rw [hW1]
    have := heap_alloc_last ((w.alloc (.cells #[.int .i64 x] 3)).alloc (.cells #[.int .i64 y] 3)) (.cells #[.bool false] 4)
    rw [World.size_alloc, World.size_alloc] at this
    exact this
  have hfin : ∀ w5, Up W1 w5 → w5.cell? ⟨w.heap.size + 2, 0, none⟩ = some (.bool false) ∧ w5.frozen? ⟨w.heap.size + 2, 0, none⟩ = false ∧ (w5.setCell ⟨w.heap.size + 2, 0, none⟩ (.bool true)).cell? ⟨w.heap.size + 2, 0, none⟩ = some (.bool true) ∧ Up w (w5.setCell ⟨w.heap.size + 2, 0, none⟩ (.bool true)) := by
    intro w5 u
    have hb5 : Box w5 (w.heap.size + 2) (.bool false) 4 := u.heap hb
    exact ⟨cell_of_one hb5, free_of_one hb5, cell_of_one (hb5.set (.bool true)), Below.setCell (u1.trans u) (by show w.heap.size ≤ w.heap.size + 2; omega) _⟩
  have HF : Hid (∀ w5, Up W1 w5 → _) := hfin
  clear hfin hb u1
  rcases h with h | ⟨h0, h⟩ | ⟨h0, h1, h⟩ | ⟨h0, h1, h2, h⟩
  all_goals (
    go_enter Try.func3, Try.ntmps3
    go_wp2_with fail
    rw [← hW1]
    refine (lives _).mono ?_
    rintro e w5 ⟨rfl, u5⟩
    obtain ⟨k1, k2, k3, k4⟩ := HF.out w5 u5
    go_wp2
    refine bodyPost_ret (v := .bool true) (by simp [results, Try.f3, go_sem, k3]) rfl ⟨rfl, k4⟩)
theorem Die.uniq {W : World} {b z z' : Nat} (h : Die W b z) (h' : Die W b z') : z = z' := by
  have e := h.cell0
  rw [h'.cell0] at e
  simp only [Option.some.injEq, Value.int.injEq, true_and] at e
  omega
def OutI (w : World) (n f s c m : Nat) (k : Nat) (W : World) : Prop := ∃ kk z, St w n f s kk z z W ∧ Box W c (.pointer (some ⟨n + 3, 0, none⟩)) 24 ∧ kk ≤ m ∧ k = m + 1 - kk
def OutX (w : World) (n f s : Nat) (e : Nat) (cd : Code) (W : World) : Prop := cd = .exit e ∧ ∃ kk z, St w n f s kk z z W
def OutJ (w : World) (n f s c m D : Nat) (k : Nat) (W : World) : Prop := OutI w n f s c m k W ∧ W.heap[D]? = some (.deferred (some []))
theorem stays_deferred {W W' : World} {B D : Nat} {o : Obj} {row : Option Nat} (h : W.heap[D]? = some o) (hD : D < B) (hg : W.grownBy W' row) (hr : ∀ r, row = some r → B ≤ r ∧ ∃ o : Obj, W.heap[r]? = some o ∧ o.isCells = false) : W'.heap[D]? = some o :=
  (hg.block D (Array.getElem?_eq_some_iff.1 h).1 (fun e => by have := (hr D e.symm).1; omega)).trans h
def onlyN (Q : Exit → Act → World → Prop) : Exit → Act → World → Prop
  | .normal, a, w => Q .normal a w
  | _, _, _ => False
theorem wpIn_onlyN {F : Fence} {m : Nat} {P : Program} {c : Code} {Q : Exit → Act → World → Prop} {a : Act} {w : World} (h : c.wpIn F m P (onlyN Q) a w) : c.wpIn F m P Q a w := by
  refine wpIn_mono h ?_
  intro e a' w' hq
  cases e with
  | normal => exact hq
  | ret => exact hq.elim
  | exit _ => exact hq.elim
  | goto _ => exact hq.elim
  | panic _ => exact hq.elim
  | outgrown => exact hq.elim
def startW (w : World) (f s sd : Nat) : World := ((((((((((w.alloc (.cells #[.int .i64 (f : Int)] 3)).alloc (.cells #[.int .i64 (s : Int)] 3)).alloc (.cells #[.bool false] 4)).alloc (.cells #[.int .u64 (sd : Nat), .bool true] 32)).alloc (.cells #[.pointer (some ⟨w.heap.size + 3, 0, none⟩)] 24)).alloc (.cells #[.int .u64 (sd : Nat), .bool true] 32)).alloc (.cells #[.pointer (some ⟨w.heap.size + 5, 0, none⟩)] 24)).alloc (.cells #[.pointer (some ⟨w.heap.size + 3, 0, none⟩)] 24)).alloc (.cells #[.int .i64 ((0 : Nat) : Int)] 3)).alloc (.cells #[.pointer (some ⟨w.heap.size + 3, 0, none⟩)] 24))
theorem st_start (w : World) (f s sd : Nat) : St w w.heap.size f s 0 sd sd (startW w f s sd) ∧ Box (startW w f s sd) (w.heap.size + 9) (.pointer (some ⟨w.heap.size + 3, 0, none⟩)) 24 ∧ (startW w f s sd).heap.size = w.heap.size + 10 := by
  have hb : Below w.heap.size w (startW w f s sd) := (((((((((((Up.refl w).alloc _).alloc _).alloc _).alloc _).alloc _).alloc _).alloc _).alloc _).alloc _).alloc _)
  have hh : (startW w f s sd).heap = (((((((((w.heap.push (.cells #[.int .i64 (f : Int)] 3)).push (.cells #[.int .i64 (s : Int)] 3)).push (.cells #[.bool false] 4)).push (.cells #[.int .u64 (sd : Nat), .bool true] 32)).push (.cells #[.pointer (some ⟨w.heap.size + 3, 0, none⟩)] 24)).push (.cells #[.int .u64 (sd : Nat), .bool true] 32)).push (.cells #[.pointer (some ⟨w.heap.size + 5, 0, none⟩)] 24)).push (.cells #[.pointer (some ⟨w.heap.size + 3, 0, none⟩)] 24)).push (.cells #[.int .i64 ((0 : Nat) : Int)] 3)).push (.cells #[.pointer (some ⟨w.heap.size + 3, 0, none⟩)] 24) := rfl
  have hl : (startW w f s sd).heap.toList = w.heap.toList ++ [.cells #[.int .i64 (f : Int)] 3, .cells #[.int .i64 (s : Int)] 3, .cells #[.bool false] 4, .cells #[.int .u64 (sd : Nat), .bool true] 32, .cells #[.pointer (some ⟨w.heap.size + 3, 0, none⟩)] 24, .cells #[.int .u64 (sd : Nat), .bool true] 32, .cells #[.pointer (some ⟨w.heap.size + 5, 0, none⟩)] 24, .cells #[.pointer (some ⟨w.heap.size + 3, 0, none⟩)] 24, .cells #[.int .i64 ((0 : Nat) : Int)] 3, .cells #[.pointer (some ⟨w.heap.size + 3, 0, none⟩)] 24] := by
    rw [hh]; simp only [Array.toList_push, List.append_assoc, List.cons_append, List.nil_append]
  have look : ∀ k, (startW w f s sd).heap[w.heap.size + k]? = _ := fun k => by
    rw [← Array.getElem?_toList, hl, List.getElem?_append_right (by simp), Array.length_toList, Nat.add_sub_cancel_left]
  exact ⟨⟨⟨look 0, look 1, look 2⟩, ⟨look 3, look 4⟩, ⟨look 5, look 6⟩, look 8, hb⟩, look 9, by rw [hh]; simp⟩
set_option maxHeartbeats 2000000 in
theorem walksMain (sd f s : Nat) (w : World) (hf : f ≤ 200) (hs : s ≤ 200) :
    Calls Try.prog 3 #[.int .u64 sd, .int .i64 f, .int .i64 s] w fun e w' => e = .returned (.bool true) ∧ Up w w' := by
  have hnf := func_nil
  obtain ⟨Post, hPost⟩ : ∃ P : Ending → World → Prop, P = fun e w' => e = .returned (.bool true) ∧ Up w w' := ⟨_, rfl⟩
  rw [← hPost]
  have HPost : Hid (Post = fun e w' => e = .returned (.bool true) ∧ Up w w') := hPost
  clear hPost
  refine (callsIn_wide (n := 9)).1 ?_
  refine callsIn_of_wp_marks Try.func3 rfl trivial ?_ rfl
  simp only [Try.ntmps3, List.size_toArray, List.length_cons, List.length_nil, Nat.reduceAdd, Nat.reduceSub, Array.replicate_succ, Array.replicate_zero, List.push_toArray, List.append_toArray, List.nil_append, List.cons_append]
  refine wpIn_wide.2 ?_
  go_wp2_with fail
  refine (new sd _).mono ?_
  rintro e w1 ⟨rfl, rfl⟩
  unfold dieA
  go_wp2_with fail
  refine (new sd _).mono ?_
  rintro e w1 ⟨rfl, rfl⟩
  unfold dieA
  go_wp2_with fail
  refine (allPp _ _).mono ?_
  rintro e w1 ⟨rfl, rfl⟩
  go_wp2_with fail
  refine (allPp _ _).mono ?_
  rintro e w1 ⟨rfl, rfl⟩
  go_wp2_with fail
  simp only [Nat.add_assoc, Nat.reduceAdd]
  obtain ⟨hst, hbx, hsz⟩ := st_start w f s sd
  obtain ⟨WA, hWA⟩ : ∃ W, W = startW w f s sd := ⟨_, rfl⟩
  rw [← hWA] at hst hbx hsz
  have hWA' := hWA
  unfold startW at hWA'
  rw [show ((0 : Nat) : Int) = 0 from rfl] at hWA'
  rw [← hWA']
  clear hWA hWA'
  obtain ⟨n, hn⟩ : ∃ n, n = w.heap.size := ⟨_, rfl⟩
  rw [← hn] at hst hbx hsz ⊢
  have HN : Hid (n = w.heap.size) := hn
  clear hn
  have HST : Hid (St w n f s 0 sd sd WA) := hst
  have HBX : Hid (Box WA (n + 9) (.pointer (some ⟨n + 3, 0, none⟩)) 24) := hbx
  have HSZ : Hid (WA.heap.size = n + 10) := hsz
  clear hst hbx hsz
  refine (wpIn_wide (n := 9)).1 ?_
  refine rangeAll (n := 6) (b := n + 3) (c := n + 9) rfl
    (OutI w n f s (n + 9) f)
    (fun k z W => ∃ kk, St w n f s kk (stp z) z W ∧ Box W (n + 9) (.pointer (some ⟨n + 3, 0, none⟩)) 24 ∧ kk ≤ f ∧ k = f + 1 - kk)
    (OutX w n f s 0)
    ?hI ?hI' ?hIx ?hD ?hstep (f + 1) ⟨0, sd, HST.out, HBX.out, Nat.zero_le _, rfl⟩ ?a1 ?assign ?body ?stop
  case hI =>
    rintro k W W' row ⟨kk, z, h1, h2, h3⟩ hg hr
    exact ⟨kk, z, h1.own HN.out (by have := HSZ.out; omega) hg hr, stay_row hg hr _ _ _ _ h2, h3⟩
  case hI' =>
    rintro z k W W' row ⟨kk, h1, h2, h3⟩ hg hr
    exact ⟨kk, h1.own HN.out (by have := HSZ.out; omega) hg hr, stay_row hg hr _ _ _ _ h2, h3⟩
  case hIx =>
    rintro cd _ W W' row ⟨h0, kk, z, h1⟩ hg hr
    exact ⟨h0, kk, z, h1.own HN.out (by have := HSZ.out; omega) hg hr⟩
  case hD =>
    rintro k W ⟨kk, z, h1, h2, _⟩
    exact ⟨z, h1.2.1.1, h2⟩
  case hstep =>
    rintro k z W ⟨kk, z', h1, h2, h3⟩ hd
    have : z = z' := Die.uniq hd h1.2.1.1
    subst this
    exact ⟨kk, h1.setD (stp z), h2.other (by omega) _ _, h3⟩
  case assign =>
    intro l x W K hK
    gi_wp2
    exact hK
  case body =>
    rintro l k z W hl ⟨r, hr⟩ ⟨kk, h1, h2, h3, h4⟩
    have sd0 : Cx w n f s kk (stp z) z W W.drew := ⟨h1.drew, KeepsOthers.drew W, h2⟩
    have q3 := h1.rd
    have q4 := h1.rr
    have HR : Hid (W.heap[l]? = some (.loop r)) := hr
    have e1 : (((mx (stp z) : Nat) : Int) == ((mx (stp z) : Nat) : Int)) = true := by simp
    have e2 : (((mx (stp (stp z)) : Nat) : Int) == ((mx (stp (stp z)) : Nat) : Int)) = true := by simp
    clear h1 h2 hr HST HBX
    have hmx : Try.prog.follows .mixedOrders = true := by kernel_rfl
    gi_wp2_with fail
    refine (fun key : ∀ W3, Cx w n f s kk (stp (stp z)) (stp (stp z)) W W3 → (?G : World → Prop) W3 => ?main) ?kp
    case main =>
      have pD := sd0.pD
      have pR := sd0.pR
      gi_region_with_o (refine ⟨trivial, ?_⟩; gi_at_call 8; refine (CallsIn.inRound l (callsIn_wide.2 (nextG _ _ (by first | with_reducible exact pD | with_reducible exact pR)))).mono ?_; rintro e w' ⟨rfl, hst⟩; have c3 := hst.1.rd; have c4 := hst.1.rr; have pD := hst.pD; have pR := hst.pR)
      all_goals exact key _ (by assumption)
    case kp =>
      intro W3 h3
      clear sd0 q3 q4
      obtain ⟨h3s, h3k, h3b⟩ := h3
      have c3 := h3s.rd
      have hl3 : W3.heap[l]? = some (.loop r) := h3k.same l _ HR.out rfl
      obtain ⟨z2, hz2⟩ : ∃ z2, z2 = stp (stp z) := ⟨_, rfl⟩
      rw [← hz2] at h3s
      have H3 : Hid (St w n f s kk z2 z2 W3 ∧ KeepsOthers W W3 ∧ Box W3 (n + 9) (.pointer (some ⟨n + 3, 0, none⟩)) 24 ∧ W3.heap[l]? = some (.loop r)) := ⟨h3s, h3k, h3b, hl3⟩
      clear h3s h3k h3b hl3 hz2
      gi_wp2_with (refine ⟨trivial, ?_⟩; gi_at_call 7; refine (CallsIn.inRound l (callsIn_wide.2 (allPp _ _))).mono ?_; rintro e w' ⟨rfl, rfl⟩)
      have hup4 : Up W3 (W3.alloc (.cells #[.pointer (some ⟨n + 3, 0, none⟩)] 24)) := (Up.refl _).alloc _
      have hb4 : Box (W3.alloc (.cells #[.pointer (some ⟨n + 3, 0, none⟩)] 24)) W3.heap.size (.pointer (some ⟨n + 3, 0, none⟩)) 24 := heap_alloc_last _ _
      have hs4 := H3.out.1.up HN.out hup4
      have hk4 : KeepsFrom WA.heap.size W (W3.alloc (.cells #[.pointer (some ⟨n + 3, 0, none⟩)] 24)) := (H3.out.2.1.trans (KeepsOthers.alloc _ _)).from _
      have hb9 : Box (W3.alloc (.cells #[.pointer (some ⟨n + 3, 0, none⟩)] 24)) (n + 9) (.pointer (some ⟨n + 3, 0, none⟩)) 24 := hup4.heap H3.out.2.2.1
      have hl4 : (W3.alloc (.cells #[.pointer (some ⟨n + 3, 0, none⟩)] 24)).heap[l]? = some (.loop r) := hup4.heap H3.out.2.2.2
      have hzb : n + 9 < W3.heap.size := (Array.getElem?_eq_some_iff.1 H3.out.2.2.1).1
      have hzW : W.heap.size ≤ (W3.alloc (.cells #[.pointer (some ⟨n + 3, 0, none⟩)] 24)).heap.size := Nat.le_trans H3.out.2.1.size (by simp)
      obtain ⟨cb, hcb⟩ : ∃ cb, cb = W3.heap.size := ⟨_, rfl⟩
      rw [← hcb] at hb4 hzb ⊢
      obtain ⟨W4, hW4⟩ : ∃ W4, W4 = W3.alloc (.cells #[.pointer (some ⟨n + 3, 0, none⟩)] 24) := ⟨_, rfl⟩
      rw [← hW4] at hb4 hs4 hk4 hb9 hl4 hzW ⊢
      have hn4 : n ≤ W4.heap.size := by rw [hW4, World.size_alloc, ← hcb]; omega
      clear hW4 hcb hup4 H3 c3
      refine rangeAllIn (n := 4) (b := n + 3) (c := cb) (l₀ := l) (r₀ := r) hl4 rfl
        (fun _ W5 => St w n f s kk z2 z2 W5 ∧ Box W5 cb (.pointer (some ⟨n + 3, 0, none⟩)) 24 ∧ Box W5 (n + 9) (.pointer (some ⟨n + 3, 0, none⟩)) 24 ∧ KeepsFrom WA.heap.size W W5)
        (fun _ y W5 => y = z2 ∧ St w n f s kk (stp z2) z2 W5 ∧ Box W5 (n + 9) (.pointer (some ⟨n + 3, 0, none⟩)) 24 ∧ KeepsFrom WA.heap.size W W5)
        (fun cd W5 => cd = .exit 2 ∧ St w n f s kk (stp z2) (stp z2) W5 ∧ Box W5 (n + 9) (.pointer (some ⟨n + 3, 0, none⟩)) 24 ∧ KeepsFrom WA.heap.size W W5)
        ?jI ?jI' ?jIx ?jD ?jstep 0 ⟨hs4, hb4, hb9, hk4⟩ ?a2 ?assign2 ?body2 ?stop2
      case jI =>
        rintro k W5 W6 row ⟨g1, g2, g3, g4⟩ hg hr
        exact ⟨g1.own HN.out hn4 hg hr, stay_row hg hr _ _ _ _ g2, stay_row hg hr _ _ _ _ g3, ownFrom_keepsFrom (β := Unit) hzW () W5 W6 row g4 hg hr⟩
      case jI' =>
        rintro y k W5 W6 row ⟨g0, g1, g3, g4⟩ hg hr
        exact ⟨g0, g1.own HN.out hn4 hg hr, stay_row hg hr _ _ _ _ g3, ownFrom_keepsFrom (β := Unit) hzW () W5 W6 row g4 hg hr⟩
      case jIx =>
        rintro cd _ W5 W6 row ⟨g0, g1, g3, g4⟩ hg hr
        exact ⟨g0, g1.own HN.out hn4 hg hr, stay_row hg hr _ _ _ _ g3, ownFrom_keepsFrom (β := Unit) hzW () W5 W6 row g4 hg hr⟩
      case jD =>
        rintro k W5 ⟨g1, g2, _⟩
        exact ⟨z2, g1.2.1.1, g2⟩
      case jstep =>
        rintro k y W5 ⟨g1, g2, g3, g4⟩ hd
        have : y = z2 := Die.uniq hd g1.2.1.1
        subst this
        exact ⟨rfl, g1.setD _, g3.other (by omega) _ _, g4.trans ((KeepsOthers.setCell _ _ _).from _)⟩
      case assign2 =>
        intro l2 x W5 K hK
        gi_wp2
        exact hK
      case body2 =>
        rintro l2 k y W5 _ _ ⟨rfl, g1, g3, g4⟩
        have c4 := g1.rr
        have pR := g1.2.2.1.1
        have e3 : (((mx (stp y) : Nat) : Int) == ((mx (stp y) : Nat) : Int)) = true := by simp
        have HG : Hid (St w n f s kk (stp y) y W5 ∧ Box W5 (n + 9) (.pointer (some ⟨n + 3, 0, none⟩)) 24 ∧ KeepsFrom WA.heap.size W W5) := ⟨g1, g3, g4⟩
        clear g1 g3 g4
        gi_wp2_with (refine ⟨trivial, ?_⟩; gi_at_call 8; refine (CallsIn.inRound l2 (callsIn_wide.2 (nextP _ _ _ pR))).mono ?_; rintro e w' ⟨rfl, rfl⟩)
        exact ⟨(KeepsOthers.setCell _ _ _).from _, rfl, HG.out.1.setR _, HG.out.2.1.other (by omega) _ _, HG.out.2.2.trans ((KeepsOthers.setCell _ _ _).from _)⟩
      case stop2 =>
        rintro cd W5 ⟨rfl, g1, g3, g4⟩
        obtain ⟨v1, _, _, _, v5, v6, _⟩ := g1.cells
        have g1' := g1.setK (kk + 1)
        obtain ⟨u1, _, _, _, u5, _⟩ := g1'.cells
        have hcast : ((kk + 1 : Nat) : Int) = (kk : Int) + 1 := rfl
        rw [hcast] at u1 u5
        have HG : Hid (St w n f s (kk + 1) (stp z2) (stp z2) (W5.setCell ⟨n + 8, 0, none⟩ (.int .i64 ((kk : Int) + 1))) ∧ Box (W5.setCell ⟨n + 8, 0, none⟩ (.int .i64 ((kk : Int) + 1))) (n + 9) (.pointer (some ⟨n + 3, 0, none⟩)) 24 ∧ KeepsFrom WA.heap.size W (W5.setCell ⟨n + 8, 0, none⟩ (.int .i64 ((kk : Int) + 1)))) := ⟨g1', g3.other (by omega) _ _, g4.trans ((KeepsOthers.setCell _ _ _).from _)⟩
        clear g1 g1' g3 g4
        by_cases hgt : f < kk + 1
        · have hgt' : (f : Int) < (kk : Int) + 1 := by omega
          gi_wp2
          exact ⟨HG.out.2.2, ⟨rfl, kk + 1, stp z2, HG.out.1⟩⟩
        · have hgt' : ¬ (f : Int) < (kk : Int) + 1 := by omega
          gi_wp2
          exact ⟨HG.out.2.2, f + 1 - (kk + 1), by omega, ⟨kk + 1, stp z2, HG.out.1, HG.out.2.1, by omega, rfl⟩⟩
  case stop =>
    rintro D cd W hD ⟨rfl, kk, z, h1⟩ hK
    have hD' : n + 10 ≤ D := by have := HSZ.out; omega
    obtain ⟨v1, v2, v3, v4, v5, v6, _⟩ := h1.cells
    have s0 := h1.setK 0
    have c3 := s0.rd
    have hK0 : (W.setCell ⟨n + 8, 0, none⟩ (.int .i64 ((0 : Nat) : Int))).heap[D]? = some (.deferred (some [])) := by rw [Below.heap_setCell _ _ _ _ (by show D ≠ n + 8; omega)]; exact hK
    rw [show ((0 : Nat) : Int) = 0 from rfl] at s0 hK0 c3
    have H0 : Hid (St w n f s 0 z z (W.setCell ⟨n + 8, 0, none⟩ (.int .i64 0)) ∧ (W.setCell ⟨n + 8, 0, none⟩ (.int .i64 0)).heap[D]? = some (.deferred (some []))) := ⟨s0, hK0⟩
    clear h1 s0 hK0 HST HBX hK
    refine wpIn_wide.2 ?_
    go_wp2_with fail
    refine (allPp _ _).mono ?_
    rintro e w1 ⟨rfl, rfl⟩
    go_wp2_with fail
    obtain ⟨Wb, hWb⟩ : ∃ Wb, Wb = W.setCell ⟨n + 8, 0, none⟩ (.int .i64 0) := ⟨_, rfl⟩
    have hsz0 : Wb.heap.size = W.heap.size := by rw [hWb]; simp
    rw [← hWb] at H0 ⊢
    rw [← hsz0]
    clear hWb hsz0
    have hup : Up Wb (Wb.alloc (.cells #[.pointer (some ⟨n + 3, 0, none⟩)] 24)) := (Up.refl _).alloc _
    have hb5 : Box (Wb.alloc (.cells #[.pointer (some ⟨n + 3, 0, none⟩)] 24)) Wb.heap.size (.pointer (some ⟨n + 3, 0, none⟩)) 24 := heap_alloc_last _ _
    have hs5 := H0.out.1.up HN.out hup
    have hd5 := hup.heap H0.out.2
    have hDl : D < Wb.heap.size := (Array.getElem?_eq_some_iff.1 H0.out.2).1
    obtain ⟨W5, hW5⟩ : ∃ W5, W5 = Wb.alloc (.cells #[.pointer (some ⟨n + 3, 0, none⟩)] 24) := ⟨_, rfl⟩
    have hsz5 : W5.heap.size = Wb.heap.size + 1 := by rw [hW5]; simp
    rw [← hW5] at hb5 hs5 hd5 ⊢
    obtain ⟨cb, hcb⟩ : ∃ cb, cb = Wb.heap.size := ⟨_, rfl⟩
    rw [← hcb] at hb5 hsz5 hDl ⊢
    have HS5 : Hid (W5.heap.size = cb + 1 ∧ D < cb ∧ n + 10 ≤ D) := ⟨hsz5, hDl, hD'⟩
    clear hW5 hcb hup H0 hsz5 hDl hD' hD
    refine (wpIn_wide (n := 9)).1 ?_
    refine rangeAll (n := 6) (b := n + 3) (c := cb) rfl
      (OutJ w n f s cb s D)
      (fun k y W6 => ∃ kk, St w n f s kk (stp y) y W6 ∧ Box W6 cb (.pointer (some ⟨n + 3, 0, none⟩)) 24 ∧ W6.heap[D]? = some (.deferred (some [])) ∧ kk ≤ s ∧ k = s + 1 - kk)
      (fun cd W6 => OutX w n f s 4 cd W6 ∧ W6.heap[D]? = some (.deferred (some [])))
      ?mI ?mI' ?mIx ?mD ?mstep (s + 1) ⟨⟨0, z, hs5, hb5, Nat.zero_le _, rfl⟩, hd5⟩ ?a3 ?assign3 ?body3 ?stop3
    case mI =>
      rintro k W6 W7 row ⟨⟨kk, y, g1, g2, g3⟩, g4⟩ hg hr
      exact ⟨⟨kk, y, g1.own HN.out (by have := HS5.out; omega) hg hr, stay_row hg hr _ _ _ _ g2, g3⟩, stays_deferred g4 (by have := HS5.out; omega) hg hr⟩
    case mI' =>
      rintro y k W6 W7 row ⟨kk, g1, g2, g4, g3⟩ hg hr
      exact ⟨kk, g1.own HN.out (by have := HS5.out; omega) hg hr, stay_row hg hr _ _ _ _ g2, stays_deferred g4 (by have := HS5.out; omega) hg hr, g3⟩
    case mIx =>
      rintro cd _ W6 W7 row ⟨⟨g0, kk, y, g1⟩, g4⟩ hg hr
      exact ⟨⟨g0, kk, y, g1.own HN.out (by have := HS5.out; omega) hg hr⟩, stays_deferred g4 (by have := HS5.out; omega) hg hr⟩
    case mD =>
      rintro k W6 ⟨⟨kk, y, g1, g2, _⟩, _⟩
      exact ⟨y, g1.2.1.1, g2⟩
    case mstep =>
      rintro k y W6 ⟨⟨kk, y', g1, g2, g3⟩, g4⟩ hd
      have : y = y' := Die.uniq hd g1.2.1.1
      subst this
      exact ⟨kk, g1.setD _, g2.other (by have := HS5.out; omega) _ _, by rw [Below.heap_setCell _ _ _ _ (by show D ≠ n + 3; have := HS5.out; omega)]; exact g4, g3⟩
    case assign3 =>
      intro l2 x W6 K hK
      gi_wp2
      exact hK
    case body3 =>
      rintro l2 k y W6 _ _ ⟨kk, g1, g2, g4, g3, g5⟩
      have c4 := g1.rr
      have pR := g1.2.2.1.1
      have g1r := g1.setR (stp y)
      obtain ⟨_, v2, _, _, v5, v6, _⟩ := g1r.cells
      have g1k := g1r.setK (kk + 1)
      obtain ⟨_, u2, _, _, u5, _⟩ := g1k.cells
      have hcast : ((kk + 1 : Nat) : Int) = (kk : Int) + 1 := rfl
      rw [hcast] at u2 u5
      have e3 : (((mx (stp y) : Nat) : Int) == ((mx (stp y) : Nat) : Int)) = true := by simp
      have HG : Hid (St w n f s (kk + 1) (stp y) (stp y) ((W6.setCell ⟨n + 5, 0, none⟩ (.int .u64 (stp y : Nat))).setCell ⟨n + 8, 0, none⟩ (.int .i64 ((kk : Int) + 1))) ∧ Box ((W6.setCell ⟨n + 5, 0, none⟩ (.int .u64 (stp y : Nat))).setCell ⟨n + 8, 0, none⟩ (.int .i64 ((kk : Int) + 1))) cb (.pointer (some ⟨n + 3, 0, none⟩)) 24 ∧ ((W6.setCell ⟨n + 5, 0, none⟩ (.int .u64 (stp y : Nat))).setCell ⟨n + 8, 0, none⟩ (.int .i64 ((kk : Int) + 1))).heap[D]? = some (.deferred (some []))) :=
        ⟨g1k, (g2.other (by have := HS5.out; omega) _ _).other (by have := HS5.out; omega) _ _, by rw [Below.heap_setCell _ _ _ _ (by show D ≠ n + 8; have := HS5.out; omega), Below.heap_setCell _ _ _ _ (by show D ≠ n + 5; have := HS5.out; omega)]; exact g4⟩
      have HK3 : Hid (kk ≤ s ∧ k = s + 1 - kk) := ⟨g3, g5⟩
      clear g1 g1r g1k g2 g4 g5
      by_cases hgt : s < kk + 1
      · have hgt' : (s : Int) < (kk : Int) + 1 := by omega
        gi_wp2_with (refine ⟨trivial, ?_⟩; gi_at_call 8; refine (CallsIn.inRound l2 (callsIn_wide.2 (nextP _ _ _ pR))).mono ?_; rintro e w' ⟨rfl, rfl⟩)
        exact ⟨((KeepsOthers.setCell _ _ _).trans (KeepsOthers.setCell _ _ _)).from _, ⟨rfl, kk + 1, stp y, HG.out.1⟩, HG.out.2.2⟩
      · have hgt' : ¬ (s : Int) < (kk : Int) + 1 := by omega
        gi_wp2_with (refine ⟨trivial, ?_⟩; gi_at_call 8; refine (CallsIn.inRound l2 (callsIn_wide.2 (nextP _ _ _ pR))).mono ?_; rintro e w' ⟨rfl, rfl⟩)
        exact ⟨((KeepsOthers.setCell _ _ _).trans (KeepsOthers.setCell _ _ _)).from _, s + 1 - (kk + 1), by have := HK3.out; omega, ⟨⟨kk + 1, stp y, HG.out.1, HG.out.2.1, by omega, rfl⟩, HG.out.2.2⟩⟩
    case stop3 =>
      rintro D2 cd W6 hD2 ⟨⟨rfl, kk, y, g1⟩, g4⟩ hK
      have hDD : cb + 1 ≤ D2 := by have := HS5.out; omega
      have sd0 : Cy w n f s kk y y W6 W6.drew := ⟨g1.drew, KeepsOthers.drew W6⟩
      have q3 := g1.rd
      have q4 := g1.rr
      have HK2 : Hid (W6.heap[D]? = some (.deferred (some [])) ∧ W6.heap[D2]? = some (.deferred (some []))) := ⟨g4, hK⟩
      have e3 : (((mx (stp y) : Nat) : Int) == ((mx (stp y) : Nat) : Int)) = true := by simp
      clear g1 g4 hK v1 v2 v3 v4 v5 v6 c3
      have hmx : Try.prog.follows .mixedOrders = true := by kernel_rfl
      gi_wp2_with fail
      refine (wpIn_wide (n := 9)).1 ?_
      gi_wp2_with fail
      refine (fun key : ∀ W7, Cy w n f s kk (stp y) (stp y) W6 W7 → (?G2 : World → Prop) W7 => ?main2) ?kp2
      case main2 =>
        refine wpIn_onlyN ?_
        have pD := sd0.pD
        have pR := sd0.pR
        gi_region_with_o (first
          | (refine ⟨trivial, ?_⟩; gi_at_call 8; refine (callsIn_wide.2 (nextY _ _ (by first | with_reducible exact pD | with_reducible exact pR))).mono ?_; rintro e w' ⟨rfl, hst⟩; have c3 := hst.1.rd; have c4 := hst.1.rr; have pD := hst.pD; have pR := hst.pR; have r1 := hst.res)
          | (refine ⟨trivial, ?_⟩; gi_at_call 5; refine (callsIn_wide.2 (livesY HN.out (by assumption))).mono ?_; rintro e w' ⟨rfl, hst⟩; have r1 := hst.res))
        all_goals exact key _ (by assumption)
      case kp2 =>
        intro W7 h7
        obtain ⟨h7s, h7k⟩ := h7
        have hK1 := h7k.same D _ HK2.out.1 rfl
        have hK2 := h7k.same D2 _ HK2.out.2 rfl
        simp only [onlyN]
        gi_wp2
        have hb7 : Box (W7.setCell ⟨n + 2, 0, none⟩ (.bool true)) (n + 2) (.bool true) 4 := Box.set (show Box W7 (n + 2) (.bool false) 4 from h7s.1.2.2) _
        have hbw : Below n w (W7.setCell ⟨n + 2, 0, none⟩ (.bool true)) := Below.setCell h7s.2.2.2.2 (by show n ≤ n + 2; omega) _
        have hK1' : (W7.setCell ⟨n + 2, 0, none⟩ (.bool true)).heap[D]? = some (.deferred (some [])) := by rw [Below.heap_setCell _ _ _ _ (by show D ≠ n + 2; have := HS5.out; omega)]; exact hK1
        have hK2' : (W7.setCell ⟨n + 2, 0, none⟩ (.bool true)).heap[D2]? = some (.deferred (some [])) := by rw [Below.heap_setCell _ _ _ _ (by show D2 ≠ n + 2; have := HS5.out; omega)]; exact hK2
        obtain ⟨W8, hW8⟩ : ∃ W8, W8 = W7.setCell ⟨n + 2, 0, none⟩ (.bool true) := ⟨_, rfl⟩
        rw [← hW8] at hb7 hbw hK1' hK2' ⊢
        have hne : D ≠ D2 := by have := HS5.out; omega
        have hK3 : (W8.putObj D2 (.deferred none)).heap[D]? = some (.deferred (some [])) := (World.putObj_heap_other hne).trans hK1'
        refine ⟨by simp, .inl ⟨_, _, rfl, run_takeDeferred hK2', ?_⟩⟩
        refine ⟨by simp, .inl ⟨_, _, rfl, run_takeDeferred hK3, ?_⟩⟩
        have hb9 : Box ((W8.putObj D2 (.deferred none)).putObj D (.deferred none)) (n + 2) (.bool true) 4 := by
          unfold Box
          rw [World.putObj_heap_other (by have := HS5.out; omega), World.putObj_heap_other (by have := HS5.out; omega)]
          exact hb7
        have hc5 := cell_of_one hb9
        refine ⟨.bool true, ?_, ?_⟩
        · simp [results, Try.f3, go_sem, hc5]
        · rw [HPost.out]
          refine ⟨rfl, ?_⟩
          have hnw := HN.out
          have b1 := belowK_b (w := w) (n₀ := n) (by omega) W8 D2 _ (.deferred none) (by have := HS5.out; omega) hK2' rfl rfl
          have b2 := belowK_b (w := w) (n₀ := n) (by omega) _ D _ (.deferred none) (by have := HS5.out; omega) hK3 rfl rfl
          have := (hbw.trans b1).trans b2
          rw [hnw] at this
          exact this
end Go.Proofs.Ytilmkijbohjinab
