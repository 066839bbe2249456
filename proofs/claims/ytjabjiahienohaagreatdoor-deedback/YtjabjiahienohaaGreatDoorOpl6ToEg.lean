/-
  Lists of structs that came in, each with a list of its own: events, deeds.
-/
import Derived.Test.YtjabjiahienohaaGreatDoorOpenDoQ
import Derived.Test.YtjabjiahienohaaGreatDoorOpenEQ
import Derived.Test.YtjabjiahienohaaGreatDoorEl6ToKp6
import Derived.Test.YtjabjiahienohaaGreatDoorPt6ToPw6
namespace Go.Proofs.YtjabjiahienohaaGreatDoor
open Go.ChangeShapes Go.WideShapes Go.ChangeAt Go.RowKit
namespace DE
open Go.Proofs.YtjabjiahienohaaGreatDoor.ST
section
variable {H : Type} {enc : TypeId × Value → H} {W : World}
theorem open_flatP {E : Type} (t e s bytes fuel : Nat) (ht : Tryz.prog.underlying t = some (.slice e)) (ce : Tryz.prog.cellsOf e = s) (hs : 0 < s) (hby : Tryz.prog.bytesOf e = bytes) (hb2 : 2 ≤ bytes) (f : E → List Value) (Pr : E → Prop) (dx : E) (hf : ∀ x, (f x).length = s)
    (he : ∀ cs n d p, DataW.trod enc Tryz.prog W 0 (fun _ => true) true n e cs = some (d, p) → (∀ n, n ∈ DataW.weights Tryz.prog e d → n ≤ reachBytes) → ∃ x : E, cs = f x ∧ Pr x) {v : Value} {d : DataW H} {p : List MemPlace}
    (h : DataW.trod enc Tryz.prog W 0 (fun _ => true) true fuel t [v] = some (d, p)) (hz : ∀ n, n ∈ DataW.weights Tryz.prog t d → n ≤ reachBytes) :
    ∃ xs : List E, LC W v s xs.length (xs.flatMap f) ∧ (∀ x ∈ xs, Pr x) ∧ xs.length ≤ 140737488355328 := by
  rcases Deep.open_slice ht h with ⟨hcs, _⟩ | ⟨a, len, cap, m, n, D, Pl, hcs, _, hl, hm, hmm, hx, hel⟩
  · obtain rfl : v = .slice none 0 0 := by simpa using hcs
    exact ⟨[], ⟨by simp, none, 0, rfl, Nat.le_refl _, fun h => absurd rfl h⟩, fun x hx => absurd hx (List.not_mem_nil), Nat.zero_le _⟩
  · obtain rfl : v = .slice (some a) len cap := by simpa using hcs
    have hmm : m = cap := by simpa using hmm
    subst hmm
    have hd : d = _ := congrArg Prod.fst hx
    have hb := hz ((len + (m - len)) * bytes) (by rw [hd]; simp [DataW.weights, ht, hby])
    have hr : reachBytes ≤ 281474976710656 := by decide
    have hlen2 : len * 2 ≤ 281474976710656 := by
      have h1 : len * 2 ≤ (len + (m - len)) * bytes := Nat.mul_le_mul (by omega) hb2
      omega
    have each : ∀ i, ∃ x : E, i < len → W.cells? 0 (a.add (i * s)) s = some (f x) ∧ Pr x := by
      intro i
      by_cases hi : i < len
      · obtain ⟨cs', h1, h2⟩ := hel i (by omega)
        obtain ⟨x, hx', hp⟩ := he cs' n _ _ h2 (fun n hn => by
          refine hz n ?_
          rw [hd]
          simp only [DataW.weights, ht]
          exact List.mem_cons_of_mem _ (List.mem_append_left _ (weightsAll_mem hn _ (List.mem_map.2 ⟨i, List.mem_range.2 hi, rfl⟩))))
        rw [ce] at h1
        exact ⟨x, fun _ => ⟨by rw [h1, hx'], hp⟩⟩
      · exact ⟨dx, fun h => absurd h hi⟩
    obtain ⟨X, hX⟩ := Classical.axiomOfChoice each
    have hlen : ((List.range len).map X).length = len := by simp
    refine ⟨(List.range len).map X, ⟨by rw [flat_len f s hf], some a, m, by rw [hlen], by rw [hlen]; exact hl, fun hn => ?_⟩, fun x hx => ?_, by rw [hlen]; omega⟩
    · rw [hlen] at hn
      have hspot : a.spot = none := by
        obtain ⟨_, hl0, hc0⟩ := World.cells?_some (hX 0 (by omega)).1
        have := hc0 0 (by omega)
        rw [List.getElem?_eq_getElem (by omega)] at this
        simpa [Addr.add] using World.cell?_spot this
      obtain ⟨b, off, spot⟩ := a
      simp only at hspot
      subst hspot
      refine ⟨b, off, rfl, fun j hj => ?_⟩
      rw [hlen] at hj
      have hi : j / s < len := (Nat.div_lt_iff_lt_mul hs).2 hj
      have hmod : j % s < s := Nat.mod_lt _ hs
      obtain ⟨_, hl0, hc0⟩ := World.cells?_some (hX (j / s) hi).1
      have h1 := hc0 (j % s) hmod
      rw [Addr.add_mid, Addr.add_mid] at h1
      have e1 : j / s * s + j % s = j := by rw [Nat.mul_comm]; exact Nat.div_add_mod j s
      rw [Nat.add_assoc, e1] at h1
      rw [h1]
      have h2 := flat_get f s hf dx ((List.range len).map X) (j / s) (j % s) (by rw [hlen]; exact hi) hmod
      rw [e1] at h2
      rw [h2]
      simp [List.getD, hi]
    · obtain ⟨i, hi, rfl⟩ := List.mem_map.1 hx
      exact (hX i (List.mem_range.1 hi)).2
/- deeds: a list of them in memory -/
def doF (x : DoT × Value) : List Value := (doc x.1 x.2).toList
def DOS (W : World) (v : Value) (xs : List (DoT × Value)) : Prop := LC W v 7 xs.length (xs.flatMap doF) ∧ ∀ x ∈ xs, IL W x.2 x.1.ord ∧ x.1.ord.length ≤ 140737488355328 ∧ (Lit.int .i64 x.1.by_).wf = true
set_option maxRecDepth 100000 in
theorem open_dos {base : Nat} {v : Value} {d : DataW H} {p : List MemPlace} (hv : Value.okWide Tryz.prog W .any base 83 v) (h : DataW.Trod enc Tryz.prog W 0 (fun _ => true) true 83 v d p) (hz : ∀ n, n ∈ DataW.weights Tryz.prog 83 d → n ≤ reachBytes) :
    ∃ xs : List (DoT × Value), DOS W v xs := by
  obtain ⟨fuel, hf⟩ := h
  have hc : v.cells.toList = [v] := by
    rcases okWide_slice Tryz.underlying83 hv with ⟨a, n, k, rfl⟩
    rfl
  rw [hc] at hf
  obtain ⟨xs, h1, h2, -⟩ := open_flatP 83 73 7 64 fuel Tryz.underlying83 (by kernel_rfl) (by decide) (by kernel_rfl) (by decide) doF (fun x => IL W x.2 x.1.ord ∧ x.1.ord.length ≤ 140737488355328 ∧ (Lit.int .i64 x.1.by_).wf = true) (⟨0, 0, 0, false, 0, 0, []⟩, nl) (fun _ => rfl) (fun cs n d p h hz => by
    obtain ⟨e, vo, k1, k2, k3, k4⟩ := do_of cs n d p h hz
    exact ⟨(e, vo), k1, k2, k3, k4⟩) hf hz
  exact ⟨xs, h1, h2⟩
/- events -/
def evF (x : Ev × Value) : List Value := (evc x.1 x.2).toList
theorem evF_evsC (xs : List (Ev × Value)) : xs.flatMap evF = evsC (xs.map (·.1)) (xs.map (·.2)) := by
  unfold evsC
  rw [List.length_map]
  have key : ∀ k, k ≤ xs.length → (xs.take k).flatMap evF = (List.range k).flatMap (evC (xs.map (·.1)) (xs.map (·.2))) := fun k hk => by
    induction k with
    | zero => rfl
    | succ k ih =>
      have hk' : k < xs.length := by omega
      rw [List.range_succ, List.flatMap_append, ← ih (by omega), List.take_add_one, List.getElem?_eq_getElem hk', List.flatMap_append]
      congr 1
      simp only [List.flatMap_cons, List.flatMap_nil, List.append_nil, Option.toList]
      unfold evC evF
      have e1 : (xs.map (·.1)).getD k dE = (xs[k]).1 := by simp [List.getD, hk']
      have e2 : (xs.map (·.2)).getD k nl = (xs[k]).2 := by simp [List.getD, hk']
      rw [e1, e2]
  have := key xs.length (Nat.le_refl _)
  rw [List.take_length] at this
  exact this
set_option maxRecDepth 100000 in
theorem open_events {base : Nat} {v : Value} {d : DataW H} {p : List MemPlace} (hv : Value.okWide Tryz.prog W .any base 32 v) (h : DataW.Trod enc Tryz.prog W 0 (fun _ => true) true 32 v d p) (hz : ∀ n, n ∈ DataW.weights Tryz.prog 32 d → n ≤ reachBytes) :
    ∃ l : List Ev, EVS W v l ∧ l.length ≤ 140737488355328 ∧ ∀ i, i < l.length → (l.getD i dE).ord.length ≤ 140737488355328 := by
  obtain ⟨fuel, hf⟩ := h
  have hc : v.cells.toList = [v] := by
    rcases okWide_slice Tryz.underlying32 hv with ⟨a, n, k, rfl⟩
    rfl
  rw [hc] at hf
  obtain ⟨xs, h1, h2, h3⟩ := open_flatP 32 30 12 96 fuel Tryz.underlying32 (by kernel_rfl) (by decide) (by kernel_rfl) (by decide) evF (fun x => IL W x.2 x.1.ord ∧ x.1.ord.length ≤ 140737488355328) (dE, nl) (fun _ => rfl) (fun cs n d p h hz => by
    obtain ⟨e, vo, k1, k2, k3⟩ := event_of cs n d p h hz
    exact ⟨(e, vo), k1, k2, k3⟩) hf hz
  rw [evF_evsC] at h1
  have hg : ∀ i, i < xs.length → IL W ((xs.map (·.2)).getD i nl) ((xs.map (·.1)).getD i dE).ord ∧ ((xs.map (·.1)).getD i dE).ord.length ≤ 140737488355328 := fun i hi => by
    have e1 : (xs.map (·.1)).getD i dE = (xs[i]).1 := by simp [List.getD, hi]
    have e2 : (xs.map (·.2)).getD i nl = (xs[i]).2 := by simp [List.getD, hi]
    rw [e1, e2]
    exact h2 _ (List.getElem_mem hi)
  exact ⟨xs.map (·.1), ⟨xs.map (·.2), by rw [List.length_map]; exact h1, fun i hi => (hg i (by simpa using hi)).1⟩, by simpa using h3, fun i hi => (hg i (by simpa using hi)).2⟩
end
end DE
end Go.Proofs.YtjabjiahienohaaGreatDoor
/-
  EqState of any two states.
-/
namespace Go.Proofs.YtjabjiahienohaaGreatDoor
open Go.RowKit
attribute [local go_sem ↓] Go.wp_at_zero Go.wp_at_succ

namespace ST
theorem eqS_comm (a b : Stt) : eqS a b = eqS b a := by
  simp only [eqS, eq_comm]
set_option maxRecDepth 100000 in
set_option maxHeartbeats 4000000 in
theorem eqStateG_ (v u : Value) (a b : Stt) (w : World) (hv : StL w v a) (hu : StL w u b) (hsm : Small a) :
    Calls Tryz.prog 14 #[v, u] w fun e w' => e = .returned (.bool (eqS a b)) ∧ Up w w' := by
  by_cases he : eqS a b = true
  · rw [he]; exact eqState_ v u a b w hv hu hsm he
  · have he2 : eqS a b = false := by simpa using he
    rw [he2]
    simp only [eqS, Bool.and_eq_false_iff, decide_eq_false_iff_not] at he2
    obtain ⟨vp, vc, vz, rfl, h1, h2, h3⟩ := hv
    obtain ⟨up, uc, uz, rfl, g1, g2, g3⟩ := hu
    obtain ⟨pb, hpb⟩ : ∃ p, p = decide (a.ps = b.ps) := ⟨_, rfl⟩
    obtain ⟨cb, hcb⟩ : ∃ p, p = decide (a.cs = b.cs) := ⟨_, rfl⟩
    obtain ⟨zb, hzb⟩ : ∃ p, p = decide (a.zs = b.zs) := ⟨_, rfl⟩
    have HP : Hid (∀ W, Up w W → Calls Tryz.prog 53 #[vp, up] W fun e w' => e = .returned (.bool pb) ∧ ∃ m, w' = W.drewN m) := fun W k => by
      rw [hpb]; exact eqPlayers_ vp up a.ps b.ps W (h1.up k) (g1.up k) hsm.1
    have HC : Hid (∀ W, Up w W → Calls Tryz.prog 54 #[vc, uc] W fun e w' => e = .returned (.bool cb) ∧ ∃ m, w' = W.drewN m) := fun W k => by
      rw [hcb]; exact eqCards_ vc uc a.cs b.cs W (h2.up k) (g2.up k) hsm.2.1
    have HZ : Hid (∀ W, Up w W → Calls Tryz.prog 55 #[vz, uz] W fun e w' => e = .returned (.bool zb) ∧ ∃ m, w' = W.drewN m) := fun W k => by
      rw [hzb]; exact eqRows_ vz uz a.zs b.zs W (h3.up k) (g3.up k) hsm.2.2.1 hsm.2.2.2
    have HB : Hid (pb = false ∨ cb = false ∨ zb = false ∨ a.turn ≠ b.turn ∨ a.whose ≠ b.whose ∨ a.fin ≠ b.fin ∨ a.winner ≠ b.winner) := by
      unfold Hid
      rw [hpb, hcb, hzb]
      simp only [decide_eq_false_iff_not]
      rcases he2 with (((((h | h) | h) | h) | h) | h) | h <;> simp [h]
    obtain ⟨a1, k1, rfl, -, -⟩ := lc_at h1
    obtain ⟨a2, k2, rfl, -, -⟩ := lc_at h2
    obtain ⟨a3, k3, rfl, -, -⟩ := zl_at h3
    obtain ⟨b1, l1, rfl, -, -⟩ := lc_at g1
    obtain ⟨b2, l2, rfl, -, -⟩ := lc_at g2
    obtain ⟨b3, l3, rfl, -, -⟩ := zl_at g3
    unfold sv
    generalize a.turn = x1 at HB ⊢
    generalize b.turn = y1 at HB ⊢
    generalize a.whose = x2 at HB ⊢
    generalize b.whose = y2 at HB ⊢
    generalize a.fin = x3 at HB ⊢
    generalize b.fin = y3 at HB ⊢
    generalize a.winner = x4 at HB ⊢
    generalize b.winner = y4 at HB ⊢
    clear h1 h2 h3 g1 g2 g3 hsm he he2 hpb hcb hzb
    by_cases e1 : x1 = y1
    · subst e1
      by_cases e2 : x2 = y2
      · subst e2
        by_cases e3 : x3 = y3
        · subst e3
          by_cases e4 : x4 = y4
          · subst e4
            cases pb with
            | false =>
              clear HB HC HZ
              go_enter Tryz.func14, Tryz.ntmps14
              go_wp2_with fail
              refine Calls.mono (HP.out _ (((Up.refl _).alloc _).alloc _)) ?_
              rintro e w1 ⟨rfl, m1, rfl⟩
              go_wp2
              go_ret
              exact ⟨rfl, (((Up.refl _).alloc _).alloc _).drewN _⟩
            | true =>
              cases cb with
              | false =>
                clear HB HZ
                go_enter Tryz.func14, Tryz.ntmps14
                go_wp2_with fail
                refine Calls.mono (HP.out _ (((Up.refl _).alloc _).alloc _)) ?_
                rintro e w1 ⟨rfl, m1, rfl⟩
                go_wp2_with fail
                refine Calls.mono (HC.out _ ((((Up.refl _).alloc _).alloc _).drewN _)) ?_
                rintro e w2 ⟨rfl, m2, rfl⟩
                go_wp2
                go_ret
                exact ⟨rfl, by first | exact (((Up.refl _).alloc _).alloc _).drewN _ | exact ((((Up.refl _).alloc _).alloc _).drewN _).drewN _⟩
              | true =>
                have hz : zb = false := by simpa using HB.out
                subst hz
                clear HB
                go_enter Tryz.func14, Tryz.ntmps14
                go_wp2_with fail
                refine Calls.mono (HP.out _ (((Up.refl _).alloc _).alloc _)) ?_
                rintro e w1 ⟨rfl, m1, rfl⟩
                go_wp2_with fail
                refine Calls.mono (HC.out _ ((((Up.refl _).alloc _).alloc _).drewN _)) ?_
                rintro e w2 ⟨rfl, m2, rfl⟩
                go_wp2_with fail
                refine Calls.mono (HZ.out _ (by first | exact (((Up.refl _).alloc _).alloc _).drewN _ | exact ((((Up.refl _).alloc _).alloc _).drewN _).drewN _)) ?_
                rintro e w3 ⟨rfl, m3, rfl⟩
                go_wp2
                go_ret
                exact ⟨rfl, by first | exact (((Up.refl _).alloc _).alloc _).drewN _ | exact ((((Up.refl _).alloc _).alloc _).drewN _).drewN _⟩
          · have e9 : (x4 == y4) = false := beq_eq_false_iff_ne.2 e4
            clear HB HP HC HZ
            go_enter Tryz.func14, Tryz.ntmps14
            go_wp2
            go_ret
            exact ⟨rfl, ((Up.refl _).alloc _).alloc _⟩
        · have e9 : (x3 == y3) = false := beq_eq_false_iff_ne.2 e3
          clear HB HP HC HZ
          go_enter Tryz.func14, Tryz.ntmps14
          go_wp2
          go_ret
          exact ⟨rfl, ((Up.refl _).alloc _).alloc _⟩
      · have e9 : (x2 == y2) = false := beq_eq_false_iff_ne.2 e2
        clear HB HP HC HZ
        go_enter Tryz.func14, Tryz.ntmps14
        go_wp2
        go_ret
        exact ⟨rfl, ((Up.refl _).alloc _).alloc _⟩
    · have e9 : (x1 == y1) = false := beq_eq_false_iff_ne.2 e1
      clear HB HP HC HZ
      go_enter Tryz.func14, Tryz.ntmps14
      go_wp2
      go_ret
      exact ⟨rfl, ((Up.refl _).alloc _).alloc _⟩
end ST
end Go.Proofs.YtjabjiahienohaaGreatDoor
