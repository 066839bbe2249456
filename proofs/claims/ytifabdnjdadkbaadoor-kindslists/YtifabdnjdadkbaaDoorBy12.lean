
/-
  The signs by their names: what the map holds.
-/
import Derived.Test.YtifabdnjdadkbaaDoorSg12
import Derived.Laws.EntriesVeiled
namespace Go.Proofs.YtifabdnjdadkbaaDoor
open Go.RowKit
attribute [local go_sem ↓] Go.wp_at_zero Go.wp_at_succ
namespace KD
def ds : Sg := ⟨⟨#[]⟩, [], 0, false⟩
theorem rowsOf_get : ∀ (l : List Sg) (b i j : Nat), i < l.length → j < 4 → (rowsOf b l)[i * 4 + j]? = (sgc (b + i) (l.getD i ds))[j]?
  | [], b, i, j, h, _ => by simp at h
  | t :: l, b, 0, j, _, hj => by
    show (sgc b t ++ rowsOf (b + 1) l)[0 * 4 + j]? = (sgc b t)[j]?
    rw [List.getElem?_append_left (by simp [sgc]; omega)]
    congr 1
    omega
  | t :: l, b, i + 1, j, h, hj => by
    show (sgc b t ++ rowsOf (b + 1) l)[(i + 1) * 4 + j]? = (sgc (b + (i + 1)) ((t :: l).getD (i + 1) ds))[j]?
    rw [List.getElem?_append_right (by simp [sgc]; omega)]
    have h9 := rowsOf_get l (b + 1) i j (by simpa using h) hj
    rw [show (i + 1) * 4 + j - (sgc b t).length = i * 4 + j by simp [sgc]; omega, h9, show b + 1 + i = b + (i + 1) by omega]
    rfl
theorem SL.row {W : World} {b : Nat} {l : List Sg} (h : SL W b l) {i : Nat} (hi : i < l.length) : W.cell? ⟨b + l.length, i * 4, none⟩ = some (.string (l.getD i ds).name) ∧ W.cell? ⟨b + l.length, i * 4 + 1, none⟩ = some (.slice (some ⟨b + i, 0, none⟩) (l.getD i ds).args.length (l.getD i ds).args.length) ∧ W.cell? ⟨b + l.length, i * 4 + 2, none⟩ = some (.int .i8 (l.getD i ds).tell) ∧ W.cell? ⟨b + l.length, i * 4 + 3, none⟩ = some (gas (l.getD i ds).each) := by
  have k : ∀ j, j < 4 → W.cell? ⟨b + l.length, i * 4 + j, none⟩ = (sgc (b + i) (l.getD i ds))[j]? := fun j hj => by
    rw [← rowsOf_get l b i j hi hj]
    simp [World.cell?, h.2]
  exact ⟨k 0 (by decide), k 1 (by decide), k 2 (by decide), k 3 (by decide)⟩
theorem SL.args {W : World} {b : Nat} {l : List Sg} (h : SL W b l) {i : Nat} (hi : i < l.length) : W.heap[b + i]? = some (argO (l.getD i ds)) := by
  refine h.1 i _ ?_
  rw [List.getD_eq_getElem?_getD, List.getElem?_eq_getElem hi]
  rfl
/- what stands in the map for number i -/
def en (b : Nat) (l : List Sg) (i : Nat) : ByteArray × Value := ((l.getD i ds).name, .agg #[.int .i64 i, .string (l.getD i ds).name, .slice (some ⟨b + i, 0, none⟩) (l.getD i ds).args.length (l.getD i ds).args.length, .int .i8 (l.getD i ds).tell, gas (l.getD i ds).each])
def ens (b : Nat) (l : List Sg) (n : Nat) : List (ByteArray × Value) := (List.range n).map (en b l)
theorem ens_succ (b : Nat) (l : List Sg) (n : Nat) : ens b l (n + 1) = ens b l n ++ [en b l n] := by simp [ens, List.range_succ]
def Nd (l : List Sg) : Prop := ∀ i j, i < j → j < l.length → (l.getD i ds).name ≠ (l.getD j ds).name
theorem lk_ens_none {b : Nat} {l : List Sg} {s : ByteArray} : ∀ {n : Nat}, (∀ i, i < n → (l.getD i ds).name ≠ s) → lk (ens b l n) s = none := by
  intro n h
  unfold lk
  rw [Option.map_eq_none_iff, List.find?_eq_none]
  intro p hp
  obtain ⟨i, hi, rfl⟩ := List.mem_map.1 hp
  simpa [en] using h i (List.mem_range.1 hi)
theorem lk_app {l1 l2 : List (ByteArray × Value)} {s : ByteArray} (h : lk l1 s = none) : lk (l1 ++ l2) s = lk l2 s := by
  unfold lk at h ⊢
  rw [Option.map_eq_none_iff] at h
  rw [List.find?_append, h]
  rfl
theorem lk_ens_some {b : Nat} {l : List Sg} (hd : Nd l) {k : Nat} : ∀ {n : Nat}, k < n → n ≤ l.length → lk (ens b l n) (l.getD k ds).name = some (en b l k).2 := by
  intro n hk
  induction n with
  | zero => omega
  | succ n ih =>
    intro hn
    rw [ens_succ]
    by_cases e : k = n
    · subst e
      rw [lk_app (lk_ens_none fun i hi => hd i k hi (by omega))]
      simp [lk, en]
    · have h1 := ih (by omega) (by omega)
      unfold lk at h1 ⊢
      rw [List.find?_append]
      obtain ⟨x, hx, hx2⟩ := Option.map_eq_some_iff.1 h1
      rw [hx]
      simp [hx2]
theorem _root_.Go.Proofs.YtifabdnjdadkbaaDoor.Up.only {w W W' : World} {m : Nat} (u : Up w W) (o : Only m W W') (h : w.heap.size ≤ m) : Up w W' :=
  ⟨o.1.1.trans u.os, o.1.2.1.trans u.tape, o.1.2.2.trans u.output, Nat.le_trans u.size o.2.1, fun g hg => (o.2.2 g (Nat.lt_of_lt_of_le hg u.size) (by omega)).trans (u.block g hg)⟩
theorem run_makeHint (w : World) (k : Int) : (Instr.makeMap 129 (some (.int .i64 k))).run Tryd.prog w = .ok (.map (some w.heap.size)) (w.alloc (.map #[] 0)) := by
  simp [Instr.makeMap, run_underlying Tryd.underlying129, asInt, newObj, Result.andThen]
  rfl
set_option maxRecDepth 100000 in
set_option maxHeartbeats 8000000 in
theorem byName_ (b : Nat) (l : List Sg) (w : World) (h : SL w b l) (hn : l.length ≤ 100) (hd : Nd l) : Calls Tryd.prog 63 #[.slice (some ⟨b + l.length, 0, none⟩) l.length l.length] w fun e w' => ∃ m, e = .returned (.map (some m)) ∧ MP w' m (ens b l l.length) ∧ Up w w' := by
  obtain ⟨Post, hPost⟩ : ∃ P : Ending → World → Prop, P = fun e w' => ∃ m, e = .returned (.map (some m)) ∧ MP w' m (ens b l l.length) ∧ Up w w' := ⟨_, rfl⟩
  rw [← hPost]
  have HPo : Hid (Post = fun e w' => ∃ m, e = .returned (.map (some m)) ∧ MP w' m (ens b l l.length) ∧ Up w w') := hPost
  clear hPost
  have HSL : Hid (∀ W, Up w W → ∀ i, i < l.length → W.cell? ⟨b + l.length, i * 4, none⟩ = some (.string (l.getD i ds).name) ∧ W.cell? ⟨b + l.length, i * 4 + 1, none⟩ = some (.slice (some ⟨b + i, 0, none⟩) (l.getD i ds).args.length (l.getD i ds).args.length) ∧ W.cell? ⟨b + l.length, i * 4 + 2, none⟩ = some (.int .i8 (l.getD i ds).tell) ∧ W.cell? ⟨b + l.length, i * 4 + 3, none⟩ = some (gas (l.getD i ds).each)) := fun W u i hi => (h.up u).row hi
  have HND : Hid (∀ i, i < l.length → lk (ens b l i) (l.getD i ds).name = none) := fun i hi => lk_ens_none fun j hj => hd j i hj hi
  obtain ⟨n, hN⟩ : ∃ n, n = l.length := ⟨_, rfl⟩
  obtain ⟨g, hG⟩ : ∃ g, g = b + l.length := ⟨_, rfl⟩
  rw [← hG] at HSL ⊢
  rw [← hN] at HSL HND HPo hn ⊢
  have HS0 : Hid (∀ W, W = w.alloc (.map #[] 0) → MP W w.heap.size (ens b l 0) ∧ Up w W) := fun W e => by
    subst e
    exact ⟨mp_made w, (Up.refl w).alloc _⟩
  clear h hd hN hG
  have hmm := fun (w : World) => run_makeHint w (n : Int)
  go_enter Tryd.func63, Tryd.ntmps63
  go_wp2_with fail
  go_loopw [11] (fun s11 W => ∃ i : Nat, i ≤ n ∧ s11 = .int .i64 i ∧ MP W w.heap.size (ens b l i) ∧ Up w W) (fun s11 _ => n - (intOf s11).toNat)
  case atStart => exact ⟨0, Nat.zero_le _, rfl, (HS0.out _ rfl).1, (HS0.out _ rfl).2⟩
  case round =>
    obtain ⟨i, hi, rfl, hmp, hu⟩ := hrel
    have HMP : Hid (MP wr w.heap.size (ens b l i)) := hmp
    have HU : Hid (Up w wr) := hu
    clear hmp hu
    by_cases hlt : i < n
    · have hlt2 : (i : Int) < (n : Int) := by omega
      obtain ⟨x0, x1, x2, x3⟩ := HSL.out wr HU.out i hlt
      have HL := HND.out i hlt
      have HE : Hid (∀ W', MP W' w.heap.size (ens b l i ++ [((l.getD i ds).name, .agg #[.int .i64 (i : Int), .string (l.getD i ds).name, .slice (some ⟨b + i, 0, none⟩) (l.getD i ds).args.length (l.getD i ds).args.length, .int .i8 (l.getD i ds).tell, gas (l.getD i ds).each])]) → MP W' w.heap.size (ens b l (i + 1))) := fun W' h9 => by rw [ens_succ]; exact h9
      have ei : IntKind.i64.wrap ((i : Int) + 1) = ((i + 1 : Nat) : Int) := by rw [IntKind.wrap_i64]; omega
      generalize (l.getD i ds).name = s at *
      generalize (l.getD i ds).args.length = q at *
      generalize (l.getD i ds).tell = z at *
      unfold gas at x3 HE
      generalize gi (l.getD i ds).each = y at *
      obtain ⟨W1, hrun, h1, h2⟩ := run_upd (P := Tryd.prog) Tryd.underlying129 Tryd.underlying9 (HMP.out.up ((Up.refl wr).alloc (.cells #[.string s, .slice (some ⟨b + i, 0, none⟩) q q, .int .i8 z, .func (.func y) #[] #[]] 55))) s (.agg #[.int .i64 (i : Int), .string s, .slice (some ⟨b + i, 0, none⟩) q q, .int .i8 z, .func (.func y) #[] #[]]) HL
      have HN1 : Hid (MP W1 w.heap.size (ens b l (i + 1))) := HE.out W1 h1
      have HU1 : Hid (Up w W1) := (HU.out.alloc _).only h2 (Nat.le_refl _)
      clear h1 h2 HE HL
      go_wp2_with fail
      go_roundw
      case rel => exact ⟨i + 1, by omega, by go_num, HN1.out, HU1.out⟩
      case measure => simp [intOf]; omega
    · have hlt2 : ¬ (i : Int) < (n : Int) := by omega
      obtain rfl : i = n := by omega
      go_wp2_with fail
      rw [HPo.out]
      exact ⟨_, rfl, HMP.out, HU.out⟩
/- the number of the sign of a name -/
def fnd (l : List Sg) (s : ByteArray) : Option Nat := l.findIdx? fun x => decide (x.name = s)
theorem fnd_some {l : List Sg} {s : ByteArray} {k : Nat} (h : fnd l s = some k) : k < l.length ∧ (l.getD k ds).name = s := by
  obtain ⟨hk, h1, _⟩ := List.findIdx?_eq_some_iff_getElem.1 h
  refine ⟨hk, ?_⟩
  rw [List.getD_eq_getElem?_getD, List.getElem?_eq_getElem hk]
  simpa using h1
theorem fnd_none {l : List Sg} {s : ByteArray} (h : fnd l s = none) : ∀ i, i < l.length → (l.getD i ds).name ≠ s := by
  intro i hi
  have h1 := List.findIdx?_eq_none_iff.1 h (l[i]) (List.getElem_mem hi)
  rw [List.getD_eq_getElem?_getD, List.getElem?_eq_getElem hi]
  simpa using h1
def sz : Array Value := #[.string ⟨#[]⟩, .slice none 0 0, .int .i8 0, .nilFunc]
def nz : Array Value := #[.int .i64 0, .string ⟨#[]⟩, .slice none 0 0, .int .i8 0, .nilFunc]
/- what is answered for a name -/
def FdR (n0 : Nat) (W : World) (l : List Sg) (s : ByteArray) (e : Ending) : Prop := match fnd l s with
  | none => e = .returned (.tuple #[.int .i64 0, .agg sz, .bool false])
  | some k => ∃ g, e = .returned (.tuple #[.int .i64 k, .agg (sgc g (l.getD k ds)).toArray, .bool true]) ∧ W.heap[g]? = some (argO (l.getD k ds)) ∧ n0 ≤ g
theorem res_f {P : Program} {fn : Func} {p q r : Tmp} {ty : TypeId} (h : fn.results = #[.tmp q, .cell p ty, .tmp r]) (tmps : Array Value) (w : World) (g : Nat) (t : TypeId) (cs : Array Value) (fr : Nat × Nat) (d : TypeDesc) (x y : Value)
    (hp : tmps.getD p undef = .pointer (some ⟨g, 0, none⟩)) (hq : tmps.getD q undef = x) (hr : tmps.getD r undef = y) (hg : w.heap[g]? = some (.cells cs t fr))
    (hu : P.underlying ty = some d) (hd : (match d with | .struct _ | .array _ _ => true | _ => false) = true) (hi : (P.info? ty).map (·.size) = some cs.size) :
    (results fn tmps).run P w = .ok (.tuple #[x, .agg cs, y]) w := by
  have hp' : tmps[p]?.getD undef = .pointer (some ⟨g, 0, none⟩) := by simpa using hp
  have hq' : tmps[q]?.getD undef = x := by simpa using hq
  have hr' : tmps[r]?.getD undef = y := by simpa using hr
  simp [results, h, hp', hq', hr', asAddr, run_loadVar_row w g t ty cs fr d hg hu hd hi]
end KD
end Go.Proofs.YtifabdnjdadkbaaDoor
