/-
  What a node with so many kids asks for.
-/
import Derived.Test.YtgahdppcdeefaaaKe9
import Derived.Deep.QuietTactic
import Derived.BigQuiet
namespace Go.Proofs.Ytgahdppcdeefaaa
open Go.RowKit
attribute [local go_sem ↓] Go.wp_at_zero Go.wp_at_succ
namespace TR
def PlR (w0 w : World) (k : Kd) (kids : Int) (e : Ending) (w' : World) : Prop := (match plcs k kids with
  | some (ps, many) => ∃ a c, e = .returned (.tuple #[.slice a ps.length c, .int .i64 (many : Int), .bool true]) ∧ PS w' (.slice a ps.length c) ps ∧ (ps.length ≤ 1 ∨ ∀ W, Up w0 W → PS W (.slice a ps.length c) ps)
  | none => ∃ a n c m, e = .returned (.tuple #[.slice a n c, .int .i64 m, .bool false])) ∧ Up w w'
theorem plR_some {w0 w w' : World} {k : Kd} {kids : Int} {ps : List Plc} {many n c : Nat} {a : Option Addr} (h : plcs k kids = some (ps, many)) (hn : n = ps.length) (hp : PS w' (.slice a n c) ps) (hq : ps.length ≤ 1 ∨ ∀ W, Up w0 W → PS W (.slice a n c) ps) (u : Up w w') : PlR w0 w k kids (.returned (.tuple #[.slice a n c, .int .i64 (many : Int), .bool true])) w' := by
  subst hn
  unfold PlR
  rw [h]
  exact ⟨⟨a, c, rfl, hp, hq⟩, u⟩
theorem plR_none {w0 w w' : World} {k : Kd} {kids m : Int} {n c : Nat} {a : Option Addr} (h : plcs k kids = none) (u : Up w w') : PlR w0 w k kids (.returned (.tuple #[.slice a n c, .int .i64 m, .bool false])) w' := by
  unfold PlR
  rw [h]
  exact ⟨⟨a, n, c, m, rfl⟩, u⟩
theorem seq0 (W : World) : (binOp .eql 74 (.slice none 0 0) (.slice none 0 0)).run Try.prog W = .ok (.bool true) W := by kernel_rfl
theorem seq1 (W : World) (ad : Addr) (n c : Nat) : (binOp .eql 74 (.slice (some ad) n c) (.slice none 0 0)).run Try.prog W = .ok (.bool false) W := by kernel_rfl
theorem find_step {A : Type} {p : A → Bool} {l : List A} {d : A} {i : Nat} (hi : i < l.length) (h : (l.take i).find? p = none) (hp : p (l.getD i d) = false) : (l.take (i + 1)).find? p = none := by
  rw [take_snoc (d := d) l i hi, List.find?_append, h]
  simp only [Option.none_or, List.find?_cons, hp, List.find?_nil]
theorem find_hit {A : Type} {p : A → Bool} {l : List A} {d : A} {i : Nat} (hi : i < l.length) (h : (l.take i).find? p = none) (hp : p (l.getD i d) = true) : l.find? p = some (l.getD i d) := by
  have e : l = l.take i ++ (l.getD i d :: l.drop (i + 1)) := by
    rw [List.getD_eq_getElem?_getD, List.getElem?_eq_getElem hi]
    simp
  rw [e, List.find?_append, h]
  simp only [Option.none_or, List.find?_cons, hp]
  rw [← e]
set_option maxRecDepth 100000 in
set_option maxHeartbeats 8000000 in
theorem places_ (k : Kd) (f u : Value) (kids : Int) (w0 w : World) (hw : WY w0 u k.ways) (hu0 : Up w0 w) (hl : k.ways.length ≤ 1000) : Calls Try.prog 52 #[kvv k f u, .int .i64 kids] w (PlR w0 w k kids) := by
  obtain ⟨Post, hPost⟩ : ∃ P : Ending → World → Prop, P = PlR w0 w k kids := ⟨_, rfl⟩
  rw [← hPost]
  have HPo : Hid (Post = PlR w0 w k kids) := hPost
  clear hPost
  obtain ⟨is, rank, row, opens, most, text, each, ways⟩ := k
  obtain ⟨a, rfl, ha, hcell⟩ := hw
  simp only at ha hcell hl
  unfold kvv
  simp only
  obtain ⟨W1, hW1⟩ : ∃ W1, w.alloc (.cells #[.int .i64 (is : Int), .int .i64 (rank : Int), .bool row, .int .i64 (opens : Int), .int .i64 most, f, .int .i64 (each : Int), .slice a ways.length ways.length] 76) = W1 := ⟨_, rfl⟩
  have g1 : W1.heap[w.heap.size]? = some (.cells #[.int .i64 (is : Int), .int .i64 (rank : Int), .bool row, .int .i64 (opens : Int), .int .i64 most, f, .int .i64 (each : Int), .slice a ways.length ways.length] 76 (0, 0)) := by rw [← hW1]; exact heap_alloc_new _ _
  have HU1 : Hid (Up w W1) := by unfold Hid; rw [← hW1]; exact (Up.refl _).alloc _
  have x6 : W1.cell? ⟨w.heap.size, 6, none⟩ = some (.int .i64 (each : Int)) := by simp only [World.cell?, g1]; rfl
  have x7 : W1.cell? ⟨w.heap.size, 7, none⟩ = some (.slice a ways.length ways.length) := by simp only [World.cell?, g1]; rfl
  by_cases he : each = 0
  · have HE : Hid (plcs ⟨is, rank, row, opens, most, text, each, ways⟩ kids = match ways.find? fun w => (w.length : Int) == kids with | some w => some (w, 1) | none => if kids = 0 ∧ ways = [] then some ([], 0) else none) := by
      unfold Hid plcs
      rw [if_neg (by simp [he])]
      rfl
    have he2 : ((each : Int) != 0) = false := by simp; omega
    clear he
    obtain ⟨n, hN⟩ : ∃ n, n = ways.length := ⟨_, rfl⟩
    have HN : Hid (n = ways.length) := hN
    have HC : Hid (∀ i, i < n → ∃ g, a = some ⟨g, 0, none⟩ ∧ ∃ y c, (∀ W, Up w0 W → W.cell? ⟨g, i, none⟩ = some (.slice y (ways.getD i []).length c) ∧ PS W (.slice y (ways.getD i []).length c) (ways.getD i []))) := fun i hi => by
      obtain ⟨g, h1, h2⟩ := hcell (by omega)
      obtain ⟨v, h3, h4⟩ := h2 i (by omega)
      obtain ⟨y, c, h5, h6⟩ := h4
      subst h5
      exact ⟨g, h1, y, c, fun W hu => ⟨hu.cell h3, PS.cp ⟨y, c, rfl, h6⟩ (up_cp hu)⟩⟩
    rw [← hN] at x7 hW1 ha hl ⊢
    clear hcell hN g1
    go_enter Try.func52, Try.ntmps52
    go_wp2_with fail
    go_loopw [22] (fun s9 W => ∃ i : Nat, i ≤ n ∧ s9 = .int .i64 i ∧ (ways.take i).find? (fun w => (w.length : Int) == kids) = none ∧ W = W1) (fun s9 _ => n - (intOf s9).toNat)
    case atStart => exact ⟨0, Nat.zero_le _, rfl, rfl, by first | rfl | exact hW1⟩
    case round =>
      obtain ⟨i, hi, rfl, hal, hwr⟩ := hrel
      subst hwr
      have HAL : Hid ((ways.take i).find? (fun w => (w.length : Int) == kids) = none) := hal
      clear hal hW1
      by_cases hlt : i < n
      · have hlt2 : (i : Int) < (n : Int) := by omega
        obtain ⟨g, rfl, y, c, hce⟩ := HC.out i hlt
        obtain ⟨x0, hps⟩ := hce _ (hu0.trans HU1.out)
        have HPA : Hid (∀ W, Up w0 W → PS W (.slice y (ways.getD i []).length c) (ways.getD i [])) := fun W h9 => (hce W h9).2
        have HPS : Hid (PS wr (.slice y (ways.getD i []).length c) (ways.getD i [])) := hps
        have ei : IntKind.i64.wrap ((i : Int) + 1) = ((i + 1 : Nat) : Int) := by rw [IntKind.wrap_i64]; omega
        by_cases hq : ((ways.getD i []).length : Int) = kids
        · have q1 : (((ways.getD i []).length : Int) == kids) = true := by simpa using hq
          have HT : Hid (ways.find? (fun w => (w.length : Int) == kids) = some (ways.getD i [])) := find_hit (by have := HN.out; omega) HAL.out q1
          have HFN : Hid (plcs ⟨is, rank, row, opens, most, text, each, ways⟩ kids = some (ways.getD i [], 1)) := by unfold Hid; rw [HE.out, HT.out]
          clear hce hps q1 HT HE HAL HC
          generalize ways.getD i [] = way at *
          obtain ⟨m, hm⟩ : ∃ m, m = way.length := ⟨_, rfl⟩
          rw [← hm] at HPS HPA x0 hq
          have HM9 : Hid (m = way.length) := hm
          clear hm
          subst hq
          go_wp2_with fail
          rw [HPo.out]
          exact plR_some (many := 1) HFN.out HM9.out HPS.out (.inr HPA.out) HU1.out
        · have q1 : (((ways.getD i []).length : Int) == kids) = false := by simpa using hq
          have HT : Hid ((ways.take (i + 1)).find? (fun w => (w.length : Int) == kids) = none) := find_step (d := []) (by have := HN.out; omega) HAL.out q1
          clear hce hps
          generalize (ways.getD i []).length = m at *
          go_wp2_with fail
          go_roundw
          case rel => exact ⟨i + 1, by omega, by go_num, HT.out, by first | rfl | trivial⟩
          case measure => simp [intOf]; omega
      · have hlt2 : ¬ (i : Int) < (n : Int) := by omega
        obtain rfl : i = n := by omega
        have HT : Hid (ways.find? (fun w => (w.length : Int) == kids) = none) := by
          have h9 := HAL.out
          rw [HN.out, List.take_length] at h9
          exact h9
        by_cases hk : kids = 0
        · subst hk
          by_cases hn : i = 0
          · have HFN : Hid (plcs ⟨is, rank, row, opens, most, text, each, ways⟩ 0 = some ([], 0)) := by
              unfold Hid
              rw [HE.out, HT.out]
              have h9 : ways = [] := List.length_eq_zero_iff.1 (by rw [← HN.out]; exact hn)
              simp [h9]
            obtain rfl : a = none := ha hn
            clear HE HT HC ha
            subst hn
            go_wp2_with fail
            have sq0 := seq0
            have sq1 := seq1
            go_quiet (fail)
            go_wp2_with fail
            rw [HPo.out]
            exact plR_some (many := 0) (n := 0) HFN.out rfl ⟨none, 0, rfl, Nat.le_refl _, fun h9 => absurd rfl h9⟩ (.inl (Nat.zero_le _)) (HU1.out.drewN _)
          · have HFN : Hid (plcs ⟨is, rank, row, opens, most, text, each, ways⟩ 0 = none) := by
              unfold Hid
              rw [HE.out, HT.out]
              have h9 : ¬ ways = [] := fun h9 => hn (by rw [HN.out, h9]; rfl)
              simp [h9]
            obtain ⟨g, rfl, -⟩ := HC.out 0 (by omega)
            clear HE HT HC ha
            go_wp2_with fail
            have sq0 := seq0
            have sq1 := seq1
            go_quiet (fail)
            go_wp2_with fail
            rw [HPo.out]
            exact plR_none HFN.out (HU1.out.drewN _)
        · have HFN : Hid (plcs ⟨is, rank, row, opens, most, text, each, ways⟩ kids = none) := by
            unfold Hid
            rw [HE.out, HT.out]
            simp [hk]
          have hk2 : (kids == 0) = false := by simpa using hk
          clear HE HT HC ha
          go_wp2_with fail
          go_quiet (fail)
          go_wp2_with fail
          rw [HPo.out]
          exact plR_none HFN.out (HU1.out.drewN _)
  · have he2 : ((each : Int) != 0) = true := by simp; omega
    have he3 : ¬ (each : Int) = 0 := by omega
    by_cases hk : 0 ≤ kids
    · have HE : Hid (plcs ⟨is, rank, row, opens, most, text, each, ways⟩ kids = some ([⟨each, 0⟩], kids.toNat)) := by
        unfold Hid plcs
        rw [if_pos (by simpa using he), if_pos hk]
      have HKT : Hid ((kids.toNat : Int) = kids) := by unfold Hid; omega
      have HPS : Hid (PS (W1.alloc (.cells #[.int .i64 (each : Int), .int .i64 0] 54)) (.slice (some ⟨W1.heap.size, 0, none⟩) 1 1) [⟨each, 0⟩]) := by
        refine ⟨_, 1, rfl, Nat.le_refl _, fun _ => ⟨W1.heap.size, rfl, fun i hi => ?_⟩⟩
        have h9 := heap_alloc_new W1 (.cells #[.int .i64 (each : Int), .int .i64 0] 54)
        obtain rfl : i = 0 := by simpa using hi
        constructor <;> (simp only [World.cell?, h9]; rfl)
      have HU2 : Hid (Up w (W1.alloc (.cells #[.int .i64 (each : Int), .int .i64 0] 54))) := HU1.out.alloc _
      clear g1 hcell ha
      go_enter Try.func52, Try.ntmps52
      go_wp2_with fail
      rw [HPo.out]
      have h9 := plR_some (w0 := w0) (n := 1) HE.out rfl HPS.out (.inl (Nat.le_refl _)) HU2.out
      rw [HKT.out] at h9
      exact h9
    · have HE : Hid (plcs ⟨is, rank, row, opens, most, text, each, ways⟩ kids = none) := by
        unfold Hid plcs
        rw [if_pos (by simpa using he), if_neg hk]
      have HU2 : Hid (Up w (W1.alloc (.cells #[.int .i64 (each : Int), .int .i64 0] 54))) := HU1.out.alloc _
      clear g1 hcell ha
      go_enter Try.func52, Try.ntmps52
      go_wp2_with fail
      rw [HPo.out]
      exact plR_none HE.out HU2.out
end TR
end Go.Proofs.Ytgahdppcdeefaaa
