/-
  Whether a node's own fields are as its kind says.
-/
import Derived.Test.YtgahdppcdeefaaaKd9
namespace Go.Proofs.Ytgahdppcdeefaaa
open Go.RowKit
attribute [local go_sem ↓] Go.wp_at_zero Go.wp_at_succ
namespace TR
def ndv (x : Nd) : Value := .agg #[.int .i8 x.op, .int .i8 x.kind, .int .i64 x.n, .int .i64 x.m, .string (strOfNums x.text), .int .i64 x.pos, .int .i64 x.kids]
def TxOk : Tx → Prop
  | .free also => (∀ y ∈ also, Byt y) ∧ also.length ≤ 1000
  | _ => True
theorem feq0 (W : World) : (binOp .eql 73 .nilFunc .nilFunc).run Try.prog W = .ok (.bool true) W := by kernel_rfl
theorem feq1 (k : FuncId) (cs : Array Value) (W : World) : (binOp .eql 73 (.func (.func k) #[] cs) .nilFunc).run Try.prog W = .ok (.bool false) W := by kernel_rfl
set_option maxRecDepth 100000 in
set_option maxHeartbeats 8000000 in
theorem fits_ (k : Kd) (f u : Value) (x : Nd) (w : World) (hb : Byt x.text) (hf : TxR w k.text f) (hok : TxOk k.text) : Calls Try.prog 51 #[kvv k f u, ndv x] w fun e w' => e = .returned (.bool (fits k x)) ∧ Up w w' := by
  obtain ⟨Post, hPost⟩ : ∃ P : Ending → World → Prop, P = fun e w' => e = .returned (.bool (fits k x)) ∧ Up w w' := ⟨_, rfl⟩
  rw [← hPost]
  have HPo : Hid (Post = fun e w' => e = .returned (.bool (fits k x)) ∧ Up w w') := hPost
  clear hPost
  obtain ⟨is, rank, row, opens, most, text, each, ways⟩ := k
  obtain ⟨op, knd, nn, mm, tx, ps, ks⟩ := x
  obtain ⟨s, hs⟩ : ∃ s, s = strOfNums tx := ⟨_, rfl⟩
  unfold kvv ndv
  simp only at hb hf hok ⊢
  rw [← hs]
  by_cases c1 : knd = 0
  · subst c1
    by_cases c2 : mm = 0
    · subst c2
      by_cases c3 : ps < 0
      · have HF : Hid (fits ⟨is, rank, row, opens, most, text, each, ways⟩ ⟨op, 0, nn, 0, tx, ps, ks⟩ = false) := by
          unfold Hid fits
          simp
          omega
        go_enter Try.func51, Try.ntmps51
        go_wp2_with fail
        rw [HPo.out, HF.out]
        exact ⟨rfl, ((Up.refl _).alloc _).alloc _⟩
      · by_cases c4 : nn < 0
        · have HF : Hid (fits ⟨is, rank, row, opens, most, text, each, ways⟩ ⟨op, 0, nn, 0, tx, ps, ks⟩ = false) := by
            unfold Hid fits
            simp
            omega
          go_enter Try.func51, Try.ntmps51
          go_wp2_with fail
          rw [HPo.out, HF.out]
          exact ⟨rfl, ((Up.refl _).alloc _).alloc _⟩
        · by_cases c5 : most < nn
          · have HF : Hid (fits ⟨is, rank, row, opens, most, text, each, ways⟩ ⟨op, 0, nn, 0, tx, ps, ks⟩ = false) := by
              unfold Hid fits
              simp
              omega
            go_enter Try.func51, Try.ntmps51
            go_wp2_with fail
            rw [HPo.out, HF.out]
            exact ⟨rfl, ((Up.refl _).alloc _).alloc _⟩
          · have HE : Hid (fits ⟨is, rank, row, opens, most, text, each, ways⟩ ⟨op, 0, nn, 0, tx, ps, ks⟩ = text.ok tx) := by
              unfold Hid fits
              simp only
              rw [decide_eq_true (by omega), decide_eq_true (by omega), decide_eq_true (by omega)]
              rfl
            cases text with
            | none =>
              obtain rfl : f = .nilFunc := hf
              have h0 : ∀ W, (binOp .eql 73 .nilFunc .nilFunc).run Try.prog W = .ok (.bool true) W := feq0
              by_cases c6 : tx = []
              · have q8 : s.toList = [] := by rw [hs]; exact nums_nil.2 c6
                have q9 : s.toList.isEmpty = true := by rw [q8]; rfl
                have HT : Hid (Tx.ok .none tx = true) := by unfold Hid; show decide (tx = []) = true; rw [decide_eq_true c6]
                clear hs c6 hb hok
                go_enter Try.func51, Try.ntmps51
                go_wp2_with fail
                rw [HPo.out, HE.out, HT.out]
                exact ⟨rfl, ((Up.refl _).alloc _).alloc _⟩
              · have q8 : ¬ s.toList = [] := by rw [hs]; exact fun h9 => c6 (nums_nil.1 h9)
                have q9 : s.toList.isEmpty = false := by cases hh : s.toList with | nil => exact absurd hh q8 | cons a l => rfl
                have HT : Hid (Tx.ok .none tx = false) := by unfold Hid; show decide (tx = []) = false; rw [decide_eq_false c6]
                clear hs c6 hb hok
                go_enter Try.func51, Try.ntmps51
                go_wp2_with fail
                rw [HPo.out, HE.out, HT.out]
                exact ⟨rfl, ((Up.refl _).alloc _).alloc _⟩
            | txt =>
              obtain rfl : f = .func (.func 47) #[] #[] := hf
              have h0 : ∀ W, (binOp .eql 73 (.func (.func 47) #[] #[]) .nilFunc).run Try.prog W = .ok (.bool false) W := feq1 47 #[]
              have HC : Hid (∀ W, Calls Try.prog 47 #[.string s] W fun e w' => e = .returned (.bool (isT tx)) ∧ w' = W) := fun W => by rw [hs]; exact isText_ tx W hb
              have HT : Hid (Tx.ok .txt tx = isT tx) := rfl
              clear hs hb hok
              go_enter Try.func51, Try.ntmps51
              go_wp2_with fail
              refine Calls.mono (HC.out _) ?_
              rintro r W1 ⟨rfl, hw1⟩
              subst hw1
              go_wp2_with fail
              rw [HPo.out, HE.out, HT.out]
              exact ⟨rfl, ((Up.refl _).alloc _).alloc _⟩
            | nam =>
              obtain rfl : f = .func (.func 60) #[] #[] := hf
              have h0 : ∀ W, (binOp .eql 73 (.func (.func 60) #[] #[]) .nilFunc).run Try.prog W = .ok (.bool false) W := feq1 60 #[]
              have HC : Hid (∀ W, Calls Try.prog 60 #[.string s] W fun e w' => e = .returned (.bool (isN tx)) ∧ w' = W) := fun W => by rw [hs]; exact isName_ tx W hb
              have HT : Hid (Tx.ok .nam tx = isN tx) := rfl
              clear hs hb hok
              go_enter Try.func51, Try.ntmps51
              go_wp2_with fail
              refine Calls.mono (HC.out _) ?_
              rintro r W1 ⟨rfl, hw1⟩
              subst hw1
              go_wp2_with fail
              rw [HPo.out, HE.out, HT.out]
              exact ⟨rfl, ((Up.refl _).alloc _).alloc _⟩
            | free also =>
              obtain ⟨g, y, rfl, hg, hy⟩ := hf
              have h0 : ∀ W, (binOp .eql 73 (.func (.func 65) #[] #[.pointer (some ⟨g, 0, none⟩)]) .nilFunc).run Try.prog W = .ok (.bool false) W := feq1 65 #[.pointer (some ⟨g, 0, none⟩)]
              have HC : Hid (∀ W, Up w W → Calls Try.prog 65 #[.string s, .pointer (some ⟨g, 0, none⟩)] W fun e w' => e = .returned (.bool ((Tx.free also).ok tx)) ∧ w' = W) := fun W hu => by rw [hs]; exact free_ g y also tx W (hu.cell hg) (hy.cp (up_cp hu)) hb hok.1 hok.2
              clear hs hb hok hg hy
              go_enter Try.func51, Try.ntmps51
              go_wp2_with fail
              refine Calls.mono (HC.out _ (((Up.refl _).alloc _).alloc _)) ?_
              rintro r W1 ⟨rfl, hw1⟩
              subst hw1
              go_wp2_with fail
              rw [HPo.out, HE.out]
              exact ⟨rfl, ((Up.refl _).alloc _).alloc _⟩
    · have c2' : (mm != 0) = true := by simpa using c2
      have HF : Hid (fits ⟨is, rank, row, opens, most, text, each, ways⟩ ⟨op, 0, nn, mm, tx, ps, ks⟩ = false) := by
        unfold Hid fits
        simp
        omega
      go_enter Try.func51, Try.ntmps51
      go_wp2_with fail
      rw [HPo.out, HF.out]
      exact ⟨rfl, ((Up.refl _).alloc _).alloc _⟩
  · have c1' : (knd != 0) = true := by simpa using c1
    have HF : Hid (fits ⟨is, rank, row, opens, most, text, each, ways⟩ ⟨op, knd, nn, mm, tx, ps, ks⟩ = false) := by
      unfold Hid fits
      simp
      omega
    go_enter Try.func51, Try.ntmps51
    go_wp2_with fail
    rw [HPo.out, HF.out]
    exact ⟨rfl, ((Up.refl _).alloc _).alloc _⟩
end TR
end Go.Proofs.Ytgahdppcdeefaaa
