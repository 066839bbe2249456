
/-
  A token that came in; the tables that are laid.
-/
import Derived.Test.YtjjikeehifndhaaDoorRows
import Derived.Test.YtjjikeehifndhaaDoorOb8
import Derived.Test.YtjjikeehifndhaaDoorTv8
import Derived.Lib.LaidTab
namespace Go.Proofs.YtjjikeehifndhaaDoor
open Go.ChangeShapes Go.WideShapes Go.ChangeAt Go.RowKit

namespace TK
section
variable {H : Type} {enc : TypeId × Value → H} {W : World}
theorem cTk : Tryd.prog.cellsOf 63 = 4 := by kernel_rfl
theorem cI8 : Tryd.prog.cellsOf 61 = 1 := by kernel_rfl
theorem cSt : Tryd.prog.cellsOf 9 = 1 := by kernel_rfl
theorem cI6 : Tryd.prog.cellsOf 2 = 1 := by kernel_rfl
theorem cIn : Tryd.prog.cellsOf 3 = 1 := by kernel_rfl
set_option maxRecDepth 100000 in
theorem open_tok {base : Nat} {v : Value} {d : DataW H} {p : List MemPlace} (hv : Value.okWide Tryd.prog W .any base 63 v) (h : DataW.Trod enc Tryd.prog W 0 (fun _ => true) true 63 v d p) :
    ∃ (k : Int) (s : ByteArray) (n q : Int), v = .agg #[.int .i8 k, .string s, .int .i64 n, .int .i64 q] ∧ -9223372036854775808 ≤ n ∧ n ≤ 9223372036854775807 := by
  obtain ⟨cs, rfl, hsz⟩ := okWide_struct Tryd.underlying63 hv
  obtain ⟨fuel, hf⟩ := h
  obtain ⟨xs, k, -, -, hl, hlen, hfd⟩ := DataW.trod_struct Tryd.underlying63 hf
  have hlen : xs.length = 4 := hlen
  obtain ⟨l⟩ := cs
  have hl2 : l.length = 4 := by
    rw [cTk] at hsz
    simpa using hsz
  match l, hl2 with
  | [a, b, c, e], _ =>
    have f0 : DataW.trod enc Tryd.prog W 0 (fun _ => true) true k 61 (([a, b, c, e].drop 0).take (Tryd.prog.cellsOf 61)) = xs[0]? := hfd 0 _ rfl
    rw [cI8, List.getElem?_eq_getElem (by omega)] at f0
    have f1 : DataW.trod enc Tryd.prog W 0 (fun _ => true) true k 9 (([a, b, c, e].drop 1).take (Tryd.prog.cellsOf 9)) = xs[1]? := hfd 1 _ rfl
    rw [cSt, List.getElem?_eq_getElem (by omega)] at f1
    have f2 : DataW.trod enc Tryd.prog W 0 (fun _ => true) true k 2 (([a, b, c, e].drop 2).take (Tryd.prog.cellsOf 2)) = xs[2]? := hfd 2 _ rfl
    rw [cI6, List.getElem?_eq_getElem (by omega)] at f2
    have f3 : DataW.trod enc Tryd.prog W 0 (fun _ => true) true k 3 (([a, b, c, e].drop 3).take (Tryd.prog.cellsOf 3)) = xs[3]? := hfd 3 _ rfl
    rw [cIn, List.getElem?_eq_getElem (by omega)] at f3
    obtain ⟨z0, e0, -, -⟩ := DataW.trod_int Tryd.underlying61 f0
    obtain ⟨z1, e1, -, -⟩ := DataW.trod_string Tryd.underlying9 f1
    obtain ⟨z2, e2, -, w2⟩ := DataW.trod_int Tryd.underlying2 f2
    obtain ⟨z3, e3, -, -⟩ := DataW.trod_int Tryd.underlying3 f3
    simp at e0 e1 e2 e3
    have hb := bounds_i64 w2
    exact ⟨z0, z1, z2, z3, by rw [e0, e1, e2, e3], by omega, by omega⟩
end
theorem tp_of {W : World} {r : List (String × DataW Unit)} (h : laidMet Tryd.prog (("internal/strconv.uint64pow10", Rows.laid_internal_strconv_uint64pow10) :: r) W) : TabP W := by
  unfold TabP
  exact Lib.tabIs_of_head (g := 1) (t := 163) (e := 98) (n := 20) gPow (by kernel_rfl) (by kernel_rfl) (by kernel_rfl) (by kernel_rfl) (by kernel_rfl) (rest := r) h
end TK
end Go.Proofs.YtjjikeehifndhaaDoor
