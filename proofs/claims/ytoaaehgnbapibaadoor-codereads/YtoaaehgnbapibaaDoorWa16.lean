
/-
  The table of opcodes, as data, and its values.
-/
import Derived.Test.YtoaaehgnbapibaaDoorSl
import Derived.Test.YtoaaehgnbapibaaDoorTail
import Derived.Test.YtoaaehgnbapibaaDoorTc
import Derived.Laws.Tables
import Derived.Laws.EntriesVeiled
import Derived.Deep.Cut
import Derived.Laws.AppendOwn
namespace Go.Proofs.YtoaaehgnbapibaaDoor
open Go.RowKit
namespace CD
/- a row: its name, and how many bytes stand behind it: 0 none is an opcode; 1 none, 2 one, 3 two, 4 one, one and two -/
def rws : List (List Int × Nat) := [([], 0),
  ([112, 117, 115, 104], 3), ([116, 114, 117, 101], 1), ([102, 97, 108, 115, 101], 1), ([108, 111, 97, 100], 2), ([115, 116, 111, 114, 101], 2),
  ([], 0), ([], 0), ([], 0), ([], 0),
  ([97, 100, 100], 1), ([115, 117, 98], 1), ([109, 117, 108], 1), ([100, 105, 118], 1), ([114, 101, 109], 1), ([110, 101, 103], 1), ([97, 98, 115], 1), ([109, 105, 110], 1), ([109, 97, 120], 1),
  ([108, 116], 1), ([108, 101], 1), ([103, 116], 1), ([103, 101], 1), ([110, 111, 116], 1), ([101, 113], 2),
  ([], 0), ([], 0), ([], 0), ([], 0), ([], 0),
  ([106, 117, 109, 112], 3), ([117, 110, 108, 101, 115, 115], 3), ([101, 97, 99, 104], 4), ([99, 104, 111, 111, 115, 101], 3), ([115, 116, 111, 112], 1), ([97, 98, 111, 114, 116], 1),
  ([], 0), ([], 0), ([], 0), ([], 0),
  ([110, 101, 120, 116], 1), ([122, 111, 110, 101], 2), ([114, 97, 110, 100, 111, 109], 1), ([116, 111, 112], 1), ([104, 97, 115], 1), ([105, 115], 3), ([102, 105, 101, 108, 100], 2),
  ([], 0), ([], 0), ([], 0), ([], 0), ([], 0), ([], 0), ([], 0), ([], 0), ([], 0), ([], 0), ([], 0), ([], 0), ([], 0),
  ([100, 111], 2)]
theorem rws_len : rws.length = 61 := by decide
def rwo (op : Nat) : List Int × Nat := rws.getD op ([], 0)
def nam (op : Nat) : List Int := (rwo op).1
def knd (op : Nat) : Nat := (rwo op).2
/- how many bytes each operand has -/
def w0 (k : Nat) : Int := if k = 2 ∨ k = 4 then 1 else if k = 3 then 2 else 0
def w1 (k : Nat) : Int := if k = 4 then 1 else 0
def w2 (k : Nat) : Int := if k = 4 then 2 else 0
def siz (k : Nat) : Nat := if k = 0 then 0 else if k = 1 then 1 else if k = 2 then 2 else if k = 3 then 3 else 5
def fnv (k : Nat) : Value := if k = 1 then .func (.func 88) #[] #[] else if k = 2 then .func (.func 89) #[] #[] else if k = 3 then .func (.func 86) #[] #[] else if k = 4 then .func (.func 90) #[] #[] else .nilFunc
def rcs (r : List Int × Nat) : List Value := [.string (strOfNums r.1), .int .i64 (w0 r.2), .int .i64 (w1 r.2), .int .i64 (w2 r.2), fnv r.2]
def rwv (r : List Int × Nat) : Array Value := #[.string (strOfNums r.1), .int .i64 (w0 r.2), .int .i64 (w1 r.2), .int .i64 (w2 r.2), fnv r.2]
def TBL : Array Value := (rws.flatMap rcs).toArray
theorem tbl_size : TBL.size = 305 := by
  show (rws.flatMap rcs).length = 305
  rw [flat_len rcs 5 (fun _ => rfl), rws_len]
theorem fnv_one (k : Nat) : (fnv k).oneCell' = true := by
  unfold fnv
  repeat' split
  all_goals rfl
theorem rcs_one (r : List Int × Nat) : ∀ u ∈ rcs r, u.oneCell' = true := fun u hu => by
  unfold rcs at hu
  simp only [List.mem_cons, List.not_mem_nil, or_false] at hu
  rcases hu with rfl | rfl | rfl | rfl | rfl
  · rfl
  · rfl
  · rfl
  · rfl
  · exact fnv_one _
theorem rwv_one (r : List Int × Nat) : (rwv r).all (·.oneCell') = true := by
  rw [Array.all_eq_true_iff_forall_mem]
  intro u hu
  exact rcs_one r u (by simpa [rwv, rcs] using hu)
theorem tbl_one : TBL.all (·.oneCell') = true := by
  rw [Array.all_eq_true_iff_forall_mem]
  intro u hu
  have h1 : u ∈ rws.flatMap rcs := by
    unfold TBL at hu
    simpa using hu
  obtain ⟨r, -, h2⟩ := List.mem_flatMap.1 h1
  exact rcs_one r u h2
/- a row of it -/
theorem tbl_at {op j : Nat} (h : op < 61) (hj : j < 5) : TBL[op * 5 + j]? = (rcs (rwo op))[j]? := by
  show (rws.flatMap rcs).toArray[op * 5 + j]? = _
  rw [List.getElem?_toArray]
  exact flat_get rcs 5 (fun _ => rfl) ([], 0) rws op j (by rw [rws_len]; exact h) hj
theorem rwo_none {op : Nat} (h : ¬ op < 61) : rwo op = ([], 0) := by
  unfold rwo
  rw [List.getD_eq_getElem?_getD, List.getElem?_eq_none (by rw [rws_len]; omega)]
  rfl
theorem infoRow : (Tryd.prog.info? 78).map (fun i => (i.zero, i.size)) = some (some (.agg (rwv ([], 0))), 5) := by kernel_rfl
theorem sizeRow : (Tryd.prog.info? 78).map (·.size) = some 5 := by kernel_rfl
theorem sizeTbl : (Tryd.prog.info? 80).map (·.size) = some 305 := by kernel_rfl
theorem sizeNum : (Tryd.prog.info? 95).map (·.size) = some 3 := by kernel_rfl
theorem sizeIns : (Tryd.prog.info? 28).map (·.size) = some 5 := by kernel_rfl
/- the table's zero -/
def TBZ : Array Value := ((List.replicate 61 ([], 0)).flatMap rcs).toArray
theorem tbz_size : TBZ.size = 305 := by
  show ((List.replicate 61 (([] : List Int), 0)).flatMap rcs).length = 305
  rw [flat_len rcs 5 (fun _ => rfl), List.length_replicate]
theorem infoTbl : (Tryd.prog.info? 80).map (fun i => (i.zero, i.size)) = some (some (.agg TBZ), 305) := by kernel_rfl
attribute [irreducible] TBL TBZ
end CD
end Go.Proofs.YtoaaehgnbapibaaDoor
