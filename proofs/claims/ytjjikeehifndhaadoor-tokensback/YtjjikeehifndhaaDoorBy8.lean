
/-
  Bytes and texts in memory.
-/
import Derived.Test.YtjjikeehifndhaaDoorSm8
import Derived.Test.YtjjikeehifndhaaDoorTk8
import Derived.Laws.BytesArg
namespace Go.Proofs.YtjjikeehifndhaaDoor
open Go.RowKit
namespace TK
def Byt (l : List Int) : Prop := ∀ c ∈ l, 0 ≤ c ∧ c < 256
theorem Byt.at {l : List Int} (h : Byt l) (i : Nat) : 0 ≤ l.getD i 0 ∧ l.getD i 0 < 256 := by
  by_cases hi : i < l.length
  · rw [List.getD_eq_getElem?_getD, List.getElem?_eq_getElem hi]
    exact h _ (List.getElem_mem hi)
  · rw [List.getD_eq_getElem?_getD, List.getElem?_eq_none (by omega)]
    decide
def bvs (l : List Int) : List Value := l.map fun z => .int .u8 z
theorem bvs_at {l : List Int} {i : Nat} (h : i < l.length) : (bvs l)[i]? = some (.int .u8 (l.getD i 0)) := by simp [bvs, List.getD, h]
def BL (W : World) (v : Value) (l : List Int) : Prop := LC W v 1 l.length (bvs l)
theorem BL.up {W W' : World} {v : Value} {l : List Int} (h : BL W v l) (u : Up W W') : BL W' v l := LC.up h u
theorem bl_cells {W : World} {v : Value} {B : List Int} (h : BL W v B) : ∃ a c, v = .slice a B.length c ∧ B.length ≤ c ∧ (B.length ≠ 0 → ∃ b off, a = some ⟨b, off, none⟩ ∧ ∀ W', Up W W' → ∀ j, j < B.length → W'.cell? ⟨b, off + j, none⟩ = some (.int .u8 (B.getD j 0))) := by
  obtain ⟨-, a, c, h2, h3, h4⟩ := h
  refine ⟨a, c, h2, h3, fun hn => ?_⟩
  obtain ⟨b, off, h5, h6⟩ := h4 hn
  refine ⟨b, off, h5, fun W' u j hj => ?_⟩
  have h7 := h6 j (by omega)
  rw [bvs_at hj] at h7
  exact u.cell h7
/- a list that is not empty, at its block -/
def BA (W : World) (b o : Nat) (B : List Int) : Prop := ∀ W', Up W W' → ∀ j, j < B.length → W'.cell? ⟨b, o + j, none⟩ = some (.int .u8 (B.getD j 0))
theorem BA.up {W W' : World} {b o : Nat} {B : List Int} (h : BA W b o B) (u : Up W W') : BA W' b o B := fun V x => h V (u.trans x)
theorem sub_getD {B : List Int} {p e i : Nat} (hi : i < e - p) : (sub B p e).getD i 0 = B.getD (p + i) 0 := by
  unfold sub
  rw [List.getD_eq_getElem?_getD, List.getElem?_take_of_lt hi, List.getElem?_drop, ← List.getD_eq_getElem?_getD]
theorem sub_len {B : List Int} {p e : Nat} (he : e ≤ B.length) : (sub B p e).length = e - p := by
  unfold sub
  rw [List.length_take, List.length_drop]
  omega
/- a part of the bytes as a text -/
theorem conv_sub {W : World} {b o : Nat} {B : List Int} (h : BA W b o B) {p e : Nat} (he : e ≤ B.length) (cap : Nat) : (convert 22 9 (.slice (some ⟨b, o + p, none⟩) (e - p) cap)).run Tryd.prog W = .ok (.string (strOfNums (sub B p e))) W := by
  refine run_convert_bytes_arg W 22 5 Tryd.underlying22 Tryd.underlying5 b (o + p) (e - p) cap (sub B p e) (sub_len he) (fun i hi => ?_) 9 Tryd.underlying9
  rw [sub_getD hi, Nat.add_assoc]
  exact h W (Up.refl _) (p + i) (by omega)
/- tokens in memory -/
def sv (l : List Int) : Value := .string (strOfNums l)
def tvs1 (t : Tok) : List Value := [.int .i8 t.kind, sv t.text, .int .i64 t.num, .int .i64 t.pos]
def tvs (l : List Tok) : List Value := l.flatMap tvs1
theorem tvs_app (a b : List Tok) : tvs (a ++ b) = tvs a ++ tvs b := List.flatMap_append
theorem tvs_len (l : List Tok) : (tvs l).length = l.length * 4 := by
  induction l with
  | nil => rfl
  | cons t l ih => unfold tvs at *; rw [List.flatMap_cons, List.length_append, ih]; simp [tvs1]; omega
theorem infoTok : (Tryd.prog.info? 63).map (fun i => (i.zero, i.size, i.bytes)) = some (some (.agg #[.int .i8 0, .string ByteArray.empty, .int .i64 0, .int .i64 0]), 4, 40) := by kernel_rfl
end TK
end Go.Proofs.YtjjikeehifndhaaDoor
