
/-
  How tokens are written, no program.
-/
import Derived.Test.YtjjikeehifndhaaDoorNu8
import Derived.Lib.ItoaNum
namespace Go.Proofs.YtjjikeehifndhaaDoor
namespace TK
def okN (l : List Int) : Bool := decide (l ≠ []) && (decide (l.length ≤ 32) && (sml (l.getD 0 0) && l.all prt))
def okT (l : List Int) : Bool := decide (l.length ≤ 64) && l.all pln
def quC (c : Int) : List Int := if esc c then [92, c] else [c]
def quo (l : List Int) : List Int := [34] ++ (l.flatMap quC ++ [34])
def dcm (n : Int) : List Int := (Lib.itoa n).map fun b => (b.toNat : Int)
def tex (t : Tok) : List Int :=
  if t.pos < 0 ∨ t.num < 0 then []
  else if t.kind = 2 ∧ t.text = [] then dcm t.num
  else if t.num ≠ 0 then []
  else if (t.kind = 1 ∧ okN t.text = true) ∨ (t.kind = 4 ∧ mrk t.text = true) then t.text
  else if t.kind = 3 ∧ okT t.text = true then quo t.text else []
theorem takeW {f : Int → Bool} : ∀ {l : List Int}, l.all f = true → l.takeWhile f = l
  | [], _ => rfl
  | c :: r, h => by
    rw [List.all_cons, Bool.and_eq_true] at h
    rw [List.takeWhile_cons, if_pos h.1, takeW h.2]
theorem spn_whole (f : Int → Bool) (l : List Int) : (spn f l 0 = l.length) ↔ l.all f = true := by
  unfold spn
  rw [List.drop_zero, Nat.zero_add]
  constructor
  · intro h
    have h1 := List.takeWhile_prefix (l := l) f
    have h2 := h1.eq_of_length h
    rw [← h2]
    exact List.all_takeWhile
  · intro h
    rw [takeW h]
theorem nums_back (s : ByteArray) : strOfNums (s.data.toList.map fun b => (b.toNat : Int)) = s := by
  unfold strOfNums
  rw [List.map_map]
  have h : ((fun n : Int => UInt8.ofNat n.toNat) ∘ fun b : UInt8 => (b.toNat : Int)) = id := by
    funext b
    simp
  rw [h, List.map_id]
theorem byt_nums (s : ByteArray) : Byt (s.data.toList.map fun b => (b.toNat : Int)) := fun c hc => by
  obtain ⟨b, -, rfl⟩ := List.mem_map.1 hc
  have := b.toNat_lt
  omega
theorem dcm_str (n : Int) : strOfNums (dcm n) = ⟨(Lib.itoa n).toArray⟩ := by
  have h := nums_back ⟨(Lib.itoa n).toArray⟩
  exact h
theorem nums_at {l : List Int} (hl : Byt l) {i : Nat} (hi : i < l.length) (h : i < (strOfNums l).size) : (((strOfNums l)[i]'h).toNat : Int) = l.getD i 0 := by
  have h1 := hl.at i
  have h3 := strOfNums_data l
  have h2 : (strOfNums l)[i]'h = UInt8.ofNat (l[i]'hi).toNat := by
    have h4 : (strOfNums l)[i]'h = (strOfNums l).data.toList[i]'(by rw [h3]; simpa using hi) := rfl
    rw [h4, List.getElem_of_eq h3]
    simp
  rw [h2, UInt8.toNat_ofNat']
  rw [List.getD_eq_getElem?_getD, List.getElem?_eq_getElem hi] at h1 ⊢
  simp only [Option.getD_some] at h1 ⊢
  omega
theorem nums_nil {l : List Int} : (strOfNums l).toList = [] ↔ l = [] := by
  rw [nums_list]
  simp
end TK
end Go.Proofs.YtjjikeehifndhaaDoor
