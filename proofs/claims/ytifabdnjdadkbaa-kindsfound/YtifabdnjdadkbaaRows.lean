/-
  No cell of these rows narrows 'for every input' (looked for: loops, veiled, ifaces, maps, wideKeys, modest, calm, conditions, laid).
  DERIVED. THE GIVEN ROWS OF THIS SEAT. 3 by the template 'for every input the law returns true; each argument reads behind the call as it read before'; 0 by the template 'total and deterministic' (their statements: YtifabdnjdadkbaaTotals.lean).
  GIVEN WITH THE SEED: the statements are not yours to turn. If you find one false, say at which input.
  Laid BY PROGRAM, IN A SANDBOX (cutbox-rows.mjs): the forced cells as the released guide's own fill.sh prints them over the translation 87b2068d11cb6400… (all of the seat's roots in one cut). By AI agents, Wed Nov 11 2026. No macro, syntax, notation, axiom, sorry.
-/
import Derived.Test.YtifabdnjdadkbaaChecked
import GoSem.Claim
import GoSem.ClaimJoined
import GoSem.ClaimMapViews
import Derived.JoinedTies
import Derived.KernelRfl
namespace Go.Proofs.Ytifabdnjdadkbaa
/- THE CELL 'sum', in the pinned program and in every row, IS THE sha256 OF THE DUMP (.gsa) THAT YtifabdnjdadkbaaProg.lean LOADS. Nothing in Lean hashes anything: it is a label: what it is worth is what the hold of that sum in a sandbox is worth. -/
noncomputable def Try.pinned : Pinned := { name := "ytifabdnjdadkbaa", sum := "87b2068d11cb64003c18a4d9fb0cd99dff087e439fb6489177754b6f3b354fff", checked := Try.checked }
namespace Rows
def none {H : Type} : Left H := { results := [], args := [] }

/-- 'tableaulaw12.KindsTexts': WHATEVER THE INPUT: true; the input reads as it did. -/
def kindsTextsSpec : ChangeSpec := { name := "kindsTexts", fn := fun _ => fun
  | [d] => { results := [.lit (.bool true)], args := [d] }
  | _ => none }
def kindsTextsRow : OpenClaim := { program := "ytifabdnjdadkbaa", sum := "87b2068d11cb64003c18a4d9fb0cd99dff087e439fb6489177754b6f3b354fff", func := "tableau/tableaulaw12.KindsTexts", spec := "kindsTexts", unfollowed := true, recurses := true, apart := false }
def KindsTextsSaid : Prop := kindsTextsRow.holds Try.pinned (OpenSpec.ofChange kindsTextsSpec)

/-- ITS FALSE NEIGHBOUR: 'it returns false'. Refute it at one input. -/
def kindsTextsWrong : ChangeSpec := { name := "kindsTexts", fn := fun _ => fun
  | [d] => { results := [.lit (.bool false)], args := [d] }
  | _ => none }
def KindsTextsWrongFalsely : Prop := kindsTextsRow.holds Try.pinned (OpenSpec.ofChange kindsTextsWrong)

/-- 'tableaulaw12.KindsFound': WHATEVER THE INPUT: true; the input reads as it did. -/
def kindsFoundSpec : ChangeSpec := { name := "kindsFound", fn := fun _ => fun
  | [d1, d2] => { results := [.lit (.bool true)], args := [d1, d2] }
  | _ => none }
def kindsFoundRow : OpenClaim := { program := "ytifabdnjdadkbaa", sum := "87b2068d11cb64003c18a4d9fb0cd99dff087e439fb6489177754b6f3b354fff", func := "tableau/tableaulaw12.KindsFound", spec := "kindsFound", unfollowed := true, recurses := true, apart := false }
def KindsFoundSaid : Prop := kindsFoundRow.holds Try.pinned (OpenSpec.ofChange kindsFoundSpec)

/-- ITS FALSE NEIGHBOUR: 'it returns false'. Refute it at one input. -/
def kindsFoundWrong : ChangeSpec := { name := "kindsFound", fn := fun _ => fun
  | [d1, d2] => { results := [.lit (.bool false)], args := [d1, d2] }
  | _ => none }
def KindsFoundWrongFalsely : Prop := kindsFoundRow.holds Try.pinned (OpenSpec.ofChange kindsFoundWrong)

/-- 'tableaulaw12.KindsApart': WHATEVER THE INPUT: true; the input reads as it did. -/
def kindsApartSpec : ChangeSpec := { name := "kindsApart", fn := fun _ => fun
  | [d] => { results := [.lit (.bool true)], args := [d] }
  | _ => none }
def kindsApartRow : OpenClaim := { program := "ytifabdnjdadkbaa", sum := "87b2068d11cb64003c18a4d9fb0cd99dff087e439fb6489177754b6f3b354fff", func := "tableau/tableaulaw12.KindsApart", spec := "kindsApart", unfollowed := true, recurses := true, apart := false }
def KindsApartSaid : Prop := kindsApartRow.holds Try.pinned (OpenSpec.ofChange kindsApartSpec)

/-- ITS FALSE NEIGHBOUR: 'it returns false'. Refute it at one input. -/
def kindsApartWrong : ChangeSpec := { name := "kindsApart", fn := fun _ => fun
  | [d] => { results := [.lit (.bool false)], args := [d] }
  | _ => none }
def KindsApartWrongFalsely : Prop := kindsApartRow.holds Try.pinned (OpenSpec.ofChange kindsApartWrong)

/- THE SECOND FORM. 'bulk': how many values and letters a reading holds, each counted each time it is reached (what is shared counts as often as it is met; a slice's spare places count too). A statement '..UptoSaid' is the law's where the arguments, and the package variables that the reading takes, are together of bulk at most 1048576: NARROWER than '..Said'. Prove '..Said' where nothing that the law and all that it calls make is longer than what came in: it says more and counts as full. Else prove '..UptoSaid'. A law counts once. -/
mutual
def uptoBulk {H : Type} : DataW H → Nat
  | .lit (.string bytes) => bytes.length + 1
  | .lit _ => 1
  | .nil => 1
  | .ptr d => uptoBulk d + 1
  | .slice elems spare => uptoBulkAll elems + uptoBulkAll spare + 1
  | .agg parts => uptoBulkAll parts + 1
  | .iface _ d => uptoBulk d + 1
  | .map entries => uptoBulkEntries entries + 1
  | .held _ => 1
def uptoBulkAll {H : Type} : List (DataW H) → Nat
  | [] => 0
  | d :: r => uptoBulk d + uptoBulkAll r
def uptoBulkEntries {H : Type} : List (Lit × DataW H) → Nat
  | [] => 0
  | x :: r => uptoBulkEntry x + uptoBulkEntries r
def uptoBulkEntry {H : Type} : Lit × DataW H → Nat
  | (.string bytes, d) => bytes.length + uptoBulk d + 1
  | (_, d) => uptoBulk d + 1
 end
def uptoSmall : (H : Type) → List (DataW H) → Bool := fun _ ds => decide (uptoBulkAll ds ≤ 1048576)
def OpenSpec.upto (s : _root_.Go.ChangeSpec) : _root_.Go.OpenSpec := { _root_.Go.OpenSpec.ofChange s with cond := some uptoSmall }

/-- 'tableaulaw12.KindsTexts', WHERE WHAT IT READS IS OF BULK AT MOST 1048576: true; the input reads as it did. -/
def kindsTextsUptoRow : OpenClaim := { program := "ytifabdnjdadkbaa", sum := "87b2068d11cb64003c18a4d9fb0cd99dff087e439fb6489177754b6f3b354fff", func := "tableau/tableaulaw12.KindsTexts", spec := "kindsTexts", unfollowed := true, recurses := true, apart := false, narrowed := true }
def KindsTextsUptoSaid : Prop := kindsTextsUptoRow.holds Try.pinned (OpenSpec.upto kindsTextsSpec)

/-- 'tableaulaw12.KindsFound', WHERE WHAT IT READS IS OF BULK AT MOST 1048576: true; the input reads as it did. -/
def kindsFoundUptoRow : OpenClaim := { program := "ytifabdnjdadkbaa", sum := "87b2068d11cb64003c18a4d9fb0cd99dff087e439fb6489177754b6f3b354fff", func := "tableau/tableaulaw12.KindsFound", spec := "kindsFound", unfollowed := true, recurses := true, apart := false, narrowed := true }
def KindsFoundUptoSaid : Prop := kindsFoundUptoRow.holds Try.pinned (OpenSpec.upto kindsFoundSpec)

/-- 'tableaulaw12.KindsApart', WHERE WHAT IT READS IS OF BULK AT MOST 1048576: true; the input reads as it did. -/
def kindsApartUptoRow : OpenClaim := { program := "ytifabdnjdadkbaa", sum := "87b2068d11cb64003c18a4d9fb0cd99dff087e439fb6489177754b6f3b354fff", func := "tableau/tableaulaw12.KindsApart", spec := "kindsApart", unfollowed := true, recurses := true, apart := false, narrowed := true }
def KindsApartUptoSaid : Prop := kindsApartUptoRow.holds Try.pinned (OpenSpec.upto kindsApartSpec)

end Rows
end Go.Proofs.Ytifabdnjdadkbaa
