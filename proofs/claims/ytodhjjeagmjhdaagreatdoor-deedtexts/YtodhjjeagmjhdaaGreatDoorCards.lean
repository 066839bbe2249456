/-
  DERIVED. GIVEN WITH THE SEED: THE CARDS: each row of YtodhjjeagmjhdaaGreatDoorRows.lean that lists a variable, with what it lists TIED to the program's text (the seventh form; the later family's looks); each row that meets fmt, with fmt's text TOLD by the authors' own Lean function (tested against real Go, not proved from fmt's source: count such statements apart). THE CARD IS WHAT COUNTS. Prove the row's statement (the work); the ties are given (YtodhjjeagmjhdaaGreatDoorTie.lean); close each card by the builder's one call (the guide's Derived/Test/ToyasCard.lean, 'card_holds'). Laid BY PROGRAM, IN A SANDBOX (cutbox-door.mjs). By AI agents, Wed Nov 11 2026. No macro, syntax, notation, axiom, sorry.
-/
import Derived.Test.YtodhjjeagmjhdaaGreatDoorRows
import GoSem.ClaimSeven
namespace Go.Proofs.YtodhjjeagmjhdaaGreatDoor
namespace Rows

/-- THE TIED CARD OF 'tableaulaw06.DeedApplies'. -/
def deedAppliesCard : Claim7 := { stood := { row := deedAppliesRow, standIns := [], harness := (true, "59f756f021c4c90a54f3b850f0f08ce44ab33c50a3308a56a7aff00362def548"), looks := false }, kinds := [], alts := [], laidByText := true, laidKinds := [.data, .data, .data], laidTests := true, laidLooks := .later }
def DeedAppliesCardSaid : Prop := Claim7.holds Tryz.pinned (.plain (OpenSpec.ofChange deedAppliesSpec)) deedAppliesCard

/-- THE TIED CARD OF 'tableaulaw06.DeedUndoes'. -/
def deedUndoesCard : Claim7 := { stood := { row := deedUndoesRow, standIns := [], harness := (true, "59f756f021c4c90a54f3b850f0f08ce44ab33c50a3308a56a7aff00362def548"), looks := false }, kinds := [], alts := [], laidByText := true, laidKinds := [.data, .data, .data], laidTests := true, laidLooks := .later }
def DeedUndoesCardSaid : Prop := Claim7.holds Tryz.pinned (.plain (OpenSpec.ofChange deedUndoesSpec)) deedUndoesCard

/-- THE TIED CARD OF 'tableaulaw06.DeedReplays'. -/
def deedReplaysCard : Claim7 := { stood := { row := deedReplaysRow, standIns := [], harness := (true, "59f756f021c4c90a54f3b850f0f08ce44ab33c50a3308a56a7aff00362def548"), looks := false }, kinds := [], alts := [], laidByText := true, laidKinds := [.data, .data, .data], laidTests := true, laidLooks := .later }
def DeedReplaysCardSaid : Prop := Claim7.holds Tryz.pinned (.plain (OpenSpec.ofChange deedReplaysSpec)) deedReplaysCard

/-- THE TIED CARD OF 'tableaulaw06.DeedMakes'. -/
def deedMakesCard : Claim7 := { stood := { row := deedMakesRow, standIns := [], harness := (true, "59f756f021c4c90a54f3b850f0f08ce44ab33c50a3308a56a7aff00362def548"), looks := false }, kinds := [], alts := [], laidByText := true, laidKinds := [.data, .data, .data], laidTests := true, laidLooks := .later }
def DeedMakesCardSaid : Prop := Claim7.holds Tryz.pinned (.plain (OpenSpec.ofChange deedMakesSpec)) deedMakesCard

/-- THE TIED CARD OF 'tableaulaw06.DeedTexts'. -/
def deedTextsCard : Claim7 := { stood := { row := deedTextsRow, standIns := [], harness := (true, "59f756f021c4c90a54f3b850f0f08ce44ab33c50a3308a56a7aff00362def548"), looks := false }, kinds := [], alts := [], laidByText := true, laidKinds := [.data, .data, .data], laidTests := true, laidLooks := .later }
def DeedTextsCardSaid : Prop := Claim7.holds Tryz.pinned (.plain (OpenSpec.ofChange deedTextsSpec)) deedTextsCard

/-- THE SECOND FORM's CARD OF 'tableaulaw06.DeedApplies'. -/
def deedAppliesUptoCard : Claim7 := { stood := { row := deedAppliesUptoRow, standIns := [], harness := (true, "59f756f021c4c90a54f3b850f0f08ce44ab33c50a3308a56a7aff00362def548"), looks := false }, kinds := [], alts := [], laidByText := true, laidKinds := [.data, .data, .data], laidTests := true, laidLooks := .later }
def DeedAppliesUptoCardSaid : Prop := Claim7.holds Tryz.pinned (.plain (OpenSpec.upto deedAppliesSpec)) deedAppliesUptoCard

/-- THE SECOND FORM's CARD OF 'tableaulaw06.DeedUndoes'. -/
def deedUndoesUptoCard : Claim7 := { stood := { row := deedUndoesUptoRow, standIns := [], harness := (true, "59f756f021c4c90a54f3b850f0f08ce44ab33c50a3308a56a7aff00362def548"), looks := false }, kinds := [], alts := [], laidByText := true, laidKinds := [.data, .data, .data], laidTests := true, laidLooks := .later }
def DeedUndoesUptoCardSaid : Prop := Claim7.holds Tryz.pinned (.plain (OpenSpec.upto deedUndoesSpec)) deedUndoesUptoCard

/-- THE SECOND FORM's CARD OF 'tableaulaw06.DeedReplays'. -/
def deedReplaysUptoCard : Claim7 := { stood := { row := deedReplaysUptoRow, standIns := [], harness := (true, "59f756f021c4c90a54f3b850f0f08ce44ab33c50a3308a56a7aff00362def548"), looks := false }, kinds := [], alts := [], laidByText := true, laidKinds := [.data, .data, .data], laidTests := true, laidLooks := .later }
def DeedReplaysUptoCardSaid : Prop := Claim7.holds Tryz.pinned (.plain (OpenSpec.upto deedReplaysSpec)) deedReplaysUptoCard

/-- THE SECOND FORM's CARD OF 'tableaulaw06.DeedMakes'. -/
def deedMakesUptoCard : Claim7 := { stood := { row := deedMakesUptoRow, standIns := [], harness := (true, "59f756f021c4c90a54f3b850f0f08ce44ab33c50a3308a56a7aff00362def548"), looks := false }, kinds := [], alts := [], laidByText := true, laidKinds := [.data, .data, .data], laidTests := true, laidLooks := .later }
def DeedMakesUptoCardSaid : Prop := Claim7.holds Tryz.pinned (.plain (OpenSpec.upto deedMakesSpec)) deedMakesUptoCard

/-- THE SECOND FORM's CARD OF 'tableaulaw06.DeedTexts'. -/
def deedTextsUptoCard : Claim7 := { stood := { row := deedTextsUptoRow, standIns := [], harness := (true, "59f756f021c4c90a54f3b850f0f08ce44ab33c50a3308a56a7aff00362def548"), looks := false }, kinds := [], alts := [], laidByText := true, laidKinds := [.data, .data, .data], laidTests := true, laidLooks := .later }
def DeedTextsUptoCardSaid : Prop := Claim7.holds Tryz.pinned (.plain (OpenSpec.upto deedTextsSpec)) deedTextsUptoCard
end Rows
end Go.Proofs.YtodhjjeagmjhdaaGreatDoor
