/-
  DERIVED. GIVEN WITH THE SEED: THE CARDS: each row of YtabflfcdndioiabGreatDoorRows.lean that lists a variable, with what it lists TIED to the program's text (the seventh form; the later family's looks); each row that meets fmt, with fmt's text TOLD by the authors' own Lean function (tested against real Go, not proved from fmt's source: count such statements apart). THE CARD IS WHAT COUNTS. Prove the row's statement (the work); the ties are given (YtabflfcdndioiabGreatDoorTie.lean); close each card by the builder's one call (the guide's Derived/Test/ToyasCard.lean, 'card_holds'). Laid BY PROGRAM, IN A SANDBOX (cutbox-door.mjs). By AI agents, Wed Nov 11 2026. No macro, syntax, notation, axiom, sorry.
-/
import Derived.Test.YtabflfcdndioiabGreatDoorRows
import GoSem.ClaimSeven
namespace Go.Proofs.YtabflfcdndioiabGreatDoor
namespace Rows

/-- THE TIED CARD OF 'tableaulaw06.DeedFits'. -/
def deedFitsCard : Claim7 := { stood := { row := deedFitsRow, standIns := [], harness := (true, "cf9caffde2a71c2878c2f2c0ad2bdd3ba2ea5dd7f76c5f630be391f1cddcf7ea"), looks := false }, kinds := [], alts := [], laidByText := true, laidKinds := [.data, .data, .data], laidTests := true, laidLooks := .later }
def DeedFitsCardSaid : Prop := Claim7.holds Tryz.pinned (.plain (OpenSpec.ofChange deedFitsSpec)) deedFitsCard

/-- THE TIED CARD OF 'tableaulaw06.DeedBack'. -/
def deedBackCard : Claim7 := { stood := { row := deedBackRow, standIns := [], harness := (true, "cf9caffde2a71c2878c2f2c0ad2bdd3ba2ea5dd7f76c5f630be391f1cddcf7ea"), looks := false }, kinds := [], alts := [], laidByText := true, laidKinds := [.data, .data, .data], laidTests := true, laidLooks := .later }
def DeedBackCardSaid : Prop := Claim7.holds Tryz.pinned (.plain (OpenSpec.ofChange deedBackSpec)) deedBackCard

/-- THE TIED CARD OF 'tableaulaw06.DeedAdds'. -/
def deedAddsCard : Claim7 := { stood := { row := deedAddsRow, standIns := [], harness := (true, "cf9caffde2a71c2878c2f2c0ad2bdd3ba2ea5dd7f76c5f630be391f1cddcf7ea"), looks := false }, kinds := [], alts := [], laidByText := true, laidKinds := [.data, .data, .data], laidTests := true, laidLooks := .later }
def DeedAddsCardSaid : Prop := Claim7.holds Tryz.pinned (.plain (OpenSpec.ofChange deedAddsSpec)) deedAddsCard

/-- THE SECOND FORM's CARD OF 'tableaulaw06.DeedFits'. -/
def deedFitsUptoCard : Claim7 := { stood := { row := deedFitsUptoRow, standIns := [], harness := (true, "cf9caffde2a71c2878c2f2c0ad2bdd3ba2ea5dd7f76c5f630be391f1cddcf7ea"), looks := false }, kinds := [], alts := [], laidByText := true, laidKinds := [.data, .data, .data], laidTests := true, laidLooks := .later }
def DeedFitsUptoCardSaid : Prop := Claim7.holds Tryz.pinned (.plain (OpenSpec.upto deedFitsSpec)) deedFitsUptoCard

/-- THE SECOND FORM's CARD OF 'tableaulaw06.DeedBack'. -/
def deedBackUptoCard : Claim7 := { stood := { row := deedBackUptoRow, standIns := [], harness := (true, "cf9caffde2a71c2878c2f2c0ad2bdd3ba2ea5dd7f76c5f630be391f1cddcf7ea"), looks := false }, kinds := [], alts := [], laidByText := true, laidKinds := [.data, .data, .data], laidTests := true, laidLooks := .later }
def DeedBackUptoCardSaid : Prop := Claim7.holds Tryz.pinned (.plain (OpenSpec.upto deedBackSpec)) deedBackUptoCard

/-- THE SECOND FORM's CARD OF 'tableaulaw06.DeedAdds'. -/
def deedAddsUptoCard : Claim7 := { stood := { row := deedAddsUptoRow, standIns := [], harness := (true, "cf9caffde2a71c2878c2f2c0ad2bdd3ba2ea5dd7f76c5f630be391f1cddcf7ea"), looks := false }, kinds := [], alts := [], laidByText := true, laidKinds := [.data, .data, .data], laidTests := true, laidLooks := .later }
def DeedAddsUptoCardSaid : Prop := Claim7.holds Tryz.pinned (.plain (OpenSpec.upto deedAddsSpec)) deedAddsUptoCard
end Rows
end Go.Proofs.YtabflfcdndioiabGreatDoor
