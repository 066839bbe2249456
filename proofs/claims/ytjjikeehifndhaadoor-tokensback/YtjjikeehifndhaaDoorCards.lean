/-
  DERIVED. GIVEN WITH THE SEED: THE CARDS: each row of YtjjikeehifndhaaDoorRows.lean that lists a variable, with what it lists TIED to the program's text (the seventh form; the later family's looks); each row that meets fmt, with fmt's text TOLD by the authors' own Lean function (tested against real Go, not proved from fmt's source: count such statements apart). THE CARD IS WHAT COUNTS. Prove the row's statement (the work); the ties are given (YtjjikeehifndhaaDoorTie.lean); close each card by the builder's one call (the guide's Derived/Test/ToyasCard.lean, 'card_holds'). Laid BY PROGRAM, IN A SANDBOX (cutbox-door.mjs). By AI agents, Wed Nov 11 2026. No macro, syntax, notation, axiom, sorry.
-/
import Derived.Test.YtjjikeehifndhaaDoorRows
import GoSem.ClaimSeven
namespace Go.Proofs.YtjjikeehifndhaaDoor
namespace Rows

/-- THE TIED CARD OF 'tableaulaw08.TokensCuts'. -/
def tokensCutsCard : Claim7 := { stood := { row := tokensCutsRow, standIns := [], harness := (true, "deecc4119e50d718824de7a0656041013400350758d988ee6167d179ce28e3b1"), looks := true }, kinds := [], alts := [], laidByText := true, laidKinds := [.data, .data, .data, .sentinel, .sentinel], laidTests := true, laidLooks := .later }
def TokensCutsCardSaid : Prop := Claim7.holds Tryd.pinned (.plain (OpenSpec.ofChange tokensCutsSpec)) tokensCutsCard

/-- THE TIED CARD OF 'tableaulaw08.TokensLines'. -/
def tokensLinesCard : Claim7 := { stood := { row := tokensLinesRow, standIns := [], harness := (true, "deecc4119e50d718824de7a0656041013400350758d988ee6167d179ce28e3b1"), looks := true }, kinds := [], alts := [], laidByText := true, laidKinds := [.data, .data, .data, .sentinel, .sentinel], laidTests := true, laidLooks := .later }
def TokensLinesCardSaid : Prop := Claim7.holds Tryd.pinned (.plain (OpenSpec.ofChange tokensLinesSpec)) tokensLinesCard

/-- THE TIED CARD OF 'tableaulaw08.TokensTexts'. -/
def tokensTextsCard : Claim7 := { stood := { row := tokensTextsRow, standIns := [], harness := (true, "deecc4119e50d718824de7a0656041013400350758d988ee6167d179ce28e3b1"), looks := true }, kinds := [], alts := [], laidByText := true, laidKinds := [.data, .data, .data, .sentinel, .sentinel], laidTests := true, laidLooks := .later }
def TokensTextsCardSaid : Prop := Claim7.holds Tryd.pinned (.plain (OpenSpec.ofChange tokensTextsSpec)) tokensTextsCard

/-- THE TIED CARD OF 'tableaulaw08.TokensBack'. -/
def tokensBackCard : Claim7 := { stood := { row := tokensBackRow, standIns := [], harness := (true, "deecc4119e50d718824de7a0656041013400350758d988ee6167d179ce28e3b1"), looks := true }, kinds := [], alts := [], laidByText := true, laidKinds := [.data, .data, .data, .sentinel, .sentinel], laidTests := true, laidLooks := .later }
def TokensBackCardSaid : Prop := Claim7.holds Tryd.pinned (.plain (OpenSpec.ofChange tokensBackSpec)) tokensBackCard

/-- THE TIED CARD OF 'tableaulaw08.TokensStand'. -/
def tokensStandCard : Claim7 := { stood := { row := tokensStandRow, standIns := [], harness := (true, "deecc4119e50d718824de7a0656041013400350758d988ee6167d179ce28e3b1"), looks := true }, kinds := [], alts := [], laidByText := true, laidKinds := [.data, .data, .data, .sentinel, .sentinel], laidTests := true, laidLooks := .later }
def TokensStandCardSaid : Prop := Claim7.holds Tryd.pinned (.plain (OpenSpec.ofChange tokensStandSpec)) tokensStandCard

/-- THE TIED CARD OF 'tableaulaw08.TokensPlaces'. -/
def tokensPlacesCard : Claim7 := { stood := { row := tokensPlacesRow, standIns := [], harness := (true, "deecc4119e50d718824de7a0656041013400350758d988ee6167d179ce28e3b1"), looks := true }, kinds := [], alts := [], laidByText := true, laidKinds := [.data, .data, .data, .sentinel, .sentinel], laidTests := true, laidLooks := .later }
def TokensPlacesCardSaid : Prop := Claim7.holds Tryd.pinned (.plain (OpenSpec.ofChange tokensPlacesSpec)) tokensPlacesCard

/-- THE SECOND FORM's CARD OF 'tableaulaw08.TokensCuts'. -/
def tokensCutsUptoCard : Claim7 := { stood := { row := tokensCutsUptoRow, standIns := [], harness := (true, "deecc4119e50d718824de7a0656041013400350758d988ee6167d179ce28e3b1"), looks := true }, kinds := [], alts := [], laidByText := true, laidKinds := [.data, .data, .data, .sentinel, .sentinel], laidTests := true, laidLooks := .later }
def TokensCutsUptoCardSaid : Prop := Claim7.holds Tryd.pinned (.plain (OpenSpec.upto tokensCutsSpec)) tokensCutsUptoCard

/-- THE SECOND FORM's CARD OF 'tableaulaw08.TokensLines'. -/
def tokensLinesUptoCard : Claim7 := { stood := { row := tokensLinesUptoRow, standIns := [], harness := (true, "deecc4119e50d718824de7a0656041013400350758d988ee6167d179ce28e3b1"), looks := true }, kinds := [], alts := [], laidByText := true, laidKinds := [.data, .data, .data, .sentinel, .sentinel], laidTests := true, laidLooks := .later }
def TokensLinesUptoCardSaid : Prop := Claim7.holds Tryd.pinned (.plain (OpenSpec.upto tokensLinesSpec)) tokensLinesUptoCard

/-- THE SECOND FORM's CARD OF 'tableaulaw08.TokensTexts'. -/
def tokensTextsUptoCard : Claim7 := { stood := { row := tokensTextsUptoRow, standIns := [], harness := (true, "deecc4119e50d718824de7a0656041013400350758d988ee6167d179ce28e3b1"), looks := true }, kinds := [], alts := [], laidByText := true, laidKinds := [.data, .data, .data, .sentinel, .sentinel], laidTests := true, laidLooks := .later }
def TokensTextsUptoCardSaid : Prop := Claim7.holds Tryd.pinned (.plain (OpenSpec.upto tokensTextsSpec)) tokensTextsUptoCard

/-- THE SECOND FORM's CARD OF 'tableaulaw08.TokensBack'. -/
def tokensBackUptoCard : Claim7 := { stood := { row := tokensBackUptoRow, standIns := [], harness := (true, "deecc4119e50d718824de7a0656041013400350758d988ee6167d179ce28e3b1"), looks := true }, kinds := [], alts := [], laidByText := true, laidKinds := [.data, .data, .data, .sentinel, .sentinel], laidTests := true, laidLooks := .later }
def TokensBackUptoCardSaid : Prop := Claim7.holds Tryd.pinned (.plain (OpenSpec.upto tokensBackSpec)) tokensBackUptoCard

/-- THE SECOND FORM's CARD OF 'tableaulaw08.TokensStand'. -/
def tokensStandUptoCard : Claim7 := { stood := { row := tokensStandUptoRow, standIns := [], harness := (true, "deecc4119e50d718824de7a0656041013400350758d988ee6167d179ce28e3b1"), looks := true }, kinds := [], alts := [], laidByText := true, laidKinds := [.data, .data, .data, .sentinel, .sentinel], laidTests := true, laidLooks := .later }
def TokensStandUptoCardSaid : Prop := Claim7.holds Tryd.pinned (.plain (OpenSpec.upto tokensStandSpec)) tokensStandUptoCard

/-- THE SECOND FORM's CARD OF 'tableaulaw08.TokensPlaces'. -/
def tokensPlacesUptoCard : Claim7 := { stood := { row := tokensPlacesUptoRow, standIns := [], harness := (true, "deecc4119e50d718824de7a0656041013400350758d988ee6167d179ce28e3b1"), looks := true }, kinds := [], alts := [], laidByText := true, laidKinds := [.data, .data, .data, .sentinel, .sentinel], laidTests := true, laidLooks := .later }
def TokensPlacesUptoCardSaid : Prop := Claim7.holds Tryd.pinned (.plain (OpenSpec.upto tokensPlacesSpec)) tokensPlacesUptoCard
end Rows
end Go.Proofs.YtjjikeehifndhaaDoor
